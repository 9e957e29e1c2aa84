/-
  Layer 4, the document's Same; texts that lie in memory.
-/
import Derived.Test.YtjmjmekmaamclaaDoorDevP
namespace Go.Proofs.YtjmjmekmaamclaaDoor.dev
open Go.ChangeShapes Go.WideShapes Go.ChangeAt Go.RowKit mem
set_option linter.unusedVariables false

/-- a slice of texts, wherever it lies -/
def StrsIn (W : World) (v : Value) (xs : List ByteArray) : Prop :=
  ∃ ao cap, v = .slice ao xs.length cap ∧ ∀ i (hi : i < xs.length), ∃ b o, ao = some ⟨b, o, none⟩ ∧ W.cell? ⟨b, o + i, none⟩ = some (.string xs[i])

theorem strs_of_row {W : World} {E : TypeId} {v : Value} {n : Nat} {xs : List ByteArray} (h : W.ownsRow 0 E 1 v n (strs xs)) : StrsIn W v xs := by
  have hn : n = xs.length := by have := h.1; rw [strs_len] at this; omega
  subst hn
  rcases h.2 with ⟨h1, h2⟩ | ⟨g, cap, cur, hv, h3⟩
  · have : xs = [] := by
      cases xs with
      | nil => rfl
      | cons a b => cases h2
    subst this
    exact ⟨none, 0, h1, fun i hi => absurd hi (by simp)⟩
  · refine ⟨_, cap, hv, fun i hi => ⟨g, 0, rfl, ?_⟩⟩
    have hw : W.ownsRow 0 E 1 (.slice (some ⟨g, 0, none⟩) xs.length cap) xs.length (strs xs) := ⟨h.1, .inr ⟨g, cap, cur, rfl, h3⟩⟩
    rw [Nat.zero_add, hw.cellAt i (by omega), strs_at xs i hi, List.getD_eq_getElem?_getD, List.getElem?_eq_getElem hi]
    rfl
theorem strs_in {w wr : World} {As : List Ast} {E : TypeId} {v : Value} {n : Nat} {xs : List ByteArray} (h : St w wr (aRow E 1 v n (strs xs) :: As)) : StrsIn wr v xs := strs_of_row (st_row h)

theorem bytes_beq (x y : ByteArray) : (x.toList == y.toList) = decide (x = y) := by
  rw [ByteArray.toList_eq, ByteArray.toList_eq]
  by_cases h : x = y
  · subst h; simp
  · rw [decide_eq_false h, beq_eq_false_iff_ne]
    exact fun e => h (bytes_inj e)

theorem take_ne {xs ys : List ByteArray} (k : Nat) (h : k < xs.length) (h' : k < ys.length) (hne : ¬ xs[k] = ys[k]) : ¬ xs = ys := by
  intro e
  subst e
  exact hne rfl
theorem take_eq {xs ys : List ByteArray} (k : Nat) (h : k < xs.length) (h' : k < ys.length) (he : xs[k] = ys[k]) (ht : xs.take k = ys.take k) : xs.take (k + 1) = ys.take (k + 1) := by
  rw [List.take_succ_eq_append_getElem h, List.take_succ_eq_append_getElem h', ht, he]

theorem rsame_any (v v' : Value) (xs ys : List ByteArray) (w : World) (h : StrsIn w v xs) (h' : StrsIn w v' ys) (hl : xs.length ≤ 1073741824) (hl' : ys.length ≤ 1073741824) :
    Calls Tryd.prog 25 #[v, v'] w fun e w' => e = .returned (.bool (decide (xs = ys))) ∧ ∃ q, w' = w.drewN q := by
  obtain ⟨ao, cap, rfl, hc⟩ := h
  obtain ⟨bo, cap', rfl, hd⟩ := h'
  have HC := Lib.hid hc
  have HD := Lib.hid hd
  have l0 : (xs.length : Int) ≤ 1073741824 := by omega
  have l1 : (ys.length : Int) ≤ 1073741824 := by omega
  obtain ⟨B, hB⟩ : ∃ B, B = decide (xs = ys) := ⟨_, rfl⟩
  rw [← hB]
  have HB := Lib.hid hB
  clear hc hd hB
  by_cases e : xs.length = ys.length
  · have HE := Lib.hid e
    have t : ((xs.length : Int) != ys.length) = false := by rw [bne_eq_false_iff_eq]; omega
    rw [← e] at t l1
    have hk : (ys.length : Nat) = xs.length := e.symm
    clear e hl'
    go_enter Tryd.func25, Tryd.ntmps25
    rw [hk]
    clear hk
    go_wp2_with fail
    go_loopw [5] (fun i W => ∃ k : Nat, k ≤ xs.length ∧ i = .int .i64 ↑k ∧ xs.take k = ys.take k ∧ ∃ q, W = w.drewN q) (fun i _ => xs.length - (intOf i).toNat)
    case atStart => exact ⟨0, Nat.zero_le _, rfl, rfl, 0, rfl⟩
    case round =>
      obtain ⟨k, hk, rfl, hn, z, rfl⟩ := hrel
      have HN := Lib.hid hn
      clear hn
      by_cases hlt : k < xs.length
      · have hlt' : k < ys.length := by have := HE.out; omega
        obtain ⟨b, o, rfl, hcell⟩ := HC.out k hlt
        obtain ⟨b', o', rfl, hcell'⟩ := HD.out k hlt'
        have HX := Lib.hid fun hh => take_eq k hlt hlt' hh HN.out
        have HY := Lib.hid fun hh => take_ne k hlt hlt' hh
        generalize xs[k] = x at hcell HX HY
        generalize ys[k] = y at hcell' HX HY
        have tb := bytes_beq x y
        clear hlt'
        by_cases q : x = y
        · have HQ := Lib.hid (HX.out q)
          rw [decide_eq_true q] at tb
          clear HX HY q
          go_wp2_with fail
          go_quiet (fail)
          go_wp2_with fail
          go_round
          case rel => exact ⟨k + 1, by omega, by go_num, HQ.out, _, by first | rfl | rw [World.drewN_drewN]⟩
          case measure => simp [intOf] <;> omega
        · have HQ := Lib.hid (HY.out q)
          rw [decide_eq_false q] at tb
          clear HX HY q
          go_wp2_with fail
          go_quiet (fail)
          go_wp2_with fail
          go_ret
          exact ⟨by rw [HB.out, decide_eq_false HQ.out]; rfl, _, by first | rfl | rw [World.drewN_drewN]⟩
      · obtain rfl : k = xs.length := by omega
        have HQ : Hid (xs = ys) := Lib.hid (by
          have := HN.out
          rw [List.take_of_length_le (Nat.le_refl _), List.take_of_length_le (by have := HE.out; omega)] at this
          exact this)
        clear hlt hk
        go_wp2_with fail
        go_ret
        exact ⟨by rw [HB.out, decide_eq_true HQ.out]; rfl, _, rfl⟩
  · have t : ((xs.length : Int) != ys.length) = true := by rw [bne_iff_ne]; omega
    have HQ : Hid (¬ xs = ys) := Lib.hid fun hh => e (by rw [hh])
    clear e hl hl'
    go_enter Tryd.func25, Tryd.ntmps25
    go_wp2_with fail
    go_ret
    exact ⟨by rw [HB.out, decide_eq_false HQ.out]; rfl, 0, rfl⟩
end Go.Proofs.YtjmjmekmaamclaaDoor.dev
