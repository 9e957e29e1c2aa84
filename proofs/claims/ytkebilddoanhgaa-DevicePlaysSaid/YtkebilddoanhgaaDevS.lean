/-
  Layer 4, the document's device: Read, Restart, counted, has.
-/
import Derived.Test.YtkebilddoanhgaaDevR
namespace Go.Proofs.Ytkebilddoanhgaa.dev
open Go.ChangeShapes Go.WideShapes Go.ChangeAt Go.RowKit mem
set_option linter.unusedVariables false

theorem DevM.Ok.like {D E : DevM} (h : D.Ok) (h1 : E.nb = D.nb) (h2 : E.ns = D.ns) (h3 : E.safe = D.safe) (h4 : E.cache = D.cache) (h5 : E.plan = D.plan) : E.Ok := by
  obtain ⟨a, b, c, d, e, f, g, p⟩ := h
  exact ⟨by rw [h1]; exact a, by rw [h1]; exact b, by rw [h2]; exact c, by rw [h2]; exact d, by rw [h1, h3]; exact e, by rw [h3, h2]; exact f, by rw [h4, h1, h2]; exact g, by rw [h5]; exact p⟩

section
variable {w wr : World} {As : List Ast} {X : Nat} {D : DevM} {r : RRep}

/-- a counter of its head is stored -/
theorem rdev_reads (h : St w wr (rParts X D r ++ As)) (k : Nat) : St w (wr.setCell ⟨X, 10, none⟩ (.int .i64 (k : Int))) (rParts X { D with reads := k } r ++ As) := st_set h 10 _
theorem rdev_calls (h : St w wr (rParts X D r ++ As)) (k : Nat) : St w (wr.setCell ⟨X, 9, none⟩ (.int .i64 (k : Int))) (rParts X { D with calls := k } r ++ As) := st_set h 9 _
theorem rdev_down (h : St w wr (rParts X D r ++ As)) (b : Bool) : St w (wr.setCell ⟨X, 8, none⟩ (.bool b)) (rParts X { D with down := b } r ++ As) := st_set h 8 _
theorem rdev_at (h : St w wr (rParts X D r ++ As)) (k : Nat) : St w (wr.setCell ⟨X, 4, none⟩ (.int .i64 (k : Int))) (rParts X D { r with at' := k } ++ As) := st_set h 4 _

theorem rread_any (h : St w wr (rDev X D :: As)) (n : Int) (hR : D.Room 1) :
    Calls Try.prog 26 #[.pointer (some ⟨X, 0, none⟩), .int .i64 n] wr fun e w' => e = .returned (.tuple #[.string (D.read n).2.1, .int .i64 (D.read n).2.2]) ∧ St w w' (rDev X (D.read n).1 :: As) := by
  obtain ⟨r, a, h1⟩ := rdev_open h
  have hS := rsees a h1
  have c8 := hS.c8
  have c0 := hS.c0
  have c10 := hS.c10
  have hfr := hS.fr 10
  unfold DevM.read
  by_cases d : D.down = true
  · rw [if_pos d]
    rw [d] at c8
    clear hS c0 c10 hfr d
    go_enter Try.func26, Try.ntmps26
    go_wp2_with fail
    go_ret2
    exact ⟨rfl, h⟩
  · rw [if_neg d]
    have d' : D.down = false := by simpa using d
    rw [d'] at c8
    by_cases c : isBlock D n
    · rw [if_pos c]
      obtain ⟨m, rfl⟩ := Int.eq_ofNat_of_zero_le c.1
      have hm : m < D.nb := by have := c.2; omega
      rw [Int.toNat_natCast]
      have h2 := rdev_reads h1 (D.reads + 1)
      have a2 : RKnown { D with reads := D.reads + 1 } r := ⟨a.1.like rfl rfl rfl rfl rfl, a.2⟩
      have HN := Lib.hid (rnow_any X _ r m _ a2.1 (rsees a2 h2) hm (by have := hR.cache; show D.cache.length ≤ _; omega))
      have H2 := Lib.hid (rdev_shut r a2 h2)
      have hr := hR.reads
      have m0 : (0 : Int) ≤ m := by omega
      have m1 : (m : Int) < D.nb := by omega
      have e1 : IntKind.i64.wrap ((D.reads : Int) + 1) = ((D.reads + 1 : Nat) : Int) := by rw [IntKind.wrap_i64]; omega
      have r0 : (D.reads : Int) ≤ 4611686018427387904 := by omega
      rw [show ((D.reads + 1 : Nat) : Int) = (D.reads : Int) + 1 from by simp] at HN H2
      clear hS h h1 h2 a a2 c d d' hR hr hm
      go_enter Try.func26, Try.ntmps26
      go_wp2_with (go_at_call 57; refine HN.out.mono ?_; rintro e w' ⟨rfl, rfl⟩)
      go_ret2
      exact ⟨rfl, H2.out⟩
    · rw [if_neg c]
      by_cases c1 : n < 0
      · clear hS c0 c10 hfr c d d'
        go_enter Try.func26, Try.ntmps26
        go_wp2_with fail
        go_ret2
        exact ⟨rfl, h⟩
      · have c2 : (D.nb : Int) ≤ n := by unfold isBlock at c; omega
        have c3 : 0 ≤ n := by omega
        clear hS c10 hfr c c1 d d'
        go_enter Try.func26, Try.ntmps26
        go_wp2_with fail
        go_ret2
        exact ⟨rfl, h⟩

theorem rrestart_any (h : St w wr (rDev X D :: As)) :
    Calls Try.prog 32 #[.pointer (some ⟨X, 0, none⟩)] wr fun e w' => e = .returned (.int .i64 D.restart.2) ∧ St w w' (rDev X D.restart.1 :: As) := by
  obtain ⟨r, a, h1⟩ := rdev_open h
  have hS := rsees a h1
  have c8 := hS.c8
  have hfr := hS.fr 8
  unfold DevM.restart
  by_cases d : D.down = true
  · rw [if_pos d]
    rw [d] at c8
    have H2 := Lib.hid (rdev_shut r (⟨a.1.like rfl rfl rfl rfl rfl, a.2⟩ : RKnown { D with down := false } r) (rdev_down h1 false))
    clear hS d h h1 a
    go_enter Try.func32, Try.ntmps32
    go_wp2_with fail
    go_ret
    exact ⟨rfl, H2.out⟩
  · rw [if_neg d]
    have d' : D.down = false := by simpa using d
    rw [d'] at c8
    clear hS d d'
    go_enter Try.func32, Try.ntmps32
    go_wp2_with fail
    go_ret
    exact ⟨rfl, h⟩
end

/-- a slice of ints, wherever it lies -/
def IntsIn (W : World) (v : Value) (ks : List Int) : Prop :=
  ∃ ao cap, v = .slice ao ks.length cap ∧ ∀ i (hi : i < ks.length), ∃ b o, ao = some ⟨b, o, none⟩ ∧ W.cell? ⟨b, o + i, none⟩ = some (.int .i64 (ks[i]))

theorem mem_take_more (ks : List Int) (k : Nat) (n : Int) (h : k < ks.length) : n ∈ ks.take (k + 1) ↔ n ∈ ks.take k ∨ n = ks[k] := by
  rw [List.take_succ_eq_append_getElem h, List.mem_append, List.mem_singleton]

theorem rhas_any (v : Value) (ks : List Int) (n : Int) (w : World) (h : IntsIn w v ks) (hl : ks.length ≤ 17592186043904) :
    Calls Try.prog 67 #[v, .int .i64 n] w fun e w' => e = .returned (.bool (decide (n ∈ ks))) ∧ w = w' := by
  obtain ⟨ao, cap, rfl, hc⟩ := h
  have HC := Lib.hid hc
  have l0 : (ks.length : Int) ≤ 17592186043904 := by omega
  clear hc
  go_enter Try.func67, Try.ntmps67
  go_wp2_with fail
  go_loop [5] (fun i => ∃ k : Nat, k ≤ ks.length ∧ i = .int .i64 ↑k ∧ ¬ n ∈ ks.take k) (fun i => ks.length - (intOf i).toNat)
  case atStart => exact ⟨0, Nat.zero_le _, rfl, by simp⟩
  case round =>
    obtain ⟨k, hk, rfl, hn⟩ := hrel
    have HN := Lib.hid hn
    clear hn
    by_cases hlt : k < ks.length
    · obtain ⟨b, o, rfl, hcell⟩ := HC.out k hlt
      have HM := Lib.hid (mem_take_more ks k n hlt)
      have HI := Lib.hid (List.getElem_mem hlt)
      generalize ks[k] = x at hcell HM HI
      by_cases e : x = n
      · subst e
        have HT : Hid (decide (x ∈ ks) = true) := Lib.hid (decide_eq_true HI.out)
        clear HM HI
        go_wp2_with fail
        go_ret
        exact ⟨by rw [HT.out]; rfl, rfl⟩
      · have t : (x == n) = false := by rw [beq_eq_false_iff_ne]; exact e
        have HX : Hid (¬ n ∈ ks.take (k + 1)) := Lib.hid fun h => by
          rcases HM.out.1 h with h | h
          · exact HN.out h
          · exact e h.symm
        clear e HM HI
        go_wp2_with fail
        go_round
        case rel => exact ⟨k + 1, by omega, by go_num, HX.out⟩
        case measure => simp [intOf] <;> omega
    · obtain rfl : k = ks.length := by omega
      rw [List.take_of_length_le (Nat.le_refl _)] at HN
      clear hlt hk
      go_wp2_with fail
      go_ret
      exact ⟨by rw [decide_eq_false HN.out]; rfl, rfl⟩
end Go.Proofs.Ytkebilddoanhgaa.dev
