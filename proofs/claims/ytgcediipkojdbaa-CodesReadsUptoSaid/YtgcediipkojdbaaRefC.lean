/-
  Layer 1, the document's reader.
-/
import Derived.Test.YtgcediipkojdbaaRefB
import Derived.Outline
namespace Go.Proofs.Ytgcediipkojdbaa.bits
open Go.ChangeShapes Go.WideShapes Go.ChangeAt Go.RowKit
set_option linter.unusedVariables false

structure Rr (w : World) (Q : Nat) (F : Nat → Prop) (v : Value) (bs : List Bool) (p : Nat) : Prop where
  head : w.heap[Q]? = some (.cells #[v, .int .i64 (p : Int)] 29 (0, 0))
  row : w.ownsRow 0 4 1 v bs.length (bools bs)
  mine : F Q
  rowMine : ∀ g, v.ownBlock = some g → F g
  apart : v.ownBlock ≠ some Q
  le : p ≤ bs.length
  live : ∀ g, F g → g < w.heap.size

theorem Rr.kept {w w' : World} {Q : Nat} {F G : Nat → Prop} {v : Value} {bs : List Bool} {p : Nat} (h : Rr w Q F v bs p) (hc : Ch G w w') (hd : ∀ g, F g → ¬ G g) : Rr w' Q F v bs p :=
  ⟨by rw [hc.block Q (h.live Q h.mine) (hd Q h.mine)]; exact h.head, row_kept h.row hc fun g hg => hd g (h.rowMine g hg), h.mine, h.rowMine, h.apart, h.le, fun g hg => Nat.lt_of_lt_of_le (h.live g hg) hc.size⟩

theorem Rr.drewN {w : World} {Q : Nat} {F : Nat → Prop} {v : Value} {bs : List Bool} {p : Nat} (h : Rr w Q F v bs p) (n : Nat) : Rr (w.drewN n) Q F v bs p :=
  h.kept ((Ch.refl (fun _ => False) w).drewN n) fun _ _ h => h

theorem Rr.move {w : World} {Q : Nat} {F : Nat → Prop} {v : Value} {bs : List Bool} {p : Nat} (h : Rr w Q F v bs p) (c : Nat) (hc : c ≤ bs.length) : Rr (w.setCell ⟨Q, 1, none⟩ (.int .i64 (c : Int))) Q F v bs c ∧ Ch F w (w.setCell ⟨Q, 1, none⟩ (.int .i64 (c : Int))) :=
  ⟨⟨two_set1 h.head, ownsRow_setCell_other h.row h.apart _, h.mine, h.rowMine, h.apart, hc, fun g hg => by have := h.live g hg; simpa using this⟩, (Ch.refl F w).setCell (.inl h.mine) _⟩

theorem Rr.fin {w : World} {Q : Nat} {F : Nat → Prop} {v : Value} {bs : List Bool} {p : Nat} (h : Rr w Q F v bs p) (c : Nat) (hc : c ≤ bs.length) (y : Int) (hy : y = (c : Int)) (q : Nat) :
    Rr ((w.drewN q).setCell ⟨Q, 1, none⟩ (.int .i64 y)) Q F v bs c ∧ Ch F w ((w.drewN q).setCell ⟨Q, 1, none⟩ (.int .i64 y)) := by
  subst hy
  obtain ⟨h1, h2⟩ := (h.drewN q).move c hc
  exact ⟨h1, ((Ch.refl F w).drewN q).trans h2 fun g h => .inl h⟩

/-- the row's value -/
theorem Rr.val {w : World} {Q : Nat} {F : Nat → Prop} {v : Value} {bs : List Bool} {p : Nat} (h : Rr w Q F v bs p) :
    (v = .slice none 0 0 ∧ bs = []) ∨ ∃ g cap, v = .slice (some ⟨g, 0, none⟩) bs.length cap ∧ bs.length ≤ cap ∧ cap ≤ maxLen ∧ ∀ j, j < bs.length → w.cell? ⟨g, j, none⟩ = (bools bs)[j]? := by
  rcases h.row.2 with ⟨h1, h2⟩ | ⟨g, cap, cur, h1, _, _, h2, h3, _⟩
  · exact .inl ⟨h1, List.length_eq_zero_iff.1 h2⟩
  · subst h1
    exact .inr ⟨g, cap, rfl, h2, h3, fun j hj => h.row.cellAt j (by omega)⟩

theorem rrtake_arg (n : Int) (Q : Nat) (w : World) (hn : n < 0 ∨ 64 < n) : Calls Try.prog 48 #[.pointer (some ⟨Q, 0, none⟩), .int .i64 n] w fun e w' => e = .returned (.tuple #[.int .u64 0, .int .i64 1]) ∧ w = w' := by
  by_cases h1 : n < 0
  · clear hn
    go_enter Try.func48, Try.ntmps48
    go_wp2_with fail
    go_ret2
    exact ⟨rfl, rfl⟩
  · have h2 : 64 < n := by omega
    clear hn
    go_enter Try.func48, Try.ntmps48
    go_wp2_with fail
    go_ret2
    exact ⟨rfl, rfl⟩

theorem rrtake_form {w : World} {Q : Nat} {F : Nat → Prop} {v : Value} {bs : List Bool} {p : Nat} (h : Rr w Q F v bs p) (n : Nat) (hn : n ≤ 64) (hl : bs.length < p + n) (hb : bs.length ≤ 9223372036854775807) :
    Calls Try.prog 48 #[.pointer (some ⟨Q, 0, none⟩), .int .i64 n] w fun e w' => e = .returned (.tuple #[.int .u64 0, .int .i64 4]) ∧ ∃ q, w' = w.drewN q := by
  have hc0 := two_cell0 h.head
  have hc1 := two_cell1 h.head
  have hle := h.le
  rcases h.val with ⟨rfl, rfl⟩ | ⟨g, cap, rfl, _⟩
  · have hp0 : p = 0 := by simpa using hle
    subst hp0
    have h2 : (0 : Int) < (n : Int) := by simp only [List.length_nil] at hl; omega
    clear h hl hle
    go_enter Try.func48, Try.ntmps48
    go_wp2_with fail
    go_quiet (fail)
    go_wp2_with fail
    go_ret2
    exact ⟨rfl, _, rfl⟩
  · obtain ⟨len, hlen⟩ : ∃ len, len = bs.length := ⟨_, rfl⟩
    rw [← hlen] at hl hle hb hc0
    have e1 : IntKind.i64.wrap ((len : Int) - (p : Int)) = ((len - p : Nat) : Int) := by rw [show (len : Int) - (p : Int) = ((len - p : Nat) : Int) from by omega]; exact IntWalk.i64_in _ (by omega)
    have h2 : ((len - p : Nat) : Int) < (n : Int) := by omega
    clear h hl hlen
    go_enter Try.func48, Try.ntmps48
    go_wp2_with fail
    go_quiet (fail)
    go_wp2_with fail
    go_ret2
    exact ⟨rfl, _, rfl⟩

theorem quiet_plus_same {P : Program} {f : FuncId} {args : Array Value} {w : World} {a n : Nat} {v : Value} (h : Calls P f args (w.drewN (a + n)) fun e w' => e = .returned v ∧ w.drewN (a + n) = w') :
    Calls P f args (w.drewN (a + n)) fun e w'' => e = .returned v ∧ ∃ m, w'' = w.drewN (a + m) :=
  h.mono fun _ _ ⟨he, hm⟩ => ⟨he, n, hm.symm⟩

set_option maxHeartbeats 1000000 in
theorem rrtake_ok {w : World} {Q : Nat} {F : Nat → Prop} {v : Value} {bs : List Bool} {p : Nat} (h : Rr w Q F v bs p) (n : Nat) (hn : n ≤ 64) (hl : p + n ≤ bs.length) (hb : bs.length ≤ 9223372036854775000) :
    Calls Try.prog 48 #[.pointer (some ⟨Q, 0, none⟩), .int .i64 n] w fun e w' => e = .returned (.tuple #[.int .u64 (num ((bs.drop p).take n)), .int .i64 0]) ∧ Rr w' Q F v bs (p + n) ∧ Ch F w w' := by
  have hc0 := two_cell0 h.head
  have hc1 := two_cell1 h.head
  have hf1 := two_free h.head 1
  have hle := h.le
  have HR := Lib.hid h
  rcases h.val with ⟨rfl, rfl⟩ | ⟨g, cap, rfl, hcap, hmax, hcell⟩
  · have hp0 : p = 0 := by simpa using hle
    subst hp0
    have hn0 : n = 0 := by simp only [List.length_nil] at hl; omega
    subst hn0
    have HN : Hid (∀ (ao : Option Addr) (c : Nat) (W : World), Calls Try.prog 59 #[.slice ao 0 c] W fun e w' => e = .returned (.int .u64 0) ∧ W = w') :=
      Lib.hid fun ao c W => number_any ao [] c W (by simp) (fun i hi => by simp at hi)
    clear h hl hle
    go_enter Try.func48, Try.ntmps48
    go_wp2_with fail
    go_quiet (fail)
    go_wp2_with fail
    go_quiet ((go_at_call 59; exact quiet_plus_same (HN.out _ _ _)))
    go_wp2_with fail
    go_ret2
    exact ⟨rfl, HR.out.fin 0 (Nat.zero_le _) _ (by simp) _⟩
  · obtain ⟨len, hlen⟩ : ∃ len, len = bs.length := ⟨_, rfl⟩
    have HLE := Lib.hid hl
    rw [← hlen] at hl hle hb hc0 hcap hcell
    have e1 : IntKind.i64.wrap ((len : Int) - (p : Int)) = ((len - p : Nat) : Int) := by rw [show (len : Int) - (p : Int) = ((len - p : Nat) : Int) from by omega]; exact IntWalk.i64_in _ (by omega)
    have h2 : (n : Int) ≤ ((len - p : Nat) : Int) := by omega
    have hppi : (p : Int) ≤ (p : Int) + (n : Int) := by omega
    have hpni : (p : Int) + (n : Int) ≤ (cap : Int) := by omega
    have hmx : len ≤ 9223372036854775000 := hb
    have e2 : IntKind.i64.wrap ((p : Int) + (n : Int)) = (p : Int) + (n : Int) := IntWalk.i64_in _ (by omega)
    have hpn : p + n ≤ cap := by omega
    by_cases hn0 : n = 0
    · subst hn0
      have HN : Hid (∀ (ao : Option Addr) (c : Nat) (W : World), Calls Try.prog 59 #[.slice ao 0 c] W fun e w' => e = .returned (.int .u64 0) ∧ W = w') :=
        Lib.hid fun ao c W => number_any ao [] c W (by simp) (fun i hi => by simp at hi)
      clear h hl hlen
      by_cases hpc : cap = p
      · have hpc2 : p = cap := hpc.symm
        subst hpc2
        clear hpc
        go_enter Try.func48, Try.ntmps48
        go_wp2_with fail
        go_quiet (fail)
        go_wp2_with fail
        go_quiet ((go_at_call 59; exact quiet_plus_same (HN.out _ _ _)))
        go_wp2_with fail
        go_ret2
        exact ⟨rfl, HR.out.fin (p + 0) HLE.out _ (by simp) _⟩
      · have hpc2 : p < cap := by omega
        clear hpc
        go_enter Try.func48, Try.ntmps48
        go_wp2_with fail
        go_quiet (fail)
        go_wp2_with fail
        go_quiet ((go_at_call 59; exact quiet_plus_same (HN.out _ _ _)))
        go_wp2_with fail
        go_ret2
        exact ⟨rfl, HR.out.fin (p + 0) HLE.out _ (by simp) _⟩
    · have hpc2 : p < cap := by omega
      have hn1 : 0 < n := by omega
      have HN : Hid (∀ Q : Nat, Calls Try.prog 59 #[.slice (some ⟨g, p, none⟩) n (cap - p)] (w.drewN Q) fun e w' => e = .returned (.int .u64 (num ((bs.drop p).take n))) ∧ w.drewN Q = w') := Lib.hid fun Q => by
        have hle2 : ((bs.drop p).take n).length = n := by rw [List.length_take, List.length_drop]; omega
        have := number_any (some ⟨g, p, none⟩) ((bs.drop p).take n) (cap - p) (w.drewN Q) (by omega) (fun i hi => ⟨g, p, rfl, by
          rw [hle2] at hi
          show w.cell? ⟨g, p + i, none⟩ = _
          rw [hcell (p + i) (by omega)]
          simp [bools, hi]⟩)
        rw [hle2] at this
        exact this
      clear h hl hlen hn0
      go_enter Try.func48, Try.ntmps48
      go_wp2_with fail
      go_quiet (fail)
      go_wp2_with fail
      go_quiet ((go_at_call 59; exact quiet_plus_same (HN.out _)))
      go_wp2_with fail
      go_ret2
      exact ⟨rfl, HR.out.fin (p + n) HLE.out _ (by simp) _⟩

theorem rrbit_form {w : World} {Q : Nat} {F : Nat → Prop} {v : Value} {bs : List Bool} {p : Nat} (h : Rr w Q F v bs p) (hl : bs.length < p + 1) (hb : bs.length ≤ 9223372036854775807) :
    Calls Try.prog 58 #[.pointer (some ⟨Q, 0, none⟩)] w fun e w' => e = .returned (.tuple #[.bool false, .int .i64 4]) ∧ ∃ q, w' = w.drewN q := by
  have HT := Lib.hid (rrtake_form h 1 (by omega) hl hb)
  clear h hl hb
  go_enter Try.func58, Try.ntmps58
  go_wp2_with (go_at_call 48; refine HT.out.mono ?_; rintro e w' ⟨rfl, q, rfl⟩)
  go_ret2
  exact ⟨rfl, q, rfl⟩

theorem rrbit_ok {w : World} {Q : Nat} {F : Nat → Prop} {v : Value} {bs : List Bool} {p : Nat} (h : Rr w Q F v bs p) (hl : p + 1 ≤ bs.length) (hb : bs.length ≤ 9223372036854775000) :
    Calls Try.prog 58 #[.pointer (some ⟨Q, 0, none⟩)] w fun e w' => e = .returned (.tuple #[.bool (num ((bs.drop p).take 1) == 1), .int .i64 0]) ∧ Rr w' Q F v bs (p + 1) ∧ Ch F w w' := by
  have HT := Lib.hid (rrtake_ok h 1 (by omega) hl hb)
  clear h hl hb
  have HB : Hid ((((num ((bs.drop p).take 1) : Nat) : Int) == 1) = (num ((bs.drop p).take 1) == 1)) := Lib.hid (by rw [Bool.eq_iff_iff]; simp only [beq_iff_eq]; omega)
  obtain ⟨y, hy⟩ : ∃ y, y = num ((bs.drop p).take 1) := ⟨_, rfl⟩
  rw [← hy] at HB HT ⊢
  clear hy
  go_enter Try.func58, Try.ntmps58
  go_wp2_with (go_at_call 48; refine HT.out.mono ?_; rintro e w' ⟨rfl, hq⟩; have HQ := Lib.hid hq; clear hq)
  go_ret2
  exact ⟨by rw [← HB.out]; rfl, HQ.out⟩
end Go.Proofs.Ytgcediipkojdbaa.bits
