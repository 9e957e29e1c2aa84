/-
  Layer 2: the contracts of Len64, log, minimalWidth, zetaCount.
-/
import Derived.Test.YtgcediipkojdbaaBitR
import Derived.Test.YtgcediipkojdbaaSpell
import Derived.Outline
namespace Go.Proofs.Ytgcediipkojdbaa.bits
open Go.ChangeShapes Go.WideShapes Go.ChangeAt Go.RowKit
set_option linter.unusedVariables false

/-- bits.Len64 -/
def blen (x : Nat) : Nat := if x = 0 then 0 else x.log2 + 1

theorem blen_shift {x k : Nat} (h : 2 ^ k ≤ x) : blen x = blen (x / 2 ^ k) + k := by
  have hp := Nat.two_pow_pos k
  have h1 : 1 ≤ x / 2 ^ k := (Nat.one_le_div_iff hp).2 h
  have a := Nat.log2_self_le (n := x / 2 ^ k) (by omega)
  have c := @Nat.lt_log2_self (x / 2 ^ k)
  unfold blen
  rw [if_neg (by omega), if_neg (by omega)]
  have e : x.log2 = (x / 2 ^ k).log2 + k := by
    apply log2_is
    · rw [Nat.pow_add]
      exact Nat.le_trans (Nat.mul_le_mul_right _ a) (Nat.div_mul_le_self x _)
    · rw [show (x / 2 ^ k).log2 + k + 1 = (x / 2 ^ k).log2 + 1 + k from by omega, Nat.pow_add]
      exact (Nat.div_lt_iff_lt_mul hp).1 c
  omega

/-- the table of the lengths of all bytes -/
def tab8 : ByteArray := ⟨#[0, 1, 2, 2, 3, 3, 3, 3, 4, 4, 4, 4, 4, 4, 4, 4, 5, 5, 5, 5, 5, 5, 5, 5, 5, 5, 5, 5, 5, 5, 5, 5, 6, 6, 6, 6, 6, 6, 6, 6, 6, 6, 6, 6, 6, 6, 6, 6, 6, 6, 6, 6, 6, 6, 6, 6, 6, 6, 6, 6, 6, 6, 6, 6, 7, 7, 7, 7, 7, 7, 7, 7, 7, 7, 7, 7, 7, 7, 7, 7, 7, 7, 7, 7, 7, 7, 7, 7, 7, 7, 7, 7, 7, 7, 7, 7, 7, 7, 7, 7, 7, 7, 7, 7, 7, 7, 7, 7, 7, 7, 7, 7, 7, 7, 7, 7, 7, 7, 7, 7, 7, 7, 7, 7, 7, 7, 7, 7, 8, 8, 8, 8, 8, 8, 8, 8, 8, 8, 8, 8, 8, 8, 8, 8, 8, 8, 8, 8, 8, 8, 8, 8, 8, 8, 8, 8, 8, 8, 8, 8, 8, 8, 8, 8, 8, 8, 8, 8, 8, 8, 8, 8, 8, 8, 8, 8, 8, 8, 8, 8, 8, 8, 8, 8, 8, 8, 8, 8, 8, 8, 8, 8, 8, 8, 8, 8, 8, 8, 8, 8, 8, 8, 8, 8, 8, 8, 8, 8, 8, 8, 8, 8, 8, 8, 8, 8, 8, 8, 8, 8, 8, 8, 8, 8, 8, 8, 8, 8, 8, 8, 8, 8, 8, 8, 8, 8, 8, 8, 8, 8, 8, 8, 8, 8, 8, 8, 8, 8, 8, 8, 8, 8, 8, 8, 8, 8]⟩
set_option maxRecDepth 100000 in
theorem tab_all : ∀ i : Fin 256, (tab8.data[i.val]!).toNat = blen i.val := by decide +kernel
theorem tab_size : tab8.size = 256 := by decide +kernel
set_option maxRecDepth 100000 in
theorem tab_at (i : Nat) (h : i < tab8.size) : (tab8[i]'h).toNat = blen i := by
  have h2 : i < 256 := by rw [← tab_size]; exact h
  have e := tab_all ⟨i, h2⟩
  rw [← e]
  show (tab8.data[i]'h).toNat = _
  rw [getElem!_pos tab8.data i h]
theorem blen_le {x n : Nat} (h : x < 2 ^ n) : blen x ≤ n := by
  unfold blen
  split
  · omega
  · rename_i h0
    have a := Nat.log2_self_le h0
    exact (Nat.pow_lt_pow_iff_right (a := 2) (by omega)).1 (Nat.lt_of_le_of_lt a h)

theorem log2_lt64 {n : Nat} (h0 : 1 ≤ n) (h : n ≤ 18446744073709551615) : n.log2 < 65 := by
  have a := Nat.log2_self_le (n := n) (by omega)
  have : 2 ^ n.log2 < 2 ^ 65 := by omega
  exact (Nat.pow_lt_pow_iff_right (a := 2) (by omega)).1 this

theorem tab_close0 {x : Int} {k : Nat} {y : Int} (h0 : 0 ≤ x) (hk : (2 : Int) ^ k ≤ x ∨ k = 0) (k64 : k ≤ 56) (hy : y = x / 2 ^ k) (h8 : y < 256) :
    wrap64 ((k : Int) + wrap64 ((blen y.toNat : Nat) : Int)) = ((blen x.toNat : Nat) : Int) := by
  obtain ⟨n, rfl⟩ := Int.eq_ofNat_of_zero_le h0
  have e0 : ((n : Int) / 2 ^ k) = ((n / 2 ^ k : Nat) : Int) := by simp
  rw [e0] at hy
  subst hy
  rw [Int.toNat_natCast, Int.toNat_natCast]
  have b8 : blen (n / 2 ^ k) ≤ 8 := blen_le (n := 8) (by omega)
  have s : blen n = blen (n / 2 ^ k) + k := by
    rcases hk with hk | rfl
    · refine blen_shift ?_
      have : ((2 ^ k : Nat) : Int) ≤ (n : Int) := by simpa using hk
      omega
    · simp
  rw [s]
  simp only [wrap64]
  omega
theorem tab_close {x : Int} {k : Nat} {y : Int} (h0 : 0 ≤ x) (hk : (2 : Int) ^ k ≤ x ∨ k = 0) (k64 : k ≤ 56) (hy : y = x / 2 ^ k) (h8 : y < 256) (hl : y.toNat < tab8.size) :
    wrap64 ((k : Int) + wrap64 (((tab8[y.toNat]'hl).toNat : Nat) : Int)) = ((blen x.toNat : Nat) : Int) := by
  rw [tab_at]
  clear hl
  exact tab_close0 h0 hk k64 hy h8

set_option maxRecDepth 100000 in
set_option maxHeartbeats 4000000 in
theorem len64_int (x : Int) (w : World) (h0 : 0 ≤ x) (h1 : x ≤ 18446744073709551615) :
    Calls Try.prog 57 #[.int .u64 x] w fun e w' => e = .returned (.int .i64 (blen x.toNat)) ∧ w = w' := by
  go_enter Try.func57, Try.ntmps57
  go_wp2
  all_goals (go_ret; refine ⟨congrArg Ending.returned (congrArg (Value.int IntKind.i64) ?_), rfl⟩)
  · exact tab_close (k := 56) h0 (by omega) (by omega) (by omega) (by omega) _
  · exact tab_close (k := 48) h0 (by omega) (by omega) (by omega) (by omega) _
  · exact tab_close (k := 40) h0 (by omega) (by omega) (by omega) (by omega) _
  · exact tab_close (k := 32) h0 (by omega) (by omega) (by omega) (by omega) _
  · exact tab_close (k := 24) h0 (by omega) (by omega) (by omega) (by omega) _
  · exact tab_close (k := 16) h0 (by omega) (by omega) (by omega) (by omega) _
  · exact tab_close (k := 8) h0 (by omega) (by omega) (by omega) (by omega) _
  · have := tab_close (k := 0) h0 (.inr rfl) (by omega) (by simp) (y := x) (by omega) (by rw [tab_size]; omega)
    rw [Int.natCast_zero, Int.zero_add] at this
    exact this

theorem log_any (n : Nat) (w : World) (h0 : 1 ≤ n) (h : n ≤ 18446744073709551615) :
    Calls Try.prog 52 #[.int .u64 n] w fun e w' => e = .returned (.int .i64 n.log2) ∧ w = w' := by
  have HL := Lib.hid (len64_int n w (by omega) (by omega))
  have hb : blen (n : Int).toNat = n.log2 + 1 := by unfold blen; rw [if_neg (by simp; omega)]; simp
  rw [hb] at HL
  have hb2 : n.log2 ≤ 64 := Nat.le_of_lt_succ (log2_lt64 (by omega) h)
  generalize n.log2 = b at HL hb2 ⊢
  clear hb
  go_enter Try.func52, Try.ntmps52
  go_wp2_with (go_at_call 57; refine HL.out.mono ?_; rintro e w' ⟨rfl, rfl⟩)
  go_ret
  exact ⟨by simp, rfl⟩

theorem width_any (k : Nat) (w : World) (h0 : 1 ≤ k) (h : k ≤ 9223372036854775808) :
    Calls Try.prog 46 #[.int .u64 k] w fun e w' => e = .returned (.tuple #[.int .i64 (wid k), .int .u64 ((2 ^ wid k - k : Nat) : Int)]) ∧ ∃ q, w' = w.drewN q := by
  have HL := Lib.hid (len64_int ((k : Int) - 1) w (by omega) (by omega))
  have hb : blen ((k : Int) - 1).toNat = wid k := by
    unfold blen wid
    rw [show ((k : Int) - 1).toNat = k - 1 from by omega]
    by_cases c : k ≤ 1
    · rw [if_pos (by omega), if_pos c]
    · rw [if_neg (by omega), if_neg c]
  rw [hb] at HL
  have hw : wid k ≤ 63 := wid_le (n := 63) (by omega)
  have hh := wid_hi h0
  have HE : Hid (IntKind.u64.wrap (IntKind.u64.wrap (2 ^ wid k) - (k : Int)) = ((2 ^ wid k - k : Nat) : Int)) := Lib.hid (by
    have hp : 2 ^ wid k ≤ 2 ^ 63 := Nat.pow_le_pow_right (by omega) hw
    have e1 : (2 ^ wid k : Int) = ((2 ^ wid k : Nat) : Int) := by simp
    rw [e1, PlainAid.u64_nonneg (n := ((2 ^ wid k : Nat) : Int)) (by omega) (by omega), PlainAid.u64_nonneg (by omega) (by omega)]
    omega)
  obtain ⟨s, hs⟩ : ∃ s, s = wid k := ⟨_, rfl⟩
  rw [← hs] at HL HE hw ⊢
  clear hb hh hs
  have hk1 : (1 : Int) ≤ (k : Int) := by omega
  have hk2 : (k : Int) ≤ 9223372036854775808 := by omega
  clear h0 h
  go_enter Try.func46, Try.ntmps46
  go_wp2_with (go_at_call 57; refine HL.out.mono ?_; rintro e w' ⟨rfl, rfl⟩)
  go_quiet (fail)
  go_wp2_with fail
  go_ret2
  exact ⟨by rw [← HE.out]; rfl, _, rfl⟩
end Go.Proofs.Ytgcediipkojdbaa.bits
