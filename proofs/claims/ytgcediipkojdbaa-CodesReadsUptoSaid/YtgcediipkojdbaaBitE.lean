/-
  Layer 1: the contracts of a writer's calls.
-/
import Derived.Test.YtgcediipkojdbaaBitD
namespace Go.Proofs.Ytgcediipkojdbaa.bits
open Go.ChangeShapes Go.WideShapes Go.ChangeAt Go.RowKit

theorem fits_any (v : Nat) (n : Int) (h1 : v < 18446744073709551616) (h2 : 0 ≤ n) (h3 : n ≤ 64) (w : World) :
    Calls Try.prog 54 #[.int .u64 v, .int .i64 n] w fun e w' => e = .returned (.bool (decide (v < 2 ^ n.toNat))) ∧ w = w' := by
  have HE : Hid (((v : Int) / 2 ^ n.toNat == 0) = decide (v < 2 ^ n.toNat)) := by
    show _ = _
    have hp : 0 < 2 ^ n.toNat := Nat.two_pow_pos _
    rw [show (v : Int) / 2 ^ n.toNat = ((v / 2 ^ n.toNat : Nat) : Int) from by simp, Bool.eq_iff_iff]
    simp only [beq_iff_eq, decide_eq_true_eq]
    constructor
    · intro h
      have h' : v / 2 ^ n.toNat = 0 := by omega
      rcases Nat.div_eq_zero_iff.1 h' with h | h
      · omega
      · exact h
    · intro h
      rw [Nat.div_eq_of_lt h]; rfl
  have h1' : (v : Int) ≤ 18446744073709551615 := by omega
  go_enter Try.func54, Try.ntmps54
  go_wp2
  go_ret
  exact ⟨by rw [← HE.out]; rfl, rfl⟩

theorem wput_nil (v n : Int) (w : World) : Calls Try.prog 39 #[.pointer none, .int .u64 v, .int .i64 n] w fun e w' => e = .returned (.int .i64 2) ∧ w = w' := by
  go_enter Try.func39, Try.ntmps39
  go_wp2_with fail
  go_ret
  exact ⟨rfl, rfl⟩

theorem wput_arg (v : Nat) (n : Int) (B : Nat) (w : World) (hv : v < 18446744073709551616) (h : n < 0 ∨ 64 < n ∨ 2 ^ n.toNat ≤ v) :
    Calls Try.prog 39 #[.pointer (some ⟨B, 0, none⟩), .int .u64 v, .int .i64 n] w fun e w' => e = .returned (.int .i64 1) ∧ w = w' := by
  by_cases h1 : n < 0
  · go_enter Try.func39, Try.ntmps39
    go_wp2_with fail
    go_ret
    exact ⟨rfl, rfl⟩
  · by_cases h2 : 64 < n
    · go_enter Try.func39, Try.ntmps39
      go_wp2_with fail
      go_ret
      exact ⟨rfl, rfl⟩
    · have h3 : 0 ≤ n := by omega
      have h4 : n ≤ 64 := by omega
      have hf := fits_any v n hv h3 h4
      rw [show decide (v < 2 ^ n.toNat) = false from by simp; omega] at hf
      clear h h1 h2
      go_enter Try.func39, Try.ntmps39
      go_wp2_with (go_at_call 54; refine (hf _).mono ?_; rintro e w' ⟨rfl, rfl⟩)
      go_ret
      exact ⟨rfl, rfl⟩

theorem wput_full (v : Nat) (n : Nat) (B : Nat) (F : Nat → Prop) (b : List Bool) (sv : Value) (L : List UInt8) (w : World) (hw : Wr w B F b sv L) (hn : n ≤ 64) (hv : v < 2 ^ n) (hmax : 134217728 < b.length + n) :
    Calls Try.prog 39 #[.pointer (some ⟨B, 0, none⟩), .int .u64 v, .int .i64 n] w fun e w' => e = .returned (.int .i64 3) ∧ w = w' := by
  have hf := fits_any v n (Nat.lt_of_lt_of_le hv (Nat.pow_le_pow_right (n := 2) (by omega) hn)) (by omega) (by omega)
  rw [show decide (v < 2 ^ (n : Int).toNat) = true from by simpa using hv] at hf
  have hc1 := two_cell1 hw.head
  have hm := hw.max
  obtain ⟨ln, hln⟩ : ∃ ln : Nat, ln = b.length := ⟨_, rfl⟩
  rw [← hln] at hc1 hm
  have h1 : ((134217728 : Int) - (ln : Int)) < (n : Int) := by omega
  clear hln hw hmax
  go_enter Try.func39, Try.ntmps39
  go_wp2_with (go_at_call 54; refine (hf _).mono ?_; rintro e w' ⟨rfl, rfl⟩)
  go_ret
  exact ⟨rfl, rfl⟩

theorem wput_ok (v : Nat) (n : Nat) (B : Nat) (F : Nat → Prop) (b : List Bool) (sv : Value) (L : List UInt8) (w : World) (hw : Wr w B F b sv L) (hn : n ≤ 64) (hv : v < 2 ^ n) (hmax : b.length + n ≤ 134217728) :
    Calls Try.prog 39 #[.pointer (some ⟨B, 0, none⟩), .int .u64 v, .int .i64 n] w fun e w' => e = .returned (.int .i64 0) ∧ ∃ F' sv' L', Wr w' B F' (b ++ ofNum v n) sv' L' ∧ Ch F w w' ∧ ∀ g, F' g → F g ∨ w.heap.size ≤ g := by
  have hf := fits_any v n (Nat.lt_of_lt_of_le hv (Nat.pow_le_pow_right (n := 2) (by omega) hn)) (by omega) (by omega)
  rw [show decide (v < 2 ^ (n : Int).toNat) = true from by simpa using hv] at hf
  have HP := Lib.hid (put_any v n B F b sv L w hw hn hv hmax)
  have hc1 := two_cell1 hw.head
  have hm := hw.max
  obtain ⟨ln, hln⟩ : ∃ ln : Nat, ln = b.length := ⟨_, rfl⟩
  rw [← hln] at hc1 hm
  have h1 : (n : Int) ≤ ((134217728 : Int) - (ln : Int)) := by omega
  clear hln hw hmax hv
  go_enter Try.func39, Try.ntmps39
  go_wp2_with (first | (go_at_call 54; refine (hf _).mono ?_; rintro e w' ⟨rfl, rfl⟩) | (go_at_call 55; refine HP.out.mono ?_; rintro e w' ⟨rfl, hq⟩; have HQ := Lib.hid hq; clear hq))
  go_ret
  exact ⟨rfl, HQ.out⟩
end Go.Proofs.Ytgcediipkojdbaa.bits
