/-
  Layer 1: the contract of the reader's closure (bitio.taker$1).
-/
import Derived.Test.YtgcediipkojdbaaRows
import Derived.Test.YtgcediipkojdbaaBits
import Derived.WalkKit
import Derived.ProofKit
import Derived.OpenShut
import Derived.Lib.Hide
import Derived.BigQuiet
import Derived.Deep.QuietTactic
namespace Go.Proofs.Ytgcediipkojdbaa.bits
open Go.ChangeShapes Go.WideShapes Go.ChangeAt Go.RowKit

/-- so many bits of a text, from a place on, as a number -/
def fld (s : ByteArray) (a n : Nat) : Nat := num (((bitsOf s.data.toList).drop a).take n)

theorem fld_lt (s : ByteArray) (a n : Nat) : fld s a n < 2 ^ n :=
  Nat.lt_of_lt_of_le (num_lt _) (Nat.pow_le_pow_right (by omega) (by simp; omega))

theorem fld_zero (s : ByteArray) (a : Nat) : fld s a 0 = 0 := by simp [fld, num]

theorem fld_step (s : ByteArray) (a k r j sh : Nat) (hj : j = (a + k) / 8) (hlt : j < s.size) (hsh : sh + r = 8 - (a + k) % 8) :
    fld s a (k + r) = fld s a k * 2 ^ r + (s[j]'hlt).toNat / 2 ^ sh % 2 ^ r := by
  subst hj
  have h := take_step s.data.toList a k r (by omega) (by simpa using hlt)
  rw [show 8 - (a + k) % 8 - r = sh from by omega] at h
  exact h

theorem mask_val (u c r sh : Nat) (hr : r ≤ 8) (hu : u * 2 ^ r + 2 ^ r ≤ 18446744073709551616) (hc : c < 256) :
    bits BinOp.or IntKind.u64 (IntKind.u64.wrap ((u : Int) * 2 ^ r)) (bits BinOp.and IntKind.u64 ((c / 2 ^ sh : Nat) : Int) (IntKind.u64.wrap (IntKind.u64.wrap (2 ^ r) - 1))) = ((u * 2 ^ r + c / 2 ^ sh % 2 ^ r : Nat) : Int) := by
  have hp : 0 < 2 ^ r := Nat.two_pow_pos r
  have hp2 : 2 ^ r ≤ 2 ^ 8 := Nat.pow_le_pow_right (by omega) hr
  have e1 : IntKind.u64.wrap (2 ^ r : Int) = ((2 ^ r : Nat) : Int) := by
    rw [PlainAid.u64_nonneg (by rw [show (2 ^ r : Int) = ((2 ^ r : Nat) : Int) from by simp]; omega) (by rw [show (2 ^ r : Int) = ((2 ^ r : Nat) : Int) from by simp]; omega)]; simp
  have e2 : IntKind.u64.wrap (((2 ^ r : Nat) : Int) - 1) = ((2 ^ r - 1 : Nat) : Int) := by
    rw [PlainAid.u64_nonneg (by omega) (by omega)]; omega
  have e3 : IntKind.u64.wrap ((u : Int) * 2 ^ r) = ((u * 2 ^ r : Nat) : Int) := by
    rw [show (u : Int) * 2 ^ r = ((u * 2 ^ r : Nat) : Int) from by simp]
    rw [PlainAid.u64_nonneg (by omega) (by omega)]
  have hd : c / 2 ^ sh < 256 := Nat.lt_of_le_of_lt (Nat.div_le_self _ _) hc
  rw [e1, e2, e3, u64_and_nat _ _ (by omega) (by omega), Nat.and_two_pow_sub_one_eq_mod]
  have hm : c / 2 ^ sh % 2 ^ r < 2 ^ r := Nat.mod_lt _ hp
  rw [u64_or_nat _ _ (by omega) (by omega), nat_join r _ _ (by rw [Nat.mul_mod_left]) hm]

set_option maxHeartbeats 400000 in
theorem take_any (s : ByteArray) (b : Nat) (at0 n0 : Nat) (w : World) (hs : s.size ≤ 1152921504606846975) (hb : w.cell? ⟨b, 0, none⟩ = some (.string s)) (hn : n0 ≤ 64) (hat : at0 + n0 ≤ 8 * s.size) :
    Calls Try.prog 43 #[.int .i64 at0, .int .i64 n0, .pointer (some ⟨b, 0, none⟩)] w fun e w' => e = .returned (.int .u64 (fld s at0 n0)) ∧ ∃ q, w' = w.drewN q := by
  go_enter Try.func43, Try.ntmps43
  go_wp2
  go_loopw [0, 1, 6] (fun a n v wr => ∃ k A N : Nat, k + N = n0 ∧ A = at0 + k ∧ a = .int .i64 ↑A ∧ n = .int .i64 ↑N ∧ v = .int .u64 (fld s at0 k) ∧ ∃ q, wr = w.drewN q) (fun _ n _ _ => (intOf n).toNat)
  case atStart => exact ⟨0, at0, n0, by omega, rfl, rfl, rfl, by rw [fld_zero]; rfl, 0, by rfl⟩
  case round =>
    obtain ⟨k, A, N, hkN, hA, rfl, rfl, rfl, ⟨q, rfl⟩⟩ := hrel
    have hAN : A + N ≤ 8 * s.size := by omega
    have HkN := Lib.hid hkN
    have HA := Lib.hid hA
    by_cases hlt : 0 < N
    · obtain ⟨j, hj⟩ : ∃ j : Nat, j = A / 8 := ⟨_, rfl⟩
      have e2 : IntKind.i64.wrap ((A : Int) / 8) = (j : Int) := by
        rw [show (A : Int) / 8 = (j : Int) from by omega]
        exact IntWalk.i64_in _ (by omega)
      have hix2 : j < s.size := by omega
      have hix3 : (j : Int) < s.size := by omega
      have hjA : j = (at0 + k) / 8 := by omega
      have HJ := Lib.hid hjA
      by_cases hroom : 8 - A % 8 ≤ N
      · obtain ⟨r, hr⟩ : ∃ r : Nat, r = 8 - A % 8 := ⟨_, rfl⟩
        have e1 : (8 : Int) - (A : Int) % 8 = (r : Int) := by omega
        have h1 : (r : Int) ≤ (N : Int) := by omega
        have h1' : r ≤ N := by omega
        have h1'' : r ≤ 8 := by omega
        have h1b : 0 < r := by omega
        have e3 : IntKind.i64.wrap ((r : Int) - (r : Int)) = 0 := by rw [Int.sub_self]; rfl
        have HS := Lib.hid (fld_step s at0 k r j 0 hjA hix2 (by omega))
        have hu := fld_lt s at0 k
        have HB := Lib.hid (show fld s at0 k * 2 ^ r + 2 ^ r ≤ 18446744073709551616 from by
          have h : (fld s at0 k + 1) * 2 ^ r ≤ 2 ^ k * 2 ^ r := Nat.mul_le_mul_right _ hu
          rw [← Nat.pow_add] at h
          have h2 : 2 ^ (k + r) ≤ 2 ^ 64 := Nat.pow_le_pow_right (by omega) (by omega)
          rw [Nat.add_mul] at h
          omega)
        clear hr hj hkN hA hu hjA
        go_wp2
        go_quiet (fail)
        go_wp2
        go_roundw
        case rel =>
          refine ⟨k + r, A + r, N - r, ?_, ?_, by simp, ?_, ?_, _, rfl⟩
          · have := HkN.out; omega
          · have := HA.out; omega
          · rw [Int.ofNat_sub h1']
          · rw [HS.out, ← mask_val (fld s at0 k) _ r 0 h1'' HB.out (UInt8.toNat_lt _)]
            rw [PlainAid.u64_nonneg (n := ((s[j].toNat : Nat) : Int)) (by omega) (by have := UInt8.toNat_lt s[j]; omega)]
            simp
        case measure => simp [intOf]; omega
      · obtain ⟨r, hr⟩ : ∃ r : Nat, r = 8 - A % 8 := ⟨_, rfl⟩
        have e1 : (8 : Int) - (A : Int) % 8 = (r : Int) := by omega
        have h1 : (N : Int) < (r : Int) := by omega
        have h1' : N ≤ r := by omega
        have h1'' : N ≤ 8 := by omega
        have h1b : 0 < r := by omega
        obtain ⟨sh, hsh⟩ : ∃ sh : Nat, sh = r - N := ⟨_, rfl⟩
        have e3 : IntKind.i64.wrap ((r : Int) - (N : Int)) = (sh : Int) := by rw [show (r : Int) - (N : Int) = (sh : Int) from by omega]; exact IntWalk.i64_in _ (by omega)
        have hsl : sh ≤ 8 := by omega
        have HS := Lib.hid (fld_step s at0 k N j sh hjA hix2 (by omega))
        have hu := fld_lt s at0 k
        have HB := Lib.hid (show fld s at0 k * 2 ^ N + 2 ^ N ≤ 18446744073709551616 from by
          have h : (fld s at0 k + 1) * 2 ^ N ≤ 2 ^ k * 2 ^ N := Nat.mul_le_mul_right _ hu
          rw [← Nat.pow_add] at h
          have h2 : 2 ^ (k + N) ≤ 2 ^ 64 := Nat.pow_le_pow_right (by omega) (by omega)
          rw [Nat.add_mul] at h
          omega)
        clear hr hj hkN hA hu hjA hsh
        go_wp2
        go_quiet (fail)
        go_wp2
        go_roundw
        case rel =>
          refine ⟨k + N, A + N, 0, ?_, ?_, by simp, ?_, ?_, _, rfl⟩
          · have := HkN.out; omega
          · have := HA.out; omega
          · simp
          · rw [HS.out, ← mask_val (fld s at0 k) _ N sh h1'' HB.out (UInt8.toNat_lt _)]
            rw [PlainAid.u64_nonneg (n := ((s[j].toNat : Nat) : Int)) (by omega) (by have := UInt8.toNat_lt s[j]; omega)]
            simp
        case measure => simp [intOf]; omega
    · obtain rfl : N = 0 := by omega
      have HF := Lib.hid (show k = n0 from by omega)
      clear hkN hA
      go_wp2
      go_ret
      exact ⟨by rw [HF.out]; rfl, q, rfl⟩
end Go.Proofs.Ytgcediipkojdbaa.bits
