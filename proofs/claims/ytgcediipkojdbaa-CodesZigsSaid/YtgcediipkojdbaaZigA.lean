/-
  Layer 2: Zig and Zag.
-/
import Derived.Test.YtgcediipkojdbaaCodeO
import Derived.Lib.Zigzag
import Derived.Outline
namespace Go.Proofs.Ytgcediipkojdbaa.bits
open Go.ChangeShapes Go.WideShapes Go.ChangeAt Go.RowKit
set_option linter.unusedVariables false

def zigv (x : Int) : Int := if 0 ≤ x then 2 * x else -2 * x - 1
def zagv (u : Int) : Int := if u % 2 = 0 then u / 2 else -(u / 2) - 1

theorem xor64_zero (a : Nat) (ha : a < 18446744073709551616) : bits .xor .u64 (a : Int) 0 = (a : Int) := by
  rw [show (0 : Int) = ((0 : Nat) : Int) from rfl, bits_xor_u64_nat _ _ ha (by omega), Nat.xor_zero]
theorem xor64_ones (a : Nat) (ha : a < 18446744073709551616) : bits .xor .u64 (a : Int) 18446744073709551615 = 18446744073709551615 - (a : Int) := by
  rw [show (18446744073709551615 : Int) = ((2 ^ 64 - 1 : Nat) : Int) from rfl, bits_xor_u64_nat _ _ ha (by omega), Nat.xor_comm, Lib.xor_ones64 _ (by omega)]
  omega
theorem xori_toNat (a : Nat) (ha : a < 9223372036854775808) : (BitVec.ofInt 64 (a : Int)).toNat = a := by
  rw [BitVec.ofInt_natCast, BitVec.toNat_ofNat]; exact Nat.mod_eq_of_lt (by omega)
theorem xori_zero (a : Nat) (ha : a < 9223372036854775808) : bits .xor .i64 (a : Int) 0 = (a : Int) := by
  show IntKind.i64.wrap ((BitVec.ofInt 64 (a : Int) ^^^ BitVec.ofInt 64 0).toNat : Int) = _
  rw [BitVec.toNat_xor, xori_toNat a ha, show (BitVec.ofInt 64 0).toNat = 0 from rfl, Nat.xor_zero, IntKind.wrap_i64]
  omega
theorem xori_ones (a : Nat) (ha : a < 9223372036854775808) : bits .xor .i64 (a : Int) (-1) = -(a : Int) - 1 := by
  show IntKind.i64.wrap ((BitVec.ofInt 64 (a : Int) ^^^ BitVec.ofInt 64 (-1)).toNat : Int) = _
  rw [BitVec.toNat_xor, xori_toNat a ha, show (BitVec.ofInt 64 (-1)).toNat = 2 ^ 64 - 1 from rfl, Nat.xor_comm, Lib.xor_ones64 _ (by omega), IntKind.wrap_i64]
  omega

theorem zig_val (x : Int) (h0 : -9223372036854775808 ≤ x) (h1 : x ≤ 9223372036854775807) :
    bits BinOp.xor IntKind.u64 (IntKind.u64.wrap (IntKind.u64.wrap x * 2)) (IntKind.u64.wrap (x / 9223372036854775808)) = zigv x := by
  unfold zigv
  by_cases c : 0 ≤ x
  · rw [if_pos c, show x / 9223372036854775808 = 0 from by omega]
    obtain ⟨n, rfl⟩ := Int.eq_ofNat_of_zero_le c
    rw [u64_nat (m := n) (by omega), show ((n : Int) * 2) = ((n * 2 : Nat) : Int) from by simp, u64_nat (by omega), show IntKind.u64.wrap 0 = 0 from rfl, xor64_zero _ (by omega)]
    omega
  · rw [if_neg c, show x / 9223372036854775808 = -1 from by omega, show IntKind.u64.wrap (-1) = 18446744073709551615 from rfl]
    have e1 : IntKind.u64.wrap (IntKind.u64.wrap x * 2) = (((2 * x + 18446744073709551616).toNat : Nat) : Int) := by
      rw [IntKind.wrap_u64, IntKind.wrap_u64]
      omega
    rw [e1, xor64_ones _ (by omega)]
    omega

theorem zag_val (u : Int) (h0 : 0 ≤ u) (h1 : u ≤ 18446744073709551615) :
    bits BinOp.xor IntKind.i64 (u / 2) (wrap64 (-wrap64 (bits BinOp.and IntKind.u64 u 1))) = zagv u := by
  rw [Lib.u64_and1 u h0 (by omega)]
  unfold zagv
  obtain ⟨n, hn⟩ := Int.eq_ofNat_of_zero_le (show 0 ≤ u / 2 from by omega)
  by_cases c : u % 2 = 0
  · rw [if_pos c, c, show wrap64 (-wrap64 0) = 0 from by simp [wrap64], hn]
    exact xori_zero n (by omega)
  · rw [if_neg c, show u % 2 = 1 from by omega, show wrap64 (-wrap64 1) = -1 from by simp [wrap64], hn]
    exact xori_ones n (by omega)

theorem zig_any (x : Int) (w : World) (h0 : -9223372036854775808 ≤ x) (h1 : x ≤ 9223372036854775807) :
    Calls Try.prog 15 #[.int .i64 x] w fun e w' => e = .returned (.int .u64 (zigv x)) ∧ w = w' := by
  have HV := Lib.hid (zig_val x h0 h1)
  go_enter Try.func15, Try.ntmps15
  go_wp2_with fail
  go_ret
  exact ⟨by rw [← HV.out]; rfl, rfl⟩
theorem zag_any (u : Int) (w : World) (h0 : 0 ≤ u) (h1 : u ≤ 18446744073709551615) :
    Calls Try.prog 17 #[.int .u64 u] w fun e w' => e = .returned (.int .i64 (zagv u)) ∧ w = w' := by
  have HV := Lib.hid (zag_val u h0 h1)
  go_enter Try.func17, Try.ntmps17
  go_wp2_with fail
  go_ret
  exact ⟨by rw [← HV.out]; rfl, rfl⟩
theorem rzig_any (x : Int) (w : World) (h0 : -9223372036854775808 ≤ x) (h1 : x ≤ 9223372036854775807) :
    Calls Try.prog 16 #[.int .i64 x] w fun e w' => e = .returned (.int .u64 (zigv x)) ∧ w = w' := by
  by_cases c : 0 ≤ x
  · have HV : Hid (zigv x = 2 * x) := Lib.hid (if_pos c)
    go_enter Try.func16, Try.ntmps16
    go_wp2_with fail
    go_ret
    exact ⟨by rw [HV.out]; rfl, rfl⟩
  · have HV : Hid (zigv x = 2 * -(x + 1) + 1) := Lib.hid (by unfold zigv; rw [if_neg c]; omega)
    have c' : x < 0 := by omega
    clear c
    go_enter Try.func16, Try.ntmps16
    go_wp2_with fail
    go_ret
    exact ⟨by rw [HV.out]; rfl, rfl⟩
theorem rzag_any (u : Int) (w : World) (h0 : 0 ≤ u) (h1 : u ≤ 18446744073709551615) :
    Calls Try.prog 18 #[.int .u64 u] w fun e w' => e = .returned (.int .i64 (zagv u)) ∧ w = w' := by
  by_cases c : u % 2 = 0
  · have t : (u % 2 == 0) = true := by simpa using c
    have HV : Hid (zagv u = u / 2) := Lib.hid (if_pos c)
    clear c
    go_enter Try.func18, Try.ntmps18
    go_wp2_with fail
    go_ret
    exact ⟨by rw [HV.out]; rfl, rfl⟩
  · have t : (u % 2 == 0) = false := by simpa using c
    have HV : Hid (zagv u = -(u / 2) - 1) := Lib.hid (if_neg c)
    clear c
    go_enter Try.func18, Try.ntmps18
    go_wp2_with fail
    go_ret
    exact ⟨by rw [HV.out]; rfl, rfl⟩

theorem zig_bd (x : Int) (h0 : -9223372036854775808 ≤ x) (h1 : x ≤ 9223372036854775807) : 0 ≤ zigv x ∧ zigv x ≤ 18446744073709551615 ∧ zagv (zigv x) = x := by
  unfold zagv zigv
  by_cases c : 0 ≤ x
  · rw [if_pos c]
    refine ⟨by omega, by omega, ?_⟩
    rw [if_pos (by omega)]; omega
  · rw [if_neg c]
    refine ⟨by omega, by omega, ?_⟩
    rw [if_neg (by omega)]; omega
theorem zag_bd (u : Int) (h0 : 0 ≤ u) (h1 : u ≤ 18446744073709551615) : -9223372036854775808 ≤ zagv u ∧ zagv u ≤ 9223372036854775807 ∧ zigv (zagv u) = u := by
  unfold zagv zigv
  by_cases c : u % 2 = 0
  · rw [if_pos c]
    refine ⟨by omega, by omega, ?_⟩
    rw [if_pos (by omega)]; omega
  · rw [if_neg c]
    refine ⟨by omega, by omega, ?_⟩
    rw [if_neg (by omega)]; omega
theorem zig_eq (x y : Int) : (zigv x = zigv y) ↔ x = y := by
  unfold zigv
  by_cases c : 0 ≤ x <;> by_cases d : 0 ≤ y <;> simp only [c, d, if_true, if_false] <;> omega
theorem zig_near (x y : Int) : (0 ≤ x ∧ 0 ≤ y ∧ x < y → zigv x < zigv y) ∧ (x < 0 ∧ y < 0 ∧ y < x → zigv x < zigv y) := by
  unfold zigv
  refine ⟨fun ⟨a, b, e⟩ => ?_, fun ⟨a, b, e⟩ => ?_⟩
  · rw [if_pos a, if_pos b]; omega
  · rw [if_neg (by omega), if_neg (by omega)]; omega

theorem zigs_core (x y u a b c : Int) (w : World) (HX : Hid (∀ W, Calls Try.prog 15 #[.int .i64 x] W fun e w' => e = .returned (.int .u64 a) ∧ W = w')) (HY : Hid (∀ W, Calls Try.prog 15 #[.int .i64 y] W fun e w' => e = .returned (.int .u64 b) ∧ W = w'))
    (RX : Hid (∀ W, Calls Try.prog 16 #[.int .i64 x] W fun e w' => e = .returned (.int .u64 a) ∧ W = w')) (ZU : Hid (∀ W, Calls Try.prog 17 #[.int .u64 u] W fun e w' => e = .returned (.int .i64 c) ∧ W = w'))
    (RU : Hid (∀ W, Calls Try.prog 18 #[.int .u64 u] W fun e w' => e = .returned (.int .i64 c) ∧ W = w')) (ZA : Hid (∀ W, Calls Try.prog 17 #[.int .u64 a] W fun e w' => e = .returned (.int .i64 x) ∧ W = w'))
    (ZC : Hid (∀ W, Calls Try.prog 15 #[.int .i64 c] W fun e w' => e = .returned (.int .u64 u) ∧ W = w')) (hab : (a == b) = (x == y)) (n1 : 0 ≤ x ∧ 0 ≤ y ∧ x < y → a < b) (n2 : x < 0 ∧ y < 0 ∧ y < x → a < b) :
    Calls Try.prog 4 #[.int .i64 x, .int .i64 y, .int .u64 u] w fun e w' => e = .returned (.bool true) ∧ Ch (fun _ => False) w w' := by
  have HW := Lib.hid fun W : World => awake2_any W
  by_cases hx : 0 ≤ x
  · by_cases hy : 0 ≤ y
    · by_cases hl : x < y
      · have n := n1 ⟨hx, hy, hl⟩
        have t1 : (x == y) = false := by rw [beq_eq_false_iff_ne]; omega
        rw [t1] at hab
        clear n1 n2
        go_enter Try.func4, Try.ntmps4
        go_wp2_with (first | (go_at_call 15; with_reducible refine (HX.out _).mono ?_; rintro e w' ⟨rfl, rfl⟩) | (go_at_call 15; with_reducible refine (HY.out _).mono ?_; rintro e w' ⟨rfl, rfl⟩) | (go_at_call 15; with_reducible refine (ZC.out _).mono ?_; rintro e w' ⟨rfl, rfl⟩) | (go_at_call 16; refine (RX.out _).mono ?_; rintro e w' ⟨rfl, rfl⟩) | (go_at_call 17; with_reducible refine (ZU.out _).mono ?_; rintro e w' ⟨rfl, rfl⟩) | (go_at_call 17; with_reducible refine (ZA.out _).mono ?_; rintro e w' ⟨rfl, rfl⟩) | (go_at_call 18; refine (RU.out _).mono ?_; rintro e w' ⟨rfl, rfl⟩) | (go_at_call 14; refine (HW.out _).mono ?_; rintro e w9 ⟨rfl, hq⟩; have HQ := Lib.hid hq; clear hq))
        go_ret
        exact ⟨rfl, HQ.out⟩
      · by_cases hg : y < x
        · clear hl
          have t1 : (x == y) = false := by rw [beq_eq_false_iff_ne]; omega
          rw [t1] at hab
          clear n1 n2
          go_enter Try.func4, Try.ntmps4
          go_wp2_with (first | (go_at_call 15; with_reducible refine (HX.out _).mono ?_; rintro e w' ⟨rfl, rfl⟩) | (go_at_call 15; with_reducible refine (HY.out _).mono ?_; rintro e w' ⟨rfl, rfl⟩) | (go_at_call 15; with_reducible refine (ZC.out _).mono ?_; rintro e w' ⟨rfl, rfl⟩) | (go_at_call 16; refine (RX.out _).mono ?_; rintro e w' ⟨rfl, rfl⟩) | (go_at_call 17; with_reducible refine (ZU.out _).mono ?_; rintro e w' ⟨rfl, rfl⟩) | (go_at_call 17; with_reducible refine (ZA.out _).mono ?_; rintro e w' ⟨rfl, rfl⟩) | (go_at_call 18; refine (RU.out _).mono ?_; rintro e w' ⟨rfl, rfl⟩) | (go_at_call 14; refine (HW.out _).mono ?_; rintro e w9 ⟨rfl, hq⟩; have HQ := Lib.hid hq; clear hq))
          go_ret
          exact ⟨rfl, HQ.out⟩
        · obtain rfl : x = y := by omega
          rw [beq_self_eq_true, beq_iff_eq] at hab
          subst hab
          clear n1 n2
          clear hl hg
          go_enter Try.func4, Try.ntmps4
          go_wp2_with (first | (go_at_call 15; with_reducible refine (HX.out _).mono ?_; rintro e w' ⟨rfl, rfl⟩) | (go_at_call 15; with_reducible refine (HY.out _).mono ?_; rintro e w' ⟨rfl, rfl⟩) | (go_at_call 15; with_reducible refine (ZC.out _).mono ?_; rintro e w' ⟨rfl, rfl⟩) | (go_at_call 16; refine (RX.out _).mono ?_; rintro e w' ⟨rfl, rfl⟩) | (go_at_call 17; with_reducible refine (ZU.out _).mono ?_; rintro e w' ⟨rfl, rfl⟩) | (go_at_call 17; with_reducible refine (ZA.out _).mono ?_; rintro e w' ⟨rfl, rfl⟩) | (go_at_call 18; refine (RU.out _).mono ?_; rintro e w' ⟨rfl, rfl⟩) | (go_at_call 14; refine (HW.out _).mono ?_; rintro e w9 ⟨rfl, hq⟩; have HQ := Lib.hid hq; clear hq))
          go_ret
          exact ⟨rfl, HQ.out⟩
    · have hy' : y < 0 := by omega
      clear hy
      have t1 : (x == y) = false := by rw [beq_eq_false_iff_ne]; omega
      rw [t1] at hab
      clear n1 n2
      go_enter Try.func4, Try.ntmps4
      go_wp2_with (first | (go_at_call 15; with_reducible refine (HX.out _).mono ?_; rintro e w' ⟨rfl, rfl⟩) | (go_at_call 15; with_reducible refine (HY.out _).mono ?_; rintro e w' ⟨rfl, rfl⟩) | (go_at_call 15; with_reducible refine (ZC.out _).mono ?_; rintro e w' ⟨rfl, rfl⟩) | (go_at_call 16; refine (RX.out _).mono ?_; rintro e w' ⟨rfl, rfl⟩) | (go_at_call 17; with_reducible refine (ZU.out _).mono ?_; rintro e w' ⟨rfl, rfl⟩) | (go_at_call 17; with_reducible refine (ZA.out _).mono ?_; rintro e w' ⟨rfl, rfl⟩) | (go_at_call 18; refine (RU.out _).mono ?_; rintro e w' ⟨rfl, rfl⟩) | (go_at_call 14; refine (HW.out _).mono ?_; rintro e w9 ⟨rfl, hq⟩; have HQ := Lib.hid hq; clear hq))
      go_ret
      exact ⟨rfl, HQ.out⟩
  · have hx' : x < 0 := by omega
    clear hx
    by_cases hy : 0 ≤ y
    · have t1 : (x == y) = false := by rw [beq_eq_false_iff_ne]; omega
      rw [t1] at hab
      clear n1 n2
      go_enter Try.func4, Try.ntmps4
      go_wp2_with (first | (go_at_call 15; with_reducible refine (HX.out _).mono ?_; rintro e w' ⟨rfl, rfl⟩) | (go_at_call 15; with_reducible refine (HY.out _).mono ?_; rintro e w' ⟨rfl, rfl⟩) | (go_at_call 15; with_reducible refine (ZC.out _).mono ?_; rintro e w' ⟨rfl, rfl⟩) | (go_at_call 16; refine (RX.out _).mono ?_; rintro e w' ⟨rfl, rfl⟩) | (go_at_call 17; with_reducible refine (ZU.out _).mono ?_; rintro e w' ⟨rfl, rfl⟩) | (go_at_call 17; with_reducible refine (ZA.out _).mono ?_; rintro e w' ⟨rfl, rfl⟩) | (go_at_call 18; refine (RU.out _).mono ?_; rintro e w' ⟨rfl, rfl⟩) | (go_at_call 14; refine (HW.out _).mono ?_; rintro e w9 ⟨rfl, hq⟩; have HQ := Lib.hid hq; clear hq))
      go_ret
      exact ⟨rfl, HQ.out⟩
    · have hy' : y < 0 := by omega
      clear hy
      by_cases hl : x < y
      · have t1 : (x == y) = false := by rw [beq_eq_false_iff_ne]; omega
        rw [t1] at hab
        clear n1 n2
        go_enter Try.func4, Try.ntmps4
        go_wp2_with (first | (go_at_call 15; with_reducible refine (HX.out _).mono ?_; rintro e w' ⟨rfl, rfl⟩) | (go_at_call 15; with_reducible refine (HY.out _).mono ?_; rintro e w' ⟨rfl, rfl⟩) | (go_at_call 15; with_reducible refine (ZC.out _).mono ?_; rintro e w' ⟨rfl, rfl⟩) | (go_at_call 16; refine (RX.out _).mono ?_; rintro e w' ⟨rfl, rfl⟩) | (go_at_call 17; with_reducible refine (ZU.out _).mono ?_; rintro e w' ⟨rfl, rfl⟩) | (go_at_call 17; with_reducible refine (ZA.out _).mono ?_; rintro e w' ⟨rfl, rfl⟩) | (go_at_call 18; refine (RU.out _).mono ?_; rintro e w' ⟨rfl, rfl⟩) | (go_at_call 14; refine (HW.out _).mono ?_; rintro e w9 ⟨rfl, hq⟩; have HQ := Lib.hid hq; clear hq))
        go_ret
        exact ⟨rfl, HQ.out⟩
      · by_cases hg : y < x
        · clear hl
          have n := n2 ⟨hx', hy', hg⟩
          have t1 : (x == y) = false := by rw [beq_eq_false_iff_ne]; omega
          rw [t1] at hab
          clear n1 n2
          go_enter Try.func4, Try.ntmps4
          go_wp2_with (first | (go_at_call 15; with_reducible refine (HX.out _).mono ?_; rintro e w' ⟨rfl, rfl⟩) | (go_at_call 15; with_reducible refine (HY.out _).mono ?_; rintro e w' ⟨rfl, rfl⟩) | (go_at_call 15; with_reducible refine (ZC.out _).mono ?_; rintro e w' ⟨rfl, rfl⟩) | (go_at_call 16; refine (RX.out _).mono ?_; rintro e w' ⟨rfl, rfl⟩) | (go_at_call 17; with_reducible refine (ZU.out _).mono ?_; rintro e w' ⟨rfl, rfl⟩) | (go_at_call 17; with_reducible refine (ZA.out _).mono ?_; rintro e w' ⟨rfl, rfl⟩) | (go_at_call 18; refine (RU.out _).mono ?_; rintro e w' ⟨rfl, rfl⟩) | (go_at_call 14; refine (HW.out _).mono ?_; rintro e w9 ⟨rfl, hq⟩; have HQ := Lib.hid hq; clear hq))
          go_ret
          exact ⟨rfl, HQ.out⟩
        · obtain rfl : x = y := by omega
          rw [beq_self_eq_true, beq_iff_eq] at hab
          subst hab
          clear n1 n2
          clear hl hg
          go_enter Try.func4, Try.ntmps4
          go_wp2_with (first | (go_at_call 15; with_reducible refine (HX.out _).mono ?_; rintro e w' ⟨rfl, rfl⟩) | (go_at_call 15; with_reducible refine (HY.out _).mono ?_; rintro e w' ⟨rfl, rfl⟩) | (go_at_call 15; with_reducible refine (ZC.out _).mono ?_; rintro e w' ⟨rfl, rfl⟩) | (go_at_call 16; refine (RX.out _).mono ?_; rintro e w' ⟨rfl, rfl⟩) | (go_at_call 17; with_reducible refine (ZU.out _).mono ?_; rintro e w' ⟨rfl, rfl⟩) | (go_at_call 17; with_reducible refine (ZA.out _).mono ?_; rintro e w' ⟨rfl, rfl⟩) | (go_at_call 18; refine (RU.out _).mono ?_; rintro e w' ⟨rfl, rfl⟩) | (go_at_call 14; refine (HW.out _).mono ?_; rintro e w9 ⟨rfl, hq⟩; have HQ := Lib.hid hq; clear hq))
          go_ret
          exact ⟨rfl, HQ.out⟩
end Go.Proofs.Ytgcediipkojdbaa.bits
