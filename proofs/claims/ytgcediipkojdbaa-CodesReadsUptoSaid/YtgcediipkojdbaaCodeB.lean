/-
  Layer 2: the contracts of Check and Most; of a function value that takes pieces of bits; of spellUnary, spellGamma, spellMinimal.
-/
import Derived.Test.YtgcediipkojdbaaCodeA
import Derived.Outline
namespace Go.Proofs.Ytgcediipkojdbaa.bits
open Go.ChangeShapes Go.WideShapes Go.ChangeAt Go.RowKit
set_option linter.unusedVariables false

def ck (kd K : Nat) : Int := if may kd K = true then 0 else 1

theorem u64le {K : Nat} (hK : K < 18446744073709551616) : (0 : Int) ≤ K ∧ (K : Int) ≤ 18446744073709551615 := by omega

set_option maxHeartbeats 1000000 in
theorem check_any (kd K : Nat) (w : World) (hk : kd < 256) (hK : K < 18446744073709551616) :
    Calls Try.prog 26 #[.agg #[.int .u8 kd, .int .u64 K]] w fun e w' => e = .returned (.int .i64 (ck kd K)) ∧ w' = w.alloc (.cells #[.int .u8 kd, .int .u64 K] 35) := by
  have hck : ck kd K = if (kd < 3 ∧ K = 0) ∨ (kd = 3 ∧ 1 ≤ K ∧ K ≤ 16) ∨ (kd = 4 ∧ 1 ≤ K ∧ K ≤ 281474976710655) then 0 else 1 := by
    unfold ck may
    simp only [decide_eq_true_eq]
  rw [hck]
  clear hck
  obtain ⟨hK0, hK1⟩ := u64le hK
  by_cases c : kd < 3
  · by_cases z : K = 0
    · rw [if_pos (by omega)]
      subst z
      clear hK hK0 hK1
      have : kd = 0 ∨ kd = 1 ∨ kd = 2 := by omega
      rcases this with rfl | rfl | rfl
      all_goals
        go_enter Try.func26, Try.ntmps26
        go_wp2_with fail
        go_ret
        exact ⟨rfl, rfl⟩
    · rw [if_neg (by omega)]
      have t0 : ((K : Int) == 0) = false := by rw [beq_eq_false_iff_ne]; omega
      have : kd = 0 ∨ kd = 1 ∨ kd = 2 := by omega
      clear hK
      rcases this with rfl | rfl | rfl
      all_goals
        go_enter Try.func26, Try.ntmps26
        go_wp2_with fail
        go_ret
        exact ⟨rfl, rfl⟩
  · by_cases c3 : kd = 3
    · subst c3
      by_cases z : K = 0
      · rw [if_neg (by omega)]
        subst z
        clear hK hK0 hK1
        go_enter Try.func26, Try.ntmps26
        go_wp2_with fail
        go_ret
        exact ⟨rfl, rfl⟩
      · have h1 : (1 : Int) ≤ K := by omega
        by_cases z2 : K ≤ 16
        · rw [if_pos (by omega)]
          have h2 : (K : Int) ≤ 16 := by omega
          clear hK hK1 z z2
          go_enter Try.func26, Try.ntmps26
          go_wp2_with fail
          go_ret
          exact ⟨rfl, rfl⟩
        · rw [if_neg (by omega)]
          have h2 : (16 : Int) < K := by omega
          have h3 : decide ((K : Int) ≤ 16) = false := by rw [decide_eq_false_iff_not]; omega
          clear hK z z2
          go_enter Try.func26, Try.ntmps26
          go_wp2_with fail
          go_ret
          exact ⟨rfl, rfl⟩
    · by_cases c4 : kd = 4
      · subst c4
        by_cases z : K = 0
        · rw [if_neg (by omega)]
          subst z
          clear hK hK0 hK1
          go_enter Try.func26, Try.ntmps26
          go_wp2_with fail
          go_ret
          exact ⟨rfl, rfl⟩
        · have h1 : (1 : Int) ≤ K := by omega
          by_cases z2 : K ≤ 281474976710655
          · rw [if_pos (by omega)]
            have h2 : (K : Int) ≤ 281474976710655 := by omega
            clear hK hK1 z z2
            go_enter Try.func26, Try.ntmps26
            go_wp2_with fail
            go_ret
            exact ⟨rfl, rfl⟩
          · rw [if_neg (by omega)]
            have h2 : (281474976710655 : Int) < K := by omega
            have h3 : decide ((K : Int) ≤ 281474976710655) = false := by rw [decide_eq_false_iff_not]; omega
            clear hK z z2
            go_enter Try.func26, Try.ntmps26
            go_wp2_with fail
            go_ret
            exact ⟨rfl, rfl⟩
      · rw [if_neg (by omega)]
        have t0 : ((kd : Int) == 0) = false := by rw [beq_eq_false_iff_ne]; omega
        have t1 : ((kd : Int) == 1) = false := by rw [beq_eq_false_iff_ne]; omega
        have t2 : ((kd : Int) == 2) = false := by rw [beq_eq_false_iff_ne]; omega
        have t3 : ((kd : Int) == 3) = false := by rw [beq_eq_false_iff_ne]; omega
        have t4 : ((kd : Int) == 4) = false := by rw [beq_eq_false_iff_ne]; omega
        clear hK c c3 c4 hk
        go_enter Try.func26, Try.ntmps26
        go_wp2_with fail
        go_ret
        exact ⟨rfl, rfl⟩

theorem code_block (w : World) (kd K : Int) : (w.alloc (.cells #[.int .u8 kd, .int .u64 K] 35)).heap[w.heap.size]? = some (.cells #[.int .u8 kd, .int .u64 K] 35 (0, 0)) := heap_alloc_new w _

def mst (kd K : Nat) : Nat := if may kd K = true then most kd K else 0

theorem most_any (kd K : Nat) (w : World) (hk : kd < 256) (hK : K < 18446744073709551616) :
    Calls Try.prog 40 #[.agg #[.int .u8 kd, .int .u64 K]] w fun e w' => e = .returned (.int .u64 (mst kd K)) ∧ Ch (fun _ => False) w w' := by
  have HC := Lib.hid fun W : World => check_any kd K W hk hK
  have HCH := Lib.hid fun (W : World) (o o2 : Obj) => ((Ch.refl (fun _ => False) W).alloc o).alloc o2
  unfold ck at HC
  unfold mst
  obtain ⟨hK0, hK1⟩ := u64le hK
  by_cases m : may kd K = true
  · simp only [if_pos m] at HC
    rw [if_pos m]
    have hm := may_of m
    unfold most
    by_cases k0 : kd = 0
    · subst k0
      rw [if_pos rfl]
      clear hm m hK hK0 hK1
      go_enter Try.func40, Try.ntmps40
      go_wp2_with (go_at_call 26; refine (HC.out _).mono ?_; rintro e w' ⟨rfl, rfl⟩)
      go_ret
      exact ⟨rfl, HCH.out _ _ _⟩
    · by_cases k4 : kd = 4
      · subst k4
        rw [if_neg (by omega), if_pos rfl]
        have e1 : IntKind.u64.wrap ((K : Int) - 1) = ((K - 1 : Nat) : Int) := by rw [PlainAid.u64_nonneg (by omega) (by omega)]; omega
        clear hm m hK
        go_enter Try.func40, Try.ntmps40
        go_wp2_with (go_at_call 26; refine (HC.out _).mono ?_; rintro e w' ⟨rfl, rfl⟩)
        go_ret
        exact ⟨rfl, HCH.out _ _ _⟩
      · rw [if_neg k0, if_neg k4]
        have t0 : ((kd : Int) == 0) = false := by rw [beq_eq_false_iff_ne]; omega
        have t4 : ((kd : Int) == 4) = false := by rw [beq_eq_false_iff_ne]; omega
        clear hm m hK hK0 hK1 k0 k4 hk
        go_enter Try.func40, Try.ntmps40
        go_wp2_with (go_at_call 26; refine (HC.out _).mono ?_; rintro e w' ⟨rfl, rfl⟩)
        go_ret
        exact ⟨rfl, HCH.out _ _ _⟩
  · simp only [if_neg m] at HC
    rw [if_neg m]
    clear m hK hK0 hK1 hk
    go_enter Try.func40, Try.ntmps40
    go_wp2_with (go_at_call 26; refine (HC.out _).mono ?_; rintro e w' ⟨rfl, rfl⟩)
    go_ret
    exact ⟨rfl, HCH.out _ _ _⟩
end Go.Proofs.Ytgcediipkojdbaa.bits
