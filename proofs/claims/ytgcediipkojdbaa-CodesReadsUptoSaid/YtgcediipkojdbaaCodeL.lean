/-
  Layer 2: what is read: the contract of readZeta.
-/
import Derived.Test.YtgcediipkojdbaaCodeK
import Derived.Outline
namespace Go.Proofs.Ytgcediipkojdbaa.bits
open Go.ChangeShapes Go.WideShapes Go.ChangeAt Go.RowKit
set_option linter.unusedVariables false

section
variable {w : World} {R T : Nat} {F : Nat → Prop} {s : ByteArray} {p : Nat}

theorem zet_room {d K : Nat} (hd : d ≤ 47 / K) (h1 : 1 ≤ K) (h2 : K ≤ 16) : (d + 1) * K ≤ 63 ∧ d * K ≤ 47 ∧ d ≤ 47 := by
  have a : d * K ≤ 47 / K * K := Nat.mul_le_mul_right _ hd
  have b := Nat.div_mul_le_self 47 K
  have c := Nat.div_le_self 47 K
  rw [Nat.add_mul]
  omega

set_option maxHeartbeats 1000000 in
theorem readZeta_any (h : Rd w R T F s p) (K : Nat) (h1 : 1 ≤ K) (h2 : K ≤ 16) :
    Calls Try.prog 32 #[.pointer (some ⟨R, 0, none⟩), .int .u64 K] w (Got w R T F s p (zet K) 281474976710654) := by
  have HU := Lib.hid (readUnary_any h (47 / K) (by have := Nat.div_le_self 47 K; omega))
  have H1 := Lib.hid h1
  have H2 := Lib.hid h2
  have e3 : (47 : Int) / (K : Int) = ((47 / K : Nat) : Int) := by simp
  have t0 : ((K : Int) == 0) = false := by rw [beq_eq_false_iff_ne]; omega
  have k0 : ¬ (K : Int) = 0 := by omega
  have k1 : (1 : Int) ≤ K := by omega
  have k2 : (K : Int) ≤ 16 := by omega
  generalize hmx : 47 / K = mx at HU e3
  have HMX := Lib.hid hmx
  clear h h1 h2 hmx
  go_enter Try.func32, Try.ntmps32
  go_wp2_with fail
  refine HU.out.mono ?_
  rintro e w2 (⟨d, hd, hp, rfl, hR, hc⟩ | ⟨hn, x, p', rfl, hR, hc⟩)
  · have HP := Lib.hid hp
    have HR := Lib.hid hR
    have HC := Lib.hid hc
    have h1 := H1.out
    have h2 := H2.out
    obtain ⟨r1, r2, r3⟩ := zet_room (by rw [HMX.out]; exact hd) h1 h2
    have HZ := Lib.hid (zcount_any d K w2 h1 r1)
    have hz := zcount_pos (h := d) h1
    have hp63 : 2 ^ ((d + 1) * K) ≤ 2 ^ 63 := Nat.pow_le_pow_right (by omega) r1
    have hpp := Nat.two_pow_pos (d * K)
    have HM := Lib.hid (readMinimal_any hR (zcount d K) hz.1 (by omega))
    have hcb : zcount d K ≤ 9223372036854775808 := by omega
    have hpb : 2 ^ (d * K) ≤ 140737488355328 := by
      have : 2 ^ (d * K) ≤ 2 ^ 47 := Nat.pow_le_pow_right (by omega) r2
      omega
    have HZ1 := Lib.hid hz.1
    have e4 : IntKind.u64.wrap ((d : Int) * (K : Int)) = ((d * K : Nat) : Int) := by
      rw [show (d : Int) * (K : Int) = ((d * K : Nat) : Int) from by simp]
      exact u64_nat (by omega)
    have e1 := pow_wrap (n := d * K) (by omega)
    have HZT := Lib.hid fun (x : Nat) (hx : x < zcount d K) => zet_of (h := d) h1 hx
    obtain ⟨m, hm⟩ : ∃ m, m = d * K := ⟨_, rfl⟩
    obtain ⟨c, hcc⟩ : ∃ c, c = zcount d K := ⟨_, rfl⟩
    have HCC := Lib.hid hcc
    rw [← hcc] at HZ HM hcb HZ1 HZT
    rw [← hm] at e4 e1 hpb HZT hpp r2
    obtain ⟨A, hA⟩ : ∃ A, A = 2 ^ m := ⟨_, rfl⟩
    rw [← hA] at e1 hpb hpp HZT
    have hm47 : (m : Int) ≤ 47 := by omega
    have hd47 : (d : Int) ≤ 47 := by omega
    have HAP := Lib.hid hpp
    clear hp hR hc r1 r2 r3 hz hp63 hd h1 h2 hcc hm hA hpp
    go_wp2_with (go_at_call 45; refine HZ.out.mono ?_; rintro e w' ⟨rfl, rfl⟩)
    refine HM.out.mono ?_
    rintro e w3 (⟨x, hx, hp, rfl, hR, hc⟩ | ⟨hn, x, p', rfl, hR, hc⟩)
    · have HP2 := Lib.hid hp
      have HR2 := Lib.hid hR
      have HC2 := Lib.hid (HC.out.trans hc fun g h => .inl h)
      have hxc : x < c := by have := HZ1.out; omega
      have HX := Lib.hid (HZT.out x hxc)
      have hA1 := HAP.out
      have e5 : IntKind.u64.wrap ((A : Int) + (x : Int)) = (A : Int) + (x : Int) := by rw [PlainAid.u64_nonneg (by omega) (by omega)]
      have e6 : IntKind.u64.wrap ((A : Int) + (x : Int) - 1) = ((A + x - 1 : Nat) : Int) := by rw [PlainAid.u64_nonneg (by omega) (by omega)]; omega
      have HF : Hid (zet K (A + x - 1) <+: rest s p ∧ (zet K (A + x - 1)).length = (unary d).length + (mini x c).length) := Lib.hid (by
        rw [HX.out, List.length_append]
        refine ⟨?_, rfl⟩
        rw [pre_append, rest_drop]
        exact ⟨HP.out, HP2.out⟩)
      have HA2 := Lib.hid (show A + x - 1 = A + x - 1 from rfl)
      obtain ⟨v, hv⟩ : ∃ v, v = A + x - 1 := ⟨_, rfl⟩
      rw [← hv] at e6 HF
      clear hp hR hc hx hxc hA1 hpb hcb hv
      by_cases big : v ≤ 281474976710654
      · have bi : (v : Int) ≤ 281474976710654 := by omega
        have HB := Lib.hid big
        clear big
        go_wp2_with fail
        go_ret2
        refine .inl ⟨v, HB.out, HF.out.1, rfl, ?_, HC2.out⟩
        rw [HF.out.2, ← Nat.add_assoc]
        exact HR2.out
      · have bi : (281474976710654 : Int) < (v : Int) := by omega
        have HB := Lib.hid big
        clear big
        go_wp2_with fail
        go_ret2
        refine .inr ⟨fun v' hv' hg => ?_, _, _, rfl, HR2.out, HC2.out⟩
        have := zet_free H1.out hg HF.out.1
        have := HB.out
        omega
    · have HN := Lib.hid hn
      have HR2 := Lib.hid hR
      have HC2 := Lib.hid (HC.out.trans hc fun g h => .inl h)
      clear hn hR hc hpb hcb
      go_wp2_with fail
      go_ret2
      refine .inr ⟨fun v hv hg => ?_, _, _, rfl, HR2.out, HC2.out⟩
      unfold zet at hg
      rw [pre_append, rest_drop] at hg
      have h4 := unary_free HP.out hg.1
      obtain ⟨z1, _⟩ := zparts (v := v) H1.out
      rw [← h4, ← HCC.out] at hg z1
      exact HN.out _ (by omega) hg.2
  · have HN := Lib.hid hn
    have HR := Lib.hid hR
    have HC := Lib.hid hc
    clear hn hR hc
    go_wp2_with fail
    go_ret2
    refine .inr ⟨fun v hv hg => ?_, _, _, rfl, HR.out, HC.out⟩
    have := log2_le (v := v) (n := 48) (by omega)
    exact HN.out _ (by rw [← HMX.out]; exact Nat.div_le_div_right (by omega)) (pre_append.1 hg).1
end
end Go.Proofs.Ytgcediipkojdbaa.bits
