/-
  Layer 2, the document's answers: read of Zeta.
-/
import Derived.Test.YtgcediipkojdbaaQRead
import Derived.Outline
namespace Go.Proofs.Ytgcediipkojdbaa.bits
open Go.ChangeShapes Go.WideShapes Go.ChangeAt Go.RowKit
set_option linter.unusedVariables false

section
variable {w : World} {Q : Nat} {F : Nat → Prop} {v : Value} {s : ByteArray} {p : Nat}

set_option maxHeartbeats 1000000 in
theorem read_q3 (h : RQ w Q F v s p) (K : Nat) (h1 : 1 ≤ K) (h2 : K ≤ 16) :
    Calls Try.prog 35 #[.pointer (some ⟨Q, 0, none⟩), .agg #[.int .u8 3, .int .u64 K]] w (QGot w Q F v s p (zet K) 281474976710654 18446744073709551615) := by
  have HZ := Lib.hid (zeros_any (h.kept ((Ch.refl (fun _ => False) w).alloc (.cells #[.int .u8 3, .int .u64 K] 37)) fun _ _ h => h) (47 / K) (by have := Nat.div_le_self 47 K; omega))
  have HR := Lib.hid h
  have H1 := Lib.hid h1
  have H2 := Lib.hid h2
  have e3 : (47 : Int).tdiv (K : Int) = ((47 / K : Nat) : Int) := by rw [Int.tdiv_eq_ediv_of_nonneg (by omega)]; simp
  have e3' : (47 : Int) / (K : Int) = ((47 / K : Nat) : Int) := by simp
  have t0 : ((K : Int) == 0) = false := by rw [beq_eq_false_iff_ne]; omega
  have k0 : ¬ (K : Int) = 0 := by omega
  have k1 : (1 : Int) ≤ K := by omega
  have k2 : (K : Int) ≤ 16 := by omega
  generalize hmx : 47 / K = mx at HZ e3 e3'
  have HMX := Lib.hid hmx
  have hmxi : (mx : Int) ≤ 47 := by have := Nat.div_le_self 47 K; omega
  clear h h1 h2 hmx
  go_enter Try.func35, Try.ntmps35
  go_wp2_with fail
  refine HZ.out.mono ?_
  rintro e w2 (⟨d, hd, hp, rfl, hR, hc⟩ | ⟨hn, p', rfl, hR, hc⟩)
  · have HP := Lib.hid hp
    have HQ := Lib.hid hR
    have hk0 := two_cell0 (box_kept HR.out hc).1
    have hk1 := two_cell1 (box_kept HR.out hc).1
    have HC := Lib.hid (box_kept HR.out hc).2
    obtain ⟨r1, r2, r3⟩ := zet_room (by rw [HMX.out]; exact hd) H1.out H2.out
    have hz := zcount_pos (h := d) H1.out
    have hp63 : 2 ^ ((d + 1) * K) ≤ 2 ^ 63 := Nat.pow_le_pow_right (by omega) r1
    have hpp := Nat.two_pow_pos (d * K)
    have HS := Lib.hid (short_any hR (zcount d K) hz.1 (by omega))
    have HZT := Lib.hid fun (x : Nat) (hx : x < zcount d K) => zet_of (h := d) H1.out hx
    have HZ1 := Lib.hid hz.1
    obtain ⟨m, hm⟩ : ∃ m, m = d * K := ⟨_, rfl⟩
    obtain ⟨m1, hm1⟩ : ∃ m1, m1 = (d + 1) * K := ⟨_, rfl⟩
    have e4 : (d : Int) * (K : Int) = (m : Int) := by rw [hm]; simp
    have e5 : ((d : Int) + 1) * (K : Int) = (m1 : Int) := by rw [hm1]; simp
    have hzc : zcount d K = 2 ^ m1 - 2 ^ m := by unfold zcount; rw [hm, hm1]
    rw [← hm1] at r1 hp63 hz
    rw [← hm] at r2 hpp HZT hz
    have e6 := pow_wrap (n := m) (by omega)
    have e7 := pow_wrap (n := m1) r1
    have hmm : m ≤ m1 := by rw [hm, hm1]; exact Nat.mul_le_mul_right _ (by omega)
    have hpm : 2 ^ m ≤ 2 ^ m1 := Nat.pow_le_pow_right (by omega) hmm
    have hpb : 2 ^ m ≤ 2 ^ 47 := Nat.pow_le_pow_right (by omega) r2
    obtain ⟨c, hcc⟩ : ∃ c, c = zcount d K := ⟨_, rfl⟩
    have HCC := Lib.hid hcc
    rw [← hcc] at HS HZ1 HZT hzc hz
    generalize 2 ^ m = A at e6 hpm hpb hpp HZT hzc hz
    generalize 2 ^ m1 = A1 at e7 hpm hp63 hzc hz
    have e8 : IntKind.u64.wrap ((A1 : Int) - (A : Int)) = (c : Int) := by rw [u64_sub hpm (by omega), hzc]
    have hdi : (d : Int) ≤ 47 := by omega
    have hmi : (m : Int) ≤ 47 := by omega
    have hm1i : (m1 : Int) ≤ 63 := by omega
    have HA := Lib.hid (show 1 ≤ A ∧ A + c < 18446744073709551616 from by omega)
    clear hp hR hc r1 r2 r3 hz hp63 hpp hd hm hm1 hzc hmm hpm hpb hcc
    go_wp2_with fail
    refine HS.out.mono ?_
    rintro e w3 (⟨x, hp, hu, hx, rfl, hR, hc⟩ | ⟨hn, z, p', rfl, hR, hc⟩)
    · have HP2 := Lib.hid hp
      have HU2 := Lib.hid hu
      have HQ2 := Lib.hid hR
      have HC2 := Lib.hid (HC.out.trans hc fun g h => .inl h)
      have hxc : x < c := by have := HZ1.out; omega
      have HX := Lib.hid (HZT.out x hxc)
      obtain ⟨e9, e10⟩ := tail_val (x := x) HA.out.1 (by have := HA.out.2; omega)
      have HF : Hid (zet K (A + x - 1) <+: rest s p ∧ (zet K (A + x - 1)).length = (unary d).length + (mini x c).length) := Lib.hid (by
        rw [HX.out, List.length_append]
        have hq := HP2.out
        rw [HCC.out] at hq ⊢
        refine ⟨?_, rfl⟩
        rw [pre_append, rest_drop, length_unary]
        exact ⟨HP.out, hq⟩)
      have HYB : Hid (A + x - 1 ≤ 18446744073709551615) := Lib.hid (by have := HA.out.2; omega)
      obtain ⟨y, hy⟩ : ∃ y, y = A + x - 1 := ⟨_, rfl⟩
      rw [← hy] at e10 HF HYB
      clear hp hu hx hR hc hxc hy
      go_wp2_with fail
      go_ret2
      refine .inl ⟨y, HF.out.1, fun z hz hg => zet_free H1.out hg HF.out.1, HYB.out, rfl, ?_, HC2.out⟩
      rw [HF.out.2, length_unary, ← Nat.add_assoc]
      exact HQ2.out
    · have HN := Lib.hid hn
      have HQ2 := Lib.hid hR
      have HC2 := Lib.hid (HC.out.trans hc fun g h => .inl h)
      clear hn hR hc
      go_wp2_with fail
      go_ret2
      refine .inr ⟨fun y hy hg => ?_, _, _, rfl, HQ2.out, HC2.out⟩
      unfold zet at hg
      rw [pre_append, rest_drop] at hg
      have h4 := unary_free HP.out hg.1
      obtain ⟨z1, _⟩ := zparts (v := y) H1.out
      rw [← h4, length_unary, ← HCC.out] at hg
      rw [← h4, ← HCC.out] at z1
      exact HN.out _ (by omega) hg.2
  · have HN := Lib.hid hn
    have HQ := Lib.hid hR
    have HC := Lib.hid (box_kept HR.out hc).2
    clear hn hR hc
    go_wp2_with fail
    go_ret2
    refine .inr ⟨fun y hy hg => ?_, _, _, rfl, HQ.out, HC.out⟩
    have := log2_le (v := y) (n := 48) (by omega)
    exact HN.out _ (by rw [← HMX.out]; exact Nat.div_le_div_right (by omega)) (pre_append.1 hg).1
end
end Go.Proofs.Ytgcediipkojdbaa.bits
