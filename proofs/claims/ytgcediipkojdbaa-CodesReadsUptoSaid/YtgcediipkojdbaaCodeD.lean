/-
  Layer 2: the contracts of spellGamma, spellMinimal, zetaCount.
-/
import Derived.Test.YtgcediipkojdbaaCodeC
import Derived.Outline
namespace Go.Proofs.Ytgcediipkojdbaa.bits
open Go.ChangeShapes Go.WideShapes Go.ChangeAt Go.RowKit
set_option linter.unusedVariables false

theorem pow_cast (n : Nat) : (2 ^ n : Int) = ((2 ^ n : Nat) : Int) := by simp
theorem u64_nat {m : Nat} (h : m < 18446744073709551616) : IntKind.u64.wrap (m : Int) = (m : Int) := PlainAid.u64_nonneg (by omega) (by omega)
theorem u64_sub {a b : Nat} (h : b ≤ a) (ha : a < 18446744073709551616) : IntKind.u64.wrap ((a : Int) - (b : Int)) = ((a - b : Nat) : Int) := by
  rw [PlainAid.u64_nonneg (by omega) (by omega)]; omega
theorem u64_add {a b : Nat} (h : a + b < 18446744073709551616) : IntKind.u64.wrap ((a : Int) + (b : Int)) = ((a + b : Nat) : Int) := by
  rw [PlainAid.u64_nonneg (by omega) (by omega)]; omega
theorem pow_wrap {n : Nat} (h : n ≤ 63) : IntKind.u64.wrap (2 ^ n : Int) = ((2 ^ n : Nat) : Int) := by
  have hp : 2 ^ n ≤ 2 ^ 63 := Nat.pow_le_pow_right (by omega) h
  rw [pow_cast]
  exact u64_nat (by omega)

theorem zcount_any (h K : Nat) (w : World) (hK : 1 ≤ K) (hb : (h + 1) * K ≤ 63) :
    Calls Try.prog 45 #[.int .u64 h, .int .u64 K] w fun e w' => e = .returned (.int .u64 (zcount h K)) ∧ w = w' := by
  have hz := (zcount_pos (h := h) hK).2
  unfold zcount
  have hh : h ≤ 62 := by
    have : (h + 1) * 1 ≤ (h + 1) * K := Nat.mul_le_mul_left _ hK
    omega
  have hKK : K ≤ 63 := by
    have : 1 * K ≤ (h + 1) * K := Nat.mul_le_mul_right _ (by omega)
    omega
  obtain ⟨a, ha⟩ : ∃ a, a = (h + 1) * K := ⟨_, rfl⟩
  obtain ⟨b, hb2⟩ : ∃ b, b = h * K := ⟨_, rfl⟩
  have hab : b ≤ a := by rw [ha, hb2]; exact Nat.mul_le_mul_right _ (by omega)
  rw [← ha] at hb ⊢
  rw [← hb2]
  have e0 : IntKind.u64.wrap ((h : Int) + 1) = (h : Int) + 1 := by rw [PlainAid.u64_nonneg (by omega) (by omega)]
  have e1 : IntKind.u64.wrap (((h : Int) + 1) * (K : Int)) = (a : Int) := by
    rw [show ((h : Int) + 1) * (K : Int) = (a : Int) from by rw [ha]; simp, PlainAid.u64_nonneg (by omega) (by omega)]
  have e2 : IntKind.u64.wrap ((h : Int) * (K : Int)) = (b : Int) := by
    rw [show (h : Int) * (K : Int) = (b : Int) from by rw [hb2]; simp, PlainAid.u64_nonneg (by omega) (by omega)]
  have e3 := pow_wrap hb
  have e4 := pow_wrap (n := b) (by omega)
  have hp : 2 ^ b ≤ 2 ^ a := Nat.pow_le_pow_right (by omega) hab
  have hp2 : 2 ^ a ≤ 2 ^ 63 := Nat.pow_le_pow_right (by omega) hb
  have HE : Hid (IntKind.u64.wrap (((2 ^ a : Nat) : Int) - ((2 ^ b : Nat) : Int)) = ((2 ^ a - 2 ^ b : Nat) : Int)) := Lib.hid (u64_sub hp (by omega))
  clear hz ha hb2 hp hp2
  go_enter Try.func45, Try.ntmps45
  go_wp2_with fail
  go_ret
  exact ⟨by rw [← HE.out]; rfl, rfl⟩

section
variable {Inv : World → (Nat → Prop) → List Bool → Prop} {w wr : World} {F : Nat → Prop} {bs : List Bool} {k : FuncId} {P M : Nat}

theorem drewN_none (w : World) (q : Nat) : Ch (fun _ => False) w (w.drewN q) := (Ch.refl (fun _ => False) w).drewN q

theorem spellMinimal_any (S : SayK k P M Inv) (h : Grew Inv w F bs wr) (v c : Nat) (hv : v < c) (hc : c ≤ 9223372036854775808) (hm : bs.length + (mini v c).length ≤ M) :
    Calls Try.prog 53 #[.int .u64 v, .int .u64 c, .func (Fn.func k) #[] #[.pointer (some ⟨P, 0, none⟩)]] wr fun e w' => e = .returned (.tuple #[]) ∧ Grew Inv w F (bs ++ mini v c) w' := by
  have HW := Lib.hid (width_any c wr (by omega) hc)
  have HS := Lib.hid S
  have HG : Hid (∀ q, Grew Inv w F bs (wr.drewN q)) := Lib.hid fun q => h.keep S (drewN_none wr q)
  have hw : wid c ≤ 63 := wid_le (n := 63) (by omega)
  have hh := wid_hi (k := c) (by omega)
  have hp : 2 ^ wid c ≤ 2 ^ 63 := Nat.pow_le_pow_right (by omega) hw
  by_cases s : v < 2 ^ wid c - c
  · have hl := mini_short_len s
    have h2 : 2 ≤ c := by
      rcases Nat.lt_or_ge c 2 with x | x
      · obtain rfl : c = 1 := by omega
        rw [wid_one] at s; omega
      · exact x
    have h3 := wid_pos h2
    have h4 := wid_lo h2
    have h5 := two_wid h2
    have HM := Lib.hid (show bs.length + (wid c - 1) ≤ M from by omega)
    have HV := Lib.hid (show v < 2 ^ (wid c - 1) from by omega)
    have e0 : mini v c = ofNum v (wid c - 1) := by unfold mini; rw [if_pos s]
    rw [e0]
    have si : (v : Int) < ((2 ^ wid c - c : Nat) : Int) := by omega
    obtain ⟨n, hn⟩ : ∃ n, n = wid c := ⟨_, rfl⟩
    obtain ⟨m, hm2⟩ : ∃ m, m = 2 ^ wid c - c := ⟨_, rfl⟩
    rw [← hm2] at si HW
    rw [← hn] at HW HM HV hw h3 ⊢
    have e1 : IntKind.i64.wrap ((n : Int) - 1) = ((n - 1 : Nat) : Int) := by rw [show (n : Int) - 1 = ((n - 1 : Nat) : Int) from by omega]; exact IntWalk.i64_in _ (by omega)
    clear hl s hm hh hp h4 h5 e0 hn hm2 h
    rcases S.which with rfl | rfl
    all_goals
      clear S
      go_enter Try.func53, Try.ntmps53
      go_wp2_with (go_at_call 46; refine HW.out.mono ?_; rintro e w' ⟨rfl, q, rfl⟩)
      refine (grew_call HS.out (HG.out q) v (n - 1) (by omega) HV.out HM.out).mono ?_
      rintro e w2 ⟨rfl, hq⟩
      have HQ2 := Lib.hid hq
      clear hq
      go_wp2_with fail
      first | go_end0 | refine bodyPost_ret (results_none rfl _ _ _) rfl ?_
      exact ⟨rfl, HQ2.out⟩
  · have hl : (mini v c).length = wid c := mini_long_len (by omega)
    have HM := Lib.hid (show bs.length + wid c ≤ M from by omega)
    have HV := Lib.hid (show v + (2 ^ wid c - c) < 2 ^ wid c from by omega)
    have e0 : mini v c = ofNum (v + (2 ^ wid c - c)) (wid c) := by unfold mini; rw [if_neg s]
    rw [e0]
    have si : ((2 ^ wid c - c : Nat) : Int) ≤ (v : Int) := by omega
    obtain ⟨n, hn⟩ : ∃ n, n = wid c := ⟨_, rfl⟩
    have hb : v + (2 ^ wid c - c) ≤ 9223372036854775808 := by omega
    obtain ⟨m, hm2⟩ : ∃ m, m = 2 ^ wid c - c := ⟨_, rfl⟩
    rw [← hm2] at si HW HV hb ⊢
    rw [← hn] at HW HM HV hw ⊢
    have e1 : IntKind.u64.wrap ((v : Int) + (m : Int)) = ((v + m : Nat) : Int) := by rw [PlainAid.u64_nonneg (by omega) (by omega)]; simp
    clear hl s hm hh hp e0 hn hm2 h hb
    rcases S.which with rfl | rfl
    all_goals
      clear S
      go_enter Try.func53, Try.ntmps53
      go_wp2_with (go_at_call 46; refine HW.out.mono ?_; rintro e w' ⟨rfl, q, rfl⟩)
      refine (grew_call HS.out (HG.out q) (v + m) n (by omega) HV.out HM.out).mono ?_
      rintro e w2 ⟨rfl, hq⟩
      have HQ2 := Lib.hid hq
      clear hq
      go_wp2_with fail
      go_end0
      exact ⟨rfl, HQ2.out⟩

theorem spellGamma_any (S : SayK k P M Inv) (h : Grew Inv w F bs wr) (v : Nat) (hv : v ≤ 281474976710654) (hm : bs.length + (gam v).length ≤ M) :
    Calls Try.prog 51 #[.int .u64 v, .func (Fn.func k) #[] #[.pointer (some ⟨P, 0, none⟩)]] wr fun e w' => e = .returned (.tuple #[]) ∧ Grew Inv w F (bs ++ gam v) w' := by
  have HL := Lib.hid (log_any (v + 1) wr (by omega) (by omega))
  have HS := Lib.hid S
  have hb := log2_le (v := v) (n := 48) (by omega)
  have hlo := log2_lo v
  have hr := (parts v).1
  rw [length_gam] at hm
  have e9 : bs ++ gam v = bs ++ unary (v + 1).log2 ++ ofNum (v + 1 - 2 ^ (v + 1).log2) (v + 1).log2 := by unfold gam; rw [List.append_assoc]
  rw [e9]
  clear e9
  obtain ⟨b, hb2⟩ : ∃ b, b = (v + 1).log2 := ⟨_, rfl⟩
  rw [← hb2] at HL hb hlo hr hm ⊢
  have HU := Lib.hid (spellUnary_any S h b (by omega) (by omega))
  have HM := Lib.hid (show (bs ++ unary b).length + b ≤ M from by rw [List.length_append, length_unary]; omega)
  have e0 : IntKind.u64.wrap ((v : Int) + 1) = (v : Int) + 1 := by rw [PlainAid.u64_nonneg (by omega) (by omega)]
  have e1 := pow_wrap (n := b) (by omega)
  obtain ⟨A, hA⟩ : ∃ A, A = 2 ^ b := ⟨_, rfl⟩
  obtain ⟨r, hr2⟩ : ∃ r, r = v + 1 - 2 ^ b := ⟨_, rfl⟩
  have e2 : IntKind.u64.wrap ((v : Int) + 1 - (A : Int)) = (r : Int) := by
    rw [show (v : Int) + 1 = ((v + 1 : Nat) : Int) from by simp, u64_sub (by omega) (by omega)]; omega
  rw [← hr2] at hr ⊢
  rw [← hA] at e1
  have HR := Lib.hid hr
  have hb3 : b ≤ 47 := by omega
  have hvi : (v : Int) ≤ 281474976710654 := by omega
  clear hb hlo hr hm hb2 h hv hA hr2
  rcases S.which with rfl | rfl
  all_goals
    clear S
    go_enter Try.func51, Try.ntmps51
    go_wp2_with (first | (go_at_call 52; refine HL.out.mono ?_; rintro e w' ⟨rfl, rfl⟩) | (go_at_call 50; refine HU.out.mono ?_; rintro e w2 ⟨rfl, hq⟩; have HQ := Lib.hid hq; clear hq))
    refine (grew_call HS.out HQ.out r b (by omega) HR.out HM.out).mono ?_
    rintro e w3 ⟨rfl, hq⟩
    have HQ2 := Lib.hid hq
    clear hq
    go_wp2_with fail
    go_end0
    exact ⟨rfl, HQ2.out⟩
end
end Go.Proofs.Ytgcediipkojdbaa.bits
