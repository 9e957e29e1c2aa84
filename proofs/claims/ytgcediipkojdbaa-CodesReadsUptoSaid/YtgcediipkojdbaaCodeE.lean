/-
  Layer 2: the contracts of spell, Len, Put.
-/
import Derived.Test.YtgcediipkojdbaaCodeD
import Derived.Deep.RegionHeld3
import Derived.Outline
namespace Go.Proofs.Ytgcediipkojdbaa.bits
open Go.ChangeShapes Go.WideShapes Go.ChangeAt Go.RowKit
set_option linter.unusedVariables false

section
variable {Inv : World → (Nat → Prop) → List Bool → Prop} {w wr : World} {F : Nat → Prop} {bs : List Bool} {k : FuncId} {P M : Nat}

theorem spell_any0 (S : SayK k P M Inv) (h : Grew Inv w F bs wr) (v : Nat) (hv : v ≤ 65535) (hM : bs.length + (v + 1) ≤ M) :
    Calls Try.prog 37 #[.agg #[.int .u8 0, .int .u64 0], .int .u64 v, .func (Fn.func k) #[] #[.pointer (some ⟨P, 0, none⟩)]] wr fun e w' => e = .returned (.tuple #[]) ∧ Grew Inv w F (bs ++ unary v) w' := by
  obtain ⟨F1, hg, hback⟩ := h.guest S (.cells #[.int .u8 0, .int .u64 0] 35)
  have HU := Lib.hid (spellUnary_any S hg v hv hM)
  have HB := Lib.hid hback
  clear hback hg hM h hv
  rcases S.which with rfl | rfl
  all_goals
    clear S
    go_enter Try.func37, Try.ntmps37
    go_wp2_with (go_at_call 50; refine HU.out.mono ?_; rintro e w2 ⟨rfl, hq⟩; have HQ := Lib.hid hq; clear hq)
    go_end0
    exact ⟨rfl, (HB.out _ _ HQ.out).1⟩

theorem spell_any1 (S : SayK k P M Inv) (h : Grew Inv w F bs wr) (v : Nat) (hv : v ≤ 281474976710654) (hM : bs.length + (gam v).length ≤ M) :
    Calls Try.prog 37 #[.agg #[.int .u8 1, .int .u64 0], .int .u64 v, .func (Fn.func k) #[] #[.pointer (some ⟨P, 0, none⟩)]] wr fun e w' => e = .returned (.tuple #[]) ∧ Grew Inv w F (bs ++ gam v) w' := by
  obtain ⟨F1, hg, hback⟩ := h.guest S (.cells #[.int .u8 1, .int .u64 0] 35)
  have HU := Lib.hid (spellGamma_any S hg v hv hM)
  have HB := Lib.hid hback
  clear hback hg hM h hv
  rcases S.which with rfl | rfl
  all_goals
    clear S
    go_enter Try.func37, Try.ntmps37
    go_wp2_with (go_at_call 51; refine HU.out.mono ?_; rintro e w2 ⟨rfl, hq⟩; have HQ := Lib.hid hq; clear hq)
    go_end0
    exact ⟨rfl, (HB.out _ _ HQ.out).1⟩

theorem spell_any2 (S : SayK k P M Inv) (h : Grew Inv w F bs wr) (v : Nat) (hv : v ≤ 281474976710654) (hM : bs.length + (del v).length ≤ M) :
    Calls Try.prog 37 #[.agg #[.int .u8 2, .int .u64 0], .int .u64 v, .func (Fn.func k) #[] #[.pointer (some ⟨P, 0, none⟩)]] wr fun e w' => e = .returned (.tuple #[]) ∧ Grew Inv w F (bs ++ del v) w' := by
  obtain ⟨F1, hg, hback⟩ := h.guest S (.cells #[.int .u8 2, .int .u64 0] 35)
  have HB := Lib.hid hback
  have HL := Lib.hid fun W : World => log_any (v + 1) W (by omega) (by omega)
  have HS := Lib.hid S
  have hb := log2_le (v := v) (n := 48) (by omega)
  have hlo := log2_lo v
  have hr := (parts v).1
  rw [length_del] at hM
  have e9 : bs ++ del v = bs ++ gam (v + 1).log2 ++ ofNum (v + 1 - 2 ^ (v + 1).log2) (v + 1).log2 := by unfold del; rw [List.append_assoc]
  rw [e9]
  clear e9
  obtain ⟨b, hb2⟩ : ∃ b, b = (v + 1).log2 := ⟨_, rfl⟩
  rw [← hb2] at HL hb hlo hr hM ⊢
  have HU := Lib.hid (spellGamma_any S hg b (by omega) (by rw [length_gam]; omega))
  have HM := Lib.hid (show (bs ++ gam b).length + b ≤ M from by rw [List.length_append, length_gam]; omega)
  have e0 : IntKind.u64.wrap ((v : Int) + 1) = (v : Int) + 1 := by rw [PlainAid.u64_nonneg (by omega) (by omega)]
  have e1 := pow_wrap (n := b) (by omega)
  obtain ⟨A, hA⟩ : ∃ A, A = 2 ^ b := ⟨_, rfl⟩
  obtain ⟨r, hr2⟩ : ∃ r, r = v + 1 - 2 ^ b := ⟨_, rfl⟩
  have e2 : IntKind.u64.wrap ((v : Int) + 1 - (A : Int)) = (r : Int) := by
    rw [show (v : Int) + 1 = ((v + 1 : Nat) : Int) from by simp, u64_sub (by omega) (by omega)]; omega
  rw [← hr2] at hr ⊢
  rw [← hA] at e1
  have HR := Lib.hid hr
  have hb3 : b ≤ 47 := by omega
  have hvi : (v : Int) ≤ 281474976710654 := by omega
  clear hb hlo hr hM hb2 h hv hA hr2 hg hback
  rcases S.which with rfl | rfl
  all_goals
    clear S
    go_enter Try.func37, Try.ntmps37
    go_wp2_with (first | (go_at_call 52; refine (HL.out _).mono ?_; rintro e w' ⟨rfl, rfl⟩) | (go_at_call 51; refine HU.out.mono ?_; rintro e w2 ⟨rfl, hq⟩; have HQ := Lib.hid hq; clear hq))
    refine (grew_call HS.out HQ.out r b (by omega) HR.out HM.out).mono ?_
    rintro e w3 ⟨rfl, hq⟩
    have HQ2 := Lib.hid hq
    clear hq
    go_wp2_with fail
    go_end0
    exact ⟨rfl, (HB.out _ _ HQ2.out).1⟩

theorem spell_any4 (S : SayK k P M Inv) (h : Grew Inv w F bs wr) (v K : Nat) (hv : v < K) (hK : K ≤ 281474976710655) (hM : bs.length + (mini v K).length ≤ M) :
    Calls Try.prog 37 #[.agg #[.int .u8 4, .int .u64 K], .int .u64 v, .func (Fn.func k) #[] #[.pointer (some ⟨P, 0, none⟩)]] wr fun e w' => e = .returned (.tuple #[]) ∧ Grew Inv w F (bs ++ mini v K) w' := by
  obtain ⟨F1, hg, hback⟩ := h.guest S (.cells #[.int .u8 4, .int .u64 K] 35)
  have HU := Lib.hid (spellMinimal_any S hg v K hv (by omega) hM)
  have HB := Lib.hid hback
  clear hback hg hM h hv hK
  rcases S.which with rfl | rfl
  all_goals
    clear S
    go_enter Try.func37, Try.ntmps37
    go_wp2_with (go_at_call 53; refine HU.out.mono ?_; rintro e w2 ⟨rfl, hq⟩; have HQ := Lib.hid hq; clear hq)
    go_end0
    exact ⟨rfl, (HB.out _ _ HQ.out).1⟩
end
end Go.Proofs.Ytgcediipkojdbaa.bits
