/-
  Layer 2: what is read: the contracts of readBelow, readGamma, readDelta.
-/
import Derived.Test.YtgcediipkojdbaaCodeI
import Derived.Outline
namespace Go.Proofs.Ytgcediipkojdbaa.bits
open Go.ChangeShapes Go.WideShapes Go.ChangeAt Go.RowKit
set_option linter.unusedVariables false

section
variable {w : World} {R T : Nat} {F : Nat → Prop} {s : ByteArray} {p : Nat}

theorem below_ok (h : Rd w R T F s p) (b : Nat) (hb : b ≤ 47) (hl : p + b ≤ 8 * s.size) :
    Calls Try.prog 44 #[.pointer (some ⟨R, 0, none⟩), .int .u64 b] w fun e w' => e = .returned (.tuple #[.int .u64 ((2 ^ b + fld s p b - 1 : Nat) : Int), .int .i64 0]) ∧ Rd w' R T F s (p + b) ∧ Ch F w w' := by
  have HT := Lib.hid (rtake_ok h b (by omega) hl)
  have hf := fld_lt s p b
  have hp : 2 ^ b ≤ 2 ^ 47 := Nat.pow_le_pow_right (by omega) hb
  have hp1 := Nat.two_pow_pos b
  have e1 := pow_wrap (n := b) (by omega)
  generalize fld s p b = x at HT hf ⊢
  generalize 2 ^ b = A at e1 hf hp hp1 ⊢
  have e2 : IntKind.u64.wrap ((A : Int) + (x : Int)) = (A : Int) + (x : Int) := by rw [PlainAid.u64_nonneg (by omega) (by omega)]
  have e3 : IntKind.u64.wrap ((A : Int) + (x : Int) - 1) = ((A + x - 1 : Nat) : Int) := by rw [PlainAid.u64_nonneg (by omega) (by omega)]; omega
  generalize A + x - 1 = y at e3 ⊢
  clear hf hp hp1 h hl
  go_enter Try.func44, Try.ntmps44
  go_wp2_with (go_at_call 42; refine HT.out.mono ?_; rintro e w' ⟨rfl, hq⟩; have HQ := Lib.hid hq; clear hq)
  go_ret2
  exact ⟨rfl, HQ.out⟩

theorem below_form (h : Rd w R T F s p) (b : Nat) (hb : b ≤ 47) (hl : 8 * s.size < p + b) :
    Calls Try.prog 44 #[.pointer (some ⟨R, 0, none⟩), .int .u64 b] w fun e w' => (∃ x : Int, e = .returned (.tuple #[.int .u64 x, .int .i64 4])) ∧ Rd w' R T F s p ∧ Ch F w w' := by
  have HT := Lib.hid (rtake_form h b (by omega) hl)
  have HR := Lib.hid h
  clear h hl
  go_enter Try.func44, Try.ntmps44
  go_wp2_with (go_at_call 42; refine HT.out.mono ?_; rintro e w' ⟨rfl, q, rfl⟩)
  go_ret2
  exact ⟨⟨_, rfl⟩, HR.out.drewN q, (Ch.refl F w).drewN q⟩

/-- the rest of a number of b bits -/
theorem tail_of {tex : Nat → List Bool} {b : Nat} {hd : List Bool} (hd0 : hd <+: rest s p) (ht : ∀ r, r < 2 ^ b → tex (2 ^ b + r - 1) = hd ++ ofNum r b) (hl : p + hd.length + b ≤ 8 * s.size) :
    tex (2 ^ b + fld s (p + hd.length) b - 1) <+: rest s p ∧ (tex (2 ^ b + fld s (p + hd.length) b - 1)).length = hd.length + b := by
  rw [ht _ (fld_lt _ _ _)]
  refine ⟨?_, by rw [List.length_append, length_ofNum]⟩
  rw [pre_append, rest_drop, pre_ofNum (fld_lt _ _ _)]
  refine ⟨hd0, ?_, rfl⟩
  rw [rest_len]
  omega
theorem tail_none {b r : Nat} {hd : List Bool} (hp : p ≤ 8 * s.size) (hr : r < 2 ^ b) (hl : 8 * s.size < p + hd.length + b) : ¬ hd ++ ofNum r b <+: rest s p := by
  intro h
  have h2 := h.length_le
  rw [List.length_append, length_ofNum, rest_len] at h2
  have := (pre_append.1 h).1.length_le
  rw [rest_len] at this
  omega

theorem readGamma_any (h : Rd w R T F s p) :
    Calls Try.prog 30 #[.pointer (some ⟨R, 0, none⟩)] w (Got w R T F s p gam 281474976710654) := by
  have HU := Lib.hid (readUnary_any h 47 (by omega))
  clear h
  go_enter Try.func30, Try.ntmps30
  go_wp2_with fail
  refine HU.out.mono ?_
  rintro e w2 (⟨b, hb, hp, rfl, hR, hc⟩ | ⟨hn, x, p', rfl, hR, hc⟩)
  · have HP := Lib.hid hp
    have HR := Lib.hid hR
    have HC := Lib.hid hc
    rw [length_unary] at hR
    by_cases g : p + (b + 1) + b ≤ 8 * s.size
    · have HB := Lib.hid (below_ok hR b hb g)
      have HG := Lib.hid g
      have HV := Lib.hid (tail_of (tex := gam) (b := b) hp (fun r hr => gam_of hr) (by rw [length_unary]; exact g))
      clear hp hR hc g
      go_wp2_with (go_at_call 44; refine HB.out.mono ?_; rintro e w3 ⟨rfl, hq⟩; have HQ := Lib.hid hq; clear hq)
      go_ret2
      have hv := HV.out
      rw [length_unary] at hv
      have hf := fld_lt s (p + (b + 1)) b
      have hpw : 2 ^ b ≤ 2 ^ 47 := Nat.pow_le_pow_right (by omega) hb
      refine .inl ⟨_, by omega, hv.1, rfl, ?_, HC.out.trans HQ.out.2 fun g h => .inl h⟩
      rw [hv.2, ← Nat.add_assoc]
      exact HQ.out.1
    · have HB := Lib.hid (below_form hR b hb (by omega))
      have HG := Lib.hid g
      clear hp hR hc g
      go_wp2_with (go_at_call 44; refine HB.out.mono ?_; rintro e w3 ⟨⟨y, rfl⟩, hq⟩; have HQ := Lib.hid hq; clear hq)
      go_ret2
      refine .inr ⟨fun v hv hg => ?_, _, _, rfl, HQ.out.1, HC.out.trans HQ.out.2 fun g h => .inl h⟩
      obtain ⟨h1, h2⟩ := parts v
      have h3 : unary (v + 1).log2 <+: rest s p := (pre_append.1 hg).1
      have h4 := unary_free HP.out h3
      unfold gam at hg
      rw [← h4] at hg h1
      exact tail_none (by have := HR.out.le; omega) h1 (by rw [length_unary]; have := HG.out; omega) hg
  · have HN := Lib.hid hn
    have HR := Lib.hid hR
    have HC := Lib.hid hc
    clear hn hR hc
    go_wp2_with fail
    go_ret2
    refine .inr ⟨fun v hv hg => ?_, _, _, rfl, HR.out, HC.out⟩
    exact HN.out _ (by have := log2_le (v := v) (n := 48) (by omega); omega) (pre_append.1 hg).1

theorem readDelta_any (h : Rd w R T F s p) :
    Calls Try.prog 31 #[.pointer (some ⟨R, 0, none⟩)] w (Got w R T F s p del 281474976710654) := by
  have HU := Lib.hid (readGamma_any h)
  clear h
  go_enter Try.func31, Try.ntmps31
  go_wp2_with fail
  refine HU.out.mono ?_
  rintro e w2 (⟨b, hb, hp, rfl, hR, hc⟩ | ⟨hn, x, p', rfl, hR, hc⟩)
  · have HP := Lib.hid hp
    have HR := Lib.hid hR
    have HC := Lib.hid hc
    by_cases c : b ≤ 47
    · have hbi : (b : Int) ≤ 47 := by omega
      by_cases g : p + (gam b).length + b ≤ 8 * s.size
      · have HB := Lib.hid (below_ok hR b c g)
        have HG := Lib.hid g
        have HV := Lib.hid (tail_of (tex := del) (b := b) hp (fun r hr => del_of hr) g)
        have HCC := Lib.hid c
        clear hp hR hc g hb c
        go_wp2_with (go_at_call 44; refine HB.out.mono ?_; rintro e w3 ⟨rfl, hq⟩; have HQ := Lib.hid hq; clear hq)
        go_ret2
        have hv := HV.out
        have hf := fld_lt s (p + (gam b).length) b
        have hpw : 2 ^ b ≤ 2 ^ 47 := Nat.pow_le_pow_right (by omega) HCC.out
        refine .inl ⟨_, by omega, hv.1, rfl, ?_, HC.out.trans HQ.out.2 fun g h => .inl h⟩
        rw [hv.2, ← Nat.add_assoc]
        exact HQ.out.1
      · have HB := Lib.hid (below_form hR b c (by omega))
        have HG := Lib.hid g
        clear hp hR hc g hb c
        go_wp2_with (go_at_call 44; refine HB.out.mono ?_; rintro e w3 ⟨⟨y, rfl⟩, hq⟩; have HQ := Lib.hid hq; clear hq)
        go_ret2
        refine .inr ⟨fun v hv hg => ?_, _, _, rfl, HQ.out.1, HC.out.trans HQ.out.2 fun g h => .inl h⟩
        obtain ⟨h1, h2⟩ := parts v
        have h3 : gam (v + 1).log2 <+: rest s p := (pre_append.1 hg).1
        have h4 := gam_free HP.out h3
        unfold del at hg
        rw [← h4] at hg h1
        exact tail_none (by have := HR.out.le; omega) h1 (by have := HG.out; omega) hg
    · have hbi : (47 : Int) < (b : Int) := by omega
      have HCC := Lib.hid c
      clear hp hR hc hb c
      go_wp2_with fail
      go_ret2
      refine .inr ⟨fun v hv hg => ?_, _, _, rfl, HR.out, HC.out⟩
      have h4 := gam_free HP.out (pre_append.1 hg).1
      have := log2_le (v := v) (n := 48) (by omega)
      have := HCC.out
      omega
  · have HN := Lib.hid hn
    have HR := Lib.hid hR
    have HC := Lib.hid hc
    clear hn hR hc
    go_wp2_with fail
    go_ret2
    refine .inr ⟨fun v hv hg => ?_, _, _, rfl, HR.out, HC.out⟩
    exact HN.out _ (by have := log2_le (v := v) (n := 48) (by omega); omega) (pre_append.1 hg).1
end
end Go.Proofs.Ytgcediipkojdbaa.bits
