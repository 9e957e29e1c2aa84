/-
  Layer 2: what is read: the contracts of readUnary, readBelow, readGamma, readDelta.
-/
import Derived.Test.YtgcediipkojdbaaCodeH
import Derived.Outline
namespace Go.Proofs.Ytgcediipkojdbaa.bits
open Go.ChangeShapes Go.WideShapes Go.ChangeAt Go.RowKit
set_option linter.unusedVariables false

/-- the bits of a text from a place on -/
def rest (s : ByteArray) (p : Nat) : List Bool := (bitsOf s.data.toList).drop p

theorem rest_len (s : ByteArray) (p : Nat) : (rest s p).length = 8 * s.size - p := by
  unfold rest
  rw [List.length_drop, length_bitsOf]; simp
theorem rest_drop (s : ByteArray) (p k : Nat) : (rest s p).drop k = rest s (p + k) := by
  unfold rest
  rw [List.drop_drop]
theorem fld_rest0 (s : ByteArray) (p n : Nat) : fld s p n = num ((rest s p).take n) := rfl
theorem fld_more (s : ByteArray) (p k : Nat) (h : p + k + 1 ≤ 8 * s.size) : fld s p (k + 1) = 2 * fld s p k + fld s (p + k) 1 := by
  rw [fld_rest0, fld_rest0, fld_rest0, List.take_add, num_append, rest_drop]
  have : ((rest s (p + k)).take 1).length = 1 := by rw [List.length_take, rest_len]; omega
  rw [this]; omega

theorem zeros_no {k : Nat} : ∀ {v : Nat} {l : List Bool}, List.replicate k false <+: l → unary v <+: l → k ≤ v := by
  induction k with
  | zero => intro v l _ _; omega
  | succ k ih =>
    intro v l h g
    rw [List.replicate_succ] at h
    cases l with
    | nil => have := h.length_le; simp at this
    | cons x l =>
      rw [List.cons_prefix_cons] at h
      cases v with
      | zero =>
        rw [show unary 0 = [true] from rfl, List.cons_prefix_cons] at g
        exact absurd (h.1.trans g.1.symm) (by simp)
      | succ v =>
        rw [unary_succ, List.cons_prefix_cons] at g
        have := ih h.2 g.2
        omega

theorem fld_one (s : ByteArray) (p : Nat) (h : p + 1 ≤ 8 * s.size) : ∃ b, [b] <+: rest s p ∧ fld s p 1 = b.toNat := by
  have hl := rest_len s p
  cases hr : rest s p with
  | nil => rw [hr] at hl; simp at hl; omega
  | cons b l =>
    refine ⟨b, ⟨l, rfl⟩, ?_⟩
    rw [fld_rest0, hr]
    simp [num]

theorem zeros_more1 {s : ByteArray} {p k : Nat} (h : List.replicate k false <+: rest s p) (b : Bool) (hb : [b] <+: rest s (p + k)) : List.replicate k false ++ [b] <+: rest s p := by
  rw [pre_append, List.length_replicate, rest_drop]
  exact ⟨h, hb⟩

/-- what a reading call answers: a number whose bits stand there, or none -/
def Got (w : World) (R T : Nat) (F : Nat → Prop) (s : ByteArray) (p : Nat) (tex : Nat → List Bool) (mx : Nat) (e : Ending) (w' : World) : Prop :=
  (∃ v, v ≤ mx ∧ tex v <+: rest s p ∧ e = .returned (.tuple #[.int .u64 (v : Nat), .int .i64 0]) ∧ Rd w' R T F s (p + (tex v).length) ∧ Ch F w w') ∨
  ((∀ v, v ≤ mx → ¬ tex v <+: rest s p) ∧ ∃ (x : Int) (p' : Nat), e = .returned (.tuple #[.int .u64 x, .int .i64 4]) ∧ Rd w' R T F s p' ∧ Ch F w w')

section
variable {w : World} {R T : Nat} {F : Nat → Prop} {s : ByteArray} {p : Nat}

theorem readUnary_any (h : Rd w R T F s p) (mx : Nat) (hm : mx ≤ 65535) :
    Calls Try.prog 29 #[.pointer (some ⟨R, 0, none⟩), .int .u64 mx] w (Got w R T F s p unary mx) := by
  have HR := Lib.hid h
  clear h
  go_enter Try.func29, Try.ntmps29
  go_wp2_with fail
  go_loopw [6] (fun x wq => ∃ k : Nat, k ≤ mx + 1 ∧ x = .int .u64 ↑k ∧ Rd wq R T F s (p + k) ∧ List.replicate k false <+: rest s p ∧ Ch F w wq) (fun x _ => mx + 1 - (intOf x).toNat)
  case atStart => exact ⟨0, by omega, rfl, HR.out, by simp, Ch.refl F w⟩
  case round =>
    obtain ⟨k, hk, rfl, hQ, hz, hc⟩ := hrel
    have HQ := Lib.hid hQ
    have HZ := Lib.hid hz
    have HC := Lib.hid hc
    clear hQ hz hc HR
    by_cases c : k ≤ mx
    · by_cases g : 8 * s.size < p + k + 1
      · have HB := Lib.hid (rbit_form HQ.out g)
        have HG := Lib.hid g
        clear g hk
        go_wp2_with (go_at_call 25; refine HB.out.mono ?_; rintro e w' ⟨rfl, q, rfl⟩)
        go_ret2
        refine .inr ⟨fun v hv hp => ?_, _, _, rfl, HQ.out.drewN q, HC.out.drewN q⟩
        have h1 := zeros_no HZ.out hp
        have h2 := hp.length_le
        rw [length_unary, rest_len] at h2
        have := HG.out
        omega
      · obtain ⟨b, hb, hf⟩ := fld_one s (p + k) (by omega)
        have hB := rbit_ok HQ.out (by omega)
        rw [hf, show (b.toNat == 1) = b from by cases b <;> rfl] at hB
        have HB := Lib.hid hB
        have HP := Lib.hid (zeros_more1 HZ.out b hb)
        clear hB hf hb g
        cases b
        · go_wp2_with (go_at_call 25; refine HB.out.mono ?_; rintro e w' ⟨rfl, hq⟩; have HN := Lib.hid hq; clear hq)
          go_roundw
          case rel => exact ⟨k + 1, by omega, by go_num, by have := HN.out.1; rw [show p + k + 1 = p + (k + 1) from by omega] at this; exact this, by have := HP.out; rw [List.replicate_succ']; exact this, HC.out.trans HN.out.2 fun g h => .inl h⟩
          case measure => simp [intOf] <;> omega
        · go_wp2_with (go_at_call 25; refine HB.out.mono ?_; rintro e w' ⟨rfl, hq⟩; have HN := Lib.hid hq; clear hq)
          go_ret2
          refine .inl ⟨k, by omega, HP.out, rfl, by rw [length_unary]; exact HN.out.1, HC.out.trans HN.out.2 fun g h => .inl h⟩
    · go_wp2_with fail
      go_ret2
      refine .inr ⟨fun v hv hp => ?_, _, _, rfl, HQ.out, HC.out⟩
      have h1 := zeros_no HZ.out hp
      omega
end
end Go.Proofs.Ytgcediipkojdbaa.bits
