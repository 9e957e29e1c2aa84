/-
  Layer 2, the document's answers: zeros, short.
-/
import Derived.Test.YtgcediipkojdbaaQCheck
import Derived.Test.YtgcediipkojdbaaReadsA
import Derived.Outline
namespace Go.Proofs.Ytgcediipkojdbaa.bits
open Go.ChangeShapes Go.WideShapes Go.ChangeAt Go.RowKit
set_option linter.unusedVariables false

/-- the document's reader of a text's bits -/
def RQ (w : World) (Q : Nat) (F : Nat → Prop) (v : Value) (s : ByteArray) (p : Nat) : Prop := Rr w Q F v (bitsOf s.data.toList) p ∧ s.size ≤ 17592186044416

section
variable {w : World} {Q : Nat} {F : Nat → Prop} {v : Value} {s : ByteArray} {p : Nat}

theorem RQ.le (h : RQ w Q F v s p) : p ≤ 8 * s.size := by have := h.1.le; rw [bits_len] at this; exact this
theorem RQ.drewN (h : RQ w Q F v s p) (n : Nat) : RQ (w.drewN n) Q F v s p := ⟨h.1.drewN n, h.2⟩
theorem RQ.kept (h : RQ w Q F v s p) {w' : World} {G : Nat → Prop} (hc : Ch G w w') (hd : ∀ g, F g → ¬ G g) : RQ w' Q F v s p := ⟨h.1.kept hc hd, h.2⟩

theorem qbit_form (h : RQ w Q F v s p) (hl : 8 * s.size < p + 1) :
    Calls Try.prog 58 #[.pointer (some ⟨Q, 0, none⟩)] w fun e w' => e = .returned (.tuple #[.bool false, .int .i64 4]) ∧ ∃ q, w' = w.drewN q :=
  rrbit_form h.1 (by rw [bits_len]; exact hl) (by rw [bits_len]; have := h.2; omega)
theorem qbit_ok (h : RQ w Q F v s p) (hl : p + 1 ≤ 8 * s.size) :
    Calls Try.prog 58 #[.pointer (some ⟨Q, 0, none⟩)] w fun e w' => e = .returned (.tuple #[.bool (fld s p 1 == 1), .int .i64 0]) ∧ RQ w' Q F v s (p + 1) ∧ Ch F w w' :=
  (rrbit_ok h.1 (by rw [bits_len]; exact hl) (by rw [bits_len]; have := h.2; omega)).mono fun _ _ ⟨he, hr, hc⟩ => ⟨he, ⟨hr, h.2⟩, hc⟩
theorem qtake_form (h : RQ w Q F v s p) (n : Nat) (hn : n ≤ 64) (hl : 8 * s.size < p + n) :
    Calls Try.prog 48 #[.pointer (some ⟨Q, 0, none⟩), .int .i64 n] w fun e w' => e = .returned (.tuple #[.int .u64 0, .int .i64 4]) ∧ ∃ q, w' = w.drewN q :=
  rrtake_form h.1 n hn (by rw [bits_len]; exact hl) (by rw [bits_len]; have := h.2; omega)
theorem qtake_ok (h : RQ w Q F v s p) (n : Nat) (hn : n ≤ 64) (hl : p + n ≤ 8 * s.size) :
    Calls Try.prog 48 #[.pointer (some ⟨Q, 0, none⟩), .int .i64 n] w fun e w' => e = .returned (.tuple #[.int .u64 (fld s p n), .int .i64 0]) ∧ RQ w' Q F v s (p + n) ∧ Ch F w w' :=
  (rrtake_ok h.1 n hn (by rw [bits_len]; exact hl) (by rw [bits_len]; have := h.2; omega)).mono fun _ _ ⟨he, hr, hc⟩ => ⟨he, ⟨hr, h.2⟩, hc⟩

def ZGot (w : World) (Q : Nat) (F : Nat → Prop) (v : Value) (s : ByteArray) (p : Nat) (mx : Nat) (e : Ending) (w' : World) : Prop :=
  (∃ n, n ≤ mx ∧ unary n <+: rest s p ∧ e = .returned (.tuple #[.int .i64 (n : Nat), .bool true]) ∧ RQ w' Q F v s (p + (n + 1)) ∧ Ch F w w') ∨
  ((∀ n, n ≤ mx → ¬ unary n <+: rest s p) ∧ ∃ p', e = .returned (.tuple #[.int .i64 0, .bool false]) ∧ RQ w' Q F v s p' ∧ Ch F w w')

theorem zeros_any (h : RQ w Q F v s p) (mx : Nat) (hm : mx ≤ 65535) :
    Calls Try.prog 47 #[.pointer (some ⟨Q, 0, none⟩), .int .i64 mx] w (ZGot w Q F v s p mx) := by
  have HR := Lib.hid h
  clear h
  go_enter Try.func47, Try.ntmps47
  go_wp2_with fail
  go_loopw [6] (fun x wq => ∃ k : Nat, k ≤ mx + 1 ∧ x = .int .i64 ↑k ∧ RQ wq Q F v s (p + k) ∧ List.replicate k false <+: rest s p ∧ Ch F w wq) (fun x _ => mx + 1 - (intOf x).toNat)
  case atStart => exact ⟨0, by omega, rfl, HR.out, by simp, Ch.refl F w⟩
  case round =>
    obtain ⟨k, hk, rfl, hQ, hz, hc⟩ := hrel
    have HQ := Lib.hid hQ
    have HZ := Lib.hid hz
    have HC := Lib.hid hc
    clear hQ hz hc HR
    by_cases c : k ≤ mx
    · by_cases g : 8 * s.size < p + k + 1
      · have HB := Lib.hid (qbit_form HQ.out g)
        have HG := Lib.hid g
        clear g hk
        go_wp2_with (go_at_call 58; refine HB.out.mono ?_; rintro e w' ⟨rfl, q, rfl⟩)
        go_ret2
        refine .inr ⟨fun n hv hp => ?_, _, rfl, HQ.out.drewN q, HC.out.drewN q⟩
        have h1 := zeros_no HZ.out hp
        have h2 := hp.length_le
        rw [length_unary, rest_len] at h2
        have := HG.out
        omega
      · obtain ⟨b, hb, hf⟩ := fld_one s (p + k) (by omega)
        have hB := qbit_ok HQ.out (by omega)
        rw [hf, show (b.toNat == 1) = b from by cases b <;> rfl] at hB
        have HB := Lib.hid hB
        have HP := Lib.hid (zeros_more1 HZ.out b hb)
        clear hB hf hb g
        cases b
        · go_wp2_with (go_at_call 58; refine HB.out.mono ?_; rintro e w' ⟨rfl, hq⟩; have HN := Lib.hid hq; clear hq)
          go_roundw
          case rel => exact ⟨k + 1, by omega, by go_num, by have := HN.out.1; rw [show p + k + 1 = p + (k + 1) from by omega] at this; exact this, by have := HP.out; rw [List.replicate_succ']; exact this, HC.out.trans HN.out.2 fun g h => .inl h⟩
          case measure => simp [intOf] <;> omega
        · go_wp2_with (go_at_call 58; refine HB.out.mono ?_; rintro e w' ⟨rfl, hq⟩; have HN := Lib.hid hq; clear hq)
          go_ret2
          refine .inl ⟨k, by omega, HP.out, rfl, HN.out.1, HC.out.trans HN.out.2 fun g h => .inl h⟩
    · go_wp2_with fail
      go_ret2
      refine .inr ⟨fun n hv hp => ?_, _, rfl, HQ.out, HC.out⟩
      have h1 := zeros_no HZ.out hp
      omega

/-- what read and short answer: a number, mf at most, that stands there and no other one up to mx; or none -/
def QGot (w : World) (Q : Nat) (F : Nat → Prop) (v : Value) (s : ByteArray) (p : Nat) (tex : Nat → List Bool) (mx mf : Nat) (e : Ending) (w' : World) : Prop :=
  (∃ x, tex x <+: rest s p ∧ (∀ y, y ≤ mx → tex y <+: rest s p → y = x) ∧ x ≤ mf ∧ e = .returned (.tuple #[.int .u64 (x : Nat), .bool true]) ∧ RQ w' Q F v s (p + (tex x).length) ∧ Ch F w w') ∨
  ((∀ y, y ≤ mx → ¬ tex y <+: rest s p) ∧ ∃ (z : Int) (p' : Nat), e = .returned (.tuple #[.int .u64 z, .bool false]) ∧ RQ w' Q F v s p' ∧ Ch F w w')
end

theorem wid_char {k s : Nat} (h1 : 1 ≤ k) (h : s = 0 ∨ 2 ^ (s - 1) < k) (g : k ≤ 2 ^ s) : wid k = s := by
  cases s with
  | zero =>
    obtain rfl : k = 1 := by simp at g; omega
    exact wid_one
  | succ s =>
    refine wid_is ?_ g
    rcases h with h | h
    · omega
    · simpa using h
end Go.Proofs.Ytgcediipkojdbaa.bits
