/-
  Layer 3: what the program's calls are to answer (a structure: each stage of the program fills it), and awake over it.
-/
import Derived.Test.YtbgkehdnnloahaaDoorSumsD
namespace Go.Proofs.YtbgkehdnnloahaaDoor.sums
open Go.ChangeShapes Go.WideShapes Go.ChangeAt Go.RowKit
set_option linter.unusedVariables false

/-- The program's calls answer as the document says, in every world in which G holds; and G stays. -/
structure SumsOk0 (G : World → Prop) : Prop where
  crc : ∀ (s : ByteArray) (w : World), s.size ≤ 9223372036854775807 → G w → Calls Tryd.prog 11 #[.string s] w fun e w' => e = .returned (.int .u32 (crcM s.data.toList)) ∧ Below w.heap.size w w'
  on : ∀ (c : Nat) (s : ByteArray) (w : World), c < 4294967296 → s.size ≤ 9223372036854775807 → G w → Calls Tryd.prog 13 #[.int .u32 c, .string s] w fun e w' => e = .returned (.int .u32 (onM c s.data.toList)) ∧ Below w.heap.size w w'
  frame : ∀ (kd : Nat) (p : ByteArray) (w : World), kd < 256 → p.size ≤ 9223372036854775807 → G w → Calls Tryd.prog 7 #[.int .u8 kd, .string p] w fun e w' => e = .returned (.tuple #[.string (frameM kd p).1, .int .i64 (frameM kd p).2]) ∧ Below w.heap.size w w'
  unframe : ∀ (s : ByteArray) (w : World), s.size ≤ 9223372036854775807 → G w → Calls Tryd.prog 9 #[.string s] w fun e w' => e = uEnd (unframeM s) ∧ Below w.heap.size w w'
  keep : ∀ w w' : World, G w → Below w.heap.size w w' → G w'
/-- Join besides. -/
structure SumsOk (G : World → Prop) : Prop extends SumsOk0 G where
  join : ∀ (a b : Nat) (n : Int) (w : World), a < 4294967296 → b < 4294967296 → -9223372036854775808 ≤ n → n ≤ 9223372036854775807 → G w → Calls Tryd.prog 15 #[.int .u32 a, .int .u32 b, .int .i64 n] w fun e w' => e = .returned (.tuple #[.int .u32 ((joinM a b n).1 : Nat), .int .i64 (joinM a b n).2]) ∧ Below w.heap.size w w'

theorem bl_trans {w w1 w2 : World} (h : Below w.heap.size w w1) (k : Below w1.heap.size w1 w2) : Below w.heap.size w w2 := h.trans (k.mono h.size)

theorem ab_frame : frameM 7 ⟨#[97, 98]⟩ = (⟨#[7, 0, 0, 0, 2, 250, 119, 214, 13, 97, 98]⟩, 0) := by decide +kernel
theorem ab_unframe : unframeM ⟨#[7, 0, 0, 0, 2, 250, 119, 214, 13, 97, 98, 120]⟩ = (7, ⟨#[97, 98]⟩, ⟨#[120]⟩, 0) := by decide +kernel
theorem nine_crc : crcM [49, 50, 51, 52, 53, 54, 55, 56, 57] = 3808858755 := by decide +kernel

theorem awake_any {G : World → Prop} (H : SumsOk0 G) (w : World) (g : G w) :
    Calls Tryd.prog 16 #[] w fun e w' => e = .returned (.bool true) ∧ Below w.heap.size w w' ∧ G w' := by
  have HF := H.frame 7 ⟨#[97, 98]⟩ w (by decide) (by decide) g
  rw [ab_frame] at HF
  have HU := fun W (gW : G W) => H.unframe ⟨#[7, 0, 0, 0, 2, 250, 119, 214, 13, 97, 98, 120]⟩ W (by decide) gW
  rw [ab_unframe] at HU
  have HC := fun W (gW : G W) => H.crc ⟨#[49, 50, 51, 52, 53, 54, 55, 56, 57]⟩ W (by decide) gW
  rw [show (⟨#[49, 50, 51, 52, 53, 54, 55, 56, 57]⟩ : ByteArray).data.toList = [49, 50, 51, 52, 53, 54, 55, 56, 57] from rfl, nine_crc] at HC
  have HK := Lib.hid H.keep
  replace HF := Lib.hid HF
  replace HU := Lib.hid HU
  replace HC := Lib.hid HC
  clear H
  go_enter Tryd.func16, Tryd.ntmps16
  go_wp2_with fail
  refine HF.out.mono ?_
  rintro e w1 ⟨rfl, b1⟩
  have g1 := HK.out _ _ g b1
  clear HF g
  go_wp2_with fail
  refine (HU.out _ g1).mono ?_
  rintro e w2 ⟨rfl, b2⟩
  have g2 := HK.out _ _ g1 b2
  replace b2 := bl_trans b1 b2
  clear HU b1 g1
  unfold uEnd
  go_wp2_with fail
  refine (HC.out _ g2).mono ?_
  rintro e w3 ⟨rfl, b3⟩
  have g3 := HK.out _ _ g2 b3
  replace b3 := bl_trans b2 b3
  clear HC b2 g2
  go_wp2_with fail
  go_ret
  exact ⟨rfl, b3, g3⟩

end Go.Proofs.YtbgkehdnnloahaaDoor.sums
