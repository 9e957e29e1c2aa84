/-
  Layer 3, the program: the lowest bit's place, a number by its columns, a square of columns.
-/
import Derived.Test.YtbgkehdnnloahaaDoorSumsP
import Derived.Deep.WholeRow
import Derived.Laws.Bits64b
namespace Go.Proofs.YtbgkehdnnloahaaDoor.sums
open Go.ChangeShapes Go.WideShapes Go.ChangeAt Go.RowKit
set_option linter.unusedVariables false

theorem tz_key (x a : Nat) (hx : x < 4294967296) (hx0 : x ≠ 0) (hlow : x &&& (4294967296 - x) = a) :
    bits BinOp.and IntKind.u32 (x : Int) (-(x : Int) % 4294967296) * 125613361 % 4294967296 / 134217728 = ((a * 125613361 % 4294967296 / 134217728 : Nat) : Int) := by
  have e1 : -(x : Int) % 4294967296 = ((4294967296 - x : Nat) : Int) := by omega
  rw [e1, u32_and_nat x _ hx (by omega), hlow]
  omega

theorem tz_core (x k idx : Nat) (w : World) (hx0 : ((x : Int) == 0) = false)
    (key : bits BinOp.and IntKind.u32 (x : Int) (-(x : Int) % 4294967296) * 125613361 % 4294967296 / 134217728 = (idx : Int))
    (hi : idx < 32) (hk : k < 32) (hcell : w.cell? ⟨2, idx, none⟩ = some (.int .u8 k)) :
    Calls Tryd.prog 29 #[.int .u32 x] w fun e w' => e = .returned (.int .i64 k) ∧ w = w' := by
  go_enter Tryd.func29, Tryd.ntmps29
  go_wp2_with (simp only [key])
  go_ret
  exact ⟨rfl, rfl⟩

theorem tz_any (x : Nat) (hx : x < 4294967296) (hx0 : x ≠ 0) (w : World) (g : Tables w) :
    Calls Tryd.prog 29 #[.int .u32 x] w fun e w' => e = .returned (.int .i64 (low1 x)) ∧ w = w' := by
  unfold low1
  obtain ⟨hlow, hk⟩ := Lib.lowest_bit 32 x hx0 hx
  obtain ⟨hi, htab⟩ := Lib.deBruijn32_at _ hk
  have hcell := g.tz _ hi
  rw [htab] at hcell
  exact tz_core x _ _ w (by simp; omega) (tz_key x _ hx hx0 hlow) hi hk hcell

theorem of_round {f : Nat → Nat} (hl : Lin f) (hf : ∀ n, n < 4294967296 → f n < 4294967296) (s r : Nat) (hs : s < 4294967296) (hr : r < 4294967296) (h0 : r ≠ 0) :
    bits .xor .u32 (s : Int) (f (2 ^ low1 r) : Int) = ((s ^^^ f (2 ^ low1 r) : Nat) : Int) ∧ s ^^^ f (2 ^ low1 r) < 4294967296 ∧
    bits .and .u32 (r : Int) ((r : Int) - 1) = ((r &&& (r - 1) : Nat) : Int) ∧ r &&& (r - 1) < r ∧ (s ^^^ f (2 ^ low1 r)) ^^^ f (r &&& (r - 1)) = s ^^^ f r ∧ low1 r < 32 := by
  obtain ⟨ha, hk⟩ := low1_spec r h0 hr
  have hp : 2 ^ low1 r < 4294967296 := Nat.pow_lt_pow_right (by omega) hk
  have hfp := hf _ hp
  refine ⟨u32_xor_nat s _ hs hfp, xor_lt32 hs hfp, ?_, less_pred r h0, ?_, hk⟩
  · have := u32_and_nat r (r - 1) hr (by omega)
    rwa [show ((r - 1 : Nat) : Int) = (r : Int) - 1 from by omega] at this
  · rw [ha, take_bit hl]

theorem of_any {f : Nat → Nat} (hl : Lin f) (hf : ∀ n, n < 4294967296 → f n < 4294967296) (v : Nat) (hv : v < 4294967296) (w : World) (g : Tables w) :
    Calls Tryd.prog 26 #[.agg (tabV f), .int .u32 v] w fun e w' => e = .returned (.int .u32 (f v)) ∧ Below w.heap.size w w' := by
  have HV := Lib.hid hv
  have HL := Lib.hid hl
  have HF := Lib.hid hf
  have hz := hl.zero
  have HT := Lib.hid fun i hi => tabV_at f i hi
  have HG := Lib.hid (g.keep (bl_alloc (Below.refl _ _) (.cells (tabV f) 50)))
  obtain ⟨A, hA⟩ : ∃ A, A = tabV f := ⟨_, rfl⟩
  rw [← hA] at HT HG ⊢
  have v0 : (0 : Int) ≤ v := by omega
  have v1 : (v : Int) ≤ 4294967295 := by omega
  clear hA hv hl hf g
  go_enter Tryd.func26, Tryd.ntmps26
  go_wp2_with fail
  have HC : ∀ i, i < 32 → (w.alloc (.cells A 50)).cell? ⟨w.heap.size, i, none⟩ = some (.int .u32 (f (2 ^ i) : Nat)) := fun i hi => by
    rw [cell_of_row _ _ _ _ _ _ (heap_alloc_new _ _)]; exact HT.out i hi
  replace HC := Lib.hid HC
  have HBW := Lib.hid (bl_alloc (Below.refl w.heap.size w) (.cells A 50))
  generalize w.alloc (.cells A 50) = W at HC HBW HG ⊢
  clear HT
  go_loop [5, 1] (fun x y => ∃ s r : Nat, s < 4294967296 ∧ r < 4294967296 ∧ x = .int .u32 ↑s ∧ y = .int .u32 ↑r ∧ s ^^^ f r = f v) (fun _ y => (intOf y).toNat)
  case atStart => exact ⟨0, v, by omega, HV.out, rfl, rfl, by rw [Nat.zero_xor]⟩
  case round =>
    obtain ⟨s, r, hs, hr, rfl, rfl, he⟩ := hrel
    by_cases h0 : r = 0
    · subst h0
      rw [hz, Nat.xor_zero] at he
      subst he
      go_wp2_with fail
      go_ret
      exact ⟨rfl, HBW.out⟩
    · obtain ⟨a1, a2, a3, a4, a5, a6⟩ := of_round HL.out HF.out s r hs hr h0
      have HTZ := Lib.hid (tz_any r hr h0 W HG.out)
      have hc := HC.out _ a6
      generalize low1 r = k at a1 a2 a5 a6 HTZ hc
      generalize f (2 ^ k) = c at a1 a2 a5 hc
      generalize s ^^^ c = s2 at a1 a2 a5
      rw [he] at a5
      generalize r &&& (r - 1) = r2 at a3 a4 a5
      have t0 : ((r : Int) == 0) = false := by rw [beq_eq_false_iff_ne]; omega
      have r0 : (1 : Int) ≤ r := by omega
      have r1 : (r : Int) ≤ 4294967295 := by omega
      have k0 : (0 : Int) ≤ k := by omega
      have k1 : (k : Int) < 32 := by omega
      have H5 := Lib.hid (And.intro a2 (And.intro (show r2 < 4294967296 from by omega) (And.intro a4 a5)))
      clear hs hr he h0 a2 a4 a5 a6 hz
      go_wp2_with (go_at_call 29; refine HTZ.out.mono ?_; rintro e w' ⟨rfl, rfl⟩)
      go_round
      case rel => exact ⟨s2, r2, H5.out.1, H5.out.2.1, rfl, rfl, H5.out.2.2.2⟩
      case measure => have := H5.out.2.2.1; simp [intOf] <;> omega
end Go.Proofs.YtbgkehdnnloahaaDoor.sums
