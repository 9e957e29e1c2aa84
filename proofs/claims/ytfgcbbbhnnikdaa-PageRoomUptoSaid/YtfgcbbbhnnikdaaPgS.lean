/-
  Layer 7, the law: awake.
-/
import Derived.Test.YtfgcbbbhnnikdaaPgR
namespace Go.Proofs.Ytfgcbbbhnnikdaa.pg
open Go.ChangeShapes Go.WideShapes Go.ChangeAt Go.RowKit mem
set_option linter.unusedVariables false

def nodeA : Nd := ⟨true, [⟨#[97]⟩], [⟨#[120]⟩], []⟩
theorem nodeA_check : CheckM nodeA 512 := by
  refine ⟨fun i hi => ?_, ⟨fun _ => ⟨rfl, rfl, fun i hi => ?_⟩, (fun h => by cases h)⟩, by decide +kernel⟩
  · obtain rfl : i = 0 := by simp [nodeA] at hi; exact hi
    exact ⟨⟨by decide, by decide⟩, .inl rfl⟩
  · obtain rfl : i = 0 := by simp [nodeA] at hi; exact hi
    decide +kernel
theorem nodeA_ok : NodeOk nodeA := by
  refine ⟨by decide, by decide, by decide, fun x hx => ?_, fun x hx => ?_, fun x hx => by cases hx⟩
  · simp [nodeA] at hx; rw [hx]; exact (show (1 : Nat) ≤ _ by decide)
  · simp [nodeA] at hx; rw [hx]; exact (show (1 : Nat) ≤ _ by decide)
theorem nodeA_enc : ∃ B : ByteArray, encE nodeA 512 = (B, 0) ∧ B.size = 512 ∧ B.extract 0 9 = ⟨#[1, 0, 1, 1, 0, 1, 97, 120, 0]⟩ :=
  ⟨blockM nodeA 512, encE_ok (by decide) nodeA_check, blockM_size nodeA_check, by decide +kernel⟩
theorem awake_any (W : World) : Calls Try.prog 52 #[] W fun e w' => e = .returned (.bool true) ∧ Ch0 W w' := by
  obtain ⟨B, hB, hs, hx⟩ := nodeA_enc
  have h1 := st_lit (St.nil (w := W) (Ch.refl _ W)) 9 (.string ⟨#[97]⟩)
  have h2 := st_lit h1 9 (.string ⟨#[120]⟩)
  simp only [World.size_alloc] at h2
  have HN : Hid (NodeIn ((W.alloc (.cells #[.string ⟨#[97]⟩] 9)).alloc (.cells #[.string ⟨#[120]⟩] 9)) (.slice (some ⟨W.heap.size, 0, none⟩) 1 1) (.slice (some ⟨W.heap.size + 1, 0, none⟩) 1 1) (.slice none 0 0) nodeA) := Lib.hid ⟨strs_in (xs := [⟨#[97]⟩]) h2.swap rfl, strs_in (xs := [⟨#[120]⟩]) h2 rfl, kids_nil _⟩
  have HC := Lib.hid h2.ch
  have HE := Lib.hid (pencode_any HN.out nodeA_ok 512)
  rw [hB] at HE
  clear hB h1 h2 HN
  have h9 : (9 : Int) ≤ B.size := by omega
  have h5 : (B.size : Int) = 512 := by omega
  have hsl : ∀ wx, (Instr.slice 9 (.string B) none (some (.int .i64 9)) none).run Try.prog wx = .ok (.string (B.extract 0 9)) wx := fun wx => by
    rw [run_slice_string_to_if (P := Try.prog) wx 9 B .i64 9 Try.underlying9, if_pos ⟨by omega, by omega⟩]
    rfl
  rw [hx] at hsl
  clear hx hs
  unfold ndV nodeA at HE
  go_enter Try.func52, Try.ntmps52
  go_wp2_with ((go_at_call 39; refine HE.out.mono ?_; rintro e w2 ⟨rfl, hc2⟩; have HC2 := Lib.hid (HC.out.trans hc2 fun _ h => h.elim); clear hc2))
  go_ret
  exact ⟨rfl, HC2.out⟩
end Go.Proofs.Ytfgcbbbhnnikdaa.pg
