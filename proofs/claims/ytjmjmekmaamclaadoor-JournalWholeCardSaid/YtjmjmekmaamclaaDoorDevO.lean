/-
  Layer 4, the document's device: Twin.
-/
import Derived.Test.YtjmjmekmaamclaaDoorDB
namespace Go.Proofs.YtjmjmekmaamclaaDoor.dev
open Go.ChangeShapes Go.WideShapes Go.ChangeAt Go.RowKit mem
set_option linter.unusedVariables false

section
variable {w wr : World} {As : List Ast} {X : Nat} {D : DevM} {r : RRep}

theorem strs_one (l : List ByteArray) : ∀ u ∈ strs l, u.oneCell' = true := by
  intro u hu
  simp only [strs, List.mem_map] at hu
  obtain ⟨k, _, rfl⟩ := hu
  rfl
theorem wcells_one (l : List (Nat × ByteArray)) : ∀ u ∈ wcells l, u.oneCell' = true := by
  intro u hu
  simp only [wcells, List.mem_flatMap] at hu
  obtain ⟨k, _, hu⟩ := hu
  simp at hu
  rcases hu with rfl | rfl <;> rfl

/-- the cells that a Twin reads -/
def TwinS (X : Nat) (D : DevM) (r : RRep) (W : World) : Prop :=
  W.cell? ⟨X, 0, none⟩ = some (.int .i64 (D.nb : Int)) ∧ W.cell? ⟨X, 1, none⟩ = some (.int .i64 (D.ns : Int)) ∧ W.cell? ⟨X, 4, none⟩ = some (.int .i64 (r.at' : Int)) ∧ W.cell? ⟨X, 5, none⟩ = some r.kv ∧
  W.cell? ⟨X, 6, none⟩ = some (.int .i64 r.torn) ∧ W.cell? ⟨X, 7, none⟩ = some (.int .u8 (r.mask : Int)) ∧ W.cell? ⟨X, 8, none⟩ = some (.bool D.down) ∧ W.cell? ⟨X, 9, none⟩ = some (.int .i64 (D.calls : Int)) ∧ W.cell? ⟨X, 10, none⟩ = some (.int .i64 (D.reads : Int))
end
end Go.Proofs.YtjmjmekmaamclaaDoor.dev
