/-
  Layer 4, the law's own: is what was handed in still what it was?
-/
import Derived.Test.YtjmjmekmaamclaaDoorDevT
namespace Go.Proofs.YtjmjmekmaamclaaDoor.dev
open Go.ChangeShapes Go.WideShapes Go.ChangeAt Go.RowKit mem
set_option linter.unusedVariables false

theorem cut_more (g len n cap : Nat) (h : n + 1 ≤ cap) (W : World) :
    (Instr.slice 46 (.slice (some ⟨g, 0, none⟩) len cap) none (some (.int .i64 ((n : Int) + 1))) none).run Tryd.prog W = .ok (.slice (some ⟨g, 0, none⟩) (n + 1) cap) W := by
  have := run_slice_h (P := Tryd.prog) (w := W) 46 (some ⟨g, 0, none⟩) len cap (by rw [elI]; exact Tryd.underlying46) .i64 ((n : Int) + 1) (by omega) (by omega)
  rw [this, sizeI W]
  show Result.ok (sliced (some ⟨g, 0, none⟩) 0 ((n : Int) + 1).toNat cap 1) W = _
  rw [show ((n : Int) + 1).toNat = n + 1 from by omega]
  unfold sliced
  rw [if_neg (by omega)]
  rfl

section
variable {w wr : World} {As : List Ast}
end
end Go.Proofs.YtjmjmekmaamclaaDoor.dev
