/-
  Layer 3, the document's answers: step, On, Crc, Join.
-/
import Derived.Test.YtoiankgafclbdaaDoorRows
import Derived.Test.YtoiankgafclbdaaDoorCrcA
import Derived.WalkKit
import Derived.ProofKit
import Derived.OpenShut
import Derived.Lib.Hide
import Derived.BigQuiet
import Derived.Deep.QuietTactic
import Derived.BigRegion
import Derived.ChangeAlike
import Derived.Outline
namespace Go.Proofs.YtoiankgafclbdaaDoor.sums
open Go.ChangeShapes Go.WideShapes Go.ChangeAt Go.RowKit
set_option linter.unusedVariables false

theorem crun_more (n : Nat) (s : ByteArray) (k : Nat) (h : k < s.size) : crun n (s.data.toList.take (k + 1)) = cstep (crun n (s.data.toList.take k)) (s[k]'h).toNat := by
  rw [List.take_succ_eq_append_getElem (by simpa using h), crun_snoc]
  rfl

theorem turn_val (c : Nat) (hc : c < 4294967296) : bits .xor .u32 IntKind.u32.max (c : Int) = ((ones ^^^ c : Nat) : Int) := u32_xor_nat 4294967295 c (by omega) hc

/-- what Join answers -/
def joinM (a b : Nat) (n : Int) : Nat × Int := if n < 0 ∨ 16777216 < n then (0, 1) else (zrun n.toNat a ^^^ b, 0)

end Go.Proofs.YtoiankgafclbdaaDoor.sums
