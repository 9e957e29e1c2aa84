/-
  Layer 3: what the rows' listed tables give the walks; that the program's own start lays them.
-/
import Derived.Test.YtjmjmekmaamclaaDoorRows
import Derived.Test.YtjmjmekmaamclaaDoorTie
import Derived.Test.YtjmjmekmaamclaaDoorMC
import Derived.ProofKit
import Derived.LaidMore
import Derived.Stop.Joined
import Derived.Stop.LaidErr
import Derived.Lib.LaidTab
namespace Go.Proofs.YtjmjmekmaamclaaDoor.sums
open Go.ChangeShapes Go.WideShapes Go.ChangeAt Go.RowKit
set_option linter.unusedVariables false

theorem gL : Tryd.prog.globalNamed "wattle/sums.lowerHalf" = some 0 := by kernel_rfl
theorem gU : Tryd.prog.globalNamed "wattle/sums.upperHalf" = some 1 := by kernel_rfl
theorem tL : (Tryd.prog.globals[0]?).map (·.type) = some 161 := by kernel_rfl
theorem tU : (Tryd.prog.globals[1]?).map (·.type) = some 161 := by kernel_rfl

abbrev laid2 : List (String × DataW Unit) := [("wattle/sums.lowerHalf", Rows.laid_wattle_sums_lowerHalf), ("wattle/sums.upperHalf", Rows.laid_wattle_sums_upperHalf)]

theorem tab_of {P : Program} {W : World} {name : String} {k : IntKind} {ns : List Nat} {D : DataW Unit} {rest : List (String × DataW Unit)} {g : Nat} {t e : TypeId} {n : Nat}
    (hD : D = Lib.tabData k (ns.map fun (z : Nat) => (z : Int)))
    (hg : P.globalNamed name = some g) (hty : (P.globals[g]?).map (·.type) = some t) (ht : P.underlying t = some (.array n e)) (he : P.underlying e = some (.int k)) (hce : P.cellsOf e = 1) (hct : P.cellsOf t = n)
    (h : laidMet P ((name, D) :: rest) W) (i : Nat) (hi : i < ns.length) : W.cell? ⟨g, i, none⟩ = some (.int k (ns.getD i 0 : Nat)) := by
  subst hD
  have := (Lib.tabIs_of_head hg hty ht he hce hct h).cell hg i (by simpa using hi)
  rw [this]
  simp [List.getD, hi]

theorem of_laid2 {W : World} (h : laidMet Tryd.prog laid2 W) : Halves W where
  low := fun k hk => tab_of (ns := lowT) rfl gL tL Tryd.underlying161 Tryd.underlying142 (by kernel_rfl) (by kernel_rfl) h k hk
  up := fun k hk => tab_of (ns := upT) rfl gU tU Tryd.underlying161 Tryd.underlying142 (by kernel_rfl) (by kernel_rfl) h.tail k hk
theorem of_laidH2 {W : World} (h : laidMetH Tryd.prog laid2 W) : Halves W := by
  rw [MakeChecks.laidMetH_plain _ _ _ (by kernel_rfl)] at h
  exact of_laid2 h

theorem door_met2 (os : Os) (args : Array Value) : laidMetH Tryd.prog laid2 ((World.doorLaid Tryd.prog 400 os).forCall (fun _ _ => 0) ⟨#[], args, []⟩).memory :=
  laidMetH_of_parts3 (fuel := 8) (laidMet_of_run' 8 (by kernel_rfl) (by kernel_rfl)) (by kernel_rfl) (by kernel_rfl)
end Go.Proofs.YtjmjmekmaamclaaDoor.sums
