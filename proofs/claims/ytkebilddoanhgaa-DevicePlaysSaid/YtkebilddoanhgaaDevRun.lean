/-
  Layer 4, the law's own: run: a call, as the program answers it. (gen_run.py)
-/
import Derived.Test.YtkebilddoanhgaaDevV
import Derived.Deep.Cut
namespace Go.Proofs.Ytkebilddoanhgaa.dev
open Go.ChangeShapes Go.WideShapes Go.ChangeAt Go.RowKit mem
set_option linter.unusedVariables false

def DevM.runS (D : DevM) (x : OpM) : ByteArray := if x.kind = 3 then (D.read x.n).2.1 else empty
def DevM.runE (D : DevM) (x : OpM) : Int :=
  if x.kind = 0 then (D.write x.n (fillM x.data (512 * D.ns))).2
  else if x.kind = 1 then (D.write x.n x.data).2
  else if x.kind = 2 then D.flush.2
  else if x.kind = 3 then (D.read x.n).2.2
  else if x.kind = 4 then (D.setPlan x.at' x.ks x.torn x.mask).2
  else if x.kind = 5 then (D.pull x.ks x.torn x.mask).2
  else if x.kind = 6 then D.restart.2
  else if x.kind = 7 then (D.corrupt x.n x.at' x.data).2
  else 0
theorem runE_0 (D : DevM) (x : OpM) (h : x.kind = 0) : D.runE x = (D.write x.n (fillM x.data (512 * D.ns))).2 := by unfold DevM.runE; rw [if_pos h]
theorem runS_0 (D : DevM) (x : OpM) (h : x.kind = 0) : D.runS x = empty := by unfold DevM.runS; rw [if_neg (by omega)]
theorem runE_1 (D : DevM) (x : OpM) (h : x.kind = 1) : D.runE x = (D.write x.n x.data).2 := by unfold DevM.runE; rw [if_neg (by omega)]; rw [if_pos h]
theorem runS_1 (D : DevM) (x : OpM) (h : x.kind = 1) : D.runS x = empty := by unfold DevM.runS; rw [if_neg (by omega)]
theorem runE_2 (D : DevM) (x : OpM) (h : x.kind = 2) : D.runE x = D.flush.2 := by unfold DevM.runE; rw [if_neg (by omega)]; rw [if_neg (by omega)]; rw [if_pos h]
theorem runS_2 (D : DevM) (x : OpM) (h : x.kind = 2) : D.runS x = empty := by unfold DevM.runS; rw [if_neg (by omega)]
theorem runE_3 (D : DevM) (x : OpM) (h : x.kind = 3) : D.runE x = (D.read x.n).2.2 := by unfold DevM.runE; rw [if_neg (by omega)]; rw [if_neg (by omega)]; rw [if_neg (by omega)]; rw [if_pos h]
theorem runS_3 (D : DevM) (x : OpM) (h : x.kind = 3) : D.runS x = (D.read x.n).2.1 := by unfold DevM.runS; rw [if_pos h]
theorem runE_4 (D : DevM) (x : OpM) (h : x.kind = 4) : D.runE x = (D.setPlan x.at' x.ks x.torn x.mask).2 := by unfold DevM.runE; rw [if_neg (by omega)]; rw [if_neg (by omega)]; rw [if_neg (by omega)]; rw [if_neg (by omega)]; rw [if_pos h]
theorem runS_4 (D : DevM) (x : OpM) (h : x.kind = 4) : D.runS x = empty := by unfold DevM.runS; rw [if_neg (by omega)]
theorem runE_5 (D : DevM) (x : OpM) (h : x.kind = 5) : D.runE x = (D.pull x.ks x.torn x.mask).2 := by unfold DevM.runE; rw [if_neg (by omega)]; rw [if_neg (by omega)]; rw [if_neg (by omega)]; rw [if_neg (by omega)]; rw [if_neg (by omega)]; rw [if_pos h]
theorem runS_5 (D : DevM) (x : OpM) (h : x.kind = 5) : D.runS x = empty := by unfold DevM.runS; rw [if_neg (by omega)]
theorem runE_6 (D : DevM) (x : OpM) (h : x.kind = 6) : D.runE x = D.restart.2 := by unfold DevM.runE; rw [if_neg (by omega)]; rw [if_neg (by omega)]; rw [if_neg (by omega)]; rw [if_neg (by omega)]; rw [if_neg (by omega)]; rw [if_neg (by omega)]; rw [if_pos h]
theorem runS_6 (D : DevM) (x : OpM) (h : x.kind = 6) : D.runS x = empty := by unfold DevM.runS; rw [if_neg (by omega)]
theorem runE_7 (D : DevM) (x : OpM) (h : x.kind = 7) : D.runE x = (D.corrupt x.n x.at' x.data).2 := by unfold DevM.runE; rw [if_neg (by omega)]; rw [if_neg (by omega)]; rw [if_neg (by omega)]; rw [if_neg (by omega)]; rw [if_neg (by omega)]; rw [if_neg (by omega)]; rw [if_neg (by omega)]; rw [if_pos h]
theorem runS_7 (D : DevM) (x : OpM) (h : x.kind = 7) : D.runS x = empty := by unfold DevM.runS; rw [if_neg (by omega)]
theorem runS_n (D : DevM) (x : OpM) (h : ¬ x.kind = 3) : D.runS x = empty := by unfold DevM.runS; rw [if_neg h]
theorem runE_8 (D : DevM) (x : OpM) (h0 : ¬ x.kind = 0) (h1 : ¬ x.kind = 1) (h2 : ¬ x.kind = 2) (h3 : ¬ x.kind = 3) (h4 : ¬ x.kind = 4) (h5 : ¬ x.kind = 5) (h6 : ¬ x.kind = 6) (h7 : ¬ x.kind = 7) : D.runE x = 0 := by unfold DevM.runE; rw [if_neg h0, if_neg h1, if_neg h2, if_neg h3, if_neg h4, if_neg h5, if_neg h6, if_neg h7]

section
variable {w wr : World} {As : List Ast} {dev : Nat → DevM → Ast} {X : Nat} {D : DevM}
end
end Go.Proofs.Ytkebilddoanhgaa.dev
