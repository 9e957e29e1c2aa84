/-
  Layer 4: what becomes of a device by a call of each kind.
-/
import Derived.Test.YtkebilddoanhgaaDevE
namespace Go.Proofs.Ytkebilddoanhgaa.dev
open Go.ChangeShapes Go.WideShapes Go.ChangeAt Go.RowKit mem
set_option linter.unusedVariables false
variable (D : DevM) (x : OpM)
theorem does_0 (h : x.kind = 0) : D.does x = (D.write x.n (fillM x.data (512 * D.ns))).1 := by unfold DevM.does; rw [if_pos h]
theorem does_1 (h : x.kind = 1) : D.does x = (D.write x.n x.data).1 := by unfold DevM.does; rw [if_neg (by omega), if_pos h]
theorem does_2 (h : x.kind = 2) : D.does x = D.flush.1 := by unfold DevM.does; rw [if_neg (by omega), if_neg (by omega), if_pos h]
theorem does_3 (h : x.kind = 3) : D.does x = (D.read x.n).1 := by unfold DevM.does; rw [if_neg (by omega), if_neg (by omega), if_neg (by omega), if_pos h]
theorem does_4 (h : x.kind = 4) : D.does x = (D.setPlan x.at' x.ks x.torn x.mask).1 := by unfold DevM.does; rw [if_neg (by omega), if_neg (by omega), if_neg (by omega), if_neg (by omega), if_pos h]
theorem does_5 (h : x.kind = 5) : D.does x = (D.pull x.ks x.torn x.mask).1 := by unfold DevM.does; rw [if_neg (by omega), if_neg (by omega), if_neg (by omega), if_neg (by omega), if_neg (by omega), if_pos h]
theorem does_6 (h : x.kind = 6) : D.does x = D.restart.1 := by unfold DevM.does; rw [if_neg (by omega), if_neg (by omega), if_neg (by omega), if_neg (by omega), if_neg (by omega), if_neg (by omega), if_pos h]
theorem does_7 (h : x.kind = 7) : D.does x = (D.corrupt x.n x.at' x.data).1 := by unfold DevM.does; rw [if_neg (by omega), if_neg (by omega), if_neg (by omega), if_neg (by omega), if_neg (by omega), if_neg (by omega), if_neg (by omega), if_pos h]
theorem does_8 (h0 : ¬ x.kind = 0) (h1 : ¬ x.kind = 1) (h2 : ¬ x.kind = 2) (h3 : ¬ x.kind = 3) (h4 : ¬ x.kind = 4) (h5 : ¬ x.kind = 5) (h6 : ¬ x.kind = 6) (h7 : ¬ x.kind = 7) : D.does x = D := by
  unfold DevM.does; rw [if_neg h0, if_neg h1, if_neg h2, if_neg h3, if_neg h4, if_neg h5, if_neg h6, if_neg h7]
theorem keep_ints (g cap : Nat) (ks : List Int) : ∀ W F, (aKeep g cap ks).p W F → IntsIn W (.slice (some ⟨g, 0, none⟩) ks.length cap) ks := by
  intro W F h
  refine ⟨_, _, rfl, fun i hi => ⟨g, 0, rfl, ?_⟩⟩
  rw [Nat.zero_add, h.1.cellAt i (by omega), List.getElem?_append_left (by rw [intsV_len]; exact hi)]
  exact intsV_at _ _ hi
theorem rsize_cell {w wr : World} {As : List Ast} {Y : Nat} {D : DevM} (h : St w wr (rDev Y D :: As)) : wr.cell? ⟨Y, 1, none⟩ = some (.int .i64 (D.ns : Int)) := by
  obtain ⟨r, a, h⟩ := rdev_open h
  exact (rsees a h).c1
end Go.Proofs.Ytkebilddoanhgaa.dev
