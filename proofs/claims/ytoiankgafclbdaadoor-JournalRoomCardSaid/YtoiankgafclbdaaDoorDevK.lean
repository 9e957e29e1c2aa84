/-
  Layer 4, the document's device: over, Corrupt.
-/
import Derived.Test.YtoiankgafclbdaaDoorDevJ
namespace Go.Proofs.YtoiankgafclbdaaDoor.dev
open Go.ChangeShapes Go.WideShapes Go.ChangeAt Go.RowKit mem
set_option linter.unusedVariables false

/-- one block's writes overwritten -/
def mend (n : Nat) (f : ByteArray → ByteArray) (x : Nat × ByteArray) : Nat × ByteArray := if x.1 = n then (x.1, f x.2) else x
def mendK (n : Nat) (f : ByteArray → ByteArray) (c : List (Nat × ByteArray)) (k : Nat) : List (Nat × ByteArray) := (c.take k).map (mend n f) ++ c.drop k
theorem mendK_len (n : Nat) (f : ByteArray → ByteArray) (c : List (Nat × ByteArray)) (k : Nat) : (mendK n f c k).length = c.length := by
  simp only [mendK, List.length_append, List.length_map, List.length_take, List.length_drop]; omega
theorem mendK_zero (n : Nat) (f : ByteArray → ByteArray) (c : List (Nat × ByteArray)) : mendK n f c 0 = c := by simp [mendK]
theorem mendK_full (n : Nat) (f : ByteArray → ByteArray) (c : List (Nat × ByteArray)) : mendK n f c c.length = c.map (mend n f) := by simp [mendK]
theorem mendK_at (n : Nat) (f : ByteArray → ByteArray) (c : List (Nat × ByteArray)) (k : Nat) (h : k < c.length) : (mendK n f c k)[k]'(by rw [mendK_len]; exact h) = c[k] := by
  have hl : ((c.take k).map (mend n f)).length = k := by rw [List.length_map, List.length_take]; omega
  apply Option.some.inj
  rw [← List.getElem?_eq_getElem, ← List.getElem?_eq_getElem]
  unfold mendK
  rw [List.getElem?_append_right (by omega), hl, Nat.sub_self, List.getElem?_drop, Nat.add_zero]
theorem mendK_set (n : Nat) (f : ByteArray → ByteArray) (c : List (Nat × ByteArray)) (k : Nat) (h : k < c.length) : (mendK n f c k).set k (mend n f c[k]) = mendK n f c (k + 1) := by
  have hl : ((c.take k).map (mend n f)).length = k := by rw [List.length_map, List.length_take]; omega
  unfold mendK
  rw [List.set_append_right _ _ (by omega), hl, Nat.sub_self, List.take_succ_eq_append_getElem h, List.map_append, List.append_assoc, List.drop_eq_getElem_cons h]
  rfl
theorem mendK_skip (n : Nat) (f : ByteArray → ByteArray) (c : List (Nat × ByteArray)) (k : Nat) (h : k < c.length) (hne : ¬ (c[k]).1 = n) : mendK n f c (k + 1) = mendK n f c k := by
  rw [← mendK_set n f c k h]
  have e : mend n f c[k] = (mendK n f c k)[k]'(by rw [mendK_len]; exact h) := by rw [mendK_at n f c k h]; unfold mend; rw [if_neg hne]
  rw [e, List.set_getElem_self]
theorem wcells_set (c : List (Nat × ByteArray)) (k : Nat) (h : k < c.length) (y : ByteArray) : (wcells c).set (k * 2 + 1) (.string y) = wcells (c.set k ((c[k]).1, y)) := by
  have e : c = c.take k ++ (c[k] :: c.drop (k + 1)) := by rw [← List.drop_eq_getElem_cons h, List.take_append_drop]
  have l : (wcells (c.take k)).length = k * 2 := by rw [wcells_len, List.length_take]; omega
  have e2 : c.set k ((c[k]).1, y) = c.take k ++ (((c[k]).1, y) :: c.drop (k + 1)) := by rw [List.set_eq_take_append_cons_drop, if_pos h]
  rw [e2, wcells_append, wcells_cons]
  conv => lhs; rw [e, wcells_append, wcells_cons]
  rw [List.set_append_right _ _ (by omega), l, show k * 2 + 1 - k * 2 = 1 from by omega]
  rfl

section
variable {w wr : World} {As : List Ast} {X : Nat} {D : DevM} {r : RRep}
def withCache (D : DevM) (c : List (Nat × ByteArray)) : DevM := { D with cache := c }
end
end Go.Proofs.YtoiankgafclbdaaDoor.dev
