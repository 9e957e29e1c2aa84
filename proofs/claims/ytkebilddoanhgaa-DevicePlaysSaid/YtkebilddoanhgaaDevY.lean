/-
  Layer 4: a list of calls; what stays of a device under any call.
-/
import Derived.Test.YtkebilddoanhgaaDevRun
import Derived.Test.YtkebilddoanhgaaDevWr
namespace Go.Proofs.Ytkebilddoanhgaa.dev
open Go.ChangeShapes Go.WideShapes Go.ChangeAt Go.RowKit mem
set_option linter.unusedVariables false

def Geo (D E : DevM) : Prop := E.nb = D.nb ∧ E.ns = D.ns
theorem counted_geo (D : DevM) : Geo D D.counted.1 := by
  unfold DevM.counted
  cases D.plan with
  | none => exact ⟨rfl, rfl⟩
  | some p => simp only; split <;> exact ⟨rfl, rfl⟩
theorem write_geo (D : DevM) (n : Int) (d : ByteArray) : Geo D (D.write n d).1 := by
  have c := counted_geo D
  unfold DevM.write
  split
  · exact ⟨rfl, rfl⟩
  · split
    · split
      · rename_i E hE; rw [hE] at c; exact c
      · rename_i E p hE; rw [hE] at c; exact c
    · exact ⟨rfl, rfl⟩
theorem flush_geo (D : DevM) : Geo D D.flush.1 := by
  have c := counted_geo D
  unfold DevM.flush
  split
  · exact ⟨rfl, rfl⟩
  · split
    · rename_i E hE; rw [hE] at c; exact c
    · rename_i E p hE; rw [hE] at c; exact c
theorem does_geo (D : DevM) (x : OpM) : Geo D (D.does x) := by
  unfold DevM.does
  split
  · exact write_geo _ _ _
  split
  · exact write_geo _ _ _
  split
  · exact flush_geo _
  split
  · unfold DevM.read; split
    · exact ⟨rfl, rfl⟩
    · split <;> exact ⟨rfl, rfl⟩
  split
  · unfold DevM.setPlan; split
    · exact ⟨rfl, rfl⟩
    · split <;> exact ⟨rfl, rfl⟩
  split
  · unfold DevM.pull; split <;> exact ⟨rfl, rfl⟩
  split
  · unfold DevM.restart; split <;> exact ⟨rfl, rfl⟩
  split
  · unfold DevM.corrupt; split <;> exact ⟨rfl, rfl⟩
  · exact ⟨rfl, rfl⟩
/-- so many of the calls made -/
def DevM.all (D : DevM) (ops : List OpM) (k : Nat) : DevM := (ops.take k).foldl DevM.does D
theorem all_zero (D : DevM) (ops : List OpM) : D.all ops 0 = D := rfl
theorem all_more (D : DevM) (ops : List OpM) (k : Nat) (h : k < ops.length) : D.all ops (k + 1) = (D.all ops k).does ops[k] := by
  unfold DevM.all
  rw [List.take_succ_eq_append_getElem h, List.foldl_append]
  rfl
theorem fold_room : ∀ (l : List OpM) (D : DevM) (m : Nat), D.Room (m + l.length) → (l.foldl DevM.does D).Room m
  | [], _, _, h => h
  | x :: l, D, m, h => fold_room l (D.does x) m (does_room (k := m + l.length) (by rw [List.length_cons] at h; exact h) x)
theorem all_room (D : DevM) (ops : List OpM) (k m : Nat) (h : D.Room (m + k)) : (D.all ops k).Room m :=
  fold_room _ D m (room_less h (by rw [List.length_take]; omega))
theorem fold_geo : ∀ (l : List OpM) (D : DevM), Geo D (l.foldl DevM.does D)
  | [], _ => ⟨rfl, rfl⟩
  | x :: l, D => ⟨(fold_geo l (D.does x)).1.trans (does_geo D x).1, (fold_geo l (D.does x)).2.trans (does_geo D x).2⟩
theorem all_geo (D : DevM) (ops : List OpM) (k : Nat) : Geo D (D.all ops k) := fold_geo _ D

/-- a slice of calls, wherever it lies -/
def OpsIn (W : World) (v : Value) (ops : List OpM) : Prop :=
  ∃ ao cap, v = .slice ao ops.length cap ∧ ∀ i (hi : i < ops.length), ∃ b o kv, ao = some ⟨b, o, none⟩ ∧ IntsIn W kv (ops[i]).ks ∧ ∀ j u, (opCells ops[i] kv)[j]? = some u → W.cell? ⟨b, o + i * 8 + j, none⟩ = some u
structure OpsOk (ops : List OpM) : Prop where
  len : ops.length ≤ 17592186043904
  op : ∀ x ∈ ops, x.Ok
end Go.Proofs.Ytkebilddoanhgaa.dev
