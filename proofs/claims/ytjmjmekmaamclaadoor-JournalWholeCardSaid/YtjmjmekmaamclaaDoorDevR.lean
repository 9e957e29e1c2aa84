/-
  Layer 4, the document's device in memory; Check, Size, Now, Read, has, Restart.
-/
import Derived.Test.YtjmjmekmaamclaaDoorHA
import Derived.Test.YtjmjmekmaamclaaDoorDevM
import Derived.Outline
namespace Go.Proofs.YtjmjmekmaamclaaDoor.dev
open Go.ChangeShapes Go.WideShapes Go.ChangeAt Go.RowKit mem
set_option linter.unusedVariables false

def strs (l : List ByteArray) : List Value := l.map .string
def wcells (c : List (Nat × ByteArray)) : List Value := c.flatMap fun x => [.int .i64 (x.1 : Int), .string x.2]
def intsV (ks : List Int) : List Value := ks.map (.int .i64)
theorem strs_len (l : List ByteArray) : (strs l).length = l.length := by simp [strs]
theorem strs_at (l : List ByteArray) (i : Nat) (h : i < l.length) : (strs l)[i]? = some (.string (l.getD i empty)) := by
  simp [strs, List.getElem?_map, List.getElem?_eq_getElem h, List.getD_eq_getElem?_getD]
theorem intsV_len (l : List Int) : (intsV l).length = l.length := by simp [intsV]
theorem intsV_at (l : List Int) (i : Nat) (h : i < l.length) : (intsV l)[i]? = some (.int .i64 (l[i]'h)) := by
  simp [intsV, List.getElem?_map, List.getElem?_eq_getElem h]
theorem wcells_len (c : List (Nat × ByteArray)) : (wcells c).length = c.length * 2 := by
  induction c with
  | nil => rfl
  | cons x c ih =>
    rw [show wcells (x :: c) = [.int .i64 (x.1 : Int), .string x.2] ++ wcells c from by simp [wcells], List.length_append, ih, List.length_cons]
    simp; omega
theorem wcells_append (a b : List (Nat × ByteArray)) : wcells (a ++ b) = wcells a ++ wcells b := by simp [wcells]
theorem wcells_cons (x : Nat × ByteArray) (b : List (Nat × ByteArray)) : wcells (x :: b) = [.int .i64 (x.1 : Int), .string x.2] ++ wcells b := by simp [wcells]
theorem wcells_at (c : List (Nat × ByteArray)) (i : Nat) (h : i < c.length) : (wcells c)[i * 2]? = some (.int .i64 ((c[i]).1 : Int)) ∧ (wcells c)[i * 2 + 1]? = some (.string (c[i]).2) := by
  have e : wcells c = wcells (c.take i) ++ (([.int .i64 ((c[i]).1 : Int), .string (c[i]).2] : List Value) ++ wcells (c.drop (i + 1))) := by
    have e : c = c.take i ++ (c[i] :: c.drop (i + 1)) := by rw [← List.drop_eq_getElem_cons h, List.take_append_drop]
    have e2 := congrArg wcells e
    rw [wcells_append] at e2
    rw [wcells_cons] at e2
    exact e2
  have l : (wcells (c.take i)).length = i * 2 := by rw [wcells_len, List.length_take]; omega
  rw [e]
  refine ⟨?_, ?_⟩
  · rw [List.getElem?_append_right (by omega), l, Nat.sub_self]; rfl
  · rw [List.getElem?_append_right (by omega), l, show i * 2 + 1 - i * 2 = 1 from by omega]; rfl

/-- how the plan stands in memory -/
def PlanIs (p : Option Plan) (at' : Nat) (ks : List Int) (torn : Int) (mask : Nat) : Prop :=
  (p = none ∧ at' = 0) ∨ ∃ q, p = some q ∧ 1 ≤ q.at' ∧ at' = q.at' ∧ ks = q.keep ∧ torn = q.torn ∧ mask = q.mask
structure RRep where
  sv : Value
  cv : Value
  kv : Value
  at' : Nat
  ks : List Int
  torn : Int
  mask : Nat
def rHead (D : DevM) (r : RRep) : List Value :=
  [.int .i64 (D.nb : Int), .int .i64 (D.ns : Int), r.sv, r.cv, .int .i64 (r.at' : Int), r.kv, .int .i64 r.torn, .int .u8 (r.mask : Int), .bool D.down, .int .i64 (D.calls : Int), .int .i64 (D.reads : Int)]
def RKnown (D : DevM) (r : RRep) : Prop := D.Ok ∧ PlanIs D.plan r.at' r.ks r.torn r.mask ∧ CrashOk r.ks r.torn r.mask ∧ r.at' ≤ 9223372036854775807
section
variable {w wr : World} {As : List Ast} {X : Nat} {D : DevM} {r : RRep}
/-- what a walk reads of it -/
structure RSees (W : World) (X : Nat) (D : DevM) (r : RRep) : Prop where
  c0 : W.cell? ⟨X, 0, none⟩ = some (.int .i64 (D.nb : Int))
  c1 : W.cell? ⟨X, 1, none⟩ = some (.int .i64 (D.ns : Int))
  c2 : W.cell? ⟨X, 2, none⟩ = some r.sv
  c3 : W.cell? ⟨X, 3, none⟩ = some r.cv
  c4 : W.cell? ⟨X, 4, none⟩ = some (.int .i64 (r.at' : Int))
  c5 : W.cell? ⟨X, 5, none⟩ = some r.kv
  c6 : W.cell? ⟨X, 6, none⟩ = some (.int .i64 r.torn)
  c7 : W.cell? ⟨X, 7, none⟩ = some (.int .u8 (r.mask : Int))
  c8 : W.cell? ⟨X, 8, none⟩ = some (.bool D.down)
  c9 : W.cell? ⟨X, 9, none⟩ = some (.int .i64 (D.calls : Int))
  c10 : W.cell? ⟨X, 10, none⟩ = some (.int .i64 (D.reads : Int))
  fr : ∀ i, W.frozen? ⟨X, i, none⟩ = false
  hs : ∃ g cap, r.sv = .slice (some ⟨g, 0, none⟩) D.nb cap ∧ ∀ i, i < D.nb → W.cell? ⟨g, i, none⟩ = some (.string (D.safe.getD i empty))
  hc : ∃ ao cap, r.cv = .slice ao D.cache.length cap ∧ ∀ i (hi : i < D.cache.length), ∃ g, ao = some ⟨g, 0, none⟩ ∧ W.cell? ⟨g, i * 2, none⟩ = some (.int .i64 ((D.cache[i]).1 : Int)) ∧ W.cell? ⟨g, i * 2 + 1, none⟩ = some (.string (D.cache[i]).2)
  hk : ∃ ao cap, r.kv = .slice ao r.ks.length cap ∧ ∀ i (hi : i < r.ks.length), ∃ g, ao = some ⟨g, 0, none⟩ ∧ W.cell? ⟨g, i, none⟩ = some (.int .i64 (r.ks[i]))

end

theorem look_more (c : List (Nat × ByteArray)) (n : Nat) (s : ByteArray) (k : Nat) (h : k < c.length) : look (c.take (k + 1)) n s = if (c[k]).1 = n then (c[k]).2 else look (c.take k) n s := by
  rw [List.take_succ_eq_append_getElem h, look_snoc]

end Go.Proofs.YtjmjmekmaamclaaDoor.dev
