/-
  Layer 4, the document's device: Read, Restart, counted, has.
-/
import Derived.Test.YtjmjmekmaamclaaDoorDevR
namespace Go.Proofs.YtjmjmekmaamclaaDoor.dev
open Go.ChangeShapes Go.WideShapes Go.ChangeAt Go.RowKit mem
set_option linter.unusedVariables false

theorem DevM.Ok.like {D E : DevM} (h : D.Ok) (h1 : E.nb = D.nb) (h2 : E.ns = D.ns) (h3 : E.safe = D.safe) (h4 : E.cache = D.cache) (h5 : E.plan = D.plan) : E.Ok := by
  obtain ⟨a, b, c, d, e, f, g, p⟩ := h
  exact ⟨by rw [h1]; exact a, by rw [h1]; exact b, by rw [h2]; exact c, by rw [h2]; exact d, by rw [h1, h3]; exact e, by rw [h3, h2]; exact f, by rw [h4, h1, h2]; exact g, by rw [h5]; exact p⟩

section
variable {w wr : World} {As : List Ast} {X : Nat} {D : DevM} {r : RRep}

end

/-- a slice of ints, wherever it lies -/
def IntsIn (W : World) (v : Value) (ks : List Int) : Prop :=
  ∃ ao cap, v = .slice ao ks.length cap ∧ ∀ i (hi : i < ks.length), ∃ b o, ao = some ⟨b, o, none⟩ ∧ W.cell? ⟨b, o + i, none⟩ = some (.int .i64 (ks[i]))

theorem mem_take_more (ks : List Int) (k : Nat) (n : Int) (h : k < ks.length) : n ∈ ks.take (k + 1) ↔ n ∈ ks.take k ∨ n = ks[k] := by
  rw [List.take_succ_eq_append_getElem h, List.mem_append, List.mem_singleton]

end Go.Proofs.YtjmjmekmaamclaaDoor.dev
