/-
  Layer 4, the document's device: counted, Write, Flush, Pull.
-/
import Derived.Test.YtjmjmekmaamclaaDoorDevF
namespace Go.Proofs.YtjmjmekmaamclaaDoor.dev
open Go.ChangeShapes Go.WideShapes Go.ChangeAt Go.RowKit mem
set_option linter.unusedVariables false

section
variable {w wr : World} {As : List Ast} {X : Nat} {D : DevM} {r : RRep}

def rAt (r : RRep) (m : Nat) : RRep := { r with at' := m }
/-- what stands behind 'counted' -/
structure Counted (D : DevM) (r : RRep) (m : Nat) : Prop where
  known : RKnown D.counted.1 (rAt r m)
  plan : ∀ p, D.counted.2 = some p → p.keep = r.ks ∧ p.torn = r.torn ∧ p.mask = r.mask

theorem counted_none (a : RKnown D r) (h : r.at' = 0) : D.counted = ({ D with calls := D.calls + 1 }, none) ∧ Counted D r 0 := by
  have hp : D.plan = none := by
    rcases a.2.1 with ⟨h1, _⟩ | ⟨q, h1, h2, h3, _⟩
    · exact h1
    · omega
  have e : D.counted = ({ D with calls := D.calls + 1 }, none) := by unfold DevM.counted; rw [hp]
  refine ⟨e, ⟨⟨a.1.counted, ?_, a.2.2.1, by show 0 ≤ _; omega⟩, fun p hp => by rw [e] at hp; cases hp⟩⟩
  rw [e]
  exact .inl ⟨hp, rfl⟩
theorem counted_one (a : RKnown D r) (h : r.at' = 1) : (∃ p, D.counted = ({ D with calls := D.calls + 1, plan := none }, some p)) ∧ Counted D r 0 := by
  rcases a.2.1 with ⟨h1, h2⟩ | ⟨q, h1, h2, h3, h4, h5, h6⟩
  · omega
  · have e : D.counted = ({ D with calls := D.calls + 1, plan := none }, some q) := by unfold DevM.counted; rw [h1]; simp only []; rw [if_pos (by omega)]
    refine ⟨⟨q, e⟩, ⟨⟨a.1.counted, ?_, a.2.2.1, by show 0 ≤ _; omega⟩, fun p hp => ?_⟩⟩
    · rw [e]
      exact .inl ⟨rfl, rfl⟩
    · rw [e] at hp
      cases hp
      exact ⟨h4.symm, h5.symm, h6.symm⟩
theorem counted_more (a : RKnown D r) (h : 2 ≤ r.at') : (∃ p, D.counted = ({ D with calls := D.calls + 1, plan := some p }, none)) ∧ Counted D r (r.at' - 1) := by
  rcases a.2.1 with ⟨h1, h2⟩ | ⟨q, h1, h2, h3, h4, h5, h6⟩
  · omega
  · have e : D.counted = ({ D with calls := D.calls + 1, plan := some { q with at' := q.at' - 1 } }, none) := by unfold DevM.counted; rw [h1]; simp only []; rw [if_neg (by omega)]
    refine ⟨⟨_, e⟩, ⟨⟨a.1.counted, ?_, a.2.2.1, by have := a.2.2.2; show r.at' - 1 ≤ _; omega⟩, fun p hp => by rw [e] at hp; cases hp⟩⟩
    rw [e]
    exact .inr ⟨_, rfl, by show 1 ≤ q.at' - 1; omega, by show r.at' - 1 = q.at' - 1; omega, h4, h5, h6⟩

end
end Go.Proofs.YtjmjmekmaamclaaDoor.dev
