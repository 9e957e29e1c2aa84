/-
  Layer 4, the document's device: counted, Write, Flush, Pull.
-/
import Derived.Test.YtkebilddoanhgaaDevF
namespace Go.Proofs.Ytkebilddoanhgaa.dev
open Go.ChangeShapes Go.WideShapes Go.ChangeAt Go.RowKit mem
set_option linter.unusedVariables false

section
variable {w wr : World} {As : List Ast} {X : Nat} {D : DevM} {r : RRep}

def rAt (r : RRep) (m : Nat) : RRep := { r with at' := m }
/-- what stands behind 'counted' -/
structure Counted (D : DevM) (r : RRep) (m : Nat) : Prop where
  known : RKnown D.counted.1 (rAt r m)
  plan : ∀ p, D.counted.2 = some p → p.keep = r.ks ∧ p.torn = r.torn ∧ p.mask = r.mask

theorem counted_none (a : RKnown D r) (h : r.at' = 0) : D.counted = ({ D with calls := D.calls + 1 }, none) ∧ Counted D r 0 := by
  have hp : D.plan = none := by
    rcases a.2.1 with ⟨h1, _⟩ | ⟨q, h1, h2, h3, _⟩
    · exact h1
    · omega
  have e : D.counted = ({ D with calls := D.calls + 1 }, none) := by unfold DevM.counted; rw [hp]
  refine ⟨e, ⟨⟨a.1.counted, ?_, a.2.2.1, by show 0 ≤ _; omega⟩, fun p hp => by rw [e] at hp; cases hp⟩⟩
  rw [e]
  exact .inl ⟨hp, rfl⟩
theorem counted_one (a : RKnown D r) (h : r.at' = 1) : (∃ p, D.counted = ({ D with calls := D.calls + 1, plan := none }, some p)) ∧ Counted D r 0 := by
  rcases a.2.1 with ⟨h1, h2⟩ | ⟨q, h1, h2, h3, h4, h5, h6⟩
  · omega
  · have e : D.counted = ({ D with calls := D.calls + 1, plan := none }, some q) := by unfold DevM.counted; rw [h1]; simp only []; rw [if_pos (by omega)]
    refine ⟨⟨q, e⟩, ⟨⟨a.1.counted, ?_, a.2.2.1, by show 0 ≤ _; omega⟩, fun p hp => ?_⟩⟩
    · rw [e]
      exact .inl ⟨rfl, rfl⟩
    · rw [e] at hp
      cases hp
      exact ⟨h4.symm, h5.symm, h6.symm⟩
theorem counted_more (a : RKnown D r) (h : 2 ≤ r.at') : (∃ p, D.counted = ({ D with calls := D.calls + 1, plan := some p }, none)) ∧ Counted D r (r.at' - 1) := by
  rcases a.2.1 with ⟨h1, h2⟩ | ⟨q, h1, h2, h3, h4, h5, h6⟩
  · omega
  · have e : D.counted = ({ D with calls := D.calls + 1, plan := some { q with at' := q.at' - 1 } }, none) := by unfold DevM.counted; rw [h1]; simp only []; rw [if_neg (by omega)]
    refine ⟨⟨_, e⟩, ⟨⟨a.1.counted, ?_, a.2.2.1, by have := a.2.2.2; show r.at' - 1 ≤ _; omega⟩, fun p hp => by rw [e] at hp; cases hp⟩⟩
    rw [e]
    exact .inr ⟨_, rfl, by show 1 ≤ q.at' - 1; omega, by show r.at' - 1 = q.at' - 1; omega, h4, h5, h6⟩

theorem rcounted_any (h : St w wr (rParts X D r ++ As)) (a : RKnown D r) (hc : D.calls + 1 ≤ 4611686018427387904) :
    Calls Try.prog 53 #[.pointer (some ⟨X, 0, none⟩)] wr fun e w' => e = .returned (.bool D.counted.2.isSome) ∧ ∃ m, Counted D r m ∧ St w w' (rParts X D.counted.1 (rAt r m) ++ As) := by
  have hS := rsees a h
  have c9 := hS.c9
  have c4 := hS.c4
  have f9 := hS.fr 9
  have f4 := hS.fr 4
  have e1 : IntKind.i64.wrap ((D.calls : Int) + 1) = (D.calls : Int) + 1 := IntWalk.i64_in _ (by omega)
  have r0 : (0 : Int) ≤ D.calls := by omega
  have r1 : (D.calls : Int) ≤ 4611686018427387903 := by omega
  have h9 := rdev_calls h (D.calls + 1)
  rw [show ((D.calls + 1 : Nat) : Int) = (D.calls : Int) + 1 from by simp] at h9
  have a4 := a.2.2.2
  have nx : ¬ (9 : Nat) = 4 := by omega
  by_cases z : r.at' = 0
  · obtain ⟨e, hC⟩ := counted_none a z
    have H1 := Lib.hid hC
    have H9 := Lib.hid h9
    have HE := Lib.hid e
    have HZ := Lib.hid z
    rw [z] at c4
    clear hC h9 hS h a hc a4 e z
    go_enter Try.func53, Try.ntmps53
    go_wp2_with fail
    go_ret
    refine ⟨by rw [HE.out]; rfl, 0, H1.out, ?_⟩
    rw [HE.out, show rAt r 0 = r from by unfold rAt; rw [← HZ.out]]
    exact H9.out
  · by_cases z1 : r.at' = 1
    · obtain ⟨⟨p, e⟩, hC⟩ := counted_one a z1
      have H1 := Lib.hid hC
      have h94 := rdev_at h9 0
      have H9 := Lib.hid h94
      have HE := Lib.hid e
      rw [z1] at c4
      clear hC h9 h94 hS h a hc a4 e z z1
      go_enter Try.func53, Try.ntmps53
      go_wp2_with fail
      go_ret
      refine ⟨by rw [HE.out]; rfl, 0, H1.out, ?_⟩
      rw [HE.out]
      exact H9.out
    · obtain ⟨⟨p, e⟩, hC⟩ := counted_more a (by omega)
      have H1 := Lib.hid hC
      obtain ⟨m, hm⟩ : ∃ m, r.at' = m + 2 := ⟨r.at' - 2, by omega⟩
      have h94 := rdev_at h9 (m + 1)
      rw [show ((m + 1 : Nat) : Int) = (m : Int) + 1 from by simp] at h94
      have H9 := Lib.hid h94
      have HE := Lib.hid e
      have HM := Lib.hid hm
      rw [hm, show ((m + 2 : Nat) : Int) = (m : Int) + 2 from by simp] at c4
      have e2 : IntKind.i64.wrap ((m : Int) + 2 - 1) = (m : Int) + 1 := by rw [show (m : Int) + 2 - 1 = (m : Int) + 1 from by omega]; exact IntWalk.i64_in _ (by omega)
      have t1 : (((m : Int) + 2) == 0) = false := by rw [beq_eq_false_iff_ne]; omega
      have t2 : (((m : Int) + 1) == 0) = false := by rw [beq_eq_false_iff_ne]; omega
      have m0 : (0 : Int) ≤ m := by omega
      have m1 : (m : Int) + 2 ≤ 9223372036854775807 := by omega
      clear hC h9 h94 hS h a hc a4 e z z1 hm
      go_enter Try.func53, Try.ntmps53
      go_wp2_with fail
      go_ret
      refine ⟨by rw [HE.out]; rfl, m + 1, by have := H1.out; rwa [HM.out] at this, ?_⟩
      rw [HE.out]
      exact H9.out
end
end Go.Proofs.Ytkebilddoanhgaa.dev
