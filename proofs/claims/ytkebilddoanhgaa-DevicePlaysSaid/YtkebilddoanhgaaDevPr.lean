/-
  Layer 4: DevicePlays' two places: each is empty, or holds the program's device and the document's, alike.
-/
import Derived.Test.YtkebilddoanhgaaDevD
import Derived.Test.YtkebilddoanhgaaDevW
import Derived.Test.YtkebilddoanhgaaDevY
import Derived.Test.YtkebilddoanhgaaDevN
import Derived.Test.YtkebilddoanhgaaDevO
namespace Go.Proofs.Ytkebilddoanhgaa.dev
open Go.ChangeShapes Go.WideShapes Go.ChangeAt Go.RowKit mem
set_option linter.unusedVariables false

abbrev Pl := Option (Nat × Nat × DevM)
def pv : Pl → Value | none => .pointer none | some (X, _, _) => pt X
def pw : Pl → Value | none => .pointer none | some (_, Y, _) => pt Y
def aPl (dev : Nat → DevM → Ast) : Pl → Ast | none => aMany [] | some (X, Y, D) => aMany [dev X D, rDev Y D]
def put2 (o : Nat → Pl) (k : Nat) (p : Pl) : Nat → Pl := fun j => if j = k then p else o j

section
variable {w wr : World} {As : List Ast} {dev : Nat → DevM → Ast} {o : Nat → Pl} {PD PM : Nat} {k : Nat} {TD TM : TypeId}
abbrev two (dev : Nat → DevM → Ast) (o : Nat → Pl) (PD PM : Nat) (TD TM : TypeId) (As : List Ast) : List Ast := aVar PD [pv (o 0), pv (o 1)] TD :: aVar PM [pw (o 0), pw (o 1)] TM :: aPl dev (o 0) :: aPl dev (o 1) :: As
theorem two_cell (h : St w wr (two dev o PD PM TD TM As)) (hk : k ≤ 1) : wr.cell? ⟨PD, k, none⟩ = some (pv (o k)) ∧ wr.cell? ⟨PM, k, none⟩ = some (pw (o k)) := by
  have h1 := st_cell h k
  have h2 := st_cell h.swap k
  rcases Nat.le_one_iff_eq_zero_or_eq_one.1 hk with rfl | rfl
  · exact ⟨h1, h2⟩
  · exact ⟨h1, h2⟩
theorem two_free (h : St w wr (two dev o PD PM TD TM As)) (i : Nat) : wr.frozen? ⟨PD, i, none⟩ = false ∧ wr.frozen? ⟨PM, i, none⟩ = false := ⟨st_free h i, st_free h.swap i⟩
/-- what lies at place k, in front -/
theorem two_open (h : St w wr (two dev o PD PM TD TM As)) (hk : k ≤ 1) : St w wr (aPl dev (o k) :: aVar PD [pv (o 0), pv (o 1)] TD :: aVar PM [pw (o 0), pw (o 1)] TM :: aPl dev (o (1 - k)) :: As) := by
  rcases Nat.le_one_iff_eq_zero_or_eq_one.1 hk with rfl | rfl
  · exact h.third
  · exact h.fourth
theorem two_shut {p : Pl} (h : St w wr (aPl dev p :: aVar PD [pv (o 0), pv (o 1)] TD :: aVar PM [pw (o 0), pw (o 1)] TM :: aPl dev (o (1 - k)) :: As)) (hk : k ≤ 1) (h1 : pv p = pv (o k)) (h2 : pw p = pw (o k)) : St w wr (two dev (put2 o k p) PD PM TD TM As) := by
  rcases Nat.le_one_iff_eq_zero_or_eq_one.1 hk with rfl | rfl
  · unfold two put2
    simp only [if_pos, if_neg (show ¬ (1 = 0) by decide)]
    rw [h1, h2]
    exact h.swap.rest fun V k => k.swap
  · unfold two put2
    simp only [if_pos, if_neg (show ¬ (0 = 1) by decide)]
    rw [h1, h2]
    exact (((h.swap.rest fun V k => k.swap).rest fun V k => k.tail fun V k => k.swap))
/-- another pair at place k: the elder is forgotten -/
theorem two_put {p : Pl} (h : St w wr (aPl dev p :: two dev o PD PM TD TM As)) (hk : k ≤ 1) : St w ((wr.setCell ⟨PD, k, none⟩ (pv p)).setCell ⟨PM, k, none⟩ (pw p)) (two dev (put2 o k p) PD PM TD TM As) := by
  have h1 := st_set h.swap k (pv p)
  have h2 := st_set h1.third k (pw p)
  rcases Nat.le_one_iff_eq_zero_or_eq_one.1 hk with rfl | rfl
  · unfold two put2
    simp only [if_pos, if_neg (show ¬ (1 = 0) by decide)]
    exact h2.fourth.drop.swap
  · unfold two put2
    simp only [if_pos, if_neg (show ¬ (0 = 1) by decide)]
    exact h2.fifth.drop.swap.rest fun V k => k.tail fun V k => k.swap
theorem two_mid (h : St w wr (two dev o PD PM TD TM As)) (hk : k ≤ 1) (u : Value) : (wr.setCell ⟨PD, k, none⟩ u).cell? ⟨PM, k, none⟩ = some (pw (o k)) ∧ (wr.setCell ⟨PD, k, none⟩ u).frozen? ⟨PM, k, none⟩ = false := by
  have h1 := st_set h k u
  refine ⟨?_, st_free h1.swap k⟩
  have h2 := st_cell h1.swap k
  rcases Nat.le_one_iff_eq_zero_or_eq_one.1 hk with rfl | rfl
  · exact h2
  · exact h2
theorem put2_same {p : Pl} : put2 o k p k = p := if_pos rfl
theorem rnb_cell {Y : Nat} {D : DevM} (h : St w wr (rDev Y D :: As)) : wr.cell? ⟨Y, 0, none⟩ = some (.int .i64 (D.nb : Int)) := by
  obtain ⟨r, a, h⟩ := rdev_open h
  exact st_cell h 0
/-- the two devices at place k, in front -/
theorem two_devs {X Y : Nat} {D : DevM} (h : St w wr (two dev o PD PM TD TM As)) (hk : k ≤ 1) (ho : o k = some (X, Y, D)) : St w wr (dev X D :: rDev Y D :: aVar PD [pv (o 0), pv (o 1)] TD :: aVar PM [pw (o 0), pw (o 1)] TM :: aPl dev (o (1 - k)) :: As) := by
  have := two_open h hk
  rw [ho] at this
  exact this.append
theorem two_devs_shut {X Y : Nat} {D E : DevM} (h : St w wr (dev X E :: rDev Y E :: aVar PD [pv (o 0), pv (o 1)] TD :: aVar PM [pw (o 0), pw (o 1)] TM :: aPl dev (o (1 - k)) :: As)) (hk : k ≤ 1) (ho : o k = some (X, Y, D)) : St w wr (two dev (put2 o k (some (X, Y, E))) PD PM TD TM As) :=
  two_shut (p := some (X, Y, E)) (St.gather (As := [dev X E, rDev Y E]) h) hk (by rw [ho]; rfl) (by rw [ho]; rfl)
theorem put2_other {p : Pl} {n : Nat} (hn : n ≤ 1) : put2 o (1 - n) p n = o n := if_neg (by omega)
theorem two_twin {X Y X' Y' : Nat} {D : DevM} {n : Nat} (h : St w wr (aVar PM ([pw (o 0), pw (o 1)].set (1 - n) (pt Y')) TM :: rDev Y' D :: rDev Y D :: aVar PD ([pv (o 0), pv (o 1)].set (1 - n) (pt X')) TD :: dev X' D :: dev X D :: aPl dev (o (1 - n)) :: As)) (hn : n ≤ 1) (ho : o n = some (X, Y, D)) :
    St w wr (two dev (put2 o (1 - n) (some (X', Y', D))) PD PM TD TM As) := by
  have a2 := St.gather (As := [dev X' D, rDev Y' D]) h.fifth.third.swap
  have a3 := St.gather (As := [dev X D, rDev Y D]) a2.fifth.fourth.swap
  have a4 := a3.fifth.drop
  rcases Nat.le_one_iff_eq_zero_or_eq_one.1 hn with rfl | rfl
  · unfold two put2
    simp only [if_pos, if_neg (show ¬ (0 = 1 - 0) by decide), ho]
    have a5 := a4.third.fourth
    rw [ho] at a5
    exact a5
  · unfold two put2
    simp only [if_neg (show ¬ (1 = 1 - 1) by decide), ho]
    have a5 := a4.swap.third.fourth
    rw [ho] at a5
    exact a5
theorem put2_room {m : Nat} {p : Pl} (h : ∀ j X Y D, o j = some (X, Y, D) → D.Room m) (hp : ∀ X Y D, p = some (X, Y, D) → D.Room m) : ∀ j X Y D, put2 o k p j = some (X, Y, D) → D.Room m := by
  intro j X Y D e
  unfold put2 at e
  by_cases q : j = k
  · rw [if_pos q] at e; exact hp X Y D e
  · rw [if_neg q] at e; exact h j X Y D e
theorem new_room (nb ns m : Nat) (hm : m ≤ 1000) : (DevM.new nb ns).Room m := ⟨by show 0 + m ≤ _; omega, by show 0 + m ≤ _; omega, by show 0 + m ≤ _; omega⟩
end
end Go.Proofs.Ytkebilddoanhgaa.dev
