/-
  A kit of a heap's objects: their order, by places.
-/
import Derived.Test.YtfgcbbbhnnikdaaHeap
namespace Go.Proofs.Ytfgcbbbhnnikdaa.mem
open Go.ChangeShapes Go.WideShapes Go.ChangeAt Go.RowKit
set_option linter.unusedVariables false
section
variable {w W : World} {As : List Ast}
theorem Sep.perm {L M : List Ast} (h : L.Perm M) : ∀ {U : Tok → Prop}, Sep W L U → Sep W M U := by
  induction h with
  | nil => intro U h; exact h
  | cons x _ ih => intro U h; exact h.tail fun V k => ih k
  | swap x y l => intro U h; exact h.swap
  | trans _ _ ih1 ih2 => intro U h; exact ih2 (ih1 h)
theorem St.perm {L M : List Ast} (h : L.Perm M) (k : St w W L) : St w W M := by
  obtain ⟨U, h1, h2⟩ := k
  exact ⟨U, h1.perm h, h2⟩
theorem St.dropL : ∀ {L : List Ast}, St w W (L ++ As) → St w W As
  | [], h => h
  | _ :: L, h => St.dropL (L := L) h.drop
def pick (L : List Ast) (is : List Nat) : List Ast := is.map fun i => L.getD i (aMany [])
theorem pick_range (L : List Ast) : pick L (List.range L.length) = L := by
  unfold pick
  apply List.ext_getElem
  · simp
  · intro i h1 h2
    simp [List.getD_eq_getElem?_getD, List.getElem?_eq_getElem h2]
/-- the objects at these places, in this order; the others are let go -/
theorem St.re {L : List Ast} (is js : List Nat) (h : St w W (L ++ As)) (hn : L.length = (js ++ is).length := by rfl) (hp : (js ++ is).isPerm (List.range (js ++ is).length) = true := by decide) : St w W (pick L is ++ As) := by
  rw [← hn] at hp
  have h1 : (pick L (js ++ is)).Perm (pick L (List.range L.length)) := (List.isPerm_iff.1 hp).map _
  rw [pick_range] at h1
  have h2 : St w W (pick L (js ++ is) ++ As) := h.perm (h1.symm.append_right As)
  have e : pick L (js ++ is) = pick L js ++ pick L is := List.map_append
  rw [e, List.append_assoc] at h2
  exact h2.dropL
end
end Go.Proofs.Ytfgcbbbhnnikdaa.mem
