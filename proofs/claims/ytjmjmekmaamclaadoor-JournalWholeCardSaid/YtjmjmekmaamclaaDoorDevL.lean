/-
  Layer 4, the document's device: Corrupt.
-/
import Derived.Test.YtjmjmekmaamclaaDoorDB
namespace Go.Proofs.YtjmjmekmaamclaaDoor.dev
open Go.ChangeShapes Go.WideShapes Go.ChangeAt Go.RowKit mem
set_option linter.unusedVariables false

section
variable {w wr : World} {As : List Ast} {X : Nat} {D : DevM} {r : RRep}

def corruptOk (D : DevM) (n at' : Int) (d : ByteArray) : Prop := isBlock D n ∧ 0 ≤ at' ∧ at' ≤ 512 * D.ns ∧ (d.size : Int) ≤ 512 * D.ns - at'
theorem corrupt_arg {n at' : Int} {d : ByteArray} (h : ¬ corruptOk D n at' d) : D.corrupt n at' d = (D, 1) := by unfold DevM.corrupt; exact if_neg h
theorem corrupt_ok {n k : Nat} {d : ByteArray} (h : corruptOk D n k d) : D.corrupt n k d = ({ D with safe := D.safe.set n (over (D.safe.getD n empty) k d), cache := D.cache.map (mend n fun s => over s k d) }, 0) := by
  have h' : isBlock D n ∧ (0 : Int) ≤ k ∧ (k : Int) ≤ 512 * D.ns ∧ (d.size : Int) ≤ 512 * D.ns - k := h
  unfold DevM.corrupt
  rw [if_pos h', Int.toNat_natCast, Int.toNat_natCast]
  rfl
theorem corrupt_known (a : RKnown D r) {n k : Nat} {d : ByteArray} (hn : n < D.nb) (h : k + d.size ≤ 512 * D.ns) (j : Nat) : RKnown (withCache (withSafe D (D.safe.set n (over (D.safe.getD n empty) k d))) (mendK n (fun s => over s k d) D.cache j)) r := by
  obtain ⟨⟨b1, b2, b3, b4, b5, b6, b7, b8⟩, a2⟩ := a
  refine ⟨⟨b1, b2, b3, b4, by show (D.safe.set _ _).length = _; rw [List.length_set]; exact b5, fun s hs => ?_, fun x hx => ?_, b8⟩, a2⟩
  · rcases List.mem_or_eq_of_mem_set hs with e | rfl
    · exact b6 s e
    · have hz := b6 _ (getD_mem (n := n) (by rw [b5]; exact hn))
      rw [over_size _ _ _ (by rw [hz]; exact h)]
      exact hz
  · rcases List.mem_append.1 hx with e | e
    · obtain ⟨y, hy, rfl⟩ := List.mem_map.1 e
      have h7 := b7 y (List.mem_of_mem_take hy)
      unfold mend
      split
      · exact ⟨h7.1, by show (over y.2 k d).size = _; rw [over_size _ _ _ (by rw [h7.2]; exact h)]; exact h7.2⟩
      · exact h7
    · exact b7 x (List.mem_of_mem_drop e)

end
end Go.Proofs.YtjmjmekmaamclaaDoor.dev
