/-
  Layer 4, the document's device: Pull, Flush, Write.
-/
import Derived.Test.YtjmjmekmaamclaaDoorDevG
import Derived.Test.YtjmjmekmaamclaaDoorHA
namespace Go.Proofs.YtjmjmekmaamclaaDoor.dev
open Go.ChangeShapes Go.WideShapes Go.ChangeAt Go.RowKit mem
set_option linter.unusedVariables false

section
variable {w wr : World} {As : List Ast} {X : Nat} {D : DevM} {r : RRep}

theorem ints_of_row {W : World} {E : TypeId} {v : Value} {ks : List Int} (h : W.ownsRow 0 E 1 v ks.length (intsV ks)) : IntsIn W v ks := by
  rcases h.2 with ⟨h1, h2⟩ | ⟨g, cap, cur, hv, hr⟩
  · exact ⟨none, 0, by rw [h2]; exact h1, fun i hi => by omega⟩
  · refine ⟨_, cap, hv, fun i hi => ⟨g, 0, rfl, ?_⟩⟩
    rw [Nat.zero_add]
    subst hv
    rw [h.cellAt i (by omega)]
    exact intsV_at _ _ hi
theorem flushed_take (c : List (Nat × ByteArray)) (s : List ByteArray) (k : Nat) (h : k < c.length) : flushed (c.take (k + 1)) s = (flushed (c.take k) s).set (c[k]).1 (c[k]).2 := by
  rw [List.take_succ_eq_append_getElem h, flushed_snoc]
theorem flushed_ok (a : D.Ok) (k : Nat) : (withSafe D (flushed (D.cache.take k) D.safe)).Ok :=
  ⟨a.nb0, a.nb1, a.ns0, a.ns1, by show (flushed _ _).length = _; rw [flushed_len]; exact a.safe, flushed_sz _ _ a.ssz fun x hx => (a.csz x (List.mem_of_mem_take hx)).2, a.csz, a.plan⟩
theorem flush_none {E : DevM} (d : D.down = false) (h : D.counted = (E, none)) : D.flush = ({ E with safe := flushed D.cache D.safe, cache := [] }, 0) := by
  unfold DevM.flush; rw [if_neg (by rw [d]; decide), h]
theorem flush_some {E : DevM} {p : Plan} (d : D.down = false) (h : D.counted = (E, some p)) : D.flush = (E.fall p.keep p.torn p.mask, 8) := by
  unfold DevM.flush; rw [if_neg (by rw [d]; decide), h]
theorem flush_down (d : D.down = true) : D.flush = (D, 8) := by
  unfold DevM.flush; rw [if_pos d]

end
end Go.Proofs.YtjmjmekmaamclaaDoor.dev
