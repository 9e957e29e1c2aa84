/-
  Layer 4, the program's Twin: clones.
-/
import Derived.Test.YtkebilddoanhgaaDrvL
import Derived.Test.YtkebilddoanhgaaDevO
namespace Go.Proofs.Ytkebilddoanhgaa.dev
open Go.ChangeShapes Go.WideShapes Go.ChangeAt Go.RowKit mem
set_option linter.unusedVariables false

section
variable {w wr : World} {As : List Ast} {X : Nat} {D : DevM} {r : PRep}

set_option maxRecDepth 8000 in
theorem clone_writes {W : World} (h : St w W As) {g cap : Nat} {l : List (Nat × ByteArray)} (hr : W.ownsRow 0 66 2 (.slice (some ⟨g, 0, none⟩) l.length cap) l.length (wcells l)) (hpos : 0 < l.length) (hl : l.length ≤ 1073741824) :
    Calls Try.prog 18 #[.slice (some ⟨g, 0, none⟩) l.length cap] W fun e w' => ∃ g' cap', e = .returned (.slice (some ⟨g', 0, none⟩) l.length cap') ∧ St w w' (aRow 66 2 (.slice (some ⟨g', 0, none⟩) l.length cap') l.length (wcells l) :: As) ∧ Ch (fun _ => False) W w' := by
  have h1 := st_none h 66 2
  have HE := Lib.hid h1
  have hch : Ch (fun _ => False) W (W.alloc (.cells #[] 66)) := (Ch.refl _ _).alloc _
  have hsrc : ∀ j u, (wcells l)[j]? = some u → (W.alloc (.cells #[] 66)).cell? ((⟨g, 0, none⟩ : Addr).add j) = some u := fun j u hj => by
    have hlt := (List.getElem?_eq_some_iff.1 hj).1
    rw [wcells_len] at hlt
    rw [Addr.add_mid, Nat.zero_add]
    exact hch.cell (by rw [hr.cellAt j hlt]; exact hj)
  have HSRC := Lib.hid hsrc
  have HP := Lib.hid hpos
  have HL := Lib.hid hl
  have HWL := Lib.hid (wcells_len l)
  have heq := Lib.run_eql_slice_nil (P := Try.prog) W 63 66 (some ⟨g, 0, none⟩) l.length cap 0 0 Try.underlying63
  clear h h1 hsrc hr hl hch
  go_enter Try.func18, Try.ntmps18
  go_wp2_with (at_builtin; refine lst_append rowWr HE.out rfl _ _ rfl rfl ⟨g, 0, none⟩ l.length cap (wcells l) rfl HWL.out HSRC.out (wcells_one _) HP.out (by have := HL.out; unfold maxLen; omega) (by have := HL.out; omega) ?_; intro g' cap' w3 hst hch; rw [Nat.zero_add, List.nil_append] at hst; have HST := Lib.hid hst; have HCH := Lib.hid hch; clear hst hch)
  go_ret
  refine ⟨g', cap', ?_, HST.out, ?_⟩
  · simp
  · have := HCH.out
    exact ⟨this.os, this.tape, this.output, by have := this.size; simp at this; omega, fun k hk _ => by
      rw [this.block k (by simp; omega) (by simp only [Value.ownBlock, Option.some.injEq]; omega)]
      exact Below.heap_alloc W _ k hk⟩
end
end Go.Proofs.Ytkebilddoanhgaa.dev
