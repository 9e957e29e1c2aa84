/-
  Layer 4, the document's device: Write.
-/
import Derived.Test.YtjmjmekmaamclaaDoorDevH
namespace Go.Proofs.YtjmjmekmaamclaaDoor.dev
open Go.ChangeShapes Go.WideShapes Go.ChangeAt Go.RowKit mem
set_option linter.unusedVariables false

theorem rowStr : RowOf 43 9 (.string ⟨#[]⟩) 1 16 := ⟨Tryd.underlying43, by kernel_rfl, rfl, by decide⟩
theorem rowInt : RowOf 46 3 (.int .i64 0) 1 8 := ⟨Tryd.underlying46, by kernel_rfl, rfl, by decide⟩

section
variable {w wr : World} {As : List Ast} {X : Nat} {D : DevM} {r : RRep}

theorem write_none {E : DevM} {n : Int} {data : ByteArray} (d : D.down = false) (hb : isBlock D n) (hz : data.size = 512 * D.ns) (h : D.counted = (E, none)) : D.write n data = ({ E with cache := D.cache ++ [(n.toNat, data)] }, 0) := by
  unfold DevM.write; rw [if_neg (by rw [d]; decide), if_pos ⟨hb, hz⟩, h]
theorem write_some {E : DevM} {p : Plan} {n : Int} {data : ByteArray} (d : D.down = false) (hb : isBlock D n) (hz : data.size = 512 * D.ns) (h : D.counted = (E, some p)) :
    D.write n data = (({ E with cache := D.cache ++ [(n.toNat, data)] } : DevM).fall p.keep p.torn p.mask, 8) := by
  unfold DevM.write; rw [if_neg (by rw [d]; decide), if_pos ⟨hb, hz⟩, h]
theorem write_down {n : Int} {data : ByteArray} (d : D.down = true) : D.write n data = (D, 8) := by
  unfold DevM.write; rw [if_pos d]
theorem write_arg {n : Int} {data : ByteArray} (d : D.down = false) (h : ¬ (isBlock D n ∧ data.size = 512 * D.ns)) : D.write n data = (D, 1) := by
  unfold DevM.write; rw [if_neg (by rw [d]; decide), if_neg h]

theorem lit2 (w : World) (a b : Value) (t : TypeId) : ∀ j u, [a, b][j]? = some u → (w.alloc (.cells #[a, b] t)).cell? ((⟨w.heap.size, 0, none⟩ : Addr).add j) = some u := by
  intro j u hj
  have hb := heap_alloc_new w (.cells #[a, b] t)
  rw [Addr.add_mid, Nat.zero_add, cell_of_row _ _ _ _ _ _ hb]
  simpa using hj
theorem lit1 (w : World) (a : Value) (t : TypeId) : ∀ j u, [a][j]? = some u → (w.alloc (.cells #[a] t)).cell? ((⟨w.heap.size, 0, none⟩ : Addr).add j) = some u := by
  intro j u hj
  have hb := heap_alloc_new w (.cells #[a] t)
  rw [Addr.add_mid, Nat.zero_add, cell_of_row _ _ _ _ _ _ hb]
  simpa using hj
theorem one2 (a : Int) (b : ByteArray) : ∀ u ∈ [Value.int .i64 a, Value.string b], u.oneCell' = true := by
  intro u hu
  simp at hu
  rcases hu with rfl | rfl <;> rfl

end
end Go.Proofs.YtjmjmekmaamclaaDoor.dev
