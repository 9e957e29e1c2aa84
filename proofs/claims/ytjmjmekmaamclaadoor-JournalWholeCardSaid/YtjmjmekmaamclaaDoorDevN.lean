/-
  Layer 4, the document's device: Image, New.
-/
import Derived.Test.YtjmjmekmaamclaaDoorDevI
namespace Go.Proofs.YtjmjmekmaamclaaDoor.dev
open Go.ChangeShapes Go.WideShapes Go.ChangeAt Go.RowKit mem
set_option linter.unusedVariables false

theorem one1 (b : ByteArray) : ∀ u ∈ [Value.string b], u.oneCell' = true := by
  intro u hu
  simp at hu
  rw [hu]; rfl

section
variable {w wr : World} {As : List Ast} {X : Nat} {D : DevM} {r : RRep}

def imageK (D : DevM) (k : Nat) : List ByteArray := (List.range k).map D.now
theorem imageK_more (D : DevM) (k : Nat) : strs (imageK D k) ++ [.string (D.now k)] = strs (imageK D (k + 1)) := by
  simp [imageK, strs, List.range_succ]

theorem made_at (n i : Nat) (h : i < n) : (madeCells #[Value.int .u8 0] n)[i]? = some (.int .u8 0) := by
  have := congrArg (·[i]?) (toList_madeCells_one (Value.int .u8 0) n)
  simp only [Array.getElem?_toList] at this
  rw [this, List.getElem?_replicate, if_pos h]
theorem make8 (n : Nat) (hn : n ≤ 4096) (W : World) : (Instr.makeSlice 119 (.int .i64 (n : Int)) (.int .i64 (n : Int))).run Tryd.prog W = .ok (.slice (some ⟨W.heap.size, 0, none⟩) n n) (W.alloc (.cells (madeCells #[.int .u8 0] n) 5)) := by
  obtain ⟨i, hi, hz, h1, h2⟩ := info_parts (show (Tryd.prog.info? 5).map (fun i => (i.zero, i.size, i.bytes)) = some (some (.int .u8 0), 1, 1) by kernel_rfl)
  have := run_make (P := Tryd.prog) W 119 5 i (.int .u8 0) Tryd.underlying119 hi hz .i64 .i64 n n (by omega) (by omega) (by rw [h2]; omega) (by omega)
  rw [Int.toNat_natCast, h1, Nat.mul_one] at this
  exact this
theorem text8 (n B : Nat) (W : World) (h : W.heap[B]? = some (.cells (madeCells #[.int .u8 0] n) 5 (0, 0))) : (convert 119 9 (.slice (some ⟨B, 0, none⟩) n n)).run Tryd.prog W = .ok (.string (noughts n)) W := by
  have := run_convert_bytes_back (P := Tryd.prog) W 119 9 5 ⟨B, 0, none⟩ n (List.replicate n (0 : UInt8)) Tryd.underlying119 Tryd.underlying5 Tryd.underlying9 (fun j hj => by
    rw [Addr.add_mid, Nat.zero_add, cell_of_row _ _ _ _ _ _ h, made_at n j (by simpa using hj)]
    simp)
  rw [List.length_replicate] at this
  exact this
theorem lit1b (W : World) (o : Obj) (z : Value) (t : TypeId) : ∀ j u, [z][j]? = some u → ((W.alloc o).alloc (.cells #[z] t)).drew.cell? ((⟨W.heap.size + 1, 0, none⟩ : Addr).add j) = some u := by
  intro j u hj
  have hb := heap_alloc_new (W.alloc o) (.cells #[z] t)
  rw [show (W.alloc o).heap.size = W.heap.size + 1 from by simp] at hb
  rw [Addr.add_mid, Nat.zero_add]
  show ((W.alloc o).alloc (.cells #[z] t)).cell? _ = _
  rw [cell_of_row _ _ _ _ _ _ hb]
  simpa using hj

end
end Go.Proofs.YtjmjmekmaamclaaDoor.dev
