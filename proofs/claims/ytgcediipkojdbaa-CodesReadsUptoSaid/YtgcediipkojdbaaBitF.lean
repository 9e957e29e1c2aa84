/-
  Layer 1: the contracts of a writer's other calls: New, Len, Text, Bit, Add.
-/
import Derived.Test.YtgcediipkojdbaaBitE
import Derived.Laws.BytesArg
namespace Go.Proofs.Ytgcediipkojdbaa.bits
open Go.ChangeShapes Go.WideShapes Go.ChangeAt Go.RowKit

theorem new_any (w : World) : Calls Try.prog 19 #[] w fun e w' => e = .returned (.pointer (some ⟨w.heap.size, 0, none⟩)) ∧ w' = w.alloc (.cells #[.slice none 0 0, .int .i64 0] 73) := by
  go_enter Try.func19, Try.ntmps19
  go_wp2_with fail
  go_ret
  exact ⟨rfl, rfl⟩

theorem Wr.new (w : World) : Wr (w.alloc (.cells #[.slice none 0 0, .int .i64 0] 73)) w.heap.size (fun g => g = w.heap.size) [] (.slice none 0 0) [] :=
  ⟨packs_nil, heap_alloc_new w _, World.ownsRow_nil _ _ _ _, rfl, fun g hg => by simp [Value.ownBlock] at hg, by simp [Value.ownBlock], by simp, fun g hg => by subst hg; simp⟩

/-- the blocks of F have not turned: the writer is as it was -/
theorem Wr.kept {w w' : World} {B : Nat} {F G : Nat → Prop} {b : List Bool} {v : Value} {L : List UInt8} (h : Wr w B F b v L) (hc : Ch G w w') (hd : ∀ g, F g → ¬ G g) : Wr w' B F b v L := by
  have hb : ∀ k, F k → w'.heap[k]? = w.heap[k]? := fun k hk => hc.block k (h.live k hk) (hd k hk)
  refine ⟨h.packs, by rw [hb B h.mine]; exact h.head, ?_, h.mine, h.rowMine, h.apart, h.max, fun g hg => Nat.lt_of_lt_of_le (h.live g hg) hc.size⟩
  obtain ⟨h1, h2⟩ := h.row
  refine ⟨h1, ?_⟩
  rcases h2 with h2 | ⟨g, cap, cur, hv, hg, hh, r⟩
  · exact .inl h2
  · exact .inr ⟨g, cap, cur, hv, hg, by rw [hb g (h.rowMine g (by rw [hv]; rfl))]; exact hh, r⟩

theorem Wr.alloc {w : World} {B : Nat} {F : Nat → Prop} {b : List Bool} {v : Value} {L : List UInt8} (h : Wr w B F b v L) (o : Obj) : Wr (w.alloc o) B F b v L :=
  h.kept ((Ch.refl (fun _ => False) w).alloc o) fun _ _ h => h
theorem Wr.drewN {w : World} {B : Nat} {F : Nat → Prop} {b : List Bool} {v : Value} {L : List UInt8} (h : Wr w B F b v L) (n : Nat) : Wr (w.drewN n) B F b v L :=
  h.kept ((Ch.refl (fun _ => False) w).drewN n) fun _ _ h => h

theorem Wr.text {w : World} {B : Nat} {F : Nat → Prop} {b : List Bool} {v : Value} {L : List UInt8} (h : Wr w B F b v L) : (convert 71 9 v).run Try.prog w = .ok (.string ⟨L.toArray⟩) w := by
  obtain ⟨h1, h2⟩ := h.row
  rcases h2 with ⟨rfl, h2⟩ | ⟨g, cap, cur, hv, _⟩
  · rw [run_convert_bytes_nil w 71 5 Try.underlying71 Try.underlying5 0 0 9 Try.underlying9]
    have : L = [] := List.length_eq_zero_iff.1 h2
    subst this
    rfl
  · subst hv
    have hr := run_convert_bytes_arg (P := Try.prog) w 71 5 Try.underlying71 Try.underlying5 g 0 L.length cap (L.map fun c => (c.toNat : Int)) (by simp) (fun i hi => by
      rw [Nat.zero_add, h.row.cellAt i (by omega)]
      simp [byteCells, List.getElem?_eq_getElem hi, List.getD]) 9 Try.underlying9
    rw [hr]
    congr 3
    simp [strOfNums, Function.comp_def]

theorem wlen_nil (w : World) : Calls Try.prog 20 #[.pointer none] w fun e w' => e = .returned (.int .i64 0) ∧ w = w' := by
  go_enter Try.func20, Try.ntmps20
  go_wp2_with fail
  go_ret
  exact ⟨rfl, rfl⟩

theorem wlen_any {w : World} {B : Nat} {F : Nat → Prop} {b : List Bool} {v : Value} {L : List UInt8} (h : Wr w B F b v L) :
    Calls Try.prog 20 #[.pointer (some ⟨B, 0, none⟩)] w fun e w' => e = .returned (.int .i64 b.length) ∧ w = w' := by
  have hc1 := two_cell1 h.head
  clear h
  go_enter Try.func20, Try.ntmps20
  go_wp2_with fail
  go_ret
  exact ⟨rfl, rfl⟩

theorem wtext_nil (w : World) : Calls Try.prog 23 #[.pointer none] w fun e w' => e = .returned (.tuple #[.string ByteArray.empty, .int .i64 2]) ∧ w = w' := by
  go_enter Try.func23, Try.ntmps23
  go_wp2_with fail
  go_ret2
  exact ⟨rfl, rfl⟩

theorem wtext_any {w : World} {B : Nat} {F : Nat → Prop} {b : List Bool} {v : Value} {L : List UInt8} (h : Wr w B F b v L) :
    Calls Try.prog 23 #[.pointer (some ⟨B, 0, none⟩)] w fun e w' => e = .returned (.tuple #[.string ⟨L.toArray⟩, .int .i64 0]) ∧ w = w' := by
  have hc0 := two_cell0 h.head
  have ht := h.text
  clear h
  go_enter Try.func23, Try.ntmps23
  go_wp2_with fail
  go_ret2
  exact ⟨rfl, rfl⟩

theorem taker_any (s : ByteArray) (w : World) : Calls Try.prog 27 #[.string s] w fun e w' => e = .returned (.func (Fn.func 43) #[] #[.pointer (some ⟨w.heap.size, 0, none⟩)]) ∧ w' = w.alloc (.cells #[.string s] 9) := by
  go_enter Try.func27, Try.ntmps27
  go_wp2_with fail
  go_ret
  exact ⟨rfl, rfl⟩
end Go.Proofs.Ytgcediipkojdbaa.bits
