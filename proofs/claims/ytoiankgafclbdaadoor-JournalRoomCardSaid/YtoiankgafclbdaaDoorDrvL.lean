/-
  Layer 4, the program's New.
-/
import Derived.Test.YtoiankgafclbdaaDoorDrvI
import Derived.Test.YtoiankgafclbdaaDoorDevN
import Derived.Laws.OwnMore
import Derived.Laws.CopyRow
namespace Go.Proofs.YtoiankgafclbdaaDoor.dev
open Go.ChangeShapes Go.WideShapes Go.ChangeAt Go.RowKit mem
set_option linter.unusedVariables false

section
variable {w wr : World} {As : List Ast} {X : Nat} {D : DevM} {r : PRep}

theorem repeat_nought (n : Nat) : (⟨(Lib.repeatL (⟨#[0]⟩ : ByteArray).data.toList n).toArray⟩ : ByteArray) = noughts n := by
  unfold noughts
  congr 2
  induction n with
  | zero => rfl
  | succ n ih =>
    rw [List.replicate_succ, ← ih]
    rfl

/-- j of nb elements are laid -/
def rowsC (s : ByteArray) (nb j : Nat) : List Value := List.replicate j (.string s) ++ List.replicate (nb - j) (.string ⟨#[]⟩)
theorem rowsC_len (s : ByteArray) (nb j : Nat) (h : j ≤ nb) : (rowsC s nb j).length = nb := by simp [rowsC]; omega
theorem rowsC_more (s : ByteArray) (nb j c : Nat) (h : j + c ≤ nb) : (rowsC s nb j).take j ++ List.replicate c (.string s) ++ (rowsC s nb j).drop (j + c) = rowsC s nb (j + c) := by
  unfold rowsC
  rw [List.take_left' (by simp), List.drop_append, List.length_replicate, List.drop_eq_nil_of_le (by simp), List.nil_append, List.drop_replicate, show nb - j - (j + c - j) = nb - (j + c) from by omega, List.replicate_append_replicate]
theorem rowsC_one (s : ByteArray) (v : Value) (u : List Value) (nb j : Nat) : ∀ v ∈ List.replicate j (Value.string s), v.oneCell' = true := by
  intro v hv
  rw [(List.mem_replicate.1 hv).2]
  rfl
theorem elS : Tryd.prog.elem 43 = 9 := by kernel_rfl
theorem st_setrow {b : Nat} {cur cs : Array Value} {t : TypeId} (h : St w wr (aBlk b (.cells cur t (0, 0)) :: As)) : St w (wr.setRow b cs) (aBlk b (.cells cs t (0, 0)) :: As) :=
  h.step fun F ⟨hb, hF⟩ => ⟨F, ⟨setRow_heap wr b cur cs t (0, 0) hb, hF⟩, ⟨rfl, rfl, rfl, by simp, fun k hk hf => setRow_other wr b k cs fun e => hf (by subst e; exact fun q => (hF _).2 rfl)⟩, fun g hg => .inl hg⟩

set_option maxRecDepth 8000 in
set_option maxHeartbeats 1000000 in
theorem prepeat_any (h : St w wr As) (B nb : Nat) (s : ByteArray) (hB : wr.cell? ⟨B, 0, none⟩ = some (.string s)) (h1 : 16 ≤ nb) (h2 : nb ≤ 4096) :
    Calls Tryd.prog 43 #[.slice (some ⟨B, 0, none⟩) 1 1, .int .i64 (nb : Int)] wr fun e w' => ∃ v, e = .returned v ∧ St w w' (aRow 9 1 v nb (strs (List.replicate nb s)) :: As) := by
  have n1 : (16 : Int) ≤ nb := by omega
  have n2 : (nb : Int) ≤ 4096 := by omega
  have n3 : (0 : Int) ≤ nb := by omega
  have hmul : ∀ W, Calls Tryd.prog 65 #[.int .u64 1, .int .u64 (nb : Int)] W fun e w' => e = .returned (.tuple #[.int .u64 0, .int .u64 (nb : Int)]) ∧ W = w' := fun W =>
    (Tryd.bits_Mul 1 nb (by omega) (by omega) W).mono fun e w' ⟨h, k⟩ => ⟨by rw [h, Nat.one_mul, Nat.div_eq_of_lt (by omega), Nat.mod_eq_of_lt (by omega)]; rfl, k.symm⟩
  have HMUL := Lib.hid hmul
  clear hmul
  have hmk := run_make_row' (P := Tryd.prog) 43 9 (.string ⟨#[]⟩) 16 Tryd.underlying43 (by kernel_rfl) rfl .i64 .i64 nb (by omega) (by omega)
  have HZ : (madeCells #[.string ⟨#[]⟩] nb) = (rowsC s nb 0).toArray := by
    apply Array.toList_inj.1
    rw [toList_madeCells_one]
    simp [rowsC]
  rw [HZ] at hmk
  have h3 := h.push (wq := wr.alloc (.cells (rowsC s nb 0).toArray 9)) ((Ch.refl _ wr).alloc _) (A := aBlk wr.heap.size (.cells (rowsC s nb 0).toArray 9 (0, 0))) (F := fun g => g.1 = wr.heap.size) ⟨heap_alloc_new wr _, fun g => Iff.rfl⟩ fun g hg => by omega
  have hB2 := ((Ch.refl (fun _ => False) wr).alloc (.cells (rowsC s nb 0).toArray 9)).cell hB
  have hcp := fun ty => run_copy_row (P := Tryd.prog) (wr.alloc (.cells (rowsC s nb 0).toArray 9)) 43 43 ty 9 wr.heap.size 0 nb nb ⟨B, 0, none⟩ 1 1 _ _ [.string s] Tryd.underlying43 (by kernel_rfl) (st_blk h3) (by show 1 = Nat.min 1 nb; exact (Nat.min_eq_left (by omega)).symm) (fun j v hj => by
    rw [Addr.add_mid, Nat.zero_add]
    match j with
    | 0 => simp at hj; rw [← hj]; exact hB2
    | j + 1 => simp at hj) (by rw [List.size_toArray, rowsC_len _ _ _ (by omega)]; simp; omega) (fun v hv => by rw [List.mem_singleton.1 hv]; rfl)
  have e0 : ((rowsC s nb 0).toArray.toList.take 0 ++ [Value.string s] ++ (rowsC s nb 0).toArray.toList.drop (0 + [Value.string s].length)) = rowsC s nb 1 := rowsC_more s nb 0 1 (by omega)
  rw [e0] at hcp
  have h4 := st_setrow (cs := (rowsC s nb 1).toArray) h3
  have H4 := Lib.hid h4
  clear h h3 h4 e0 HZ
  go_enter Tryd.func43, Tryd.ntmps43
  go_wp2_with (go_at_call 65; refine (HMUL.out _).mono ?_; rintro e w' ⟨rfl, rfl⟩)
  clear hcp hmk hB2 hB HMUL
  generalize (wr.alloc (.cells (rowsC s nb 0).toArray 9)).setRow wr.heap.size (rowsC s nb 1).toArray = W0 at H4 ⊢
  generalize wr.heap.size = G at H4 ⊢
  go_loopw [8] (fun i W => ∃ j : Nat, 1 ≤ j ∧ j ≤ nb ∧ i = .int .i64 ↑j ∧ St w W (aBlk G (.cells (rowsC s nb j).toArray 9 (0, 0)) :: As)) (fun i _ => nb - (intOf i).toNat)
  case atStart => exact ⟨1, Nat.le_refl _, by omega, rfl, H4.out⟩
  case round =>
    obtain ⟨j, hj1, hj, rfl, h⟩ := hrel
    have HJ := Lib.hid hj1
    have HJ2 := Lib.hid hj
    have j0 : (0 : Int) ≤ j := by omega
    by_cases hlt : j < nb
    · have j1 : (j : Int) < nb := by omega
      obtain ⟨c, hc⟩ : ∃ c, c = Nat.min j (nb - j) := ⟨_, rfl⟩
      have hc1 : 1 ≤ c ∧ j + c ≤ nb ∧ c ≤ j := by
        rw [hc]
        have h1 : Nat.min j (nb - j) ≤ j := Nat.min_le_left j (nb - j)
        have h2 : Nat.min j (nb - j) ≤ nb - j := Nat.min_le_right j (nb - j)
        have h3 : 1 ≤ Nat.min j (nb - j) := Nat.le_min.2 ⟨hj1, by omega⟩
        exact ⟨h3, by omega, h1⟩
      have HC := Lib.hid hc1
      have hs1 : ∀ W, (Instr.slice 43 (.slice (some ⟨G, 0, none⟩) nb nb) (some (.int .i64 (j : Int))) none none).run Tryd.prog W = .ok (.slice (some ⟨G, j, none⟩) (nb - j) (nb - j)) W := fun W => by
        have := run_slice_l (P := Tryd.prog) (w := W) 43 (some ⟨G, 0, none⟩) nb nb (by rw [elS]; exact Tryd.underlying43) .i64 (j : Int) (by omega) (by omega)
        rw [this, elS]
        have hz : (sizeOf 9).run Tryd.prog W = .ok 1 W := by kernel_rfl
        rw [hz]
        show Result.ok (sliced (some ⟨G, 0, none⟩) (j : Int).toNat nb nb 1) W = _
        rw [Int.toNat_natCast]
        unfold sliced
        rw [if_neg (by omega), Option.map_some, Addr.add_mid, Nat.zero_add, Nat.mul_one]
      have hs2 : ∀ W, (Instr.slice 43 (.slice (some ⟨G, 0, none⟩) nb nb) none (some (.int .i64 (j : Int))) none).run Tryd.prog W = .ok (.slice (some ⟨G, 0, none⟩) j nb) W := fun W => by
        have := run_slice_h (P := Tryd.prog) (w := W) 43 (some ⟨G, 0, none⟩) nb nb (by rw [elS]; exact Tryd.underlying43) .i64 (j : Int) (by omega) (by omega)
        rw [this, elS]
        have hz : (sizeOf 9).run Tryd.prog W = .ok 1 W := by kernel_rfl
        rw [hz]
        show Result.ok (sliced (some ⟨G, 0, none⟩) 0 (j : Int).toNat nb 1) W = _
        rw [Int.toNat_natCast]
        unfold sliced
        rw [if_neg (by omega), Option.map_some, Addr.add_mid, Nat.zero_add, Nat.zero_mul]
        rfl
      have hcp := fun ty => run_copy_row (P := Tryd.prog) wr.drew 43 43 ty 9 G j (nb - j) (nb - j) ⟨G, 0, none⟩ j nb _ _ (List.replicate c (.string s)) Tryd.underlying43 (by kernel_rfl) (st_blk h.drew) (by rw [List.length_replicate]; exact hc) (fun i v hi => by
        rw [Addr.add_mid, Nat.zero_add, cell_of_row _ _ _ _ _ _ (st_blk h.drew), List.getElem?_toArray]
        have hlt := (List.getElem?_eq_some_iff.1 hi).1
        rw [List.length_replicate] at hlt
        unfold rowsC
        rw [List.getElem?_append_left (by rw [List.length_replicate]; omega), List.getElem?_replicate, if_pos (by omega)]
        rw [List.getElem?_replicate, if_pos (by omega)] at hi
        exact hi) (by rw [List.length_replicate, List.size_toArray, rowsC_len _ _ _ (by omega)]; omega) (rowsC_one s (.bool true) [] nb c)
      have e0 : ((rowsC s nb j).toArray.toList.take j ++ List.replicate c (Value.string s) ++ (rowsC s nb j).toArray.toList.drop (j + (List.replicate c (Value.string s)).length)) = rowsC s nb (j + c) := by
        rw [List.length_replicate]; exact rowsC_more s nb j c hc1.2.1
      rw [e0, List.length_replicate] at hcp
      have H5 := Lib.hid (st_setrow (cs := (rowsC s nb (j + c)).toArray) h.drew)
      have e1 : IntKind.i64.wrap ((j : Int) + c) = (j : Int) + c := IntWalk.i64_in _ (by omega)
      clear h e0 hc hlt hj1 hj hc1 H4
      go_wp2_with fail
      go_region
      go_roundw
      case rel => exact ⟨_, _, _, _, _, _, _, _, _, _, _, _, _, _, ⟨j + c, by have := HC.out; omega, HC.out.2.1, by go_num, H5.out⟩, rfl⟩
      case measure => have := HC.out; simp [intOf] <;> omega
    · obtain rfl : j = nb := by omega
      have H5 := Lib.hid h
      clear hlt hj1 hj h H4
      go_wp2_with fail
      go_ret
      refine ⟨.slice (some ⟨G, 0, none⟩) j j, rfl, ?_⟩
      have h6 := H5.out
      have e : rowsC s j j = strs (List.replicate j s) := by simp [rowsC, strs]
      rw [e] at h6
      refine h6.step fun F ⟨hb, hF⟩ => ⟨F, ⟨⟨by simp [strs], .inr ⟨G, j, _, rfl, Nat.zero_le _, hb, Nat.le_refl _, by unfold maxLen; omega, by simp [strs], by simp [strs]⟩⟩, fun g => by rw [hF]; simp only [Value.ownBlock, Option.some.injEq]; exact eq_comm⟩, Ch.refl _ _, fun g hg => .inl hg⟩
end
end Go.Proofs.YtoiankgafclbdaaDoor.dev
