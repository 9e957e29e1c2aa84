/-
  Layer 4, the program's New.
-/
import Derived.Test.YtjmjmekmaamclaaDoorDrvI
import Derived.Test.YtjmjmekmaamclaaDoorDevN
import Derived.Laws.OwnMore
import Derived.Laws.CopyRow
namespace Go.Proofs.YtjmjmekmaamclaaDoor.dev
open Go.ChangeShapes Go.WideShapes Go.ChangeAt Go.RowKit mem
set_option linter.unusedVariables false

section
variable {w wr : World} {As : List Ast} {X : Nat} {D : DevM} {r : PRep}

theorem repeat_nought (n : Nat) : (⟨(Lib.repeatL (⟨#[0]⟩ : ByteArray).data.toList n).toArray⟩ : ByteArray) = noughts n := by
  unfold noughts
  congr 2
  induction n with
  | zero => rfl
  | succ n ih =>
    rw [List.replicate_succ, ← ih]
    rfl

/-- j of nb elements are laid -/
def rowsC (s : ByteArray) (nb j : Nat) : List Value := List.replicate j (.string s) ++ List.replicate (nb - j) (.string ⟨#[]⟩)
theorem rowsC_len (s : ByteArray) (nb j : Nat) (h : j ≤ nb) : (rowsC s nb j).length = nb := by simp [rowsC]; omega
theorem rowsC_more (s : ByteArray) (nb j c : Nat) (h : j + c ≤ nb) : (rowsC s nb j).take j ++ List.replicate c (.string s) ++ (rowsC s nb j).drop (j + c) = rowsC s nb (j + c) := by
  unfold rowsC
  rw [List.take_left' (by simp), List.drop_append, List.length_replicate, List.drop_eq_nil_of_le (by simp), List.nil_append, List.drop_replicate, show nb - j - (j + c - j) = nb - (j + c) from by omega, List.replicate_append_replicate]
theorem rowsC_one (s : ByteArray) (v : Value) (u : List Value) (nb j : Nat) : ∀ v ∈ List.replicate j (Value.string s), v.oneCell' = true := by
  intro v hv
  rw [(List.mem_replicate.1 hv).2]
  rfl
theorem elS : Tryd.prog.elem 43 = 9 := by kernel_rfl
theorem st_setrow {b : Nat} {cur cs : Array Value} {t : TypeId} (h : St w wr (aBlk b (.cells cur t (0, 0)) :: As)) : St w (wr.setRow b cs) (aBlk b (.cells cs t (0, 0)) :: As) :=
  h.step fun F ⟨hb, hF⟩ => ⟨F, ⟨setRow_heap wr b cur cs t (0, 0) hb, hF⟩, ⟨rfl, rfl, rfl, by simp, fun k hk hf => setRow_other wr b k cs fun e => hf (by subst e; exact fun q => (hF _).2 rfl)⟩, fun g hg => .inl hg⟩

set_option maxRecDepth 8000 in
set_option maxHeartbeats 1000000 in
theorem prepeat_any (h : St w wr As) (B nb : Nat) (s : ByteArray) (hB : wr.cell? ⟨B, 0, none⟩ = some (.string s)) (h1 : 16 ≤ nb) (h2 : nb ≤ 4096) :
    Calls Tryd.prog 43 #[.slice (some ⟨B, 0, none⟩) 1 1, .int .i64 (nb : Int)] wr fun e w' => ∃ v, e = .returned v ∧ St w w' (aRow 9 1 v nb (strs (List.replicate nb s)) :: As) := by
  have n1 : (16 : Int) ≤ nb := by omega
  have n2 : (nb : Int) ≤ 4096 := by omega
  have n3 : (0 : Int) ≤ nb := by omega
  have hmul : ∀ W, Calls Tryd.prog 65 #[.int .u64 1, .int .u64 (nb : Int)] W fun e w' => e = .returned (.tuple #[.int .u64 0, .int .u64 (nb : Int)]) ∧ W = w' := fun W =>
    (Tryd.bits_Mul 1 nb (by omega) (by omega) W).mono fun e w' ⟨h, k⟩ => ⟨by rw [h, Nat.one_mul, Nat.div_eq_of_lt (by omega), Nat.mod_eq_of_lt (by omega)]; rfl, k.symm⟩
  have HMUL := Lib.hid hmul
  clear hmul
  have hmk := run_make_row' (P := Tryd.prog) 43 9 (.string ⟨#[]⟩) 16 Tryd.underlying43 (by kernel_rfl) rfl .i64 .i64 nb (by omega) (by omega)
  have HZ : (madeCells #[.string ⟨#[]⟩] nb) = (rowsC s nb 0).toArray := by
    apply Array.toList_inj.1
    rw [toList_madeCells_one]
    simp [rowsC]
  rw [HZ] at hmk
  have h3 := h.push (wq := wr.alloc (.cells (rowsC s nb 0).toArray 9)) ((Ch.refl _ wr).alloc _) (A := aBlk wr.heap.size (.cells (rowsC s nb 0).toArray 9 (0, 0))) (F := fun g => g.1 = wr.heap.size) ⟨heap_alloc_new wr _, fun g => Iff.rfl⟩ fun g hg => by omega
  have hB2 := ((Ch.refl (fun _ => False) wr).alloc (.cells (rowsC s nb 0).toArray 9)).cell hB
  have hcp := fun ty => run_copy_row (P := Tryd.prog) (wr.alloc (.cells (rowsC s nb 0).toArray 9)) 43 43 ty 9 wr.heap.size 0 nb nb ⟨B, 0, none⟩ 1 1 _ _ [.string s] Tryd.underlying43 (by kernel_rfl) (st_blk h3) (by show 1 = Nat.min 1 nb; exact (Nat.min_eq_left (by omega)).symm) (fun j v hj => by
    rw [Addr.add_mid, Nat.zero_add]
    match j with
    | 0 => simp at hj; rw [← hj]; exact hB2
    | j + 1 => simp at hj) (by rw [List.size_toArray, rowsC_len _ _ _ (by omega)]; simp; omega) (fun v hv => by rw [List.mem_singleton.1 hv]; rfl)
  have e0 : ((rowsC s nb 0).toArray.toList.take 0 ++ [Value.string s] ++ (rowsC s nb 0).toArray.toList.drop (0 + [Value.string s].length)) = rowsC s nb 1 := rowsC_more s nb 0 1 (by omega)
  rw [e0] at hcp
  have h4 := st_setrow (cs := (rowsC s nb 1).toArray) h3
  have H4 := Lib.hid h4
  clear h h3 h4 e0 HZ
  go_enter Tryd.func43, Tryd.ntmps43
  go_wp2_with (go_at_call 65; refine (HMUL.out _).mono ?_; rintro e w' ⟨rfl, rfl⟩)
  clear hcp hmk hB2 hB HMUL
  generalize (wr.alloc (.cells (rowsC s nb 0).toArray 9)).setRow wr.heap.size (rowsC s nb 1).toArray = W0 at H4 ⊢
  generalize wr.heap.size = G at H4 ⊢
  go_loopw [8] (fun i W => ∃ j : Nat, 1 ≤ j ∧ j ≤ nb ∧ i = .int .i64 ↑j ∧ St w W (aBlk G (.cells (rowsC s nb j).toArray 9 (0, 0)) :: As)) (fun i _ => nb - (intOf i).toNat)
  case atStart => exact ⟨1, Nat.le_refl _, by omega, rfl, H4.out⟩
  case round =>
    obtain ⟨j, hj1, hj, rfl, h⟩ := hrel
    have HJ := Lib.hid hj1
    have HJ2 := Lib.hid hj
    have j0 : (0 : Int) ≤ j := by omega
    by_cases hlt : j < nb
    · have j1 : (j : Int) < nb := by omega
      obtain ⟨c, hc⟩ : ∃ c, c = Nat.min j (nb - j) := ⟨_, rfl⟩
      have hc1 : 1 ≤ c ∧ j + c ≤ nb ∧ c ≤ j := by
        rw [hc]
        have h1 : Nat.min j (nb - j) ≤ j := Nat.min_le_left j (nb - j)
        have h2 : Nat.min j (nb - j) ≤ nb - j := Nat.min_le_right j (nb - j)
        have h3 : 1 ≤ Nat.min j (nb - j) := Nat.le_min.2 ⟨hj1, by omega⟩
        exact ⟨h3, by omega, h1⟩
      have HC := Lib.hid hc1
      have hs1 : ∀ W, (Instr.slice 43 (.slice (some ⟨G, 0, none⟩) nb nb) (some (.int .i64 (j : Int))) none none).run Tryd.prog W = .ok (.slice (some ⟨G, j, none⟩) (nb - j) (nb - j)) W := fun W => by
        have := run_slice_l (P := Tryd.prog) (w := W) 43 (some ⟨G, 0, none⟩) nb nb (by rw [elS]; exact Tryd.underlying43) .i64 (j : Int) (by omega) (by omega)
        rw [this, elS]
        have hz : (sizeOf 9).run Tryd.prog W = .ok 1 W := by kernel_rfl
        rw [hz]
        show Result.ok (sliced (some ⟨G, 0, none⟩) (j : Int).toNat nb nb 1) W = _
        rw [Int.toNat_natCast]
        unfold sliced
        rw [if_neg (by omega), Option.map_some, Addr.add_mid, Nat.zero_add, Nat.mul_one]
      have hs2 : ∀ W, (Instr.slice 43 (.slice (some ⟨G, 0, none⟩) nb nb) none (some (.int .i64 (j : Int))) none).run Tryd.prog W = .ok (.slice (some ⟨G, 0, none⟩) j nb) W := fun W => by
        have := run_slice_h (P := Tryd.prog) (w := W) 43 (some ⟨G, 0, none⟩) nb nb (by rw [elS]; exact Tryd.underlying43) .i64 (j : Int) (by omega) (by omega)
        rw [this, elS]
        have hz : (sizeOf 9).run Tryd.prog W = .ok 1 W := by kernel_rfl
        rw [hz]
        show Result.ok (sliced (some ⟨G, 0, none⟩) 0 (j : Int).toNat nb 1) W = _
        rw [Int.toNat_natCast]
        unfold sliced
        rw [if_neg (by omega), Option.map_some, Addr.add_mid, Nat.zero_add, Nat.zero_mul]
        rfl
      have hcp := fun ty => run_copy_row (P := Tryd.prog) wr.drew 43 43 ty 9 G j (nb - j) (nb - j) ⟨G, 0, none⟩ j nb _ _ (List.replicate c (.string s)) Tryd.underlying43 (by kernel_rfl) (st_blk h.drew) (by rw [List.length_replicate]; exact hc) (fun i v hi => by
        rw [Addr.add_mid, Nat.zero_add, cell_of_row _ _ _ _ _ _ (st_blk h.drew), List.getElem?_toArray]
        have hlt := (List.getElem?_eq_some_iff.1 hi).1
        rw [List.length_replicate] at hlt
        unfold rowsC
        rw [List.getElem?_append_left (by rw [List.length_replicate]; omega), List.getElem?_replicate, if_pos (by omega)]
        rw [List.getElem?_replicate, if_pos (by omega)] at hi
        exact hi) (by rw [List.length_replicate, List.size_toArray, rowsC_len _ _ _ (by omega)]; omega) (rowsC_one s (.bool true) [] nb c)
      have e0 : ((rowsC s nb j).toArray.toList.take j ++ List.replicate c (Value.string s) ++ (rowsC s nb j).toArray.toList.drop (j + (List.replicate c (Value.string s)).length)) = rowsC s nb (j + c) := by
        rw [List.length_replicate]; exact rowsC_more s nb j c hc1.2.1
      rw [e0, List.length_replicate] at hcp
      have H5 := Lib.hid (st_setrow (cs := (rowsC s nb (j + c)).toArray) h.drew)
      have e1 : IntKind.i64.wrap ((j : Int) + c) = (j : Int) + c := IntWalk.i64_in _ (by omega)
      clear h e0 hc hlt hj1 hj hc1 H4
      go_wp2_with fail
      go_region
      go_roundw
      case rel => exact ⟨_, _, _, _, _, _, _, _, _, _, _, _, _, _, ⟨j + c, by have := HC.out; omega, HC.out.2.1, by go_num, H5.out⟩, rfl⟩
      case measure => have := HC.out; simp [intOf] <;> omega
    · obtain rfl : j = nb := by omega
      have H5 := Lib.hid h
      clear hlt hj1 hj h H4
      go_wp2_with fail
      go_ret
      refine ⟨.slice (some ⟨G, 0, none⟩) j j, rfl, ?_⟩
      have h6 := H5.out
      have e : rowsC s j j = strs (List.replicate j s) := by simp [rowsC, strs]
      rw [e] at h6
      refine h6.step fun F ⟨hb, hF⟩ => ⟨F, ⟨⟨by simp [strs], .inr ⟨G, j, _, rfl, Nat.zero_le _, hb, Nat.le_refl _, by unfold maxLen; omega, by simp [strs], by simp [strs]⟩⟩, fun g => by rw [hF]; simp only [Value.ownBlock, Option.some.injEq]; exact eq_comm⟩, Ch.refl _ _, fun g hg => .inl hg⟩
end
end Go.Proofs.YtjmjmekmaamclaaDoor.dev
/-
  Layer 4, the program's New.
-/
namespace Go.Proofs.YtjmjmekmaamclaaDoor.dev
open Go.ChangeShapes Go.WideShapes Go.ChangeAt Go.RowKit mem
set_option linter.unusedVariables false

section
variable {w wr : World} {As : List Ast} {X : Nat} {D : DevM} {r : PRep}

theorem pnew_bad (h : St w wr As) (b s : Int) (hb : InI64 b) (hs : InI64 s) (hg : ¬ geoOk b s) :
    Calls Tryd.prog 14 #[.agg #[.int .i64 b, .int .i64 s]] wr fun e w' => e = .returned (.tuple #[.pointer none, .int .i64 1]) ∧ St w w' As := by
  have HC := Lib.hid (pcheck_any (h.alloc (.cells #[.int .i64 b, .int .i64 s] 36)) b s)
  rw [if_neg hg] at HC
  clear h hb hs hg
  go_enter Tryd.func14, Tryd.ntmps14
  go_wp2_with (go_at_call 41; refine HC.out.mono ?_; rintro e w' ⟨rfl, h1⟩; have H1 := Lib.hid h1; clear h1)
  go_ret2
  exact ⟨rfl, H1.out⟩

def newR (sv : Value) (mb : Nat) : PRep := ⟨0, .slice none 0 0, [], 0, 0, sv, mb, 0, fun _ => .slice none 0 0, []⟩
theorem new_end {W : World} {nb ns mb : Nat} {sv : Value} {G : Ast} (h : St w W (aVar X (pHead (DevM.new nb ns) (newR sv mb)) 90 :: aMap mb 0 (fun _ => none) :: aRow 9 1 sv nb (strs (List.replicate nb (noughts (512 * ns)))) :: G :: As)) :
    St w W (pParts X (DevM.new nb ns) (newR sv mb) ++ As) := by
  have h1 := h.third.swap
  have h2 := st_norows h1 (pRow (DevM.new nb ns) (newR sv mb)) (fun n => ⟨World.ownsRow_nil _ _ _ _, fun g => by simp [newR, Value.ownBlock]⟩) (List.range nb)
  have h3 := St.behind (As := [_, _, _]) h2
  have h4 : St w W (_ :: _ :: _ :: _ :: As) := h3.fifth.drop
  have h5 : St w W (aShare 3 1 (.slice none 0 0) 0 [] [] :: _) := st_share (st_pushrow h4)
  have h6 := St.behind (As := [_, _, _, _]) h5
  have e : mapV (DevM.new nb ns) (newR sv mb) = fun _ => none := by funext n; simp [mapV, DevM.new, DevM.ws, wsFrom]
  unfold pParts
  rw [e]
  exact h6
theorem new_known {nb ns : Nat} (hg : geoOk nb ns) (sv : Value) (mb : Nat) : PKnown (DevM.new nb ns) (newR sv mb) :=
  ⟨new_ok hg, .inl ⟨rfl, rfl⟩, crash0, Nat.zero_le _, Nat.le_refl _, fun n _ => rfl⟩

set_option maxRecDepth 8000 in
set_option maxHeartbeats 1000000 in
theorem pnew_ok (h : St w wr As) (nb ns : Nat) (hg : geoOk nb ns) :
    Calls Tryd.prog 14 #[.agg #[.int .i64 (nb : Int), .int .i64 (ns : Int)]] wr fun e w' => ∃ X, e = .returned (.tuple #[pt X, .int .i64 0]) ∧ St w w' (pDev X (DevM.new nb ns) :: As) := by
  have h1 := st_new h [.int .i64 (nb : Int), .int .i64 (ns : Int)] 36
  have HC := Lib.hid (pcheck_any h1 nb ns)
  rw [if_pos hg] at HC
  have HG := Lib.hid hg
  obtain ⟨g1, g2, g3, g4⟩ := hg
  have hrep : ∀ W, Calls Tryd.prog 42 #[.string ⟨#[0]⟩, .int .i64 ((ns : Int) * 512)] W fun e w' => e = .returned (.string (noughts (512 * ns))) ∧ Below W.heap.size W w' := fun W => by
    have := Tryd.strings_Repeat ⟨#[0]⟩ (512 * ns) W (by omega) (by show 1 * (512 * ns) ≤ _; omega)
    rw [repeat_nought, show ((512 * ns : Nat) : Int) = (ns : Int) * 512 from by omega] at this
    exact this
  have HREP := Lib.hid hrep
  have e1 : IntKind.i64.wrap ((ns : Int) * 512) = (ns : Int) * 512 := IntWalk.i64_in _ (by omega)
  have hmm := @run_makeMap Tryd.prog
  have HN := Lib.hid (show 16 ≤ nb ∧ nb ≤ 4096 by omega)
  clear h h1 hrep g1 g2 g3 g4
  go_enter Tryd.func14, Tryd.ntmps14
  go_wp2_with (first
    | (go_at_call 41; refine HC.out.mono ?_; rintro e w1 ⟨rfl, h1⟩; have H1 := Lib.hid h1; have x0 : _ = some (Value.int .i64 (nb : Int)) := st_cell h1 0; have x1 : _ = some (Value.int .i64 (ns : Int)) := st_cell h1 1; clear h1)
    | (go_at_call 42; refine (HREP.out _).mono ?_; rintro e w2 ⟨rfl, hb⟩; have h2 := (H1.out.same (Ch.of_below hb)).alloc (.cells #[.string (noughts (512 * ns))] 9); have H2 := Lib.hid h2; have y0 : _ = some (Value.int .i64 (nb : Int)) := st_cell h2 0; have y1 : _ = some (Value.string (noughts (512 * ns))) := st_cell (st_new (H1.out.same (Ch.of_below hb)) [.string (noughts (512 * ns))] 9) 0; clear h2 hb)
    | (go_at_call 43; refine (prepeat_any H2.out _ nb (noughts (512 * ns)) y1 HN.out.1 HN.out.2).mono ?_; rintro e w3 ⟨v, rfl, h3⟩; obtain ⟨ao, cap, rfl⟩ := st_shape h3; have H3 := Lib.hid (st_mapnew h3); clear h3))
  go_ret2
  have h4 := st_new H3.out [.int .i64 0, .slice none 0 0, .int .i64 0, .int .u8 0, .int .i64 ((ns : Int) * 512), .slice ao nb cap, .map (some w3.heap.size), .int .i64 0, .bool false, .int .i64 0, .int .i64 0] 90
  have e2 : ((ns : Int) * 512) = ((512 * ns : Nat) : Int) := by omega
  rw [e2, World.size_alloc] at h4
  refine ⟨_, rfl, pdev_shut (newR (.slice ao nb cap) w3.heap.size) (new_known HG.out _ _) ?_⟩
  rw [e2]
  exact new_end h4
end
end Go.Proofs.YtjmjmekmaamclaaDoor.dev
/-
  Layer 4, the program's Image.
-/
namespace Go.Proofs.YtjmjmekmaamclaaDoor.dev
open Go.ChangeShapes Go.WideShapes Go.ChangeAt Go.RowKit mem
set_option linter.unusedVariables false

section
variable {w wr : World} {As : List Ast} {X : Nat} {D : DevM} {r : PRep}

theorem image_at (D : DevM) (n : Nat) (h : n < D.nb) : D.image[n]? = some (D.now n) := by
  unfold DevM.image
  rw [List.getElem?_map, List.getElem?_range h]
  rfl
/-- the first j of the blocks are laid -/
def imgC (D : DevM) (j : Nat) : List Value := strs (D.image.take j) ++ List.replicate (D.nb - j) (.string ⟨#[]⟩)
theorem img_len (D : DevM) : D.image.length = D.nb := by simp [DevM.image]
theorem imgC_len (D : DevM) (j : Nat) (h : j ≤ D.nb) : (imgC D j).length = D.nb := by
  unfold imgC
  rw [List.length_append, strs_len, List.length_take, img_len, List.length_replicate]
  omega
theorem imgC_set (D : DevM) (j : Nat) (h : j < D.nb) : (imgC D j).set j (.string (D.now j)) = imgC D (j + 1) := by
  have hl : (strs (D.image.take j)).length = j := by rw [strs_len, List.length_take, img_len]; omega
  unfold imgC
  rw [List.set_append_right _ _ (by omega), hl, Nat.sub_self, show D.nb - j = (D.nb - (j + 1)) + 1 from by omega, List.replicate_succ, List.set_cons_zero]
  have e : D.image.take (j + 1) = D.image.take j ++ [D.now j] := by
    rw [List.take_add_one, image_at D j h]
    rfl
  rw [e]
  simp [strs]
theorem imgC_zero (D : DevM) : imgC D 0 = List.replicate D.nb (.string ⟨#[]⟩) := by simp [imgC, strs]
theorem imgC_full (D : DevM) : imgC D D.nb = strs D.image := by
  unfold imgC
  rw [List.take_of_length_le (by rw [img_len]; exact Nat.le_refl _)]
  simp

theorem pblocks_cell (nb cap : Nat) (ao : Option Addr) (W : World) (c5 : W.cell? ⟨X, 5, none⟩ = some (.slice ao nb cap)) :
    Calls Tryd.prog 52 #[pt X] W fun e w' => e = .returned (.int .i64 (nb : Int)) ∧ W = w' := by
  go_enter Tryd.func52, Tryd.ntmps52
  go_wp2_with fail
  go_ret
  exact ⟨rfl, rfl⟩

set_option maxRecDepth 8000 in
set_option maxHeartbeats 1000000 in
theorem pimage_any (h : St w wr (pDev X D :: As)) (hR : D.Room 0) :
    Calls Tryd.prog 45 #[pt X] wr fun e w' => ∃ v, e = .returned v ∧ St w w' (aRow 9 1 v D.nb (strs D.image) :: pDev X D :: As) := by
  obtain ⟨r, a, h1⟩ := pdev_open h
  have h2 := st_new h1 [pt X] 32
  have hnb1 := a.ok.nb1
  have hnb0 := a.ok.nb0
  have h3 := h2.push (wq := (wr.alloc (.cells #[pt X] 32)).alloc (.cells (imgC D 0).toArray 9)) ((Ch.refl _ _).alloc _) (A := aRow 9 1 (.slice (some ⟨wr.heap.size + 1, 0, none⟩) D.nb D.nb) D.nb (imgC D 0)) (F := fun g => g.1 = wr.heap.size + 1)
    ⟨⟨by rw [imgC_len _ _ (Nat.zero_le _), Nat.mul_one], .inr ⟨wr.heap.size + 1, D.nb, _, rfl, Nat.zero_le _, by
      have := heap_alloc_new (wr.alloc (.cells #[pt X] 32)) (.cells (imgC D 0).toArray 9)
      rw [World.size_alloc] at this
      exact this, Nat.le_refl _, by unfold maxLen; omega, by rw [List.size_toArray, imgC_len _ _ (Nat.zero_le _), Nat.mul_one], by rw [List.toList_toArray, List.take_of_length_le (by rw [imgC_len _ _ (Nat.zero_le _), Nat.mul_one]; exact Nat.le_refl _)]⟩⟩, fun g => by simp only [Value.ownBlock, Option.some.injEq]; exact eq_comm⟩ fun g hg => by rw [World.size_alloc]; omega
  have H3 := Lib.hid h3
  have c5 : _ = some r.sv := st_cell h2.swap 5
  obtain ⟨g, cap, hsv, _⟩ := (psees a h1).hs
  rw [hsv] at c5
  have HSV := Lib.hid hsv
  have HA := Lib.hid a
  have HB := Lib.hid (fun W (h : Ch (fun _ => False) (wr.alloc (.cells #[pt X] 32)) W) => pblocks_cell D.nb cap (some ⟨g, 0, none⟩) W (h.cell c5))
  have HNEW := Lib.hid (pnewest_any X wr)
  have hmk := run_make_row' (P := Tryd.prog) 43 9 (.string ⟨#[]⟩) 16 Tryd.underlying43 (by kernel_rfl) rfl .i64 .i64 D.nb (by omega) (by omega)
  have HZ : (madeCells #[.string ⟨#[]⟩] D.nb) = (imgC D 0).toArray := by
    apply Array.toList_inj.1
    rw [toList_madeCells_one, List.toList_toArray, imgC_zero]
  rw [HZ] at hmk
  have HCL := Lib.hid (show D.cache.length ≤ 1073741824 by have := hR.cache; omega)
  have n1 : (D.nb : Int) ≤ 4096 := by omega
  have n0 : (0 : Int) ≤ D.nb := by omega
  have HNB := Lib.hid hnb1
  clear h h1 h2 h3 a hR hsv HZ c5 hnb0 hnb1
  go_enter Tryd.func45, Tryd.ntmps45
  go_wp2_with (first
    | (go_at_call 51; refine HNEW.out.mono ?_; rintro e w' ⟨rfl, rfl⟩)
    | (go_at_call 52; refine (HB.out _ (by first | exact Ch.refl _ _ | exact (Ch.refl _ _).alloc _)).mono ?_; rintro e w' ⟨rfl, rfl⟩))
  clear hmk HB HNEW
  generalize (wr.alloc (.cells #[pt X] 32)).alloc (.cells (imgC D 0).toArray 9) = W0 at H3 ⊢
  generalize wr.heap.size = P0 at H3 ⊢
  go_loopw [15] (fun i W => ∃ j : Nat, j ≤ D.nb ∧ i = .int .i64 ↑j ∧ St w W (aRow 9 1 (.slice (some ⟨P0 + 1, 0, none⟩) D.nb D.nb) D.nb (imgC D j) :: aVar P0 [pt X] 32 :: (pParts X D r ++ As))) (fun i _ => D.nb - (intOf i).toNat)
  case atStart => exact ⟨0, Nat.zero_le _, rfl, H3.out⟩
  case round =>
    obtain ⟨j, hj, rfl, h4⟩ := hrel
    have H4 := Lib.hid h4
    have j0 : (0 : Int) ≤ j := by omega
    clear H3
    by_cases hlt : j < D.nb
    · have hcs := csees (M := aMap r.mb r.mc (mapV D r)) (s := D.safe) HA.out HA.out.ok.safe mapAt_of (h4.drop.drop : St w _ (pPartsG X D r D.safe (aMap r.mb r.mc (mapV D r)) ++ As))
      have hP := st_cell h4.swap 0
      have HN := Lib.hid (pnewest1_any hcs HA.out hP j hlt HCL.out)
      rw [show lastOf (DevM.ws D j) (D.safe.getD j empty) = D.now j from (now_ws D j).symm] at HN
      obtain ⟨u, hat⟩ : ∃ u, wr.cell? ⟨P0 + 1, j, none⟩ = some u := ⟨_, (st_at h4 rfl j (by omega)).trans (List.getElem?_eq_getElem (by rw [imgC_len _ _ hj]; exact hlt))⟩
      have hfr := st_unfrozen h4 j
      have hput := st_put (u := .string (D.now j)) h4 (show j < D.nb * 1 by omega)
      rw [imgC_set D j hlt] at hput
      have HP := Lib.hid hput
      have j1 : (j : Int) < D.nb := by omega
      clear hcs h4 hput hlt hj
      go_wp2_with (go_at_call 73; refine HN.out.mono ?_; rintro e w' ⟨rfl, rfl⟩)
      go_roundw
      case rel => exact ⟨j + 1, by omega, by go_num, HP.out⟩
      case measure => simp [intOf] <;> omega
    · obtain rfl : j = D.nb := by omega
      clear h4 hlt hj
      go_wp2_with fail
      go_ret
      refine ⟨.slice (some ⟨P0 + 1, 0, none⟩) D.nb D.nb, rfl, ?_⟩
      have h5 := H4.out
      rw [imgC_full] at h5
      exact (pdev_shut r HA.out (St.behind (As := pParts X D r) h5.swap.drop)).swap
end
end Go.Proofs.YtjmjmekmaamclaaDoor.dev
