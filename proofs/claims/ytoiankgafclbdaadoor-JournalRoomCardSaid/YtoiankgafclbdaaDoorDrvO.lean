/-
  Layer 4, the program's Image.
-/
import Derived.Test.YtoiankgafclbdaaDoorDrvL
namespace Go.Proofs.YtoiankgafclbdaaDoor.dev
open Go.ChangeShapes Go.WideShapes Go.ChangeAt Go.RowKit mem
set_option linter.unusedVariables false

section
variable {w wr : World} {As : List Ast} {X : Nat} {D : DevM} {r : PRep}

theorem image_at (D : DevM) (n : Nat) (h : n < D.nb) : D.image[n]? = some (D.now n) := by
  unfold DevM.image
  rw [List.getElem?_map, List.getElem?_range h]
  rfl
/-- the first j of the blocks are laid -/
def imgC (D : DevM) (j : Nat) : List Value := strs (D.image.take j) ++ List.replicate (D.nb - j) (.string ⟨#[]⟩)
theorem img_len (D : DevM) : D.image.length = D.nb := by simp [DevM.image]
theorem imgC_len (D : DevM) (j : Nat) (h : j ≤ D.nb) : (imgC D j).length = D.nb := by
  unfold imgC
  rw [List.length_append, strs_len, List.length_take, img_len, List.length_replicate]
  omega
theorem imgC_set (D : DevM) (j : Nat) (h : j < D.nb) : (imgC D j).set j (.string (D.now j)) = imgC D (j + 1) := by
  have hl : (strs (D.image.take j)).length = j := by rw [strs_len, List.length_take, img_len]; omega
  unfold imgC
  rw [List.set_append_right _ _ (by omega), hl, Nat.sub_self, show D.nb - j = (D.nb - (j + 1)) + 1 from by omega, List.replicate_succ, List.set_cons_zero]
  have e : D.image.take (j + 1) = D.image.take j ++ [D.now j] := by
    rw [List.take_add_one, image_at D j h]
    rfl
  rw [e]
  simp [strs]
theorem imgC_zero (D : DevM) : imgC D 0 = List.replicate D.nb (.string ⟨#[]⟩) := by simp [imgC, strs]
theorem imgC_full (D : DevM) : imgC D D.nb = strs D.image := by
  unfold imgC
  rw [List.take_of_length_le (by rw [img_len]; exact Nat.le_refl _)]
  simp

theorem pblocks_cell (nb cap : Nat) (ao : Option Addr) (W : World) (c5 : W.cell? ⟨X, 5, none⟩ = some (.slice ao nb cap)) :
    Calls Tryd.prog 52 #[pt X] W fun e w' => e = .returned (.int .i64 (nb : Int)) ∧ W = w' := by
  go_enter Tryd.func52, Tryd.ntmps52
  go_wp2_with fail
  go_ret
  exact ⟨rfl, rfl⟩

set_option maxRecDepth 8000 in
set_option maxHeartbeats 1000000 in
theorem pimage_any (h : St w wr (pDev X D :: As)) (hR : D.Room 0) :
    Calls Tryd.prog 45 #[pt X] wr fun e w' => ∃ v, e = .returned v ∧ St w w' (aRow 9 1 v D.nb (strs D.image) :: pDev X D :: As) := by
  obtain ⟨r, a, h1⟩ := pdev_open h
  have h2 := st_new h1 [pt X] 32
  have hnb1 := a.ok.nb1
  have hnb0 := a.ok.nb0
  have h3 := h2.push (wq := (wr.alloc (.cells #[pt X] 32)).alloc (.cells (imgC D 0).toArray 9)) ((Ch.refl _ _).alloc _) (A := aRow 9 1 (.slice (some ⟨wr.heap.size + 1, 0, none⟩) D.nb D.nb) D.nb (imgC D 0)) (F := fun g => g.1 = wr.heap.size + 1)
    ⟨⟨by rw [imgC_len _ _ (Nat.zero_le _), Nat.mul_one], .inr ⟨wr.heap.size + 1, D.nb, _, rfl, Nat.zero_le _, by
      have := heap_alloc_new (wr.alloc (.cells #[pt X] 32)) (.cells (imgC D 0).toArray 9)
      rw [World.size_alloc] at this
      exact this, Nat.le_refl _, by unfold maxLen; omega, by rw [List.size_toArray, imgC_len _ _ (Nat.zero_le _), Nat.mul_one], by rw [List.toList_toArray, List.take_of_length_le (by rw [imgC_len _ _ (Nat.zero_le _), Nat.mul_one]; exact Nat.le_refl _)]⟩⟩, fun g => by simp only [Value.ownBlock, Option.some.injEq]; exact eq_comm⟩ fun g hg => by rw [World.size_alloc]; omega
  have H3 := Lib.hid h3
  have c5 : _ = some r.sv := st_cell h2.swap 5
  obtain ⟨g, cap, hsv, _⟩ := (psees a h1).hs
  rw [hsv] at c5
  have HSV := Lib.hid hsv
  have HA := Lib.hid a
  have HB := Lib.hid (fun W (h : Ch (fun _ => False) (wr.alloc (.cells #[pt X] 32)) W) => pblocks_cell D.nb cap (some ⟨g, 0, none⟩) W (h.cell c5))
  have HNEW := Lib.hid (pnewest_any X wr)
  have hmk := run_make_row' (P := Tryd.prog) 43 9 (.string ⟨#[]⟩) 16 Tryd.underlying43 (by kernel_rfl) rfl .i64 .i64 D.nb (by omega) (by omega)
  have HZ : (madeCells #[.string ⟨#[]⟩] D.nb) = (imgC D 0).toArray := by
    apply Array.toList_inj.1
    rw [toList_madeCells_one, List.toList_toArray, imgC_zero]
  rw [HZ] at hmk
  have HCL := Lib.hid (show D.cache.length ≤ 1073741824 by have := hR.cache; omega)
  have n1 : (D.nb : Int) ≤ 4096 := by omega
  have n0 : (0 : Int) ≤ D.nb := by omega
  have HNB := Lib.hid hnb1
  clear h h1 h2 h3 a hR hsv HZ c5 hnb0 hnb1
  go_enter Tryd.func45, Tryd.ntmps45
  go_wp2_with (first
    | (go_at_call 51; refine HNEW.out.mono ?_; rintro e w' ⟨rfl, rfl⟩)
    | (go_at_call 52; refine (HB.out _ (by first | exact Ch.refl _ _ | exact (Ch.refl _ _).alloc _)).mono ?_; rintro e w' ⟨rfl, rfl⟩))
  clear hmk HB HNEW
  generalize (wr.alloc (.cells #[pt X] 32)).alloc (.cells (imgC D 0).toArray 9) = W0 at H3 ⊢
  generalize wr.heap.size = P0 at H3 ⊢
  go_loopw [15] (fun i W => ∃ j : Nat, j ≤ D.nb ∧ i = .int .i64 ↑j ∧ St w W (aRow 9 1 (.slice (some ⟨P0 + 1, 0, none⟩) D.nb D.nb) D.nb (imgC D j) :: aVar P0 [pt X] 32 :: (pParts X D r ++ As))) (fun i _ => D.nb - (intOf i).toNat)
  case atStart => exact ⟨0, Nat.zero_le _, rfl, H3.out⟩
  case round =>
    obtain ⟨j, hj, rfl, h4⟩ := hrel
    have H4 := Lib.hid h4
    have j0 : (0 : Int) ≤ j := by omega
    clear H3
    by_cases hlt : j < D.nb
    · have hcs := csees (M := aMap r.mb r.mc (mapV D r)) (s := D.safe) HA.out HA.out.ok.safe mapAt_of (h4.drop.drop : St w _ (pPartsG X D r D.safe (aMap r.mb r.mc (mapV D r)) ++ As))
      have hP := st_cell h4.swap 0
      have HN := Lib.hid (pnewest1_any hcs HA.out hP j hlt HCL.out)
      rw [show lastOf (DevM.ws D j) (D.safe.getD j empty) = D.now j from (now_ws D j).symm] at HN
      obtain ⟨u, hat⟩ : ∃ u, wr.cell? ⟨P0 + 1, j, none⟩ = some u := ⟨_, (st_at h4 rfl j (by omega)).trans (List.getElem?_eq_getElem (by rw [imgC_len _ _ hj]; exact hlt))⟩
      have hfr := st_unfrozen h4 j
      have hput := st_put (u := .string (D.now j)) h4 (show j < D.nb * 1 by omega)
      rw [imgC_set D j hlt] at hput
      have HP := Lib.hid hput
      have j1 : (j : Int) < D.nb := by omega
      clear hcs h4 hput hlt hj
      go_wp2_with (go_at_call 73; refine HN.out.mono ?_; rintro e w' ⟨rfl, rfl⟩)
      go_roundw
      case rel => exact ⟨j + 1, by omega, by go_num, HP.out⟩
      case measure => simp [intOf] <;> omega
    · obtain rfl : j = D.nb := by omega
      clear h4 hlt hj
      go_wp2_with fail
      go_ret
      refine ⟨.slice (some ⟨P0 + 1, 0, none⟩) D.nb D.nb, rfl, ?_⟩
      have h5 := H4.out
      rw [imgC_full] at h5
      exact (pdev_shut r HA.out (St.behind (As := pParts X D r) h5.swap.drop)).swap
end
end Go.Proofs.YtoiankgafclbdaaDoor.dev
