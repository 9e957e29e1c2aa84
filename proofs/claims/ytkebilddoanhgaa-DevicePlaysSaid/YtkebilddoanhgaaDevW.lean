/-
  Layer 4, the law's own: image: are all blocks what the document's are?
-/
import Derived.Test.YtkebilddoanhgaaDevV
namespace Go.Proofs.Ytkebilddoanhgaa.dev
open Go.ChangeShapes Go.WideShapes Go.ChangeAt Go.RowKit mem
set_option linter.unusedVariables false

theorem rsame_eq (v v' : Value) (xs : List ByteArray) (w : World) (h : StrsIn w v xs) (h' : StrsIn w v' xs) (hl : xs.length ≤ 1073741824) :
    Calls Try.prog 42 #[v, v'] w fun e w' => e = .returned (.bool true) ∧ ∃ q, w' = w.drewN q :=
  (rsame_any v v' xs xs w h h' hl hl).mono fun e w' h => ⟨by rw [h.1, decide_eq_true rfl], h.2⟩
theorem image_len (D : DevM) : D.image.length = D.nb := by simp [DevM.image]
def behind : ByteArray := ⟨#[98, 101, 104, 105, 110, 100]⟩

section
variable {w wr : World} {As : List Ast} {dev : Nat → DevM → Ast} {X Y : Nat} {D : DevM}

set_option maxHeartbeats 4000000 in
set_option maxRecDepth 16000 in
theorem image_any (ok : DevOk dev) (h : St w wr (dev X D :: rDev Y D :: As)) (hR : D.Room 0) :
    Calls Try.prog 14 #[pt X, pt Y] wr fun e w' => e = .returned (.bool true) ∧ St w w' (dev X D :: rDev Y D :: As) := by
  have HD := Lib.hid (rdev_ok h.swap)
  have HR := Lib.hid (rimage_any h.swap hR)
  have HL : Hid (D.image.length ≤ 1073741824) := Lib.hid (by rw [image_len]; have := HD.out.nb1; omega)
  have n0 : (16 : Int) ≤ D.nb := by have := HD.out.nb0; omega
  have n1 : (D.nb : Int) ≤ 4096 := by have := HD.out.nb1; omega
  clear h
  go_enter Try.func14, Try.ntmps14
  go_wp2_with (first
    | ((go_at_call 40; refine HR.out.mono ?_; rintro e w1 ⟨v1, rfl, hst⟩; have HS1 := Lib.hid hst.third; clear hst))
    | ((go_at_call 41; refine (ok.image HS1.out hR).mono ?_; rintro e w2 ⟨v2, rfl, hst⟩; have HS2 := Lib.hid hst.swap; clear hst HS1))
    | ((go_at_call 41; refine (ok.image HS2.out hR).mono ?_; rintro e w3 ⟨v3, rfl, hst⟩; have HS3 := Lib.hid hst; clear hst HS2))
    | ((go_at_call 42; refine (rsame_eq _ _ D.image _ (strs_in HS3.out.third) (strs_in HS3.out.fourth) HL.out).mono ?_; rintro e w4 ⟨rfl, q, rfl⟩; have HS4 := Lib.hid ((HS3.out.drewN q).third); clear HS3)))
  obtain ⟨g, cap, rfl, _⟩ := st_form HS4.out (by have := HD.out.nb0; omega)
  obtain ⟨o1, c1, rfl⟩ := st_shape HS4.out.fourth
  obtain ⟨o3, c3, rfl⟩ := st_shape HS4.out.swap
  generalize w3.drewN q = W3 at HS4 ⊢
  go_loopw [8] (fun i W => ∃ k : Nat, k ≤ D.nb ∧ i = .int .i64 ↑k ∧ ∃ xs, St w W (aRow 9 1 (.slice (some ⟨g, 0, none⟩) D.nb cap) D.nb xs :: aRow 9 1 (.slice o3 D.nb c3) D.nb (strs D.image) :: dev X D :: aRow 9 1 (.slice o1 D.nb c1) D.nb (strs D.image) :: rDev Y D :: As)) (fun i _ => D.nb - (intOf i).toNat)
  case atStart => exact ⟨0, Nat.zero_le _, rfl, _, HS4.out⟩
  case round =>
    obtain ⟨k, hk, rfl, xs, hst⟩ := hrel
    by_cases hlt : k < D.nb
    · have hx := st_len hst
      obtain ⟨u, hat⟩ : ∃ u, wr.cell? ⟨g, k, none⟩ = some u := ⟨_, (st_at hst rfl k (by omega)).trans (List.getElem?_eq_getElem (by omega))⟩
      have hfr := st_unfrozen hst k
      have HP := Lib.hid (st_put (u := .string ⟨#[115, 112, 111, 105, 108, 116]⟩) hst (show k < D.nb * 1 by omega))
      clear hst hx
      go_wp2_with fail
      go_roundw
      case rel => exact ⟨k + 1, by omega, by go_num, _, HP.out⟩
      case measure => simp [intOf] <;> omega
    · obtain rfl : k = D.nb := by omega
      have HS5 := Lib.hid hst
      clear hst hlt hk
      go_wp2_with fail
      go_loopw [6, 9] (fun a i W => ∃ k : Nat, k ≤ 20 ∧ i = .int .i64 ↑k ∧ ∃ v xs, a = v ∧ St w W (aRow 9 1 v (D.nb + k) xs :: aRow 9 1 (.slice o3 D.nb c3) D.nb (strs D.image) :: dev X D :: aRow 9 1 (.slice o1 D.nb c1) D.nb (strs D.image) :: rDev Y D :: As)) (fun _ i _ => 20 - (intOf i).toNat)
      case atStart => exact ⟨0, Nat.zero_le _, rfl, _, _, rfl, HS5.out⟩
      case round =>
        obtain ⟨k, hk, rfl, v, xs, rfl, hst⟩ := hrel
        obtain ⟨ao, ac, rfl⟩ := st_shape hst
        by_cases hlt : k < 20
        · have HP := Lib.hid (hst.alloc (.cells #[.string behind] 9))
          clear hst
          have n2 : (k : Int) < 20 := by omega
          go_wp2_with (refine lst_append rowStr HP.out rfl _ _ rfl rfl ⟨wr.heap.size, 0, none⟩ 1 1 [.string behind] rfl rfl (lit1 wr _ _) (one1 _) (by decide) (by have := HD.out.nb1; unfold maxLen; omega) (by have := HD.out.nb1; omega) ?_; intro g4 cap4 w4 hst4 _; have HN := Lib.hid hst4; clear hst4)
          go_roundw
          case rel => exact ⟨k + 1, by omega, by go_num, _, _, rfl, HN.out⟩
          case measure => simp [intOf] <;> omega
        · obtain rfl : k = 20 := by omega
          have HF := Lib.hid hst
          clear hst hlt hk
          have e1 : IntKind.i64.wrap ((D.nb : Int) + 20) = (D.nb : Int) + 20 := IntWalk.i64_in _ (by omega)
          go_wp2_with (go_at_call 42; refine (rsame_eq _ _ D.image _ (strs_in HF.out.swap) (strs_in HF.out.fourth) HL.out).mono ?_; rintro e w5 ⟨rfl, q5, rfl⟩)
          go_ret
          exact ⟨rfl, ((HF.out.drop.drop).drewN q5).swap.drop⟩
end
end Go.Proofs.Ytkebilddoanhgaa.dev
