/-
  Layer 3: the law SumsNone over any program that answers as SumsOk says.
-/
import Derived.Test.YtbgkehdnnloahaaDoorSumsE
namespace Go.Proofs.YtbgkehdnnloahaaDoor.sums
open Go.ChangeShapes Go.WideShapes Go.ChangeAt Go.RowKit
set_option linter.unusedVariables false

theorem e_unframe : unframeM ⟨#[]⟩ = (0, ⟨#[]⟩, ⟨#[]⟩, 4) := by decide +kernel
theorem e_frame : frameM 7 ⟨#[]⟩ = (⟨#[7, 0, 0, 0, 0, 237, 4, 120, 113]⟩, 0) := by decide +kernel
theorem e_back : unframeM ⟨#[7, 0, 0, 0, 0, 237, 4, 120, 113]⟩ = (7, ⟨#[]⟩, ⟨#[]⟩, 0) := by decide +kernel
theorem e_long : unframeM ⟨#[0, 255, 255, 255, 255, 0, 0, 0, 0]⟩ = (0, ⟨#[]⟩, ⟨#[]⟩, 4) := by decide +kernel
theorem e_join0 : joinM 0 0 (-1) = (0, 1) := by decide +kernel
theorem e_join1 : joinM 0 0 16777217 = (0, 1) := by decide +kernel
theorem e_join2 : joinM 5 3 0 = (6, 0) := by decide +kernel
theorem e_crc : crcM (⟨#[]⟩ : ByteArray).data.toList = 0 := by decide +kernel
theorem e_on : onM 9 (⟨#[]⟩ : ByteArray).data.toList = 9 := by decide +kernel

theorem none_any {G : World → Prop} (H : SumsOk G) (w : World) (g : G w) :
    Calls Tryd.prog 6 #[] w fun e w' => e = .returned (.bool true) ∧ Below w.heap.size w w' := by
  have H1 := fun W (gW : G W) => H.unframe ⟨#[]⟩ W (by decide) gW
  rw [e_unframe] at H1
  have H2 := fun W (gW : G W) => H.frame 7 ⟨#[]⟩ W (by decide) (by decide) gW
  rw [e_frame] at H2
  have H3 := fun W (gW : G W) => H.unframe ⟨#[7, 0, 0, 0, 0, 237, 4, 120, 113]⟩ W (by decide) gW
  rw [e_back] at H3
  have H4 := fun W (gW : G W) => H.unframe ⟨#[0, 255, 255, 255, 255, 0, 0, 0, 0]⟩ W (by decide) gW
  rw [e_long] at H4
  have H5 := fun W (gW : G W) => H.join 0 0 (-1) W (by decide) (by decide) (by decide) (by decide) gW
  rw [e_join0] at H5
  have H6 := fun W (gW : G W) => H.join 0 0 16777217 W (by decide) (by decide) (by decide) (by decide) gW
  rw [e_join1] at H6
  have H7 := fun W (gW : G W) => H.join 5 3 0 W (by decide) (by decide) (by decide) (by decide) gW
  rw [e_join2] at H7
  have H8 := fun W (gW : G W) => H.crc ⟨#[]⟩ W (by decide) gW
  rw [e_crc] at H8
  have H9 := fun W (gW : G W) => H.on 9 ⟨#[]⟩ W (by decide) (by decide) gW
  rw [e_on] at H9
  have HW := fun W (gW : G W) => (awake_any H.toSumsOk0 W gW).mono fun e W' h => (⟨h.1, h.2.1⟩ : _ ∧ Below W.heap.size W W')
  unfold uEnd at H1 H3 H4
  have HK := Lib.hid H.keep
  clear H
  replace H1 := Lib.hid H1
  replace H2 := Lib.hid H2
  replace H3 := Lib.hid H3
  replace H4 := Lib.hid H4
  replace H5 := Lib.hid H5
  replace H6 := Lib.hid H6
  replace H7 := Lib.hid H7
  replace H8 := Lib.hid H8
  replace H9 := Lib.hid H9
  replace HW := Lib.hid HW
  have b := Below.refl w.heap.size w
  go_enter Tryd.func6, Tryd.ntmps6
  go_wp2_with fail
  (refine (H1.out _ g).mono ?_; rintro e W' ⟨rfl, bn⟩; replace g := HK.out _ _ g bn; replace b := bl_trans b bn; clear bn; go_wp2_with fail)
  (refine (H2.out _ g).mono ?_; rintro e W' ⟨rfl, bn⟩; replace g := HK.out _ _ g bn; replace b := bl_trans b bn; clear bn; go_wp2_with fail)
  (refine (H3.out _ g).mono ?_; rintro e W' ⟨rfl, bn⟩; replace g := HK.out _ _ g bn; replace b := bl_trans b bn; clear bn; go_wp2_with fail)
  (refine (H4.out _ g).mono ?_; rintro e W' ⟨rfl, bn⟩; replace g := HK.out _ _ g bn; replace b := bl_trans b bn; clear bn; go_wp2_with fail)
  (refine (H5.out _ g).mono ?_; rintro e W' ⟨rfl, bn⟩; replace g := HK.out _ _ g bn; replace b := bl_trans b bn; clear bn; go_wp2_with fail)
  (refine (H6.out _ g).mono ?_; rintro e W' ⟨rfl, bn⟩; replace g := HK.out _ _ g bn; replace b := bl_trans b bn; clear bn; go_wp2_with fail)
  (refine (H7.out _ g).mono ?_; rintro e W' ⟨rfl, bn⟩; replace g := HK.out _ _ g bn; replace b := bl_trans b bn; clear bn; go_wp2_with fail)
  (refine (H8.out _ g).mono ?_; rintro e W' ⟨rfl, bn⟩; replace g := HK.out _ _ g bn; replace b := bl_trans b bn; clear bn; go_wp2_with fail)
  (refine (H9.out _ g).mono ?_; rintro e W' ⟨rfl, bn⟩; replace g := HK.out _ _ g bn; replace b := bl_trans b bn; clear bn; go_wp2_with fail)
  (refine (HW.out _ g).mono ?_; rintro e W' ⟨rfl, bn⟩; replace g := HK.out _ _ g bn; replace b := bl_trans b bn; clear bn; go_wp2_with fail)
  go_ret
  exact ⟨rfl, b⟩
end Go.Proofs.YtbgkehdnnloahaaDoor.sums
