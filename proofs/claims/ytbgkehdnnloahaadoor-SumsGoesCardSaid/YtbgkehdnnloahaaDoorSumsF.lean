/-
  Layer 3: the law SumsGoes over any program that answers as SumsOk says.
-/
import Derived.Test.YtbgkehdnnloahaaDoorSumsE
namespace Go.Proofs.YtbgkehdnnloahaaDoor.sums
open Go.ChangeShapes Go.WideShapes Go.ChangeAt Go.RowKit
set_option linter.unusedVariables false

theorem goes_any {G : World → Prop} (H : SumsOk G) (a b' : ByteArray) (w : World) (g : G w) (hab : a.size + b'.size ≤ 9223372036854775807) :
    Calls Tryd.prog 4 #[.string a, .string b'] w fun e w' => e = .returned (.bool true) ∧ Below w.heap.size w w' := by
  have hs : (a ++ b').data.toList = a.data.toList ++ b'.data.toList := by rw [ByteArray.data_append, Array.toList_append]
  have HAB := fun W (gW : G W) => H.crc (a ++ b') W (by rw [ByteArray.size_append]; exact hab) gW
  rw [hs] at HAB
  have HA := fun W (gW : G W) => H.crc a W (by omega) gW
  have HB := fun W (gW : G W) => H.crc b' W (by omega) gW
  have la : crcM a.data.toList < 4294967296 := onM_lt (by omega) _
  have lb : crcM b'.data.toList < 4294967296 := onM_lt (by omega) _
  have HJ := fun W (gW : G W) => H.join (crcM a.data.toList) (crcM b'.data.toList) b'.size W la lb (by omega) (by omega) gW
  have HO := fun W (gW : G W) => H.on (crcM a.data.toList) b' W la (by omega) gW
  have ho : onM (crcM a.data.toList) b'.data.toList = crcM (a.data.toList ++ b'.data.toList) := by unfold crcM; rw [onM_append]
  rw [ho] at HO
  have hj : joinM (crcM a.data.toList) (crcM b'.data.toList) b'.size = if 16777216 < b'.size then (0, 1) else (crcM (a.data.toList ++ b'.data.toList), 0) := by
    unfold joinM
    by_cases c : 16777216 < b'.size
    · rw [if_pos c, if_pos (by omega)]
    · rw [if_neg c, if_neg (by omega), crcM_join]
      have : b'.data.toList.length = b'.size := by rw [Array.length_toList]; rfl
      rw [this, Int.toNat_natCast]
  rw [hj] at HJ
  clear ho hj hs la lb
  generalize crcM (a.data.toList ++ b'.data.toList) = z at HAB HJ HO
  generalize crcM a.data.toList = x at HA HJ HO
  generalize crcM b'.data.toList = y at HB HJ
  have HW := fun W (gW : G W) => (awake_any H.toSumsOk0 W gW).mono fun e W' h => (⟨h.1, h.2.1⟩ : _ ∧ Below W.heap.size W W')
  have HK := Lib.hid H.keep
  clear H
  replace HAB := Lib.hid HAB
  replace HA := Lib.hid HA
  replace HB := Lib.hid HB
  replace HO := Lib.hid HO
  replace HW := Lib.hid HW
  have hs1 : ¬ 9223372036854775807 < a.size + b'.size := by omega
  have bs1 : (b'.size : Int) ≤ 9223372036854775807 := by omega
  clear hab
  have b := Below.refl w.heap.size w
  by_cases c : 16777216 < b'.size
  · simp only [if_pos c] at HJ
    replace HJ := Lib.hid HJ
    have c1 : (16777216 : Int) < b'.size := by omega
    clear c
    go_enter Tryd.func4, Tryd.ntmps4
    go_wp2_with fail
    (refine (HAB.out _ g).mono ?_; rintro e W' ⟨rfl, bn⟩; replace g := HK.out _ _ g bn; replace b := bl_trans b bn; clear bn; go_wp2_with fail)
    (refine (HA.out _ g).mono ?_; rintro e W' ⟨rfl, bn⟩; replace g := HK.out _ _ g bn; replace b := bl_trans b bn; clear bn; go_wp2_with fail)
    (refine (HB.out _ g).mono ?_; rintro e W' ⟨rfl, bn⟩; replace g := HK.out _ _ g bn; replace b := bl_trans b bn; clear bn; go_wp2_with fail)
    (refine (HJ.out _ g).mono ?_; rintro e W' ⟨rfl, bn⟩; replace g := HK.out _ _ g bn; replace b := bl_trans b bn; clear bn; go_wp2_with fail)
    (refine (HA.out _ g).mono ?_; rintro e W' ⟨rfl, bn⟩; replace g := HK.out _ _ g bn; replace b := bl_trans b bn; clear bn; go_wp2_with fail)
    (refine (HO.out _ g).mono ?_; rintro e W' ⟨rfl, bn⟩; replace g := HK.out _ _ g bn; replace b := bl_trans b bn; clear bn; go_wp2_with fail)
    (refine (HW.out _ g).mono ?_; rintro e W' ⟨rfl, bn⟩; replace g := HK.out _ _ g bn; replace b := bl_trans b bn; clear bn; go_wp2_with fail)
    go_ret
    exact ⟨rfl, b⟩
  · simp only [if_neg c] at HJ
    replace HJ := Lib.hid HJ
    have c1 : (b'.size : Int) ≤ 16777216 := by omega
    clear c
    go_enter Tryd.func4, Tryd.ntmps4
    go_wp2_with fail
    (refine (HAB.out _ g).mono ?_; rintro e W' ⟨rfl, bn⟩; replace g := HK.out _ _ g bn; replace b := bl_trans b bn; clear bn; go_wp2_with fail)
    (refine (HA.out _ g).mono ?_; rintro e W' ⟨rfl, bn⟩; replace g := HK.out _ _ g bn; replace b := bl_trans b bn; clear bn; go_wp2_with fail)
    (refine (HB.out _ g).mono ?_; rintro e W' ⟨rfl, bn⟩; replace g := HK.out _ _ g bn; replace b := bl_trans b bn; clear bn; go_wp2_with fail)
    (refine (HJ.out _ g).mono ?_; rintro e W' ⟨rfl, bn⟩; replace g := HK.out _ _ g bn; replace b := bl_trans b bn; clear bn; go_wp2_with fail)
    (refine (HA.out _ g).mono ?_; rintro e W' ⟨rfl, bn⟩; replace g := HK.out _ _ g bn; replace b := bl_trans b bn; clear bn; go_wp2_with fail)
    (refine (HO.out _ g).mono ?_; rintro e W' ⟨rfl, bn⟩; replace g := HK.out _ _ g bn; replace b := bl_trans b bn; clear bn; go_wp2_with fail)
    (refine (HW.out _ g).mono ?_; rintro e W' ⟨rfl, bn⟩; replace g := HK.out _ _ g bn; replace b := bl_trans b bn; clear bn; go_wp2_with fail)
    go_ret
    exact ⟨rfl, b⟩
end Go.Proofs.YtbgkehdnnloahaaDoor.sums
