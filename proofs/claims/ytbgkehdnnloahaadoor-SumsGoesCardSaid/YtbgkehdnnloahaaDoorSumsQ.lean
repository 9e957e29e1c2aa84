/-
  Layer 3, the program: word, number, frameSum, Frame.
-/
import Derived.Test.YtbgkehdnnloahaaDoorSumsP
namespace Go.Proofs.YtbgkehdnnloahaaDoor.sums
open Go.ChangeShapes Go.WideShapes Go.ChangeAt Go.RowKit
set_option linter.unusedVariables false

theorem word_any (n : Nat) (hn : n < 4294967296) (w : World) :
    Calls Tryd.prog 18 #[.int .u32 n] w fun e w' => e = .returned (.string ⟨(fourL n).toArray⟩) ∧ ∃ o, w' = w.alloc o := by
  have n0 : (0 : Int) ≤ n := by omega
  have n1 : (n : Int) ≤ 4294967295 := by omega
  have hcv := four_conv n hn w
  go_enter Tryd.func18, Tryd.ntmps18
  go_wp2_with fail
  go_ret
  exact ⟨rfl, _, rfl⟩

theorem number_prog (s : ByteArray) (h4 : 4 ≤ s.size) (w : World) :
    Calls Tryd.prog 21 #[.string s] w fun e w' => e = .returned (.int .u32 (numL s.data.toList)) ∧ ∃ q, w' = w.drewN q := by
  have h0 : 0 < s.size := by omega
  have h1 : 1 < s.size := by omega
  have h2 : 2 < s.size := by omega
  have h3 : 3 < s.size := by omega
  have i0 : (0 : Int) < s.size := by omega
  have i1 : (1 : Int) < s.size := by omega
  have i2 : (2 : Int) < s.size := by omega
  have i3 : (3 : Int) < s.size := by omega
  go_enter Tryd.func21, Tryd.ntmps21
  go_wp2_with fail
  go_quiet (fail)
  go_wp2_with fail
  go_ret
  refine ⟨congrArg Ending.returned (congrArg (Value.int IntKind.u32) ?_), _, rfl⟩
  rw [numL_at s h4]
  exact num_val _ _ _ _ (UInt8.toNat_lt _) (UInt8.toNat_lt _) (UInt8.toNat_lt _) (UInt8.toNat_lt _)

theorem frameSum_prog (f p : ByteArray) (hf : f.size ≤ 9223372036854775807) (hp : p.size ≤ 9223372036854775807) (w : World) (g : Halves w) :
    Calls Tryd.prog 19 #[.string f, .string p] w fun e w' => e = .returned (.int .u32 (crcM (f.data.toList ++ p.data.toList))) ∧ Below w.heap.size w w' := by
  have HC := Lib.hid (crc_prog f hf w g)
  have HG := Lib.hid g
  have hl : crcM f.data.toList < 4294967296 := onM_lt (by omega) _
  have HO := Lib.hid fun W (gW : Halves W) => on_prog (crcM f.data.toList) p hl hp W gW
  rw [show onM (crcM f.data.toList) p.data.toList = crcM (f.data.toList ++ p.data.toList) from (onM_append 0 _ _).symm] at HO
  generalize crcM (f.data.toList ++ p.data.toList) = z at HO ⊢
  generalize crcM f.data.toList = c at HC HO
  clear hl g hf hp
  go_enter Tryd.func19, Tryd.ntmps19
  go_wp2_with fail
  refine HC.out.mono ?_
  rintro e w1 ⟨rfl, b1⟩
  go_wp2_with fail
  refine (HO.out _ (HG.out.keep b1)).mono ?_
  rintro e w2 ⟨rfl, b2⟩
  go_wp2_with fail
  go_ret
  exact ⟨rfl, bl_trans b1 b2⟩

theorem frame_prog (kd : Nat) (p : ByteArray) (hk : kd < 256) (hps : p.size ≤ 9223372036854775807) (w : World) (g : Halves w) :
    Calls Tryd.prog 7 #[.int .u8 kd, .string p] w fun e w' => e = .returned (.tuple #[.string (frameM kd p).1, .int .i64 (frameM kd p).2]) ∧ Below w.heap.size w w' := by
  unfold frameM
  by_cases c : 16777216 < p.size
  · rw [if_pos c]
    have c1 : (16777216 : Int) < p.size := by omega
    clear hk hps
    go_enter Tryd.func7, Tryd.ntmps7
    go_wp2_with fail
    go_ret2
    exact ⟨rfl, Below.refl _ _⟩
  · rw [if_neg c]
    have hp : p.size ≤ 16777216 := by omega
    have hkc := kind_conv kd
    have e0 : IntKind.u32.wrap (p.size : Int) = (p.size : Int) := by rw [IntKind.wrap_u32]; omega
    have p0 : (0 : Int) ≤ p.size := by omega
    have p1 : (p.size : Int) ≤ 16777216 := by omega
    have HF := Lib.hid fun (n : Nat) (hn : n < 4294967296) (W : World) => word_any n hn W
    have HG := Lib.hid g
    have hpl : p.data.toList.length = p.size := by rw [Array.length_toList]; rfl
    have e1 : (⟨#[UInt8.ofNat kd]⟩ : ByteArray) ++ ⟨(fourL p.size).toArray⟩ = ⟨(headL kd p.data.toList).toArray⟩ := by
      rw [show (⟨#[UInt8.ofNat kd]⟩ : ByteArray) = ⟨[UInt8.ofNat kd].toArray⟩ from rfl, bytes_app]
      unfold headL
      rw [hpl]
      rfl
    have HC := Lib.hid fun (W : World) (hW : Below w.heap.size w W) => frameSum_prog ⟨(headL kd p.data.toList).toArray⟩ p (by show (headL kd p.data.toList).toArray.size ≤ _; simp [headL, fourL]) (by omega) W (HG.out.keep hW)
    have hcl : crcM (headL kd p.data.toList ++ p.data.toList) < 4294967296 := onM_lt (by omega) _
    have HCL := Lib.hid hcl
    have e3 : (⟨(headL kd p.data.toList).toArray⟩ : ByteArray) ++ ⟨(fourL (crcM (headL kd p.data.toList ++ p.data.toList))).toArray⟩ ++ p = ⟨(laidL kd p.data.toList).toArray⟩ := by
      conv => lhs; rw [bytes_eq p]
      rw [bytes_app, bytes_app]
      rfl
    obtain ⟨x, hx⟩ : ∃ x, x = crcM (headL kd p.data.toList ++ p.data.toList) := ⟨_, rfl⟩
    rw [show crcM ((⟨(headL kd p.data.toList).toArray⟩ : ByteArray).data.toList ++ p.data.toList) = crcM (headL kd p.data.toList ++ p.data.toList) from rfl, ← hx] at HC
    rw [← hx] at HCL e3
    have hdl : (headL kd p.data.toList).length = 5 := rfl
    have f4 : ∀ n, (fourL n).length = 4 := fun _ => rfl
    have g0 : ¬ 9223372036854775807 < 1 + (fourL p.size).length := by rw [f4]; omega
    have g1 : ¬ 9223372036854775807 < (headL kd p.data.toList).length + p.size := by rw [hdl]; omega
    have g2 : ¬ 9223372036854775807 < (headL kd p.data.toList).length + (fourL x).length := by rw [hdl, f4]; omega
    have g3 : ¬ 9223372036854775807 < (headL kd p.data.toList).length + (fourL x).length + p.size := by rw [hdl, f4]; omega
    clear hcl hx hpl hk hp hdl f4 g c hps
    generalize headL kd p.data.toList = hd at e1 e3 g1 g2 g3 HC
    go_enter Tryd.func7, Tryd.ntmps7
    go_wp2_with fail
    go_region_with ((go_at_call 18; refine (HF.out p.size (by omega) _).mono ?_; rintro e w' ⟨rfl, o, rfl⟩))
    all_goals
      go_wp2_with (first | (go_at_call 19; refine (HC.out _ (by repeat (first | exact Below.refl _ _ | refine bl_alloc ?_ _ | refine bl_drew ?_ | refine bl_drewN ?_ _))).mono ?_; rintro e w3 ⟨rfl, hb3⟩) | (go_at_call 18; refine (HF.out x HCL.out _).mono ?_; rintro e w' ⟨rfl, o2, rfl⟩))
      go_ret2
      refine ⟨by rw [← e3]; rfl, bl_alloc (bl_trans ?_ hb3) _⟩
      repeat (first | exact Below.refl _ _ | refine bl_alloc ?_ _ | refine bl_drew ?_ | refine bl_drewN ?_ _)
end Go.Proofs.YtbgkehdnnloahaaDoor.sums
