/-
  Layer 3, the document's answers: Laid, Frame.
-/
import Derived.Test.YtbgkehdnnloahaaDoorSumsB
import Derived.Deep.RegionHeld3
namespace Go.Proofs.YtbgkehdnnloahaaDoor.sums
open Go.ChangeShapes Go.WideShapes Go.ChangeAt Go.RowKit
set_option linter.unusedVariables false

/-- a frame's head, without its checksum -/
def headL (kd : Nat) (p : List UInt8) : List UInt8 := UInt8.ofNat kd :: fourL p.length
def laidL (kd : Nat) (p : List UInt8) : List UInt8 := headL kd p ++ fourL (crcM (headL kd p ++ p)) ++ p

theorem kind_conv (kd : Nat) (b : Nat) (W : World) (hb : W.cell? ⟨b, 0, none⟩ = some (.int .u8 (kd : Int))) :
    (convert 40 9 (.slice (some ⟨b, 0, none⟩) 1 1)).run Tryd.prog W = .ok (.string ⟨#[UInt8.ofNat kd]⟩) W := by
  have hr := run_convert_bytes_arg (P := Tryd.prog) W 40 5 Tryd.underlying40 Tryd.underlying5 b 0 1 1 [(kd : Int)] rfl (fun i hi => by
    match i, hi with
    | 0, _ => exact hb) 9 Tryd.underlying9
  rw [hr]
  rfl

theorem bl_alloc {w w' : World} (h : Below w.heap.size w w') (o : Obj) : Below w.heap.size w (w'.alloc o) := h.alloc h.size o
theorem bl_drew {w w' : World} (h : Below w.heap.size w w') : Below w.heap.size w w'.drew := ⟨h.os, h.tape, h.output, h.size, h.block⟩
theorem bl_drewN {w w' : World} (h : Below w.heap.size w w') (n : Nat) : Below w.heap.size w (w'.drewN n) := ⟨h.os, h.tape, h.output, h.size, h.block⟩

theorem bytes_app (a b : List UInt8) : (⟨a.toArray⟩ : ByteArray) ++ ⟨b.toArray⟩ = ⟨(a ++ b).toArray⟩ := by
  apply ByteArray.ext
  simp
theorem bytes_eq (s : ByteArray) : s = ⟨s.data.toList.toArray⟩ := by cases s; simp

theorem laid_any (kd : Nat) (p : ByteArray) (hk : kd < 256) (hp : p.size ≤ 16777216) (w : World) :
    Calls Tryd.prog 20 #[.int .u8 kd, .string p] w fun e w' => e = .returned (.string ⟨(laidL kd p.data.toList).toArray⟩) ∧ Below w.heap.size w w' := by
  have hkc := kind_conv kd
  have e0 : IntKind.u32.wrap (p.size : Int) = (p.size : Int) := by rw [IntKind.wrap_u32]; omega
  have p0 : (0 : Int) ≤ p.size := by omega
  have p1 : (p.size : Int) ≤ 16777216 := by omega
  have HF := Lib.hid fun (n : Nat) (hn : n < 4294967296) (W : World) => four_any n hn W
  have hpl : p.data.toList.length = p.size := by rw [Array.length_toList]; rfl
  have e1 : (⟨#[UInt8.ofNat kd]⟩ : ByteArray) ++ ⟨(fourL p.size).toArray⟩ = ⟨(headL kd p.data.toList).toArray⟩ := by
    rw [show (⟨#[UInt8.ofNat kd]⟩ : ByteArray) = ⟨[UInt8.ofNat kd].toArray⟩ from rfl, bytes_app]
    unfold headL
    rw [hpl]
    rfl
  have e2 : (⟨(headL kd p.data.toList).toArray⟩ : ByteArray) ++ p = ⟨(headL kd p.data.toList ++ p.data.toList).toArray⟩ := by
    conv => lhs; rw [bytes_eq p]
    rw [bytes_app]
  have HC := Lib.hid fun W : World => crc_any ⟨(headL kd p.data.toList ++ p.data.toList).toArray⟩ (by show (headL kd p.data.toList ++ p.data.toList).toArray.size ≤ _; simp [headL, fourL, hpl]; omega) W
  have hcl : crcM (headL kd p.data.toList ++ p.data.toList) < 4294967296 := onM_lt (by omega) _
  have HCL := Lib.hid hcl
  have e3 : (⟨(headL kd p.data.toList).toArray⟩ : ByteArray) ++ ⟨(fourL (crcM (headL kd p.data.toList ++ p.data.toList))).toArray⟩ ++ p = ⟨(laidL kd p.data.toList).toArray⟩ := by
    conv => lhs; rw [bytes_eq p]
    rw [bytes_app, bytes_app]
    rfl
  obtain ⟨x, hx⟩ : ∃ x, x = crcM (headL kd p.data.toList ++ p.data.toList) := ⟨_, rfl⟩
  rw [show crcM (⟨(headL kd p.data.toList ++ p.data.toList).toArray⟩ : ByteArray).data.toList = crcM (headL kd p.data.toList ++ p.data.toList) from rfl, ← hx] at HC
  rw [← hx] at HCL e3
  have hdl : (headL kd p.data.toList).length = 5 := rfl
  have f4 : ∀ n, (fourL n).length = 4 := fun _ => rfl
  have g0 : ¬ 9223372036854775807 < 1 + (fourL p.size).length := by rw [f4]; omega
  have g1 : ¬ 9223372036854775807 < (headL kd p.data.toList).length + p.size := by rw [hdl]; omega
  have g2 : ¬ 9223372036854775807 < (headL kd p.data.toList).length + (fourL x).length := by rw [hdl, f4]; omega
  have g3 : ¬ 9223372036854775807 < (headL kd p.data.toList).length + (fourL x).length + p.size := by rw [hdl, f4]; omega
  clear hcl hx hpl hk hp hdl f4
  generalize headL kd p.data.toList ++ p.data.toList = hq at HC e2
  generalize headL kd p.data.toList = hd at e1 e2 e3 g1 g2 g3
  go_enter Tryd.func20, Tryd.ntmps20
  go_wp2_with fail
  go_region_with ((go_at_call 28; refine (HF.out p.size (by omega) _).mono ?_; rintro e w' ⟨rfl, o, rfl⟩))
  all_goals
    go_wp2_with (first | (go_at_call 12; refine (HC.out _).mono ?_; rintro e w' ⟨rfl, rfl⟩) | (go_at_call 28; refine (HF.out x HCL.out _).mono ?_; rintro e w' ⟨rfl, o2, rfl⟩))
    go_ret
    refine ⟨by rw [← e3]; rfl, ?_⟩
    repeat (first | exact Below.refl _ _ | refine bl_alloc ?_ _ | refine bl_drew ?_ | refine bl_drewN ?_ _)
end Go.Proofs.YtbgkehdnnloahaaDoor.sums
