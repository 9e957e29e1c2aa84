/-
  Layer 4: the program's calls of a device that is nil.
-/
import Derived.Test.YtlhhkoaacjakcaaDevC
namespace Go.Proofs.Ytlhhkoaacjakcaa.dev
open Go.ChangeShapes Go.WideShapes Go.ChangeAt Go.RowKit mem
set_option linter.unusedVariables false

abbrev nilDev : Value := .pointer none
theorem nil_refused (w : World) : Calls Try.prog 50 #[nilDev] w fun e w' => e = .returned (.int .i64 2) ∧ w = w' := by
  go_enter Try.func50, Try.ntmps50
  go_wp2_with fail
  go_ret
  exact ⟨rfl, rfl⟩
theorem nil_read (n : Int) (w : World) : Calls Try.prog 19 #[nilDev, .int .i64 n] w fun e w' => e = .returned (.tuple #[.string ⟨#[]⟩, .int .i64 2]) ∧ Ch (fun _ => False) w w' := by
  go_enter Try.func19, Try.ntmps19
  go_wp2_with (go_at_call 50; refine (nil_refused _).mono ?_; rintro e w' ⟨rfl, rfl⟩)
  go_ret2
  exact ⟨rfl, Ch.refl _ _⟩
theorem nil_write (n : Int) (s : ByteArray) (w : World) : Calls Try.prog 20 #[nilDev, .int .i64 n, .string s] w fun e w' => e = .returned (.int .i64 2) ∧ Ch (fun _ => False) w w' := by
  go_enter Try.func20, Try.ntmps20
  go_wp2_with (go_at_call 50; refine (nil_refused _).mono ?_; rintro e w' ⟨rfl, rfl⟩)
  go_ret
  exact ⟨rfl, Ch.refl _ _⟩
theorem nil_flush (w : World) : Calls Try.prog 21 #[nilDev] w fun e w' => e = .returned (.int .i64 2) ∧ Ch (fun _ => False) w w' := by
  go_enter Try.func21, Try.ntmps21
  go_wp2_with (go_at_call 50; refine (nil_refused _).mono ?_; rintro e w' ⟨rfl, rfl⟩)
  go_ret
  exact ⟨rfl, Ch.refl _ _⟩
theorem nil_plan (n : Int) (w : World) : Calls Try.prog 22 #[nilDev, .int .i64 n, .agg #[.slice none 0 0, .int .i64 0, .int .u8 0]] w fun e w' => e = .returned (.int .i64 2) ∧ Ch (fun _ => False) w w' := by
  go_enter Try.func22, Try.ntmps22
  go_wp2_with (go_at_call 50; refine (nil_refused _).mono ?_; rintro e w' ⟨rfl, rfl⟩)
  go_ret
  exact ⟨rfl, by first | exact Ch.refl _ _ | exact (Ch.refl _ _).alloc _⟩
theorem nil_pull (w : World) : Calls Try.prog 23 #[nilDev, .agg #[.slice none 0 0, .int .i64 0, .int .u8 0]] w fun e w' => e = .returned (.int .i64 2) ∧ Ch (fun _ => False) w w' := by
  go_enter Try.func23, Try.ntmps23
  go_wp2_with (go_at_call 50; refine (nil_refused _).mono ?_; rintro e w' ⟨rfl, rfl⟩)
  go_ret
  exact ⟨rfl, by first | exact Ch.refl _ _ | exact (Ch.refl _ _).alloc _⟩
theorem nil_down (w : World) : Calls Try.prog 24 #[nilDev] w fun e w' => e = .returned (.bool true) ∧ Ch (fun _ => False) w w' := by
  go_enter Try.func24, Try.ntmps24
  go_wp2_with fail
  go_ret
  exact ⟨rfl, by first | exact Ch.refl _ _ | exact (Ch.refl _ _).drew | exact (Ch.refl _ _).drewN _⟩
theorem nil_restart (w : World) : Calls Try.prog 25 #[nilDev] w fun e w' => e = .returned (.int .i64 2) ∧ Ch (fun _ => False) w w' := by
  go_enter Try.func25, Try.ntmps25
  go_wp2_with fail
  go_ret
  exact ⟨rfl, Ch.refl _ _⟩
theorem nil_corrupt (n k : Int) (s : ByteArray) (w : World) : Calls Try.prog 26 #[nilDev, .int .i64 n, .int .i64 k, .string s] w fun e w' => e = .returned (.int .i64 2) ∧ Ch (fun _ => False) w w' := by
  go_enter Try.func26, Try.ntmps26
  go_wp2_with fail
  go_ret
  exact ⟨rfl, by first | exact Ch.refl _ _ | exact (Ch.refl _ _).alloc _ | exact ((Ch.refl _ _).alloc _).alloc _ | exact (((Ch.refl _ _).alloc _).alloc _).alloc _⟩
theorem nil_calls (w : World) : Calls Try.prog 27 #[nilDev] w fun e w' => e = .returned (.int .i64 0) ∧ Ch (fun _ => False) w w' := by
  go_enter Try.func27, Try.ntmps27
  go_wp2_with fail
  go_ret
  exact ⟨rfl, Ch.refl _ _⟩
theorem nil_reads (w : World) : Calls Try.prog 28 #[nilDev] w fun e w' => e = .returned (.int .i64 0) ∧ Ch (fun _ => False) w w' := by
  go_enter Try.func28, Try.ntmps28
  go_wp2_with fail
  go_ret
  exact ⟨rfl, Ch.refl _ _⟩
theorem nil_unflushed (w : World) : Calls Try.prog 29 #[nilDev] w fun e w' => e = .returned (.int .i64 0) ∧ Ch (fun _ => False) w w' := by
  go_enter Try.func29, Try.ntmps29
  go_wp2_with fail
  go_ret
  exact ⟨rfl, Ch.refl _ _⟩
theorem nil_blocks (w : World) : Calls Try.prog 15 #[nilDev] w fun e w' => e = .returned (.int .i64 0) ∧ Ch (fun _ => False) w w' := by
  go_enter Try.func15, Try.ntmps15
  go_wp2_with fail
  go_ret
  exact ⟨rfl, Ch.refl _ _⟩
theorem nil_size (w : World) : Calls Try.prog 16 #[nilDev] w fun e w' => e = .returned (.int .i64 0) ∧ Ch (fun _ => False) w w' := by
  go_enter Try.func16, Try.ntmps16
  go_wp2_with fail
  go_ret
  exact ⟨rfl, Ch.refl _ _⟩
theorem nil_image (w : World) : Calls Try.prog 30 #[nilDev] w fun e w' => e = .returned (.slice none 0 0) ∧ Ch (fun _ => False) w w' := by
  go_enter Try.func30, Try.ntmps30
  go_wp2_with fail
  go_ret
  exact ⟨rfl, Ch.refl _ _⟩
theorem nil_twin (w : World) : Calls Try.prog 12 #[nilDev] w fun e w' => e = .returned nilDev ∧ Ch (fun _ => False) w w' := by
  go_enter Try.func12, Try.ntmps12
  go_wp2_with fail
  go_ret
  exact ⟨rfl, by first | exact Ch.refl _ _ | exact (Ch.refl _ _).alloc _⟩
end Go.Proofs.Ytlhhkoaacjakcaa.dev
