/-
  Layer 7, the program: bytesOf.
-/
import Derived.Test.YtfgcbbbhnnikdaaPgL
namespace Go.Proofs.Ytfgcbbbhnnikdaa.pg
open Go.ChangeShapes Go.WideShapes Go.ChangeAt Go.RowKit mem
set_option linter.unusedVariables false
theorem of_byte (m : Nat) : (((UInt8.ofNat m).toNat : Nat) : Int) = (m : Int) % 256 := by
  rw [UInt8.toNat_ofNat', show (2 : Nat) ^ 8 = 256 from rfl]
  omega
abbrev four (v : Nat) : List Value := [.int .u8 ((v : Int) / 16777216), .int .u8 ((v : Int) / 65536 % 256), .int .u8 ((v : Int) / 256 % 256), .int .u8 ((v : Int) % 256)]
theorem four_text (v w : Nat) (hv : v < 4294967296) (hw : w = 1 ∨ w = 2 ∨ w = 4) (W : World) :
    (convert 90 9 (.slice (some ⟨W.heap.size, 4 - w, none⟩) w w)).run Try.prog (W.alloc (.cells #[.int .u8 ((v : Int) / 16777216), .int .u8 ((v : Int) / 65536 % 256), .int .u8 ((v : Int) / 256 % 256), .int .u8 ((v : Int) % 256)] 130)) = .ok (.string (be w v)) (W.alloc (.cells #[.int .u8 ((v : Int) / 16777216), .int .u8 ((v : Int) / 65536 % 256), .int .u8 ((v : Int) / 256 % 256), .int .u8 ((v : Int) % 256)] 130)) := by
  have h1 := st_new (St.nil (Ch.refl _ W)) (four v) 130
  have hc : ∀ i, (W.alloc (.cells (four v).toArray 130)).cell? ⟨W.heap.size, i, none⟩ = (four v)[i]? := fun i => st_cell h1 i
  have hb3 : (v : Int) / 16777216 = (v : Int) / 16777216 % 256 := by omega
  have p0 : (256 : Nat) ^ 0 = 1 := rfl
  have p1 : (256 : Nat) ^ 1 = 256 := rfl
  have p2 : (256 : Nat) ^ 2 = 65536 := rfl
  have p3 : (256 : Nat) ^ 3 = 16777216 := rfl
  have := run_convert_bytes_back (P := Try.prog) (W.alloc (.cells (four v).toArray 130)) 90 9 5 ⟨W.heap.size, 4 - w, none⟩ w (beL w v) Try.underlying90 Try.underlying5 Try.underlying9 (fun j hj => by
    rw [beL_len] at hj
    rw [Addr.add_mid, hc, beL_at, of_byte]
    rcases hw with rfl | rfl | rfl
    · obtain rfl : j = 0 := by omega
      simp [p0]
    · have : j = 0 ∨ j = 1 := by omega
      rcases this with rfl | rfl
      · simp [p1]
      · simp [p0]
    · have : j = 0 ∨ j = 1 ∨ j = 2 ∨ j = 3 := by omega
      rcases this with rfl | rfl | rfl | rfl
      · simp [p3]; omega
      · simp [p2]
      · simp [p1]
      · simp [p0])
  rw [beL_len] at this
  exact this
set_option maxRecDepth 16000 in
theorem bytesOf_1 (v : Nat) (hv : v < 4294967296) (W : World) :
    Calls Try.prog 94 #[.int .u32 (v : Int), .int .i64 1] W fun e w' => e = .returned (.string (be 1 v)) ∧ Ch0 W w' := by
  have v0 : (0 : Int) ≤ v := by omega
  have v1 : (v : Int) ≤ 4294967295 := by omega
  have hx := four_text v 1 hv (by omega) W
  simp only [Nat.reduceSub] at hx
  clear hv
  go_enter Try.func94, Try.ntmps94
  go_wp2_with fail
  go_ret
  exact ⟨rfl, (Ch.refl _ _).alloc _⟩
set_option maxRecDepth 16000 in
theorem bytesOf_2 (v : Nat) (hv : v < 4294967296) (W : World) :
    Calls Try.prog 94 #[.int .u32 (v : Int), .int .i64 2] W fun e w' => e = .returned (.string (be 2 v)) ∧ Ch0 W w' := by
  have v0 : (0 : Int) ≤ v := by omega
  have v1 : (v : Int) ≤ 4294967295 := by omega
  have hx := four_text v 2 hv (by omega) W
  simp only [Nat.reduceSub] at hx
  clear hv
  go_enter Try.func94, Try.ntmps94
  go_wp2_with fail
  go_ret
  exact ⟨rfl, (Ch.refl _ _).alloc _⟩
set_option maxRecDepth 16000 in
theorem bytesOf_4 (v : Nat) (hv : v < 4294967296) (W : World) :
    Calls Try.prog 94 #[.int .u32 (v : Int), .int .i64 4] W fun e w' => e = .returned (.string (be 4 v)) ∧ Ch0 W w' := by
  have v0 : (0 : Int) ≤ v := by omega
  have v1 : (v : Int) ≤ 4294967295 := by omega
  have hx := four_text v 4 hv (by omega) W
  simp only [Nat.reduceSub] at hx
  clear hv
  go_enter Try.func94, Try.ntmps94
  go_wp2_with fail
  go_ret
  exact ⟨rfl, (Ch.refl _ _).alloc _⟩
end Go.Proofs.Ytfgcbbbhnnikdaa.pg
