/-
  BitioWrites: one Put, by the program's writer and by the document's.
-/
import Derived.Test.YtpedohlglllocaaWritesA
namespace Go.Proofs.Ytpedohlglllocaa.bits
open Go.ChangeShapes Go.WideShapes Go.ChangeAt Go.RowKit
set_option linter.unusedVariables false

theorem four_cell1 {w : World} {B : Nat} {x y z u : Value} {t : TypeId} (h : w.heap[B]? = some (.cells #[x, y, z, u] t (0, 0))) : w.cell? ⟨B, 1, none⟩ = some y := by simp [World.cell?, h]
theorem four_cell2 {w : World} {B : Nat} {x y z u : Value} {t : TypeId} (h : w.heap[B]? = some (.cells #[x, y, z, u] t (0, 0))) : w.cell? ⟨B, 2, none⟩ = some z := by simp [World.cell?, h]
theorem four_cell3 {w : World} {B : Nat} {x y z u : Value} {t : TypeId} (h : w.heap[B]? = some (.cells #[x, y, z, u] t (0, 0))) : w.cell? ⟨B, 3, none⟩ = some u := by simp [World.cell?, h]

set_option maxHeartbeats 1600000 in
theorem vput_any {w wr : World} {B Q O : Nat} {bs bo : List Bool} (h : Duo [] w wr B Q O bs bs bo) (K : Int) (V : Nat) (N : Int) (T : ByteArray) (hV : V < 18446744073709551616) (hT : T.size ≤ 17592186044416) :
    Calls Try.prog 9 #[.pointer (some ⟨B, 0, none⟩), .pointer (some ⟨Q, 0, none⟩), .agg #[.int .i64 K, .int .u64 V, .int .i64 N, .string T]] wr fun e w' => e = .returned (.bool true) ∧ Duo [] w w' B Q O (oOne bs K V N T) (oOne bs K V N T) bo := by
  have HD := Lib.hid (h.guest (.cells #[.int .i64 K, .int .u64 V, .int .i64 N, .string T] 32))
  have e1 : (bits BinOp.and IntKind.u64 (V : Int) 1 == 1) = decide (V % 2 = 1) := by
    have h := rbit_val V 0 hV
    rw [Nat.testBit_zero] at h
    simpa using h
  clear h
  unfold oOne
  by_cases k0 : K = 0
  · rw [if_pos k0]
    have t0 : (K == 0) = true := by simpa using k0
    clear k0
    go_enter Try.func9, Try.ntmps9
    go_wp2_with fail
    obtain ⟨P, hP⟩ : ∃ P, P = wr.heap.size := ⟨_, rfl⟩
    rw [← hP] at HD ⊢
    generalize wr.alloc (.cells #[.int .i64 K, .int .u64 V, .int .i64 N, .string T] 32) = w1 at HD ⊢
    clear hP
    have hc1 := four_cell1 HD.out.held
    go_region_held3 (fun w' => w'.cell? ⟨P, 1, none⟩ = some (.int .u64 V))
      (first | exact hc1 | exact four_cell1 HD2.out.held | exact four_cell1 HD3.out.held)
      ((first
        | (go_at_call 30; refine (duo_bitB (HD.out.same ((Ch.refl _ _).drew)) _).mono ?_; rintro e w4 ⟨rfl, hq⟩; have HD2 := Lib.hid hq; clear hq)
        | (go_at_call 32; refine (duo_bitQ HD2.out _).mono ?_; rintro e w5 ⟨rfl, hq⟩; have HD3 := Lib.hid hq; clear hq)))
    go_wp2_with fail
    go_ret
    exact ⟨rfl, HD3.out.left⟩
  · rw [if_neg k0]
    by_cases k1 : K = 1
    · rw [if_pos k1]
      have t0 : (K == 0) = false := by simpa using k0
      have t1 : (K == 1) = true := by simpa using k1
      clear k0 k1
      go_enter Try.func9, Try.ntmps9
      go_wp2_with fail
      obtain ⟨P, hP⟩ : ∃ P, P = wr.heap.size := ⟨_, rfl⟩
      rw [← hP] at HD ⊢
      generalize wr.alloc (.cells #[.int .i64 K, .int .u64 V, .int .i64 N, .string T] 32) = w1 at HD ⊢
      clear hP
      have hcA := four_cell1 HD.out.held
      have hcB := four_cell2 HD.out.held
      go_region_held3 (fun w' => w'.cell? ⟨P, 1, none⟩ = some (.int .u64 V) ∧ w'.cell? ⟨P, 2, none⟩ = some (.int .i64 N))
        (first | exact ⟨hcA, hcB⟩ | exact ⟨four_cell1 HD2.out.held, four_cell2 HD2.out.held⟩ | exact ⟨four_cell1 HD3.out.held, four_cell2 HD3.out.held⟩)
        ((first
          | (go_at_call 10; refine (duo_putB (HD.out.same ((Ch.refl _ _).drew)) V N hV).mono ?_; rintro e w4 ⟨rfl, hq⟩; have HD2 := Lib.hid hq; clear hq)
          | (go_at_call 33; refine (duo_putQ HD2.out V N hV).mono ?_; rintro e w5 ⟨rfl, hq⟩; have HD3 := Lib.hid hq; clear hq)))
      go_wp2_with fail
      go_ret
      exact ⟨rfl, HD3.out.left⟩
    · rw [if_neg k1]
      by_cases k2 : K = 2
      · rw [if_pos k2]
        have t0 : (K == 0) = false := by simpa using k0
        have t1 : (K == 1) = false := by simpa using k1
        have t2 : (K == 2) = true := by simpa using k2
        clear k0 k1 k2
        go_enter Try.func9, Try.ntmps9
        go_wp2_with fail
        obtain ⟨P, hP⟩ : ∃ P, P = wr.heap.size := ⟨_, rfl⟩
        rw [← hP] at HD ⊢
        generalize wr.alloc (.cells #[.int .i64 K, .int .u64 V, .int .i64 N, .string T] 32) = w1 at HD ⊢
        clear hP
        have hcA := four_cell3 HD.out.held
        have hcB := four_cell2 HD.out.held
        go_region_held3 (fun w' => w'.cell? ⟨P, 3, none⟩ = some (.string T) ∧ w'.cell? ⟨P, 2, none⟩ = some (.int .i64 N))
          (first | exact ⟨hcA, hcB⟩ | exact ⟨four_cell3 HD2.out.held, four_cell2 HD2.out.held⟩ | exact ⟨four_cell3 HD3.out.held, four_cell2 HD3.out.held⟩)
          ((first
            | (go_at_call 31; refine (duo_addB (HD.out.same ((Ch.refl _ _).drew)) T N hT).mono ?_; rintro e w4 ⟨rfl, hq⟩; have HD2 := Lib.hid hq; clear hq)
            | (go_at_call 34; refine (duo_addQ HD2.out T N hT).mono ?_; rintro e w5 ⟨rfl, hq⟩; have HD3 := Lib.hid hq; clear hq)))
        go_wp2_with fail
        go_ret
        exact ⟨rfl, HD3.out.left⟩
      · rw [if_neg k2]
        have t0 : (K == 0) = false := by simpa using k0
        have t1 : (K == 1) = false := by simpa using k1
        have t2 : (K == 2) = false := by simpa using k2
        clear k0 k1 k2
        go_enter Try.func9, Try.ntmps9
        go_wp2_with fail
        go_ret
        exact ⟨rfl, HD.out.left⟩
end Go.Proofs.Ytpedohlglllocaa.bits
