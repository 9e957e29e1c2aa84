/-
  Layer 1: the contract of Unpack.
-/
import Derived.Test.YtpedohlglllocaaPack
namespace Go.Proofs.Ytpedohlglllocaa.bits
open Go.ChangeShapes Go.WideShapes Go.ChangeAt Go.RowKit
set_option linter.unusedVariables false

theorem Try.info30 : (Try.prog.info? 30).map (fun i => (i.zero, i.size, i.bytes)) = some (some (.int .u64 0), 1, 8) := by kernel_rfl

theorem unpack_arg (s : ByteArray) (n c : Int) (w : World) (h : n < 1 ∨ 64 < n ∨ c < 0) :
    Calls Try.prog 27 #[.string s, .int .i64 n, .int .i64 c] w fun e w' => e = .returned (.tuple #[.slice none 0 0, .int .i64 1]) ∧ w = w' := by
  by_cases h1 : n < 1
  · clear h
    go_enter Try.func27, Try.ntmps27
    go_wp2_with fail
    go_ret2
    exact ⟨rfl, rfl⟩
  · by_cases h2 : 64 < n
    · clear h
      go_enter Try.func27, Try.ntmps27
      go_wp2_with fail
      go_ret2
      exact ⟨rfl, rfl⟩
    · have h3 : c < 0 := by omega
      clear h
      go_enter Try.func27, Try.ntmps27
      go_wp2_with fail
      go_ret2
      exact ⟨rfl, rfl⟩

theorem unpack_many (s : ByteArray) (n c : Int) (w : World) (h1 : 1 ≤ n) (h2 : n ≤ 64) (h3 : 0 ≤ c) (h : 134217728 / n < c) :
    Calls Try.prog 27 #[.string s, .int .i64 n, .int .i64 c] w fun e w' => e = .returned (.tuple #[.slice none 0 0, .int .i64 4]) ∧ w = w' := by
  go_enter Try.func27, Try.ntmps27
  go_wp2_with fail
  go_ret2
  exact ⟨rfl, rfl⟩

theorem prod_le {c n : Nat} (hn : 1 ≤ n) (h : c ≤ 134217728 / n) : c * n ≤ 134217728 ∧ c ≤ 134217728 := by
  have h1 : c * n ≤ 134217728 / n * n := Nat.mul_le_mul_right _ h
  have h2 := Nat.div_mul_le_self 134217728 n
  exact ⟨by omega, Nat.le_trans (Nat.le_mul_of_pos_right c hn) (by omega)⟩

theorem unpack_len (s : ByteArray) (n c : Nat) (w : World) (h1 : 1 ≤ n) (h2 : n ≤ 64) (h : c ≤ 134217728 / n) (hs : s.size ≤ 1152921504606846975) (hne : s.size ≠ (c * n + 7) / 8) :
    Calls Try.prog 27 #[.string s, .int .i64 n, .int .i64 c] w fun e w' => e = .returned (.tuple #[.slice none 0 0, .int .i64 4]) ∧ w = w' := by
  obtain ⟨hP, hc⟩ := prod_le h1 h
  obtain ⟨P, hPP⟩ : ∃ P : Nat, P = c * n := ⟨_, rfl⟩
  rw [← hPP] at hP hne
  have e1 : IntKind.i64.wrap ((c : Int) * (n : Int)) = (P : Int) := by
    rw [show (c : Int) * (n : Int) = (P : Int) from by rw [hPP]; simp]; exact IntWalk.i64_in _ (by omega)
  have e2 : wrap64 ((c : Int) * (n : Int)) = (P : Int) := by rw [← PlainAid.i64_is]; exact e1
  have hnn : (1 : Int) ≤ (n : Int) := by omega
  have hd : (c : Int) ≤ 134217728 / (n : Int) := by
    rw [show (134217728 : Int) / (n : Int) = ((134217728 / n : Nat) : Int) from by simp]; omega
  have t1 : ((s.size : Int) != ((P : Int) + 7) / 8) = true := by rw [bne_iff_ne]; omega
  have t2 : ((s.size : Int) == ((P : Int) + 7) / 8) = false := by rw [beq_eq_false_iff_ne]; omega
  clear hPP hne h
  go_enter Try.func27, Try.ntmps27
  go_wp2_with (go_at_call 39; refine (bytesOf_nat _ (by omega) _).mono ?_; rintro e w' ⟨rfl, rfl⟩)
  go_ret2
  exact ⟨rfl, rfl⟩

/-- what Unpack answers where the length fits: the numbers, or that the filling is not all 0 -/
theorem unpack_fill (s : ByteArray) (n c : Nat) (w : World) (h1 : 1 ≤ n) (h2 : n ≤ 64) (h : c ≤ 134217728 / n) (hs : s.size = (c * n + 7) / 8) (hne : fld s (c * n) (8 * s.size - c * n) ≠ 0) :
    Calls Try.prog 27 #[.string s, .int .i64 n, .int .i64 c] w fun e w' => e = .returned (.tuple #[.slice none 0 0, .int .i64 4]) ∧ Ch (fun _ => False) w w' := by
  obtain ⟨hP, hc⟩ := prod_le h1 h
  obtain ⟨P, hPP⟩ : ∃ P : Nat, P = c * n := ⟨_, rfl⟩
  rw [← hPP] at hP hne hs
  have e1 : IntKind.i64.wrap ((c : Int) * (n : Int)) = (P : Int) := by
    rw [show (c : Int) * (n : Int) = (P : Int) from by rw [hPP]; simp]; exact IntWalk.i64_in _ (by omega)
  have e2 : wrap64 ((c : Int) * (n : Int)) = (P : Int) := by rw [← PlainAid.i64_is]; exact e1
  have hnn : (1 : Int) ≤ (n : Int) := by omega
  have hd : (c : Int) ≤ 134217728 / (n : Int) := by
    rw [show (134217728 : Int) / (n : Int) = ((134217728 / n : Nat) : Int) from by simp]; omega
  have t1 : ((s.size : Int) != ((P : Int) + 7) / 8) = false := by rw [bne_eq_false_iff_eq]; omega
  have hs8 : s.size ≤ 16777217 := by omega
  obtain ⟨m, hm⟩ : ∃ m : Nat, m = 8 * s.size - P := ⟨_, rfl⟩
  rw [← hm] at hne
  have e3 : 8 * (s.size : Int) - (P : Int) = (m : Int) := by omega
  have HT : Hid (∀ W : World, W.cell? ⟨w.heap.size, 0, none⟩ = some (.string s) → Calls Try.prog 42 #[.int .i64 P, .int .i64 m, .pointer (some ⟨w.heap.size, 0, none⟩)] W fun e w' => e = .returned (.int .u64 (fld s P m)) ∧ ∃ q, w' = W.drewN q) :=
    Lib.hid fun W hW => take_any s w.heap.size P m W (by omega) hW (by omega) (by omega)
  have t3 : ((fld s P m : Int) != 0) = true := by rw [bne_iff_ne]; omega
  clear hPP hne h hs hm
  go_enter Try.func27, Try.ntmps27
  go_wp2_with (first | (go_at_call 39; refine (bytesOf_nat _ (by omega) _).mono ?_; rintro e w' ⟨rfl, rfl⟩) | (go_at_call 37; refine (taker_any _ _).mono ?_; rintro e w' ⟨rfl, rfl⟩) | (go_at_call 42; refine (HT.out _ (by simp)).mono ?_; rintro e w' ⟨rfl, q, rfl⟩))
  go_ret2
  exact ⟨rfl, ((Ch.refl _ w).alloc _).drewN _⟩

end Go.Proofs.Ytpedohlglllocaa.bits
