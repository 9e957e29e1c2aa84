/-
  Layer 3, the document's answers: step, On, Crc, Join.
-/
import Derived.Test.YtbgkehdnnloahaaDoorRows
import Derived.Test.YtbgkehdnnloahaaDoorCrcA
import Derived.WalkKit
import Derived.ProofKit
import Derived.OpenShut
import Derived.Lib.Hide
import Derived.BigQuiet
import Derived.Deep.QuietTactic
import Derived.BigRegion
import Derived.ChangeAlike
import Derived.Outline
namespace Go.Proofs.YtbgkehdnnloahaaDoor.sums
open Go.ChangeShapes Go.WideShapes Go.ChangeAt Go.RowKit
set_option linter.unusedVariables false

theorem step_any (n b : Nat) (hn : n < 4294967296) (hb : b < 256) (w : World) :
    Calls Tryd.prog 24 #[.int .u32 n, .int .u8 b] w fun e w' => e = .returned (.int .u32 (cstep n b)) ∧ w = w' := by
  have e0 := u32_xor_nat n b hn (by omega)
  have hlt := xor_lt32 hn (show b < 4294967296 from by omega)
  have hcs : cstep n b = rep cbit 8 (n ^^^ b) := rfl
  rw [hcs]
  generalize n ^^^ b = m at e0 hlt ⊢
  have HL := Lib.hid hlt
  have hni : (0 : Int) ≤ n ∧ (n : Int) ≤ 4294967295 := by omega
  have hbi : (0 : Int) ≤ b ∧ (b : Int) ≤ 255 := by omega
  obtain ⟨n0, n1⟩ := hni
  obtain ⟨b0, b1⟩ := hbi
  clear hlt hcs hn hb
  go_enter Tryd.func24, Tryd.ntmps24
  go_wp2_with fail
  go_loop [0, 5] (fun x i => ∃ k : Nat, k ≤ 8 ∧ i = .int .i64 ↑k ∧ x = .int .u32 (rep cbit k m)) (fun _ i => 8 - (intOf i).toNat)
  case atStart => exact ⟨0, by omega, rfl, rfl⟩
  case round =>
    obtain ⟨k, hk, rfl, rfl⟩ := hrel
    by_cases hlt : k < 8
    · have hy := rep_lt (fun _ h => cbit_lt h) k m HL.out
      have HS := Lib.hid (rep_succ cbit k m)
      obtain ⟨y, hyy⟩ : ∃ y, y = rep cbit k m := ⟨_, rfl⟩
      rw [← hyy] at hy HS ⊢
      have e1 := u32_xor_nat (y / 2) 2197175160 (by omega) (by omega)
      rw [show ((y / 2 : Nat) : Int) = (y : Int) / 2 from by simp, show ((2197175160 : Nat) : Int) = 2197175160 from rfl] at e1
      have HC : Hid (cbit y = if y % 2 = 1 then y / 2 ^^^ 2197175160 else y / 2) := Lib.hid rfl
      have hyi0 : (0 : Int) ≤ y := by omega
      have hyi1 : (y : Int) ≤ 4294967295 := by omega
      by_cases o : y % 2 = 1
      · have t : ((y : Int) % 2 == 1) = true := by rw [beq_iff_eq]; omega
        have HO := Lib.hid o
        clear o hy hyy
        go_wp2_with fail
        go_round
        case rel => exact ⟨k + 1, by omega, by go_num, by rw [HS.out, HC.out, if_pos HO.out]⟩
        case measure => simp [intOf] <;> omega
      · have t : ((y : Int) % 2 == 1) = false := by rw [beq_eq_false_iff_ne]; omega
        have HO := Lib.hid o
        clear o hy hyy
        go_wp2_with fail
        go_round
        case rel => exact ⟨k + 1, by omega, by go_num, by rw [HS.out, HC.out, if_neg HO.out]; simp⟩
        case measure => simp [intOf] <;> omega
    · obtain rfl : k = 8 := by omega
      clear hlt hk
      go_wp2_with fail
      go_ret
      exact ⟨rfl, rfl⟩

theorem crun_more (n : Nat) (s : ByteArray) (k : Nat) (h : k < s.size) : crun n (s.data.toList.take (k + 1)) = cstep (crun n (s.data.toList.take k)) (s[k]'h).toNat := by
  rw [List.take_succ_eq_append_getElem (by simpa using h), crun_snoc]
  rfl

theorem turn_val (c : Nat) (hc : c < 4294967296) : bits .xor .u32 IntKind.u32.max (c : Int) = ((ones ^^^ c : Nat) : Int) := u32_xor_nat 4294967295 c (by omega) hc

theorem on_any (c : Nat) (s : ByteArray) (hc : c < 4294967296) (hs : s.size ≤ 9223372036854775807) (w : World) :
    Calls Tryd.prog 14 #[.int .u32 c, .string s] w fun e w' => e = .returned (.int .u32 (onM c s.data.toList)) ∧ w = w' := by
  have e0 := turn_val c hc
  have hb : ones ^^^ c < 4294967296 := xor_lt32 (by decide) hc
  have ho : onM c s.data.toList = ones ^^^ crun (ones ^^^ c) s.data.toList := rfl
  rw [ho]
  generalize ones ^^^ c = m at e0 hb ⊢
  have HB := Lib.hid hb
  have c0 : (0 : Int) ≤ c := by omega
  have c1 : (c : Int) ≤ 4294967295 := by omega
  clear hb ho hc
  go_enter Tryd.func14, Tryd.ntmps14
  go_wp2_with fail
  go_loop [5, 6] (fun x i => ∃ k : Nat, k ≤ s.size ∧ i = .int .i64 ↑k ∧ x = .int .u32 (crun m (s.data.toList.take k))) (fun _ i => s.size - (intOf i).toNat)
  case atStart => exact ⟨0, Nat.zero_le _, rfl, by simp [crun_nil]⟩
  case round =>
    obtain ⟨k, hk, rfl, rfl⟩ := hrel
    have hy := crun_lt HB.out (s.data.toList.take k)
    by_cases hlt : k < s.size
    · have HM := Lib.hid (crun_more m s k hlt)
      obtain ⟨y, hyy⟩ : ∃ y, y = crun m (s.data.toList.take k) := ⟨_, rfl⟩
      rw [← hyy] at hy HM ⊢
      have HS := Lib.hid (step_any y (s[k]'hlt).toNat hy (UInt8.toNat_lt _) w)
      clear hy hyy
      go_wp2_with (go_at_call 24; refine HS.out.mono ?_; rintro e w' ⟨rfl, rfl⟩)
      go_round
      case rel => exact ⟨k + 1, by omega, by go_num, by rw [HM.out]⟩
      case measure => simp [intOf] <;> omega
    · rw [List.take_of_length_le (show s.data.toList.length ≤ k from by simp; omega)] at hy ⊢
      have e2 := turn_val (crun m s.data.toList) hy
      obtain ⟨z, hz⟩ : ∃ z, z = ones ^^^ crun m s.data.toList := ⟨_, rfl⟩
      rw [← hz] at e2
      have HZ := Lib.hid hz
      clear hz
      generalize crun m s.data.toList = y at e2 hy ⊢
      have y0 : (0 : Int) ≤ y := by omega
      have y1 : (y : Int) ≤ 4294967295 := by omega
      clear hy
      go_wp2_with fail
      go_ret
      rw [← HZ.out]
      exact ⟨rfl, rfl⟩

theorem crc_any (s : ByteArray) (hs : s.size ≤ 9223372036854775807) (w : World) :
    Calls Tryd.prog 12 #[.string s] w fun e w' => e = .returned (.int .u32 (crcM s.data.toList)) ∧ w = w' := by
  have HO := Lib.hid (on_any 0 s (by omega) hs w)
  rw [show onM 0 s.data.toList = crcM s.data.toList from rfl] at HO
  go_enter Tryd.func12, Tryd.ntmps12
  go_wp2_with (go_at_call 14; refine HO.out.mono ?_; rintro e w' ⟨rfl, rfl⟩)
  go_ret
  exact ⟨rfl, rfl⟩

/-- what Join answers -/
def joinM (a b : Nat) (n : Int) : Nat × Int := if n < 0 ∨ 16777216 < n then (0, 1) else (zrun n.toNat a ^^^ b, 0)

theorem join_any (a b : Nat) (n : Int) (ha : a < 4294967296) (hb : b < 4294967296) (w : World) :
    Calls Tryd.prog 17 #[.int .u32 a, .int .u32 b, .int .i64 n] w fun e w' => e = .returned (.tuple #[.int .u32 ((joinM a b n).1 : Nat), .int .i64 (joinM a b n).2]) ∧ w = w' := by
  unfold joinM
  by_cases c : n < 0 ∨ 16777216 < n
  · rw [if_pos c]
    by_cases c1 : n < 0
    · clear c
      go_enter Tryd.func17, Tryd.ntmps17
      go_wp2_with fail
      go_ret2
      exact ⟨rfl, rfl⟩
    · have c2 : 16777216 < n := by omega
      have c3 : 0 ≤ n := by omega
      clear c c1
      go_enter Tryd.func17, Tryd.ntmps17
      go_wp2_with fail
      go_ret2
      exact ⟨rfl, rfl⟩
  · rw [if_neg c]
    obtain ⟨m, rfl⟩ := Int.eq_ofNat_of_zero_le (show 0 ≤ n from by omega)
    rw [Int.toNat_natCast]
    have hm : (m : Int) ≤ 16777216 := by omega
    have hm0 : (0 : Int) ≤ m := by omega
    have HA := Lib.hid ha
    have HB := Lib.hid hb
    clear c ha hb
    go_enter Tryd.func17, Tryd.ntmps17
    go_wp2_with fail
    go_loop [0, 8] (fun x i => ∃ k : Nat, k ≤ m ∧ i = .int .i64 ↑k ∧ x = .int .u32 (zrun k a)) (fun _ i => m - (intOf i).toNat)
    case atStart => exact ⟨0, Nat.zero_le _, rfl, rfl⟩
    case round =>
      obtain ⟨k, hk, rfl, rfl⟩ := hrel
      have hy := zrun_lt (k := k) HA.out
      by_cases hlt : k < m
      · have HM := Lib.hid (rep_succ (fun n => cstep n 0) k a)
        have HS := Lib.hid (step_any (zrun k a) 0 hy (by omega) w)
        have HZ := Lib.hid (show zrun (k + 1) a = cstep (zrun k a) 0 from HM.out)
        generalize zrun k a = y at HS HZ ⊢
        clear hy HM
        go_wp2_with (go_at_call 24; refine HS.out.mono ?_; rintro e w' ⟨rfl, rfl⟩)
        go_round
        case rel => exact ⟨k + 1, by omega, by go_num, by rw [HZ.out]⟩
        case measure => simp [intOf] <;> omega
      · obtain rfl : k = m := by omega
        have e2 := u32_xor_nat (zrun k a) b hy HB.out
        obtain ⟨z, hz⟩ : ∃ z, z = zrun k a ^^^ b := ⟨_, rfl⟩
        rw [← hz] at e2
        have HZ := Lib.hid hz
        clear hz
        generalize zrun k a = y at e2 hy ⊢
        have y0 : (0 : Int) ≤ y := by omega
        have y1 : (y : Int) ≤ 4294967295 := by omega
        have b0 : (0 : Int) ≤ b := by omega
        have b1 : (b : Int) ≤ 4294967295 := by have := HB.out; omega
        clear hy hlt
        go_wp2_with fail
        go_ret2
        rw [← HZ.out]
        exact ⟨rfl, rfl⟩
end Go.Proofs.YtbgkehdnnloahaaDoor.sums
