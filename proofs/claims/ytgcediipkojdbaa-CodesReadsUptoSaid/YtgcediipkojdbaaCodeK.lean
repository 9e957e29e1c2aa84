/-
  Layer 2: what is read: the contracts of readMinimal, readZeta.
-/
import Derived.Test.YtgcediipkojdbaaCodeJ
import Derived.Outline
namespace Go.Proofs.Ytgcediipkojdbaa.bits
open Go.ChangeShapes Go.WideShapes Go.ChangeAt Go.RowKit
set_option linter.unusedVariables false

section
variable {w : World} {R T : Nat} {F : Nat → Prop} {s : ByteArray} {p : Nat}

theorem mini_one (v : Nat) : mini 0 1 = [] := by
  unfold mini
  rw [wid_one]
  rfl

set_option maxHeartbeats 1000000 in
theorem readMinimal_any (h : Rd w R T F s p) (c : Nat) (h1 : 1 ≤ c) (hc : c ≤ 9223372036854775808) :
    Calls Try.prog 33 #[.pointer (some ⟨R, 0, none⟩), .int .u64 c] w (Got w R T F s p (fun v => mini v c) (c - 1)) := by
  have HW := Lib.hid (width_any c w h1 hc)
  have hle := h.le
  by_cases c1 : c = 1
  · subst c1
    have HR := Lib.hid h
    rw [wid_one] at HW
    clear h
    go_enter Try.func33, Try.ntmps33
    go_wp2_with (go_at_call 46; refine HW.out.mono ?_; rintro e w' ⟨rfl, q, rfl⟩)
    go_ret2
    exact .inl ⟨0, by omega, by show mini 0 1 <+: _; rw [mini_one 0]; exact List.nil_prefix, rfl, by show Rd _ R T F s (p + (mini 0 1).length); rw [mini_one 0]; exact HR.out.drewN q, (Ch.refl F w).drewN q⟩
  · have h2 : 2 ≤ c := by omega
    have hw := wid_pos h2
    have hw2 : wid c ≤ 63 := wid_le (n := 63) (by omega)
    have hwid := two_wid h2
    have hhi := wid_hi h1
    have hp63 : 2 ^ wid c ≤ 2 ^ 63 := Nat.pow_le_pow_right (by omega) hw2
    have HD : Hid (∀ q, Rd (w.drewN q) R T F s p) := Lib.hid fun q => h.drewN q
    obtain ⟨m, hm⟩ : ∃ m, m = 2 ^ wid c - c := ⟨_, rfl⟩
    obtain ⟨n, hn⟩ : ∃ n, n = wid c - 1 := ⟨_, rfl⟩
    have hn1 : wid c = n + 1 := by omega
    obtain ⟨N, hN⟩ : ∃ N, N = wid c := ⟨_, rfl⟩
    rw [← hm, ← hN] at HW
    have t0 : ((N : Int) == 0) = false := by rw [beq_eq_false_iff_ne]; omega
    have e0 : IntKind.i64.wrap ((N : Int) - 1) = (n : Int) := by rw [show (N : Int) - 1 = (n : Int) from by omega]; exact IntWalk.i64_in _ (by omega)
    have hN0 : (0 : Int) < N := by omega
    have hN6 : (N : Int) ≤ 63 := by omega
    by_cases g : p + n ≤ 8 * s.size
    · have hf := fld_lt s p n
      by_cases sh : fld s p n < m
      · have HT : Hid (∀ q, Calls Try.prog 42 #[.pointer (some ⟨R, 0, none⟩), .int .i64 n] (w.drewN q) fun e w' => e = .returned (.tuple #[.int .u64 (fld s p n), .int .i64 0]) ∧ Rd w' R T F s (p + n) ∧ Ch F (w.drewN q) w') := Lib.hid fun q => rtake_ok (h.drewN q) n (by omega) g
        have shi : ((fld s p n : Nat) : Int) < (m : Int) := by omega
        have HV : Hid (mini (fld s p n) c <+: rest s p ∧ (mini (fld s p n) c).length = n ∧ fld s p n ≤ c - 1) := Lib.hid (by
          have a := mini_short (k := c) (l := rest s p) (by rw [← hn, ← hm, ← fld_rest0]; exact sh) (by rw [← hn, rest_len]; omega)
          rw [← hn, ← fld_rest0] at a
          have b := mini_short_len (k := c) (v := fld s p n) (by rw [← hm]; exact sh)
          have d := mini_short_lt h1 (v := fld s p n) (by rw [← hm]; exact sh)
          exact ⟨a, by omega, by omega⟩)
        generalize fld s p n = x at HT HV shi
        clear h hle c1 h2 hw hw2 hwid hhi hp63 hm hn hn1 hN g hf sh h1 hc
        go_enter Try.func33, Try.ntmps33
        go_wp2_with (first | (go_at_call 46; refine HW.out.mono ?_; rintro e w' ⟨rfl, q, rfl⟩) | (go_at_call 42; refine (HT.out _).mono ?_; rintro e w3 ⟨rfl, hq⟩; have HQ := Lib.hid hq; clear hq))
        go_ret2
        refine .inl ⟨x, HV.out.2.2, HV.out.1, rfl, ?_, ((Ch.refl F w).drewN q).trans HQ.out.2 fun g h => .inl h⟩
        show Rd w3 R T F s (p + (mini x c).length)
        rw [HV.out.2.1]
        exact HQ.out.1
      · have HT : Hid (∀ q, Calls Try.prog 42 #[.pointer (some ⟨R, 0, none⟩), .int .i64 n] (w.drewN q) fun e w' => e = .returned (.tuple #[.int .u64 (fld s p n), .int .i64 0]) ∧ Rd w' R T F s (p + n) ∧ Ch F (w.drewN q) w') := Lib.hid fun q => rtake_ok (h.drewN q) n (by omega) g
        have shi : (m : Int) ≤ ((fld s p n : Nat) : Int) := by omega
        by_cases g2 : p + n + 1 ≤ 8 * s.size
        · have hm1 := fld_more s p n (by omega)
          have hf1 := fld_lt s (p + n) 1
          have hlong := mini_long h2 (l := rest s p) (by rw [← hn, ← hm, ← fld_rest0]; omega) (by rw [rest_len]; omega)
          rw [hn1, ← fld_rest0, hm1, ← show m = 2 ^ (n + 1) - c from by rw [hm, hn1]] at hlong
          have HV : Hid (mini (2 * fld s p n + fld s (p + n) 1 - m) c <+: rest s p ∧ (mini (2 * fld s p n + fld s (p + n) 1 - m) c).length = n + 1 ∧ 2 * fld s p n + fld s (p + n) 1 - m ≤ c - 1) := Lib.hid (by
            have a := mini_long_len (k := c) (v := 2 * fld s p n + fld s (p + n) 1 - m) (by rw [← hm]; exact hlong.1)
            exact ⟨hlong.2.2, by omega, by omega⟩)
          have HT1 : Hid (∀ W, Rd W R T F s (p + n) → Calls Try.prog 42 #[.pointer (some ⟨R, 0, none⟩), .int .i64 1] W fun e w' => e = .returned (.tuple #[.int .u64 (fld s (p + n) 1), .int .i64 0]) ∧ Rd w' R T F s (p + n + 1) ∧ Ch F W w') := Lib.hid fun W hW => rtake_ok hW 1 (by omega) g2
          have hx : fld s p n < 9223372036854775808 := by have : 2 ^ n ≤ 2 ^ 62 := Nat.pow_le_pow_right (by omega) (by omega); omega
          generalize fld s p n = x at HT HV shi hx
          generalize fld s (p + n) 1 = y at HT1 HV hf1
          have e1 : IntKind.u64.wrap ((x : Int) * 2) = (x : Int) * 2 := by rw [PlainAid.u64_nonneg (by omega) (by omega)]
          have e2 : IntKind.u64.wrap ((x : Int) * 2 + (y : Int)) = (x : Int) * 2 + (y : Int) := by rw [PlainAid.u64_nonneg (by omega) (by omega)]
          have HE : Hid (IntKind.u64.wrap ((x : Int) * 2 + (y : Int) - (m : Int)) = ((2 * x + y - m : Nat) : Int)) := Lib.hid (by rw [PlainAid.u64_nonneg (by omega) (by omega)]; omega)
          clear h hle c1 h2 hw hw2 hwid hhi hp63 hm hn hn1 hN g hf sh h1 hc g2 hm1 hlong hf1 hx
          go_enter Try.func33, Try.ntmps33
          go_wp2_with (first | (go_at_call 46; refine HW.out.mono ?_; rintro e w' ⟨rfl, q, rfl⟩) | (go_at_call 42; refine (HT.out _).mono ?_; rintro e w3 ⟨rfl, hq⟩; have HQ := Lib.hid hq; clear hq HT) | (go_at_call 42; refine (HT1.out _ HQ.out.1).mono ?_; rintro e w4 ⟨rfl, hq⟩; have HQ2 := Lib.hid hq; clear hq))
          go_ret2
          refine .inl ⟨2 * x + y - m, HV.out.2.2, HV.out.1, by rw [← HE.out]; rfl, ?_, (((Ch.refl F w).drewN q).trans HQ.out.2 fun g h => .inl h).trans HQ2.out.2 fun g h => .inl h⟩
          show Rd w4 R T F s (p + (mini (2 * x + y - m) c).length)
          rw [HV.out.2.1, ← Nat.add_assoc]
          exact HQ2.out.1
        · have HNO : Hid (∀ v, v ≤ c - 1 → ¬ mini v c <+: rest s p) := Lib.hid fun v hv => mini_none2 h2 (by rw [← hn, ← hm, ← fld_rest0]; omega) (by rw [rest_len]; omega) v (by omega)
          have HT1 : Hid (∀ W, Rd W R T F s (p + n) → Calls Try.prog 42 #[.pointer (some ⟨R, 0, none⟩), .int .i64 1] W fun e w' => e = .returned (.tuple #[.int .u64 0, .int .i64 4]) ∧ ∃ q, w' = W.drewN q) := Lib.hid fun W hW => rtake_form hW 1 (by omega) (by omega)
          generalize fld s p n = x at HT shi
          clear h hle c1 h2 hw hw2 hwid hhi hp63 hm hn hn1 hN g hf sh h1 hc g2
          go_enter Try.func33, Try.ntmps33
          go_wp2_with (first | (go_at_call 46; refine HW.out.mono ?_; rintro e w' ⟨rfl, q, rfl⟩) | (go_at_call 42; refine (HT.out _).mono ?_; rintro e w3 ⟨rfl, hq⟩; have HQ := Lib.hid hq; clear hq HT) | (go_at_call 42; refine (HT1.out _ HQ.out.1).mono ?_; rintro e w4 ⟨rfl, q2, rfl⟩))
          go_ret2
          exact .inr ⟨HNO.out, _, _, rfl, HQ.out.1.drewN q2, (((Ch.refl F w).drewN q).trans HQ.out.2 fun g h => .inl h).drewN q2⟩
    · have HNO : Hid (∀ v, v ≤ c - 1 → ¬ mini v c <+: rest s p) := Lib.hid fun v hv => mini_none1 (by rw [rest_len]; omega) v
      have HT : Hid (∀ q, Calls Try.prog 42 #[.pointer (some ⟨R, 0, none⟩), .int .i64 n] (w.drewN q) fun e w' => e = .returned (.tuple #[.int .u64 0, .int .i64 4]) ∧ ∃ q2, w' = (w.drewN q).drewN q2) := Lib.hid fun q => rtake_form (h.drewN q) n (by omega) (by omega)
      clear h hle c1 h2 hw hw2 hwid hhi hp63 hm hn hn1 hN g h1 hc
      go_enter Try.func33, Try.ntmps33
      go_wp2_with (first | (go_at_call 46; refine HW.out.mono ?_; rintro e w' ⟨rfl, q, rfl⟩) | (go_at_call 42; refine (HT.out _).mono ?_; rintro e w3 ⟨rfl, q2, rfl⟩))
      go_ret2
      exact .inr ⟨HNO.out, _, _, rfl, HD.out (q + q2), (Ch.refl F w).drewN (q + q2)⟩
end
end Go.Proofs.Ytgcediipkojdbaa.bits
