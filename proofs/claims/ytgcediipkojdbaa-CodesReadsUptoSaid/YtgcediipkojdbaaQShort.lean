/-
  Layer 2, the document's answers: short.
-/
import Derived.Test.YtgcediipkojdbaaQZeros
import Derived.Outline
namespace Go.Proofs.Ytgcediipkojdbaa.bits
open Go.ChangeShapes Go.WideShapes Go.ChangeAt Go.RowKit
set_option linter.unusedVariables false

theorem mini_one0 : mini 0 1 = [] := mini_one 0

section
variable {w : World} {Q : Nat} {F : Nat → Prop} {v : Value} {s : ByteArray} {p : Nat}

set_option maxHeartbeats 4000000 in
theorem short_any (h : RQ w Q F v s p) (c : Nat) (h1 : 1 ≤ c) (hc : c ≤ 9223372036854775808) :
    Calls Try.prog 49 #[.pointer (some ⟨Q, 0, none⟩), .int .u64 c] w (QGot w Q F v s p (fun y => mini y c) (c - 1) (c - 1)) := by
  have HR := Lib.hid h
  have H1 := Lib.hid h1
  have HC := Lib.hid hc
  have hci : (c : Int) ≤ 9223372036854775808 := by omega
  have hci1 : (1 : Int) ≤ c := by omega
  clear h h1 hc
  go_enter Try.func49, Try.ntmps49
  go_wp2_with fail
  go_loop [6] (fun x => ∃ t : Nat, t ≤ 63 ∧ x = .int .i64 ↑t ∧ (t = 0 ∨ 2 ^ (t - 1) < c)) (fun x => 63 - (intOf x).toNat)
  case atStart => exact ⟨0, by omega, rfl, .inl rfl⟩
  case round =>
    obtain ⟨t, ht, rfl, hb⟩ := hrel
    have HB := Lib.hid hb
    clear hb
    have e0 := pow_wrap (n := t) ht
    obtain ⟨A, hA⟩ : ∃ A, A = 2 ^ t := ⟨_, rfl⟩
    rw [← hA] at e0
    have HA := Lib.hid hA
    have hA63 : A ≤ 9223372036854775808 := by have : 2 ^ t ≤ 2 ^ 63 := Nat.pow_le_pow_right (by omega) ht; omega
    have hAi : (A : Int) ≤ 9223372036854775808 := by omega
    have hAi0 : (0 : Int) ≤ A := by omega
    clear hA
    by_cases lt : t < 63
    · by_cases ac : A < c
      · clear hA63
        go_wp2_with fail
        go_round
        case rel => exact ⟨t + 1, by omega, by go_num, .inr (by rw [Nat.add_sub_cancel, ← HA.out]; exact ac)⟩
        case measure => simp [intOf] <;> omega
      · have hwc := wid_char H1.out HB.out (by rw [← HA.out]; omega)
        have HW := Lib.hid hwc
        have hACi : (c : Int) ≤ (A : Int) := by omega
        clear hwc hA63 ac
        have HE : Hid (IntKind.u64.wrap ((A : Int) - (c : Int)) = ((A - c : Nat) : Int)) := Lib.hid (u64_sub (by omega) (by omega))
        obtain ⟨m, hm⟩ : ∃ m, m = A - c := ⟨_, rfl⟩
        have e1 := HE.out
        rw [← hm] at e1
        have HM := Lib.hid (show m = 2 ^ wid c - c from by rw [HW.out, ← HA.out]; exact hm)
        clear hm HE
        by_cases t0 : t = 0
        · have c1 : c = 1 := by have := HW.out; rw [t0] at this; by_cases x : 2 ≤ c; have := wid_pos x; omega; have := H1.out; omega
          have HC1 := Lib.hid c1
          have tb : ((t : Int) == 0) = true := by rw [t0]; rfl
          clear c1 t0
          go_wp2_with fail
          go_ret2
          have c1 := HC1.out
          subst c1
          exact .inl ⟨0, by show mini 0 1 <+: _; rw [mini_one0]; exact List.nil_prefix, fun y hy _ => by omega, by omega, rfl, by show RQ _ _ _ _ _ (p + (mini 0 1).length); rw [mini_one0]; exact HR.out, Ch.refl F w⟩
        · have h2 : 2 ≤ c := by
            have := HW.out
            rcases Nat.lt_or_ge c 2 with x | x
            · have y := H1.out; rw [show c = 1 from by omega, wid_one] at this; omega
            · exact x
          have H2 := Lib.hid h2
          obtain ⟨n, hn⟩ : ∃ n, t = n + 1 := ⟨t - 1, by omega⟩
          have HN := Lib.hid (show wid c = n + 1 from by rw [HW.out, hn])
          have tb : ((t : Int) == 0) = false := by rw [beq_eq_false_iff_ne]; omega
          have e2 : IntKind.i64.wrap ((t : Int) - 1) = (n : Int) := by rw [show (t : Int) - 1 = (n : Int) from by omega]; exact IntWalk.i64_in _ (by omega)
          have htp : (0 : Int) < t := by omega
          have HN64 := Lib.hid (show n ≤ 62 from by omega)
          clear hn t0 h2
          by_cases g : p + n ≤ 8 * s.size
          · have HT := Lib.hid (qtake_ok HR.out n (by have := HN64.out; omega) g)
            by_cases sh : fld s p n < m
            · have shi : ((fld s p n : Nat) : Int) < (m : Int) := by omega
              have HV : Hid (mini (fld s p n) c <+: rest s p ∧ (mini (fld s p n) c).length = n ∧ fld s p n < c) := Lib.hid (by
                have a := mini_short (k := c) (l := rest s p) (by rw [HN.out, Nat.add_sub_cancel, ← HN.out, ← HM.out, ← fld_rest0]; exact sh) (by rw [HN.out, rest_len]; omega)
                rw [HN.out, Nat.add_sub_cancel, ← fld_rest0] at a
                have b := mini_short_len (k := c) (v := fld s p n) (by rw [← HM.out]; exact sh)
                have d := mini_short_lt H1.out (v := fld s p n) (by rw [← HM.out]; exact sh)
                rw [HN.out, Nat.add_sub_cancel] at b
                exact ⟨a, b, d⟩)
              generalize fld s p n = x at HT HV shi
              clear sh g
              go_wp2_with (go_at_call 48; refine HT.out.mono ?_; rintro e w3 ⟨rfl, hq⟩; have HQ := Lib.hid hq; clear hq)
              go_ret2
              refine .inl ⟨x, HV.out.1, fun y hy hp => mini_free (by have := H1.out; omega) HV.out.2.2 hp HV.out.1, by have := HV.out.2.2; have := HC.out; omega, rfl, ?_, HQ.out.2⟩
              show RQ w3 Q F v s (p + (mini x c).length)
              rw [HV.out.2.1]
              exact HQ.out.1
            · have shi : (m : Int) ≤ ((fld s p n : Nat) : Int) := by omega
              have shn : m ≤ fld s p n := by omega
              by_cases g2 : p + n + 1 ≤ 8 * s.size
              · obtain ⟨y, hy, hfy⟩ := fld_one s (p + n) g2
                have hm1 := fld_more s p n g2
                have hf := fld_lt s p n
                have hlong := mini_long H2.out (l := rest s p) (by rw [HN.out, Nat.add_sub_cancel, ← HN.out, ← HM.out, ← fld_rest0]; exact shn) (by rw [HN.out, rest_len]; omega)
                rw [HN.out, ← fld_rest0, hm1, hfy, ← HN.out, ← HM.out] at hlong
                have hx : fld s p n < 4611686018427387904 := by have : 2 ^ n ≤ 2 ^ 62 := Nat.pow_le_pow_right (by omega) HN64.out; omega
                have HT1 : Hid (∀ W, RQ W Q F v s (p + n) → Calls Try.prog 58 #[.pointer (some ⟨Q, 0, none⟩)] W fun e w' => e = .returned (.tuple #[.bool y, .int .i64 0]) ∧ RQ w' Q F v s (p + n + 1) ∧ Ch F W w') := Lib.hid fun W hW => by
                  have := qbit_ok hW g2
                  rwa [hfy, show (y.toNat == 1) = y from by cases y <;> rfl] at this
                generalize fld s p n = x at HT hlong shi hx shn
                have HV : Hid (mini (2 * x + y.toNat - m) c <+: rest s p ∧ (mini (2 * x + y.toNat - m) c).length = n + 1 ∧ 2 * x + y.toNat - m < c) := Lib.hid (by
                  have a := mini_long_len (k := c) (v := 2 * x + y.toNat - m) (by rw [← HM.out]; exact hlong.1)
                  rw [HN.out] at a
                  exact ⟨hlong.2.2, a, hlong.2.1⟩)
                have hxi : (x : Int) < 4611686018427387904 := by omega
                have hxi0 : (0 : Int) ≤ x := by omega
                have e3 : IntKind.u64.wrap (2 * (x : Int)) = 2 * (x : Int) := by rw [PlainAid.u64_nonneg (by omega) (by omega)]
                have e4 : IntKind.u64.wrap (2 * (x : Int) + 1) = 2 * (x : Int) + 1 := by rw [PlainAid.u64_nonneg (by omega) (by omega)]
                have HE0 : Hid (IntKind.u64.wrap (2 * (x : Int) - (m : Int)) = ((2 * x - m : Nat) : Int)) := Lib.hid (by rw [PlainAid.u64_nonneg (by omega) (by omega)]; omega)
                have HE1 : Hid (IntKind.u64.wrap (2 * (x : Int) + 1 - (m : Int)) = ((2 * x + 1 - m : Nat) : Int)) := Lib.hid (by rw [PlainAid.u64_nonneg (by omega) (by omega)]; omega)
                clear hm1 hf hlong hx hxi hxi0 shn hy hfy g g2 sh
                cases y
                · go_wp2_with (first | (go_at_call 48; refine HT.out.mono ?_; rintro e w3 ⟨rfl, hq⟩; have HQ := Lib.hid hq; clear hq HT) | (go_at_call 58; refine (HT1.out _ HQ.out.1).mono ?_; rintro e w4 ⟨rfl, hq⟩; have HQ2 := Lib.hid hq; clear hq))
                  go_ret2
                  refine .inl ⟨2 * x + false.toNat - m, HV.out.1, fun y hy hp => mini_free (by have := H1.out; omega) HV.out.2.2 hp HV.out.1, by have := HV.out.2.2; have := HC.out; omega, by rw [show ((2 * x + false.toNat - m : Nat) : Int) = _ from HE0.out.symm]; rfl, ?_, HQ.out.2.trans HQ2.out.2 fun g h => .inl h⟩
                  show RQ w4 Q F v s (p + (mini (2 * x + false.toNat - m) c).length)
                  rw [show (mini (2 * x + false.toNat - m) c).length = n + 1 from HV.out.2.1, ← Nat.add_assoc]
                  exact HQ2.out.1
                · go_wp2_with (first | (go_at_call 48; refine HT.out.mono ?_; rintro e w3 ⟨rfl, hq⟩; have HQ := Lib.hid hq; clear hq HT) | (go_at_call 58; refine (HT1.out _ HQ.out.1).mono ?_; rintro e w4 ⟨rfl, hq⟩; have HQ2 := Lib.hid hq; clear hq))
                  go_ret2
                  refine .inl ⟨2 * x + true.toNat - m, HV.out.1, fun y hy hp => mini_free (by have := H1.out; omega) HV.out.2.2 hp HV.out.1, by have := HV.out.2.2; have := HC.out; omega, by rw [show ((2 * x + true.toNat - m : Nat) : Int) = _ from HE1.out.symm]; rfl, ?_, HQ.out.2.trans HQ2.out.2 fun g h => .inl h⟩
                  show RQ w4 Q F v s (p + (mini (2 * x + true.toNat - m) c).length)
                  rw [show (mini (2 * x + true.toNat - m) c).length = n + 1 from HV.out.2.1, ← Nat.add_assoc]
                  exact HQ2.out.1
              · have HNO : Hid (∀ y, y ≤ c - 1 → ¬ mini y c <+: rest s p) := Lib.hid fun y hy => mini_none2 H2.out (by rw [HN.out, Nat.add_sub_cancel, ← HN.out, ← HM.out, ← fld_rest0]; exact shn) (by rw [HN.out, rest_len]; omega) y (by have := H1.out; omega)
                have HT1 : Hid (∀ W, RQ W Q F v s (p + n) → Calls Try.prog 58 #[.pointer (some ⟨Q, 0, none⟩)] W fun e w' => e = .returned (.tuple #[.bool false, .int .i64 4]) ∧ ∃ q, w' = W.drewN q) := Lib.hid fun W hW => qbit_form hW (by omega)
                generalize fld s p n = x at HT shi
                clear g g2 sh shn
                go_wp2_with (first | (go_at_call 48; refine HT.out.mono ?_; rintro e w3 ⟨rfl, hq⟩; have HQ := Lib.hid hq; clear hq HT) | (go_at_call 58; refine (HT1.out _ HQ.out.1).mono ?_; rintro e w4 ⟨rfl, q2, rfl⟩))
                go_ret2
                exact .inr ⟨HNO.out, _, _, rfl, HQ.out.1.drewN q2, HQ.out.2.drewN q2⟩
          · have HNO : Hid (∀ y, y ≤ c - 1 → ¬ mini y c <+: rest s p) := Lib.hid fun y hy => mini_none1 (by rw [HN.out, rest_len]; have := HR.out.le; omega) y
            have HT := Lib.hid (qtake_form HR.out n (by have := HN64.out; omega) (by omega))
            clear g
            go_wp2_with (go_at_call 48; refine HT.out.mono ?_; rintro e w3 ⟨rfl, q, rfl⟩)
            go_ret2
            exact .inr ⟨HNO.out, _, _, rfl, HR.out.drewN q, (Ch.refl F w).drewN q⟩
    · have ht63 : t = 63 := by omega
      have hwc := wid_char H1.out HB.out (by have := HC.out; rw [ht63]; omega)
      have HW := Lib.hid hwc
      have hACi : (c : Int) ≤ (A : Int) := by have a := HC.out; have b := HA.out; rw [ht63] at b; omega
      have h63 : (63 : Int) ≤ (t : Int) := by omega
      clear hwc hA63 ht63 lt
      have HE : Hid (IntKind.u64.wrap ((A : Int) - (c : Int)) = ((A - c : Nat) : Int)) := Lib.hid (u64_sub (by omega) (by omega))
      obtain ⟨m, hm⟩ : ∃ m, m = A - c := ⟨_, rfl⟩
      have e1 := HE.out
      rw [← hm] at e1
      have HM := Lib.hid (show m = 2 ^ wid c - c from by rw [HW.out, ← HA.out]; exact hm)
      clear hm HE
      by_cases t0 : t = 0
      · have c1 : c = 1 := by have := HW.out; rw [t0] at this; by_cases x : 2 ≤ c; have := wid_pos x; omega; have := H1.out; omega
        have HC1 := Lib.hid c1
        have tb : ((t : Int) == 0) = true := by rw [t0]; rfl
        clear c1 t0
        go_wp2_with fail
        go_ret2
        have c1 := HC1.out
        subst c1
        exact .inl ⟨0, by show mini 0 1 <+: _; rw [mini_one0]; exact List.nil_prefix, fun y hy _ => by omega, by omega, rfl, by show RQ _ _ _ _ _ (p + (mini 0 1).length); rw [mini_one0]; exact HR.out, Ch.refl F w⟩
      · have h2 : 2 ≤ c := by
          have := HW.out
          rcases Nat.lt_or_ge c 2 with x | x
          · have y := H1.out; rw [show c = 1 from by omega, wid_one] at this; omega
          · exact x
        have H2 := Lib.hid h2
        obtain ⟨n, hn⟩ : ∃ n, t = n + 1 := ⟨t - 1, by omega⟩
        have HN := Lib.hid (show wid c = n + 1 from by rw [HW.out, hn])
        have tb : ((t : Int) == 0) = false := by rw [beq_eq_false_iff_ne]; omega
        have e2 : IntKind.i64.wrap ((t : Int) - 1) = (n : Int) := by rw [show (t : Int) - 1 = (n : Int) from by omega]; exact IntWalk.i64_in _ (by omega)
        have htp : (0 : Int) < t := by omega
        have HN64 := Lib.hid (show n ≤ 62 from by omega)
        clear hn t0 h2
        by_cases g : p + n ≤ 8 * s.size
        · have HT := Lib.hid (qtake_ok HR.out n (by have := HN64.out; omega) g)
          by_cases sh : fld s p n < m
          · have shi : ((fld s p n : Nat) : Int) < (m : Int) := by omega
            have HV : Hid (mini (fld s p n) c <+: rest s p ∧ (mini (fld s p n) c).length = n ∧ fld s p n < c) := Lib.hid (by
              have a := mini_short (k := c) (l := rest s p) (by rw [HN.out, Nat.add_sub_cancel, ← HN.out, ← HM.out, ← fld_rest0]; exact sh) (by rw [HN.out, rest_len]; omega)
              rw [HN.out, Nat.add_sub_cancel, ← fld_rest0] at a
              have b := mini_short_len (k := c) (v := fld s p n) (by rw [← HM.out]; exact sh)
              have d := mini_short_lt H1.out (v := fld s p n) (by rw [← HM.out]; exact sh)
              rw [HN.out, Nat.add_sub_cancel] at b
              exact ⟨a, b, d⟩)
            generalize fld s p n = x at HT HV shi
            clear sh g
            go_wp2_with (go_at_call 48; refine HT.out.mono ?_; rintro e w3 ⟨rfl, hq⟩; have HQ := Lib.hid hq; clear hq)
            go_ret2
            refine .inl ⟨x, HV.out.1, fun y hy hp => mini_free (by have := H1.out; omega) HV.out.2.2 hp HV.out.1, by have := HV.out.2.2; have := HC.out; omega, rfl, ?_, HQ.out.2⟩
            show RQ w3 Q F v s (p + (mini x c).length)
            rw [HV.out.2.1]
            exact HQ.out.1
          · have shi : (m : Int) ≤ ((fld s p n : Nat) : Int) := by omega
            have shn : m ≤ fld s p n := by omega
            by_cases g2 : p + n + 1 ≤ 8 * s.size
            · obtain ⟨y, hy, hfy⟩ := fld_one s (p + n) g2
              have hm1 := fld_more s p n g2
              have hf := fld_lt s p n
              have hlong := mini_long H2.out (l := rest s p) (by rw [HN.out, Nat.add_sub_cancel, ← HN.out, ← HM.out, ← fld_rest0]; exact shn) (by rw [HN.out, rest_len]; omega)
              rw [HN.out, ← fld_rest0, hm1, hfy, ← HN.out, ← HM.out] at hlong
              have hx : fld s p n < 4611686018427387904 := by have : 2 ^ n ≤ 2 ^ 62 := Nat.pow_le_pow_right (by omega) HN64.out; omega
              have HT1 : Hid (∀ W, RQ W Q F v s (p + n) → Calls Try.prog 58 #[.pointer (some ⟨Q, 0, none⟩)] W fun e w' => e = .returned (.tuple #[.bool y, .int .i64 0]) ∧ RQ w' Q F v s (p + n + 1) ∧ Ch F W w') := Lib.hid fun W hW => by
                have := qbit_ok hW g2
                rwa [hfy, show (y.toNat == 1) = y from by cases y <;> rfl] at this
              generalize fld s p n = x at HT hlong shi hx shn
              have HV : Hid (mini (2 * x + y.toNat - m) c <+: rest s p ∧ (mini (2 * x + y.toNat - m) c).length = n + 1 ∧ 2 * x + y.toNat - m < c) := Lib.hid (by
                have a := mini_long_len (k := c) (v := 2 * x + y.toNat - m) (by rw [← HM.out]; exact hlong.1)
                rw [HN.out] at a
                exact ⟨hlong.2.2, a, hlong.2.1⟩)
              have hxi : (x : Int) < 4611686018427387904 := by omega
              have hxi0 : (0 : Int) ≤ x := by omega
              have e3 : IntKind.u64.wrap (2 * (x : Int)) = 2 * (x : Int) := by rw [PlainAid.u64_nonneg (by omega) (by omega)]
              have e4 : IntKind.u64.wrap (2 * (x : Int) + 1) = 2 * (x : Int) + 1 := by rw [PlainAid.u64_nonneg (by omega) (by omega)]
              have HE0 : Hid (IntKind.u64.wrap (2 * (x : Int) - (m : Int)) = ((2 * x - m : Nat) : Int)) := Lib.hid (by rw [PlainAid.u64_nonneg (by omega) (by omega)]; omega)
              have HE1 : Hid (IntKind.u64.wrap (2 * (x : Int) + 1 - (m : Int)) = ((2 * x + 1 - m : Nat) : Int)) := Lib.hid (by rw [PlainAid.u64_nonneg (by omega) (by omega)]; omega)
              clear hm1 hf hlong hx hxi hxi0 shn hy hfy g g2 sh
              cases y
              · go_wp2_with (first | (go_at_call 48; refine HT.out.mono ?_; rintro e w3 ⟨rfl, hq⟩; have HQ := Lib.hid hq; clear hq HT) | (go_at_call 58; refine (HT1.out _ HQ.out.1).mono ?_; rintro e w4 ⟨rfl, hq⟩; have HQ2 := Lib.hid hq; clear hq))
                go_ret2
                refine .inl ⟨2 * x + false.toNat - m, HV.out.1, fun y hy hp => mini_free (by have := H1.out; omega) HV.out.2.2 hp HV.out.1, by have := HV.out.2.2; have := HC.out; omega, by rw [show ((2 * x + false.toNat - m : Nat) : Int) = _ from HE0.out.symm]; rfl, ?_, HQ.out.2.trans HQ2.out.2 fun g h => .inl h⟩
                show RQ w4 Q F v s (p + (mini (2 * x + false.toNat - m) c).length)
                rw [show (mini (2 * x + false.toNat - m) c).length = n + 1 from HV.out.2.1, ← Nat.add_assoc]
                exact HQ2.out.1
              · go_wp2_with (first | (go_at_call 48; refine HT.out.mono ?_; rintro e w3 ⟨rfl, hq⟩; have HQ := Lib.hid hq; clear hq HT) | (go_at_call 58; refine (HT1.out _ HQ.out.1).mono ?_; rintro e w4 ⟨rfl, hq⟩; have HQ2 := Lib.hid hq; clear hq))
                go_ret2
                refine .inl ⟨2 * x + true.toNat - m, HV.out.1, fun y hy hp => mini_free (by have := H1.out; omega) HV.out.2.2 hp HV.out.1, by have := HV.out.2.2; have := HC.out; omega, by rw [show ((2 * x + true.toNat - m : Nat) : Int) = _ from HE1.out.symm]; rfl, ?_, HQ.out.2.trans HQ2.out.2 fun g h => .inl h⟩
                show RQ w4 Q F v s (p + (mini (2 * x + true.toNat - m) c).length)
                rw [show (mini (2 * x + true.toNat - m) c).length = n + 1 from HV.out.2.1, ← Nat.add_assoc]
                exact HQ2.out.1
            · have HNO : Hid (∀ y, y ≤ c - 1 → ¬ mini y c <+: rest s p) := Lib.hid fun y hy => mini_none2 H2.out (by rw [HN.out, Nat.add_sub_cancel, ← HN.out, ← HM.out, ← fld_rest0]; exact shn) (by rw [HN.out, rest_len]; omega) y (by have := H1.out; omega)
              have HT1 : Hid (∀ W, RQ W Q F v s (p + n) → Calls Try.prog 58 #[.pointer (some ⟨Q, 0, none⟩)] W fun e w' => e = .returned (.tuple #[.bool false, .int .i64 4]) ∧ ∃ q, w' = W.drewN q) := Lib.hid fun W hW => qbit_form hW (by omega)
              generalize fld s p n = x at HT shi
              clear g g2 sh shn
              go_wp2_with (first | (go_at_call 48; refine HT.out.mono ?_; rintro e w3 ⟨rfl, hq⟩; have HQ := Lib.hid hq; clear hq HT) | (go_at_call 58; refine (HT1.out _ HQ.out.1).mono ?_; rintro e w4 ⟨rfl, q2, rfl⟩))
              go_ret2
              exact .inr ⟨HNO.out, _, _, rfl, HQ.out.1.drewN q2, HQ.out.2.drewN q2⟩
        · have HNO : Hid (∀ y, y ≤ c - 1 → ¬ mini y c <+: rest s p) := Lib.hid fun y hy => mini_none1 (by rw [HN.out, rest_len]; have := HR.out.le; omega) y
          have HT := Lib.hid (qtake_form HR.out n (by have := HN64.out; omega) (by omega))
          clear g
          go_wp2_with (go_at_call 48; refine HT.out.mono ?_; rintro e w3 ⟨rfl, q, rfl⟩)
          go_ret2
          exact .inr ⟨HNO.out, _, _, rfl, HR.out.drewN q, (Ch.refl F w).drewN q⟩
end
end Go.Proofs.Ytgcediipkojdbaa.bits
