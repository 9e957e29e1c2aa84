/-
  Layer 4: DeviceTwins over the contracts. (gen_twins.py)
-/
import Derived.Test.YtlhhkoaacjakcaaDevY
namespace Go.Proofs.Ytlhhkoaacjakcaa.dev
open Go.ChangeShapes Go.WideShapes Go.ChangeAt Go.RowKit mem
set_option linter.unusedVariables false

section
variable {w wr : World}
theorem quiet_st {f : FuncId} {args : Array Value} {W : World} {v : Value} {L : List Ast} (h : St w W L) (c : Calls Try.prog f args W fun e w' => e = .returned v ∧ ∃ q, w' = W.drewN q) : Calls Try.prog f args W fun e w' => e = .returned v ∧ St w w' L :=
  c.mono fun e w' ⟨he, q, hw⟩ => ⟨he, by rw [hw]; exact h.drewN q⟩
end
section
variable {w wr : World} {As : List Ast} {dev : Nat → DevM → Ast}
set_option maxHeartbeats 4000000 in
set_option maxRecDepth 8000 in
theorem twins_any (ok : DevOk dev) (h : St w wr As) (v1 v2 : Value) (l more : List OpM) (other : OpM) (okv : Value) (h1 : OpsIn w v1 l) (h2 : OpsIn w v2 more) (h3 : IntsIn w okv other.ks) (C1 : OpsOk l) (C2 : OpsOk more) (C3 : other.Ok) :
    Calls Try.prog 7 #[v1, v2, .agg (opCells other okv).toArray] wr fun e w' => e = .returned (.bool true) ∧ St w w' [] := by
  have H1 := Lib.hid h1
  have H2 := Lib.hid h2
  have H3 := Lib.hid h3
  have HC1 := Lib.hid C1
  have HC2 := Lib.hid C2
  have HC3 := Lib.hid C3
  obtain ⟨ao, cap, rfl, hc⟩ := h1
  obtain ⟨ao2, cap2, rfl, hc2⟩ := h2
  obtain ⟨ao3, cap3, rfl, hc3⟩ := h3
  have hbox := st_new (St.nil h.ch) (opCells other (.slice ao3 other.ks.length cap3)) 42
  have HNEW := Lib.hid (ok.new_ok hbox 16 2 (by decide))
  have HAW : Hid (∀ X W, St w W (dev X (DevM.new 16 2) :: aVar wr.heap.size (opCells other (.slice ao3 other.ks.length cap3)) 42 :: []) → Calls Try.prog 33 #[] W fun e w' => e = .returned (.bool true) ∧ St w w' (dev X (DevM.new 16 2) :: aVar wr.heap.size (opCells other (.slice ao3 other.ks.length cap3)) 42 :: [])) := Lib.hid fun X W h => awake_any ok h
  have n60 : (l.length : Int) ≤ 17592186043904 := by have := C1.len; omega
  have n61 : (more.length : Int) ≤ 17592186043904 := by have := C2.len; omega
  obtain ⟨D0, hD0⟩ : ∃ D0, D0 = DevM.new 16 2 := ⟨_, rfl⟩
  have HD0 : Hid (D0.nb = 16 ∧ D0.ns = 2 ∧ D0.Room 1000) := Lib.hid (by subst hD0; exact ⟨rfl, rfl, (by decide : 0 + 1000 ≤ 4611686018427387904), (by decide : 0 + 1000 ≤ 4611686018427387904), (by decide : 0 + 1000 ≤ 1073741824)⟩)
  rw [← hD0] at HNEW HAW
  clear hc hc2 hc3 h hbox hD0 C1 C2 C3
  unfold opCells at HNEW HAW ⊢
  go_enter Try.func7, Try.ntmps7
  go_upto_block 0 with (first
    | ((go_at_call 8; refine HNEW.out.mono ?_; rintro e w1 ⟨X, rfl, hst⟩; have HS1 := Lib.hid hst; clear hst))
    | ((go_at_call 33; refine (HAW.out _ _ HS1.out).mono ?_; rintro e w2 ⟨rfl, hst⟩; have HS := Lib.hid hst; clear hst)))
  generalize wr.heap.size = P at HS ⊢
  clear HNEW HAW HS1
  go_cut [9] (fun u wc => St w wc (dev X (D0.all l (min 60 l.length)) :: aVar P (opCells other (.slice ao3 other.ks.length cap3)) 42 :: []))
  case first =>
    go_wp2_with fail
    go_loopw [9] (fun i W => ∃ k : Nat, k ≤ min 60 l.length ∧ i = .int .i64 ↑k ∧ St w W (dev X (D0.all l k) :: aVar P (opCells other (.slice ao3 other.ks.length cap3)) 42 :: [])) (fun i _ => 60 - (intOf i).toNat)
    case atStart => exact ⟨0, Nat.zero_le _, rfl, by rw [all_zero]; exact HS.out⟩
    case round =>
      obtain ⟨k, hk, rfl, hst⟩ := hrel
      have HST := Lib.hid hst
      by_cases hlt : k < min 60 l.length
      · have q0 : k < l.length := by omega
        have q1 : k < 60 := by omega
        have q2 : (k : Int) < l.length := by omega
        have q3 : (k : Int) < 60 := by omega
        have HRM := Lib.hid (all_room D0 l k 1 (room_less HD0.out.2.2 (by omega)))
        have HGE := Lib.hid (all_geo D0 l k)
        obtain ⟨a1, c1, ee, hc⟩ := H1.out
        cases ee
        obtain ⟨b, o, kv, rfl, hki, hcell⟩ := hc k q0
        have HX := Lib.hid (HC1.out.op _ (List.getElem_mem q0))
        have HMORE := Lib.hid (all_more D0 l k q0)
        generalize l[k] = x at hki hcell HX HMORE
        obtain ⟨ko, kc, rfl⟩ : ∃ ko kc, kv = .slice ko x.ks.length kc := by obtain ⟨a, c, e, _⟩ := hki; exact ⟨a, c, e⟩
        have HKI := Lib.hid hki
        have HCELL := Lib.hid hcell
        have e0 := hst.ch.cell (hcell 0 (Value.int .i64 x.kind) rfl)
        have e1 := hst.ch.cell (hcell 1 (Value.int .i64 x.who) rfl)
        have e2 := hst.ch.cell (hcell 2 (Value.int .i64 x.n) rfl)
        have e3 := hst.ch.cell (hcell 3 (Value.int .i64 x.at') rfl)
        have e4 := hst.ch.cell (hcell 4 (Value.string x.data) rfl)
        have e5 := hst.ch.cell (hcell 5 (Value.slice ko x.ks.length kc) rfl)
        have e6 := hst.ch.cell (hcell 6 (Value.int .i64 x.torn) rfl)
        have e7 := hst.ch.cell (hcell 7 (Value.int .u8 (x.mask : Int)) rfl)
        rw [Nat.add_zero] at e0
        clear hki hcell hc
        clear hst
        go_wp2_with ((go_at_call 36; refine (run_any ok HST.out x (.slice ko x.ks.length kc) HKI.out HX.out HRM.out (by rw [HGE.out.2, HD0.out.2.1]; decide) (by rw [HGE.out.2, HD0.out.2.1]; decide)).mono ?_; rintro e w3 ⟨rfl, hst3⟩; have HS3 := Lib.hid hst3; clear hst3))
        go_roundw
        case rel => exact ⟨k + 1, by omega, by go_num, by rw [HMORE.out]; exact HS3.out⟩
        case measure => simp [intOf] <;> omega
      · obtain rfl : k = min 60 l.length := by omega
        clear hst hk
        by_cases q : l.length ≤ 60
        · have HSM := HST
          rw [Nat.min_eq_right q] at hlt ⊢
          have q2 : ¬ l.length < l.length := Nat.lt_irrefl _
          go_wp2_with fail
          go_meet
          exact HSM.out
        · have HSM := HST
          rw [Nat.min_eq_left (by omega)] at hlt ⊢
          have q2 : (60 : Int) < l.length := by omega
          go_wp2_with fail
          go_meet
          exact HSM.out
  case rest =>
    have HS2 := Lib.hid hcut
    clear hcut HS
    have HE0 : Hid ((D0.all l (min 60 l.length)).ns = 2 ∧ (D0.all l (min 60 l.length)).Room 900) := Lib.hid ⟨(all_geo D0 l _).2.trans HD0.out.2.1, all_room D0 l _ 900 (room_less HD0.out.2.2 (by omega))⟩
    have HEN : Hid ((D0.all l (min 60 l.length)).nb = 16) := Lib.hid ((all_geo D0 l _).1.trans HD0.out.1)
    generalize D0.all l (min 60 l.length) = E0 at HS2 HE0 HEN
    have HTW := Lib.hid (ok.twin HS2.out (room_less HE0.out.2 (by omega)))
    go_upto_block 2 with ((go_at_call 12; refine HTW.out.mono ?_; rintro e w4 ⟨Y, rfl, hst⟩; have HS4 := Lib.hid hst.swap; clear hst))
    clear HTW HS2
    go_cut [11] (fun u wc => St w wc (dev X (E0.all more (min 60 more.length)) :: dev Y (E0.all more (min 60 more.length)) :: aVar P (opCells other (.slice ao3 other.ks.length cap3)) 42 :: []))
    case first =>
      go_wp2_with fail
      go_loopw [11] (fun i W => ∃ k : Nat, k ≤ min 60 more.length ∧ i = .int .i64 ↑k ∧ St w W (dev X (E0.all more k) :: dev Y (E0.all more k) :: aVar P (opCells other (.slice ao3 other.ks.length cap3)) 42 :: [])) (fun i _ => 60 - (intOf i).toNat)
      case atStart => exact ⟨0, Nat.zero_le _, rfl, by rw [all_zero]; exact HS4.out⟩
      case round =>
        obtain ⟨k, hk, rfl, hst⟩ := hrel
        have HA := Lib.hid hst
        by_cases hlt : k < min 60 more.length
        · have q0 : k < more.length := by omega
          have q1 : k < 60 := by omega
          have q2 : (k : Int) < more.length := by omega
          have q3 : (k : Int) < 60 := by omega
          have HRM := Lib.hid (all_room E0 more k 1 (room_less HE0.out.2 (by omega)))
          have HRN := Lib.hid (all_room E0 more (k + 1) 0 (room_less HE0.out.2 (by omega)))
          have HGE := Lib.hid (all_geo E0 more k)
          obtain ⟨a1, c1, ee, hc⟩ := H2.out
          cases ee
          obtain ⟨b, o, kv, rfl, hki, hcell⟩ := hc k q0
          have HX := Lib.hid (HC2.out.op _ (List.getElem_mem q0))
          have HMORE := Lib.hid (all_more E0 more k q0)
          generalize more[k] = x at hki hcell HX HMORE
          obtain ⟨ko, kc, rfl⟩ : ∃ ko kc, kv = .slice ko x.ks.length kc := by obtain ⟨a, c, e, _⟩ := hki; exact ⟨a, c, e⟩
          have HKI := Lib.hid hki
          have HCELL := Lib.hid hcell
          have e0 := hst.ch.cell (hcell 0 (Value.int .i64 x.kind) rfl)
          have e1 := hst.ch.cell (hcell 1 (Value.int .i64 x.who) rfl)
          have e2 := hst.ch.cell (hcell 2 (Value.int .i64 x.n) rfl)
          have e3 := hst.ch.cell (hcell 3 (Value.int .i64 x.at') rfl)
          have e4 := hst.ch.cell (hcell 4 (Value.string x.data) rfl)
          have e5 := hst.ch.cell (hcell 5 (Value.slice ko x.ks.length kc) rfl)
          have e6 := hst.ch.cell (hcell 6 (Value.int .i64 x.torn) rfl)
          have e7 := hst.ch.cell (hcell 7 (Value.int .u8 (x.mask : Int)) rfl)
          rw [Nat.add_zero] at e0
          clear hki hcell hc
          rw [HMORE.out] at HRN
          generalize E0.all more k = E at HA HRM HRN HGE HMORE
          clear hst
          go_wp2_with (first
            | ((go_at_call 36; refine (run_any ok HA.out x (.slice ko x.ks.length kc) HKI.out HX.out HRM.out (by rw [HGE.out.2, HE0.out.1]; decide) (by rw [HGE.out.2, HE0.out.1]; decide)).mono ?_; rintro e w3 ⟨rfl, hst3⟩; have f0 := hst3.ch.cell (HCELL.out 0 (Value.int .i64 x.kind) rfl); have f1 := hst3.ch.cell (HCELL.out 1 (Value.int .i64 x.who) rfl); have f2 := hst3.ch.cell (HCELL.out 2 (Value.int .i64 x.n) rfl); have f3 := hst3.ch.cell (HCELL.out 3 (Value.int .i64 x.at') rfl); have f4 := hst3.ch.cell (HCELL.out 4 (Value.string x.data) rfl); have f5 := hst3.ch.cell (HCELL.out 5 (Value.slice ko x.ks.length kc) rfl); have f6 := hst3.ch.cell (HCELL.out 6 (Value.int .i64 x.torn) rfl); have f7 := hst3.ch.cell (HCELL.out 7 (Value.int .u8 (x.mask : Int)) rfl); rw [Nat.add_zero] at f0; have HB := Lib.hid hst3.swap; clear hst3 HA))
            | ((go_at_call 36; refine (run_any ok HB.out x (.slice ko x.ks.length kc) HKI.out HX.out HRM.out (by rw [HGE.out.2, HE0.out.1]; decide) (by rw [HGE.out.2, HE0.out.1]; decide)).mono ?_; rintro e w3 ⟨rfl, hst3⟩; have HA := Lib.hid hst3.swap; clear hst3 HB))
            | ((go_at_call 24; with_reducible refine (quiet_st HA.out (ok.down HA.out)).mono ?_; rintro e w5 ⟨rfl, hst5⟩; have HA := Lib.hid hst5; clear hst5))
            | ((go_at_call 24; with_reducible refine (quiet_st HA.out (ok.down HA.out.swap)).mono ?_; rintro e w5 ⟨rfl, hst5⟩; have HA := Lib.hid hst5; clear hst5))
            | ((go_at_call 27; with_reducible refine (quiet_st HA.out (ok.calls HA.out HRN.out)).mono ?_; rintro e w5 ⟨rfl, hst5⟩; have HA := Lib.hid hst5; clear hst5))
            | ((go_at_call 27; with_reducible refine (quiet_st HA.out (ok.calls HA.out.swap HRN.out)).mono ?_; rintro e w5 ⟨rfl, hst5⟩; have HA := Lib.hid hst5; clear hst5))
            | ((go_at_call 29; with_reducible refine (quiet_st HA.out (ok.unflushed HA.out HRN.out)).mono ?_; rintro e w5 ⟨rfl, hst5⟩; have HA := Lib.hid hst5; clear hst5))
            | ((go_at_call 29; with_reducible refine (quiet_st HA.out (ok.unflushed HA.out.swap HRN.out)).mono ?_; rintro e w5 ⟨rfl, hst5⟩; have HA := Lib.hid hst5; clear hst5)))
          go_roundw
          case rel => exact ⟨k + 1, by omega, by go_num, by rw [HMORE.out]; exact HA.out⟩
          case measure => simp [intOf] <;> omega
        · obtain rfl : k = min 60 more.length := by omega
          clear hst hk
          by_cases q : more.length ≤ 60
          · have HSM := HA
            rw [Nat.min_eq_right q] at hlt ⊢
            have q2 : ¬ more.length < more.length := Nat.lt_irrefl _
            go_wp2_with fail
            go_meet
            exact HSM.out
          · have HSM := HA
            rw [Nat.min_eq_left (by omega)] at hlt ⊢
            have q2 : (60 : Int) < more.length := by omega
            go_wp2_with fail
            go_meet
            exact HSM.out
    case rest =>
      have HS5 := Lib.hid hcut
      have HF0 : Hid ((E0.all more (min 60 more.length)).ns = 2 ∧ (E0.all more (min 60 more.length)).Room 800) := Lib.hid ⟨(all_geo E0 more _).2.trans HE0.out.1, all_room E0 more _ 800 (room_less HE0.out.2 (by omega))⟩
      have HNB : Hid ((E0.all more (min 60 more.length)).nb = 16) := Lib.hid ((all_geo E0 more _).1.trans HEN.out)
      generalize E0.all more (min 60 more.length) = F at HS5 HF0 HNB
      clear hcut HS4
      have HRM := Lib.hid (room_less HF0.out.2 (show 0 ≤ 800 by omega))
      have HRM1 := Lib.hid (room_less HF0.out.2 (show 700 + 1 ≤ 800 by omega))
      obtain ⟨G1, hG1⟩ : ∃ G1, G1 = F.does other := ⟨_, rfl⟩
      have HG1 : Hid (G1.Room 700) := Lib.hid (by rw [hG1]; exact does_room HRM1.out other)
      obtain ⟨G2, hG2⟩ : ∃ G2, G2 = G1.restart.1 := ⟨_, rfl⟩
      have HG2 : Hid (G2.Room 699) := Lib.hid (by rw [hG2]; exact restart_room HG1.out)
      obtain ⟨G3, hG3⟩ : ∃ G3, G3 = (G2.corrupt 0 0 ⟨#[115, 101, 101, 110, 63]⟩).1 := ⟨_, rfl⟩
      have HG3 : Hid (G3.Room 698) := Lib.hid (by rw [hG3]; exact corrupt_room HG2.out 0 0 _)
      obtain ⟨G4, hG4⟩ : ∃ G4, G4 = (G3.write 1 (fillM ⟨#[115, 101, 101, 110, 63]⟩ 1024)).1 := ⟨_, rfl⟩
      have HG4 : Hid (G4.Room 697) := Lib.hid (by rw [hG4]; exact write_room HG3.out 1 _)
      have HE1 := Lib.hid hG1
      have HE2 := Lib.hid hG2
      have HE3 := Lib.hid hG3
      have HE4 := Lib.hid hG4
      have HLEN : Hid (F.image.length ≤ 1073741824) := Lib.hid (by rw [image_len]; have := HNB.out; omega)
      have HFS : Hid ((fillM ⟨#[115, 101, 101, 110, 63]⟩ 1024).size ≤ 9223372036854775807) := Lib.hid (by rw [fillM_size]; decide)
      have HFL := Lib.hid (fun W => rfill_any ⟨#[115, 101, 101, 110, 63]⟩ 1024 (by decide) (by decide) (by decide) W)
      clear hG1 hG2 hG3 hG4
      go_wp2_with (first
        | ((go_at_call 30; with_reducible refine (ok.image HS5.out HRM.out).mono ?_; rintro e w6 ⟨v6, rfl, hst⟩; obtain ⟨ao6, cap6, rfl⟩ := st_shape hst; have HI1 := Lib.hid hst; clear hst HS5))
        | ((go_at_call 30; with_reducible refine (ok.image HI1.out.third HRM.out).mono ?_; rintro e w6 ⟨v6, rfl, hst⟩; obtain ⟨ao7, cap7, rfl⟩ := st_shape hst; have HI2 := Lib.hid hst; clear hst HI1))
        | ((go_at_call 35; refine (rsame_eq _ _ F.image _ (strs_in HI2.out.third) (strs_in HI2.out) HLEN.out).mono ?_; rintro e w7 ⟨rfl, q7, rfl⟩; have hst := (HI2.out.drop).drewN q7; have HI3 := Lib.hid hst; have o0 : _ = some (Value.int .i64 other.kind) := st_cell HI3.out.fourth 0; have o1 : _ = some (Value.int .i64 other.who) := st_cell HI3.out.fourth 1; have o2 : _ = some (Value.int .i64 other.n) := st_cell HI3.out.fourth 2; have o3 : _ = some (Value.int .i64 other.at') := st_cell HI3.out.fourth 3; have o4 : _ = some (Value.string other.data) := st_cell HI3.out.fourth 4; have o5 : _ = some (Value.slice ao3 other.ks.length cap3) := st_cell HI3.out.fourth 5; have o6 : _ = some (Value.int .i64 other.torn) := st_cell HI3.out.fourth 6; have o7 : _ = some (Value.int .u8 (other.mask : Int)) := st_cell HI3.out.fourth 7; clear hst HI2))
        | ((go_at_call 36; refine (run_any ok HI3.out other (.slice ao3 other.ks.length cap3) H3.out HC3.out (room_less HF0.out.2 (by omega)) (by rw [HF0.out.1]; decide) (by rw [HF0.out.1]; decide)).mono ?_; rintro e w8 ⟨rfl, hst⟩; rw [← HE1.out] at hst; have HI4 := Lib.hid hst; clear hst HI3))
        | ((go_at_call 25; refine (ok.restart HI4.out).mono ?_; rintro e w9 ⟨rfl, hst⟩; rw [← HE2.out] at hst; have HI5 := Lib.hid hst; clear hst HI4))
        | ((go_at_call 26; refine (ok.corrupt HI5.out 0 0 ⟨#[115, 101, 101, 110, 63]⟩ (i64_of 0 (by decide) (by decide)) (i64_of 0 (by decide) (by decide)) (by decide) (room_less HG2.out (by omega))).mono ?_; rintro e w10 ⟨rfl, hst⟩; rw [← HE3.out] at hst; have HI6 := Lib.hid hst; clear hst HI5))
        | ((go_at_call 31; refine (HFL.out _).mono ?_; rintro e w11 ⟨rfl, rfl⟩))
        | ((go_at_call 20; refine (ok.write HI6.out 1 _ (i64_of 1 (by decide) (by decide)) HFS.out (room_less HG3.out (by omega))).mono ?_; rintro e w12 ⟨rfl, hst⟩; rw [← HE4.out] at hst; have HI7 := Lib.hid hst; clear hst HI6))
        | ((go_at_call 21; refine (ok.flush HI7.out (room_less HG4.out (by omega))).mono ?_; rintro e w13 ⟨rfl, hst⟩; have HI8 := Lib.hid hst; clear hst HI7))
        | ((go_at_call 30; refine (ok.image HI8.out.third HRM.out).mono ?_; rintro e w14 ⟨v9, rfl, hst⟩; obtain ⟨ao9, cap9, rfl⟩ := st_shape hst; have HI9 := Lib.hid hst; clear hst HI8))
        | ((go_at_call 35; refine (rsame_eq _ _ F.image _ (strs_in HI9.out.fourth) (strs_in HI9.out) HLEN.out).mono ?_; rintro e w15 ⟨rfl, q9, rfl⟩)))
      go_ret
      exact ⟨rfl, St.nil (HI9.out.ch.drewN _)⟩
end
end Go.Proofs.Ytlhhkoaacjakcaa.dev
