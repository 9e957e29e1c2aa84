/-
  Layer 4: DevicePlays over the contracts.
-/
import Derived.Test.YtkebilddoanhgaaDevPr
import Derived.Test.YtkebilddoanhgaaDevC
import Derived.Deep.Cut
import Derived.Deep.CutRange
import Derived.Deep.CutBlock
import Derived.Deep.DeepCutAuto
namespace Go.Proofs.Ytkebilddoanhgaa.dev
open Go.ChangeShapes Go.WideShapes Go.ChangeAt Go.RowKit mem
set_option linter.unusedVariables false

section
variable {w wr : World} {As : List Ast} {dev : Nat → DevM → Ast}
abbrev two' (dev : Nat → DevM → Ast) (o : Nat → Pl) (PD PM : Nat) (As : List Ast) : List Ast := two dev o PD PM 26 28 As
abbrev aGeo (B : Nat) (x : Int × Int) : Ast := aVar B [.int .i64 x.1, .int .i64 x.2] 23
theorem st_sixthP {A B C D E F : Ast} (h : St w wr (A :: B :: C :: D :: E :: F :: As)) : St w wr (F :: A :: B :: C :: D :: E :: As) := by
  obtain ⟨U, h1, h2⟩ := h
  exact ⟨U, (h1.tail fun V k => (k.tail fun V k => (k.tail fun V k => (k.tail fun V k => k.swap).swap).swap).swap).swap, h2⟩
set_option maxHeartbeats 4000000 in
set_option maxRecDepth 8000 in
theorem plays_any (ok : DevOk dev) (h : St w wr As) (g0 g1 : Int × Int) (G : InI64 g0.1 ∧ InI64 g0.2 ∧ InI64 g1.1 ∧ InI64 g1.2) (v : Value) (l : List OpM) (hl : OpsIn w v l) (C : OpsOk l) :
    Calls Try.prog 3 #[.agg #[.int .i64 g0.1, .int .i64 g0.2], .agg #[.int .i64 g1.1, .int .i64 g1.2], v] wr fun e w' => e = .returned (.bool true) ∧ St w w' [] := by
  have HL := Lib.hid hl
  have HC := Lib.hid C
  have HG := Lib.hid G
  obtain ⟨lo, lc, rfl, hc⟩ := hl
  have hb0 := st_new (St.nil h.ch) [.int .i64 g0.1, .int .i64 g0.2] 23
  have hb1 := st_new hb0 [.int .i64 g1.1, .int .i64 g1.2] 23
  have hb2 := st_new hb1 [.pointer none, .pointer none] 26
  have hb3 := st_new hb2 [.pointer none, .pointer none] 28
  clear hc h C G hb0 hb1 hb2
  simp only [World.size_alloc] at hb3
  have HB := Lib.hid hb3
  clear hb3
  go_enter Try.func3, Try.ntmps3
  go_upto_block 0 with fail
  generalize wr.heap.size + 1 + 1 + 1 = PM at HB ⊢
  generalize wr.heap.size + 1 + 1 = PD at HB ⊢
  generalize wr.heap.size + 1 = B1 at HB ⊢
  generalize wr.heap.size = B0 at HB ⊢
  have HA : Hid (St w _ (two' dev (fun _ => none) PD PM [aGeo B1 g1, aGeo B0 g0])) := Lib.hid (St.swap (St.fourth (St.third (St.gather (As := []) (St.gather (As := []) HB.out.swap)))))
  clear HB
  go_cut [9] (fun u wc => ∃ o : Nat → Pl, (∀ j X Y D, o j = some (X, Y, D) → D.Room 400) ∧ St w wc (two' dev o PD PM [aGeo B1 g1, aGeo B0 g0]))
  case first =>
    go_wp2_with fail
    go_loopw [9] (fun i W => ∃ k : Nat, k ≤ 2 ∧ i = .int .i64 ↑k ∧ ∃ o : Nat → Pl, (∀ j X Y D, o j = some (X, Y, D) → D.Room 400) ∧ St w W (two' dev o PD PM [aGeo B1 g1, aGeo B0 g0])) (fun i _ => 2 - (intOf i).toNat)
    case atStart => exact ⟨0, Nat.zero_le _, rfl, _, fun j X Y D h => (by cases h), HA.out⟩
    case round =>
      obtain ⟨k, hk, rfl, o, hro, hst⟩ := hrel
      by_cases hlt : k < 2
      · have HRO := Lib.hid hro
        have HS := Lib.hid hst
        have b10 : _ = some (Value.int .i64 g1.1) := st_cell hst.fifth 0
        have b11 : _ = some (Value.int .i64 g1.2) := st_cell hst.fifth 1
        have b00 : _ = some (Value.int .i64 g0.1) := st_cell (st_sixthP hst) 0
        have b01 : _ = some (Value.int .i64 g0.2) := st_cell (st_sixthP hst) 1
        have n1 : (k : Int) < 2 := by omega
        clear hst hro
        go_upto_region 6 with fail
        go_cut [10] (fun u wc => ∃ N, u = pt N ∧ St w wc (aGeo N (if k = 0 then g0 else g1) :: two' dev o PD PM [aGeo B1 g1, aGeo B0 g0]))
        case first =>
          rcases Nat.le_one_iff_eq_zero_or_eq_one.1 (show k ≤ 1 by omega) with rfl | rfl
          · go_wp2_with fail
            go_meet
            have hn := st_new (HS.out.alloc (.cells #[.int .i64 g0.1, .int .i64 g0.2, .int .i64 g1.1, .int .i64 g1.2] 23)) [.int .i64 g0.1, .int .i64 g0.2] 23
            simp only [World.size_alloc] at hn
            exact ⟨_, rfl, hn⟩
          · go_wp2_with fail
            go_meet
            have hn := st_new (HS.out.alloc (.cells #[.int .i64 g0.1, .int .i64 g0.2, .int .i64 g1.1, .int .i64 g1.2] 23)) [.int .i64 g1.1, .int .i64 g1.2] 23
            simp only [World.size_alloc] at hn
            exact ⟨_, rfl, hn⟩
        case rest =>
          obtain ⟨N, rfl, hst⟩ := hcut
          have HX : Hid (InI64 (if k = 0 then g0 else g1).1 ∧ InI64 (if k = 0 then g0 else g1).2) := Lib.hid (by obtain ⟨q1, q2, q3, q4⟩ := HG.out; split; exact ⟨q1, q2⟩; exact ⟨q3, q4⟩)
          have n0 : _ = some (Value.int .i64 (if k = 0 then g0 else g1).1) := st_cell hst 0
          have n2 : _ = some (Value.int .i64 (if k = 0 then g0 else g1).2) := st_cell hst 1
          have HS2 := Lib.hid hst
          generalize (if k = 0 then g0 else g1) = x at HX n0 n2 HS2
          obtain ⟨a, b⟩ := x
          clear hst b00 b01 b10 b11 HS
          by_cases g : geoOk a b
          · obtain ⟨nb, hnb⟩ := Int.eq_ofNat_of_zero_le (show 0 ≤ a by have := g.1; omega)
            obtain ⟨ns, hns⟩ := Int.eq_ofNat_of_zero_le (show 0 ≤ b by have := g.2.2.1; omega)
            subst hnb hns
            have HCH : Hid (∀ W L, St w W L → Calls Try.prog 6 #[.agg #[.int .i64 (nb : Int), .int .i64 (ns : Int)]] W fun e w' => e = .returned (.int .i64 0) ∧ St w w' L) := Lib.hid fun W L h => by have := ok.check h nb ns HX.out.1 HX.out.2; rwa [if_pos g] at this
            have HRC : Hid (∀ W L, St w W L → Calls Try.prog 7 #[.agg #[.int .i64 (nb : Int), .int .i64 (ns : Int)]] W fun e w' => e = .returned (.int .i64 0) ∧ St w w' L) := Lib.hid fun W L h => by have := rcheck_any nb ns W; rw [if_pos g] at this; exact this.mono fun e w' k => ⟨k.1, h.same k.2⟩
            have HN1 := Lib.hid (ok.new_ok HS2.out nb ns g)
            have HN2 : Hid (∀ W L, St w W L → Calls Try.prog 5 #[.agg #[.int .i64 (nb : Int), .int .i64 (ns : Int)]] W fun e w' => ∃ X, e = .returned (.tuple #[pt X, .int .i64 0]) ∧ St w w' (rDev X (DevM.new nb ns) :: L)) := Lib.hid fun W L h => rnew_ok h nb ns g
            clear g
            go_upto_region 9 with (first
                | ((go_at_call 4; refine HN1.out.mono ?_; rintro e w2 ⟨X, rfl, hst⟩; have m0 : _ = some (Value.int .i64 (nb : Int)) := st_cell hst.swap 0; have m1 : _ = some (Value.int .i64 (ns : Int)) := st_cell hst.swap 1; have HQ := Lib.hid hst; clear hst))
                | ((go_at_call 5; refine (HN2.out _ _ HQ.out).mono ?_; rintro e w3 ⟨Y, rfl, hst⟩; have p0 : _ = some (Value.int .i64 (nb : Int)) := st_cell hst.third 0; have p1 : _ = some (Value.int .i64 (ns : Int)) := st_cell hst.third 1; have HS3 := Lib.hid hst; clear hst)))
            go_region_held3 (fun w' => w'.cell? ⟨N, 0, none⟩ = some (.int .i64 (nb : Int)) ∧ w'.cell? ⟨N, 1, none⟩ = some (.int .i64 (ns : Int))) (go_keep) (first
              | ((go_at_call 6; refine (HCH.out _ _ (by first | exact HS4.out | exact HS4.out.drew | exact HS4.out.drewN _ | exact HS3.out | exact HS3.out.drew | exact HS3.out.drewN _)).mono ?_; rintro e w4 ⟨rfl, hst⟩; have m0 : _ = some (Value.int .i64 (nb : Int)) := st_cell hst.third 0; have m1 : _ = some (Value.int .i64 (ns : Int)) := st_cell hst.third 1; have HS4 := Lib.hid hst; clear hst))
              | ((go_at_call 7; refine (HRC.out _ _ (by first | exact HS4.out | exact HS4.out.drew | exact HS4.out.drewN _ | exact HS3.out | exact HS3.out.drew | exact HS3.out.drewN _)).mono ?_; rintro e w5 ⟨rfl, hst⟩; have m0 : _ = some (Value.int .i64 (nb : Int)) := st_cell hst.third 0; have m1 : _ = some (Value.int .i64 (ns : Int)) := st_cell hst.third 1; have HS4 := Lib.hid hst; clear hst)))
            all_goals
              have ht : St w _ (two' dev o PD PM [aGeo B1 g1, aGeo B0 g0]) := HS4.out.drop.drop.drop
              have c1 := (two_cell (k := k) ht (by omega)).1
              have c2 := (two_free ht k).1
              have c3 := (two_mid (k := k) ht (by omega) (pt X)).1
              have c4 := (two_mid (k := k) ht (by omega) (pt X)).2
              have HE := Lib.hid (two_put (k := k) (p := some (X, Y, DevM.new nb ns)) (o := o) (PD := PD) (PM := PM) (St.gather (As := [dev X (DevM.new nb ns), rDev Y (DevM.new nb ns)]) (HS4.out.third.drop.swap)) (by omega))
              clear ht
              go_wp2_with fail
              go_roundw
              case rel => exact ⟨k + 1, by omega, by go_num, put2 o k (some (X, Y, DevM.new nb ns)), put2_room HRO.out (fun X Y D e => by cases e; exact new_room nb ns 400 (by decide)), HE.out⟩
              case measure => simp [intOf] <;> omega
          · have HCH : Hid (∀ W L, St w W L → Calls Try.prog 6 #[.agg #[.int .i64 a, .int .i64 b]] W fun e w' => e = .returned (.int .i64 1) ∧ St w w' L) := Lib.hid fun W L h => by have := ok.check h a b HX.out.1 HX.out.2; rwa [if_neg g] at this
            have HRC : Hid (∀ W L, St w W L → Calls Try.prog 7 #[.agg #[.int .i64 a, .int .i64 b]] W fun e w' => e = .returned (.int .i64 1) ∧ St w w' L) := Lib.hid fun W L h => by have := rcheck_any a b W; rw [if_neg g] at this; exact this.mono fun e w' k => ⟨k.1, h.same k.2⟩
            have HN1 := Lib.hid (ok.new_bad HS2.out a b HX.out.1 HX.out.2 g)
            have HN2 : Hid (∀ W L, St w W L → Calls Try.prog 5 #[.agg #[.int .i64 a, .int .i64 b]] W fun e w' => e = .returned (.tuple #[.pointer none, .int .i64 1]) ∧ St w w' L) := Lib.hid fun W L h => rnew_bad h a b g
            clear g
            go_upto_region 9 with (first
                | ((go_at_call 4; refine HN1.out.mono ?_; rintro e w2 ⟨rfl, hst⟩; have m0 : _ = some (Value.int .i64 a) := st_cell hst 0; have m1 : _ = some (Value.int .i64 b) := st_cell hst 1; have HQ := Lib.hid hst; clear hst))
                | ((go_at_call 5; refine (HN2.out _ _ HQ.out).mono ?_; rintro e w3 ⟨rfl, hst⟩; have p0 : _ = some (Value.int .i64 a) := st_cell hst 0; have p1 : _ = some (Value.int .i64 b) := st_cell hst 1; have HS3 := Lib.hid hst; clear hst)))
            go_region_held3 (fun w' => w'.cell? ⟨N, 0, none⟩ = some (.int .i64 a) ∧ w'.cell? ⟨N, 1, none⟩ = some (.int .i64 b)) (go_keep) (first
              | ((go_at_call 6; refine (HCH.out _ _ (by first | exact HS4.out | exact HS4.out.drew | exact HS4.out.drewN _ | exact HS3.out | exact HS3.out.drew | exact HS3.out.drewN _)).mono ?_; rintro e w4 ⟨rfl, hst⟩; have m0 : _ = some (Value.int .i64 a) := st_cell hst 0; have m1 : _ = some (Value.int .i64 b) := st_cell hst 1; have HS4 := Lib.hid hst; clear hst))
              | ((go_at_call 7; refine (HRC.out _ _ (by first | exact HS4.out | exact HS4.out.drew | exact HS4.out.drewN _ | exact HS3.out | exact HS3.out.drew | exact HS3.out.drewN _)).mono ?_; rintro e w5 ⟨rfl, hst⟩; have m0 : _ = some (Value.int .i64 a) := st_cell hst 0; have m1 : _ = some (Value.int .i64 b) := st_cell hst 1; have HS4 := Lib.hid hst; clear hst)))
            all_goals
              have ht : St w _ (two' dev o PD PM [aGeo B1 g1, aGeo B0 g0]) := HS4.out.drop
              have c1 := (two_cell (k := k) ht (by omega)).1
              have c2 := (two_free ht k).1
              have c3 := (two_mid (k := k) ht (by omega) (.pointer none)).1
              have c4 := (two_mid (k := k) ht (by omega) (.pointer none)).2
              have HE := Lib.hid (two_put (k := k) (p := none) (o := o) (PD := PD) (PM := PM) (St.gather (As := []) (HS4.out.drop)) (by omega))
              clear ht
              go_wp2_with fail
              go_roundw
              case rel => exact ⟨k + 1, by omega, by go_num, put2 o k (none), put2_room HRO.out (fun X Y D e => by cases e), HE.out⟩
              case measure => simp [intOf] <;> omega
      · obtain rfl : k = 2 := by omega
        have HRO := Lib.hid hro
        have HS := Lib.hid hst
        clear hst hro hk hlt
        go_wp2_with fail
        go_meet
        exact ⟨o, HRO.out, HS.out⟩
  case rest =>
    obtain ⟨o, hro, hst⟩ := hcut
    have HRO := Lib.hid hro
    have HS := Lib.hid hst
    have n60 : (l.length : Int) ≤ 17592186043904 := by have := HC.out.len; omega
    clear hro hst HA
    go_wp2_with fail
    go_loopw [15] (fun i W => ∃ k : Nat, k ≤ min 120 l.length ∧ i = .int .i64 ↑k ∧ ∃ o : Nat → Pl, (∀ j X Y D, o j = some (X, Y, D) → D.Room (400 - k)) ∧ St w W (two' dev o PD PM [aGeo B1 g1, aGeo B0 g0])) (fun i _ => 120 - (intOf i).toNat)
    case atStart => exact ⟨0, Nat.zero_le _, rfl, o, HRO.out, HS.out⟩
    case round =>
      clear HS HRO
      obtain ⟨k, hk, rfl, o, hro, hst⟩ := hrel
      by_cases hlt : k < min 120 l.length
      · have q0 : k < l.length := by omega
        have q1 : k < 120 := by omega
        have q2 : (k : Int) < l.length := by omega
        have q3 : (k : Int) < 120 := by omega
        obtain ⟨a1, c1, ee, hc⟩ := HL.out
        cases ee
        obtain ⟨b, off, kv, rfl, hki, hcell⟩ := hc k q0
        have HOP := Lib.hid (HC.out.op _ (List.getElem_mem q0))
        generalize l[k] = x at hki hcell HOP
        obtain ⟨ko, kc, rfl⟩ : ∃ ko kc, kv = .slice ko x.ks.length kc := by obtain ⟨a, c, e, _⟩ := hki; exact ⟨a, c, e⟩
        have HKI := Lib.hid hki
        have HCELL := Lib.hid hcell
        have e0 := hst.ch.cell (hcell 0 (Value.int .i64 x.kind) rfl)
        have e1 := hst.ch.cell (hcell 1 (Value.int .i64 x.who) rfl)
        rw [Nat.add_zero] at e0
        have HRO := Lib.hid hro
        have HS := Lib.hid hst
        clear hki hcell hc hst hro
        go_upto_if 83 with fail
        generalize (x.who != 0) = bw
        go_cut [16] (fun u wc => ∃ n : Nat, n ≤ 1 ∧ u = .int .i64 (n : Int) ∧ St w wc (two' dev o PD PM [aGeo B1 g1, aGeo B0 g0]))
        case first =>
          cases bw with
          | true => go_wp2_with fail; go_meet; exact ⟨1, by omega, rfl, HS.out⟩
          | false => go_wp2_with fail; go_meet; exact ⟨0, by omega, rfl, HS.out⟩
        case rest =>
          obtain ⟨n, hn, rfl, hst⟩ := hcut
          clear HS
          have HS := Lib.hid hst
          have nn : (n : Int) < 2 := by omega
          obtain ⟨d0, m0⟩ := two_cell hst hn
          cases ho : o n with
          | none =>
            rw [ho] at d0 m0
            replace d0 : _ = some (Value.pointer none) := d0
            replace m0 : _ = some (Value.pointer none) := m0
            clear hst
            go_wp2_with fail
            go_roundw
            case rel => exact ⟨k + 1, by omega, by go_num, o, fun j X Y D e => room_less (HRO.out j X Y D e) (by omega), HS.out⟩
            case measure => simp [intOf] <;> omega
          | some p =>
            obtain ⟨X, Y, D⟩ := p
            rw [ho] at d0 m0
            replace d0 : _ = some (pt X) := d0
            replace m0 : _ = some (pt Y) := m0
            have f0 := hst.ch.cell (HCELL.out 0 (Value.int .i64 x.kind) rfl)
            rw [Nat.add_zero] at f0
            have HO := Lib.hid ho
            clear hst
            go_upto_if 93 with fail
            obtain ⟨bk, hbk⟩ : ∃ bk, bk = (x.kind == 8) := ⟨_, rfl⟩
            rw [← hbk]
            have HBK := Lib.hid hbk
            clear hbk
            go_cut [16] (fun u wc => u = .int .i64 (n : Int) ∧ ∃ (o' : Nat → Pl) (E : DevM), o' n = some (X, Y, E) ∧ (∀ j X Y D, o' j = some (X, Y, D) → D.Room (399 - k)) ∧ St w wc (two' dev o' PD PM [aGeo B1 g1, aGeo B0 g0]))
            case first =>
              have HRM := Lib.hid (HRO.out n X Y D ho)
              cases bk with
              | true =>
                rcases Nat.le_one_iff_eq_zero_or_eq_one.1 hn with rfl | rfl
                · have HTW := Lib.hid (ok.twin (two_devs HS.out hn ho) (room_less HRM.out (by omega)))
                  have y : pw (o 0) = pt Y := by rw [ho]; rfl
                  have HY := Lib.hid y
                  clear y
                  go_wp2_with (first
                    | ((go_at_call 8; refine HTW.out.mono ?_; rintro e w2 ⟨X', rfl, hst⟩; have u0 : w2.cell? ⟨PD, 1, none⟩ = some (pv (o 1)) := st_cell hst.fourth 1; have u1 := st_free hst.fourth 1; have hs2 := st_set hst.fourth 1 (pt X'); have v0 : (w2.setCell ⟨PD, 1, none⟩ (pt X')).cell? ⟨PM, 0, none⟩ = some (pw (o 0)) := st_cell hs2.fifth 0; rw [HY.out] at v0; have HQ := Lib.hid hs2.fourth; clear hst hs2))
                    | ((go_at_call 9; refine (rtwin_any HQ.out (room_less HRM.out (by omega))).mono ?_; rintro e w3 ⟨Y', rfl, hst⟩; have u2 : w3.cell? ⟨PM, 1, none⟩ = some (pw (o 1)) := st_cell (st_sixthP hst) 1; have u3 := st_free (st_sixthP hst) 1; have hs3 := st_set (st_sixthP hst) 1 (pt Y'); have v1 : (w3.setCell ⟨PM, 1, none⟩ (pt Y')).cell? ⟨PD, 1, none⟩ = some (pt X') := st_cell hs3.fourth 1; have HZ := Lib.hid (two_twin (n := 0) hs3 hn HO.out); clear hst hs3)))
                  go_meet
                  exact ⟨rfl, _, D, (put2_other hn).trans HO.out, put2_room (fun j X Y D e => room_less (HRO.out j X Y D e) (by omega)) (fun X Y E e => by cases e; exact room_less HRM.out (by omega)), HZ.out⟩
                · have HTW := Lib.hid (ok.twin (two_devs HS.out hn ho) (room_less HRM.out (by omega)))
                  have y : pw (o 1) = pt Y := by rw [ho]; rfl
                  have HY := Lib.hid y
                  clear y
                  go_wp2_with (first
                    | ((go_at_call 8; refine HTW.out.mono ?_; rintro e w2 ⟨X', rfl, hst⟩; have u0 : w2.cell? ⟨PD, 0, none⟩ = some (pv (o 0)) := st_cell hst.fourth 0; have u1 := st_free hst.fourth 0; have hs2 := st_set hst.fourth 0 (pt X'); have v0 : (w2.setCell ⟨PD, 0, none⟩ (pt X')).cell? ⟨PM, 1, none⟩ = some (pw (o 1)) := st_cell hs2.fifth 1; rw [HY.out] at v0; have HQ := Lib.hid hs2.fourth; clear hst hs2))
                    | ((go_at_call 9; refine (rtwin_any HQ.out (room_less HRM.out (by omega))).mono ?_; rintro e w3 ⟨Y', rfl, hst⟩; have u2 : w3.cell? ⟨PM, 0, none⟩ = some (pw (o 0)) := st_cell (st_sixthP hst) 0; have u3 := st_free (st_sixthP hst) 0; have hs3 := st_set (st_sixthP hst) 0 (pt Y'); have v1 : (w3.setCell ⟨PM, 0, none⟩ (pt Y')).cell? ⟨PD, 0, none⟩ = some (pt X') := st_cell hs3.fourth 0; have HZ := Lib.hid (two_twin (n := 1) hs3 hn HO.out); clear hst hs3)))
                  go_meet
                  exact ⟨rfl, _, D, (put2_other hn).trans HO.out, put2_room (fun j X Y D e => room_less (HRO.out j X Y D e) (by omega)) (fun X Y E e => by cases e; exact room_less HRM.out (by omega)), HZ.out⟩
              | false =>
                have HT5 := Lib.hid (two_devs HS.out hn ho)
                have f0 := HS.out.ch.cell (HCELL.out 0 (Value.int .i64 x.kind) rfl)
                have f1 := HS.out.ch.cell (HCELL.out 1 (Value.int .i64 x.who) rfl)
                have f2 := HS.out.ch.cell (HCELL.out 2 (Value.int .i64 x.n) rfl)
                have f3 := HS.out.ch.cell (HCELL.out 3 (Value.int .i64 x.at') rfl)
                have f4 := HS.out.ch.cell (HCELL.out 4 (Value.string x.data) rfl)
                have f5 := HS.out.ch.cell (HCELL.out 5 (Value.slice ko x.ks.length kc) rfl)
                have f6 := HS.out.ch.cell (HCELL.out 6 (Value.int .i64 x.torn) rfl)
                have f7 := HS.out.ch.cell (HCELL.out 7 (Value.int .u8 (x.mask : Int)) rfl)
                rw [Nat.add_zero] at f0
                clear ho
                go_upto_region 25 with fail
                go_region_held3 (fun w' => w'.cell? ⟨PD, n, none⟩ = some (pt X) ∧ w'.cell? ⟨PM, n, none⟩ = some (pt Y) ∧ w'.cell? ⟨b, off + k * 8, none⟩ = some (.int .i64 x.kind) ∧ w'.cell? ⟨b, off + k * 8 + 1, none⟩ = some (.int .i64 x.who) ∧ w'.cell? ⟨b, off + k * 8 + 2, none⟩ = some (.int .i64 x.n) ∧ w'.cell? ⟨b, off + k * 8 + 3, none⟩ = some (.int .i64 x.at') ∧ w'.cell? ⟨b, off + k * 8 + 4, none⟩ = some (.string x.data) ∧ w'.cell? ⟨b, off + k * 8 + 5, none⟩ = some (.slice ko x.ks.length kc) ∧ w'.cell? ⟨b, off + k * 8 + 6, none⟩ = some (.int .i64 x.torn) ∧ w'.cell? ⟨b, off + k * 8 + 7, none⟩ = some (.int .u8 (x.mask : Int))) (go_keep) (first
                  | ((go_at_call 10; refine (does_any ok (by first | exact HT5.out | exact HT5.out.drew | exact HT5.out.drewN _) x (.slice ko x.ks.length kc) HKI.out HOP.out (room_less HRM.out (by omega))).mono ?_; rintro e w3 ⟨rfl, hst3⟩; have hsh := two_devs_shut hst3 hn HO.out; have g8 := (two_cell hsh hn).1; rw [put2_same] at g8; replace g8 : w3.cell? ⟨PD, n, none⟩ = some (pt X) := g8; have g9 := (two_cell hsh hn).2; rw [put2_same] at g9; replace g9 : w3.cell? ⟨PM, n, none⟩ = some (pt Y) := g9; have g0 := hst3.ch.cell (HCELL.out 0 (Value.int .i64 x.kind) rfl); have g1 := hst3.ch.cell (HCELL.out 1 (Value.int .i64 x.who) rfl); have g2 := hst3.ch.cell (HCELL.out 2 (Value.int .i64 x.n) rfl); have g3 := hst3.ch.cell (HCELL.out 3 (Value.int .i64 x.at') rfl); have g4 := hst3.ch.cell (HCELL.out 4 (Value.string x.data) rfl); have g5 := hst3.ch.cell (HCELL.out 5 (Value.slice ko x.ks.length kc) rfl); have g6 := hst3.ch.cell (HCELL.out 6 (Value.int .i64 x.torn) rfl); have g7 := hst3.ch.cell (HCELL.out 7 (Value.int .u8 (x.mask : Int)) rfl); rw [Nat.add_zero] at g0; have HSH := Lib.hid hsh; clear hst3 hsh)))
                all_goals
                  go_wp2_with fail
                  go_meet
                  exact ⟨rfl, _, _, put2_same, put2_room (fun j X Y D e => room_less (HRO.out j X Y D e) (by omega)) (fun X Y E e => by cases e; exact does_room (room_less HRM.out (by omega)) x), HSH.out⟩
            case rest =>
              obtain ⟨rfl, o', E, ho', hro', hst⟩ := hcut
              clear d0 m0 f0 e0 e1 HO ho
              obtain ⟨d0, m0⟩ := two_cell hst hn
              rw [ho'] at d0 m0
              replace d0 : _ = some (pt X) := d0
              replace m0 : _ = some (pt Y) := m0
              have ht := two_devs hst hn ho'
              have y0 := rnb_cell ht.swap
              have HRO2 := Lib.hid hro'
              have HE := Lib.hid (rdev_ok ht.swap)
              have HRM := Lib.hid (hro' n X Y E ho')
              have HT5 := Lib.hid ht
              have HEL := Lib.hid hst
              have HO := Lib.hid ho'
              have HBL : Hid (∀ W L, St w W (dev X E :: L) → Calls Try.prog 11 #[pt X] W fun e w' => e = .returned (.int .i64 (E.nb : Int)) ∧ ∃ q, w' = W.drewN q) := Lib.hid fun W L h => ok.blocks h
              have HSZ : Hid (∀ W L, St w W (dev X E :: L) → Calls Try.prog 12 #[pt X] W fun e w' => e = .returned (.int .i64 (512 * E.ns : Nat)) ∧ ∃ q, w' = W.drewN q) := Lib.hid fun W L h => ok.size h
              have HRS : Hid (∀ W L, St w W (dev X E :: rDev Y E :: L) → Calls Try.prog 13 #[pt Y] W fun e w' => e = .returned (.int .i64 (512 * E.ns : Nat)) ∧ W = w') := Lib.hid fun W L h => rsize_any Y E.ns W (rsize_cell h.swap) HE.out.ns1
              have t1 : ((E.nb : Int) != E.nb) = false := by simp
              have nb1 : (E.nb : Int) ≤ 4096 := by have := HE.out.nb1; omega
              clear hst ht hro' ho' HS HRO
              by_cases c : (E.nb : Int) ≤ 64
              · go_wp2_with fail
                go_region_held3 (fun w' => w'.cell? ⟨PD, n, none⟩ = some (pt X) ∧ w'.cell? ⟨PM, n, none⟩ = some (pt Y) ∧ w'.cell? ⟨Y, 0, none⟩ = some (.int .i64 (E.nb : Int))) (go_keep) (first
                  | ((go_at_call 11; refine (HBL.out _ _ (by first | exact HT6.out | exact HT6.out.drew | exact HT6.out.drewN _ | exact (HT6.out.drew).drewN _ | exact HT5.out | exact HT5.out.drew | exact HT5.out.drewN _ | exact (HT5.out.drew).drewN _)).mono ?_; rintro e w2 ⟨rfl, q, rfl⟩))
                  | ((go_at_call 12; refine (HSZ.out _ _ (by first | exact HT6.out | exact HT6.out.drew | exact HT6.out.drewN _ | exact (HT6.out.drew).drewN _ | exact HT5.out | exact HT5.out.drew | exact HT5.out.drewN _ | exact (HT5.out.drew).drewN _)).mono ?_; rintro e w2 ⟨rfl, q, rfl⟩))
                  | ((go_at_call 13; refine (HRS.out _ _ (by first | exact HT6.out | exact HT6.out.drew | exact HT6.out.drewN _ | exact (HT6.out.drew).drewN _ | exact HT5.out | exact HT5.out.drew | exact HT5.out.drewN _ | exact (HT5.out.drew).drewN _)).mono ?_; rintro e w2 ⟨rfl, rfl⟩))
                  | ((go_at_call 14; refine (image_any ok (by first | exact HT6.out | exact HT6.out.drew | exact HT6.out.drewN _ | exact (HT6.out.drew).drewN _ | exact HT5.out | exact HT5.out.drew | exact HT5.out.drewN _ | exact (HT5.out.drew).drewN _) (room_less HRM.out (by omega))).mono ?_; rintro e w3 ⟨rfl, hst3⟩; have hsh := two_devs_shut hst3 hn HO.out; have y1 := rnb_cell hst3.swap; have g8 := (two_cell hsh hn).1; rw [put2_same] at g8; replace g8 : w3.cell? ⟨PD, n, none⟩ = some (pt X) := g8; have g9 := (two_cell hsh hn).2; rw [put2_same] at g9; replace g9 : w3.cell? ⟨PM, n, none⟩ = some (pt Y) := g9; have HSH := Lib.hid hsh; clear hst3 hsh)))
                all_goals
                  go_wp2_with fail
                  go_roundw
                  case rel => exact ⟨k + 1, by omega, by go_num, _, put2_room (fun j X Y D e => room_less (HRO2.out j X Y D e) (by omega)) (fun X Y E e => by cases e; exact room_less HRM.out (by omega)), HSH.out⟩
                  case measure => simp [intOf] <;> omega
              · have c4 : decide ((E.nb : Int) ≤ 64) = false := decide_eq_false c
                go_wp2_with fail
                go_quiet (first
                  | (go_at_call 11; exact Calls.quiet_of (HBL.out _ _ (HT5.out.drewN _)))
                  | (go_at_call 12; exact Calls.quiet_of (HSZ.out _ _ (HT5.out.drewN _)))
                  | (go_at_call 13; exact Calls.quiet_of_same ((HRS.out _ _ (HT5.out.drewN _)).mono fun _ _ h => ⟨h.1, h.2.symm⟩)))
                all_goals
                  go_wp2_with fail
                  go_roundw
                  case rel => exact ⟨k + 1, by omega, by go_num, _, fun j X Y D e => room_less (HRO2.out j X Y D e) (by omega), (by first | exact HEL.out | exact HEL.out.drew | exact HEL.out.drewN _ | exact (HEL.out.drew).drewN _)⟩
                  case measure => simp [intOf] <;> omega
      · have HS := Lib.hid hst
        obtain rfl : k = min 120 l.length := by omega
        clear hst hk hro
        by_cases q : l.length ≤ 120
        · have HSM := HS
          rw [Nat.min_eq_right q] at hlt ⊢
          have q2 : ¬ l.length < l.length := Nat.lt_irrefl _
          go_wp2_with fail
          go_ret
          exact ⟨rfl, St.nil HSM.out.ch⟩
        · have HSM := HS
          rw [Nat.min_eq_left (by omega)] at hlt ⊢
          have q2 : (120 : Int) < l.length := by omega
          go_wp2_with fail
          go_ret
          exact ⟨rfl, St.nil HSM.out.ch⟩
end
end Go.Proofs.Ytkebilddoanhgaa.dev
