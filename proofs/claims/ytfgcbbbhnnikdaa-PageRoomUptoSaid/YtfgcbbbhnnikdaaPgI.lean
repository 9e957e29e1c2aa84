/-
  Layer 7, the document: Check.
-/
import Derived.Test.YtfgcbbbhnnikdaaPgH
import Derived.BigQuiet
import Derived.Deep.QuietTactic
namespace Go.Proofs.Ytfgcbbbhnnikdaa.pg
open Go.ChangeShapes Go.WideShapes Go.ChangeAt Go.RowKit mem
set_option linter.unusedVariables false

/-- the document's box, seen from any world behind it -/
structure Box (W1 wr : World) (B : Nat) (lf : Bool) (kv vv iv : Value) : Prop where
  ch : Ch0 W1 wr
  c0 : wr.cell? ⟨B, 0, none⟩ = some (.bool lf)
  c1 : wr.cell? ⟨B, 1, none⟩ = some kv
  c2 : wr.cell? ⟨B, 2, none⟩ = some vv
  c3 : wr.cell? ⟨B, 3, none⟩ = some iv
theorem Box.kept {W1 wr w2 : World} {B : Nat} {lf : Bool} {kv vv iv : Value} (h : Box W1 wr B lf kv vv iv) (hc : Ch0 wr w2) : Box W1 w2 B lf kv vv iv :=
  ⟨h.ch.trans hc fun _ h => h.elim, hc.cell h.c0, hc.cell h.c1, hc.cell h.c2, hc.cell h.c3⟩
theorem Box.drewN {W1 wr : World} {B : Nat} {lf : Bool} {kv vv iv : Value} (h : Box W1 wr B lf kv vv iv) (q : Nat) : Box W1 (wr.drewN q) B lf kv vv iv := h.kept ((Ch.refl _ _).drewN q)

set_option maxHeartbeats 4000000 in
set_option maxRecDepth 8000 in
theorem rcheck_any {W : World} {kv vv iv : Value} {n : Nd} (h : NodeIn W kv vv iv n) (ok : NodeOk n) (z : Int) :
    Calls Try.prog 46 #[ndV n kv vv iv, .int .i64 z] W fun e w' => e = .returned (.int .i64 (checkE n z)) ∧ Ch0 W w' := by
  obtain ⟨W1, hW1, hch, h1, c0, c1, c2, c3, hlt⟩ := box_node h 65
  have HN := Lib.hid h1
  have HBX : Hid (Box W1 W1 W.heap.size n.leaf kv vv iv) := Lib.hid ⟨Ch.refl _ _, c0, c1, c2, c3⟩
  obtain ⟨⟨ka, kc, rfl⟩, ⟨va, vc, rfl⟩, ⟨ia, ic, rfl⟩⟩ := node_forms h
  have HCH := Lib.hid hch
  have HOK := Lib.hid ok
  have hkl : (n.keys.length : Int) ≤ 8796093022208 := by have := ok.keys; omega
  have hvl : (n.vals.length : Int) ≤ 8796093022208 := by have := ok.vals; omega
  have hil : (n.kids.length : Int) ≤ 35184372088832 := by have := ok.kids; omega
  have e0 : IntKind.i64.wrap ((n.keys.length : Int) + 1) = (n.keys.length : Int) + 1 := IntWalk.i64_in _ (by omega)
  have HM := Lib.hid fun W => rmost_any z W
  have HO := Lib.hid fun W => rorder_any z W
  have HBY := Lib.hid fun (W2 : World) (hc : Ch0 W1 W2) => rbytes_any (h1.kept hc) ok
  obtain ⟨E, hE⟩ : ∃ E, E = checkE n z := ⟨_, rfl⟩
  rw [← hE]
  have HE := Lib.hid hE
  have HFIT := Lib.hid fun (hz : okSz z) (hr : riseM n.keys) (m : mayBe n z.toNat) => bytes_fit ok (show z.toNat ≤ 4096 by have := hz.2.1; omega) hr m
  clear h h1 ok hch hE
  unfold ndV at HBY ⊢
  obtain ⟨lf, hlf⟩ : ∃ lf, lf = n.leaf := ⟨_, rfl⟩
  rw [← hlf] at hW1 HBX HBY ⊢
  have HLF := Lib.hid hlf
  clear hlf c0 c1 c2 c3
  by_cases hz : okSz z
  · rw [show sizeE z = 0 from if_pos hz, show mostI z = (mostM z.toNat : Nat) from if_pos hz] at HM
    rw [show sizeE z = 0 from if_pos hz, show orderI z = (orderM z.toNat : Nat) from if_pos hz] at HO
    have HFIT := Lib.hid (HFIT.out hz)
    have hm0 := (most_facts hz).2.2
    have hz1 : z = (z.toNat : Nat) := by have := hz.1; omega
    have HZ := Lib.hid hz
    clear hz
    generalize hzn : z.toNat = zn at HM HO HFIT hm0 hz1
    have HZN := Lib.hid hzn
    have HZ1 := Lib.hid hz1
    clear hzn hz1
    go_enter Try.func46, Try.ntmps46
    go_upto_region 1 with fail
    rw [← hW1]
    generalize W.heap.size = B at *
    clear hW1 hlt
    go_upto_block 0 with (first
      | ((go_at_call 42; refine (HM.out _).mono ?_; rintro e w' ⟨rfl, rfl⟩))
      | ((go_at_call 44; refine (HO.out _).mono ?_; rintro e w' ⟨rfl, rfl⟩)))
    go_cut [9] from 24 to 55 (fun s wr => riseM n.keys ∧ Box W1 wr B lf (.slice ka n.keys.length kc) (.slice va n.vals.length vc) (.slice ia n.kids.length ic))
    case first =>
      go_wp2_with fail
      go_loopw [9] (fun i wr => ∃ k : Nat, k ≤ n.keys.length ∧ i = .int .i64 ↑k ∧ (∀ j, j < k → riseAt n.keys j) ∧ Box W1 wr B lf (.slice ka n.keys.length kc) (.slice va n.vals.length vc) (.slice ia n.kids.length ic)) (fun i _ => n.keys.length - (intOf i).toNat)
      case atStart => exact ⟨0, Nat.zero_le _, rfl, fun j hj => absurd hj (Nat.not_lt_zero j), HBX.out⟩
      case round =>
        obtain ⟨k, hk, rfl, hall, hbx⟩ := hrel
        have HALL := Lib.hid hall
        have HB := Lib.hid hbx
        have d0 := hbx.c0
        have d1 := hbx.c1
        clear hall hbx HBX
        by_cases hlt : k < n.keys.length
        · obtain ⟨b, o, cap', e, hc⟩ := (HN.out.keys.kept HB.out.ch).at' hlt
          cases e
          have e1 : IntKind.i64.wrap ((k : Int) + 1) = (k : Int) + 1 := IntWalk.i64_in _ (by omega)
          have HLT := Lib.hid hlt
          have k1 : (k : Int) < n.keys.length := by omega
          have HK := Lib.hid fun W => rkey_any (n.keys.getD k emp) W
          by_cases hkey : keyB (n.keys.getD k emp) = true
          · rw [hkey] at HK
            have hkk : 1 ≤ (n.keys.getD k emp).size ∧ (n.keys.getD k emp).size ≤ 64 := of_decide_eq_true hkey
            by_cases k0 : k = 0
            · subst k0
              have HNX : Hid (∀ j, j < 0 + 1 → riseAt n.keys j) := Lib.hid fun j hj => by
                obtain rfl : j = 0 := by omega
                exact ⟨hkk, .inl rfl⟩
              rw [Nat.add_zero] at hc
              generalize n.keys.getD 0 emp = x at hc HK
              clear hk hlt hkey hkk
              go_upto_region 8 with fail
              go_quiet ((go_at_call 82; exact Calls.quiet_of_same (HK.out _)))
              go_wp2_with fail
              go_roundw
              case rel => exact ⟨1, by have := HLT.out; omega, rfl, HNX.out, HB.out.drewN _⟩
              case measure => simp [intOf] <;> omega
            · obtain ⟨b2, o2, cap2, e, hp⟩ := (HN.out.keys.kept HB.out.ch).at' (show k - 1 < n.keys.length by omega)
              cases e
              have s3 : (0 : Int) < (k : Int) := by omega
              have sN : decide (0 < k) = true := decide_eq_true (by omega)
              have e2 : IntKind.i64.wrap ((k : Int) - 1) = ((k - 1 : Nat) : Int) := by rw [IntWalk.i64_in _ (by omega)]; omega
              have k2 : ((k - 1 : Nat) : Int) < n.keys.length := by omega
              by_cases hless : lessB (n.keys.getD (k - 1) emp) (n.keys.getD k emp) = true
              · have HNX : Hid (∀ j, j < k + 1 → riseAt n.keys j) := Lib.hid fun j hj => by
                  by_cases c : j = k
                  · rw [c]; exact ⟨hkk, .inr hless⟩
                  · exact HALL.out j (by omega)
                have hA : Op.bytesLess (n.keys.getD (k - 1) emp).toList (n.keys.getD k emp).toList = true := hless
                generalize n.keys.getD k emp = x at hc HK hA
                generalize n.keys.getD (k - 1) emp = y at hp hA
                generalize k - 1 = k' at hp e2 k2
                clear hk hlt hkey hkk hless k0
                go_upto_region 8 with fail
                go_quiet ((go_at_call 82; exact Calls.quiet_of_same (HK.out _)))
                go_wp2_with fail
                go_roundw
                case rel => exact ⟨k + 1, by have := HLT.out; omega, by go_num, HNX.out, HB.out.drewN _⟩
                case measure => simp [intOf] <;> omega
              · have HX : Hid (E = 1) := Lib.hid (HE.out.trans (check_bad fun h => by
                  rcases (h.2.rise k hlt).2 with c | c
                  · exact k0 c
                  · exact hless c))
                have hA : Op.bytesLess (n.keys.getD (k - 1) emp).toList (n.keys.getD k emp).toList = false := by unfold lessB at hless; simpa using hless
                generalize n.keys.getD k emp = x at hc HK hA
                generalize n.keys.getD (k - 1) emp = y at hp hA
                generalize k - 1 = k' at hp e2 k2
                clear hk hlt hkey hkk hless k0
                go_upto_region 8 with fail
                go_quiet ((go_at_call 82; exact Calls.quiet_of_same (HK.out _)))
                go_wp2_with fail
                go_ret
                exact ⟨congrArg (fun x => Ending.returned (Value.int IntKind.i64 x)) HX.out.symm, HCH.out.trans (HB.out.drewN _).ch fun _ h => h.elim⟩
          · have hkey : keyB (n.keys.getD k emp) = false := by simpa using hkey
            rw [hkey] at HK
            have HX : Hid (E = 1) := Lib.hid (HE.out.trans (check_bad fun h => by
              have := (h.2.rise k hlt).1
              exact absurd (decide_eq_true this) (by unfold keyB at hkey; rw [hkey]; decide)))
            generalize n.keys.getD k emp = x at hc HK
            clear hk hlt hkey
            go_upto_region 8 with fail
            go_quiet ((go_at_call 82; exact Calls.quiet_of_same (HK.out _)))
            go_wp2_with fail
            go_ret
            exact ⟨congrArg (fun x => Ending.returned (Value.int IntKind.i64 x)) HX.out.symm, HCH.out.trans (HB.out.drewN _).ch fun _ h => h.elim⟩
        · obtain rfl : k = n.keys.length := by omega
          clear hk hlt
          go_wp2_with fail
          go_meet
          exact ⟨HALL.out, HB.out⟩
    case rest =>
      obtain ⟨hr, hbx⟩ := hcut
      have HFIT := Lib.hid (HFIT.out hr)
      have HR := Lib.hid hr
      have HB := Lib.hid hbx
      have d0 := hbx.c0
      have d1 := hbx.c1
      have d2 := hbx.c2
      have d3 := hbx.c3
      clear hr hbx HBX
      cases lf with
      | true =>
        by_cases a1 : n.vals.length = n.keys.length
        · have b1 : ((n.vals.length : Int) != (n.keys.length : Int)) = false := by rw [bne_eq_false_iff_eq]; omega
          by_cases a2 : n.kids.length = 0
          · have b2 : ((n.kids.length : Int) != 0) = false := by rw [bne_eq_false_iff_eq]; omega
            have HA := Lib.hid (And.intro a1 a2)
            clear a1 a2
            go_wp2_with fail
            go_loopw [10] (fun i wr => ∃ k : Nat, k ≤ n.vals.length ∧ i = .int .i64 ↑k ∧ (∀ j, j < k → entOk n zn j) ∧ Box W1 wr B true (.slice ka n.keys.length kc) (.slice va n.vals.length vc) (.slice ia n.kids.length ic)) (fun i _ => n.vals.length - (intOf i).toNat)
            case atStart => exact ⟨0, Nat.zero_le _, rfl, fun j hj => absurd hj (Nat.not_lt_zero j), HB.out⟩
            case round =>
              obtain ⟨k, hk, rfl, hall, hbx⟩ := hrel
              clear HB d0 d1 d2 d3
              have HALL := Lib.hid hall
              have HB := Lib.hid hbx
              have d0 := hbx.c0
              have d1 := hbx.c1
              have d2 := hbx.c2
              clear hall hbx
              by_cases hlt : k < n.vals.length
              · obtain ⟨b, o, cap', e, hc⟩ := (HN.out.keys.kept HB.out.ch).at' (show k < n.keys.length by have := HA.out.1; omega)
                cases e
                obtain ⟨b', o', cap2, e, hd⟩ := (HN.out.vals.kept HB.out.ch).at' hlt
                cases e
                have e1 : IntKind.i64.wrap ((k : Int) + 1) = (k : Int) + 1 := IntWalk.i64_in _ (by omega)
                have HLT := Lib.hid hlt
                have k1 : (k : Int) < n.keys.length := by have := HA.out.1; omega
                have k2 : (k : Int) < n.vals.length := by omega
                have x1 : (n.keys.getD k emp).size ≤ 64 := (rise_size HR.out (by have := HA.out.1; omega)).2
                have x2 : (n.vals.getD k emp).size ≤ 140737488351232 := HOK.out.val _ (getD_mem hlt)
                have HEN : Hid (entOk n zn k ↔ 3 + (n.keys.getD k emp).size + (n.vals.getD k emp).size ≤ mostM zn) := Lib.hid Iff.rfl
                have HKL : Hid (k < n.keys.length) := Lib.hid (by have := HA.out.1; omega)
                generalize n.keys.getD k emp = x at hc x1 HEN
                generalize n.vals.getD k emp = y at hd x2 HEN
                have e2 : IntKind.i64.wrap (3 + (x.size : Int)) = 3 + (x.size : Int) := IntWalk.i64_in _ (by omega)
                have e3 : IntKind.i64.wrap (3 + (x.size : Int) + (y.size : Int)) = 3 + (x.size : Int) + (y.size : Int) := IntWalk.i64_in _ (by omega)
                have HBAD : Hid (¬ 3 + x.size + y.size ≤ mostM zn → E = 1) := Lib.hid fun c => HE.out.trans (check_bad fun h => c (HEN.out.1 (by
                  have := (h.2.may.1 (HLF.out.symm)).2.2 k HKL.out
                  rwa [HZN.out] at this)))
                by_cases c0 : 4095 < y.size
                · have HX : Hid (E = 1) := Lib.hid (HBAD.out (by omega))
                  have s1 : decide (4095 < y.size) = true := decide_eq_true c0
                  have s2 : (4095 : Int) < (y.size : Int) := by omega
                  clear hk hlt c0 x1 x2
                  go_upto_region 16 with fail
                  go_quiet (fail)
                  go_wp2_with fail
                  go_ret
                  exact ⟨congrArg (fun x => Ending.returned (Value.int IntKind.i64 x)) HX.out.symm, HCH.out.trans (HB.out.drewN _).ch fun _ h => h.elim⟩
                · have s1 : decide (4095 < y.size) = false := decide_eq_false c0
                  have s2 : ¬ (4095 : Int) < (y.size : Int) := by omega
                  by_cases c : 3 + x.size + y.size ≤ mostM zn
                  · have HNX : Hid (∀ j, j < k + 1 → entOk n zn j) := Lib.hid fun j hj => by
                      by_cases cj : j = k
                      · rw [cj]; exact HEN.out.2 c
                      · exact HALL.out j (by omega)
                    have c1 : ¬ ((mostM zn : Nat) : Int) < 3 + (x.size : Int) + (y.size : Int) := by omega
                    have c2 : decide (((mostM zn : Nat) : Int) < 3 + (x.size : Int) + (y.size : Int)) = false := decide_eq_false c1
                    clear hk hlt c x1 x2 c0
                    go_upto_region 16 with fail
                    go_quiet (fail)
                    go_wp2_with fail
                    go_roundw
                    case rel => exact ⟨k + 1, by have := HLT.out; omega, by go_num, HNX.out, HB.out.drewN _⟩
                    case measure => simp [intOf] <;> omega
                  · have HX : Hid (E = 1) := Lib.hid (HBAD.out c)
                    have c1 : ((mostM zn : Nat) : Int) < 3 + (x.size : Int) + (y.size : Int) := by omega
                    have c2 : decide (((mostM zn : Nat) : Int) < 3 + (x.size : Int) + (y.size : Int)) = true := decide_eq_true c1
                    clear hk hlt c x1 x2 c0
                    go_upto_region 16 with fail
                    go_quiet (fail)
                    go_wp2_with fail
                    go_ret
                    exact ⟨congrArg (fun x => Ending.returned (Value.int IntKind.i64 x)) HX.out.symm, HCH.out.trans (HB.out.drewN _).ch fun _ h => h.elim⟩
              · obtain rfl : k = n.vals.length := by omega
                have d3 := HB.out.c3
                have HMAY : Hid (mayBe n zn) := Lib.hid ⟨fun _ => ⟨HA.out.1, HA.out.2, fun i hi => HALL.out i (by have := HA.out.1; omega)⟩, fun h => by rw [← HLF.out] at h; cases h⟩
                have hfit := HFIT.out HMAY.out
                have HBY := Lib.hid (HBY.out _ HB.out.ch)
                rw [wi_small hfit] at HBY
                have HEQ : Hid (E = if bytesM n ≤ zn then 0 else 1) := Lib.hid (by
                  rw [HE.out]
                  by_cases c : bytesM n ≤ zn
                  · rw [if_pos c]; exact check_ok HZ.out ⟨HR.out, by rw [HZN.out]; exact HMAY.out, by rw [HZN.out]; exact c⟩
                  · rw [if_neg c]; exact check_bad fun h => c (by have := h.2.fits; rwa [HZN.out] at this))
                clear hk hlt hfit
                by_cases c : bytesM n ≤ zn
                · have HX : Hid (E = 0) := Lib.hid (by rw [HEQ.out, if_pos c])
                  have c1 : ¬ z < ((bytesM n : Nat) : Int) := by have := HZ1.out; omega
                  clear c
                  go_wp2_with ((go_at_call 48; refine HBY.out.mono ?_; rintro e w3 ⟨rfl, hc3⟩; have HC3 := Lib.hid hc3; clear hc3))
                  go_ret
                  exact ⟨congrArg (fun x => Ending.returned (Value.int IntKind.i64 x)) HX.out.symm, (HCH.out.trans HB.out.ch fun _ h => h.elim).trans HC3.out fun _ h => h.elim⟩
                · have HX : Hid (E = 1) := Lib.hid (by rw [HEQ.out, if_neg c])
                  have c1 : z < ((bytesM n : Nat) : Int) := by have := HZ1.out; omega
                  clear c
                  go_wp2_with ((go_at_call 48; refine HBY.out.mono ?_; rintro e w3 ⟨rfl, hc3⟩; have HC3 := Lib.hid hc3; clear hc3))
                  go_ret
                  exact ⟨congrArg (fun x => Ending.returned (Value.int IntKind.i64 x)) HX.out.symm, (HCH.out.trans HB.out.ch fun _ h => h.elim).trans HC3.out fun _ h => h.elim⟩
          · have b2 : ((n.kids.length : Int) != 0) = true := by rw [bne_iff_ne]; omega
            have HX : Hid (E = 1) := Lib.hid (HE.out.trans (check_bad fun h => a2 (h.2.may.1 HLF.out.symm).2.1))
            clear a1 a2
            go_wp2_with fail
            go_ret
            exact ⟨congrArg (fun x => Ending.returned (Value.int IntKind.i64 x)) HX.out.symm, HCH.out.trans HB.out.ch fun _ h => h.elim⟩
        · have b1 : ((n.vals.length : Int) != (n.keys.length : Int)) = true := by rw [bne_iff_ne]; omega
          have HX : Hid (E = 1) := Lib.hid (HE.out.trans (check_bad fun h => a1 (h.2.may.1 HLF.out.symm).1))
          clear a1
          go_wp2_with fail
          go_ret
          exact ⟨congrArg (fun x => Ending.returned (Value.int IntKind.i64 x)) HX.out.symm, HCH.out.trans HB.out.ch fun _ h => h.elim⟩
      | false =>
        have HNI : Hid (∀ h : CheckM n z.toNat, innerOk n zn) := Lib.hid fun h => by have := h.may.2 HLF.out.symm; rwa [HZN.out] at this
        by_cases a1 : n.vals.length = 0
        · have b1 : ((n.vals.length : Int) != 0) = false := by rw [bne_eq_false_iff_eq]; omega
          by_cases a2 : n.kids.length = n.keys.length + 1
          · have b2 : ((n.kids.length : Int) != (n.keys.length : Int) + 1) = false := by rw [bne_eq_false_iff_eq]; omega
            by_cases a3 : n.kids.length ≤ orderM zn
            · have b3 : ¬ ((orderM zn : Nat) : Int) < (n.kids.length : Int) := by omega
              have HA := Lib.hid (And.intro a1 (And.intro a2 a3))
              clear a1 a2 a3
              go_wp2_with fail
              go_loopw [11] (fun i wr => ∃ k : Nat, k ≤ n.kids.length ∧ i = .int .i64 ↑k ∧ (∀ j, j < k → kid n j ≠ 0) ∧ Box W1 wr B false (.slice ka n.keys.length kc) (.slice va n.vals.length vc) (.slice ia n.kids.length ic)) (fun i _ => n.kids.length - (intOf i).toNat)
              case atStart => exact ⟨0, Nat.zero_le _, rfl, fun j hj => absurd hj (Nat.not_lt_zero j), HB.out⟩
              case round =>
                obtain ⟨k, hk, rfl, hall, hbx⟩ := hrel
                clear HB d0 d1 d2 d3
                have HALL := Lib.hid hall
                have HB := Lib.hid hbx
                have d3 := hbx.c3
                clear hall hbx
                by_cases hlt : k < n.kids.length
                · obtain ⟨b, o, cap', e, hc⟩ := (HN.out.kids.kept HB.out.ch).at' hlt
                  cases e
                  have e1 : IntKind.i64.wrap ((k : Int) + 1) = (k : Int) + 1 := IntWalk.i64_in _ (by omega)
                  have HLT := Lib.hid hlt
                  have k1 : (k : Int) < n.kids.length := by omega
                  have HKD : Hid (kid n k = n.kids.getD k 0) := Lib.hid rfl
                  by_cases c : n.kids.getD k 0 = 0
                  · have HX : Hid (E = 1) := Lib.hid (HE.out.trans (check_bad fun h => (HNI.out h.2).2.2.2 k hlt c))
                    rw [c] at hc
                    clear hk hlt c
                    go_wp2_with fail
                    go_ret
                    exact ⟨congrArg (fun x => Ending.returned (Value.int IntKind.i64 x)) HX.out.symm, HCH.out.trans HB.out.ch fun _ h => h.elim⟩
                  · have HNX : Hid (∀ j, j < k + 1 → kid n j ≠ 0) := Lib.hid fun j hj => by
                      by_cases cj : j = k
                      · rw [cj]; exact c
                      · exact HALL.out j (by omega)
                    have c0 : (((n.kids.getD k 0 : Nat) : Int) == 0) = false := by rw [beq_eq_false_iff_ne]; omega
                    generalize n.kids.getD k 0 = x at hc c0
                    clear hk hlt c
                    go_wp2_with fail
                    go_roundw
                    case rel => exact ⟨k + 1, by have := HLT.out; omega, by go_num, HNX.out, HB.out⟩
                    case measure => simp [intOf] <;> omega
                · obtain rfl : k = n.kids.length := by omega
                  have d0 := HB.out.c0
                  have d1 := HB.out.c1
                  have d2 := HB.out.c2
                  have HMAY : Hid (mayBe n zn) := Lib.hid ⟨fun h => (by rw [← HLF.out] at h; cases h), fun _ => ⟨HA.out.1, HA.out.2.1, HA.out.2.2, HALL.out⟩⟩
                  have hfit := HFIT.out HMAY.out
                  have HBY := Lib.hid (HBY.out _ HB.out.ch)
                  rw [wi_small hfit] at HBY
                  have HEQ : Hid (E = if bytesM n ≤ zn then 0 else 1) := Lib.hid (by
                    rw [HE.out]
                    by_cases c : bytesM n ≤ zn
                    · rw [if_pos c]; exact check_ok HZ.out ⟨HR.out, by rw [HZN.out]; exact HMAY.out, by rw [HZN.out]; exact c⟩
                    · rw [if_neg c]; exact check_bad fun h => c (by have := h.2.fits; rwa [HZN.out] at this))
                  clear hk hlt hfit
                  by_cases c : bytesM n ≤ zn
                  · have HX : Hid (E = 0) := Lib.hid (by rw [HEQ.out, if_pos c])
                    have c1 : ¬ z < ((bytesM n : Nat) : Int) := by have := HZ1.out; omega
                    clear c
                    go_wp2_with ((go_at_call 48; refine HBY.out.mono ?_; rintro e w3 ⟨rfl, hc3⟩; have HC3 := Lib.hid hc3; clear hc3))
                    go_ret
                    exact ⟨congrArg (fun x => Ending.returned (Value.int IntKind.i64 x)) HX.out.symm, (HCH.out.trans HB.out.ch fun _ h => h.elim).trans HC3.out fun _ h => h.elim⟩
                  · have HX : Hid (E = 1) := Lib.hid (by rw [HEQ.out, if_neg c])
                    have c1 : z < ((bytesM n : Nat) : Int) := by have := HZ1.out; omega
                    clear c
                    go_wp2_with ((go_at_call 48; refine HBY.out.mono ?_; rintro e w3 ⟨rfl, hc3⟩; have HC3 := Lib.hid hc3; clear hc3))
                    go_ret
                    exact ⟨congrArg (fun x => Ending.returned (Value.int IntKind.i64 x)) HX.out.symm, (HCH.out.trans HB.out.ch fun _ h => h.elim).trans HC3.out fun _ h => h.elim⟩
            · have b3 : ((orderM zn : Nat) : Int) < (n.kids.length : Int) := by omega
              have HX : Hid (E = 1) := Lib.hid (HE.out.trans (check_bad fun h => a3 (HNI.out h.2).2.2.1))
              clear a1 a2 a3
              go_wp2_with fail
              go_ret
              exact ⟨congrArg (fun x => Ending.returned (Value.int IntKind.i64 x)) HX.out.symm, HCH.out.trans HB.out.ch fun _ h => h.elim⟩
          · have b2 : ((n.kids.length : Int) != (n.keys.length : Int) + 1) = true := by rw [bne_iff_ne]; omega
            have HX : Hid (E = 1) := Lib.hid (HE.out.trans (check_bad fun h => a2 (HNI.out h.2).2.1))
            clear a1 a2
            go_wp2_with fail
            go_ret
            exact ⟨congrArg (fun x => Ending.returned (Value.int IntKind.i64 x)) HX.out.symm, HCH.out.trans HB.out.ch fun _ h => h.elim⟩
        · have b1 : ((n.vals.length : Int) != 0) = true := by rw [bne_iff_ne]; omega
          have HX : Hid (E = 1) := Lib.hid (HE.out.trans (check_bad fun h => a1 (HNI.out h.2).1))
          clear a1
          go_wp2_with fail
          go_ret
          exact ⟨congrArg (fun x => Ending.returned (Value.int IntKind.i64 x)) HX.out.symm, HCH.out.trans HB.out.ch fun _ h => h.elim⟩
  · rw [show sizeE z = 1 from if_neg hz] at HM HO
    have HX : Hid (E = 1) := Lib.hid (HE.out.trans (check_bad fun h => hz h.1))
    clear hz
    go_enter Try.func46, Try.ntmps46
    go_upto_region 1 with fail
    rw [← hW1]
    generalize W.heap.size = B at *
    clear hW1 hlt
    go_wp2_with (first
      | ((go_at_call 42; refine (HM.out _).mono ?_; rintro e w' ⟨rfl, rfl⟩))
      | ((go_at_call 44; refine (HO.out _).mono ?_; rintro e w' ⟨rfl, rfl⟩)))
    go_ret
    exact ⟨congrArg (fun x => Ending.returned (Value.int IntKind.i64 x)) HX.out.symm, HCH.out⟩
end Go.Proofs.Ytfgcbbbhnnikdaa.pg
