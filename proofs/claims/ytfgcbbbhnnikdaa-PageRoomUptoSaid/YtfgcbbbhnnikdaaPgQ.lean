/-
  Layer 7, the law: Same, same: two nodes.
-/
import Derived.Test.YtfgcbbbhnnikdaaPgP
namespace Go.Proofs.Ytfgcbbbhnnikdaa.pg
open Go.ChangeShapes Go.WideShapes Go.ChangeAt Go.RowKit mem
set_option linter.unusedVariables false
theorem bytes_beq (x y : ByteArray) : (x.toList == y.toList) = decide (x = y) := by
  rw [ByteArray.toList_eq, ByteArray.toList_eq]
  by_cases h : x = y
  · subst h; simp
  · rw [decide_eq_false h, beq_eq_false_iff_ne]
    intro e
    exact h (ba_ext e)
open Classical in
noncomputable def sameB (n m : Nd) : Bool := decide (n = m)
open Classical in
theorem same_yes {n m : Nd} (h : n = m) : sameB n m = true := decide_eq_true h
open Classical in
theorem same_no {n m : Nd} (h : n ≠ m) : sameB n m = false := decide_eq_false h
theorem list_same {α : Type} {l m : List α} {d : α} (hl : l.length = m.length) (h : ∀ i, i < l.length → l.getD i d = m.getD i d) : l = m := by
  apply List.ext_getElem hl
  intro i h1 h2
  have := h i h1
  rwa [List.getD_eq_getElem?_getD, List.getD_eq_getElem?_getD, List.getElem?_eq_getElem h1, List.getElem?_eq_getElem h2] at this
theorem nd_same {n m : Nd} (h1 : n.leaf = m.leaf) (h2 : n.keys = m.keys) (h3 : n.vals = m.vals) (h4 : n.kids = m.kids) : n = m := by
  cases n; cases m; simp_all
structure Pair (W1 wr : World) (B B2 : Nat) (lf lf2 : Bool) (kv vv iv kv2 vv2 iv2 : Value) : Prop where
  a : Box W1 wr B lf kv vv iv
  b : Box W1 wr B2 lf2 kv2 vv2 iv2
theorem Pair.drewN {W1 wr : World} {B B2 : Nat} {lf lf2 : Bool} {kv vv iv kv2 vv2 iv2 : Value} (h : Pair W1 wr B B2 lf lf2 kv vv iv kv2 vv2 iv2) (q : Nat) : Pair W1 (wr.drewN q) B B2 lf lf2 kv vv iv kv2 vv2 iv2 := ⟨h.a.drewN q, h.b.drewN q⟩
set_option maxHeartbeats 8000000 in
set_option maxRecDepth 8000 in
theorem Same_any {W : World} {kv vv iv kv2 vv2 iv2 : Value} {n m : Nd} (h : NodeIn W kv vv iv n) (h2 : NodeIn W kv2 vv2 iv2 m) (ok : NodeOk n) (ok2 : NodeOk m) :
    Calls Try.prog 56 #[ndV n kv vv iv, ndV m kv2 vv2 iv2] W fun e w' => e = .returned (.bool (sameB n m)) ∧ Ch0 W w' := by
  have hs := st_new (st_new (St.nil (Ch.refl _ W)) [.bool n.leaf, kv, vv, iv] 65) [.bool m.leaf, kv2, vv2, iv2] 65
  have hch := hs.ch
  obtain ⟨⟨ka, kc, rfl⟩, ⟨va, vc, rfl⟩, ⟨ia, ic, rfl⟩⟩ := node_forms h
  obtain ⟨⟨ka2, kc2, rfl⟩, ⟨va2, vc2, rfl⟩, ⟨ia2, ic2, rfl⟩⟩ := node_forms h2
  simp only [World.size_alloc] at hs
  have e1 : (.cells #[.bool n.leaf, .slice ka n.keys.length kc, .slice va n.vals.length vc, .slice ia n.kids.length ic] 65 : Obj) = .cells [Value.bool n.leaf, .slice ka n.keys.length kc, .slice va n.vals.length vc, .slice ia n.kids.length ic].toArray 65 := rfl
  obtain ⟨W1, hW1⟩ : ∃ W1, W1 = (W.alloc (.cells #[.bool n.leaf, .slice ka n.keys.length kc, .slice va n.vals.length vc, .slice ia n.kids.length ic] 65)).alloc (.cells #[.bool m.leaf, .slice ka2 m.keys.length kc2, .slice va2 m.vals.length vc2, .slice ia2 m.kids.length ic2] 65) := ⟨_, rfl⟩
  have HPR : Hid (Pair W1 W1 W.heap.size (W.heap.size + 1) n.leaf m.leaf (.slice ka n.keys.length kc) (.slice va n.vals.length vc) (.slice ia n.kids.length ic) (.slice ka2 m.keys.length kc2) (.slice va2 m.vals.length vc2) (.slice ia2 m.kids.length ic2)) := Lib.hid (by
    rw [hW1]
    exact ⟨⟨Ch.refl _ _, st_cell hs.swap 0, st_cell hs.swap 1, st_cell hs.swap 2, st_cell hs.swap 3⟩, ⟨Ch.refl _ _, st_cell hs 0, st_cell hs 1, st_cell hs 2, st_cell hs 3⟩⟩)
  have HCH : Hid (Ch0 W W1) := Lib.hid (by rw [hW1]; exact hch)
  have HN : Hid (NodeIn W1 (.slice ka n.keys.length kc) (.slice va n.vals.length vc) (.slice ia n.kids.length ic) n) := Lib.hid (by rw [hW1]; exact h.kept hch)
  have HM : Hid (NodeIn W1 (.slice ka2 m.keys.length kc2) (.slice va2 m.vals.length vc2) (.slice ia2 m.kids.length ic2) m) := Lib.hid (by rw [hW1]; exact h2.kept hch)
  have hkl : (n.keys.length : Int) ≤ 8796093022208 := by have := ok.keys; omega
  have hvl : (n.vals.length : Int) ≤ 8796093022208 := by have := ok.vals; omega
  have hil : (n.kids.length : Int) ≤ 35184372088832 := by have := ok.kids; omega
  obtain ⟨R, hR⟩ : ∃ R, R = sameB n m := ⟨_, rfl⟩
  rw [← hR]
  have HR := Lib.hid hR
  have HNO : Hid (n ≠ m → R = false) := Lib.hid fun h => hR.trans (same_no h)
  clear h h2 ok ok2 hR hch hs e1
  show Calls _ _ #[.agg #[.bool n.leaf, _, _, _], .agg #[.bool m.leaf, _, _, _]] _ _
  have d0 := HPR.out.a.c0
  have d1 := HPR.out.a.c1
  have d2 := HPR.out.a.c2
  have d3 := HPR.out.a.c3
  have f0 := HPR.out.b.c0
  have f1 := HPR.out.b.c1
  have f2 := HPR.out.b.c2
  have f3 := HPR.out.b.c3
  go_enter Try.func56, Try.ntmps56
  go_upto_region 1 with fail
  rw [← hW1]
  generalize W.heap.size + 1 = B2 at *
  generalize W.heap.size = B at *
  clear hW1
  by_cases c1 : n.leaf = m.leaf
  · have b1 : (n.leaf == m.leaf) = true := by rw [c1]; cases m.leaf <;> rfl
    by_cases c2 : n.keys.length = m.keys.length
    · have b2 : ((n.keys.length : Int) != (m.keys.length : Int)) = false := by rw [bne_eq_false_iff_eq]; omega
      by_cases c3 : n.vals.length = m.vals.length
      · have b3 : ((n.vals.length : Int) != (m.vals.length : Int)) = false := by rw [bne_eq_false_iff_eq]; omega
        by_cases c4 : n.kids.length = m.kids.length
        · have b4 : ((n.kids.length : Int) != (m.kids.length : Int)) = false := by rw [bne_eq_false_iff_eq]; omega
          have HL := Lib.hid (And.intro c1 (And.intro c2 (And.intro c3 c4)))
          clear c1 c2 c3 c4
          go_upto_block 0 with fail
          clear b1 b2 b3 b4
          go_cut [5] from 40 to 57 (fun s wr => n.keys = m.keys ∧ Pair W1 wr B B2 n.leaf m.leaf (.slice ka n.keys.length kc) (.slice va n.vals.length vc) (.slice ia n.kids.length ic) (.slice ka2 m.keys.length kc2) (.slice va2 m.vals.length vc2) (.slice ia2 m.kids.length ic2))
          case first =>
            clear d0 d1 d2 d3 f0 f1 f2 f3
            go_wp2_with fail
            go_loopw [5] (fun i wr => ∃ k : Nat, k ≤ n.keys.length ∧ i = .int .i64 ↑k ∧ (∀ j, j < k → n.keys.getD j emp = m.keys.getD j emp) ∧ Pair W1 wr B B2 n.leaf m.leaf (.slice ka n.keys.length kc) (.slice va n.vals.length vc) (.slice ia n.kids.length ic) (.slice ka2 m.keys.length kc2) (.slice va2 m.vals.length vc2) (.slice ia2 m.kids.length ic2)) (fun i _ => n.keys.length - (intOf i).toNat)
            case atStart => exact ⟨0, Nat.zero_le _, rfl, fun j hj => absurd hj (Nat.not_lt_zero j), HPR.out⟩
            case round =>
              obtain ⟨k, hk, rfl, hall, hp⟩ := hrel
              have HALL := Lib.hid hall
              have HP := Lib.hid hp
              have d1 := hp.a.c1
              have f1 := hp.b.c1
              clear hall hp HPR
              by_cases hlt : k < n.keys.length
              · obtain ⟨b, o, cap', e, hc⟩ := (HN.out.keys.kept HP.out.a.ch).at' hlt
                cases e
                obtain ⟨b', o', cap2, e, hd⟩ := (HM.out.keys.kept HP.out.a.ch).at' (show k < m.keys.length by have := HL.out.2.1; omega)
                cases e
                have e1 : IntKind.i64.wrap ((k : Int) + 1) = (k : Int) + 1 := IntWalk.i64_in _ (by omega)
                have HLT := Lib.hid hlt
                have k1 : (k : Int) < n.keys.length := by omega
                have k2 : (k : Int) < m.keys.length := by have := HL.out.2.1; omega
                by_cases c : n.keys.getD k emp = m.keys.getD k emp
                · have HNX : Hid (∀ j, j < k + 1 → n.keys.getD j emp = m.keys.getD j emp) := Lib.hid fun j hj => by
                    by_cases cj : j = k
                    · rw [cj]; exact c
                    · exact HALL.out j (by omega)
                  have hb : ((n.keys.getD k emp).toList == (m.keys.getD k emp).toList) = true := by rw [bytes_beq, decide_eq_true c]
                  generalize n.keys.getD k emp = x at hc hb
                  generalize m.keys.getD k emp = y at hd hb
                  clear hk hlt c
                  go_upto_region 6 with fail
                  go_quiet (fail)
                  go_wp2_with fail
                  go_roundw
                  case rel => exact ⟨k + 1, by have := HLT.out; omega, by go_num, HNX.out, HP.out.drewN _⟩
                  case measure => simp [intOf] <;> omega
                · have HX : Hid (R = false) := Lib.hid (HNO.out fun h => c (by rw [h]))
                  have hb : ((n.keys.getD k emp).toList == (m.keys.getD k emp).toList) = false := by rw [bytes_beq, decide_eq_false c]
                  generalize n.keys.getD k emp = x at hc hb
                  generalize m.keys.getD k emp = y at hd hb
                  clear hk hlt c
                  go_upto_region 6 with fail
                  go_quiet (fail)
                  go_wp2_with fail
                  go_ret
                  exact ⟨congrArg (fun b => Ending.returned (Value.bool b)) HX.out.symm, HCH.out.trans (HP.out.drewN _).a.ch fun _ h => h.elim⟩
              · obtain rfl : k = n.keys.length := by omega
                clear hk hlt
                go_wp2_with fail
                go_meet
                exact ⟨list_same HL.out.2.1 HALL.out, HP.out⟩
          case rest =>
            obtain ⟨hkk, hp⟩ := hcut
            have HKK := Lib.hid hkk
            have HPR := Lib.hid hp
            clear hkk hp d0 d1 d2 d3 f0 f1 f2 f3
            go_upto_block 2 with fail
            go_cut [6] from 58 to 75 (fun s wr => n.vals = m.vals ∧ Pair W1 wr B B2 n.leaf m.leaf (.slice ka n.keys.length kc) (.slice va n.vals.length vc) (.slice ia n.kids.length ic) (.slice ka2 m.keys.length kc2) (.slice va2 m.vals.length vc2) (.slice ia2 m.kids.length ic2))
            case first =>
              go_wp2_with fail
              go_loopw [6] (fun i wr => ∃ k : Nat, k ≤ n.vals.length ∧ i = .int .i64 ↑k ∧ (∀ j, j < k → n.vals.getD j emp = m.vals.getD j emp) ∧ Pair W1 wr B B2 n.leaf m.leaf (.slice ka n.keys.length kc) (.slice va n.vals.length vc) (.slice ia n.kids.length ic) (.slice ka2 m.keys.length kc2) (.slice va2 m.vals.length vc2) (.slice ia2 m.kids.length ic2)) (fun i _ => n.vals.length - (intOf i).toNat)
              case atStart => exact ⟨0, Nat.zero_le _, rfl, fun j hj => absurd hj (Nat.not_lt_zero j), HPR.out⟩
              case round =>
                obtain ⟨k, hk, rfl, hall, hp⟩ := hrel
                have HALL := Lib.hid hall
                have HP := Lib.hid hp
                have d1 := hp.a.c2
                have f1 := hp.b.c2
                clear hall hp HPR
                by_cases hlt : k < n.vals.length
                · obtain ⟨b, o, cap', e, hc⟩ := (HN.out.vals.kept HP.out.a.ch).at' hlt
                  cases e
                  obtain ⟨b', o', cap2, e, hd⟩ := (HM.out.vals.kept HP.out.a.ch).at' (show k < m.vals.length by have := HL.out.2.2.1; omega)
                  cases e
                  have e1 : IntKind.i64.wrap ((k : Int) + 1) = (k : Int) + 1 := IntWalk.i64_in _ (by omega)
                  have HLT := Lib.hid hlt
                  have k1 : (k : Int) < n.vals.length := by omega
                  have k2 : (k : Int) < m.vals.length := by have := HL.out.2.2.1; omega
                  by_cases c : n.vals.getD k emp = m.vals.getD k emp
                  · have HNX : Hid (∀ j, j < k + 1 → n.vals.getD j emp = m.vals.getD j emp) := Lib.hid fun j hj => by
                      by_cases cj : j = k
                      · rw [cj]; exact c
                      · exact HALL.out j (by omega)
                    have hb : ((n.vals.getD k emp).toList == (m.vals.getD k emp).toList) = true := by rw [bytes_beq, decide_eq_true c]
                    generalize n.vals.getD k emp = x at hc hb
                    generalize m.vals.getD k emp = y at hd hb
                    clear hk hlt c
                    go_upto_region 11 with fail
                    go_quiet (fail)
                    go_wp2_with fail
                    go_roundw
                    case rel => exact ⟨k + 1, by have := HLT.out; omega, by go_num, HNX.out, HP.out.drewN _⟩
                    case measure => simp [intOf] <;> omega
                  · have HX : Hid (R = false) := Lib.hid (HNO.out fun h => c (by rw [h]))
                    have hb : ((n.vals.getD k emp).toList == (m.vals.getD k emp).toList) = false := by rw [bytes_beq, decide_eq_false c]
                    generalize n.vals.getD k emp = x at hc hb
                    generalize m.vals.getD k emp = y at hd hb
                    clear hk hlt c
                    go_upto_region 11 with fail
                    go_quiet (fail)
                    go_wp2_with fail
                    go_ret
                    exact ⟨congrArg (fun b => Ending.returned (Value.bool b)) HX.out.symm, HCH.out.trans (HP.out.drewN _).a.ch fun _ h => h.elim⟩
                · obtain rfl : k = n.vals.length := by omega
                  clear hk hlt
                  go_wp2_with fail
                  go_meet
                  exact ⟨list_same HL.out.2.2.1 HALL.out, HP.out⟩
            case rest =>
              obtain ⟨hvv, hp⟩ := hcut
              have HVV := Lib.hid hvv
              have HPR := Lib.hid hp
              clear hvv hp
              go_wp2_with fail
              go_loopw [7] (fun i wr => ∃ k : Nat, k ≤ n.kids.length ∧ i = .int .i64 ↑k ∧ (∀ j, j < k → n.kids.getD j 0 = m.kids.getD j 0) ∧ Pair W1 wr B B2 n.leaf m.leaf (.slice ka n.keys.length kc) (.slice va n.vals.length vc) (.slice ia n.kids.length ic) (.slice ka2 m.keys.length kc2) (.slice va2 m.vals.length vc2) (.slice ia2 m.kids.length ic2)) (fun i _ => n.kids.length - (intOf i).toNat)
              case atStart => exact ⟨0, Nat.zero_le _, rfl, fun j hj => absurd hj (Nat.not_lt_zero j), HPR.out⟩
              case round =>
                obtain ⟨k, hk, rfl, hall, hp⟩ := hrel
                have HALL := Lib.hid hall
                have HP := Lib.hid hp
                have d1 := hp.a.c3
                have f1 := hp.b.c3
                clear hall hp HPR
                by_cases hlt : k < n.kids.length
                · obtain ⟨b, o, cap', e, hc⟩ := (HN.out.kids.kept HP.out.a.ch).at' hlt
                  cases e
                  obtain ⟨b', o', cap2, e, hd⟩ := (HM.out.kids.kept HP.out.a.ch).at' (show k < m.kids.length by have := HL.out.2.2.2; omega)
                  cases e
                  have e1 : IntKind.i64.wrap ((k : Int) + 1) = (k : Int) + 1 := IntWalk.i64_in _ (by omega)
                  have HLT := Lib.hid hlt
                  have k1 : (k : Int) < n.kids.length := by omega
                  have k2 : (k : Int) < m.kids.length := by have := HL.out.2.2.2; omega
                  by_cases c : n.kids.getD k 0 = m.kids.getD k 0
                  · have HNX : Hid (∀ j, j < k + 1 → n.kids.getD j 0 = m.kids.getD j 0) := Lib.hid fun j hj => by
                      by_cases cj : j = k
                      · rw [cj]; exact c
                      · exact HALL.out j (by omega)
                    have hb : (((n.kids.getD k 0 : Nat) : Int) != ((m.kids.getD k 0 : Nat) : Int)) = false := by rw [bne_eq_false_iff_eq, c]
                    generalize n.kids.getD k 0 = x at hc hb
                    generalize m.kids.getD k 0 = y at hd hb
                    clear hk hlt c
                    go_upto_region 16 with fail
                    go_quiet (fail)
                    go_wp2_with fail
                    go_roundw
                    case rel => exact ⟨k + 1, by have := HLT.out; omega, by go_num, HNX.out, HP.out.drewN _⟩
                    case measure => simp [intOf] <;> omega
                  · have HX : Hid (R = false) := Lib.hid (HNO.out fun h => c (by rw [h]))
                    have hb : (((n.kids.getD k 0 : Nat) : Int) != ((m.kids.getD k 0 : Nat) : Int)) = true := by rw [bne_iff_ne]; omega
                    generalize n.kids.getD k 0 = x at hc hb
                    generalize m.kids.getD k 0 = y at hd hb
                    clear hk hlt c
                    go_upto_region 16 with fail
                    go_quiet (fail)
                    go_wp2_with fail
                    go_ret
                    exact ⟨congrArg (fun b => Ending.returned (Value.bool b)) HX.out.symm, HCH.out.trans (HP.out.drewN _).a.ch fun _ h => h.elim⟩
                · obtain rfl : k = n.kids.length := by omega
                  have HX : Hid (R = true) := Lib.hid (HR.out.trans (same_yes (nd_same HL.out.1 HKK.out HVV.out (list_same HL.out.2.2.2 HALL.out))))
                  clear hk hlt
                  go_wp2_with fail
                  go_ret
                  exact ⟨congrArg (fun b => Ending.returned (Value.bool b)) HX.out.symm, HCH.out.trans HP.out.a.ch fun _ h => h.elim⟩
        · have b4 : ((n.kids.length : Int) != (m.kids.length : Int)) = true := by rw [bne_iff_ne]; omega
          have HX : Hid (R = false) := Lib.hid (HNO.out fun h => c4 (by rw [h]))
          clear c1 c2 c3 c4
          go_wp2_with fail
          go_ret
          exact ⟨congrArg (fun b => Ending.returned (Value.bool b)) HX.out.symm, HCH.out⟩
      · have b3 : ((n.vals.length : Int) != (m.vals.length : Int)) = true := by rw [bne_iff_ne]; omega
        have HX : Hid (R = false) := Lib.hid (HNO.out fun h => c3 (by rw [h]))
        clear c1 c2 c3
        go_wp2_with fail
        go_ret
        exact ⟨congrArg (fun b => Ending.returned (Value.bool b)) HX.out.symm, HCH.out⟩
    · have b2 : ((n.keys.length : Int) != (m.keys.length : Int)) = true := by rw [bne_iff_ne]; omega
      have HX : Hid (R = false) := Lib.hid (HNO.out fun h => c2 (by rw [h]))
      clear c1 c2
      go_wp2_with fail
      go_ret
      exact ⟨congrArg (fun b => Ending.returned (Value.bool b)) HX.out.symm, HCH.out⟩
  · have b1 : (n.leaf == m.leaf) = false := by
      cases h1 : n.leaf <;> cases h2 : m.leaf <;> simp_all
    have HX : Hid (R = false) := Lib.hid (HNO.out fun h => c1 (by rw [h]))
    clear c1
    go_wp2_with fail
    go_ret
    exact ⟨congrArg (fun b => Ending.returned (Value.bool b)) HX.out.symm, HCH.out⟩
end Go.Proofs.Ytfgcbbbhnnikdaa.pg
