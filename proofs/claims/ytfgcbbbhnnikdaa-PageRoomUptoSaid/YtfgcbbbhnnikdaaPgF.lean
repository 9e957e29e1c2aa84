/-
  Layer 7, the program: a node that may stand in a block.
-/
import Derived.Test.YtfgcbbbhnnikdaaPgE
namespace Go.Proofs.Ytfgcbbbhnnikdaa.pg
open Go.ChangeShapes Go.WideShapes Go.ChangeAt Go.RowKit mem
set_option linter.unusedVariables false

def noZero (ks : List Nat) : Prop := ∀ i, i < ks.length → ks.getD i 0 ≠ 0
instance (ks : List Nat) : Decidable (noZero ks) := inferInstanceAs (Decidable (∀ i, i < ks.length → ks.getD i 0 ≠ 0))
instance (n : Nd) (z : Nat) : Decidable (leafOk n z) := inferInstanceAs (Decidable (_ ∧ _ ∧ ∀ i, i < n.keys.length → entOk n z i))
instance (n : Nd) (z : Nat) : Decidable (innerOk n z) := inferInstanceAs (Decidable (_ ∧ _ ∧ _ ∧ ∀ i, i < n.kids.length → kid n i ≠ 0))
theorem kid_get {ks : List Nat} {i : Nat} (h : i < ks.length) : ks.getD i 0 ∈ ks := by
  rw [List.getD_eq_getElem?_getD, List.getElem?_eq_getElem h]; exact List.getElem_mem h

set_option maxHeartbeats 1000000 in
theorem index_any {W : World} {v : Value} {ks : List Nat} (h : KidsIn W v ks) (hl : ks.length ≤ 35184372088832) :
    Calls Try.prog 101 #[v, .int .u32 0] W fun e w' => (∃ r : Int, e = .returned (.int .i64 r) ∧ decide (0 ≤ r) = !decide (noZero ks)) ∧ w' = W := by
  have HS := Lib.hid h
  obtain ⟨ao, cap, rfl, _⟩ := id h
  have hl2 : (ks.length : Int) ≤ 35184372088832 := by omega
  obtain ⟨R, hR⟩ : ∃ R, R = decide (noZero ks) := ⟨_, rfl⟩
  rw [← hR]
  have HR := Lib.hid hR
  clear h hl hR
  go_enter Try.func101, Try.ntmps101
  go_wp2_with fail
  go_loopw [8] (fun i wr => ∃ k : Nat, k ≤ ks.length ∧ i = .int .i64 ↑k ∧ (∀ j, j < k → ks.getD j 0 ≠ 0) ∧ W = wr) (fun i _ => ks.length - (intOf i).toNat)
  case atStart => exact ⟨0, Nat.zero_le _, rfl, fun j hj => absurd hj (Nat.not_lt_zero j), rfl⟩
  case round =>
    obtain ⟨k, hk, rfl, hall, rfl⟩ := hrel
    have HALL := Lib.hid hall
    clear hall
    by_cases hlt : k < ks.length
    · obtain ⟨b, o, cap', e, hc⟩ := HS.out.at' hlt
      cases e
      have e1 : IntKind.i64.wrap ((k : Int) + 1) = (k : Int) + 1 := IntWalk.i64_in _ (by omega)
      have HLT := Lib.hid hlt
      have k1 : (k : Int) < ks.length := by omega
      by_cases c : ks.getD k 0 = 0
      · have HB : Hid (decide (noZero ks) = false) := Lib.hid (decide_eq_false fun h => h k hlt c)
        rw [c] at hc
        clear hk hlt c
        go_wp2_with fail
        go_ret
        exact ⟨⟨_, rfl, by rw [HR.out, HB.out]; simp⟩, rfl⟩
      · have HN : Hid (∀ j, j < k + 1 → ks.getD j 0 ≠ 0) := Lib.hid fun j hj => by
          by_cases cj : j = k
          · rw [cj]; exact c
          · exact HALL.out j (by omega)
        have c0 : ((0 : Int) == ((ks.getD k 0 : Nat) : Int)) = false := by rw [beq_eq_false_iff_ne]; omega
        generalize ks.getD k 0 = x at hc c0
        clear hk hlt c
        go_wp2_with fail
        go_roundw
        case rel => exact ⟨k + 1, by have := HLT.out; omega, by go_num, HN.out, by first | trivial | rfl⟩
        case measure => simp [intOf] <;> omega
    · obtain rfl : k = ks.length := by omega
      have HB : Hid (decide (noZero ks) = true) := Lib.hid (decide_eq_true HALL.out)
      clear hk hlt
      go_wp2_with fail
      go_ret
      exact ⟨⟨_, rfl, by rw [HR.out, HB.out]; rfl⟩, rfl⟩
theorem contains_any {W : World} {v : Value} {ks : List Nat} (h : KidsIn W v ks) (hl : ks.length ≤ 35184372088832) :
    Calls Try.prog 95 #[v, .int .u32 0] W fun e w' => e = .returned (.bool (!decide (noZero ks))) ∧ w' = W := by
  have HI := Lib.hid (index_any h hl)
  obtain ⟨R, hR⟩ : ∃ R, R = decide (noZero ks) := ⟨_, rfl⟩
  rw [← hR] at HI ⊢
  clear h hl hR
  go_enter Try.func95, Try.ntmps95
  go_wp2_with (go_at_call 101; refine HI.out.mono ?_; rintro e w' ⟨⟨r, rfl, hr⟩, rfl⟩; have HRR := Lib.hid hr; clear hr)
  go_ret
  exact ⟨congrArg (fun b => Ending.returned (Value.bool b)) HRR.out, rfl⟩

set_option maxHeartbeats 1000000 in
theorem leaf_any {W : World} {kv vv iv : Value} {n : Nd} (h : NodeIn W kv vv iv n) (ok : NodeOk n) (hr : riseM n.keys) (z : Int) (hz : okSz z) :
    Calls Try.prog 80 #[ndV n kv vv iv, .int .i64 z] W fun e w' => e = .returned (.bool (decide (leafOk n z.toNat))) ∧ Ch0 W w' := by
  obtain ⟨W1, hW1, hch, h1, c0, c1, c2, c3, hlt⟩ := box_node h 66
  have HN := Lib.hid h1
  obtain ⟨⟨ka, kc, rfl⟩, ⟨va, vc, rfl⟩, ⟨ia, ic, rfl⟩⟩ := node_forms h
  have HCH := Lib.hid hch
  have HOK := Lib.hid ok
  have HRI := Lib.hid hr
  have hkl : (n.keys.length : Int) ≤ 8796093022208 := by have := ok.keys; omega
  have hvl : (n.vals.length : Int) ≤ 8796093022208 := by have := ok.vals; omega
  have hil : (n.kids.length : Int) ≤ 35184372088832 := by have := ok.kids; omega
  have HM : Hid (Calls Try.prog 41 #[.int .i64 z] W1 fun e w' => e = .returned (.tuple #[.int .i64 (mostM z.toNat : Nat), .int .i64 0]) ∧ W1 = w') := Lib.hid (by
    have := pmost_any z W1
    rw [show mostI z = (mostM z.toNat : Nat) from if_pos hz, show sizeE z = 0 from if_pos hz] at this
    exact this)
  have hm0 := (most_facts hz).2.2
  obtain ⟨R, hR⟩ : ∃ R, R = decide (leafOk n z.toNat) := ⟨_, rfl⟩
  rw [← hR]
  have HR := Lib.hid hR
  generalize z.toNat = zn at HM HR hm0
  clear h h1 ok hch hR hr hz
  show Calls _ _ #[.agg #[.bool n.leaf, _, _, _], _] _ _
  go_enter Try.func80, Try.ntmps80
  go_upto_region 1 with fail
  rw [← hW1]
  generalize W.heap.size = B at *
  clear hW1
  by_cases a1 : n.vals.length = n.keys.length
  · have b1 : ((n.vals.length : Int) != (n.keys.length : Int)) = false := by rw [bne_eq_false_iff_eq]; omega
    by_cases a2 : n.kids.length = 0
    · have b2 : ¬ (0 : Int) < (n.kids.length : Int) := by omega
      have HA := Lib.hid (And.intro a1 a2)
      clear a1 a2
      go_wp2_with (go_at_call 41; refine HM.out.mono ?_; rintro e w' ⟨rfl, rfl⟩)
      go_loopw [30] (fun i wr => ∃ k : Nat, k ≤ n.keys.length ∧ i = .int .i64 ↑k ∧ (∀ j, j < k → entOk n zn j) ∧ W1 = wr) (fun i _ => n.keys.length - (intOf i).toNat)
      case atStart => exact ⟨0, Nat.zero_le _, rfl, fun j hj => absurd hj (Nat.not_lt_zero j), rfl⟩
      case round =>
        obtain ⟨k, hk, rfl, hall, rfl⟩ := hrel
        have HALL := Lib.hid hall
        clear hall
        by_cases hlt : k < n.keys.length
        · obtain ⟨b, o, cap', e, hc⟩ := HN.out.keys.at' hlt
          cases e
          obtain ⟨b', o', cap2, e, hd⟩ := HN.out.vals.at' (show k < n.vals.length by have := HA.out.1; omega)
          cases e
          have e1 : IntKind.i64.wrap ((k : Int) + 1) = (k : Int) + 1 := IntWalk.i64_in _ (by omega)
          have HLT := Lib.hid hlt
          have k1 : (k : Int) < n.keys.length := by omega
          have k2 : (k : Int) < n.vals.length := by have := HA.out.1; omega
          have x1 : (n.keys.getD k emp).size ≤ 64 := (rise_size HRI.out hlt).2
          have x2 : (n.vals.getD k emp).size ≤ 140737488351232 := HOK.out.val _ (getD_mem (by have := HA.out.1; omega))
          have HEN : Hid (entOk n zn k ↔ 3 + (n.keys.getD k emp).size + (n.vals.getD k emp).size ≤ mostM zn) := Lib.hid Iff.rfl
          generalize n.keys.getD k emp = x at hc x1 HEN
          generalize n.vals.getD k emp = y at hd x2 HEN
          have e2 : IntKind.i64.wrap (3 + (x.size : Int)) = 3 + (x.size : Int) := IntWalk.i64_in _ (by omega)
          have e3 : IntKind.i64.wrap (3 + (x.size : Int) + (y.size : Int)) = 3 + (x.size : Int) + (y.size : Int) := IntWalk.i64_in _ (by omega)
          by_cases c : 3 + x.size + y.size ≤ mostM zn
          · have HNX : Hid (∀ j, j < k + 1 → entOk n zn j) := Lib.hid fun j hj => by
              by_cases cj : j = k
              · rw [cj]; exact HEN.out.2 c
              · exact HALL.out j (by omega)
            have c1 : ¬ ((mostM zn : Nat) : Int) < 3 + (x.size : Int) + (y.size : Int) := by omega
            clear hk hlt c x1 x2
            go_wp2_with fail
            go_roundw
            case rel => exact ⟨k + 1, by have := HLT.out; omega, by go_num, HNX.out, by first | trivial | rfl⟩
            case measure => simp [intOf] <;> omega
          · have HB : Hid (decide (leafOk n zn) = false) := Lib.hid (decide_eq_false fun h => c (HEN.out.1 (h.2.2 k hlt)))
            have c1 : ((mostM zn : Nat) : Int) < 3 + (x.size : Int) + (y.size : Int) := by omega
            clear hk hlt c x1 x2
            go_wp2_with fail
            go_ret
            exact ⟨congrArg (fun b => Ending.returned (Value.bool b)) (HR.out.trans HB.out).symm, HCH.out⟩
        · obtain rfl : k = n.keys.length := by omega
          have HB : Hid (decide (leafOk n zn) = true) := Lib.hid (decide_eq_true ⟨HA.out.1, HA.out.2, HALL.out⟩)
          clear hk hlt
          go_wp2_with fail
          go_ret
          exact ⟨congrArg (fun b => Ending.returned (Value.bool b)) (HR.out.trans HB.out).symm, HCH.out⟩
    · have b2 : (0 : Int) < (n.kids.length : Int) := by omega
      have HB : Hid (decide (leafOk n zn) = false) := Lib.hid (decide_eq_false fun h => a2 h.2.1)
      clear a1 a2
      go_wp2_with fail
      go_ret
      exact ⟨congrArg (fun b => Ending.returned (Value.bool b)) (HR.out.trans HB.out).symm, HCH.out⟩
  · have b1 : ((n.vals.length : Int) != (n.keys.length : Int)) = true := by rw [bne_iff_ne]; omega
    have HB : Hid (decide (leafOk n zn) = false) := Lib.hid (decide_eq_false fun h => a1 h.1)
    clear a1
    go_wp2_with fail
    go_ret
    exact ⟨congrArg (fun b => Ending.returned (Value.bool b)) (HR.out.trans HB.out).symm, HCH.out⟩
end Go.Proofs.Ytfgcbbbhnnikdaa.pg
