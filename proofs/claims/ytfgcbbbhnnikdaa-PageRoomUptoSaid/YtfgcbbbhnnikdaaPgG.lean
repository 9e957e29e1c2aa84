/-
  Layer 7, the program: Check.
-/
import Derived.Test.YtfgcbbbhnnikdaaPgF
namespace Go.Proofs.Ytfgcbbbhnnikdaa.pg
open Go.ChangeShapes Go.WideShapes Go.ChangeAt Go.RowKit mem
set_option linter.unusedVariables false

theorem sumB_le (m : Nat) : ∀ xs : List ByteArray, (∀ x ∈ xs, x.size ≤ m) → sumB xs ≤ m * xs.length
  | [], _ => by simp [sumB]
  | x :: xs, h => by
    have h1 := sumB_le m xs fun y hy => h y (List.mem_cons_of_mem _ hy)
    have h2 := h x List.mem_cons_self
    unfold sumB at h1 ⊢
    rw [List.map_cons, List.sum_cons, List.length_cons, Nat.mul_succ]
    omega
theorem mem_getD {xs : List ByteArray} {x : ByteArray} (h : x ∈ xs) : ∃ i, i < xs.length ∧ xs.getD i emp = x := by
  obtain ⟨i, hi, e⟩ := List.mem_iff_getElem.1 h
  exact ⟨i, hi, by rw [List.getD_eq_getElem?_getD, List.getElem?_eq_getElem hi, e]; rfl⟩
/-- a node whose keys rise and whose lists may be has no more bytes than an int holds -/
theorem bytes_fit {n : Nd} {z : Nat} (ok : NodeOk n) (hz : z ≤ 4096) (hr : riseM n.keys) (m : mayBe n z) : bytesM n ≤ 9223372036854775807 := by
  have k1 := ok.keys
  have h1 : sumB n.keys ≤ 64 * n.keys.length := sumB_le 64 _ fun x hx => by
    obtain ⟨i, hi, e⟩ := mem_getD hx
    rw [← e]
    exact (rise_size hr hi).2
  unfold bytesM
  by_cases c : n.leaf = true
  · obtain ⟨v1, v2, v3⟩ := m.1 c
    have h2 : sumB n.vals ≤ 1023 * n.vals.length := sumB_le 1023 _ fun x hx => by
      obtain ⟨i, hi, e⟩ := mem_getD hx
      have := v3 i (by omega)
      unfold entOk at this
      have hm : mostM z ≤ 1023 := by unfold mostM; omega
      have hv : (val n i).size = x.size := by rw [← e]; rfl
      omega
    rw [if_pos c]
    omega
  · obtain ⟨v1, v2, v3, v4⟩ := m.2 (by simpa using c)
    rw [if_neg c]
    omega

set_option maxHeartbeats 1000000 in
theorem inner_any {W : World} {kv vv iv : Value} {n : Nd} (h : NodeIn W kv vv iv n) (ok : NodeOk n) (z : Int) (hz : okSz z) :
    Calls Try.prog 79 #[ndV n kv vv iv, .int .i64 z] W fun e w' => e = .returned (.bool (decide (innerOk n z.toNat))) ∧ Ch0 W w' := by
  obtain ⟨W1, hW1, hch, h1, c0, c1, c2, c3, hlt⟩ := box_node h 66
  obtain ⟨⟨ka, kc, rfl⟩, ⟨va, vc, rfl⟩, ⟨ia, ic, rfl⟩⟩ := node_forms h
  have HC := Lib.hid (contains_any h1.kids ok.kids)
  have HCH := Lib.hid hch
  have hkl : (n.keys.length : Int) ≤ 8796093022208 := by have := ok.keys; omega
  have HO : Hid (Calls Try.prog 43 #[.int .i64 z] W1 fun e w' => e = .returned (.tuple #[.int .i64 (orderM z.toNat : Nat), .int .i64 0]) ∧ W1 = w') := Lib.hid (by
    have := porder_any z W1
    rw [show orderI z = (orderM z.toNat : Nat) from if_pos hz, show sizeE z = 0 from if_pos hz] at this
    exact this)
  obtain ⟨R, hR⟩ : ∃ R, R = decide (innerOk n z.toNat) := ⟨_, rfl⟩
  rw [← hR]
  have HR : Hid (R = decide (n.vals.length = 0 ∧ n.kids.length = n.keys.length + 1 ∧ n.kids.length ≤ orderM z.toNat ∧ noZero n.kids)) := Lib.hid hR
  generalize z.toNat = zn at HO HR
  have e1 : IntKind.i64.wrap ((n.keys.length : Int) + 1) = (n.keys.length : Int) + 1 := IntWalk.i64_in _ (by omega)
  clear h h1 ok hch hR hz
  show Calls _ _ #[.agg #[.bool n.leaf, _, _, _], _] _ _
  go_enter Try.func79, Try.ntmps79
  go_upto_region 1 with fail
  rw [← hW1]
  generalize W.heap.size = B at *
  clear hW1
  by_cases a1 : n.vals.length = 0
  · have b1 : ((n.vals.length : Int) == 0) = true := by rw [beq_iff_eq]; omega
    by_cases a2 : n.kids.length = n.keys.length + 1
    · have b2 : ((n.kids.length : Int) == (n.keys.length : Int) + 1) = true := by rw [beq_iff_eq]; omega
      by_cases a3 : n.kids.length ≤ orderM zn
      · have b3 : (n.kids.length : Int) ≤ ((orderM zn : Nat) : Int) := by omega
        have HB : Hid (R = decide (noZero n.kids)) := Lib.hid (by
          rw [HR.out]
          by_cases c : noZero n.kids
          · rw [decide_eq_true c, decide_eq_true ⟨a1, a2, a3, c⟩]
          · rw [decide_eq_false c, decide_eq_false fun h => c h.2.2.2])
        generalize decide (noZero n.kids) = Z at HC HB
        clear a1 a2 a3
        go_wp2_with (first
          | ((go_at_call 43; refine HO.out.mono ?_; rintro e w' ⟨rfl, rfl⟩))
          | ((go_at_call 95; refine HC.out.mono ?_; rintro e w' ⟨rfl, rfl⟩)))
        go_ret
        exact ⟨by rw [HB.out]; cases Z <;> rfl, HCH.out⟩
      · have b3 : ¬ (n.kids.length : Int) ≤ ((orderM zn : Nat) : Int) := by omega
        have HB : Hid (R = false) := Lib.hid (by rw [HR.out]; exact decide_eq_false fun h => a3 h.2.2.1)
        clear a1 a2 a3
        go_wp2_with ((go_at_call 43; refine HO.out.mono ?_; rintro e w' ⟨rfl, rfl⟩))
        go_ret
        exact ⟨congrArg (fun b => Ending.returned (Value.bool b)) HB.out.symm, HCH.out⟩
    · have b2 : ((n.kids.length : Int) == (n.keys.length : Int) + 1) = false := by rw [beq_eq_false_iff_ne]; omega
      have HB : Hid (R = false) := Lib.hid (by rw [HR.out]; exact decide_eq_false fun h => a2 h.2.1)
      clear a1 a2
      go_wp2_with ((go_at_call 43; refine HO.out.mono ?_; rintro e w' ⟨rfl, rfl⟩))
      go_ret
      exact ⟨congrArg (fun b => Ending.returned (Value.bool b)) HB.out.symm, HCH.out⟩
  · have b1 : ((n.vals.length : Int) == 0) = false := by rw [beq_eq_false_iff_ne]; omega
    have HB : Hid (R = false) := Lib.hid (by rw [HR.out]; exact decide_eq_false fun h => a1 h.1)
    clear a1
    go_wp2_with ((go_at_call 43; refine HO.out.mono ?_; rintro e w' ⟨rfl, rfl⟩))
    go_ret
    exact ⟨congrArg (fun b => Ending.returned (Value.bool b)) HB.out.symm, HCH.out⟩

instance (n : Nd) (z : Nat) : Decidable (mayBe n z) := inferInstanceAs (Decidable (_ ∧ _))
open Classical in
noncomputable def checkE (n : Nd) (z : Int) : Int := if okSz z ∧ CheckM n z.toNat then 0 else 1
theorem check_ok {n : Nd} {z : Int} (h : okSz z) (c : CheckM n z.toNat) : checkE n z = 0 := if_pos ⟨h, c⟩
theorem check_bad {n : Nd} {z : Int} (h : ¬ (okSz z ∧ CheckM n z.toNat)) : checkE n z = 1 := if_neg h

set_option maxHeartbeats 4000000 in
theorem check_core {W W1 : World} {lf r m : Bool} {a1 a2 a3 : Option Addr} {n1 n2 n3 d1 d2 d3 : Nat} {b z E : Int} (hW1 : W1 = W.alloc (.cells #[.bool lf, .slice a1 n1 d1, .slice a2 n2 d2, .slice a3 n3 d3] 66))
    (c0 : W1.cell? ⟨W.heap.size, 0, none⟩ = some (.bool lf)) (c1 : W1.cell? ⟨W.heap.size, 1, none⟩ = some (.slice a1 n1 d1)) (c2 : W1.cell? ⟨W.heap.size, 2, none⟩ = some (.slice a2 n2 d2)) (c3 : W1.cell? ⟨W.heap.size, 3, none⟩ = some (.slice a3 n3 d3)) (HCH : Hid (Ch0 W W1))
    (HSZ : Hid (Calls Try.prog 49 #[.int .i64 z] W1 fun e w' => e = .returned (.int .i64 0) ∧ W1 = w'))
    (HRS : Hid (Calls Try.prog 81 #[.slice a1 n1 d1] W1 fun e w' => e = .returned (.bool r) ∧ w' = W1))
    (HLE : Hid (r = true → lf = true → Calls Try.prog 80 #[.agg #[.bool lf, .slice a1 n1 d1, .slice a2 n2 d2, .slice a3 n3 d3], .int .i64 z] W1 fun e w' => e = .returned (.bool m) ∧ Ch0 W1 w'))
    (HIN : Hid (r = true → lf = false → Calls Try.prog 79 #[.agg #[.bool lf, .slice a1 n1 d1, .slice a2 n2 d2, .slice a3 n3 d3], .int .i64 z] W1 fun e w' => e = .returned (.bool m) ∧ Ch0 W1 w'))
    (HBY : Hid (r = true → m = true → ∀ W2, Ch0 W1 W2 → Calls Try.prog 47 #[.agg #[.bool lf, .slice a1 n1 d1, .slice a2 n2 d2, .slice a3 n3 d3]] W2 fun e w' => e = .returned (.int .i64 b) ∧ Ch0 W2 w'))
    (HE : Hid (E = if r = true ∧ m = true ∧ ¬ z < b then 0 else 1)) :
    Calls Try.prog 45 #[.agg #[.bool lf, .slice a1 n1 d1, .slice a2 n2 d2, .slice a3 n3 d3], .int .i64 z] W fun e w' => e = .returned (.int .i64 E) ∧ Ch0 W w' := by
  have HEX : Hid ((r = true → m = true → z < b → E = 1) ∧ (r = true → m = true → ¬ z < b → E = 0) ∧ (r = false → E = 1) ∧ (m = false → E = 1)) := Lib.hid (by
    rw [HE.out]
    refine ⟨fun h1 h2 h3 => if_neg fun h => h.2.2 h3, fun h1 h2 h3 => if_pos ⟨h1, h2, h3⟩, fun h1 => if_neg fun h => by rw [h1] at h; exact absurd h.1 (by decide), fun h1 => if_neg fun h => by rw [h1] at h; exact absurd h.2.1 (by decide)⟩)
  clear HE
  by_cases hb : z < b
  all_goals
    have HB := Lib.hid hb
    cases lf <;> cases r <;> cases m
    all_goals
      go_enter Try.func45, Try.ntmps45
      go_upto_region 1 with fail
      rw [← hW1]
      generalize W.heap.size = B at *
      clear hW1
      go_wp2_with (first
        | ((go_at_call 49; refine HSZ.out.mono ?_; rintro e w' ⟨rfl, rfl⟩))
        | ((go_at_call 81; refine HRS.out.mono ?_; rintro e w' ⟨rfl, rfl⟩))
        | ((go_at_call 80; refine (HLE.out (by first | rfl | trivial) (by first | rfl | trivial)).mono ?_; rintro e w2 ⟨rfl, hc2⟩; have d0 := hc2.cell c0; have d1 := hc2.cell c1; have d2 := hc2.cell c2; have d3 := hc2.cell c3; have HC2 := Lib.hid hc2; clear hc2))
        | ((go_at_call 79; refine (HIN.out (by first | rfl | trivial) (by first | rfl | trivial)).mono ?_; rintro e w2 ⟨rfl, hc2⟩; have d0 := hc2.cell c0; have d1 := hc2.cell c1; have d2 := hc2.cell c2; have d3 := hc2.cell c3; have HC2 := Lib.hid hc2; clear hc2))
        | ((go_at_call 47; refine (HBY.out (by first | rfl | trivial) (by first | rfl | trivial) _ HC2.out).mono ?_; rintro e w3 ⟨rfl, hc3⟩; have HC3 := Lib.hid hc3; clear hc3)))
      go_ret
      first
        | exact ⟨congrArg (fun b => Ending.returned (Value.int .i64 b)) (HEX.out.1 (by first | rfl | trivial) (by first | rfl | trivial) HB.out).symm, (HCH.out.trans HC2.out fun _ h => h.elim).trans HC3.out fun _ h => h.elim⟩
        | exact ⟨congrArg (fun b => Ending.returned (Value.int .i64 b)) (HEX.out.2.1 (by first | rfl | trivial) (by first | rfl | trivial) HB.out).symm, (HCH.out.trans HC2.out fun _ h => h.elim).trans HC3.out fun _ h => h.elim⟩
        | exact ⟨congrArg (fun b => Ending.returned (Value.int .i64 b)) (HEX.out.2.2.2 (by first | rfl | trivial)).symm, HCH.out.trans HC2.out fun _ h => h.elim⟩
        | exact ⟨congrArg (fun b => Ending.returned (Value.int .i64 b)) (HEX.out.2.2.1 (by first | rfl | trivial)).symm, HCH.out⟩
theorem pcheck_any {W : World} {kv vv iv : Value} {n : Nd} (h : NodeIn W kv vv iv n) (ok : NodeOk n) (z : Int) :
    Calls Try.prog 45 #[ndV n kv vv iv, .int .i64 z] W fun e w' => e = .returned (.int .i64 (checkE n z)) ∧ Ch0 W w' := by
  obtain ⟨W1, hW1, hch, h1, c0, c1, c2, c3, hlt⟩ := box_node h 66
  obtain ⟨⟨ka, kc, rfl⟩, ⟨va, vc, rfl⟩, ⟨ia, ic, rfl⟩⟩ := node_forms h
  by_cases hz : okSz z
  · have hsz := psize_any z W1
    rw [show sizeE z = 0 from if_pos hz] at hsz
    have hdef : mayBe n z.toNat ↔ (if n.leaf = true then leafOk n z.toNat else innerOk n z.toNat) := by
      unfold mayBe
      cases n.leaf <;> simp
    have hz4 : z.toNat ≤ 4096 := by have := hz.2.1; omega
    have hz1 : z = (z.toNat : Nat) := by have := hz.1; omega
    refine check_core (m := decide (mayBe n z.toNat)) (b := (bytesM n : Nat)) (r := decide (riseM n.keys)) hW1 c0 c1 c2 c3 (Lib.hid hch) (Lib.hid hsz) (Lib.hid (rise_any h1.keys ok.keys)) (Lib.hid fun hr hl => ?_) (Lib.hid fun hr hl => ?_) (Lib.hid fun hr hm W2 hc => ?_) (Lib.hid ?_)
    · have e : decide (mayBe n z.toNat) = decide (leafOk n z.toNat) := by rw [decide_eq_decide, hdef, if_pos hl]
      rw [e]
      exact leaf_any h1 ok (of_decide_eq_true hr) z hz
    · have e : decide (mayBe n z.toNat) = decide (innerOk n z.toNat) := by rw [decide_eq_decide, hdef, if_neg (by rw [hl]; decide)]
      rw [e]
      exact inner_any h1 ok z hz
    · have := pbytes_any (h1.kept hc) ok
      rw [wi_small (bytes_fit ok hz4 (of_decide_eq_true hr) (of_decide_eq_true hm))] at this
      exact this
    · unfold checkE
      by_cases c : CheckM n z.toNat
      · have hf := c.fits
        rw [if_pos ⟨hz, c⟩, if_pos ⟨decide_eq_true c.rise, decide_eq_true c.may, by omega⟩]
      · rw [if_neg fun h => c h.2, if_neg fun h => c ⟨of_decide_eq_true h.1, of_decide_eq_true h.2.1, by have := h.2.2; omega⟩]
  · have hsz := psize_any z W1
    rw [show sizeE z = 1 from if_neg hz] at hsz
    rw [check_bad fun h => hz h.1]
    have HSZ := Lib.hid hsz
    have HCH := Lib.hid hch
    clear h h1 hz hsz hch
    show Calls _ _ #[.agg #[.bool n.leaf, _, _, _], _] _ _
    go_enter Try.func45, Try.ntmps45
    go_upto_region 1 with fail
    rw [← hW1]
    generalize W.heap.size = B at *
    clear hW1
    go_wp2_with ((go_at_call 49; refine HSZ.out.mono ?_; rintro e w' ⟨rfl, rfl⟩))
    go_ret
    exact ⟨rfl, HCH.out⟩
end Go.Proofs.Ytfgcbbbhnnikdaa.pg
