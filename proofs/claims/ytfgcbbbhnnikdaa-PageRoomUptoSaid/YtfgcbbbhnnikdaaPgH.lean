/-
  Layer 7, the document: Bytes, Key.
-/
import Derived.Test.YtfgcbbbhnnikdaaPgG
namespace Go.Proofs.Ytfgcbbbhnnikdaa.pg
open Go.ChangeShapes Go.WideShapes Go.ChangeAt Go.RowKit mem
set_option linter.unusedVariables false

theorem wi_one (a k : Nat) (i : Int) (h : i = (k : Int)) : IntKind.i64.wrap (wi a + i) = wi (a + k) := by rw [h, wi_add]
set_option maxHeartbeats 1000000 in
theorem rbytes_any {W : World} {kv vv iv : Value} {n : Nd} (h : NodeIn W kv vv iv n) (ok : NodeOk n) :
    Calls Try.prog 48 #[ndV n kv vv iv] W fun e w' => e = .returned (.int .i64 (wi (bytesM n))) ∧ Ch0 W w' := by
  obtain ⟨W1, hW1, hch, h1, c0, c1, c2, c3, hlt⟩ := box_node h 65
  have HN := Lib.hid h1
  obtain ⟨⟨ka, kc, rfl⟩, ⟨va, vc, rfl⟩, ⟨ia, ic, rfl⟩⟩ := node_forms h
  have HCH := Lib.hid hch
  have hkl : (n.keys.length : Int) ≤ 8796093022208 := by have := ok.keys; omega
  have hvl : (n.vals.length : Int) ≤ 8796093022208 := by have := ok.vals; omega
  have hil : (n.kids.length : Int) ≤ 35184372088832 := by have := ok.kids; omega
  obtain ⟨T, hT⟩ : ∃ T, T = wi (bytesM n) := ⟨_, rfl⟩
  rw [← hT]
  have e0 : IntKind.i64.wrap (4 * (n.kids.length : Int)) = ((4 * n.kids.length : Nat) : Int) := by rw [IntWalk.i64_in _ (by omega)]; omega
  obtain ⟨lf, hlf⟩ : ∃ lf, lf = n.leaf := ⟨_, rfl⟩
  have HL : Hid (lf = true → wi (3 + 3 * n.keys.length + sumB (n.keys.take n.keys.length) + sumB (n.vals.take n.vals.length)) = T) := Lib.hid fun c => by
    rw [hT, List.take_length, List.take_length]; unfold bytesM; rw [if_pos (by rw [← hlf]; exact c)]
  have HI : Hid (lf = false → wrap64 (wi (3 + 1 * n.keys.length + sumB (n.keys.take n.keys.length)) + ((4 * n.kids.length : Nat) : Int)) = T) := Lib.hid fun c => by
    rw [← IntWalk.i64_left, hT, List.take_length, wi_add]; unfold bytesM; rw [if_neg (by rw [← hlf, c]; decide)]; congr 1; omega
  generalize 4 * n.kids.length = ki at e0 HI
  obtain ⟨cc, hcc⟩ : ∃ cc : Nat, cc = if lf = true then 3 else 1 := ⟨_, rfl⟩
  have H3 : Hid (lf = true → cc = 3) := Lib.hid fun c => by rw [hcc, if_pos c]
  have H1 : Hid (lf = false → cc = 1) := Lib.hid fun c => by rw [hcc, if_neg (by rw [c]; decide)]
  clear hcc
  have H0 : Hid (wi (3 + cc * 0 + sumB (n.keys.take 0)) = 3) := Lib.hid (by rw [wi_small (by simp [sumB])]; simp [sumB])
  clear h h1 ok hch hT
  show Calls _ _ #[.agg #[.bool n.leaf, _, _, _]] _ _
  rw [← hlf] at c0 hW1 ⊢
  clear hlf
  go_enter Try.func48, Try.ntmps48
  go_upto_region 1 with fail
  rw [← hW1]
  generalize W.heap.size = B at *
  clear hW1
  go_upto_block 0 with fail
  go_cut [3] from 6 to 26 (fun s wr => s = .int .i64 (wi (3 + cc * n.keys.length + sumB (n.keys.take n.keys.length))) ∧ W1 = wr)
  case first =>
    go_wp2_with fail
    go_loopw [3, 4] (fun s i wr => ∃ k : Nat, k ≤ n.keys.length ∧ i = .int .i64 ↑k ∧ s = .int .i64 (wi (3 + cc * k + sumB (n.keys.take k))) ∧ W1 = wr) (fun _ i _ => n.keys.length - (intOf i).toNat)
    case atStart => exact ⟨0, Nat.zero_le _, rfl, by rw [H0.out], rfl⟩
    case round =>
      obtain ⟨k, hk, rfl, rfl, rfl⟩ := hrel
      clear H0
      by_cases hlt : k < n.keys.length
      · obtain ⟨b, o, cap', e, hc⟩ := HN.out.keys.at' hlt
        cases e
        have e1 : IntKind.i64.wrap ((k : Int) + 1) = (k : Int) + 1 := IntWalk.i64_in _ (by omega)
        have HLT := Lib.hid hlt
        have k1 : (k : Int) < n.keys.length := by omega
        have hst := sumB_take n.keys k hlt
        generalize n.keys.getD k emp = x at hc hst
        cases lf with
        | true =>
          obtain rfl : cc = 3 := H3.out (by first | rfl | trivial)
          have E2 : Hid (wrap64 (wrap64 (wi (3 + 3 * k + sumB (n.keys.take k)) + (x.size : Int)) + 3) = wi (3 + 3 * (k + 1) + sumB (n.keys.take (k + 1)))) := Lib.hid (by
            rw [← IntWalk.i64_left, ← IntWalk.i64_left, wi_add, wi_one _ 3 3 rfl, hst]; congr 1; omega)
          generalize wi (3 + 3 * k + sumB (n.keys.take k)) = s1 at E2 ⊢
          clear hk hlt hst
          go_wp2_with fail
          go_roundw
          case rel => exact ⟨k + 1, by have := HLT.out; omega, by go_num, congrArg (Value.int .i64) E2.out, by first | trivial | rfl⟩
          case measure => simp [intOf] <;> omega
        | false =>
          obtain rfl : cc = 1 := H1.out (by first | rfl | trivial)
          have E2 : Hid (wrap64 (wrap64 (wi (3 + 1 * k + sumB (n.keys.take k)) + (x.size : Int)) + 1) = wi (3 + 1 * (k + 1) + sumB (n.keys.take (k + 1)))) := Lib.hid (by
            rw [← IntWalk.i64_left, ← IntWalk.i64_left, wi_add, wi_one _ 1 1 rfl, hst]; congr 1; omega)
          generalize wi (3 + 1 * k + sumB (n.keys.take k)) = s1 at E2 ⊢
          clear hk hlt hst
          go_wp2_with fail
          go_roundw
          case rel => exact ⟨k + 1, by have := HLT.out; omega, by go_num, congrArg (Value.int .i64) E2.out, by first | trivial | rfl⟩
          case measure => simp [intOf] <;> omega
      · obtain rfl : k = n.keys.length := by omega
        clear hk hlt
        go_wp2_with fail
        go_meet
        exact ⟨rfl, by first | trivial | rfl⟩
  case rest =>
    obtain ⟨rfl, rfl⟩ := hcut
    clear H0
    cases lf with
    | false =>
      have E9 := Lib.hid (HI.out rfl)
      clear HI HL
      obtain rfl : cc = 1 := H1.out rfl
      generalize wi (3 + 1 * n.keys.length + sumB (n.keys.take n.keys.length)) = s1 at E9 ⊢
      go_wp2_with fail
      go_ret
      exact ⟨congrArg (fun x => Ending.returned (Value.int IntKind.i64 x)) E9.out, HCH.out⟩
    | true =>
      have E9 := Lib.hid (HL.out rfl)
      clear HI HL
      obtain rfl : cc = 3 := H3.out rfl
      generalize hbb : 3 + 3 * n.keys.length + sumB (n.keys.take n.keys.length) = bb at E9 ⊢
      have H0 : Hid (wi (bb + sumB (n.vals.take 0)) = wi bb) := Lib.hid (by simp [sumB])
      clear hbb
      go_wp2_with fail
      go_loopw [3, 5] (fun s i wr => ∃ k : Nat, k ≤ n.vals.length ∧ i = .int .i64 ↑k ∧ s = .int .i64 (wi (bb + sumB (n.vals.take k))) ∧ W1 = wr) (fun _ i _ => n.vals.length - (intOf i).toNat)
      case atStart => exact ⟨0, Nat.zero_le _, rfl, by rw [H0.out], rfl⟩
      case round =>
        obtain ⟨k, hk, rfl, rfl, rfl⟩ := hrel
        clear H0
        by_cases hlt : k < n.vals.length
        · obtain ⟨b, o, cap', e, hc⟩ := HN.out.vals.at' hlt
          cases e
          have e1 : IntKind.i64.wrap ((k : Int) + 1) = (k : Int) + 1 := IntWalk.i64_in _ (by omega)
          have HLT := Lib.hid hlt
          have k1 : (k : Int) < n.vals.length := by omega
          have hst := sumB_take n.vals k hlt
          generalize n.vals.getD k emp = x at hc hst
          have E2 : Hid (wrap64 (wi (bb + sumB (n.vals.take k)) + (x.size : Int)) = wi (bb + sumB (n.vals.take (k + 1)))) := Lib.hid (by
            rw [← IntWalk.i64_left, wi_add, hst]; congr 1; omega)
          generalize wi (bb + sumB (n.vals.take k)) = s1 at E2 ⊢
          clear hk hlt hst
          go_wp2_with fail
          go_roundw
          case rel => exact ⟨k + 1, by have := HLT.out; omega, by go_num, congrArg (Value.int .i64) E2.out, by first | trivial | rfl⟩
          case measure => simp [intOf] <;> omega
        · obtain rfl : k = n.vals.length := by omega
          clear hk hlt
          go_wp2_with fail
          go_ret
          exact ⟨congrArg (fun x => Ending.returned (Value.int IntKind.i64 x)) E9.out, HCH.out⟩
def keyB (s : ByteArray) : Bool := decide (1 ≤ s.size ∧ s.size ≤ 64)
theorem rkey_any (s : ByteArray) (W : World) : Calls Try.prog 82 #[.string s] W fun e w' => e = .returned (.bool (keyB s)) ∧ w' = W := by
  unfold keyB
  by_cases c1 : 1 ≤ s.size
  · by_cases c2 : s.size ≤ 64
    · rw [decide_eq_true ⟨c1, c2⟩]
      have d1 : (1 : Int) ≤ s.size := by omega
      have d2 : (s.size : Int) ≤ 64 := by omega
      clear c1 c2
      go_enter Try.func82, Try.ntmps82
      go_wp2_with fail
      go_ret
      exact ⟨rfl, rfl⟩
    · rw [decide_eq_false fun h => c2 h.2]
      have d1 : (1 : Int) ≤ s.size := by omega
      have d2 : ¬ (s.size : Int) ≤ 64 := by omega
      clear c1 c2
      go_enter Try.func82, Try.ntmps82
      go_wp2_with fail
      go_ret
      exact ⟨rfl, rfl⟩
  · rw [decide_eq_false fun h => c1 h.1]
    have d1 : ¬ (1 : Int) ≤ s.size := by omega
    clear c1
    go_enter Try.func82, Try.ntmps82
    go_wp2_with fail
    go_ret
    exact ⟨rfl, rfl⟩
end Go.Proofs.Ytfgcbbbhnnikdaa.pg
