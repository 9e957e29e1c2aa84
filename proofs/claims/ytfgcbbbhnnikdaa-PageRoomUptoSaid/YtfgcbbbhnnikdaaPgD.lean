/-
  Layer 7: how many bytes a node has, of the program and of the document.
-/
import Derived.Test.YtfgcbbbhnnikdaaPgC
namespace Go.Proofs.Ytfgcbbbhnnikdaa.pg
open Go.ChangeShapes Go.WideShapes Go.ChangeAt Go.RowKit mem
set_option linter.unusedVariables false

theorem wrap_is (n : Int) : IntKind.i64.wrap n = if 9223372036854775808 ≤ n % 18446744073709551616 then n % 18446744073709551616 - 18446744073709551616 else n % 18446744073709551616 := by
  simp [IntKind.wrap, IntKind.signed, IntKind.bits]
theorem wrap_add (a b : Int) : IntKind.i64.wrap (IntKind.i64.wrap a + b) = IntKind.i64.wrap (a + b) := by
  rw [wrap_is, wrap_is, wrap_is]
  split <;> split <;> split <;> omega
theorem wrap_add2 (a b : Int) : IntKind.i64.wrap (IntKind.i64.wrap a + IntKind.i64.wrap b) = IntKind.i64.wrap (a + b) := by
  rw [wrap_add, Int.add_comm, wrap_add, Int.add_comm]
/-- a number as an int holds it -/
def wi (n : Nat) : Int := IntKind.i64.wrap (n : Int)
theorem wi_add (a b : Nat) : IntKind.i64.wrap (wi a + (b : Int)) = wi (a + b) := by unfold wi; rw [wrap_add, Int.natCast_add]
theorem wi_add2 (a b : Nat) : IntKind.i64.wrap (wi a + wi b) = wi (a + b) := by unfold wi; rw [wrap_add2, Int.natCast_add]
theorem wi_nat (a b : Nat) : IntKind.i64.wrap ((a : Int) + wi b) = wi (a + b) := by rw [Int.add_comm, wi_add, Nat.add_comm]
theorem wi_small {n : Nat} (h : n ≤ 9223372036854775807) : wi n = (n : Int) := IntWalk.i64_in _ (by omega)
theorem getD_mem {xs : List ByteArray} {i : Nat} (h : i < xs.length) : xs.getD i emp ∈ xs := by
  rw [List.getD_eq_getElem?_getD, List.getElem?_eq_getElem h]; exact List.getElem_mem h

theorem bytesIn_any {W : World} {v : Value} {xs : List ByteArray} (h : StrsIn W v xs) (hl : xs.length ≤ 8796093022208) :
    Calls Try.prog 83 #[v] W fun e w' => e = .returned (.int .i64 (wi (sumB xs))) ∧ w' = W := by
  have HS := Lib.hid h
  obtain ⟨ao, cap, rfl, _⟩ := id h
  have hl2 : (xs.length : Int) ≤ 8796093022208 := by omega
  have H0 : Hid ((0 : Int) = wi (sumB (xs.take 0))) := Lib.hid (by rw [wi_small (by simp [sumB])]; simp [sumB])
  have HE : Hid (sumB (xs.take xs.length) = sumB xs) := Lib.hid (by rw [List.take_length])
  clear h hl
  go_enter Try.func83, Try.ntmps83
  go_wp2_with fail
  go_loopw [3, 8] (fun s i wr => ∃ k : Nat, k ≤ xs.length ∧ i = .int .i64 ↑k ∧ s = .int .i64 (wi (sumB (xs.take k))) ∧ W = wr) (fun _ i _ => xs.length - (intOf i).toNat)
  case atStart => exact ⟨0, Nat.zero_le _, rfl, by rw [← H0.out], rfl⟩
  case round =>
    obtain ⟨k, hk, rfl, rfl, rfl⟩ := hrel
    by_cases hlt : k < xs.length
    · obtain ⟨b, o, cap', e, hc⟩ := HS.out.at' hlt
      cases e
      have e1 : IntKind.i64.wrap ((k : Int) + 1) = (k : Int) + 1 := IntWalk.i64_in _ (by omega)
      have E2 : Hid (wrap64 (wi (sumB (xs.take k)) + ((xs.getD k emp).size : Int)) = wi (sumB (xs.take (k + 1)))) := Lib.hid (by rw [← IntWalk.i64_left, wi_add, sumB_take _ _ hlt])
      have HLT := Lib.hid hlt
      have k1 : (k : Int) < xs.length := by omega
      generalize wi (sumB (xs.take k)) = s1 at E2 ⊢
      generalize xs.getD k emp = x at hc E2
      clear hk hlt H0
      go_wp2_with fail
      go_roundw
      case rel => exact ⟨k + 1, by have := HLT.out; omega, by go_num, by exact congrArg (Value.int IntKind.i64) E2.out, by first | trivial | rfl⟩
      case measure => simp [intOf] <;> omega
    · obtain rfl : k = xs.length := by omega
      rw [HE.out]
      clear hk hlt H0
      go_wp2_with fail
      go_ret
      exact ⟨rfl, rfl⟩

theorem node_forms {W : World} {kv vv iv : Value} {n : Nd} (h : NodeIn W kv vv iv n) : (∃ a c, kv = .slice a n.keys.length c) ∧ (∃ a c, vv = .slice a n.vals.length c) ∧ (∃ a c, iv = .slice a n.kids.length c) := by
  obtain ⟨⟨a, c, e, _⟩, ⟨a2, c2, e2, _⟩, ⟨a3, c3, e3, _⟩⟩ := h
  exact ⟨⟨a, c, e⟩, ⟨a2, c2, e2⟩, ⟨a3, c3, e3⟩⟩
/-- a node in a box of the walk's own -/
theorem box_node {W : World} {kv vv iv : Value} {n : Nd} (h : NodeIn W kv vv iv n) (t : TypeId) : ∃ W1, W1 = W.alloc (.cells #[.bool n.leaf, kv, vv, iv] t) ∧ Ch0 W W1 ∧ NodeIn W1 kv vv iv n ∧ W1.cell? ⟨W.heap.size, 0, none⟩ = some (.bool n.leaf) ∧ W1.cell? ⟨W.heap.size, 1, none⟩ = some kv ∧ W1.cell? ⟨W.heap.size, 2, none⟩ = some vv ∧ W1.cell? ⟨W.heap.size, 3, none⟩ = some iv ∧ W.heap.size < W1.heap.size := by
  have h1 := st_new (St.nil (Ch.refl _ W)) [.bool n.leaf, kv, vv, iv] t
  exact ⟨_, rfl, h1.ch, h.kept h1.ch, st_cell h1 0, st_cell h1 1, st_cell h1 2, st_cell h1 3, st_lt h1⟩

set_option maxHeartbeats 1000000 in
theorem pbytes_any {W : World} {kv vv iv : Value} {n : Nd} (h : NodeIn W kv vv iv n) (ok : NodeOk n) :
    Calls Try.prog 47 #[ndV n kv vv iv] W fun e w' => e = .returned (.int .i64 (wi (bytesM n))) ∧ Ch0 W w' := by
  obtain ⟨W1, hW1, hch, h1, c0, c1, c2, c3, hlt⟩ := box_node h 66
  obtain ⟨⟨ka, kc, rfl⟩, ⟨va, vc, rfl⟩, ⟨ia, ic, rfl⟩⟩ := node_forms h
  have HK := Lib.hid fun q => bytesIn_any (h1.keys.kept ((Ch.refl _ W1).drewN q)) ok.keys
  have HV := Lib.hid fun q => bytesIn_any (h1.vals.kept ((Ch.refl _ W1).drewN q)) ok.vals
  have HCH := Lib.hid hch
  have hkl : (n.keys.length : Int) ≤ 8796093022208 := by have := ok.keys; omega
  have hil : (n.kids.length : Int) ≤ 35184372088832 := by have := ok.kids; omega
  have e1 : IntKind.i64.wrap (3 * (n.keys.length : Int)) = ((3 * n.keys.length : Nat) : Int) := by rw [IntWalk.i64_in _ (by omega)]; omega
  have e2 : IntKind.i64.wrap (3 + ((3 * n.keys.length : Nat) : Int)) = ((3 + 3 * n.keys.length : Nat) : Int) := by rw [IntWalk.i64_in _ (by omega)]; omega
  have e3 : IntKind.i64.wrap (4 * (n.kids.length : Int)) = ((4 * n.kids.length : Nat) : Int) := by rw [IntWalk.i64_in _ (by omega)]; omega
  have e4 : IntKind.i64.wrap (3 + ((4 * n.kids.length : Nat) : Int)) = ((3 + 4 * n.kids.length : Nat) : Int) := by rw [IntWalk.i64_in _ (by omega)]; omega
  have e5 : IntKind.i64.wrap (1 * (n.keys.length : Int)) = (n.keys.length : Int) := by rw [IntWalk.i64_in _ (by omega)]; omega
  have e5b : IntKind.i64.wrap (n.keys.length : Int) = (n.keys.length : Int) := IntWalk.i64_in _ (by omega)
  have e6 : IntKind.i64.wrap (((3 + 4 * n.kids.length : Nat) : Int) + (n.keys.length : Int)) = ((3 + 4 * n.kids.length + n.keys.length : Nat) : Int) := by rw [IntWalk.i64_in _ (by omega)]; omega
  have EL : Hid (n.leaf = true → wrap64 (wrap64 (((3 + 3 * n.keys.length : Nat) : Int) + wi (sumB n.keys)) + wi (sumB n.vals)) = wi (bytesM n)) := Lib.hid fun c => by
    rw [← IntWalk.i64_left, ← IntWalk.i64_left, wi_nat, wi_add2]; unfold bytesM; rw [if_pos c]
  have EI : Hid (n.leaf = false → wrap64 (((3 + 4 * n.kids.length + n.keys.length : Nat) : Int) + wi (sumB n.keys)) = wi (bytesM n)) := Lib.hid fun c => by
    rw [← IntWalk.i64_left, wi_nat]; unfold bytesM; rw [if_neg (by rw [c]; decide)]
  generalize wi (sumB n.keys) = sk at HK EL EI
  generalize wi (sumB n.vals) = sv at HV EL
  generalize wi (bytesM n) = tot at EL EI ⊢
  generalize n.keys.length = nk at *
  generalize n.vals.length = nv at *
  generalize n.kids.length = ni at *
  generalize 3 + 3 * nk = z1 at e2 EL
  generalize 3 * nk = z2 at e1 e2
  generalize 3 + 4 * ni + nk = z5 at e6 EI
  generalize 3 + 4 * ni = z3 at e4 e6
  generalize 4 * ni = z4 at e3 e4
  clear h h1 ok hch
  show Calls _ _ #[.agg #[.bool n.leaf, _, _, _]] _ _
  obtain ⟨lf, hlf⟩ : ∃ lf, lf = n.leaf := ⟨_, rfl⟩
  rw [← hlf] at c0 hW1 EL EI ⊢
  clear hlf
  cases lf with
  | true =>
    have E9 := Lib.hid (EL.out rfl)
    clear EI EL
    go_enter Try.func47, Try.ntmps47
    go_upto_region 1 with fail
    rw [← hW1]
    generalize W.heap.size = B at *
    clear hW1
    go_upto_region 2 with fail
    go_quiet (first
      | (go_at_call 83; with_reducible exact Calls.quiet_of_same (HK.out _))
      | (go_at_call 83; with_reducible exact Calls.quiet_of_same (HV.out _)))
    go_wp2_with fail
    go_ret
    exact ⟨congrArg (fun x => Ending.returned (Value.int IntKind.i64 x)) E9.out, HCH.out.drewN _⟩
  | false =>
    have E9 := Lib.hid (EI.out rfl)
    clear EL EI
    go_enter Try.func47, Try.ntmps47
    go_upto_region 1 with fail
    rw [← hW1]
    generalize W.heap.size = B at *
    clear hW1
    go_upto_region 3 with fail
    go_quiet (first
      | (go_at_call 83; with_reducible exact Calls.quiet_of_same (HK.out _))
      | (go_at_call 83; with_reducible exact Calls.quiet_of_same (HV.out _)))
    go_wp2_with fail
    go_ret
    exact ⟨congrArg (fun x => Ending.returned (Value.int IntKind.i64 x)) E9.out, HCH.out.drewN _⟩
end Go.Proofs.Ytfgcbbbhnnikdaa.pg
