/-
  Layer 7: sizes, of the program and of the document; what comes in.
-/
import Derived.Test.YtfgcbbbhnnikdaaPgB
import Derived.Test.YtfgcbbbhnnikdaaHeapA
import Derived.IntWalk
import Derived.Deep.Cut
import Derived.Deep.CutBlock
import Derived.Deep.CutRange
import Derived.Deep.DeepCutAuto
import Derived.ProofKit
import Derived.OpenShut
namespace Go.Proofs.Ytfgcbbbhnnikdaa.pg
open Go.ChangeShapes Go.WideShapes Go.ChangeAt Go.RowKit mem
set_option linter.unusedVariables false

abbrev Ch0 := Ch (fun _ => False)
abbrev InI64 (z : Int) : Prop := -9223372036854775808 ≤ z ∧ z ≤ 9223372036854775807
theorem tmod512 (z : Int) : -512 < z.tmod 512 ∧ z.tmod 512 < 512 := by
  have h1 : z.tmod 512 < 512 := Int.tmod_lt_of_pos z (by omega)
  have h2 := Int.tmod_lt_of_pos (-z) (show (0 : Int) < 512 by omega)
  rw [Int.neg_tmod] at h2
  omega
def sizeE (z : Int) : Int := if okSz z then 0 else 1
theorem psize_any (z : Int) (W : World) : Calls Try.prog 49 #[.int .i64 z] W fun e w' => e = .returned (.int .i64 (sizeE z)) ∧ W = w' := by
  unfold sizeE
  by_cases c1 : z < 512
  · rw [if_neg (fun h => by have := h.1; omega)]
    go_enter Try.func49, Try.ntmps49
    go_wp2_with fail
    go_ret
    exact ⟨rfl, rfl⟩
  · by_cases c2 : 4096 < z
    · rw [if_neg (fun h => by have := h.2.1; omega)]
      go_enter Try.func49, Try.ntmps49
      go_wp2_with fail
      go_ret
      exact ⟨rfl, rfl⟩
    · obtain ⟨t1, t2⟩ := tmod512 z
      have em : z.tmod 512 = z % 512 := Int.tmod_eq_emod_of_nonneg (by omega)
      rw [em] at t1 t2
      have e1 : IntKind.i64.wrap (z % 512) = z % 512 := IntWalk.i64_in _ (by omega)
      by_cases c3 : z.tmod 512 = 0
      · have b3 : (z % 512 != 0) = false := by rw [← em, c3]; rfl
        rw [if_pos ⟨by omega, by omega, c3⟩]
        clear c3 t1 t2 em
        go_enter Try.func49, Try.ntmps49
        go_wp2_with fail
        go_ret
        exact ⟨rfl, rfl⟩
      · have b3 : (z % 512 != 0) = true := by rw [← em]; simp [c3]
        rw [if_neg (fun h => c3 h.2.2)]
        clear c3 t1 t2 em
        go_enter Try.func49, Try.ntmps49
        go_wp2_with fail
        go_ret
        exact ⟨rfl, rfl⟩
theorem rsize_any (z : Int) (W : World) : Calls Try.prog 50 #[.int .i64 z] W fun e w' => e = .returned (.int .i64 (sizeE z)) ∧ W = w' := by
  unfold sizeE
  by_cases c1 : z < 512
  · rw [if_neg (fun h => by have := h.1; omega)]
    go_enter Try.func50, Try.ntmps50
    go_wp2_with fail
    go_ret
    exact ⟨rfl, rfl⟩
  · by_cases c2 : 4096 < z
    · rw [if_neg (fun h => by have := h.2.1; omega)]
      go_enter Try.func50, Try.ntmps50
      go_wp2_with fail
      go_ret
      exact ⟨rfl, rfl⟩
    · obtain ⟨t1, t2⟩ := tmod512 z
      have em : z.tmod 512 = z % 512 := Int.tmod_eq_emod_of_nonneg (by omega)
      rw [em] at t1 t2
      have e1 : IntKind.i64.wrap (z % 512) = z % 512 := IntWalk.i64_in _ (by omega)
      by_cases c3 : z.tmod 512 = 0
      · have b3 : (z % 512 != 0) = false := by rw [← em, c3]; rfl
        rw [if_pos ⟨by omega, by omega, c3⟩]
        clear c3 t1 t2 em
        go_enter Try.func50, Try.ntmps50
        go_wp2_with fail
        go_ret
        exact ⟨rfl, rfl⟩
      · have b3 : (z % 512 != 0) = true := by rw [← em]; simp [c3]
        rw [if_neg (fun h => c3 h.2.2)]
        clear c3 t1 t2 em
        go_enter Try.func50, Try.ntmps50
        go_wp2_with fail
        go_ret
        exact ⟨rfl, rfl⟩
def mostI (z : Int) : Int := if okSz z then (mostM z.toNat : Nat) else 0
def orderI (z : Int) : Int := if okSz z then (orderM z.toNat : Nat) else 0
theorem most_facts {z : Int} (h : okSz z) : IntKind.i64.wrap (z - 3) = z - 3 ∧ IntKind.i64.wrap ((z - 3).tdiv 4) = (mostM z.toNat : Nat) ∧ (mostM z.toNat : Int) ≤ 1023 := by
  obtain ⟨h1, h2, _⟩ := h
  have e : (z - 3).tdiv 4 = (z - 3) / 4 := Int.tdiv_eq_ediv_of_nonneg (by omega)
  refine ⟨IntWalk.i64_in _ (by omega), ?_, ?_⟩
  · rw [e, IntWalk.i64_in _ (by omega)]
    unfold mostM
    omega
  · unfold mostM; omega
theorem order_facts {z : Int} (h : okSz z) : IntKind.i64.wrap (z - 3) = z - 3 ∧ IntKind.i64.wrap (z - 7) = z - 7 ∧ IntKind.i64.wrap ((z - 7).tdiv 69) = (z - 7) / 69 ∧ IntKind.i64.wrap (1 + (z - 7) / 69) = (orderM z.toNat : Nat) := by
  obtain ⟨h1, h2, _⟩ := h
  have e : (z - 7).tdiv 69 = (z - 7) / 69 := Int.tdiv_eq_ediv_of_nonneg (by omega)
  refine ⟨IntWalk.i64_in _ (by omega), IntWalk.i64_in _ (by omega), ?_, ?_⟩
  · rw [e, IntWalk.i64_in _ (by omega)]
  · rw [IntWalk.i64_in _ (by omega)]
    unfold orderM
    omega
theorem pmost_any (z : Int) (W : World) : Calls Try.prog 41 #[.int .i64 z] W fun e w' => e = .returned (.tuple #[.int .i64 (mostI z), .int .i64 (sizeE z)]) ∧ W = w' := by
  have HS := Lib.hid (psize_any z W)
  by_cases c : okSz z
  · obtain ⟨e1, e2, _⟩ := most_facts c
    have s0 : sizeE z = 0 := if_pos c
    rw [show mostI z = (mostM z.toNat : Nat) from if_pos c]
    rw [s0] at HS ⊢
    clear c s0
    generalize ((mostM z.toNat : Nat) : Int) = m at e2 ⊢
    go_enter Try.func41, Try.ntmps41
    go_wp2_with (go_at_call 49; refine HS.out.mono ?_; rintro e w' ⟨rfl, rfl⟩)
    go_ret2
    exact ⟨rfl, rfl⟩
  · have s0 : sizeE z = 1 := if_neg c
    rw [show mostI z = 0 from if_neg c]
    rw [s0] at HS ⊢
    clear c s0
    go_enter Try.func41, Try.ntmps41
    go_wp2_with (go_at_call 49; refine HS.out.mono ?_; rintro e w' ⟨rfl, rfl⟩)
    go_ret2
    exact ⟨rfl, rfl⟩
theorem rmost_any (z : Int) (W : World) : Calls Try.prog 42 #[.int .i64 z] W fun e w' => e = .returned (.tuple #[.int .i64 (mostI z), .int .i64 (sizeE z)]) ∧ W = w' := by
  have HS := Lib.hid (rsize_any z W)
  by_cases c : okSz z
  · obtain ⟨e1, e2, _⟩ := most_facts c
    have s0 : sizeE z = 0 := if_pos c
    rw [show mostI z = (mostM z.toNat : Nat) from if_pos c]
    rw [s0] at HS ⊢
    clear c s0
    generalize ((mostM z.toNat : Nat) : Int) = m at e2 ⊢
    go_enter Try.func42, Try.ntmps42
    go_wp2_with (go_at_call 50; refine HS.out.mono ?_; rintro e w' ⟨rfl, rfl⟩)
    go_ret2
    exact ⟨rfl, rfl⟩
  · have s0 : sizeE z = 1 := if_neg c
    rw [show mostI z = 0 from if_neg c]
    rw [s0] at HS ⊢
    clear c s0
    go_enter Try.func42, Try.ntmps42
    go_wp2_with (go_at_call 50; refine HS.out.mono ?_; rintro e w' ⟨rfl, rfl⟩)
    go_ret2
    exact ⟨rfl, rfl⟩
theorem porder_any (z : Int) (W : World) : Calls Try.prog 43 #[.int .i64 z] W fun e w' => e = .returned (.tuple #[.int .i64 (orderI z), .int .i64 (sizeE z)]) ∧ W = w' := by
  have HS := Lib.hid (psize_any z W)
  by_cases c : okSz z
  · obtain ⟨e0, e1, e2, e3⟩ := order_facts c
    have e4 : IntKind.i64.wrap (z - 3 - 4) = z - 7 := by rw [show z - 3 - 4 = z - 7 from by omega]; exact e1
    have s0 : sizeE z = 0 := if_pos c
    rw [show orderI z = (orderM z.toNat : Nat) from if_pos c]
    rw [s0] at HS ⊢
    clear c s0
    generalize (z - 7) / 69 = d at e2 e3
    generalize ((orderM z.toNat : Nat) : Int) = m at e3 ⊢
    go_enter Try.func43, Try.ntmps43
    go_wp2_with (go_at_call 49; refine HS.out.mono ?_; rintro e w' ⟨rfl, rfl⟩)
    go_ret2
    exact ⟨rfl, rfl⟩
  · have s0 : sizeE z = 1 := if_neg c
    rw [show orderI z = 0 from if_neg c]
    rw [s0] at HS ⊢
    clear c s0
    go_enter Try.func43, Try.ntmps43
    go_wp2_with (go_at_call 49; refine HS.out.mono ?_; rintro e w' ⟨rfl, rfl⟩)
    go_ret2
    exact ⟨rfl, rfl⟩
theorem rorder_any (z : Int) (W : World) : Calls Try.prog 44 #[.int .i64 z] W fun e w' => e = .returned (.tuple #[.int .i64 (orderI z), .int .i64 (sizeE z)]) ∧ W = w' := by
  have HS := Lib.hid (rsize_any z W)
  by_cases c : okSz z
  · obtain ⟨e0, e1, e2, e3⟩ := order_facts c
    have s0 : sizeE z = 0 := if_pos c
    rw [show orderI z = (orderM z.toNat : Nat) from if_pos c]
    rw [s0] at HS ⊢
    clear c s0
    generalize (z - 7) / 69 = d at e2 e3
    generalize ((orderM z.toNat : Nat) : Int) = m at e3 ⊢
    go_enter Try.func44, Try.ntmps44
    go_wp2_with (go_at_call 50; refine HS.out.mono ?_; rintro e w' ⟨rfl, rfl⟩)
    go_ret2
    exact ⟨rfl, rfl⟩
  · have s0 : sizeE z = 1 := if_neg c
    rw [show orderI z = 0 from if_neg c]
    rw [s0] at HS ⊢
    clear c s0
    go_enter Try.func44, Try.ntmps44
    go_wp2_with (go_at_call 50; refine HS.out.mono ?_; rintro e w' ⟨rfl, rfl⟩)
    go_ret2
    exact ⟨rfl, rfl⟩

/-- a slice of texts, wherever it lies -/
def StrsIn (W : World) (v : Value) (xs : List ByteArray) : Prop :=
  ∃ ao cap, v = .slice ao xs.length cap ∧ ∀ i (hi : i < xs.length), ∃ b o, ao = some ⟨b, o, none⟩ ∧ W.cell? ⟨b, o + i, none⟩ = some (.string xs[i])
def KidsIn (W : World) (v : Value) (ks : List Nat) : Prop :=
  ∃ ao cap, v = .slice ao ks.length cap ∧ ∀ i (hi : i < ks.length), ∃ b o, ao = some ⟨b, o, none⟩ ∧ W.cell? ⟨b, o + i, none⟩ = some (.int .u32 (ks[i] : Nat))
theorem StrsIn.kept {w W : World} {v : Value} {xs : List ByteArray} (h : StrsIn w v xs) (hc : Ch0 w W) : StrsIn W v xs := by
  obtain ⟨ao, cap, rfl, h⟩ := h
  exact ⟨ao, cap, rfl, fun i hi => by obtain ⟨b, o, e, h1⟩ := h i hi; exact ⟨b, o, e, hc.cell h1⟩⟩
theorem KidsIn.kept {w W : World} {v : Value} {xs : List Nat} (h : KidsIn w v xs) (hc : Ch0 w W) : KidsIn W v xs := by
  obtain ⟨ao, cap, rfl, h⟩ := h
  exact ⟨ao, cap, rfl, fun i hi => by obtain ⟨b, o, e, h1⟩ := h i hi; exact ⟨b, o, e, hc.cell h1⟩⟩
theorem StrsIn.at' {w : World} {v : Value} {xs : List ByteArray} (h : StrsIn w v xs) {i : Nat} (hi : i < xs.length) : ∃ b o cap, v = .slice (some ⟨b, o, none⟩) xs.length cap ∧ w.cell? ⟨b, o + i, none⟩ = some (.string (xs.getD i emp)) := by
  obtain ⟨ao, cap, rfl, h⟩ := h
  obtain ⟨b, o, rfl, h1⟩ := h i hi
  exact ⟨b, o, cap, rfl, by rw [h1, List.getD_eq_getElem?_getD, List.getElem?_eq_getElem hi]; rfl⟩
theorem KidsIn.at' {w : World} {v : Value} {xs : List Nat} (h : KidsIn w v xs) {i : Nat} (hi : i < xs.length) : ∃ b o cap, v = .slice (some ⟨b, o, none⟩) xs.length cap ∧ w.cell? ⟨b, o + i, none⟩ = some (.int .u32 (xs.getD i 0 : Nat)) := by
  obtain ⟨ao, cap, rfl, h⟩ := h
  obtain ⟨b, o, rfl, h1⟩ := h i hi
  exact ⟨b, o, cap, rfl, by rw [h1, List.getD_eq_getElem?_getD, List.getElem?_eq_getElem hi]; rfl⟩
structure NodeIn (W : World) (kv vv iv : Value) (n : Nd) : Prop where
  keys : StrsIn W kv n.keys
  vals : StrsIn W vv n.vals
  kids : KidsIn W iv n.kids
theorem NodeIn.kept {w W : World} {kv vv iv : Value} {n : Nd} (h : NodeIn w kv vv iv n) (hc : Ch0 w W) : NodeIn W kv vv iv n := ⟨h.keys.kept hc, h.vals.kept hc, h.kids.kept hc⟩
abbrev ndV (n : Nd) (kv vv iv : Value) : Value := .agg #[.bool n.leaf, kv, vv, iv]
abbrev ndC (n : Nd) (kv vv iv : Value) : List Value := [.bool n.leaf, kv, vv, iv]
/-- sizes of what comes in -/
structure NodeOk (n : Nd) : Prop where
  keys : n.keys.length ≤ 8796093022208
  vals : n.vals.length ≤ 8796093022208
  kids : n.kids.length ≤ 35184372088832
  key : ∀ x ∈ n.keys, x.size ≤ 140737488351232
  val : ∀ x ∈ n.vals, x.size ≤ 140737488351232
  kid : KidsOk n
end Go.Proofs.Ytfgcbbbhnnikdaa.pg
