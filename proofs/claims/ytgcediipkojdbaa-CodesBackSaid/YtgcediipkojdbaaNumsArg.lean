/-
  A slice of Numbers that came in, opened.
-/
import Derived.Test.YtgcediipkojdbaaBackWalk
import Derived.Deep.Slices
import Derived.Deep.Fields
import Derived.ChangeSame
import Derived.OpenShut
namespace Go.Proofs.Ytgcediipkojdbaa.bits
open Go.ChangeShapes Go.WideShapes Go.ChangeAt Go.RowKit Go.Deep
set_option linter.unusedVariables false

theorem laid_outN : laidOutB Try.prog = true := by kernel_rfl

def NumAt (W : World) (a : Addr) (i : Nat) (kd K V : Nat) : Prop := W.cell? (a.add (i * 3)) = some (.int .u8 (kd : Int)) ∧ W.cell? (a.add (i * 3 + 1)) = some (.int .u64 (K : Int)) ∧ W.cell? (a.add (i * 3 + 2)) = some (.int .u64 (V : Int)) ∧ kd < 256 ∧ K < 18446744073709551616 ∧ V < 18446744073709551616

theorem number_cells {H : Type} {enc : TypeId × Value → H} {W : World} {n : Nat} {a : Addr} {i : Nat} {cs : List Value} {x : DataW H × List MemPlace} (hc : W.cells? 0 (a.add (i * 3)) 3 = some cs) (h : DataW.trod enc Try.prog W 0 (fun _ => true) true n 49 cs = some x) :
    ∃ kd K V, NumAt W a i kd K V := by
  obtain ⟨_, hl, hcell⟩ := World.cells?_some hc
  obtain ⟨xs, m, _, _, _, hxl, hf⟩ := DataW.trod_struct Try.underlying49 h
  match cs, hl with
  | [c0, c1, c2], _ =>
    have f0 := hf 0 _ rfl
    have f1 := hf 1 _ rfl
    match xs, hxl with
    | [y0, y1], _ =>
      have g0 : DataW.trod enc Try.prog W 0 (fun _ => true) true m 37 [c0, c1] = some y0 := f0
      have g2 : DataW.trod enc Try.prog W 0 (fun _ => true) true m 30 [c2] = some y1 := f1
      obtain ⟨zs, m2, _, _, _, hzl, hf2⟩ := DataW.trod_struct Try.underlying37 g0
      match zs, hzl with
      | [z0, z1], _ =>
        have e0' := hf2 0 _ rfl
        have e1' := hf2 1 _ rfl
        have k0 : DataW.trod enc Try.prog W 0 (fun _ => true) true m2 5 [c0] = some z0 := e0'
        have k1 : DataW.trod enc Try.prog W 0 (fun _ => true) true m2 30 [c1] = some z1 := e1'
        obtain ⟨q0, e0, _, w0⟩ := DataW.trod_int Try.underlying5 k0
        obtain ⟨q1, e1, _, w1⟩ := DataW.trod_int Try.underlying30 k1
        obtain ⟨q2, e2, _, w2⟩ := DataW.trod_int Try.underlying30 g2
        have b0 := bounds_u8 w0
        have b1 := bounds_u64 w1
        have b2 := bounds_u64 w2
        have h0 := hcell 0 (by omega)
        have h1 := hcell 1 (by omega)
        have h2 := hcell 2 (by omega)
        rw [add_add] at h0 h1 h2
        simp only [List.cons.injEq, and_true] at e0 e1 e2
        subst e0 e1 e2
        obtain ⟨n0, rfl⟩ := Int.eq_ofNat_of_zero_le b0.1
        obtain ⟨n1, rfl⟩ := Int.eq_ofNat_of_zero_le b1.1
        obtain ⟨n2, rfl⟩ := Int.eq_ofNat_of_zero_le b2.1
        exact ⟨n0, n1, n2, by simpa using h0, h1, h2, by omega, by omega, by omega⟩

theorem plain_addN (b o n : Nat) : (⟨b, o, none⟩ : Addr).add n = ⟨b, o + n, none⟩ := by unfold Addr.add; split <;> simp_all

theorem nums_open {H : Type} {enc : TypeId × Value → H} {W : World} {fuel : Nat} {a0 : Option Addr} {len cap : Nat} {x : DataW H × List MemPlace} (h : DataW.trod enc Try.prog W 0 (fun _ => true) true fuel 45 [.slice a0 len cap] = some x) :
    len ≤ maxLen ∧ ∃ (kd K V : Nat → Nat), Nums3 W (.slice a0 len cap) a0 len cap kd K V := by
  rcases open_slice Try.underlying45 h with ⟨hcs, _⟩ | ⟨a, len', cap', m, n, D, Pl, hcs, _, hl, hm, hmm, _, hi⟩
  · simp only [List.cons.injEq, Value.slice.injEq, and_true] at hcs
    obtain ⟨rfl, rfl, rfl⟩ := hcs
    exact ⟨Nat.zero_le _, fun _ => 0, fun _ => 0, fun _ => 0, rfl, fun i hi => absurd hi (by omega), fun i hi => absurd hi (by omega)⟩
  · simp only [List.cons.injEq, Value.slice.injEq, and_true] at hcs
    obtain ⟨rfl, rfl, rfl⟩ := hcs
    have hmc : m = cap := hmm
    have each : ∀ i, i < len → ∃ q : Nat × Nat × Nat, NumAt W a i q.1 q.2.1 q.2.2 := by
      intro i hil
      obtain ⟨cs', hc, ht⟩ := hi i (by omega)
      obtain ⟨K, N, V, hp⟩ := number_cells hc ht
      exact ⟨(K, N, V), hp⟩
    refine ⟨Nat.le_trans hl hm, fun i => if h : i < len then (Classical.choose (each i h)).1 else 0, fun i => if h : i < len then (Classical.choose (each i h)).2.1 else 0, fun i => if h : i < len then (Classical.choose (each i h)).2.2 else 0, rfl, fun i hil => ?_, fun i hil => ?_⟩
    · have h0 := Classical.choose_spec (each 0 (by omega))
      have hsp : a.spot = none := by
        have := h0.1
        rw [Nat.zero_mul, show a.add 0 = a from rfl] at this
        cases hs : a.spot with
        | none => rfl
        | some s => unfold World.cell? at this; split at this <;> simp [hs] at this
      obtain ⟨ab, ao, asp⟩ := a
      simp only at hsp
      subst hsp
      have hs := Classical.choose_spec (each i hil)
      obtain ⟨hs1, hs2, hs3, _⟩ := hs
      rw [plain_addN] at hs1 hs2 hs3
      rw [← Nat.add_assoc] at hs2 hs3
      refine ⟨ab, ao, rfl, ?_, ?_, ?_⟩
      · simpa only [dif_pos hil] using hs1
      · simpa only [dif_pos hil] using hs2
      · simpa only [dif_pos hil] using hs3
    · have hs := Classical.choose_spec (each i hil)
      simp only [dif_pos hil]
      exact hs.2.2.2
end Go.Proofs.Ytgcediipkojdbaa.bits
