/-
  A slice of codes that came in, opened.
-/
import Derived.Test.YtgcediipkojdbaaOnce
import Derived.Deep.Slices
import Derived.Deep.Fields
import Derived.ChangeSame
import Derived.OpenShut
namespace Go.Proofs.Ytgcediipkojdbaa.bits
open Go.ChangeShapes Go.WideShapes Go.ChangeAt Go.RowKit Go.Deep
set_option linter.unusedVariables false

theorem laid_out : laidOutB Try.prog = true := by kernel_rfl

def CodeAt (W : World) (a : Addr) (i : Nat) (kd K : Nat) : Prop := W.cell? (a.add (i * 2)) = some (.int .u8 (kd : Int)) ∧ W.cell? (a.add (i * 2 + 1)) = some (.int .u64 (K : Int)) ∧ kd < 256 ∧ K < 18446744073709551616

theorem code_cells {H : Type} {enc : TypeId × Value → H} {W : World} {n : Nat} {a : Addr} {i : Nat} {cs : List Value} {x : DataW H × List MemPlace} (hc : W.cells? 0 (a.add (i * 2)) 2 = some cs) (h : DataW.trod enc Try.prog W 0 (fun _ => true) true n 37 cs = some x) :
    ∃ kd K, CodeAt W a i kd K := by
  obtain ⟨_, hl, hcell⟩ := World.cells?_some hc
  obtain ⟨xs, m, _, _, _, hxl, hf⟩ := DataW.trod_struct Try.underlying37 h
  match cs, hl with
  | [c0, c1], _ =>
    have f0 := hf 0 _ rfl
    have f1 := hf 1 _ rfl
    match xs, hxl with
    | [y0, y1], _ =>
      have g0 : DataW.trod enc Try.prog W 0 (fun _ => true) true m 5 [c0] = some y0 := f0
      have g1 : DataW.trod enc Try.prog W 0 (fun _ => true) true m 30 [c1] = some y1 := f1
      obtain ⟨k0, e0, _, w0⟩ := DataW.trod_int Try.underlying5 g0
      obtain ⟨k1, e1, _, w1⟩ := DataW.trod_int Try.underlying30 g1
      have b0 := bounds_u8 w0
      have b1 := bounds_u64 w1
      have h0 := hcell 0 (by omega)
      have h1 := hcell 1 (by omega)
      rw [add_add] at h0 h1
      simp only [List.cons.injEq, and_true] at e0 e1
      subst e0 e1
      obtain ⟨n0, rfl⟩ := Int.eq_ofNat_of_zero_le b0.1
      obtain ⟨n1, rfl⟩ := Int.eq_ofNat_of_zero_le b1.1
      exact ⟨n0, n1, by simpa using h0, h1, by omega, by omega⟩

theorem plain_add (b o n : Nat) : (⟨b, o, none⟩ : Addr).add n = ⟨b, o + n, none⟩ := by unfold Addr.add; split <;> simp_all

theorem codes_open {H : Type} {enc : TypeId × Value → H} {W : World} {fuel : Nat} {a0 : Option Addr} {len cap : Nat} {x : DataW H × List MemPlace} (h : DataW.trod enc Try.prog W 0 (fun _ => true) true fuel 22 [.slice a0 len cap] = some x) :
    len ≤ maxLen ∧ ∃ (kd K : Nat → Nat), Cds W (.slice a0 len cap) a0 len cap kd K := by
  rcases open_slice Try.underlying22 h with ⟨hcs, _⟩ | ⟨a, len', cap', m, n, D, Pl, hcs, _, hl, hm, hmm, _, hi⟩
  · simp only [List.cons.injEq, Value.slice.injEq, and_true] at hcs
    obtain ⟨rfl, rfl, rfl⟩ := hcs
    exact ⟨Nat.zero_le _, fun _ => 0, fun _ => 0, rfl, fun i hi => absurd hi (by omega), fun i hi => absurd hi (by omega)⟩
  · simp only [List.cons.injEq, Value.slice.injEq, and_true] at hcs
    obtain ⟨rfl, rfl, rfl⟩ := hcs
    have hmc : m = cap := hmm
    have each : ∀ i, i < len → ∃ q : Nat × Nat, CodeAt W a i q.1 q.2 := by
      intro i hil
      obtain ⟨cs', hc, ht⟩ := hi i (by omega)
      obtain ⟨K, N, hp⟩ := code_cells hc ht
      exact ⟨(K, N), hp⟩
    refine ⟨Nat.le_trans hl hm, fun i => if h : i < len then (Classical.choose (each i h)).1 else 0, fun i => if h : i < len then (Classical.choose (each i h)).2 else 0, rfl, fun i hil => ?_, fun i hil => ?_⟩
    · have h0 := Classical.choose_spec (each 0 (by omega))
      have hsp : a.spot = none := by
        have := h0.1
        rw [Nat.zero_mul, show a.add 0 = a from rfl] at this
        cases hs : a.spot with
        | none => rfl
        | some s => unfold World.cell? at this; split at this <;> simp [hs] at this
      obtain ⟨ab, ao, asp⟩ := a
      simp only at hsp
      subst hsp
      have hs := Classical.choose_spec (each i hil)
      obtain ⟨hs1, hs2, _⟩ := hs
      rw [plain_add] at hs1 hs2
      rw [← Nat.add_assoc] at hs2
      refine ⟨ab, ao, rfl, ?_, ?_⟩
      · simpa only [dif_pos hil] using hs1
      · simpa only [dif_pos hil] using hs2
    · have hs := Classical.choose_spec (each i hil)
      simp only [dif_pos hil]
      exact hs.2.2
end Go.Proofs.Ytgcediipkojdbaa.bits
