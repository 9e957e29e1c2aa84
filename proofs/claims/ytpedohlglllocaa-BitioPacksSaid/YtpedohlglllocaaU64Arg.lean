/-
  A slice of numbers that came in, opened.
-/
import Derived.Test.YtpedohlglllocaaPacks
import Derived.ChangeSlices
namespace Go.Proofs.Ytpedohlglllocaa.bits
open Go.ChangeShapes Go.WideShapes Go.ChangeAt Go.RowKit
set_option linter.unusedVariables false

theorem laid_outP : laidOutB Try.prog = true := by kernel_rfl
theorem cells30 : Try.prog.cellsOf 30 = 1 := by kernel_rfl
theorem bytes30 : Try.prog.bytesOf 30 = 8 := by kernel_rfl

theorem u64_open {H : Type} {enc : TypeId × Value → H} {W : World} {fuel : Nat} {a0 : Option Addr} {len cap : Nat} {x : DataW H × List MemPlace} (h : DataW.trod enc Try.prog W 0 (fun _ => true) true fuel 56 [.slice a0 len cap] = some x) :
    ∃ zn : List Nat, zn.length = len ∧ (∀ z ∈ zn, z < 18446744073709551616) ∧ Reads W a0 (u64s zn) ∧ (a0 = none → zn = [] ∧ cap = 0) ∧ (∀ a, a0 = some a → ∀ j u, (u64s zn)[j]? = some u → W.cell? (a.add j) = some u) ∧
      (x.1 = .nil ∧ len = 0 ∨ ∃ elems spare, x.1 = .slice elems spare ∧ elems.length + spare.length = cap ∧ len ≤ cap) := by
  rcases open_ints Try.underlying56 Try.underlying30 cells30 h with ⟨hcs, hx⟩ | ⟨a, len', cap', zs, hcs, _, hl, hm, hzl, hx, hcell, hwf⟩
  · simp only [List.cons.injEq, Value.slice.injEq, and_true] at hcs
    obtain ⟨rfl, rfl, rfl⟩ := hcs
    exact ⟨[], rfl, by simp, (fun i hi => by simp [u64s] at hi), fun _ => ⟨rfl, rfl⟩, (fun a ha => by cases ha), .inl ⟨by rw [hx], rfl⟩⟩
  · simp only [List.cons.injEq, Value.slice.injEq, and_true] at hcs
    obtain ⟨rfl, rfl, rfl⟩ := hcs
    have hzc : zs.length = cap := hzl
    have hpos : ∀ z ∈ zs, 0 ≤ z ∧ z ≤ 18446744073709551615 := fun z hz => by
      have := hwf z hz
      simpa [Lit.wf, IntKind.min, IntKind.max, IntKind.signed, IntKind.bits] using this
    have hat : ∀ j u, (u64s ((zs.take len).map Int.toNat))[j]? = some u → W.cell? (a.add j) = some u := by
      intro j u hu
      have hj : j < len := by
        have := (List.getElem?_eq_some_iff.1 hu).1
        simp [u64s] at this
        omega
      have hjz : j < zs.length := by omega
      have hp := hpos zs[j] (List.getElem_mem hjz)
      rw [hcell j hjz]
      simp only [u64s, List.getElem?_map, List.getElem?_take, if_pos hj, List.getElem?_eq_getElem hjz, Option.map_some, Option.some.injEq] at hu
      rw [← hu, show ((zs[j].toNat : Nat) : Int) = zs[j] from by omega]
      simp [List.getD, hjz]
    refine ⟨(zs.take len).map Int.toNat, by simp; omega, ?_, ?_, (fun h => by cases h), ?_, .inr ⟨_, _, by rw [hx], by simp [lits]; omega, hl⟩⟩
    · intro z hz
      simp only [List.mem_map] at hz
      obtain ⟨y, hy, rfl⟩ := hz
      have := hpos y (List.mem_of_mem_take hy)
      omega
    · intro i hi
      have h3 : (u64s ((zs.take len).map Int.toNat))[i]? = some ((u64s ((zs.take len).map Int.toNat))[i]'hi) := List.getElem?_eq_getElem hi
      have h0 : 0 < (u64s ((zs.take len).map Int.toNat)).length := by omega
      have hc0 := hat 0 _ (List.getElem?_eq_getElem h0)
      have hsp : a.spot = none := by
        rw [show a.add 0 = a from rfl] at hc0
        cases hs : a.spot with
        | none => rfl
        | some s => unfold World.cell? at hc0; split at hc0 <;> simp [hs] at hc0
      have hci := hat i _ h3
      obtain ⟨ab, ao, asp⟩ := a
      simp only at hsp
      subst hsp
      refine ⟨ab, ao, rfl, ?_⟩
      rw [h3, ← hci]
      congr 1
      unfold Addr.add
      split <;> simp_all
    · intro b hb j u hu
      cases hb
      exact hat j u hu
end Go.Proofs.Ytpedohlglllocaa.bits
