/-
  A slice of texts that came in, opened, where it is of small bulk.
-/
import Derived.Test.YtfgcbbbhnnikdaaPgT
import Derived.Deep.Strs
import Derived.ChangeSame
namespace Go.Proofs.Ytfgcbbbhnnikdaa.pg
open Go.ChangeShapes Go.WideShapes Go.ChangeAt Go.RowKit Go.Deep mem
set_option linter.unusedVariables false

theorem laid_out : laidOutB Try.prog = true := by kernel_rfl
theorem cellsS : Try.prog.cellsOf 9 = 1 := by kernel_rfl
theorem no_spot {W : World} {a : Addr} {u : Value} (h : W.cell? (a.add 0) = some u) : a.spot = none := by
  rw [show a.add 0 = a from rfl] at h
  cases hs : a.spot with
  | none => rfl
  | some s => unfold World.cell? at h; split at h <;> simp [hs] at h
theorem addp (b o n : Nat) : (⟨b, o, none⟩ : Addr).add n = ⟨b, o + n, none⟩ := by unfold Addr.add; split <;> simp_all
section
variable {H : Type} {enc : TypeId × Value → H} {W : World} {fuel : Nat} {cs : List Value} {x : DataW H × List MemPlace}
/-- what comes in is no longer than N, and each text no longer -/
theorem strs_open (h : DataW.trod enc Try.prog W 0 (fun _ => true) true fuel 62 cs = some x) :
    ∃ v xs, cs = [v] ∧ StrsIn W v xs ∧ (x.1 = .nil ∧ xs = [] ∨ ∃ sp, x.1 = .slice (xs.map fun s => .lit (.string s.data.toList)) sp) := by
  rcases open_strs Try.underlying62 Try.underlying9 cellsS h with ⟨hcs, hx⟩ | ⟨a, len, cap, m, Sx, hcs, _, hl, hm, hmm, hx, hcell⟩
  · exact ⟨_, [], hcs, strs_nil W, .inl ⟨by rw [hx], rfl⟩⟩
  · have hmc : m = cap := hmm
    have hlen : ((List.range len).map Sx).length = len := by simp
    refine ⟨_, (List.range len).map Sx, hcs, ⟨some a, cap, by rw [hlen], fun i hi => ?_⟩, .inr ⟨_, by rw [hx, List.map_map]; rfl⟩⟩
    rw [hlen] at hi
    have hsp := no_spot (hcell 0 (by omega)).1
    obtain ⟨ab, ao, asp⟩ := a
    simp only at hsp
    subst hsp
    refine ⟨ab, ao, rfl, ?_⟩
    have := (hcell i (by omega)).1
    rw [addp] at this
    rw [this]
    simp
theorem bulk_texts : ∀ xs : List ByteArray, xs.length ≤ Rows.uptoBulkAll (xs.map fun s => (DataW.lit (H := H) (.string s.data.toList))) ∧ ∀ s ∈ xs, s.size ≤ Rows.uptoBulkAll (xs.map fun s => (DataW.lit (H := H) (.string s.data.toList)))
  | [] => ⟨Nat.zero_le _, fun s hs => by cases hs⟩
  | y :: ys => by
    obtain ⟨h1, h2⟩ := bulk_texts ys
    have e : Rows.uptoBulkAll ((y :: ys).map fun s => (DataW.lit (H := H) (.string s.data.toList))) = y.data.toList.length + 1 + Rows.uptoBulkAll (ys.map fun s => (DataW.lit (H := H) (.string s.data.toList))) := by
      rw [List.map_cons]; simp only [Rows.uptoBulkAll, Rows.uptoBulk]
    rw [e]
    refine ⟨by rw [List.length_cons]; omega, fun s hs => ?_⟩
    rcases List.mem_cons.1 hs with rfl | hs
    · rw [data_len]; omega
    · have := h2 s hs; omega
end
end Go.Proofs.Ytfgcbbbhnnikdaa.pg
