/-
  Layer 4: what comes in: slices of writes.
-/
import Derived.Test.YtlhhkoaacjakcaaDevArg
import Derived.Test.YtlhhkoaacjakcaaDevWr
namespace Go.Proofs.Ytlhhkoaacjakcaa.dev
open Go.ChangeShapes Go.WideShapes Go.ChangeAt Go.RowKit Go.Deep mem
set_option linter.unusedVariables false

section
variable {H : Type} {enc : TypeId × Value → H} {W : World} {fuel : Nat} {cs : List Value} {x : DataW H × List MemPlace}

set_option maxRecDepth 16000 in
theorem put_open (h : DataW.trod enc Try.prog W 0 (fun _ => true) true fuel 70 cs = some x) :
    ∃ p : Int × ByteArray, cs = [.int .i64 p.1, .string p.2] ∧ InI64 p.1 ∧ p.2.size ≤ 9223372036854775807 := by
  obtain ⟨xs, m, _, hx, hl, hxl, hfld⟩ := DataW.trod_struct Try.underlying70 h
  rw [cells70] at hl
  match cs, hl with
  | [c0, c1], _ =>
    match xs, hxl with
    | [y0, y1], _ =>
      have g0 : DataW.trod enc Try.prog W 0 (fun _ => true) true m 3 [c0] = some y0 := hfld 0 _ rfl
      have g1 : DataW.trod enc Try.prog W 0 (fun _ => true) true m 9 [c1] = some y1 := hfld 1 _ rfl
      obtain ⟨k0, e0, _, w0⟩ := DataW.trod_int Try.underlying3 g0
      obtain ⟨s1, e1, _, w1⟩ := DataW.trod_string Try.underlying9 g1
      simp only [List.cons.injEq, and_true] at e0 e1
      subst e0 e1
      exact ⟨(k0, s1), rfl, wf64 w0, by unfold maxLen at w1; exact w1⟩

theorem puts_open (h : DataW.trod enc Try.prog W 0 (fun _ => true) true fuel 64 cs = some x) (hf : Fits 64 x.1) :
    ∃ v l, cs = [v] ∧ PutsIn W v l ∧ PutsOk l := by
  rcases open_slice Try.underlying64 h with ⟨hcs, hx⟩ | ⟨a, len, cap, m, n, D, Pl, hcs, _, hl, hm, hmm, hx, hi⟩
  · exact ⟨_, [], hcs, ⟨none, 0, rfl, fun i hi => absurd hi (by simp)⟩, ⟨by simp, fun x hx => by cases hx⟩⟩
  · have hmc : m = cap := hmm
    rw [hx] at hf
    rw [cells70] at hi
    have each : ∀ i, i < len → ∃ p : Int × ByteArray, (InI64 p.1 ∧ p.2.size ≤ 9223372036854775807) ∧ W.cell? (a.add (i * 2 + 0)) = some (.int .i64 p.1) ∧ W.cell? (a.add (i * 2 + 1)) = some (.string p.2) := by
      intro i hil
      obtain ⟨cs', hc, ht⟩ := hi i (by omega)
      obtain ⟨p, e, ho⟩ := put_open ht
      obtain ⟨_, hlc, hcell⟩ := World.cells?_some hc
      subst e
      have h0 := hcell 0 (by omega)
      have h1 := hcell 1 (by omega)
      rw [add_add] at h0 h1
      exact ⟨p, ho, h0, h1⟩
    let f : Nat → Int × ByteArray := fun i => if hil : i < len then Classical.choose (each i hil) else (0, empty)
    have hf2 : ∀ i, i < len → (InI64 (f i).1 ∧ (f i).2.size ≤ 9223372036854775807) ∧ W.cell? (a.add (i * 2 + 0)) = some (.int .i64 (f i).1) ∧ W.cell? (a.add (i * 2 + 1)) = some (.string (f i).2) := fun i hil => by
      show (InI64 (dite _ _ _ : Int × ByteArray).1 ∧ (dite _ _ _ : Int × ByteArray).2.size ≤ _) ∧ _
      simp only [f, dif_pos hil]
      exact Classical.choose_spec (each i hil)
    clear_value f
    have hll : ((List.range len).map f).length = len := by simp
    refine ⟨_, (List.range len).map f, hcs, ⟨some a, cap, by rw [hll], fun i hi2 => ?_⟩, ⟨?_, fun o ho => ?_⟩⟩
    · rw [hll] at hi2
      have h0 := (hf2 0 (by omega)).2.1
      have hsp := no_spot h0
      obtain ⟨ab, ao, asp⟩ := a
      simp only at hsp
      subst hsp
      obtain ⟨h1, h2, h3⟩ := hf2 i hi2
      have ei : ((List.range len).map f)[i]'(by rw [hll]; exact hi2) = f i := by simp
      rw [ei]
      rw [addp] at h2 h3
      exact ⟨ab, ao, rfl, h2, h3⟩
    · have := fits_len Try.underlying64 hf bytes70
      simpa using this
    · obtain ⟨i, hi2, rfl⟩ := List.mem_map.1 ho
      exact (hf2 i (List.mem_range.1 hi2)).1
/-- five parameters -/
theorem trodAll_five {P : Program} {w : World} {base : Nat} {spare : Nat → Bool} {held : Bool} {t0 t1 t2 t3 t4 : TypeId} {args : Array Value} {ds : List (DataW H)} {ps : List MemPlace} (h : DataW.TrodAll enc P w base spare held [t0, t1, t2, t3, t4] args.toList ds ps) :
    ∃ v0 v1 v2 v3 v4 d0 d1 d2 d3 d4 p0 p1 p2 p3 p4, args = #[v0, v1, v2, v3, v4] ∧ ds = [d0, d1, d2, d3, d4] ∧ ps = p0 ++ p1 ++ p2 ++ p3 ++ p4 ∧ DataW.Trod enc P w base spare held t0 v0 d0 p0 ∧ DataW.Trod enc P w base spare held t1 v1 d1 p1 ∧ DataW.Trod enc P w base spare held t2 v2 d2 p2 ∧ DataW.Trod enc P w base spare held t3 v3 d3 p3 ∧ DataW.Trod enc P w base spare held t4 v4 d4 p4 := by
  obtain ⟨v0, vs0, d0, ds0, p0, q0, hargs, rfl, rfl, hd0, hr0⟩ := trodAll_cons h
  obtain ⟨v1, vs1, d1, ds1, p1, q1, rfl, rfl, rfl, hd1, hr1⟩ := trodAll_cons hr0
  obtain ⟨v2, vs2, d2, ds2, p2, q2, rfl, rfl, rfl, hd2, hr2⟩ := trodAll_cons hr1
  obtain ⟨v3, vs3, d3, ds3, p3, q3, rfl, rfl, rfl, hd3, hr3⟩ := trodAll_cons hr2
  obtain ⟨v4, vs4, d4, ds4, p4, q4, rfl, rfl, rfl, hd4, hr4⟩ := trodAll_cons hr3
  obtain ⟨rfl, rfl, rfl⟩ := trodAll_nil hr4
  exact ⟨v0, v1, v2, v3, v4, d0, d1, d2, d3, d4, p0, p1, p2, p3, p4, by cases args; simp_all, rfl, by simp, hd0, hd1, hd2, hd3, hd4⟩
end
end Go.Proofs.Ytlhhkoaacjakcaa.dev
