/-
  Layer 5: what comes in: slices of days.
-/
import Derived.Test.YtjmjmekmaamclaaDoorMR
import Derived.Test.YtjmjmekmaamclaaDoorJyB
namespace Go.Proofs.YtjmjmekmaamclaaDoor.jrn
open Go.ChangeShapes Go.WideShapes Go.ChangeAt Go.RowKit Go.Deep mem dev
set_option linter.unusedVariables false
theorem cellsDay : Tryd.prog.cellsOf 50 = 7 := by kernel_rfl
theorem bytesDay : 8 ≤ Tryd.prog.bytesOf 50 := of_decide_eq_true (by kernel_rfl)
section
variable {H : Type} {enc : TypeId × Value → H} {W : World} {fuel : Nat} {cs : List Value} {x : DataW H × List MemPlace}
def dayCells (d : DyM) : List Value := [d.lv, .bool d.check, .int .i64 d.fall, d.kv, .int .i64 d.torn, .int .u8 ((d.mask : Nat) : Int), d.zv]
structure DayIn (W : World) (d : DyM) : Prop where
  ps : PutsIn W d.lv d.L
  ki : IntsIn W d.kv d.ks
  zi : IntsIn W d.zv d.zs
set_option maxRecDepth 16000 in
theorem day_open (h : DataW.trod enc Tryd.prog W 0 (fun _ => true) true fuel 50 cs = some x) (hf : Fits 50 x.1) :
    ∃ d : DyM, cs = dayCells d ∧ DayIn W d ∧ DyOk d := by
  obtain ⟨xs, m, _, hx, hl, hxl, hfld⟩ := DataW.trod_struct Tryd.underlying50 h
  rw [cellsDay] at hl
  match cs, hl with
  | [c0, c1, c2, c3, c4, c5, c6], _ =>
    match xs, hxl with
    | [y0, y1, y2, y3, y4], _ =>
      have g0 : DataW.trod enc Tryd.prog W 0 (fun _ => true) true m 45 [c0] = some y0 := hfld 0 _ rfl
      have g1 : DataW.trod enc Tryd.prog W 0 (fun _ => true) true m 4 [c1] = some y1 := hfld 1 _ rfl
      have g2 : DataW.trod enc Tryd.prog W 0 (fun _ => true) true m 3 [c2] = some y2 := hfld 2 _ rfl
      have g3 : DataW.trod enc Tryd.prog W 0 (fun _ => true) true m 48 [c3, c4, c5] = some y3 := hfld 3 _ rfl
      have g4 : DataW.trod enc Tryd.prog W 0 (fun _ => true) true m 46 [c6] = some y4 := hfld 4 _ rfl
      rw [hx] at hf
      have f0 : Fits 45 y0.1 := fits_part (j := 0) Tryd.underlying50 hf rfl rfl
      have f3 : Fits 48 y3.1 := fits_part (j := 3) Tryd.underlying50 hf rfl rfl
      have f4 : Fits 46 y4.1 := fits_part (j := 4) Tryd.underlying50 hf rfl rfl
      obtain ⟨lv, L, e0, hL, oL⟩ := puts_open g0 f0
      obtain ⟨k1, e1, _⟩ := DataW.trod_bool Tryd.underlying4 g1
      obtain ⟨k2, e2, _, w2⟩ := DataW.trod_int Tryd.underlying3 g2
      obtain ⟨kv, ks, torn, mask, e3, hi, hC⟩ := crash_open g3 f3
      obtain ⟨zv, zs, e4, hz, hz1, hz2⟩ := ints_open g4 f4
      simp only [List.cons.injEq, and_true] at e0 e1 e2 e3 e4
      obtain ⟨e3, e5, e6⟩ := e3
      subst e0 e1 e2 e3 e4 e5 e6
      exact ⟨⟨L, c0, k1, k2, c3, ks, torn, mask, c6, zs⟩, rfl, ⟨hL, hi, hz⟩, ⟨oL, wf64 w2, hC, hz2, hz1⟩⟩
theorem days_open (h : DataW.trod enc Tryd.prog W 0 (fun _ => true) true fuel 42 cs = some x) (hf : Fits 42 x.1) :
    ∃ v l, cs = [v] ∧ DaysIn W v l ∧ l.length ≤ 17592186043904 ∧ ∀ d ∈ l, DyOk d := by
  rcases open_slice Tryd.underlying42 h with ⟨hcs, hx⟩ | ⟨a, len, cap, m, n, D, Pl, hcs, _, hl, hm, hmm, hx, hi⟩
  · exact ⟨_, [], hcs, ⟨none, 0, rfl, fun i hi => absurd hi (by simp)⟩, by simp, fun x hx => by cases hx⟩
  · have hmc : m = cap := hmm
    rw [hx] at hf
    rw [cellsDay] at hi
    have each : ∀ i, i < len → ∃ d : DyM, DyOk d ∧ DayIn W d ∧ ∀ j u, (dayCells d)[j]? = some u → W.cell? (a.add (i * 7 + j)) = some u := by
      intro i hil
      obtain ⟨cs', hc, ht⟩ := hi i (by omega)
      obtain ⟨d, e, hin, ho⟩ := day_open ht (fits_elem Tryd.underlying42 hf (List.mem_map.2 ⟨i, List.mem_range.2 hil, rfl⟩))
      obtain ⟨_, hlc, hcell⟩ := World.cells?_some hc
      refine ⟨d, ho, hin, fun j u hj => ?_⟩
      subst e
      have hjl : j < 7 := (List.getElem?_eq_some_iff.1 hj).1
      have := hcell j hjl
      rw [add_add] at this
      rw [this]
      exact hj
    let f : Nat → DyM := fun i => if hil : i < len then Classical.choose (each i hil) else ⟨[], .slice none 0 0, false, 0, .slice none 0 0, [], 0, 0, .slice none 0 0, []⟩
    have hf2 : ∀ i, i < len → DyOk (f i) ∧ DayIn W (f i) ∧ ∀ j u, (dayCells (f i))[j]? = some u → W.cell? (a.add (i * 7 + j)) = some u := fun i hil => by
      simp only [f, dif_pos hil]
      exact Classical.choose_spec (each i hil)
    clear_value f
    have hll : ((List.range len).map f).length = len := by simp
    refine ⟨_, (List.range len).map f, hcs, ⟨some a, cap, by rw [hll], fun i hi2 => ?_⟩, ?_, fun o ho => ?_⟩
    · rw [hll] at hi2
      have h0 := (hf2 0 (by omega)).2.2 0 _ rfl
      have hsp := no_spot h0
      obtain ⟨ab, ao, asp⟩ := a
      simp only at hsp
      subst hsp
      obtain ⟨h1, h2, h3⟩ := hf2 i hi2
      have ei : ((List.range len).map f)[i]'(by rw [hll]; exact hi2) = f i := by simp
      rw [ei]
      have k : ∀ j u, (dayCells (f i))[j]? = some u → W.cell? ⟨ab, ao + i * 7 + j, none⟩ = some u := fun j u hj => by
        have := h3 j u hj
        rw [addp, ← Nat.add_assoc] at this
        exact this
      exact ⟨ab, ao, rfl, ⟨k 0 _ rfl, k 1 _ rfl, k 2 _ rfl, k 3 _ rfl, k 4 _ rfl, k 5 _ rfl, k 6 _ rfl, h2.ps, h2.ki, h2.zi⟩⟩
    · have := fits_len Tryd.underlying42 hf bytesDay
      simpa using this
    · obtain ⟨i, hi2, rfl⟩ := List.mem_map.1 ho
      exact (hf2 i (List.mem_range.1 hi2)).1
end
end Go.Proofs.YtjmjmekmaamclaaDoor.jrn
