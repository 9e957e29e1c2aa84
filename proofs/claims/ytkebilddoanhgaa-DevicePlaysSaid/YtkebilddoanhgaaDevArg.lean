/-
  Layer 4: what comes in: slices of calls, slices of writes, a crash.
-/
import Derived.Test.YtkebilddoanhgaaDevY
import Derived.Deep.Slices
import Derived.Deep.Fields
import Derived.ChangeSame
import Derived.ChangeSlices
import Derived.SizedLaws
namespace Go.Proofs.Ytkebilddoanhgaa.dev
open Go.ChangeShapes Go.WideShapes Go.ChangeAt Go.RowKit Go.Deep mem
set_option linter.unusedVariables false

theorem laidOut : laidOutB Try.prog = true := by kernel_rfl
theorem cells3 : Try.prog.cellsOf 3 = 1 := by kernel_rfl
theorem bytes3 : Try.prog.bytesOf 3 = 8 := by kernel_rfl
theorem cells42 : Try.prog.cellsOf 42 = 8 := by kernel_rfl
theorem bytes42 : 8 ≤ Try.prog.bytesOf 42 := of_decide_eq_true (by kernel_rfl)
theorem cells40 : Try.prog.cellsOf 40 = 3 := by kernel_rfl
/-- nothing in it is greater than memory -/
def Fits {H : Type} (t : TypeId) (d : DataW H) : Prop := ∀ n ∈ d.weights Try.prog t, n ≤ 140737488351232
theorem fits_of {H : Type} {ts : List TypeId} {ds : List (DataW H)} (h : (DataW.weightsEach Try.prog ts ds).all (· ≤ reachBytes) = true) {j : Nat} {t : TypeId} {d : DataW H} (ht : ts[j]? = some t) (hd : ds[j]? = some d) : Fits t d := fun n hn => by
  have := List.all_eq_true.1 h n (DataW.weights_mem_each ht hd n hn)
  exact of_decide_eq_true this
theorem fits_part {H : Type} {t t' : TypeId} {fs : Array Field} {parts : List (DataW H)} {d : DataW H} (hu : Try.prog.underlying t = some (.struct fs)) (h : Fits t (.agg parts)) {j : Nat} (ht : (fs.toList.map (·.type))[j]? = some t') (hd : parts[j]? = some d) : Fits t' d := fun n hn => h n (by
  simp only [DataW.weights, hu]
  exact DataW.weights_mem_each ht hd n hn)
theorem weights_all {H : Type} {e : TypeId} {d : DataW H} {n : Nat} : ∀ {l : List (DataW H)}, d ∈ l → n ∈ d.weights Try.prog e → n ∈ DataW.weightsAll Try.prog e l
  | x :: l, h, hn => by
    simp only [DataW.weightsAll, List.mem_append]
    rcases List.mem_cons.1 h with rfl | h
    · exact .inl hn
    · exact .inr (weights_all h hn)
theorem fits_elem {H : Type} {t e : TypeId} {elems spare : List (DataW H)} {d : DataW H} (hu : Try.prog.underlying t = some (.slice e)) (h : Fits t (.slice elems spare)) (hd : d ∈ elems) : Fits e d := fun n hn => h n (by
  simp only [DataW.weights, hu, List.mem_cons, List.mem_append]
  exact .inr (.inl (weights_all hd hn)))
theorem fits_len {H : Type} {t e : TypeId} {elems spare : List (DataW H)} (hu : Try.prog.underlying t = some (.slice e)) (h : Fits t (.slice elems spare)) (hb : 8 ≤ Try.prog.bytesOf e) : elems.length ≤ 17592186043904 := by
  have := h ((elems.length + spare.length) * Try.prog.bytesOf e) (by simp [DataW.weights, hu])
  have h2 : (elems.length + spare.length) * 8 ≤ (elems.length + spare.length) * Try.prog.bytesOf e := Nat.mul_le_mul_left _ hb
  omega

theorem wf64 {n : Int} (h : (Lit.int .i64 n).wf = true) : InI64 n := by
  have : -9223372036854775808 ≤ n ∧ n ≤ 9223372036854775807 := by simpa [Lit.wf, IntKind.min, IntKind.max, IntKind.signed, IntKind.bits] using h
  exact this
theorem wf8 {n : Int} (h : (Lit.int .u8 n).wf = true) : 0 ≤ n ∧ n ≤ 255 := by
  simpa [Lit.wf, IntKind.min, IntKind.max, IntKind.signed, IntKind.bits] using h
theorem no_spot {W : World} {a : Addr} {u : Value} (h : W.cell? (a.add 0) = some u) : a.spot = none := by
  rw [show a.add 0 = a from rfl] at h
  cases hs : a.spot with
  | none => rfl
  | some s => unfold World.cell? at h; split at h <;> simp [hs] at h
theorem addp (b o n : Nat) : (⟨b, o, none⟩ : Addr).add n = ⟨b, o + n, none⟩ := by unfold Addr.add; split <;> simp_all

section
variable {H : Type} {enc : TypeId × Value → H} {W : World} {fuel : Nat} {cs : List Value} {x : DataW H × List MemPlace}

theorem ints_open (h : DataW.trod enc Try.prog W 0 (fun _ => true) true fuel 38 cs = some x) (hf : Fits 38 x.1) :
    ∃ v ks, cs = [v] ∧ IntsIn W v ks ∧ ks.length ≤ 17592186043904 ∧ ∀ k ∈ ks, InI64 k := by
  rcases open_ints Try.underlying38 Try.underlying3 cells3 h with ⟨hcs, hx⟩ | ⟨a, len, cap, zs, hcs, _, hl, hm, hzl, hx, hcell, hwf⟩
  · exact ⟨_, [], hcs, ⟨none, 0, rfl, fun i hi => absurd hi (by simp)⟩, by simp, fun k hk => by cases hk⟩
  · have hzc : zs.length = cap := hzl
    have hlen : (zs.take len).length = len := by rw [List.length_take]; omega
    refine ⟨_, zs.take len, hcs, ⟨some a, cap, by rw [hlen], fun i hi => ?_⟩, ?_, fun k hk => wf64 (hwf k (List.mem_of_mem_take hk))⟩
    · rw [hlen] at hi
      have hsp := no_spot (hcell 0 (by omega))
      obtain ⟨ab, ao, asp⟩ := a
      simp only at hsp
      subst hsp
      refine ⟨ab, ao, rfl, ?_⟩
      have := hcell i (by omega)
      rw [addp] at this
      rw [this, List.getElem_take, List.getD_eq_getElem?_getD, List.getElem?_eq_getElem (by omega)]
      rfl
    · rw [hx] at hf
      have := fits_len Try.underlying38 hf (by rw [bytes3]; exact Nat.le_refl _)
      simp only [lits, List.length_map] at this
      exact this

set_option maxRecDepth 16000 in
theorem crash_open (h : DataW.trod enc Try.prog W 0 (fun _ => true) true fuel 40 cs = some x) (hf : Fits 40 x.1) :
    ∃ kv ks torn, ∃ mask : Nat, cs = [kv, .int .i64 torn, .int .u8 (mask : Int)] ∧ IntsIn W kv ks ∧ CrashOk ks torn mask := by
  obtain ⟨xs, m, _, hx, hl, hxl, hfld⟩ := DataW.trod_struct Try.underlying40 h
  rw [cells40] at hl
  match cs, hl with
  | [c0, c1, c2], _ =>
    match xs, hxl with
    | [y0, y1, y2], _ =>
      have g0 : DataW.trod enc Try.prog W 0 (fun _ => true) true m 38 [c0] = some y0 := hfld 0 _ rfl
      have g1 : DataW.trod enc Try.prog W 0 (fun _ => true) true m 3 [c1] = some y1 := hfld 1 _ rfl
      have g2 : DataW.trod enc Try.prog W 0 (fun _ => true) true m 5 [c2] = some y2 := hfld 2 _ rfl
      rw [hx] at hf
      have f0 : Fits 38 y0.1 := fits_part (j := 0) Try.underlying40 hf rfl rfl
      obtain ⟨v, ks, e0, hi, hk1, hk2⟩ := ints_open g0 f0
      obtain ⟨k1, e1, _, w1⟩ := DataW.trod_int Try.underlying3 g1
      obtain ⟨k2, e2, _, w2⟩ := DataW.trod_int Try.underlying5 g2
      simp only [List.cons.injEq, and_true] at e0 e1 e2
      subst e0 e1 e2
      have b2 := wf8 w2
      exact ⟨c0, ks, k1, k2.toNat, by rw [show ((k2.toNat : Nat) : Int) = k2 from by omega], hi, ⟨hk2, hk1, wf64 w1, by omega⟩⟩

set_option maxRecDepth 16000 in
theorem op_open (h : DataW.trod enc Try.prog W 0 (fun _ => true) true fuel 42 cs = some x) (hf : Fits 42 x.1) :
    ∃ (o : OpM) (kv : Value), cs = opCells o kv ∧ IntsIn W kv o.ks ∧ o.Ok := by
  obtain ⟨xs, m, _, hx, hl, hxl, hfld⟩ := DataW.trod_struct Try.underlying42 h
  rw [cells42] at hl
  match cs, hl with
  | [c0, c1, c2, c3, c4, c5, c6, c7], _ =>
    match xs, hxl with
    | [y0, y1, y2, y3, y4, y5], _ =>
      have g0 : DataW.trod enc Try.prog W 0 (fun _ => true) true m 3 [c0] = some y0 := hfld 0 _ rfl
      have g1 : DataW.trod enc Try.prog W 0 (fun _ => true) true m 3 [c1] = some y1 := hfld 1 _ rfl
      have g2 : DataW.trod enc Try.prog W 0 (fun _ => true) true m 3 [c2] = some y2 := hfld 2 _ rfl
      have g3 : DataW.trod enc Try.prog W 0 (fun _ => true) true m 3 [c3] = some y3 := hfld 3 _ rfl
      have g4 : DataW.trod enc Try.prog W 0 (fun _ => true) true m 9 [c4] = some y4 := hfld 4 _ rfl
      have g5 : DataW.trod enc Try.prog W 0 (fun _ => true) true m 40 [c5, c6, c7] = some y5 := hfld 5 _ rfl
      rw [hx] at hf
      have f5 : Fits 40 y5.1 := fits_part (j := 5) Try.underlying42 hf rfl rfl
      obtain ⟨k0, e0, _, w0⟩ := DataW.trod_int Try.underlying3 g0
      obtain ⟨k1, e1, _, w1⟩ := DataW.trod_int Try.underlying3 g1
      obtain ⟨k2, e2, _, w2⟩ := DataW.trod_int Try.underlying3 g2
      obtain ⟨k3, e3, _, w3⟩ := DataW.trod_int Try.underlying3 g3
      obtain ⟨s4, e4, _, w4⟩ := DataW.trod_string Try.underlying9 g4
      obtain ⟨kv, ks, torn, mask, e5, hi, hC⟩ := crash_open g5 f5
      simp only [List.cons.injEq, and_true] at e0 e1 e2 e3 e4 e5
      obtain ⟨e5, e6, e7⟩ := e5
      subst e0 e1 e2 e3 e4 e5 e6 e7
      exact ⟨⟨k0, k1, k2, k3, s4, ks, torn, mask⟩, c5, rfl, hi, ⟨wf64 w0, wf64 w1, wf64 w2, wf64 w3, by unfold maxLen at w4; exact w4, hC⟩⟩

theorem ops_open (h : DataW.trod enc Try.prog W 0 (fun _ => true) true fuel 24 cs = some x) (hf : Fits 24 x.1) :
    ∃ v l, cs = [v] ∧ OpsIn W v l ∧ OpsOk l := by
  rcases open_slice Try.underlying24 h with ⟨hcs, hx⟩ | ⟨a, len, cap, m, n, D, Pl, hcs, _, hl, hm, hmm, hx, hi⟩
  · exact ⟨_, [], hcs, ⟨none, 0, rfl, fun i hi => absurd hi (by simp)⟩, ⟨by simp, fun x hx => by cases hx⟩⟩
  · have hmc : m = cap := hmm
    rw [hx] at hf
    rw [cells42] at hi
    have each : ∀ i, i < len → ∃ q : OpM × Value, q.1.Ok ∧ IntsIn W q.2 q.1.ks ∧ ∀ j u, (opCells q.1 q.2)[j]? = some u → W.cell? (a.add (i * 8 + j)) = some u := by
      intro i hil
      obtain ⟨cs', hc, ht⟩ := hi i (by omega)
      obtain ⟨o, kv, e, hk, ho⟩ := op_open ht (fits_elem Try.underlying24 hf (List.mem_map.2 ⟨i, List.mem_range.2 hil, rfl⟩))
      obtain ⟨_, hlc, hcell⟩ := World.cells?_some hc
      refine ⟨(o, kv), ho, hk, fun j u hj => ?_⟩
      subst e
      have hj' : (opCells o kv)[j]? = some u := hj
      have hjl : j < 8 := (List.getElem?_eq_some_iff.1 hj').1
      have := hcell j hjl
      rw [add_add] at this
      rw [this]
      exact hj'
    let f : Nat → OpM × Value := fun i => if hil : i < len then Classical.choose (each i hil) else (⟨0, 0, 0, 0, empty, [], 0, 0⟩, .slice none 0 0)
    have hf2 : ∀ i, i < len → (f i).1.Ok ∧ IntsIn W (f i).2 (f i).1.ks ∧ ∀ j u, (opCells (f i).1 (f i).2)[j]? = some u → W.cell? (a.add (i * 8 + j)) = some u := fun i hil => by
      show (dite _ _ _ : OpM × Value).1.Ok ∧ IntsIn W (dite _ _ _ : OpM × Value).2 (dite _ _ _ : OpM × Value).1.ks ∧ _
      simp only [f, dif_pos hil]
      exact Classical.choose_spec (each i hil)
    clear_value f
    have hll : ((List.range len).map fun i => (f i).1).length = len := by simp
    refine ⟨_, (List.range len).map fun i => (f i).1, hcs, ⟨some a, cap, by rw [hll], fun i hi2 => ?_⟩, ⟨?_, fun o ho => ?_⟩⟩
    · rw [hll] at hi2
      have h0 := (hf2 0 (by omega)).2.2 0 _ rfl
      have hsp := no_spot h0
      obtain ⟨ab, ao, asp⟩ := a
      simp only at hsp
      subst hsp
      obtain ⟨h1, h2, h3⟩ := hf2 i hi2
      have ei : ((List.range len).map fun i => (f i).1)[i]'(by rw [hll]; exact hi2) = (f i).1 := by simp
      rw [ei]
      refine ⟨ab, ao, (f i).2, rfl, h2, fun j u hj => ?_⟩
      have := h3 j u hj
      rw [addp] at this
      rw [Nat.add_assoc]
      exact this
    · have := fits_len Try.underlying24 hf bytes42
      simpa using this
    · obtain ⟨i, hi2, rfl⟩ := List.mem_map.1 ho
      exact (hf2 i (List.mem_range.1 hi2)).1
end
end Go.Proofs.Ytkebilddoanhgaa.dev
