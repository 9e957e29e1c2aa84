/-
  Layer 7, the law: awake; nodes that grow; a leaf of three.
-/
import Derived.Test.YtfgcbbbhnnikdaaPgQ
import Derived.Test.YtfgcbbbhnnikdaaHeapA
namespace Go.Proofs.Ytfgcbbbhnnikdaa.pg
open Go.ChangeShapes Go.WideShapes Go.ChangeAt Go.RowKit mem
set_option linter.unusedVariables false

def strsV (xs : List ByteArray) : List Value := xs.map Value.string
def kidsV (ks : List Nat) : List Value := ks.map fun k => .int .u32 ((k : Nat) : Int)
theorem strsV_snoc (xs : List ByteArray) (x : ByteArray) : strsV xs ++ [.string x] = strsV (xs ++ [x]) := by simp [strsV]
theorem kidsV_snoc (ks : List Nat) (k : Nat) : kidsV ks ++ [.int .u32 (k : Int)] = kidsV (ks ++ [k]) := by simp [kidsV]
theorem rowS : RowOf 62 9 (.string ⟨#[]⟩) 1 16 := ⟨Try.underlying62, by kernel_rfl, rfl, by decide⟩
theorem rowU : RowOf 63 84 (.int .u32 0) 1 4 := ⟨Try.underlying63, by kernel_rfl, rfl, by decide⟩
theorem litS (w : World) (a : Value) (t : TypeId) : ∀ j u, [a][j]? = some u → (w.alloc (.cells #[a] t)).cell? ((⟨w.heap.size, 0, none⟩ : Addr).add j) = some u := by
  intro j u hj
  have hb := heap_alloc_new w (.cells #[a] t)
  rw [Addr.add_mid, Nat.zero_add, cell_of_row _ _ _ _ _ _ hb]
  simpa using hj
theorem oneS (b : ByteArray) : ∀ u ∈ [Value.string b], u.oneCell' = true := by
  intro u hu
  simp at hu
  rw [hu]; rfl
theorem oneU (b : Int) : ∀ u ∈ [Value.int .u32 b], u.oneCell' = true := by
  intro u hu
  simp at hu
  rw [hu]; rfl
section
variable {w wr : World} {As : List Ast}
theorem st_lit (h : St w wr As) (E : TypeId) (v : Value) : St w (wr.alloc (.cells #[v] E)) (aRow E 1 (.slice (some ⟨wr.heap.size, 0, none⟩) 1 1) 1 [v] :: As) :=
  h.push ((Ch.refl _ wr).alloc _) (A := aRow E 1 (.slice (some ⟨wr.heap.size, 0, none⟩) 1 1) 1 [v]) (F := fun g => g.1 = wr.heap.size)
    ⟨World.ownsRow_lit wr _ 1 (Nat.zero_le _) (by unfold maxLen; omega) rfl, fun g => by simp only [Value.ownBlock, Option.some.injEq]; exact eq_comm⟩ fun g hg => by omega
theorem strs_in {E : TypeId} {v : Value} {n : Nat} {xs : List ByteArray} (h : St w wr (aRow E 1 v n (strsV xs) :: As)) (hn : n = xs.length) : StrsIn wr v xs := by
  subst hn
  by_cases c : 0 < xs.length
  · obtain ⟨g, cap, rfl, _⟩ := st_form h c
    refine ⟨_, cap, rfl, fun i hi => ⟨g, 0, rfl, ?_⟩⟩
    rw [Nat.zero_add, st_at h rfl i (by omega)]
    simp [strsV, List.getElem?_eq_getElem hi]
  · obtain ⟨ao, cap, rfl⟩ := st_shape h
    exact ⟨ao, cap, rfl, fun i hi => absurd hi (by omega)⟩
theorem kids_in {E : TypeId} {v : Value} {n : Nat} {xs : List Nat} (h : St w wr (aRow E 1 v n (kidsV xs) :: As)) (hn : n = xs.length) : KidsIn wr v xs := by
  subst hn
  by_cases c : 0 < xs.length
  · obtain ⟨g, cap, rfl, _⟩ := st_form h c
    refine ⟨_, cap, rfl, fun i hi => ⟨g, 0, rfl, ?_⟩⟩
    rw [Nat.zero_add, st_at h rfl i (by omega)]
    simp [kidsV, List.getElem?_eq_getElem hi]
  · obtain ⟨ao, cap, rfl⟩ := st_shape h
    exact ⟨ao, cap, rfl, fun i hi => absurd hi (by omega)⟩
end
theorem strs_nil (W : World) : StrsIn W (.slice none 0 0) [] := ⟨none, 0, rfl, fun i hi => by cases hi⟩
theorem kids_nil (W : World) : KidsIn W (.slice none 0 0) [] := ⟨none, 0, rfl, fun i hi => by cases hi⟩

/-- a node that is no leaf, growing -/
structure Grow (z : Nat) (keys : List ByteArray) (kids : List Nat) : Prop where
  len : kids.length = keys.length + 1
  top : kids.length ≤ orderM z
  rise : riseM keys
  kidz : ∀ x ∈ kids, x ≠ 0 ∧ x < 4294967296
theorem Grow.start (z : Nat) : Grow z [] [1] := ⟨rfl, (by simp [orderM]), (fun i hi => by cases hi), (fun x hx => by simp at hx; subst hx; omega)⟩
theorem Grow.more {z : Nat} {keys : List ByteArray} {kids : List Nat} (g : Grow z keys kids) {k : ByteArray} {c : Nat} (ht : kids.length < orderM z) (h1 : 1 ≤ k.size) (h2 : k.size ≤ 64)
    (hl : keys.length = 0 ∨ lessB (keys.getD (keys.length - 1) emp) k = true) (c0 : c ≠ 0) (c1 : c < 4294967296) : Grow z (keys ++ [k]) (kids ++ [c]) := by
  refine ⟨by simp [g.len], by simp; omega, fun i hi => ?_, fun x hx => ?_⟩
  · by_cases e : i = keys.length
    · subst e
      have e1 : (keys ++ [k]).getD keys.length emp = k := by simp [List.getD_eq_getElem?_getD]
      refine ⟨by rw [e1]; exact ⟨h1, h2⟩, ?_⟩
      rcases hl with h | h
      · exact .inl h
      · by_cases e0 : keys.length = 0
        · exact .inl e0
        · refine .inr ?_
          rw [e1, show (keys ++ [k]).getD (keys.length - 1) emp = keys.getD (keys.length - 1) emp from by simp [List.getD_eq_getElem?_getD, List.getElem?_append_left (show keys.length - 1 < keys.length by omega)]]
          exact h
    · have hi' : i < keys.length := by simp at hi; omega
      have ea : ∀ j, j < keys.length → (keys ++ [k]).getD j emp = keys.getD j emp := fun j hj => by simp [List.getD_eq_getElem?_getD, List.getElem?_append_left hj]
      have := g.rise i hi'
      unfold riseAt at this ⊢
      rw [ea i hi', ea (i - 1) (by omega)]
      exact this
  · rcases List.mem_append.1 hx with h | h
    · exact g.kidz x h
    · simp at h; subst h; exact ⟨c0, c1⟩
theorem Grow.check {z : Nat} {keys : List ByteArray} {kids : List Nat} (g : Grow z keys kids) (hz : okSz z) : CheckM ⟨false, keys, [], kids⟩ z := by
  have hs : sumB keys ≤ 64 * keys.length := sumB_le 64 _ fun x hx => by
    obtain ⟨i, hi, e⟩ := mem_getD hx
    have := (g.rise i hi).1.2
    rw [e] at this; exact this
  refine ⟨g.rise, ⟨(fun h => by cases h), fun _ => ⟨rfl, g.len, g.top, fun i hi => ?_⟩⟩, ?_⟩
  · show kids.getD i 0 ≠ 0
    rw [List.getD_eq_getElem?_getD, List.getElem?_eq_getElem hi]
    exact (g.kidz _ (List.getElem_mem hi)).1
  · show (if false = true then _ else 3 + 4 * kids.length + keys.length + sumB keys) ≤ z
    rw [if_neg (by decide)]
    have h1 := g.len
    have h2 := g.top
    have h3 := hz.1
    unfold orderM at h2
    omega
theorem Grow.ok {z : Nat} {keys : List ByteArray} {kids : List Nat} (g : Grow z keys kids) (hz : okSz z) : NodeOk ⟨false, keys, [], kids⟩ := by
  have h2 := g.top
  have h3 := hz.2.1
  have h4 := g.len
  unfold orderM at h2
  refine ⟨by show keys.length ≤ _; omega, by simp, by show kids.length ≤ _; omega, fun x hx => ?_, fun x hx => by simp at hx, fun x hx => (g.kidz x hx).2⟩
  obtain ⟨i, hi, e⟩ := mem_getD hx
  have := (g.rise i hi).1.2
  rw [e] at this; omega

/-- the leaf of three -/
def kc (i : Nat) : ByteArray := ⟨#[UInt8.ofNat (97 + i)]⟩
def zb (q : Nat) : ByteArray := ⟨(List.replicate q 0).toArray⟩
theorem zb_size (q : Nat) : (zb q).size = q := by show (List.replicate q (0 : UInt8)).toArray.size = q; simp
def lkeys (k : Nat) : List ByteArray := (List.range k).map kc
def lvals (q k : Nat) : List ByteArray := List.replicate k (zb q)
theorem lkeys_snoc (k : Nat) : lkeys k ++ [kc k] = lkeys (k + 1) := by simp [lkeys, List.range_succ]
theorem lvals_snoc (q k : Nat) : lvals q k ++ [zb q] = lvals q (k + 1) := by simp [lvals, List.replicate_succ']
theorem sumB_rep (q : Nat) : ∀ k, sumB (List.replicate k (zb q)) = k * q
  | 0 => by simp [sumB]
  | k + 1 => by
    have := sumB_rep q k
    unfold sumB at this ⊢
    rw [List.replicate_succ, List.map_cons, List.sum_cons, this, zb_size, Nat.succ_mul]; omega
theorem lkeys3 : lkeys 3 = [kc 0, kc 1, kc 2] := rfl
theorem three_check {z q : Nat} (hz : okSz z) (hq : q + 4 ≤ mostM z) : CheckM ⟨true, lkeys 3, lvals q 3, []⟩ z := by
  refine ⟨fun i hi => ?_, ⟨fun _ => ⟨by simp [lvals, lkeys], rfl, fun i hi => ?_⟩, (fun h => by cases h)⟩, ?_⟩
  · have hi' : i < 3 := by simpa [lkeys] using hi
    match i, hi' with
    | 0, _ => exact (show riseAt (lkeys 3) 0 from ⟨⟨by decide, by decide⟩, .inl rfl⟩)
    | 1, _ => exact (show riseAt (lkeys 3) 1 from ⟨⟨by decide, by decide⟩, .inr (by decide +kernel)⟩)
    | 2, _ => exact (show riseAt (lkeys 3) 2 from ⟨⟨by decide, by decide⟩, .inr (by decide +kernel)⟩)
  · have hi' : i < 3 := by simpa [lkeys] using hi
    have e1 : (key ⟨true, lkeys 3, lvals q 3, []⟩ i).size = 1 := by
      match i, hi' with
      | 0, _ => rfl
      | 1, _ => rfl
      | 2, _ => rfl
    have e2 : (val ⟨true, lkeys 3, lvals q 3, []⟩ i).size = q := by
      show ((List.replicate 3 (zb q)).getD i emp).size = q
      rw [List.getD_eq_getElem?_getD, List.getElem?_replicate, if_pos hi']
      exact zb_size q
    unfold entOk
    omega
  · show (if true = true then 3 + 3 * (lkeys 3).length + sumB (lkeys 3) + sumB (lvals q 3) else _) ≤ z
    rw [if_pos rfl]
    unfold lvals
    rw [sumB_rep]
    have e1 : (lkeys 3).length = 3 := rfl
    have e2 : sumB (lkeys 3) = 3 := rfl
    have h3 := hz.1
    rw [e1, e2]
    unfold mostM at hq
    omega
theorem three_ok {q : Nat} (hq : q ≤ 4096) : NodeOk ⟨true, lkeys 3, lvals q 3, []⟩ := by
  refine ⟨by simp [lkeys], by simp [lvals], by simp, fun x hx => ?_, fun x hx => ?_, fun x hx => by simp at hx⟩
  · simp [lkeys3] at hx
    rcases hx with h | h | h <;> (rw [h]; exact (show (1 : Nat) ≤ _ by decide))
  · have := (List.mem_replicate.1 hx).2
    rw [this, zb_size]; omega
theorem big_bad {z : Nat} (h : okSz z) : ¬ (okSz z ∧ CheckM ⟨true, [kc 0], [zb (mostM z - 3)], []⟩ (z : Int).toNat) := by
  intro hh
  have := (hh.2.may.1 rfl).2.2 0 (show 0 < 1 by decide)
  rw [Int.toNat_natCast] at this
  have e2 : (val ⟨true, [kc 0], [zb (mostM z - 3)], []⟩ 0).size = mostM z - 3 := zb_size _
  have e1 : (key ⟨true, [kc 0], [zb (mostM z - 3)], []⟩ 0).size = 1 := rfl
  unfold entOk at this
  rw [e1, e2] at this
  have h3 := h.1
  unfold mostM at this
  omega
theorem big_ok {q : Nat} (hq : q ≤ 4096) : NodeOk ⟨true, [kc 0], [zb q], []⟩ := by
  refine ⟨by simp, by simp, by simp, fun x hx => ?_, fun x hx => ?_, fun x hx => by simp at hx⟩
  · simp at hx; rw [hx]; exact (show (1 : Nat) ≤ _ by decide)
  · simp at hx; rw [hx, zb_size]; omega
end Go.Proofs.Ytfgcbbbhnnikdaa.pg
