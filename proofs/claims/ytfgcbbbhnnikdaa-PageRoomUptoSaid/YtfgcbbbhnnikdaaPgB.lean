/-
  Layer 7, plain: a block read again. No program.
-/
import Derived.Test.YtfgcbbbhnnikdaaPgA
namespace Go.Proofs.Ytfgcbbbhnnikdaa.pg
set_option linter.unusedVariables false

def takeM (k : Nat) (s : ByteArray) : Option (ByteArray × ByteArray) := if k ≤ s.size then some (s.extract 0 k, s.extract k s.size) else none
theorem takeM_some {k : Nat} {s : ByteArray} (h : k ≤ s.size) : takeM k s = some (s.extract 0 k, s.extract k s.size) := if_pos h
theorem takeM_none {k : Nat} {s : ByteArray} (h : ¬ k ≤ s.size) : takeM k s = none := if_neg h
theorem takeM_app (a b : ByteArray) {k : Nat} (h : k = a.size) : takeM k (a ++ b) = some (a, b) := by
  rw [takeM_some (by rw [ByteArray.size_append]; omega), ext_left a b k h, ext_right a b k h]
/-- an entry is read: its key, its value or its kid's bytes, what stands behind -/
def entP (leaf : Bool) (s : ByteArray) : Option ((ByteArray × ByteArray) × ByteArray) :=
  (takeM 1 s).bind fun a =>
    if leaf then (takeM 2 a.2).bind fun b => (takeM (num a.1) b.2).bind fun k => (takeM (num b.1) k.2).bind fun v => some ((k.1, v.1), v.2)
    else (takeM (num a.1) a.2).bind fun k => (takeM 4 k.2).bind fun c => some ((k.1, c.1), c.2)
def goM (leaf : Bool) (s : ByteArray) : Nat → Option (List (ByteArray × ByteArray) × ByteArray)
  | 0 => some ([], s)
  | i + 1 => (goM leaf s i).bind fun x => (entP leaf x.2).bind fun e => some (x.1 ++ [e.1], e.2)
theorem entP_leaf (k v t : ByteArray) (hk : k.size < 256) (hv : v.size < 65536) : entP true (entL k v ++ t) = some ((k, v), t) := by
  unfold entP entL
  simp only [ByteArray.append_assoc]
  rw [takeM_app _ _ (be_size 1 _).symm]
  simp only [Option.bind_some, if_true]
  rw [takeM_app _ _ (be_size 2 _).symm]
  simp only [Option.bind_some]
  rw [num_be_lt (by omega), num_be_lt (by omega), takeM_app k _ rfl]
  simp only [Option.bind_some]
  rw [takeM_app v _ rfl]
  rfl
theorem entP_inner (k t : ByteArray) (c : Nat) (hk : k.size < 256) : entP false (entI k c ++ t) = some ((k, be 4 c), t) := by
  unfold entP entI
  simp only [ByteArray.append_assoc]
  rw [takeM_app _ _ (be_size 1 _).symm]
  simp only [Option.bind_some, if_false, Bool.false_eq_true]
  rw [num_be_lt (by omega), takeM_app k _ rfl]
  simp only [Option.bind_some]
  rw [takeM_app _ _ (be_size 4 c).symm]
  rfl
def pair (n : Nd) (i : Nat) : ByteArray × ByteArray := (key n i, if n.leaf then val n i else be 4 (kid n (i + 1)))
theorem goM_enc (n : Nd) (t : ByteArray) (cnt : Nat) (hk : ∀ i, i < cnt → (key n i).size < 256) (hv : ∀ i, i < cnt → n.leaf = true → (val n i).size < 65536) :
    ∀ i, i ≤ cnt → goM n.leaf (cat ((List.range cnt).map (ent n)) ++ t) i = some ((List.range i).map (pair n), cat (((List.range cnt).drop i).map (ent n)) ++ t) := by
  intro i
  induction i with
  | zero => intro _; rfl
  | succ i ih =>
    intro h
    rw [goM, ih (by omega)]
    simp only [Option.bind_some]
    have hl : i < (List.range cnt).length := by rw [List.length_range]; omega
    rw [List.drop_eq_getElem_cons hl, List.getElem_range, List.map_cons, cat, ByteArray.append_assoc]
    have e : entP n.leaf (ent n i ++ (cat (((List.range cnt).drop (i + 1)).map (ent n)) ++ t)) = some (pair n i, cat (((List.range cnt).drop (i + 1)).map (ent n)) ++ t) := by
      unfold ent pair
      cases c : n.leaf with
      | true => exact entP_leaf _ _ _ (hk i (by omega)) (hv i (by omega) c)
      | false => exact entP_inner _ _ _ (hk i (by omega))
    rw [e]
    simp only [Option.bind_some]
    rw [List.range_succ, List.map_append]
    rfl
def leafB (s : ByteArray) : Bool := decide (s.extract 0 1 = m1)
def cntM (s : ByteArray) : Nat := num (s.extract 1 3)
def restM (s : ByteArray) : ByteArray := if leafB s then s.extract 3 s.size else s.extract 7 s.size
/-- what a block tells, whether it may stand there or not -/
def ndOf (s : ByteArray) (es : List (ByteArray × ByteArray)) : Nd := if leafB s then ⟨true, es.map Prod.fst, es.map Prod.snd, []⟩ else ⟨false, es.map Prod.fst, [], num (s.extract 3 7) :: es.map fun e => num e.2⟩
def nodeM (s : ByteArray) : Option Nd := (goM (leafB s) (restM s) (cntM s)).map fun x => ndOf s x.1
open Classical in
noncomputable def decM (s : ByteArray) : Option Nd := if okSz s.size then (nodeM s).bind fun n => if CheckM n s.size ∧ blockM n s.size = s then some n else none else none
def KidsOk (n : Nd) : Prop := ∀ x ∈ n.kids, x < 4294967296
theorem kid_lt {n : Nd} (h : KidsOk n) (i : Nat) : kid n i < 4294967296 := by
  unfold kid
  rw [List.getD_eq_getElem?_getD]
  cases e : n.kids[i]? with
  | none => simp
  | some x => exact h x (List.mem_of_getElem? e)
theorem m1_ne_m2 : m2 ≠ m1 := by unfold m1 m2; intro h; injection h with h; exact absurd h (by decide)
theorem range_getD {α : Type} (l : List α) (d : α) : (List.range l.length).map (fun i => l.getD i d) = l := by
  apply List.ext_getElem
  · simp
  · intro i h1 h2
    simp [List.getD_eq_getElem?_getD, List.getElem?_eq_getElem h2]
theorem rise_size {ks : List ByteArray} (h : riseM ks) {i : Nat} (hi : i < ks.length) : 1 ≤ (ks.getD i emp).size ∧ (ks.getD i emp).size ≤ 64 := (h i hi).1
theorem cnt_lt {n : Nd} {z : Nat} (c : CheckM n z) (hz : z ≤ 4096) : n.keys.length ≤ 1364 ∧ n.keys.length < 65536 := by
  have := c.fits
  unfold bytesM at this
  split at this
  · omega
  · have := (c.may.2 (by simp_all)).2.1
    omega
theorem node_enc {n : Nd} {z : Nat} (c : CheckM n z) (hz : z ≤ 4096) (kk : KidsOk n) : nodeM (blockM n z) = some n := by
  have hc := (cnt_lt c hz).2
  have hk : ∀ i, i < n.keys.length → (key n i).size < 256 := fun i hi => by have := rise_size c.rise hi; unfold key; omega
  have hmost : mostM z ≤ 1023 := by unfold mostM; omega
  have hv : ∀ i, i < n.keys.length → n.leaf = true → (val n i).size < 65536 := fun i hi hl => by have := (c.may.1 hl).2.2 i hi; unfold entOk at this; omega
  have hkeys : (List.range n.keys.length).map (key n) = n.keys := range_getD n.keys emp
  obtain ⟨t, ht⟩ : ∃ t, t = zs (z - (encM n).size) := ⟨_, rfl⟩
  have hs : blockM n z = headM n ++ (cat ((List.range n.keys.length).map (ent n)) ++ t) := by rw [blockM, ← ht, encM, upto, ByteArray.append_assoc]
  have hgo := goM_enc n t n.keys.length hk hv n.keys.length (Nat.le_refl _)
  generalize cat ((List.range n.keys.length).map (ent n)) ++ t = r at hs hgo
  cases hl : n.leaf with
  | true =>
    have e : blockM n z = m1 ++ (be 2 n.keys.length ++ r) := by rw [hs, headM, if_pos hl, ByteArray.append_assoc]
    have l1 : leafB (blockM n z) = true := by
      unfold leafB
      rw [e, ext_left m1 _ 1 rfl]
      simp
    have l2 : cntM (blockM n z) = n.keys.length := by
      unfold cntM
      rw [e, ext_mid m1 _ _ 1 3 rfl (by rw [be_size]; rfl), num_be_lt (by omega)]
    have l3 : restM (blockM n z) = r := by
      unfold restM
      rw [if_pos l1, hs]
      exact ext_right (headM n) r 3 (by rw [headM_size, if_pos hl])
    unfold nodeM
    rw [l1, l2, l3, ← hl, hgo, Option.map_some, ndOf, if_pos l1]
    obtain ⟨lf, ks, vs, kds⟩ := n
    simp only at hl
    subst hl
    obtain ⟨i1, i2, _⟩ := c.may.1 rfl
    have i1 : vs.length = ks.length := i1
    have i2 : kds = [] := List.length_eq_zero_iff.1 i2
    subst i2
    congr 1
    simp only [List.map_map]
    have e1 : (List.range ks.length).map (Prod.fst ∘ pair ⟨true, ks, vs, []⟩) = ks := range_getD ks emp
    have e2 : (List.range ks.length).map (Prod.snd ∘ pair ⟨true, ks, vs, []⟩) = vs := by rw [← i1]; exact range_getD vs emp
    rw [e1, e2]
  | false =>
    have hl' : ¬ n.leaf = true := by rw [hl]; decide
    have e : blockM n z = m2 ++ (be 2 n.keys.length ++ (be 4 (kid n 0) ++ r)) := by rw [hs, headM, if_neg hl', ByteArray.append_assoc, ByteArray.append_assoc]
    have l1 : leafB (blockM n z) = false := by
      unfold leafB
      rw [e, ext_left m2 _ 1 rfl]
      exact decide_eq_false m1_ne_m2
    have l1' : ¬ leafB (blockM n z) = true := by rw [l1]; decide
    have l2 : cntM (blockM n z) = n.keys.length := by
      unfold cntM
      rw [e, ext_mid m2 _ _ 1 3 rfl (by rw [be_size]; rfl), num_be_lt (by omega)]
    have l4 : num ((blockM n z).extract 3 7) = kid n 0 := by
      rw [e, ← ByteArray.append_assoc, ext_mid _ (be 4 (kid n 0)) _ 3 7 (by rw [ByteArray.size_append, be_size]; rfl) (by rw [ByteArray.size_append, be_size, be_size]; rfl), num_be_lt (by have := kid_lt kk 0; omega)]
    have l3 : restM (blockM n z) = r := by
      unfold restM
      rw [if_neg l1', hs]
      exact ext_right (headM n) r 7 (by rw [headM_size, if_neg hl'])
    unfold nodeM
    rw [l1, l2, l3, ← hl, hgo, Option.map_some, ndOf, if_neg l1', l4]
    obtain ⟨lf, ks, vs, kds⟩ := n
    simp only at hl
    subst hl
    obtain ⟨i1, i2, _, _⟩ := c.may.2 rfl
    have i1 : vs = [] := List.length_eq_zero_iff.1 i1
    have i2 : kds.length = ks.length + 1 := i2
    subst i1
    congr 1
    simp only [List.map_map]
    have e1 : (List.range ks.length).map (Prod.fst ∘ pair ⟨false, ks, [], kds⟩) = ks := range_getD ks emp
    have e2 : kid ⟨false, ks, [], kds⟩ 0 :: (List.range ks.length).map ((fun e => num e.2) ∘ pair ⟨false, ks, [], kds⟩) = kds := by
      have e3 : (List.range ks.length).map ((fun e : ByteArray × ByteArray => num e.2) ∘ pair ⟨false, ks, [], kds⟩) = (List.range ks.length).map fun i => kds.getD (i + 1) 0 := by
        apply List.map_congr_left
        intro i hi
        have e5 : (pair ⟨false, ks, [], kds⟩ i).2 = be 4 (kid ⟨false, ks, [], kds⟩ (i + 1)) := by unfold pair; simp
        have e6 : num (be 4 (kid ⟨false, ks, [], kds⟩ (i + 1))) = kid ⟨false, ks, [], kds⟩ (i + 1) := num_be_lt (by have := kid_lt kk (i + 1); omega)
        rw [Function.comp_apply, e5, e6]
        exact (rfl : kid ⟨false, ks, [], kds⟩ (i + 1) = kds.getD (i + 1) 0)
      rw [e3]
      cases kds with
      | nil => simp at i2
      | cons x l =>
        have i3 : l.length = ks.length := by simpa using i2
        rw [← i3]
        show x :: (List.range l.length).map (fun i => l.getD i 0) = _
        rw [range_getD]
    rw [e1, e2]
theorem dec_enc {n : Nd} {z : Nat} (c : CheckM n z) (hz : okSz z) (kk : KidsOk n) : decM (blockM n z) = some n := by
  have h2 := hz.2.1
  unfold decM
  rw [blockM_size c, if_pos hz, node_enc c (by omega) kk, Option.bind_some, if_pos ⟨c, rfl⟩]
theorem enc_inj {n m : Nd} {z : Nat} (c : CheckM n z) (d : CheckM m z) (hz : okSz z) (kn : KidsOk n) (km : KidsOk m) (h : blockM n z = blockM m z) : n = m := by
  have e1 := dec_enc c hz kn
  rw [h, dec_enc d hz km] at e1
  exact (Option.some.inj e1).symm
theorem dec_only {s : ByteArray} {n : Nd} (h : decM s = some n) : okSz s.size ∧ CheckM n s.size ∧ blockM n s.size = s := by
  unfold decM at h
  split at h
  · rename_i hz
    cases e : nodeM s with
    | none => rw [e] at h; cases h
    | some m =>
      rw [e, Option.bind_some] at h
      split at h
      · rename_i c
        cases h
        exact ⟨hz, c.1, c.2⟩
      · cases h
  · cases h
end Go.Proofs.Ytfgcbbbhnnikdaa.pg
