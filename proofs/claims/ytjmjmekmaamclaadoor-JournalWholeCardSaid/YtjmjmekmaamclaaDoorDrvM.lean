/-
  Layer 4, plain: the unflushed writes by their blocks: what is written last, what a crash leaves, what is corrupted. No program.
-/
import Derived.Test.YtjmjmekmaamclaaDoorDB
namespace Go.Proofs.YtjmjmekmaamclaaDoor.dev
set_option linter.unusedVariables false

/-- the writes of block n, with their numbers (from i on) -/
def wsFrom (n : Nat) : Nat → List (Nat × ByteArray) → List (Nat × ByteArray)
  | _, [] => []
  | i, x :: c => if x.1 = n then (i, x.2) :: wsFrom n (i + 1) c else wsFrom n (i + 1) c
abbrev DevM.ws (D : DevM) (n : Nat) : List (Nat × ByteArray) := wsFrom n 0 D.cache

theorem ws_snoc (n : Nat) (x : Nat × ByteArray) : ∀ (c : List (Nat × ByteArray)) (i : Nat), wsFrom n i (c ++ [x]) = wsFrom n i c ++ if x.1 = n then [(i + c.length, x.2)] else []
  | [], i => by simp [wsFrom]
  | y :: c, i => by
    rw [List.cons_append, wsFrom, wsFrom, ws_snoc n x c, List.length_cons, show i + 1 + c.length = i + (c.length + 1) from by omega]
    split <;> simp
theorem ws_len (n : Nat) : ∀ (c : List (Nat × ByteArray)) (i : Nat), (wsFrom n i c).length ≤ c.length
  | [], i => Nat.le_refl _
  | y :: c, i => by
    have := ws_len n c (i + 1)
    rw [wsFrom]
    split
    · simp; omega
    · simp; omega
theorem ws_mem (n : Nat) : ∀ (c : List (Nat × ByteArray)) (i : Nat), ∀ x ∈ wsFrom n i c, i ≤ x.1 ∧ x.1 < i + c.length ∧ (n, x.2) ∈ c
  | [], i, x, h => by cases h
  | y :: c, i, x, h => by
    have ih := ws_mem n c (i + 1)
    rw [wsFrom] at h
    rw [List.length_cons]
    split at h
    · rename_i e
      rcases List.mem_cons.1 h with rfl | h
      · exact ⟨Nat.le_refl _, by show i < _; omega, by rw [← e]; exact List.mem_cons_self⟩
      · have := ih x h
        exact ⟨by omega, by omega, List.mem_cons_of_mem _ this.2.2⟩
    · have := ih x h
      exact ⟨by omega, by omega, List.mem_cons_of_mem _ this.2.2⟩
theorem ws_out {D : DevM} (h : D.Ok) {n : Nat} (hn : D.nb ≤ n) : D.ws n = [] := by
  rcases e : D.ws n with _ | ⟨x, l⟩
  · rfl
  · have := ws_mem n D.cache 0 x (by show x ∈ D.ws n; rw [e]; exact List.mem_cons_self)
    have := (h.csz _ this.2.2).1
    simp only at this
    omega
theorem ws_size {D : DevM} (h : D.Ok) {n : Nat} : ∀ x ∈ D.ws n, x.2.size = 512 * D.ns ∧ x.1 < D.cache.length := fun x hx => by
  have := ws_mem n D.cache 0 x hx
  exact ⟨(h.csz _ this.2.2).2, by omega⟩

/-- what was written last -/
def lastOf (l : List (Nat × ByteArray)) (s : ByteArray) : ByteArray := l.foldl (fun _ x => x.2) s
theorem last_look (n : Nat) : ∀ (c : List (Nat × ByteArray)) (i : Nat) (s : ByteArray), lastOf (wsFrom n i c) s = look c n s
  | [], i, s => rfl
  | x :: c, i, s => by
    show _ = look c n (if x.1 = n then x.2 else s)
    rw [wsFrom, ← last_look n c (i + 1)]
    split <;> rfl
theorem lastOf_get (l : List (Nat × ByteArray)) (s : ByteArray) (h : 0 < l.length) : lastOf l s = (l[l.length - 1]'(by omega)).2 := by
  have e : l = l.dropLast ++ [l.getLast (by intro e; rw [e] at h; simp at h)] := (List.dropLast_concat_getLast _).symm
  have e2 := List.getLast_eq_getElem (l := l) (by intro e; rw [e] at h; simp at h)
  rw [← e2]
  conv => lhs; rw [e]
  unfold lastOf
  rw [List.foldl_append]
  rfl
theorem now_ws (D : DevM) (n : Nat) : D.now n = lastOf (D.ws n) (D.safe.getD n empty) := (last_look n D.cache 0 _).symm

/-- what one write leaves behind a crash -/
def surv (ks : List Int) (torn : Int) (mask : Nat) (t : ByteArray) (x : Nat × ByteArray) : ByteArray :=
  if (x.1 : Int) = torn then mix mask t x.2 else if (x.1 : Int) ∈ ks then x.2 else t
def survs (ks : List Int) (torn : Int) (mask : Nat) (l : List (Nat × ByteArray)) (s : ByteArray) : ByteArray := l.foldl (surv ks torn mask) s
theorem getD_put (l : List ByteArray) (i n : Nat) (x : ByteArray) (hi : i < l.length) : (l.set i x).getD n empty = if i = n then x else l.getD n empty := by
  rw [List.getD_eq_getElem?_getD, List.getD_eq_getElem?_getD, List.getElem?_set]
  by_cases e : i = n
  · subst e; simp [hi]
  · simp [e]
theorem fallStep_get (ks : List Int) (torn : Int) (mask i n : Nat) (x : Nat × ByteArray) (s : List ByteArray) (hx : x.1 < s.length) :
    (fallStep ks torn mask i x s).getD n empty = if x.1 = n then surv ks torn mask (s.getD n empty) (i, x.2) else s.getD n empty := by
  unfold fallStep surv
  by_cases e : x.1 = n
  · rw [if_pos e]
    by_cases e1 : (i : Int) = torn
    · simp only [e1, if_true]
      rw [getD_put _ _ _ _ hx, if_pos e, e]
    · simp only [e1, if_false]
      by_cases e2 : (i : Int) ∈ ks
      · simp only [e2, if_true]
        rw [getD_put _ _ _ _ hx, if_pos e]
      · simp only [e2, if_false]
  · rw [if_neg e]
    split
    · rw [getD_put _ _ _ _ hx, if_neg e]
    · split
      · rw [getD_put _ _ _ _ hx, if_neg e]
      · rfl
theorem fallen_get (ks : List Int) (torn : Int) (mask n : Nat) : ∀ (c : List (Nat × ByteArray)) (i : Nat) (s : List ByteArray), (∀ x ∈ c, x.1 < s.length) → (fallen ks torn mask i c s).getD n empty = survs ks torn mask (wsFrom n i c) (s.getD n empty)
  | [], i, s, _ => rfl
  | x :: c, i, s, h => by
    rw [fallen, fallen_get ks torn mask n c (i + 1) _ fun y hy => by rw [fallStep_len]; exact h y (List.mem_cons_of_mem _ hy), fallStep_get _ _ _ _ _ _ _ (h x List.mem_cons_self), wsFrom]
    split <;> rfl
theorem flushed_get (n : Nat) : ∀ (c : List (Nat × ByteArray)) (s : List ByteArray), (∀ x ∈ c, x.1 < s.length) → (flushed c s).getD n empty = look c n (s.getD n empty)
  | [], s, _ => rfl
  | x :: c, s, h => by
    show (flushed c (s.set x.1 x.2)).getD n empty = look c n (if x.1 = n then x.2 else s.getD n empty)
    rw [flushed_get n c _ fun y hy => by rw [List.length_set]; exact h y (List.mem_cons_of_mem _ hy), getD_put _ _ _ _ (h x List.mem_cons_self)]

/-- each block through a function of its own -/
def mapped (val : Nat → ByteArray → ByteArray) (nb : Nat) (s : List ByteArray) : List ByteArray := (List.range nb).map fun n => val n (s.getD n empty)
theorem list_ext {a b : List ByteArray} (h : a.length = b.length) (k : ∀ n, n < a.length → a.getD n empty = b.getD n empty) : a = b := by
  refine List.ext_getElem h fun n h1 h2 => ?_
  have := k n h1
  rw [List.getD_eq_getElem?_getD, List.getD_eq_getElem?_getD, List.getElem?_eq_getElem h1, List.getElem?_eq_getElem h2] at this
  exact this
theorem mapped_len (val : Nat → ByteArray → ByteArray) (nb : Nat) (s : List ByteArray) : (mapped val nb s).length = nb := by simp [mapped]
theorem mapped_get (val : Nat → ByteArray → ByteArray) (nb n : Nat) (s : List ByteArray) (h : n < nb) : (mapped val nb s).getD n empty = val n (s.getD n empty) := by
  simp [mapped, List.getD_eq_getElem?_getD, h]
theorem flushed_mapped {D : DevM} (h : D.Ok) : mapped (fun n s => lastOf (D.ws n) s) D.nb D.safe = flushed D.cache D.safe := by
  refine list_ext (by rw [mapped_len, flushed_len, h.safe]) fun n hn => ?_
  rw [mapped_len] at hn
  rw [mapped_get _ _ _ _ hn, flushed_get n _ _ fun x hx => by rw [h.safe]; exact (h.csz x hx).1]
  exact last_look n D.cache 0 _
theorem fallen_mapped {D : DevM} (h : D.Ok) (ks : List Int) (torn : Int) (mask : Nat) : mapped (fun n s => survs ks torn mask (D.ws n) s) D.nb D.safe = fallen ks torn mask 0 D.cache D.safe := by
  refine list_ext (by rw [mapped_len, fallen_len, h.safe]) fun n hn => ?_
  rw [mapped_len] at hn
  rw [mapped_get _ _ _ _ hn, fallen_get _ _ _ n _ _ _ fun x hx => by rw [h.safe]; exact (h.csz x hx).1]

/-- some blocks are still to come -/
def midway (val : Nat → ByteArray → ByteArray) (nb : Nat) (L : Nat → Bool) (s : List ByteArray) : List ByteArray := mapped (fun n t => if L n = true then t else val n t) nb s
theorem midway_len (val : Nat → ByteArray → ByteArray) (nb : Nat) (L : Nat → Bool) (s : List ByteArray) : (midway val nb L s).length = nb := mapped_len _ _ _
theorem midway_start {val : Nat → ByteArray → ByteArray} {nb : Nat} {L : Nat → Bool} {s : List ByteArray} (hs : s.length = nb) (h : ∀ n, n < nb → L n = false → ∀ t, val n t = t) : midway val nb L s = s := by
  refine list_ext (by rw [midway_len, hs]) fun n hn => ?_
  rw [midway_len] at hn
  unfold midway
  rw [mapped_get _ _ _ _ hn]
  cases e : L n
  · simp only [Bool.false_eq_true, if_false]; exact h n hn e _
  · simp
theorem midway_get {val : Nat → ByteArray → ByteArray} {nb n : Nat} {L : Nat → Bool} {s : List ByteArray} (hn : n < nb) (h : L n = true) : (midway val nb L s).getD n empty = s.getD n empty := by
  unfold midway
  rw [mapped_get _ _ _ _ hn, if_pos h]
theorem midway_step {val : Nat → ByteArray → ByteArray} {nb m : Nat} {L : Nat → Bool} {s : List ByteArray} (hm : m < nb) :
    (midway val nb L s).set m (val m (s.getD m empty)) = midway val nb (fun k => L k && !decide (k = m)) s := by
  refine list_ext (by rw [List.length_set, midway_len, midway_len]) fun n hn => ?_
  rw [List.length_set, midway_len] at hn
  rw [getD_put _ _ _ _ (by rw [midway_len]; exact hm)]
  unfold midway
  rw [mapped_get _ _ _ _ hn, mapped_get _ _ _ _ hn]
  by_cases e : m = n
  · subst e; simp
  · have e' : ¬ n = m := fun h => e h.symm
    simp [e, e']
theorem midway_end {val : Nat → ByteArray → ByteArray} {nb : Nat} {L : Nat → Bool} {s : List ByteArray} (h : ∀ n, n < nb → L n = false) : midway val nb L s = mapped val nb s := by
  refine list_ext (by rw [midway_len, mapped_len]) fun n hn => ?_
  rw [midway_len] at hn
  unfold midway
  rw [mapped_get _ _ _ _ hn, mapped_get _ _ _ _ hn, if_neg (by rw [h n hn]; decide)]

/-- Corrupt, by blocks -/
theorem ws_mend (m n : Nat) (f : ByteArray → ByteArray) : ∀ (c : List (Nat × ByteArray)) (i : Nat), wsFrom n i (c.map (mend m f)) = if n = m then (wsFrom n i c).map (fun x => (x.1, f x.2)) else wsFrom n i c
  | [], i => by simp [wsFrom]
  | x :: c, i => by
    rw [List.map_cons, wsFrom, wsFrom, ws_mend m n f c]
    have e1 : (mend m f x).1 = x.1 := by unfold mend; split <;> rfl
    rw [e1]
    by_cases h : n = m
    · subst h
      simp only [if_true]
      split
      · rename_i hx
        simp [mend, hx]
      · rfl
    · simp only [h, if_false]
      split
      · rename_i hx
        have : ¬ x.1 = m := by rw [hx]; exact h
        simp [mend, this]
      · rfl
theorem survs_size {ks : List Int} {torn : Int} {mask z : Nat} : ∀ (l : List (Nat × ByteArray)) (s : ByteArray), s.size = z → (∀ x ∈ l, x.2.size = z) → (survs ks torn mask l s).size = z
  | [], s, h, _ => h
  | x :: l, s, h, hl => by
    refine survs_size l _ ?_ fun y hy => hl y (List.mem_cons_of_mem _ hy)
    unfold surv
    split
    · unfold mix; rw [mix_size]; exact h
    · split
      · exact hl x List.mem_cons_self
      · exact h
theorem survs_take (ks : List Int) (torn : Int) (mask : Nat) (l : List (Nat × ByteArray)) (s : ByteArray) (j : Nat) (h : j < l.length) : survs ks torn mask (l.take (j + 1)) s = surv ks torn mask (survs ks torn mask (l.take j) s) l[j] := by
  unfold survs
  rw [List.take_succ_eq_append_getElem h, List.foldl_append]
  rfl
end Go.Proofs.YtjmjmekmaamclaaDoor.dev
