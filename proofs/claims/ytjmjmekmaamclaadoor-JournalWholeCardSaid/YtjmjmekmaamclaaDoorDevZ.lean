/-
  Layer 4, plain: what a crash leaves. No program.
-/
import Derived.Test.YtjmjmekmaamclaaDoorDevM
namespace Go.Proofs.YtjmjmekmaamclaaDoor.dev
set_option linter.unusedVariables false

theorem getD_set (s : List ByteArray) (m n : Nat) (v : ByteArray) : (s.set m v).getD n empty = if n = m ∧ m < s.length then v else s.getD n empty := by
  rw [List.getD_eq_getElem?_getD, List.getD_eq_getElem?_getD]
  by_cases e : n = m
  · subst e
    by_cases h : n < s.length
    · rw [List.getElem?_set_self h, if_pos ⟨rfl, h⟩]; rfl
    · rw [if_neg (fun q => h q.2), List.getElem?_eq_none (by rw [List.length_set]; omega), List.getElem?_eq_none (by omega)]
  · rw [List.getElem?_set_ne (fun q => e q.symm), if_neg (fun q => e q.1)]

theorem look_flushed (c : List (Nat × ByteArray)) : ∀ (s : List ByteArray) (n : Nat), n < s.length → look c n (s.getD n empty) = (flushed c s).getD n empty := by
  induction c with
  | nil => intro s n h; rfl
  | cons x c ih =>
    intro s n h
    show look c n (if x.1 = n then x.2 else s.getD n empty) = (flushed c (s.set x.1 x.2)).getD n empty
    rw [← ih (s.set x.1 x.2) n (by rw [List.length_set]; exact h), getD_set]
    by_cases e : x.1 = n
    · rw [if_pos e, if_pos ⟨e.symm, by omega⟩]
    · rw [if_neg e, if_neg (fun q => e q.1.symm)]
/-- all of them kept, none torn: as flushed -/
theorem fallen_every (ks : List Int) (mask : Nat) (c : List (Nat × ByteArray)) : ∀ (i : Nat) (s : List ByteArray), (∀ j, j < c.length → ((i + j : Nat) : Int) ∈ ks) → fallen ks (-1) mask i c s = flushed c s := by
  induction c with
  | nil => intro i s h; rfl
  | cons x c ih =>
    intro i s h
    show fallen ks (-1) mask (i + 1) c (fallStep ks (-1) mask i x s) = flushed c (s.set x.1 x.2)
    have hs : fallStep ks (-1) mask i x s = s.set x.1 x.2 := by
      unfold fallStep
      rw [if_neg (by omega), if_pos (by have := h 0 (by simp); rwa [Nat.add_zero] at this)]
    rw [hs]
    exact ih (i + 1) _ fun j hj => by have := h (j + 1) (by simp; omega); rwa [show i + (j + 1) = i + 1 + j from by omega] at this
/-- with all kept and none torn all is there -/
theorem every_image (D : DevM) (a : D.Ok) (ks : List Int) (mask : Nat) (h : ∀ j, j < D.cache.length → ((j : Nat) : Int) ∈ ks) : (D.fall ks (-1) mask).image = D.image := by
  unfold DevM.image
  apply List.map_congr_left
  intro n hn
  rw [List.mem_range] at hn
  show look [] n ((fallen ks (-1) mask 0 D.cache D.safe).getD n empty) = look D.cache n (D.safe.getD n empty)
  have hn' : n < D.safe.length := by rw [a.safe]; exact hn
  rw [look_flushed D.cache D.safe n hn', fallen_every ks mask D.cache 0 D.safe fun j hj => by rw [Nat.zero_add]; exact h j hj]
  rfl

/-- a block that no write spoke of stays -/
theorem fallen_untouched (ks : List Int) (torn : Int) (mask n : Nat) (c : List (Nat × ByteArray)) : ∀ (i : Nat) (s : List ByteArray), (∀ x ∈ c, ¬ x.1 = n) → (fallen ks torn mask i c s).getD n empty = s.getD n empty := by
  induction c with
  | nil => intro i s h; rfl
  | cons x c ih =>
    intro i s h
    show (fallen ks torn mask (i + 1) c (fallStep ks torn mask i x s)).getD n empty = _
    rw [ih (i + 1) _ fun y hy => h y (List.mem_cons_of_mem _ hy)]
    have hx : ¬ x.1 = n := h x List.mem_cons_self
    unfold fallStep
    split
    · rw [getD_set, if_neg (fun q => hx q.1.symm)]
    · split
      · rw [getD_set, if_neg (fun q => hx q.1.symm)]
      · rfl

/-- a sector -/
def seg (b : ByteArray) (k : Nat) : ByteArray := b.extract (512 * k) (512 * k + 512)
theorem seg_data (b : ByteArray) (k : Nat) : (seg b k).data.toList = (b.data.toList.drop (512 * k)).take 512 := by
  simp [seg, ByteArray.data_extract, List.take_drop, Array.toList_extract]
theorem ba_ext {a b : ByteArray} (h : a.data.toList = b.data.toList) : a = b := by
  apply ByteArray.ext
  exact Array.toList_inj.1 h
theorem seg_mix (P : Nat → Bool) (a b : ByteArray) (k : Nat) (h : b.size = a.size) (hk : 512 * k + 512 ≤ a.size) : seg (mixP P a b) k = if P k then seg b k else seg a k := by
  have la : a.data.toList.length = a.size := by rw [Array.length_toList]; rfl
  have lb : b.data.toList.length = b.size := by rw [Array.length_toList]; rfl
  have lm : (mixL P a.data.toList b.data.toList).length = a.size := by rw [mixL, List.length_map, List.length_range, la]
  apply ba_ext
  rw [seg_data]
  show ((mixL P a.data.toList b.data.toList).toArray.toList.drop (512 * k)).take 512 = _
  apply List.ext_getElem?
  intro i
  by_cases hi : i < 512
  · have hm : (512 * k + i) / 512 = k := by omega
    rw [List.getElem?_take_of_lt hi, List.getElem?_drop]
    show (mixL P a.data.toList b.data.toList)[512 * k + i]? = _
    have e1 : (mixL P a.data.toList b.data.toList)[512 * k + i]? = some (if P k then b.data.toList.getD (512 * k + i) 0 else a.data.toList.getD (512 * k + i) 0) := by
      unfold mixL
      rw [List.getElem?_map, List.getElem?_range (by omega), Option.map_some, hm]
    rw [e1]
    split
    · rw [seg_data, List.getElem?_take_of_lt hi, List.getElem?_drop, List.getD_eq_getElem?_getD, List.getElem?_eq_getElem (show 512 * k + i < b.data.toList.length by omega)]; rfl
    · rw [seg_data, List.getElem?_take_of_lt hi, List.getElem?_drop, List.getD_eq_getElem?_getD, List.getElem?_eq_getElem (show 512 * k + i < a.data.toList.length by omega)]; rfl
  · rw [List.getElem?_eq_none (by rw [List.length_take]; omega), List.getElem?_eq_none]
    split <;> rw [seg_data, List.length_take] <;> omega

section
variable (C : List (Nat × ByteArray)) (s0 : List ByteArray)
/-- the block is wholly what it was, or one of the writes -/
def Whole (n : Nat) (b : ByteArray) : Prop := b = s0.getD n empty ∨ ∃ x ∈ C, x.1 = n ∧ b = x.2
def Near (s : List ByteArray) : Prop := ∃ n0, ∀ n, ¬ n = n0 → Whole C s0 n (s.getD n empty)
def Good (s : List ByteArray) : Prop := ∀ n, Whole C s0 n (s.getD n empty)
variable {C s0}
theorem near_step {ks : List Int} {torn : Int} {mask i : Nat} {x : Nat × ByteArray} {s : List ByteArray} (h : Near C s0 s) (hx : x ∈ C) (hi : ¬ (i : Int) = torn) : Near C s0 (fallStep ks torn mask i x s) := by
  obtain ⟨n0, h⟩ := h
  refine ⟨n0, fun n hn => ?_⟩
  unfold fallStep
  rw [if_neg hi]
  split
  · rw [getD_set]
    split
    · rename_i q; exact .inr ⟨x, hx, q.1.symm, rfl⟩
    · exact h n hn
  · exact h n hn
theorem good_step {ks : List Int} {torn : Int} {mask i : Nat} {x : Nat × ByteArray} {s : List ByteArray} (h : Good C s0 s) (hx : x ∈ C) (hi : ¬ (i : Int) = torn) : Good C s0 (fallStep ks torn mask i x s) := by
  intro n
  unfold fallStep
  rw [if_neg hi]
  split
  · rw [getD_set]
    split
    · rename_i q; exact .inr ⟨x, hx, q.1.symm, rfl⟩
    · exact h n
  · exact h n
theorem torn_step {ks : List Int} {torn : Int} {mask i : Nat} {x : Nat × ByteArray} {s : List ByteArray} (h : Good C s0 s) (hi : (i : Int) = torn) : Near C s0 (fallStep ks torn mask i x s) := by
  refine ⟨x.1, fun n hn => ?_⟩
  unfold fallStep
  rw [if_pos hi, getD_set, if_neg (fun q => hn q.1)]
  exact h n
theorem near_fallen {ks : List Int} {torn : Int} {mask : Nat} : ∀ (c : List (Nat × ByteArray)) (i : Nat) (s : List ByteArray), (∀ x ∈ c, x ∈ C) → torn < i → Near C s0 s → Near C s0 (fallen ks torn mask i c s)
  | [], _, _, _, _, h => h
  | x :: c, i, s, hc, hi, h => near_fallen c (i + 1) _ (fun y hy => hc y (List.mem_cons_of_mem _ hy)) (by omega) (near_step h (hc x List.mem_cons_self) (by omega))
/-- all blocks but one are wholly what they were, or one of the writes -/
theorem good_fallen {ks : List Int} {torn : Int} {mask : Nat} : ∀ (c : List (Nat × ByteArray)) (i : Nat) (s : List ByteArray), (∀ x ∈ c, x ∈ C) → Good C s0 s → Near C s0 (fallen ks torn mask i c s)
  | [], _, _, _, h => ⟨0, fun n _ => h n⟩
  | x :: c, i, s, hc, h => by
    by_cases e : (i : Int) = torn
    · exact near_fallen c (i + 1) _ (fun y hy => hc y (List.mem_cons_of_mem _ hy)) (by omega) (torn_step h e)
    · exact good_fallen c (i + 1) _ (fun y hy => hc y (List.mem_cons_of_mem _ hy)) (good_step h (hc x List.mem_cons_self) e)

/-- each sector is what it was, or what a write had there -/
def Sects (C : List (Nat × ByteArray)) (s0 : List ByteArray) (ns : Nat) (s : List ByteArray) : Prop := ∀ n k, n < s0.length → k < ns → seg (s.getD n empty) k = seg (s0.getD n empty) k ∨ ∃ x ∈ C, x.1 = n ∧ seg (s.getD n empty) k = seg x.2 k
theorem sects_step {ks : List Int} {torn : Int} {mask i ns : Nat} {x : Nat × ByteArray} {s : List ByteArray} (h : Sects C s0 ns s) (hx : x ∈ C) (hl : s.length = s0.length) (hsz : ∀ y ∈ s, y.size = 512 * ns) (hxz : x.2.size = 512 * ns) : Sects C s0 ns (fallStep ks torn mask i x s) := by
  intro n k hn hk
  unfold fallStep
  split
  · rw [getD_set]
    split
    · rename_i q
      have hz : (s.getD x.1 empty).size = 512 * ns := hsz _ (getD_mem q.2)
      unfold mix
      rw [seg_mix _ _ _ _ (by omega) (by omega)]
      split
      · exact .inr ⟨x, hx, q.1.symm, rfl⟩
      · rw [← q.1]; exact h n k hn hk
    · exact h n k hn hk
  · split
    · rw [getD_set]
      split
      · rename_i q; exact .inr ⟨x, hx, q.1.symm, rfl⟩
      · exact h n k hn hk
    · exact h n k hn hk
theorem sects_fallen {ks : List Int} {torn : Int} {mask ns : Nat} : ∀ (c : List (Nat × ByteArray)) (i : Nat) (s : List ByteArray), (∀ x ∈ c, x ∈ C ∧ x.1 < s0.length ∧ x.2.size = 512 * ns) → Sects C s0 ns s → s.length = s0.length → (∀ y ∈ s, y.size = 512 * ns) → Sects C s0 ns (fallen ks torn mask i c s)
  | [], _, _, _, h, _, _ => h
  | x :: c, i, s, hc, h, hl, hz => by
    obtain ⟨a1, a2, a3⟩ := hc x List.mem_cons_self
    exact sects_fallen c (i + 1) _ (fun y hy => hc y (List.mem_cons_of_mem _ hy)) (sects_step h a1 hl hz a3) (by rw [fallStep_len]; exact hl) (fallStep_sz hz a3 (by omega))
end
end Go.Proofs.YtjmjmekmaamclaaDoor.dev
