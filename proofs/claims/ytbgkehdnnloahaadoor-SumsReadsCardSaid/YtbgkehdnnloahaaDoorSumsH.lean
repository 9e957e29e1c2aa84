/-
  Layer 3, plain: what the document's Unframe answers to a frame with something behind it, to one with a changed byte, to one that is cut.
-/
import Derived.Test.YtbgkehdnnloahaaDoorSumsE
namespace Go.Proofs.YtbgkehdnnloahaaDoor.sums
open Go.ChangeShapes Go.WideShapes Go.ChangeAt Go.RowKit
set_option linter.unusedVariables false

theorem size_mk (l : List UInt8) : (⟨l.toArray⟩ : ByteArray).size = l.length := by show l.toArray.size = _; simp
theorem mk_list (l : List UInt8) : (⟨l.toArray⟩ : ByteArray).data.toList = l := rfl

theorem lenOf_mk (l : List UInt8) : lenOf ⟨l.toArray⟩ = numL (l.drop 1) := by
  unfold lenOf
  rw [size_mk, ByteArray.extract_mk, mk_list, List.take_of_length_le (by rw [List.length_drop]; omega)]
theorem goodSum_mk (l : List UInt8) : goodSum ⟨l.toArray⟩ ↔ crcM (l.take 5 ++ (l.drop 9).take (numL (l.drop 1))) = numL (l.drop 5) := by
  unfold goodSum
  rw [lenOf_mk, ByteArray.extract_mk, ByteArray.extract_mk, ByteArray.extract_mk, bytes_app, mk_list, mk_list, size_mk, List.take_of_length_le (l := l.drop 5) (by rw [List.length_drop]; omega)]
  rw [List.drop_zero, Nat.sub_zero, show 9 + numL (List.drop 1 l) - 9 = numL (List.drop 1 l) from by omega]

theorem unframe_bad (l : List UInt8) (h : l.length < 9 + numL (l.drop 1) ∨ crcM (l.take 5 ++ (l.drop 9).take (numL (l.drop 1))) ≠ numL (l.drop 5)) : unframeM ⟨l.toArray⟩ = formErr := by
  by_cases c : (⟨l.toArray⟩ : ByteArray).size < 9
  · exact unframe_e1 c
  by_cases d : 16777216 < lenOf ⟨l.toArray⟩ ∨ (⟨l.toArray⟩ : ByteArray).size < 9 + lenOf ⟨l.toArray⟩
  · exact unframe_e2 c d
  rw [lenOf_mk, size_mk] at d
  refine unframe_e3 c (by rw [lenOf_mk, size_mk]; exact d) ?_
  rw [goodSum_mk]
  rcases h with h | h
  · omega
  · exact h

theorem laid_len (kd : Nat) (p : List UInt8) : (laidL kd p).length = 9 + p.length := by
  unfold laidL headL fourL
  simp
  omega

/-- head, checksum, what stands behind -/
def gen (k : UInt8) (n : Nat) (c : List UInt8) (r : List UInt8) : List UInt8 := (k :: fourL n) ++ (c ++ r)
theorem gen_take (k : UInt8) (n : Nat) (c r : List UInt8) : (gen k n c r).take 5 = k :: fourL n := rfl
theorem gen_drop1 (k : UInt8) (n : Nat) (c r : List UInt8) : (gen k n c r).drop 1 = fourL n ++ (c ++ r) := rfl
theorem gen_drop5 (k : UInt8) (n : Nat) (c r : List UInt8) : (gen k n c r).drop 5 = c ++ r := rfl
theorem gen_drop9 (k : UInt8) (n : Nat) (c r : List UInt8) (h : c.length = 4) : (gen k n c r).drop 9 = r := by
  match c, h with
  | [_, _, _, _], _ => rfl
theorem laid_gen (kd : Nat) (p t : List UInt8) : laidL kd p ++ t = gen (UInt8.ofNat kd) p.length (fourL (crcM (headL kd p ++ p))) (p ++ t) := by
  unfold laidL gen headL
  simp [List.append_assoc]
theorem gen_len (k : UInt8) (n : Nat) (c r : List UInt8) : (gen k n c r).length = 5 + c.length + r.length := by
  unfold gen fourL
  simp
  omega

theorem unframe_told (k : UInt8) (n : Nat) (c q r : List UInt8) (hn : n < 4294967296) (hc : c.length = 4) (hq : q.length = n) (h : crcM (k :: fourL n ++ q) ≠ numL (c ++ (q ++ r))) :
    unframeM ⟨(gen k n c (q ++ r)).toArray⟩ = formErr := by
  refine unframe_bad _ (Or.inr ?_)
  rw [gen_take, gen_drop1, gen_drop5, gen_drop9 _ _ _ _ hc, num_four n hn, ← hq, List.take_left]
  rw [hq]
  exact h

theorem unframe_laid (kd : Nat) (p t : List UInt8) (hk : kd < 256) (hp : p.length ≤ 16777216) : unframeM ⟨(laidL kd p ++ t).toArray⟩ = (kd, ⟨p.toArray⟩, ⟨t.toArray⟩, 0) := by
  rw [laid_gen]
  have hcl : crcM (headL kd p ++ p) < 4294967296 := onM_lt (by omega) _
  have hl : lenOf ⟨(gen (UInt8.ofNat kd) p.length (fourL (crcM (headL kd p ++ p))) (p ++ t)).toArray⟩ = p.length := by
    rw [lenOf_mk, gen_drop1, num_four _ (by omega)]
  have hsz : (⟨(gen (UInt8.ofNat kd) p.length (fourL (crcM (headL kd p ++ p))) (p ++ t)).toArray⟩ : ByteArray).size = 9 + p.length + t.length := by
    rw [size_mk, gen_len, List.length_append]
    show 5 + 4 + _ = _
    omega
  rw [unframe_e0 (by rw [hsz]; omega) (by rw [hl, hsz]; omega) ?_]
  · rw [hl, hsz, ByteArray.extract_mk, ByteArray.extract_mk, gen_drop9 _ _ _ _ rfl, show 9 + p.length - 9 = p.length from by omega, List.take_left, ← List.drop_drop, gen_drop9 _ _ _ _ rfl, List.drop_left, List.take_of_length_le (by omega)]
    show ((UInt8.ofNat kd).toNat, _, _, _) = _
    rw [UInt8.toNat_ofNat', Nat.mod_eq_of_lt (by omega)]
  · rw [goodSum_mk, gen_take, gen_drop1, gen_drop5, gen_drop9 _ _ _ _ rfl, num_four _ (by omega), List.take_left, num_four _ hcl]
    rfl

theorem numL_inj {a b c d a' b' c' d' : UInt8} {r r' : List UInt8} (h : numL (a :: b :: c :: d :: r) = numL (a' :: b' :: c' :: d' :: r')) : a = a' ∧ b = b' ∧ c = c' ∧ d = d' := by
  have e : a.toNat * 16777216 + b.toNat * 65536 + c.toNat * 256 + d.toNat = a'.toNat * 16777216 + b'.toNat * 65536 + c'.toNat * 256 + d'.toNat := h
  have := a.toNat_lt; have := b.toNat_lt; have := c.toNat_lt; have := d.toNat_lt
  have := a'.toNat_lt; have := b'.toNat_lt; have := c'.toNat_lt; have := d'.toNat_lt
  exact ⟨UInt8.toNat_inj.1 (by omega), UInt8.toNat_inj.1 (by omega), UInt8.toNat_inj.1 (by omega), UInt8.toNat_inj.1 (by omega)⟩

theorem numL_told (c c' r : List UInt8) (h : c.length = 4) (h' : c'.length = 4) (e : numL (c ++ r) = numL (c' ++ r)) : c = c' := by
  match c, h, c', h' with
  | [x0, x1, x2, x3], _, [y0, y1, y2, y3], _ =>
    obtain ⟨rfl, rfl, rfl, rfl⟩ := numL_inj (r := r) (r' := r) e
    rfl

theorem set_split {α : Type} (l : List α) (i : Nat) (v : α) (h : i < l.length) : ∃ a b, l = a ++ l[i] :: b ∧ l.set i v = a ++ v :: b := by
  refine ⟨l.take i, l.drop (i + 1), ?_, ?_⟩
  · rw [List.getElem_cons_drop, List.take_append_drop]
  · rw [List.set_eq_take_append_cons_drop, if_pos h]

theorem unframe_turned (kd : Nat) (p t : List UInt8) (i : Nat) (v : UInt8) (hp : p.length ≤ 16777216) (h0 : i = 0 ∨ 5 ≤ i) (h1 : i < 9 + p.length) (hv : ∀ x, (laidL kd p ++ t)[i]? = some x → x ≠ v) :
    unframeM ⟨((laidL kd p ++ t).set i v).toArray⟩ = formErr := by
  have hcl : crcM (headL kd p ++ p) < 4294967296 := onM_lt (by omega) _
  have hh : headL kd p ++ p = UInt8.ofNat kd :: fourL p.length ++ p := rfl
  rw [laid_gen] at hv ⊢
  rcases h0 with rfl | h5
  · have e : (gen (UInt8.ofNat kd) p.length (fourL (crcM (headL kd p ++ p))) (p ++ t)).set 0 v = gen v p.length (fourL (crcM (headL kd p ++ p))) (p ++ t) := rfl
    rw [e]
    refine unframe_told _ _ _ _ _ (by omega) rfl rfl ?_
    rw [num_four _ hcl, hh]
    intro h
    exact hv (UInt8.ofNat kd) rfl (crcM_told [] _ _ _ h.symm)
  · obtain ⟨j, rfl⟩ : ∃ j, i = 5 + j := ⟨i - 5, by omega⟩
    by_cases c : j < 4
    · have e : (gen (UInt8.ofNat kd) p.length (fourL (crcM (headL kd p ++ p))) (p ++ t)).set (5 + j) v = gen (UInt8.ofNat kd) p.length ((fourL (crcM (headL kd p ++ p))).set j v) (p ++ t) := by
        unfold gen
        rw [List.set_append_right _ _ (by show 5 ≤ _; omega), List.set_append_left _ _ (by show 5 + j - 5 < 4; omega)]
        show _ ++ ((fourL _).set (5 + j - 5) v ++ _) = _
        rw [show 5 + j - 5 = j from by omega]
      rw [e]
      refine unframe_told _ _ _ _ _ (by omega) (by rw [List.length_set]; rfl) rfl ?_
      rw [← hh]
      intro h
      have g := num_four _ hcl (p ++ t)
      have k := numL_told _ _ _ rfl (by rw [List.length_set]; rfl) (g.trans h)
      have hj : j < (fourL (crcM (headL kd p ++ p))).length := c
      refine hv ((fourL (crcM (headL kd p ++ p)))[j]) ?_ ?_
      · unfold gen
        rw [List.getElem?_append_right (by show 5 ≤ _; omega), List.getElem?_append_left (by show 5 + j - 5 < 4; omega)]
        show (fourL _)[5 + j - 5]? = _
        rw [show 5 + j - 5 = j from by omega, List.getElem?_eq_getElem hj]
      · have : ((fourL (crcM (headL kd p ++ p))).set j v)[j]? = some v := by rw [List.getElem?_set_self hj]
        rw [← k, List.getElem?_eq_getElem hj] at this
        exact Option.some.inj this
    · obtain ⟨m, rfl⟩ : ∃ m, j = 4 + m := ⟨j - 4, by omega⟩
      have hm : m < p.length := by omega
      have e : (gen (UInt8.ofNat kd) p.length (fourL (crcM (headL kd p ++ p))) (p ++ t)).set (5 + (4 + m)) v = gen (UInt8.ofNat kd) p.length (fourL (crcM (headL kd p ++ p))) (p.set m v ++ t) := by
        unfold gen
        rw [List.set_append_right _ _ (by show 5 ≤ _; omega), List.set_append_right _ _ (by show 4 ≤ 5 + (4 + m) - 5; omega), List.set_append_left _ _ (by show 5 + (4 + m) - 5 - 4 < _; omega)]
        show _ ++ (_ ++ (p.set (5 + (4 + m) - 5 - 4) v ++ t)) = _
        rw [show 5 + (4 + m) - 5 - 4 = m from by omega]
      rw [e]
      refine unframe_told _ _ _ _ _ (by omega) rfl (by rw [List.length_set]) ?_
      rw [num_four _ hcl, hh]
      intro h
      obtain ⟨a, b, e1, e2⟩ := set_split p m v hm
      rw [e2] at h
      have h' : crcM ((UInt8.ofNat kd :: fourL p.length ++ a) ++ v :: b) = crcM ((UInt8.ofNat kd :: fourL p.length ++ a) ++ p[m] :: b) := by
        rw [List.append_assoc, List.append_assoc, ← e1]
        exact h
      refine hv (p[m]) ?_ (crcM_told _ _ _ _ h').symm
      unfold gen
      rw [List.getElem?_append_right (by show 5 ≤ _; omega), List.getElem?_append_right (by show 4 ≤ 5 + (4 + m) - 5; omega), List.getElem?_append_left (by show 5 + (4 + m) - 5 - 4 < _; omega)]
      show p[5 + (4 + m) - 5 - 4]? = _
      rw [show 5 + (4 + m) - 5 - 4 = m from by omega, List.getElem?_eq_getElem hm]

theorem unframe_cut (kd : Nat) (p : List UInt8) (m : Nat) (hp : p.length ≤ 16777216) (h : m < 9 + p.length) : unframeM ⟨((laidL kd p).take m).toArray⟩ = formErr := by
  have hl := laid_len kd p
  by_cases c : m < 9
  · refine unframe_e1 ?_
    rw [size_mk, List.length_take]
    omega
  · refine unframe_bad _ (Or.inl ?_)
    have g := laid_gen kd p []
    rw [List.append_nil, List.append_nil] at g
    have : numL (((laidL kd p).take m).drop 1) = p.length := by
      obtain ⟨k, rfl⟩ : ∃ k, m = 5 + k := ⟨m - 5, by omega⟩
      rw [g]
      unfold gen
      rw [show (UInt8.ofNat kd :: fourL p.length ++ (fourL (crcM (headL kd p ++ p)) ++ p)).take (5 + k) = UInt8.ofNat kd :: fourL p.length ++ (fourL (crcM (headL kd p ++ p)) ++ p).take k from List.take_length_add_append (l₁ := UInt8.ofNat kd :: fourL p.length) k]
      exact num_four _ (by omega) _
    rw [this, List.length_take, hl]
    omega
end Go.Proofs.YtbgkehdnnloahaaDoor.sums
