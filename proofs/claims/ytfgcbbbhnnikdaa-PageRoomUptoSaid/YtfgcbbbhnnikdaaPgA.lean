/-
  Layer 7, plain: a node, its block as bytes, and back. No program.
-/
import Derived.Test.YtfgcbbbhnnikdaaHeap
namespace Go.Proofs.Ytfgcbbbhnnikdaa.pg
set_option linter.unusedVariables false

theorem ba_ext {a b : ByteArray} (h : a.data.toList = b.data.toList) : a = b := by
  cases a; cases b; simp only [ByteArray.mk.injEq]; exact Array.ext' h
/-- a number in so many bytes, the highest first -/
def beL : Nat → Nat → List UInt8
  | 0, _ => []
  | w + 1, v => UInt8.ofNat (v / 256 ^ w) :: beL w v
def be (w v : Nat) : ByteArray := ⟨(beL w v).toArray⟩
def numL (l : List UInt8) : Nat := l.foldl (fun a b => a * 256 + b.toNat) 0
def num (t : ByteArray) : Nat := numL t.data.toList
theorem beL_len (w v : Nat) : (beL w v).length = w := by
  induction w with
  | zero => rfl
  | succ w ih => simp [beL, ih]
theorem be_size (w v : Nat) : (be w v).size = w := by
  show (beL w v).toArray.size = w
  rw [List.size_toArray, beL_len]
theorem num_from (l : List UInt8) : ∀ a, l.foldl (fun a b => a * 256 + b.toNat) a = a * 256 ^ l.length + numL l := by
  induction l with
  | nil => intro a; simp [numL]
  | cons b l ih =>
    intro a
    rw [numL, List.foldl_cons, List.foldl_cons, ih, ih (0 * 256 + b.toNat), List.length_cons, Nat.pow_succ, Nat.zero_mul, Nat.zero_add, Nat.add_mul, Nat.mul_assoc, Nat.mul_comm 256, Nat.add_assoc]
theorem numL_cons (b : UInt8) (l : List UInt8) : numL (b :: l) = b.toNat * 256 ^ l.length + numL l := by
  have := num_from l b.toNat
  rw [← this]
  show (b :: l).foldl _ 0 = _
  rw [List.foldl_cons, Nat.zero_mul, Nat.zero_add]
theorem numL_lt (l : List UInt8) : numL l < 256 ^ l.length := by
  induction l with
  | nil => simp [numL]
  | cons b l ih =>
    rw [numL_cons, List.length_cons, Nat.pow_succ]
    have hb : b.toNat < 256 := b.toNat_lt
    have : b.toNat * 256 ^ l.length ≤ 255 * 256 ^ l.length := Nat.mul_le_mul_right _ (by omega)
    omega
theorem num_lt (t : ByteArray) : num t < 256 ^ t.size := by
  have := numL_lt t.data.toList
  rwa [Array.length_toList] at this
theorem num_be (w v : Nat) : num (be w v) = v % 256 ^ w := by
  show numL (beL w v).toArray.toList = _
  simp only []
  induction w with
  | zero => simp [beL, numL, Nat.mod_one]
  | succ w ih =>
    rw [beL, numL_cons, beL_len, ih, UInt8.toNat_ofNat']
    rw [show (2 : Nat) ^ 8 = 256 from rfl, Nat.pow_succ, Nat.mod_mul, Nat.mul_comm, Nat.add_comm]
theorem num_be_lt {w v : Nat} (h : v < 256 ^ w) : num (be w v) = v := by rw [num_be, Nat.mod_eq_of_lt h]
theorem ext_data (b : ByteArray) (i j : Nat) : (b.extract i j).data.toList = (b.data.toList.drop i).take (j - i) := by
  rw [ByteArray.data_extract, Array.toList_extract, List.extract_eq_take_drop]
theorem app_data (a b : ByteArray) : (a ++ b).data.toList = a.data.toList ++ b.data.toList := by rw [ByteArray.data_append, Array.toList_append]
theorem data_len (a : ByteArray) : a.data.toList.length = a.size := by rw [Array.length_toList]; rfl
theorem ext_left (a b : ByteArray) (n : Nat) (h : n = a.size) : (a ++ b).extract 0 n = a := by
  subst h
  apply ba_ext
  rw [ext_data, app_data, List.drop_zero, Nat.sub_zero, List.take_append_of_le_length (by rw [data_len]; omega), List.take_of_length_le (by rw [data_len]; omega)]
theorem ext_right (a b : ByteArray) (n : Nat) (h : n = a.size) : (a ++ b).extract n (a ++ b).size = b := by
  subst h
  apply ba_ext
  rw [ext_data, app_data, ← data_len a, List.drop_left, ByteArray.size_append, List.take_of_length_le (by rw [data_len, data_len]; omega)]
theorem ext_mid (a b c : ByteArray) (i j : Nat) (hi : i = a.size) (hj : j = a.size + b.size) : (a ++ (b ++ c)).extract i j = b := by
  subst hi hj
  apply ba_ext
  rw [ext_data, app_data, app_data, ← data_len a, List.drop_left, show a.data.toList.length + b.size - a.data.toList.length = b.data.toList.length from by rw [data_len b]; omega, List.take_left]

def zs (n : Nat) : ByteArray := ⟨(List.replicate n (0 : UInt8)).toArray⟩
theorem zs_size (n : Nat) : (zs n).size = n := by show (List.replicate n (0 : UInt8)).toArray.size = n; simp
/-- texts, one behind the other -/
def cat : List ByteArray → ByteArray
  | [] => ⟨#[]⟩
  | x :: l => x ++ cat l
theorem empty_app (b : ByteArray) : (⟨#[]⟩ : ByteArray) ++ b = b := by apply ba_ext; rw [app_data]; simp
theorem app_empty (b : ByteArray) : b ++ (⟨#[]⟩ : ByteArray) = b := by apply ba_ext; rw [app_data]; simp
theorem cat_app (l m : List ByteArray) : cat (l ++ m) = cat l ++ cat m := by
  induction l with
  | nil => rw [List.nil_append, cat, empty_app]
  | cons x l ih => rw [List.cons_append, cat, cat, ih, ByteArray.append_assoc]
theorem cat_one (x : ByteArray) : cat [x] = x := by rw [cat, cat, app_empty]

structure Nd where
  leaf : Bool
  keys : List ByteArray
  vals : List ByteArray
  kids : List Nat
abbrev emp : ByteArray := ⟨#[]⟩
def key (n : Nd) (i : Nat) : ByteArray := n.keys.getD i emp
def val (n : Nd) (i : Nat) : ByteArray := n.vals.getD i emp
def kid (n : Nd) (i : Nat) : Nat := n.kids.getD i 0

def sumB (l : List ByteArray) : Nat := (l.map ByteArray.size).sum
def bytesM (n : Nd) : Nat := if n.leaf then 3 + 3 * n.keys.length + sumB n.keys + sumB n.vals else 3 + 4 * n.kids.length + n.keys.length + sumB n.keys
def okSz (z : Int) : Prop := 512 ≤ z ∧ z ≤ 4096 ∧ z.tmod 512 = 0
instance (z : Int) : Decidable (okSz z) := inferInstanceAs (Decidable (_ ∧ _ ∧ _))
def mostM (z : Nat) : Nat := (z - 3) / 4
def orderM (z : Nat) : Nat := 1 + (z - 7) / 69

def lessB (a b : ByteArray) : Bool := Op.bytesLess a.toList b.toList
def riseAt (ks : List ByteArray) (i : Nat) : Prop := (1 ≤ (ks.getD i emp).size ∧ (ks.getD i emp).size ≤ 64) ∧ (i = 0 ∨ lessB (ks.getD (i - 1) emp) (ks.getD i emp) = true)
instance (ks : List ByteArray) (i : Nat) : Decidable (riseAt ks i) := inferInstanceAs (Decidable (_ ∧ _))
def riseM (ks : List ByteArray) : Prop := ∀ i, i < ks.length → riseAt ks i
def entOk (n : Nd) (z i : Nat) : Prop := 3 + (key n i).size + (val n i).size ≤ mostM z
instance (n : Nd) (z i : Nat) : Decidable (entOk n z i) := inferInstanceAs (Decidable (_ ≤ _))
def leafOk (n : Nd) (z : Nat) : Prop := n.vals.length = n.keys.length ∧ n.kids.length = 0 ∧ ∀ i, i < n.keys.length → entOk n z i
def innerOk (n : Nd) (z : Nat) : Prop := n.vals.length = 0 ∧ n.kids.length = n.keys.length + 1 ∧ n.kids.length ≤ orderM z ∧ ∀ i, i < n.kids.length → kid n i ≠ 0
def mayBe (n : Nd) (z : Nat) : Prop := (n.leaf = true → leafOk n z) ∧ (n.leaf = false → innerOk n z)
/-- the node may stand in a block of z bytes -/
structure CheckM (n : Nd) (z : Nat) : Prop where
  rise : riseM n.keys
  may : mayBe n z
  fits : bytesM n ≤ z

/-- an entry of a leaf; of another node -/
def entL (k v : ByteArray) : ByteArray := be 1 k.size ++ (be 2 v.size ++ (k ++ v))
def entI (k : ByteArray) (c : Nat) : ByteArray := be 1 k.size ++ (k ++ be 4 c)
def m1 : ByteArray := ⟨#[1]⟩
def m2 : ByteArray := ⟨#[2]⟩
def ent (n : Nd) (i : Nat) : ByteArray := if n.leaf then entL (key n i) (val n i) else entI (key n i) (kid n (i + 1))
def headM (n : Nd) : ByteArray := if n.leaf then m1 ++ be 2 n.keys.length else (m2 ++ be 2 n.keys.length) ++ be 4 (kid n 0)
def upto (n : Nd) (i : Nat) : ByteArray := headM n ++ cat ((List.range i).map (ent n))
/-- the bytes of a node -/
def encM (n : Nd) : ByteArray := upto n n.keys.length
def blockM (n : Nd) (z : Nat) : ByteArray := encM n ++ zs (z - (encM n).size)

theorem upto_zero (n : Nd) : upto n 0 = headM n := by rw [upto, List.range_zero, List.map_nil, cat, app_empty]
theorem upto_more (n : Nd) (i : Nat) : upto n (i + 1) = upto n i ++ ent n i := by
  rw [upto, upto, List.range_succ, List.map_append, cat_app, List.map_cons, List.map_nil, cat_one, ByteArray.append_assoc]
theorem entL_size (k v : ByteArray) : (entL k v).size = 3 + k.size + v.size := by simp only [entL, ByteArray.size_append, be_size]; omega
theorem entI_size (k : ByteArray) (c : Nat) : (entI k c).size = 5 + k.size := by simp only [entI, ByteArray.size_append, be_size]; omega
theorem headM_size (n : Nd) : (headM n).size = if n.leaf then 3 else 7 := by
  unfold headM
  split <;> simp only [ByteArray.size_append, be_size, m1, m2] <;> rfl
theorem sumB_take (l : List ByteArray) (i : Nat) (h : i < l.length) : sumB (l.take (i + 1)) = sumB (l.take i) + (l.getD i emp).size := by
  unfold sumB
  rw [List.take_succ_eq_append_getElem h, List.map_append, List.sum_append]
  simp [List.getD_eq_getElem?_getD, List.getElem?_eq_getElem h]
theorem sumB_take_le (l : List ByteArray) : ∀ i, sumB (l.take i) ≤ sumB l := by
  intro i
  have : sumB l = sumB (l.take i) + sumB (l.drop i) := by
    unfold sumB; rw [← List.sum_append, ← List.map_append, List.take_append_drop]
  omega
/-- how many bytes a part of a node has -/
theorem upto_size {n : Nd} {z : Nat} (m : mayBe n z) : ∀ i, i ≤ n.keys.length → (upto n i).size = if n.leaf then 3 + 3 * i + sumB (n.keys.take i) + sumB (n.vals.take i) else 7 + 5 * i + sumB (n.keys.take i) := by
  intro i
  induction i with
  | zero => intro _; rw [upto_zero, headM_size]; simp [sumB]
  | succ i ih =>
    intro h
    rw [upto_more, ByteArray.size_append, ih (by omega), sumB_take _ _ (by omega)]
    unfold ent
    by_cases c : n.leaf = true
    · rw [if_pos c, if_pos c, if_pos c, entL_size, sumB_take _ _ (by rw [(m.1 c).1]; omega)]
      show _ + (3 + (n.keys.getD i emp).size + (n.vals.getD i emp).size) = _
      omega
    · rw [if_neg c, if_neg c, if_neg c, entI_size]
      show _ + (5 + (n.keys.getD i emp).size) = _
      omega
theorem encM_size {n : Nd} {z : Nat} (m : mayBe n z) : (encM n).size = bytesM n := by
  unfold encM bytesM
  rw [upto_size m _ (Nat.le_refl _), List.take_length]
  by_cases c : n.leaf = true
  · rw [if_pos c, if_pos c, List.take_of_length_le (by rw [(m.1 c).1]; omega)]
  · rw [if_neg c, if_neg c, (m.2 (by simpa using c)).2.1]
    omega
theorem upto_le {n : Nd} {z : Nat} (m : mayBe n z) {i : Nat} (h : i ≤ n.keys.length) : (upto n i).size ≤ (encM n).size := by
  unfold encM
  obtain ⟨j, hj⟩ : ∃ j, n.keys.length = i + j := ⟨n.keys.length - i, by omega⟩
  rw [hj]
  clear hj h
  induction j with
  | zero => exact Nat.le_refl _
  | succ j ih => rw [← Nat.add_assoc, upto_more, ByteArray.size_append]; omega
theorem blockM_size {n : Nd} {z : Nat} (c : CheckM n z) : (blockM n z).size = z := by
  have := c.fits
  rw [blockM, ByteArray.size_append, zs_size, encM_size c.may]
  omega
end Go.Proofs.Ytfgcbbbhnnikdaa.pg
