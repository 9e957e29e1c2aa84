/-
  Plain arithmetic of rows of bits, for layer 1: numbers as bits and back, bytes as bits, a byte that is filled further. No program.
-/
import Derived.PlainAid
import Derived.Laws.BitsAllLaws
namespace Go.Proofs.Ytgcediipkojdbaa.bits

def ofNum (v : Nat) : Nat → List Bool
  | 0 => []
  | n + 1 => v.testBit n :: ofNum v n

def num : List Bool → Nat
  | [] => 0
  | b :: l => b.toNat * 2 ^ l.length + num l

theorem length_ofNum (v n : Nat) : (ofNum v n).length = n := by
  induction n with
  | zero => rfl
  | succ n ih => simp [ofNum, ih]

theorem num_append (a b : List Bool) : num (a ++ b) = num a * 2 ^ b.length + num b := by
  induction a with
  | nil => simp [num]
  | cons x a ih => simp only [List.cons_append, num, ih, List.length_append, Nat.pow_add, Nat.add_mul, Nat.mul_assoc]; omega

theorem num_lt (l : List Bool) : num l < 2 ^ l.length := by
  induction l with
  | nil => simp [num]
  | cons b l ih => cases b <;> simp [num, Nat.pow_succ] <;> omega

theorem testBit_toNat (v n : Nat) : (v.testBit n).toNat = v / 2 ^ n % 2 := by
  rw [Nat.testBit_eq_decide_div_mod_eq]
  have h : v / 2 ^ n % 2 = 0 ∨ v / 2 ^ n % 2 = 1 := by omega
  rcases h with h | h <;> simp [h]

theorem num_ofNum (v n : Nat) : num (ofNum v n) = v % 2 ^ n := by
  induction n with
  | zero => simp [ofNum, num, Nat.mod_one]
  | succ n ih =>
    simp only [ofNum, num, ih, length_ofNum, testBit_toNat]
    rw [Nat.pow_succ, Nat.mod_mul, Nat.mul_comm (2 ^ n)]
    omega

theorem ofNum_mod (v n : Nat) : ∀ m, m ≤ n → ofNum (v % 2 ^ n) m = ofNum v m := by
  intro m
  induction m with
  | zero => intro _; rfl
  | succ m ih => intro h; simp only [ofNum, ih (by omega)]; rw [Nat.testBit_mod_two_pow]; simp; omega

theorem ofNum_append (v m n : Nat) : ofNum v (m + n) = ofNum (v / 2 ^ n) m ++ ofNum v n := by
  induction m with
  | zero => simp [ofNum]
  | succ m ih =>
    rw [show m + 1 + n = (m + n) + 1 from by omega]
    simp only [ofNum, ih, List.cons_append]
    rw [Nat.testBit_div_two_pow]

theorem ofNum_num (l : List Bool) : ofNum (num l) l.length = l := by
  induction l with
  | nil => rfl
  | cons b l ih =>
    have hl := num_lt l
    simp only [List.length_cons, ofNum, num]
    congr 1
    · rw [Nat.testBit_eq_decide_div_mod_eq, Nat.add_comm, Nat.add_mul_div_right _ _ (Nat.two_pow_pos _), Nat.div_eq_of_lt hl]
      cases b <;> simp
    · rw [← ofNum_mod _ l.length _ (Nat.le_refl _), Nat.add_comm, Nat.add_mul_mod_self_right, Nat.mod_eq_of_lt hl]
      exact ih

theorem ofNum_zero (n : Nat) : ofNum 0 n = List.replicate n false := by
  induction n with
  | zero => rfl
  | succ n ih => simp [ofNum, ih, List.replicate_succ]

theorem num_inj {a b : List Bool} (hl : a.length = b.length) (h : num a = num b) : a = b := by
  rw [← ofNum_num a, ← ofNum_num b, h, hl]

theorem num_replicate (n : Nat) : num (List.replicate n false) = 0 := by
  rw [← ofNum_zero, num_ofNum]; simp

/-- the bits o .. o + k of a number in o + k + m bits -/
theorem mid_ofNum (v o k m : Nat) : ((ofNum v (o + k + m)).drop o).take k = ofNum (v / 2 ^ m) k := by
  rw [ofNum_append v (o + k) m, ofNum_append (v / 2 ^ m) o k, List.append_assoc, List.drop_append_of_le_length (by simp [length_ofNum]), List.drop_of_length_le (by simp [length_ofNum]), List.nil_append, List.take_append_of_le_length (by simp [length_ofNum]), List.take_of_length_le (by simp [length_ofNum])]

def bitsOf (l : List UInt8) : List Bool := l.flatMap fun c => ofNum c.toNat 8

theorem bitsOf_nil : bitsOf [] = [] := rfl
theorem bitsOf_append (a b : List UInt8) : bitsOf (a ++ b) = bitsOf a ++ bitsOf b := by simp [bitsOf]
theorem bitsOf_one (c : UInt8) : bitsOf [c] = ofNum c.toNat 8 := by simp [bitsOf]
theorem length_bitsOf (l : List UInt8) : (bitsOf l).length = 8 * l.length := by
  induction l with
  | nil => rfl
  | cons c l ih => rw [show c :: l = [c] ++ l from rfl, bitsOf_append, List.length_append, ih, bitsOf_one, length_ofNum]; simp; omega

theorem bitsOf_inj {a b : List UInt8} (h : bitsOf a = bitsOf b) : a = b := by
  induction a generalizing b with
  | nil =>
    have := congrArg List.length h
    simp only [length_bitsOf, List.length_nil] at this
    exact (List.length_eq_zero_iff.1 (by omega)).symm
  | cons c a ih =>
    cases b with
    | nil => have := congrArg List.length h; simp only [length_bitsOf, List.length_nil, List.length_cons] at this; omega
    | cons d b =>
      rw [show c :: a = [c] ++ a from rfl, show d :: b = [d] ++ b from rfl, bitsOf_append, bitsOf_append, bitsOf_one, bitsOf_one] at h
      have h2 := List.append_inj h (by simp [length_ofNum])
      have e : c = d := by
        have := congrArg num h2.1
        rw [num_ofNum, num_ofNum, Nat.mod_eq_of_lt c.toNat_lt, Nat.mod_eq_of_lt d.toNat_lt] at this
        exact UInt8.toNat_inj.1 this
      rw [e, ih h2.2]

theorem drop_bitsOf (l : List UInt8) (j : Nat) : (bitsOf l).drop (8 * j) = bitsOf (l.drop j) := by
  by_cases h : j ≤ l.length
  · have e : bitsOf l = bitsOf (l.take j) ++ bitsOf (l.drop j) := by rw [← bitsOf_append, List.take_append_drop]
    rw [e, List.drop_append_of_le_length (by rw [length_bitsOf, List.length_take]; omega), List.drop_of_length_le (by rw [length_bitsOf, List.length_take]; omega), List.nil_append]
  · rw [List.drop_of_length_le (by rw [length_bitsOf]; omega), List.drop_of_length_le (by omega)]; rfl

/-- so many bits from a place on, within one byte -/
theorem field_byte (l : List UInt8) (A k : Nat) (hj : A / 8 < l.length) (hk : A % 8 + k ≤ 8) :
    ((bitsOf l).drop A).take k = ofNum (l[A / 8].toNat / 2 ^ (8 - A % 8 - k)) k := by
  have hA : (bitsOf l).drop A = ((bitsOf l).drop (8 * (A / 8))).drop (A % 8) := by rw [List.drop_drop]; congr 1; omega
  rw [hA, drop_bitsOf]
  rw [List.drop_eq_getElem_cons hj, show l[A / 8] :: l.drop (A / 8 + 1) = [l[A / 8]] ++ l.drop (A / 8 + 1) from rfl, bitsOf_append, bitsOf_one]
  rw [List.drop_append_of_le_length (by simp [length_ofNum]; omega), List.take_append_of_le_length (by simp [length_ofNum]; omega)]
  have := mid_ofNum l[A / 8].toNat (A % 8) k (8 - A % 8 - k)
  rw [show A % 8 + k + (8 - A % 8 - k) = 8 from by omega] at this
  exact this

/-- one round of a reader's closure -/
theorem take_step (l : List UInt8) (a k r : Nat) (hr : (a + k) % 8 + r ≤ 8) (hj : (a + k) / 8 < l.length) :
    num (((bitsOf l).drop a).take (k + r)) = num (((bitsOf l).drop a).take k) * 2 ^ r + l[(a + k) / 8].toNat / 2 ^ (8 - (a + k) % 8 - r) % 2 ^ r := by
  rw [List.take_add, num_append, List.drop_drop, field_byte l (a + k) r hj hr, num_ofNum, length_ofNum]

/-- bytes that hold bits, the last one filled with bits 0 -/
def Packs (L : List UInt8) (b : List Bool) : Prop := ∃ z, z < 8 ∧ bitsOf L = b ++ List.replicate z false

theorem Packs.len {L : List UInt8} {b : List Bool} (h : Packs L b) : L.length = (b.length + 7) / 8 := by
  obtain ⟨z, hz, e⟩ := h
  have := congrArg List.length e
  simp only [length_bitsOf, List.length_append, List.length_replicate] at this
  omega

theorem Packs.unique {L M : List UInt8} {b : List Bool} (h : Packs L b) (g : Packs M b) : L = M := by
  have h1 := h.len
  have h2 := g.len
  obtain ⟨z, hz, e⟩ := h
  obtain ⟨y, hy, f⟩ := g
  have h3 := congrArg List.length e
  have h4 := congrArg List.length f
  simp only [length_bitsOf, List.length_append, List.length_replicate] at h3 h4
  obtain rfl : y = z := by omega
  exact bitsOf_inj (e.trans f.symm)

theorem packs_nil : Packs [] [] := ⟨0, by omega, rfl⟩

/-- a byte whose last r bits are 0, filled further -/
theorem fill_byte (I : List UInt8) (c : UInt8) (b : List Bool) (r k part : Nat) (hr : r ≤ 8) (hk : k ≤ r) (hp : part < 2 ^ k) (h : bitsOf (I ++ [c]) = b ++ List.replicate r false) (d : UInt8) (hd : d.toNat = c.toNat ||| part * 2 ^ (r - k)) :
    bitsOf (I ++ [d]) = b ++ ofNum part k ++ List.replicate (r - k) false := by
  rw [bitsOf_append, bitsOf_one] at h ⊢
  have hl := congrArg List.length h
  simp only [List.length_append, length_bitsOf, length_ofNum, List.length_replicate] at hl
  obtain ⟨p, hp1, hp2⟩ : ∃ p, b = bitsOf I ++ p ∧ ofNum c.toNat 8 = p ++ List.replicate r false := by
    refine ⟨b.drop (8 * I.length), ?_, ?_⟩
    · have := congrArg (List.take (8 * I.length)) h
      rw [List.take_append_of_le_length (by rw [length_bitsOf]; omega), List.take_of_length_le (by rw [length_bitsOf]; omega), List.take_append_of_le_length (by omega)] at this
      rw [this, List.take_append_drop]
    · have := congrArg (List.drop (8 * I.length)) h
      rw [List.drop_append_of_le_length (by rw [length_bitsOf]; omega), List.drop_of_length_le (by rw [length_bitsOf]; omega), List.nil_append, List.drop_append_of_le_length (by omega)] at this
      exact this
  subst hp1
  have hpl : p.length = 8 - r := by
    have := congrArg List.length hp2
    simp only [length_ofNum, List.length_append, List.length_replicate] at this
    omega
  have hc : c.toNat = num p * 2 ^ r := by
    have := congrArg num hp2
    rw [num_ofNum, Nat.mod_eq_of_lt c.toNat_lt, num_append, num_replicate, List.length_replicate] at this
    omega
  have hd2 : d.toNat = num p * 2 ^ r + part * 2 ^ (r - k) := by
    rw [hd, hc]
    refine nat_join r _ _ (by rw [Nat.mul_mod_left]) ?_
    calc part * 2 ^ (r - k) < 2 ^ k * 2 ^ (r - k) := Nat.mul_lt_mul_of_pos_right hp (Nat.two_pow_pos _)
      _ = 2 ^ r := by rw [← Nat.pow_add]; congr 1; omega
  have hd3 : ofNum d.toNat 8 = p ++ (ofNum part k ++ List.replicate (r - k) false) := by
    apply num_inj
    · simp [length_ofNum, hpl]; omega
    · rw [num_ofNum, Nat.mod_eq_of_lt d.toNat_lt, hd2, num_append, num_append, num_ofNum, num_replicate, Nat.mod_eq_of_lt hp, List.length_append, length_ofNum, List.length_replicate, Nat.add_zero]
      congr 3; omega
  rw [hd3]
  simp only [List.append_assoc]
end Go.Proofs.Ytgcediipkojdbaa.bits
