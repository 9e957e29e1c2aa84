/-
  Layer 2, plain: the rows of bits of the five codes; what stands ahead in a row of bits; no form is the beginning of another one. No program.
-/
import Derived.Test.YtgcediipkojdbaaBits
namespace Go.Proofs.Ytgcediipkojdbaa.bits
set_option linter.unusedVariables false

def unary (v : Nat) : List Bool := List.replicate v false ++ [true]
def wid (k : Nat) : Nat := if k ≤ 1 then 0 else (k - 1).log2 + 1
def mini (v k : Nat) : List Bool := if v < 2 ^ wid k - k then ofNum v (wid k - 1) else ofNum (v + (2 ^ wid k - k)) (wid k)
def gam (v : Nat) : List Bool := unary (v + 1).log2 ++ ofNum (v + 1 - 2 ^ (v + 1).log2) (v + 1).log2
def del (v : Nat) : List Bool := gam (v + 1).log2 ++ ofNum (v + 1 - 2 ^ (v + 1).log2) (v + 1).log2
def zcount (h K : Nat) : Nat := 2 ^ ((h + 1) * K) - 2 ^ (h * K)
def zet (K v : Nat) : List Bool := unary ((v + 1).log2 / K) ++ mini (v + 1 - 2 ^ ((v + 1).log2 / K * K)) (zcount ((v + 1).log2 / K) K)

theorem length_unary (v : Nat) : (unary v).length = v + 1 := by simp [unary]
theorem unary_succ (n : Nat) : unary (n + 1) = false :: unary n := by simp [unary, List.replicate_succ]

theorem log2_is {n b : Nat} (h1 : 2 ^ b ≤ n) (h2 : n < 2 ^ (b + 1)) : n.log2 = b := by
  have h0 : n ≠ 0 := by have := Nat.two_pow_pos b; omega
  have a := Nat.log2_self_le h0
  have c : n < 2 ^ (n.log2 + 1) := Nat.lt_log2_self
  have p : b < n.log2 + 1 := (Nat.pow_lt_pow_iff_right (a := 2) (by omega)).1 (Nat.lt_of_le_of_lt h1 c)
  have q : n.log2 < b + 1 := (Nat.pow_lt_pow_iff_right (a := 2) (by omega)).1 (Nat.lt_of_le_of_lt a h2)
  omega
theorem log2_lo (v : Nat) : 2 ^ (v + 1).log2 ≤ v + 1 := Nat.log2_self_le (by omega)
theorem log2_hi (v : Nat) : v + 1 < 2 ^ ((v + 1).log2 + 1) := Nat.lt_log2_self

theorem wid_one : wid 1 = 0 := rfl
theorem wid_pos {k : Nat} (h : 2 ≤ k) : 1 ≤ wid k := by unfold wid; rw [if_neg (by omega)]; omega
theorem wid_hi {k : Nat} (h : 1 ≤ k) : k ≤ 2 ^ wid k := by
  unfold wid
  split
  · simp; omega
  · have := @Nat.lt_log2_self (k - 1); omega
theorem wid_lo {k : Nat} (h : 2 ≤ k) : 2 ^ (wid k - 1) < k := by
  unfold wid
  rw [if_neg (by omega)]
  have := Nat.log2_self_le (n := k - 1) (by omega)
  simp; omega
theorem wid_is {k s : Nat} (h1 : 2 ^ s < k) (h2 : k ≤ 2 ^ (s + 1)) : wid k = s + 1 := by
  have := Nat.two_pow_pos s
  unfold wid
  rw [if_neg (by omega), log2_is (b := s) (by omega) (by omega)]
theorem wid_pow (b : Nat) : wid (2 ^ b) = b := by
  cases b with
  | zero => rfl
  | succ b => exact wid_is (by have := Nat.two_pow_pos b; rw [Nat.pow_succ]; omega) (Nat.le_refl _)
theorem wid_le {k n : Nat} (h : k ≤ 2 ^ n) : wid k ≤ n := by
  by_cases h2 : 2 ≤ k
  · have h3 := wid_lo h2
    have h4 := wid_pos h2
    have h5 : 2 ^ (wid k - 1) < 2 ^ n := Nat.lt_of_lt_of_le h3 h
    have := (Nat.pow_lt_pow_iff_right (a := 2) (by omega)).1 h5
    omega
  · unfold wid
    rw [if_pos (by omega)]; omega
theorem two_wid {k : Nat} (h : 2 ≤ k) : 2 ^ wid k = 2 * 2 ^ (wid k - 1) := by
  have := wid_pos h
  rw [← Nat.pow_succ']; congr 1; omega

theorem mini_len_lo (v k : Nat) : wid k - 1 ≤ (mini v k).length := by unfold mini; split <;> simp [length_ofNum]
theorem mini_len_hi (v k : Nat) : (mini v k).length ≤ wid k := by unfold mini; split <;> simp [length_ofNum]

/-- what stands ahead -/
theorem pre_append {a b l : List Bool} : a ++ b <+: l ↔ a <+: l ∧ b <+: l.drop a.length := by
  constructor
  · rintro ⟨t, rfl⟩; exact ⟨⟨b ++ t, by simp⟩, ⟨t, by simp⟩⟩
  · rintro ⟨⟨t, rfl⟩, h⟩
    rw [List.drop_left] at h
    exact (List.prefix_append_right_inj _).2 h

theorem pre_ofNum {v n : Nat} {l : List Bool} (hv : v < 2 ^ n) : ofNum v n <+: l ↔ n ≤ l.length ∧ num (l.take n) = v := by
  constructor
  · rintro ⟨t, rfl⟩
    refine ⟨by simp [length_ofNum], ?_⟩
    rw [List.take_left' (length_ofNum v n), num_ofNum, Nat.mod_eq_of_lt hv]
  · rintro ⟨h1, h2⟩
    have : ofNum v n = l.take n := by
      rw [← h2]
      have h := ofNum_num (l.take n)
      rw [List.length_take, Nat.min_eq_left h1] at h
      exact h
    rw [this]
    exact List.take_prefix _ _

theorem unary_free {l : List Bool} : ∀ {a b : Nat}, unary a <+: l → unary b <+: l → a = b := by
  induction l with
  | nil => intro a b h; have := h.length_le; simp [length_unary] at this
  | cons x l ih =>
    intro a b h k
    cases a with
    | zero =>
      cases b with
      | zero => rfl
      | succ b =>
        rw [unary_succ, List.cons_prefix_cons] at k
        rw [show unary 0 = [true] from rfl, List.cons_prefix_cons] at h
        exact absurd (h.1.trans k.1.symm) (by simp)
    | succ a =>
      rw [unary_succ, List.cons_prefix_cons] at h
      cases b with
      | zero =>
        rw [show unary 0 = [true] from rfl, List.cons_prefix_cons] at k
        exact absurd (h.1.trans k.1.symm) (by simp)
      | succ b =>
        rw [unary_succ, List.cons_prefix_cons] at k
        rw [ih h.2 k.2]

theorem num_take_succ {l : List Bool} {k : Nat} (h : k < l.length) : num (l.take (k + 1)) = 2 * num (l.take k) + (l[k]).toNat := by
  rw [List.take_succ_eq_append_getElem h, num_append]
  simp [num]
  omega

theorem num_take_lt (l : List Bool) (k : Nat) : num (l.take k) < 2 ^ k :=
  Nat.lt_of_lt_of_le (num_lt _) (Nat.pow_le_pow_right (by omega) (by simp; omega))

/-- a short number of k -/
theorem mini_short {k : Nat} {l : List Bool} (h1 : num (l.take (wid k - 1)) < 2 ^ wid k - k) (h2 : wid k - 1 ≤ l.length) : mini (num (l.take (wid k - 1))) k <+: l := by
  unfold mini
  rw [if_pos h1, pre_ofNum (num_take_lt _ _)]
  exact ⟨h2, rfl⟩
theorem mini_short_len {k v : Nat} (h1 : v < 2 ^ wid k - k) : (mini v k).length = wid k - 1 := by
  unfold mini
  rw [if_pos h1, length_ofNum]
theorem mini_short_lt {k : Nat} (h : 1 ≤ k) {v : Nat} (h1 : v < 2 ^ wid k - k) : v < k := by
  by_cases h2 : 2 ≤ k
  · have a := wid_lo h2
    have c := two_wid h2
    omega
  · obtain rfl : k = 1 := by omega
    rw [wid_one] at h1
    omega

/-- a long one -/
theorem mini_long {k : Nat} (hk : 2 ≤ k) {l : List Bool} (h1 : 2 ^ wid k - k ≤ num (l.take (wid k - 1))) (h2 : wid k ≤ l.length) :
    2 ^ wid k - k ≤ num (l.take (wid k)) - (2 ^ wid k - k) ∧ num (l.take (wid k)) - (2 ^ wid k - k) < k ∧ mini (num (l.take (wid k)) - (2 ^ wid k - k)) k <+: l := by
  have hp := wid_pos hk
  have hh := wid_hi (k := k) (by omega)
  have e : num (l.take (wid k)) = 2 * num (l.take (wid k - 1)) + (l[wid k - 1]'(by omega)).toNat := by
    have := num_take_succ (l := l) (k := wid k - 1) (by omega)
    rwa [show wid k - 1 + 1 = wid k from by omega] at this
  have g := num_take_lt l (wid k)
  have m : 2 ^ wid k - k ≤ num (l.take (wid k)) - (2 ^ wid k - k) := by omega
  refine ⟨m, by omega, ?_⟩
  unfold mini
  rw [if_neg (by omega), pre_ofNum (by omega)]
  exact ⟨h2, by omega⟩
theorem mini_long_len {k v : Nat} (h1 : 2 ^ wid k - k ≤ v) : (mini v k).length = wid k := by
  unfold mini
  rw [if_neg (by omega), length_ofNum]

theorem mini_none1 {k : Nat} {l : List Bool} (h : l.length < wid k - 1) (v : Nat) : ¬ mini v k <+: l := by
  intro a
  have := a.length_le
  have := mini_len_lo v k
  omega
theorem mini_val_short {k v : Nat} {l : List Bool} (h1 : v < 2 ^ wid k - k) (h : mini v k <+: l) (hk : 1 ≤ k) : num (l.take (wid k - 1)) = v ∧ wid k - 1 ≤ l.length := by
  unfold mini at h
  rw [if_pos h1, pre_ofNum ?_] at h
  · exact ⟨h.2, h.1⟩
  · by_cases h2 : 2 ≤ k
    · have := wid_lo h2
      have := two_wid h2
      omega
    · obtain rfl : k = 1 := by omega
      rw [wid_one] at h1; omega
theorem mini_val_long {k v : Nat} {l : List Bool} (hv : v < k) (h1 : 2 ^ wid k - k ≤ v) (h : mini v k <+: l) : num (l.take (wid k)) = v + (2 ^ wid k - k) ∧ wid k ≤ l.length := by
  have := wid_hi (k := k) (by omega)
  unfold mini at h
  rw [if_neg (by omega), pre_ofNum (by omega)] at h
  exact ⟨h.2, h.1⟩
theorem mini_none2 {k : Nat} (hk : 2 ≤ k) {l : List Bool} (h1 : 2 ^ wid k - k ≤ num (l.take (wid k - 1))) (h2 : l.length < wid k) (v : Nat) (hv : v < k) : ¬ mini v k <+: l := by
  intro a
  by_cases c : v < 2 ^ wid k - k
  · have := (mini_val_short c a (by omega)).1
    omega
  · have := (mini_val_long hv (by omega) a).2
    omega
theorem mini_free {k a b : Nat} {l : List Bool} (ha : a < k) (hb : b < k) (h : mini a k <+: l) (g : mini b k <+: l) : a = b := by
  have mixed : ∀ a b : Nat, a < k → b < k → mini a k <+: l → mini b k <+: l → a < 2 ^ wid k - k → ¬ b < 2 ^ wid k - k → False := by
    intro a b ha hb h g ca cb
    have hk : 2 ≤ k := by omega
    have h1 := mini_val_short ca h (by omega)
    have h2 := mini_val_long hb (by omega) g
    have hp := wid_pos hk
    have e : num (l.take (wid k)) = 2 * num (l.take (wid k - 1)) + (l[wid k - 1]'(by omega)).toNat := by
      have := num_take_succ (l := l) (k := wid k - 1) (by omega)
      rwa [show wid k - 1 + 1 = wid k from by omega] at this
    have : (l[wid k - 1]'(by omega)).toNat ≤ 1 := by cases l[wid k - 1]'(by omega) <;> simp
    omega
  by_cases ca : a < 2 ^ wid k - k
  · by_cases cb : b < 2 ^ wid k - k
    · have h1 := (mini_val_short ca h (by omega)).1
      have h2 := (mini_val_short cb g (by omega)).1
      omega
    · exact (mixed a b ha hb h g ca cb).elim
  · by_cases cb : b < 2 ^ wid k - k
    · exact (mixed b a hb ha g h cb ca).elim
    · have h1 := (mini_val_long ha (by omega) h).1
      have h2 := (mini_val_long hb (by omega) g).1
      omega

/-- a number by its b and the rest -/
theorem gam_of {b r : Nat} (h : r < 2 ^ b) : gam (2 ^ b + r - 1) = unary b ++ ofNum r b := by
  have p := Nat.two_pow_pos b
  have e : (2 ^ b + r - 1 + 1).log2 = b := log2_is (by omega) (by rw [Nat.pow_succ]; omega)
  unfold gam
  rw [e]
  congr 2
  omega
theorem del_of {b r : Nat} (h : r < 2 ^ b) : del (2 ^ b + r - 1) = gam b ++ ofNum r b := by
  have p := Nat.two_pow_pos b
  have e : (2 ^ b + r - 1 + 1).log2 = b := log2_is (by omega) (by rw [Nat.pow_succ]; omega)
  unfold del
  rw [e]
  congr 2
  omega
theorem parts (v : Nat) : v + 1 - 2 ^ (v + 1).log2 < 2 ^ (v + 1).log2 ∧ v = 2 ^ (v + 1).log2 + (v + 1 - 2 ^ (v + 1).log2) - 1 := by
  have a := log2_lo v
  have c := log2_hi v
  rw [Nat.pow_succ] at c
  omega
theorem zet_h {v K h : Nat} (hK : 1 ≤ K) (h1 : 2 ^ (h * K) ≤ v + 1) (h2 : v + 1 < 2 ^ ((h + 1) * K)) : (v + 1).log2 / K = h := by
  have a := log2_lo v
  have c := log2_hi v
  have p : h * K < (v + 1).log2 + 1 := (Nat.pow_lt_pow_iff_right (a := 2) (by omega)).1 (Nat.lt_of_le_of_lt h1 c)
  have q : (v + 1).log2 < (h + 1) * K := (Nat.pow_lt_pow_iff_right (a := 2) (by omega)).1 (Nat.lt_of_le_of_lt a h2)
  exact Nat.div_eq_of_lt_le (by omega) q
theorem zcount_pos {h K : Nat} (hK : 1 ≤ K) : 1 ≤ zcount h K ∧ 2 ^ (h * K) + zcount h K = 2 ^ ((h + 1) * K) := by
  have : 2 ^ (h * K) < 2 ^ ((h + 1) * K) := (Nat.pow_lt_pow_iff_right (a := 2) (by omega)).2 (by rw [Nat.add_mul]; omega)
  unfold zcount
  omega
theorem zet_of {K h x : Nat} (hK : 1 ≤ K) (hx : x < zcount h K) : zet K (2 ^ (h * K) + x - 1) = unary h ++ mini x (zcount h K) := by
  have p := Nat.two_pow_pos (h * K)
  have z := (zcount_pos (h := h) hK).2
  have e : (2 ^ (h * K) + x - 1 + 1).log2 / K = h := zet_h hK (by omega) (by omega)
  unfold zet
  rw [e]
  congr 2
  omega
theorem zparts {v K : Nat} (hK : 1 ≤ K) : v + 1 - 2 ^ ((v + 1).log2 / K * K) < zcount ((v + 1).log2 / K) K ∧ v = 2 ^ ((v + 1).log2 / K * K) + (v + 1 - 2 ^ ((v + 1).log2 / K * K)) - 1 := by
  have a := log2_lo v
  have c := log2_hi v
  have z := (zcount_pos (h := (v + 1).log2 / K) hK).2
  have d1 : (v + 1).log2 / K * K ≤ (v + 1).log2 := Nat.div_mul_le_self _ _
  have d2 : (v + 1).log2 + 1 ≤ ((v + 1).log2 / K + 1) * K := by
    have := Nat.lt_div_mul_add (a := (v + 1).log2) (b := K) (by omega)
    rw [Nat.add_mul]; omega
  have e1 : 2 ^ ((v + 1).log2 / K * K) ≤ 2 ^ (v + 1).log2 := Nat.pow_le_pow_right (by omega) d1
  have e2 : 2 ^ ((v + 1).log2 + 1) ≤ 2 ^ (((v + 1).log2 / K + 1) * K) := Nat.pow_le_pow_right (by omega) d2
  omega

theorem gam_free {a b : Nat} {l : List Bool} (h : gam a <+: l) (g : gam b <+: l) : a = b := by
  obtain ⟨ha, ea⟩ := parts a
  obtain ⟨hb, eb⟩ := parts b
  unfold gam at h g
  rw [pre_append] at h g
  have e := unary_free h.1 g.1
  rw [length_unary, pre_ofNum ha] at h
  rw [length_unary, pre_ofNum hb] at g
  rw [← e] at g eb
  have := h.2.2.symm.trans g.2.2
  omega
theorem del_free {a b : Nat} {l : List Bool} (h : del a <+: l) (g : del b <+: l) : a = b := by
  obtain ⟨ha, ea⟩ := parts a
  obtain ⟨hb, eb⟩ := parts b
  unfold del at h g
  rw [pre_append] at h g
  have e := gam_free h.1 g.1
  rw [pre_ofNum ha] at h
  rw [pre_ofNum hb] at g
  rw [← e] at g eb
  have := h.2.2.symm.trans g.2.2
  omega
theorem zet_free {K a b : Nat} (hK : 1 ≤ K) {l : List Bool} (h : zet K a <+: l) (g : zet K b <+: l) : a = b := by
  obtain ⟨ha, ea⟩ := zparts (v := a) hK
  obtain ⟨hb, eb⟩ := zparts (v := b) hK
  unfold zet at h g
  rw [pre_append] at h g
  have e := unary_free h.1 g.1
  rw [← e] at g eb hb
  have := mini_free ha hb h.2 g.2
  omega

/-- the codes by their kind and number -/
def cbits (kd K v : Nat) : List Bool := if kd = 0 then unary v else if kd = 1 then gam v else if kd = 2 then del v else if kd = 3 then zet K v else mini v K
def may (kd K : Nat) : Bool := decide ((kd < 3 ∧ K = 0) ∨ (kd = 3 ∧ 1 ≤ K ∧ K ≤ 16) ∨ (kd = 4 ∧ 1 ≤ K ∧ K ≤ 281474976710655))
def most (kd K : Nat) : Nat := if kd = 0 then 65535 else if kd = 4 then K - 1 else 281474976710654
def fits2 (kd K v : Nat) : Bool := may kd K && decide (v ≤ most kd K)

theorem may_of {kd K : Nat} (h : may kd K = true) : (kd < 3 ∧ K = 0) ∨ (kd = 3 ∧ 1 ≤ K ∧ K ≤ 16) ∨ (kd = 4 ∧ 1 ≤ K ∧ K ≤ 281474976710655) := of_decide_eq_true h

theorem cbits_free {kd K a b : Nat} (hm : may kd K = true) {l : List Bool} (ha : a ≤ most kd K) (hb : b ≤ most kd K) (h : cbits kd K a <+: l) (g : cbits kd K b <+: l) : a = b := by
  have hm := may_of hm
  unfold most at ha hb
  unfold cbits at h g
  by_cases k0 : kd = 0
  · rw [if_pos k0] at h g
    exact unary_free h g
  rw [if_neg k0] at h g ha hb
  by_cases k1 : kd = 1
  · rw [if_pos k1] at h g
    exact gam_free h g
  rw [if_neg k1] at h g
  by_cases k2 : kd = 2
  · rw [if_pos k2] at h g
    exact del_free h g
  rw [if_neg k2] at h g
  by_cases k3 : kd = 3
  · rw [if_pos k3] at h g
    exact zet_free (by omega) h g
  rw [if_neg k3] at h g
  rw [if_pos (by omega)] at ha hb
  exact mini_free (by omega) (by omega) h g

/-- Zeta of 1 is Gamma -/
theorem zet_one (v : Nat) : zet 1 v = gam v := by
  unfold zet gam
  rw [Nat.div_one, Nat.mul_one]
  congr 1
  have e : zcount (v + 1).log2 1 = 2 ^ (v + 1).log2 := by
    unfold zcount
    rw [Nat.mul_one, Nat.mul_one, Nat.pow_succ]; omega
  rw [e]
  unfold mini
  rw [wid_pow, if_neg (by omega), Nat.sub_self, Nat.add_zero]

/-- how many bits there are at most -/
theorem log2_le {v n : Nat} (h : v + 1 < 2 ^ n) : (v + 1).log2 < n := by
  have a := log2_lo v
  exact (Nat.pow_lt_pow_iff_right (a := 2) (by omega)).1 (Nat.lt_of_le_of_lt a h)
theorem length_gam (v : Nat) : (gam v).length = 2 * (v + 1).log2 + 1 := by
  unfold gam
  rw [List.length_append, length_unary, length_ofNum]; omega
theorem length_del (v : Nat) : (del v).length = 2 * ((v + 1).log2 + 1).log2 + 1 + (v + 1).log2 := by
  unfold del
  rw [List.length_append, length_gam, length_ofNum]
theorem length_zet (K v : Nat) : (zet K v).length = (v + 1).log2 / K + 1 + (mini (v + 1 - 2 ^ ((v + 1).log2 / K * K)) (zcount ((v + 1).log2 / K) K)).length := by
  unfold zet
  rw [List.length_append, length_unary]
theorem log2_mono {a b : Nat} (h : a ≤ b) : (a + 1).log2 ≤ (b + 1).log2 := by
  have x := log2_lo a
  have y := log2_hi b
  have : 2 ^ (a + 1).log2 < 2 ^ ((b + 1).log2 + 1) := by omega
  have := (Nat.pow_lt_pow_iff_right (a := 2) (by omega)).1 this
  omega

/-- greater numbers do not have fewer bits -/
theorem mini_mono {a b k : Nat} (h : a ≤ b) : (mini a k).length ≤ (mini b k).length := by
  unfold mini
  by_cases c : b < 2 ^ wid k - k
  · rw [if_pos c, if_pos (by omega), length_ofNum, length_ofNum]; omega
  · rw [if_neg c]
    split <;> rw [length_ofNum, length_ofNum] <;> omega
theorem wid_mono {a b : Nat} (h : a ≤ b) (ha : 1 ≤ a) : wid a ≤ wid b := wid_le (Nat.le_trans h (wid_hi (by omega)))
theorem zcount_up {h g K : Nat} (hK : 1 ≤ K) (hg : h < g) : 2 * zcount h K ≤ zcount g K := by
  have a := (zcount_pos (h := h) hK).2
  have b := (zcount_pos (h := g) hK).2
  have c : 2 ^ (g * K) + zcount g K = 2 ^ (g * K) * 2 ^ K := by rw [b, Nat.add_mul, Nat.pow_add, Nat.one_mul]
  have d : 2 ^ (h * K) + zcount h K = 2 ^ (h * K) * 2 ^ K := by rw [a, Nat.add_mul, Nat.pow_add, Nat.one_mul]
  have e : 2 * 2 ^ (h * K) ≤ 2 ^ (g * K) := by
    rw [← Nat.pow_succ']
    exact Nat.pow_le_pow_right (by omega) (by
      have : (h + 1) * K ≤ g * K := Nat.mul_le_mul_right _ hg
      rw [Nat.add_mul] at this; omega)
  have f : 2 ≤ 2 ^ K := Nat.pow_le_pow_right (n := 2) (by omega) hK
  obtain ⟨t, ht⟩ : ∃ t, 2 ^ K = t + 1 := ⟨2 ^ K - 1, by omega⟩
  have c' : zcount g K = 2 ^ (g * K) * t := by rw [ht, Nat.mul_add] at c; omega
  have d' : zcount h K = 2 ^ (h * K) * t := by rw [ht, Nat.mul_add] at d; omega
  rw [c', d', ← Nat.mul_assoc]
  exact Nat.mul_le_mul_right _ e
theorem wid_double {a b : Nat} (ha : 1 ≤ a) (h : 2 * a ≤ b) : wid a + 1 ≤ wid b := by
  by_cases h2 : 2 ≤ a
  · have h3 := wid_lo h2
    have h4 := two_wid h2
    have h5 := wid_hi (k := b) (by omega)
    have h6 : 2 ^ wid a < 2 ^ wid b := by omega
    exact (Nat.pow_lt_pow_iff_right (a := 2) (by omega)).1 h6
  · obtain rfl : a = 1 := by omega
    rw [wid_one]
    exact wid_pos (by omega)
theorem zet_mono {a b K : Nat} (hK : 1 ≤ K) (h : a ≤ b) : (zet K a).length ≤ (zet K b).length := by
  rw [length_zet, length_zet]
  have l := log2_mono h
  have d : (a + 1).log2 / K ≤ (b + 1).log2 / K := Nat.div_le_div_right l
  by_cases e : (a + 1).log2 / K = (b + 1).log2 / K
  · rw [e]
    have := mini_mono (k := zcount ((b + 1).log2 / K) K) (show a + 1 - 2 ^ ((b + 1).log2 / K * K) ≤ b + 1 - 2 ^ ((b + 1).log2 / K * K) from by omega)
    omega
  · have x := mini_len_hi (a + 1 - 2 ^ ((a + 1).log2 / K * K)) (zcount ((a + 1).log2 / K) K)
    have y := mini_len_lo (b + 1 - 2 ^ ((b + 1).log2 / K * K)) (zcount ((b + 1).log2 / K) K)
    have z := wid_double (zcount_pos (h := (a + 1).log2 / K) hK).1 (zcount_up (h := (a + 1).log2 / K) (g := (b + 1).log2 / K) hK (by omega))
    omega
theorem cbits_mono {kd K a b : Nat} (hm : may kd K = true) (h : a ≤ b) : (cbits kd K a).length ≤ (cbits kd K b).length := by
  have hm := may_of hm
  have l := log2_mono h
  unfold cbits
  by_cases k0 : kd = 0
  · rw [if_pos k0, if_pos k0, length_unary, length_unary]; omega
  rw [if_neg k0, if_neg k0]
  by_cases k1 : kd = 1
  · rw [if_pos k1, if_pos k1, length_gam, length_gam]; omega
  rw [if_neg k1, if_neg k1]
  by_cases k2 : kd = 2
  · rw [if_pos k2, if_pos k2, length_del, length_del]
    have := log2_mono l
    omega
  rw [if_neg k2, if_neg k2]
  by_cases k3 : kd = 3
  · rw [if_pos k3, if_pos k3]
    exact zet_mono (by omega) h
  rw [if_neg k3, if_neg k3]
  exact mini_mono h
end Go.Proofs.Ytgcediipkojdbaa.bits
