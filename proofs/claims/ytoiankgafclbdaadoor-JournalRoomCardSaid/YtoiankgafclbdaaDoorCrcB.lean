/-
  Layer 3, plain: eight steps at once, by two tables of half a byte; a linear function by its columns, bit by bit from the lowest; twice as many bytes by the square of a table. No program.
-/
import Derived.Test.YtoiankgafclbdaaDoorCrcA
import Derived.Lib.TrailingZeros
namespace Go.Proofs.YtoiankgafclbdaaDoor.sums
set_option linter.unusedVariables false

def lowT : List Nat := [0, 4067132163, 3778769143, 324072436, 3348797215, 904991772, 648144872, 3570033899, 2329499855, 2024987596, 1809983544, 2575936315, 1296289744, 3207089363, 2893594407, 1578318884]
def upT : List Nat := [0, 274646895, 549293790, 820201905, 1098587580, 1361435347, 1640403810, 1905808397, 2197175160, 2460548119, 2722870694, 2987750089, 3280807620, 3553878443, 3811616794, 4084100981]

theorem low_at : ∀ k, k < 16 → rep cbit 8 k = lowT.getD k 0 := by decide +kernel
theorem up_at : ∀ k, k < 16 → rep cbit 8 (k * 16) = upT.getD k 0 := by decide +kernel
theorem low_lt : ∀ k, k < 16 → lowT.getD k 0 < 4294967296 := by decide +kernel
theorem up_lt : ∀ k, k < 16 → upT.getD k 0 < 4294967296 := by decide +kernel

theorem cbit_two (m : Nat) : cbit (2 * m) = m := by
  unfold cbit
  rw [if_neg (by omega)]
  omega
theorem rep_shift (k : Nat) : rep cbit 8 (k * 256) = k := by
  rw [show k * 256 = 2 * (2 * (2 * (2 * (2 * (2 * (2 * (2 * k))))))) from by omega]
  simp only [rep, cbit_two]

/-- a number is its upper and its lower part, laid over one another -/
theorem parts_xor (j n : Nat) : n / 2 ^ j * 2 ^ j ^^^ n % 2 ^ j = n := xor_ext fun i => by
  rw [Nat.testBit_xor, Nat.testBit_mul_two_pow, Nat.testBit_mod_two_pow, Nat.testBit_div_two_pow]
  by_cases c : j ≤ i
  · have e : i - j + j = i := by omega
    simp [c, e, show ¬ i < j from by omega]
  · simp [c, show i < j from by omega]

theorem cstep_halves (n b : Nat) (hb : b < 256) : cstep n b = n / 256 ^^^ lowT.getD ((n % 256 ^^^ b) % 16) 0 ^^^ upT.getD ((n % 256 ^^^ b) / 16) 0 := by
  have ho : n % 256 ^^^ b < 256 := Nat.xor_lt_two_pow (n := 8) (Nat.mod_lt _ (by decide)) hb
  have e1 : n ^^^ b = n / 256 * 256 ^^^ (n % 256 ^^^ b) := by
    rw [← Nat.xor_assoc]
    congr 1
    exact (parts_xor 8 n).symm
  unfold cstep
  rw [e1]
  generalize n % 256 ^^^ b = o at ho ⊢
  have e2 : o = o / 16 * 16 ^^^ o % 16 := (parts_xor 4 o).symm
  have L := rep_lin cbit_lin 8
  rw [L, rep_shift]
  conv => lhs; rw [e2]
  rw [L, up_at _ (by omega), low_at _ (by omega), Nat.xor_assoc, Nat.xor_comm (lowT.getD _ 0)]

/-- the lowest bit taken away -/
theorem and_pred : ∀ k m : Nat, (2 ^ k * (2 * m + 1)) &&& (2 ^ k * (2 * m + 1) - 1) = (2 ^ k * (2 * m + 1)) ^^^ 2 ^ k
  | 0, m => xor_ext fun i => by
    rw [Nat.testBit_and, Nat.testBit_xor, Nat.pow_zero, Nat.one_mul, show 2 * m + 1 - 1 = 2 * m from by omega]
    cases i with
    | zero => simp [Nat.testBit_zero]
    | succ i =>
      rw [Nat.testBit_succ, Nat.testBit_succ, Nat.testBit_succ, show (2 * m + 1) / 2 = m from by omega, show 2 * m / 2 = m from by omega, show 1 / 2 = 0 from rfl]
      simp
  | k + 1, m => by
    have ih := and_pred k m
    have e : 2 ^ (k + 1) * (2 * m + 1) = 2 * (2 ^ k * (2 * m + 1)) := by rw [Nat.pow_succ, Nat.mul_comm (2 ^ k) 2, Nat.mul_assoc]
    have hp : 0 < 2 ^ k * (2 * m + 1) := Nat.mul_pos (Nat.two_pow_pos k) (by omega)
    rw [e, show 2 ^ (k + 1) = 2 * 2 ^ k from by rw [Nat.pow_succ, Nat.mul_comm]]
    generalize 2 ^ k * (2 * m + 1) = x at ih hp
    generalize 2 ^ k = y at ih
    refine xor_ext fun i => ?_
    rw [Nat.testBit_and, Nat.testBit_xor]
    cases i with
    | zero => simp [Nat.testBit_zero]
    | succ i =>
      rw [Nat.testBit_succ, Nat.testBit_succ, Nat.testBit_succ, show 2 * x / 2 = x from by omega, show (2 * x - 1) / 2 = x - 1 from by omega, show 2 * y / 2 = y from by omega, ← Nat.testBit_and, ih, Nat.testBit_xor]

/-- the place of the lowest bit -/
def low1 (v : Nat) : Nat := Lib.ctz 32 v
theorem low1_spec (v : Nat) (h0 : v ≠ 0) (h : v < 4294967296) : v &&& (v - 1) = v ^^^ 2 ^ low1 v ∧ low1 v < 32 := by
  obtain ⟨m, hm, hk⟩ := Lib.ctzFrom_spec 32 v (by omega) h
  have e : low1 v = Lib.ctzFrom 32 v := by unfold low1 Lib.ctz; rw [if_neg h0]
  rw [e]
  refine ⟨?_, hk⟩
  have := and_pred (Lib.ctzFrom 32 v) m
  rw [← hm] at this
  exact this
theorem less_pred (v : Nat) (h0 : v ≠ 0) : v &&& (v - 1) < v := Nat.lt_of_le_of_lt Nat.and_le_right (by omega)

/-- the columns of a function -/
def tabV (f : Nat → Nat) : Array Value := ((List.range 32).map fun i => Value.int .u32 (f (2 ^ i) : Nat)).toArray
theorem tabV_size (f : Nat → Nat) : (tabV f).size = 32 := by simp [tabV]
theorem tabV_at (f : Nat → Nat) (i : Nat) (h : i < 32) : (tabV f)[i]? = some (.int .u32 (f (2 ^ i) : Nat)) := by
  simp [tabV, List.getElem?_range h]
theorem tabV_one (f : Nat → Nat) : (tabV f).all (·.oneCell') = true := by
  rw [Array.all_eq_true]
  intro i hi
  simp [tabV, Value.oneCell']

/-- f of what is left, laid over what was gathered -/
theorem take_bit {f : Nat → Nat} (hl : Lin f) (s v k : Nat) : (s ^^^ f (2 ^ k)) ^^^ f (v ^^^ 2 ^ k) = s ^^^ f v := by
  rw [hl, Nat.xor_assoc, ← Nat.xor_assoc (f (2 ^ k)), Nat.xor_comm (f (2 ^ k)) (f v), Nat.xor_assoc (f v), Nat.xor_self, Nat.xor_zero]

/-- 2^j bytes 00 -/
def zpow (j : Nat) : Nat → Nat := zrun (2 ^ j)
theorem zpow_zero : zpow 0 = fun n => cstep n 0 := by
  funext n
  unfold zpow zrun
  rw [Nat.pow_zero]
  simp only [rep]
theorem zpow_succ (j n : Nat) : zpow (j + 1) n = zpow j (zpow j n) := by
  unfold zpow
  rw [Nat.pow_succ, Nat.mul_two, zrun_add]
theorem zpow_lin (j : Nat) : Lin (zpow j) := zrun_lin _
theorem zpow_lt (j : Nat) {n : Nat} (h : n < 4294967296) : zpow j n < 4294967296 := zrun_lt h
/-- the bytes left, one binary place at a time -/
theorem zleft (j n a : Nat) : zrun (2 ^ j * n) a = zrun (2 ^ (j + 1) * (n / 2)) (if n % 2 = 1 then zpow j a else a) := by
  have h : 2 ^ j * n = (if n % 2 = 1 then 2 ^ j else 0) + 2 ^ (j + 1) * (n / 2) := by
    rw [Nat.pow_succ, Nat.mul_assoc]
    split
    · rename_i o
      have e : n = 1 + 2 * (n / 2) := by omega
      conv => lhs; rw [e, Nat.mul_add, Nat.mul_one]
    · rename_i o
      have e : n = 2 * (n / 2) := by omega
      conv => lhs; rw [e]
      rw [Nat.zero_add]
  rw [h, zrun_add]
  congr 1
  split <;> rfl
end Go.Proofs.YtoiankgafclbdaaDoor.sums
