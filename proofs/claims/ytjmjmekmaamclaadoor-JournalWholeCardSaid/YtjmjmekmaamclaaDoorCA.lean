/-
  Layer 3, plain: the checksum of the document, bit by bit: what it is of two texts behind one another; that one changed byte changes it; a linear function by a table of its columns. No program.
-/
import Derived.PlainAid
import Derived.Laws.BitsAllLaws
import Derived.Test.YtjmjmekmaamclaaDoorRows
import Derived.WalkKit
import Derived.ProofKit
import Derived.OpenShut
import Derived.Lib.Hide
import Derived.BigQuiet
import Derived.Deep.QuietTactic
import Derived.BigRegion
import Derived.ChangeAlike
import Derived.Outline
import Derived.Lib.TrailingZeros
namespace Go.Proofs.YtjmjmekmaamclaaDoor.sums
set_option linter.unusedVariables false

def poly : Nat := 2197175160
def ones : Nat := 4294967295

/-- one bit -/
def cbit (n : Nat) : Nat := if n % 2 = 1 then n / 2 ^^^ poly else n / 2
/-- so many times -/
def rep (f : Nat → Nat) : Nat → Nat → Nat
  | 0, n => n
  | k + 1, n => rep f k (f n)
/-- one byte -/
def cstep (n b : Nat) : Nat := rep cbit 8 (n ^^^ b)
/-- a text -/
def crun (n : Nat) (l : List UInt8) : Nat := l.foldl (fun n b => cstep n b.toNat) n
/-- bytes 00 -/
def zrun (k n : Nat) : Nat := rep (fun n => cstep n 0) k n
def onM (c : Nat) (l : List UInt8) : Nat := ones ^^^ crun (ones ^^^ c) l
def crcM (l : List UInt8) : Nat := onM 0 l

theorem xor_ext {a b : Nat} (h : ∀ i, a.testBit i = b.testBit i) : a = b := Nat.eq_of_testBit_eq h
theorem xor4 (x y p : Nat) : (x ^^^ p) ^^^ (y ^^^ p) = x ^^^ y := xor_ext fun i => by
  simp only [Nat.testBit_xor]
  cases x.testBit i <;> cases y.testBit i <;> cases p.testBit i <;> rfl
theorem xor_back (x y : Nat) : (x ^^^ y) ^^^ y = x := by rw [Nat.xor_assoc, Nat.xor_self, Nat.xor_zero]
theorem xor_back2 (x y : Nat) : x ^^^ (x ^^^ y) = y := by rw [← Nat.xor_assoc, Nat.xor_self, Nat.zero_xor]
theorem xor_zero_eq {x y : Nat} (h : x ^^^ y = 0) : x = y := by
  have := xor_back x y
  rw [h, Nat.zero_xor] at this
  exact this.symm
theorem xor_lt32 {a b : Nat} (h : a < 4294967296) (k : b < 4294967296) : a ^^^ b < 4294967296 := Nat.xor_lt_two_pow (n := 32) h k
theorem half_xor (a b : Nat) : (a ^^^ b) / 2 = a / 2 ^^^ b / 2 := xor_ext fun i => by
  simp only [Nat.testBit_div_two, Nat.testBit_xor]
theorem odd_xor (a b : Nat) : (a ^^^ b) % 2 = (a % 2 + b % 2) % 2 := by
  have h := Nat.testBit_xor a b 0
  simp only [Nat.testBit_zero] at h
  have x : a % 2 = 0 ∨ a % 2 = 1 := by omega
  have y : b % 2 = 0 ∨ b % 2 = 1 := by omega
  have z : (a ^^^ b) % 2 = 0 ∨ (a ^^^ b) % 2 = 1 := by omega
  rcases x with x | x <;> rcases y with y | y <;> rcases z with z | z <;> rw [x, y, z] at h ⊢ <;> simp at h

def Lin (f : Nat → Nat) : Prop := ∀ a b, f (a ^^^ b) = f a ^^^ f b

theorem Lin.zero {f : Nat → Nat} (h : Lin f) : f 0 = 0 := by
  have := h 0 0
  rw [Nat.xor_self, Nat.xor_self] at this
  exact this

theorem cbit_lin : Lin cbit := by
  intro a b
  unfold cbit
  rw [half_xor, odd_xor]
  have x : a % 2 = 0 ∨ a % 2 = 1 := by omega
  have y : b % 2 = 0 ∨ b % 2 = 1 := by omega
  rcases x with x | x <;> rcases y with y | y <;> rw [x, y]
  · simp
  · simp [Nat.xor_assoc]
  · rw [if_pos (by omega), if_pos rfl, if_neg (by omega)]
    rw [Nat.xor_assoc, Nat.xor_comm (b / 2) poly, ← Nat.xor_assoc]
  · rw [if_neg (by omega), if_pos rfl, if_pos rfl, xor4]

theorem cbit_lt {n : Nat} (h : n < 4294967296) : cbit n < 4294967296 := by
  unfold cbit
  split
  · exact xor_lt32 (by omega) (by decide)
  · omega
theorem cbit_zero {n : Nat} (h : n < 4294967296) (k : cbit n = 0) : n = 0 := by
  unfold cbit at k
  split at k
  · have := xor_zero_eq k
    have : poly = 2197175160 := rfl
    omega
  · omega

theorem rep_lin {f : Nat → Nat} (h : Lin f) : ∀ k, Lin (rep f k)
  | 0 => fun _ _ => rfl
  | k + 1 => fun a b => by
    show rep f k (f (a ^^^ b)) = rep f k (f a) ^^^ rep f k (f b)
    rw [h, rep_lin h k]
theorem rep_lt {f : Nat → Nat} (h : ∀ n, n < 4294967296 → f n < 4294967296) : ∀ k n, n < 4294967296 → rep f k n < 4294967296
  | 0, n, hn => hn
  | k + 1, n, hn => rep_lt h k (f n) (h n hn)
theorem rep_zero {f : Nat → Nat} (hl : ∀ n, n < 4294967296 → f n < 4294967296) (h : ∀ n, n < 4294967296 → f n = 0 → n = 0) : ∀ k n, n < 4294967296 → rep f k n = 0 → n = 0
  | 0, n, hn, e => e
  | k + 1, n, hn, e => h n hn (rep_zero hl h k (f n) (hl n hn) e)
theorem rep_add (f : Nat → Nat) (b : Nat) : ∀ a n, rep f (a + b) n = rep f b (rep f a n)
  | 0, n => by rw [Nat.zero_add]; rfl
  | a + 1, n => by rw [show a + 1 + b = (a + b) + 1 from by omega]; exact rep_add f b a (f n)
theorem rep_succ (f : Nat → Nat) (k n : Nat) : rep f (k + 1) n = f (rep f k n) := rep_add f 1 k n

theorem cstep_xor (a b c d : Nat) : cstep (a ^^^ b) (c ^^^ d) = cstep a c ^^^ cstep b d := by
  unfold cstep
  rw [← rep_lin cbit_lin 8]
  congr 1
  exact xor_ext fun i => by
    simp only [Nat.testBit_xor]
    cases a.testBit i <;> cases b.testBit i <;> cases c.testBit i <;> cases d.testBit i <;> rfl
theorem cstep_lt {n b : Nat} (h : n < 4294967296) (k : b < 256) : cstep n b < 4294967296 := rep_lt (fun _ h => cbit_lt h) 8 _ (xor_lt32 h (by omega))
theorem cstep0_lin : Lin (fun n => cstep n 0) := fun a b => by
  have := cstep_xor a b 0 0
  rw [Nat.xor_self] at this
  exact this
theorem cstep0_lt {n : Nat} (h : n < 4294967296) : cstep n 0 < 4294967296 := cstep_lt h (by omega)
theorem cstep_zero {n : Nat} (h : n < 4294967296) (k : rep cbit 8 n = 0) : n = 0 := rep_zero (fun _ h => cbit_lt h) (fun _ h => cbit_zero h) 8 n h k
theorem cstep0_zero {n : Nat} (h : n < 4294967296) (k : cstep n 0 = 0) : n = 0 := by
  unfold cstep at k
  rw [Nat.xor_zero] at k
  exact cstep_zero h k
theorem zrun_lin (k : Nat) : Lin (zrun k) := rep_lin cstep0_lin k
theorem zrun_lt {k n : Nat} (h : n < 4294967296) : zrun k n < 4294967296 := rep_lt (fun _ h => cstep0_lt h) k n h
theorem zrun_zero {k n : Nat} (h : n < 4294967296) (e : zrun k n = 0) : n = 0 := rep_zero (fun _ h => cstep0_lt h) (fun _ h => cstep0_zero h) k n h e
theorem zrun_add (a b n : Nat) : zrun (a + b) n = zrun b (zrun a n) := rep_add _ b a n

theorem crun_nil (n : Nat) : crun n [] = n := rfl
theorem crun_cons (n : Nat) (x : UInt8) (l : List UInt8) : crun n (x :: l) = crun (cstep n x.toNat) l := rfl
theorem crun_append (n : Nat) (a b : List UInt8) : crun n (a ++ b) = crun (crun n a) b := by unfold crun; rw [List.foldl_append]
theorem crun_snoc (n : Nat) (a : List UInt8) (x : UInt8) : crun n (a ++ [x]) = cstep (crun n a) x.toNat := by rw [crun_append]; rfl
theorem crun_lt {n : Nat} (h : n < 4294967296) : ∀ l : List UInt8, crun n l < 4294967296 := by
  intro l
  induction l generalizing n with
  | nil => exact h
  | cons x l ih => exact ih (cstep_lt h x.toNat_lt)

/-- two begins -/
theorem crun_two (l : List UInt8) : ∀ a b, crun (a ^^^ b) l = zrun l.length a ^^^ crun b l := by
  induction l with
  | nil => intro a b; rfl
  | cons x l ih =>
    intro a b
    rw [crun_cons, crun_cons]
    have e := cstep_xor a b 0 x.toNat
    rw [Nat.zero_xor] at e
    rw [e, ih]
    rfl

theorem onM_lt {c : Nat} (h : c < 4294967296) (l : List UInt8) : onM c l < 4294967296 := xor_lt32 (by decide) (crun_lt (xor_lt32 (by decide) h) l)
/-- a checksum is gone on with -/
theorem onM_append (c : Nat) (a b : List UInt8) : onM c (a ++ b) = onM (onM c a) b := by
  unfold onM
  rw [xor_back2, crun_append]
/-- two of them are joined -/
theorem crcM_join (a b : List UInt8) : crcM (a ++ b) = zrun b.length (crcM a) ^^^ crcM b := by
  unfold crcM
  rw [onM_append]
  have e := crun_two b (onM 0 a) ones
  show ones ^^^ crun (ones ^^^ onM 0 a) b = _
  rw [Nat.xor_comm ones (onM 0 a), e]
  unfold onM
  rw [Nat.xor_zero]
  exact xor_ext fun i => by
    simp only [Nat.testBit_xor]
    cases (ones.testBit i) <;> cases ((zrun b.length (ones ^^^ crun ones a)).testBit i) <;> cases ((crun ones b).testBit i) <;> rfl

/-- one changed byte changes it -/
theorem crun_told {n : Nat} (hn : n < 4294967296) (a b : List UInt8) (x y : UInt8) (h : crun n (a ++ x :: b) = crun n (a ++ y :: b)) : x = y := by
  rw [crun_append, crun_append, crun_cons, crun_cons] at h
  have hs := crun_lt hn a
  generalize crun n a = s at h hs
  have hx := x.toNat_lt
  have hy := y.toNat_lt
  have e := crun_two b (cstep s x.toNat ^^^ cstep s y.toNat) (cstep s y.toNat)
  rw [xor_back, h] at e
  have z : zrun b.length (cstep s x.toNat ^^^ cstep s y.toNat) = 0 := by
    have := congrArg (· ^^^ crun (cstep s y.toNat) b) e
    simp only [xor_back, Nat.xor_self] at this
    exact this.symm
  have u := zrun_zero (xor_lt32 (cstep_lt hs hx) (cstep_lt hs hy)) z
  have v := cstep_xor s s x.toNat y.toNat
  rw [Nat.xor_self, u] at v
  unfold cstep at v
  rw [Nat.zero_xor] at v
  have w := cstep_zero (xor_lt32 (by omega) (by omega)) v
  exact UInt8.toNat_inj.1 (xor_zero_eq w)
theorem ones_inj {a b : Nat} (h : ones ^^^ a = ones ^^^ b) : a = b := by
  have := congrArg (ones ^^^ ·) h
  simp only [xor_back2] at this
  exact this
theorem crcM_told (a b : List UInt8) (x y : UInt8) (h : crcM (a ++ x :: b) = crcM (a ++ y :: b)) : x = y :=
  crun_told (by decide) a b x y (ones_inj h)

/-- the sum of the columns at x's bits, up to k -/
def cols (M : Nat → Nat) (x : Nat) : Nat → Nat
  | 0 => 0
  | k + 1 => cols M x k ^^^ (if x.testBit k then M k else 0)
theorem mod_more (x k : Nat) : x % 2 ^ (k + 1) = x % 2 ^ k ^^^ (if x.testBit k then 2 ^ k else 0) := xor_ext fun i => by
  rw [Nat.testBit_xor, Nat.testBit_mod_two_pow, Nat.testBit_mod_two_pow]
  by_cases c : x.testBit k = true
  · rw [if_pos c, Nat.testBit_two_pow]
    by_cases e : k = i
    · subst e; simp [c]
    · have : decide (i < k + 1) = decide (i < k) := by rw [decide_eq_decide]; omega
      rw [this]; simp [e]
  · rw [if_neg c, Nat.zero_testBit]
    by_cases e : i = k
    · subst e; simp at c; simp [c]
    · have : decide (i < k + 1) = decide (i < k) := by rw [decide_eq_decide]; omega
      rw [this]; simp
/-- a linear function by its table -/
theorem lin_cols {f : Nat → Nat} (h : Lin f) (x : Nat) : ∀ k, f (x % 2 ^ k) = cols (fun i => f (2 ^ i)) x k
  | 0 => by rw [Nat.pow_zero, Nat.mod_one]; exact h.zero
  | k + 1 => by
    rw [mod_more, h, lin_cols h x k]
    show _ = _ ^^^ _
    congr 1
    split
    · rfl
    · exact h.zero
end Go.Proofs.YtjmjmekmaamclaaDoor.sums
/-
  Layer 3, the document's answers: step, On, Crc, Join.
-/
namespace Go.Proofs.YtjmjmekmaamclaaDoor.sums
open Go.ChangeShapes Go.WideShapes Go.ChangeAt Go.RowKit
set_option linter.unusedVariables false

theorem crun_more (n : Nat) (s : ByteArray) (k : Nat) (h : k < s.size) : crun n (s.data.toList.take (k + 1)) = cstep (crun n (s.data.toList.take k)) (s[k]'h).toNat := by
  rw [List.take_succ_eq_append_getElem (by simpa using h), crun_snoc]
  rfl

theorem turn_val (c : Nat) (hc : c < 4294967296) : bits .xor .u32 IntKind.u32.max (c : Int) = ((ones ^^^ c : Nat) : Int) := u32_xor_nat 4294967295 c (by omega) hc

/-- what Join answers -/
def joinM (a b : Nat) (n : Int) : Nat × Int := if n < 0 ∨ 16777216 < n then (0, 1) else (zrun n.toNat a ^^^ b, 0)

end Go.Proofs.YtjmjmekmaamclaaDoor.sums
/-
  Layer 3, plain: eight steps at once, by two tables of half a byte; a linear function by its columns, bit by bit from the lowest; twice as many bytes by the square of a table. No program.
-/
namespace Go.Proofs.YtjmjmekmaamclaaDoor.sums
set_option linter.unusedVariables false

def lowT : List Nat := [0, 4067132163, 3778769143, 324072436, 3348797215, 904991772, 648144872, 3570033899, 2329499855, 2024987596, 1809983544, 2575936315, 1296289744, 3207089363, 2893594407, 1578318884]
def upT : List Nat := [0, 274646895, 549293790, 820201905, 1098587580, 1361435347, 1640403810, 1905808397, 2197175160, 2460548119, 2722870694, 2987750089, 3280807620, 3553878443, 3811616794, 4084100981]

theorem low_at : ∀ k, k < 16 → rep cbit 8 k = lowT.getD k 0 := by decide +kernel
theorem up_at : ∀ k, k < 16 → rep cbit 8 (k * 16) = upT.getD k 0 := by decide +kernel
theorem low_lt : ∀ k, k < 16 → lowT.getD k 0 < 4294967296 := by decide +kernel
theorem up_lt : ∀ k, k < 16 → upT.getD k 0 < 4294967296 := by decide +kernel

theorem cbit_two (m : Nat) : cbit (2 * m) = m := by
  unfold cbit
  rw [if_neg (by omega)]
  omega
theorem rep_shift (k : Nat) : rep cbit 8 (k * 256) = k := by
  rw [show k * 256 = 2 * (2 * (2 * (2 * (2 * (2 * (2 * (2 * k))))))) from by omega]
  simp only [rep, cbit_two]

/-- a number is its upper and its lower part, laid over one another -/
theorem parts_xor (j n : Nat) : n / 2 ^ j * 2 ^ j ^^^ n % 2 ^ j = n := xor_ext fun i => by
  rw [Nat.testBit_xor, Nat.testBit_mul_two_pow, Nat.testBit_mod_two_pow, Nat.testBit_div_two_pow]
  by_cases c : j ≤ i
  · have e : i - j + j = i := by omega
    simp [c, e, show ¬ i < j from by omega]
  · simp [c, show i < j from by omega]

theorem cstep_halves (n b : Nat) (hb : b < 256) : cstep n b = n / 256 ^^^ lowT.getD ((n % 256 ^^^ b) % 16) 0 ^^^ upT.getD ((n % 256 ^^^ b) / 16) 0 := by
  have ho : n % 256 ^^^ b < 256 := Nat.xor_lt_two_pow (n := 8) (Nat.mod_lt _ (by decide)) hb
  have e1 : n ^^^ b = n / 256 * 256 ^^^ (n % 256 ^^^ b) := by
    rw [← Nat.xor_assoc]
    congr 1
    exact (parts_xor 8 n).symm
  unfold cstep
  rw [e1]
  generalize n % 256 ^^^ b = o at ho ⊢
  have e2 : o = o / 16 * 16 ^^^ o % 16 := (parts_xor 4 o).symm
  have L := rep_lin cbit_lin 8
  rw [L, rep_shift]
  conv => lhs; rw [e2]
  rw [L, up_at _ (by omega), low_at _ (by omega), Nat.xor_assoc, Nat.xor_comm (lowT.getD _ 0)]

/-- the lowest bit taken away -/
theorem and_pred : ∀ k m : Nat, (2 ^ k * (2 * m + 1)) &&& (2 ^ k * (2 * m + 1) - 1) = (2 ^ k * (2 * m + 1)) ^^^ 2 ^ k
  | 0, m => xor_ext fun i => by
    rw [Nat.testBit_and, Nat.testBit_xor, Nat.pow_zero, Nat.one_mul, show 2 * m + 1 - 1 = 2 * m from by omega]
    cases i with
    | zero => simp [Nat.testBit_zero]
    | succ i =>
      rw [Nat.testBit_succ, Nat.testBit_succ, Nat.testBit_succ, show (2 * m + 1) / 2 = m from by omega, show 2 * m / 2 = m from by omega, show 1 / 2 = 0 from rfl]
      simp
  | k + 1, m => by
    have ih := and_pred k m
    have e : 2 ^ (k + 1) * (2 * m + 1) = 2 * (2 ^ k * (2 * m + 1)) := by rw [Nat.pow_succ, Nat.mul_comm (2 ^ k) 2, Nat.mul_assoc]
    have hp : 0 < 2 ^ k * (2 * m + 1) := Nat.mul_pos (Nat.two_pow_pos k) (by omega)
    rw [e, show 2 ^ (k + 1) = 2 * 2 ^ k from by rw [Nat.pow_succ, Nat.mul_comm]]
    generalize 2 ^ k * (2 * m + 1) = x at ih hp
    generalize 2 ^ k = y at ih
    refine xor_ext fun i => ?_
    rw [Nat.testBit_and, Nat.testBit_xor]
    cases i with
    | zero => simp [Nat.testBit_zero]
    | succ i =>
      rw [Nat.testBit_succ, Nat.testBit_succ, Nat.testBit_succ, show 2 * x / 2 = x from by omega, show (2 * x - 1) / 2 = x - 1 from by omega, show 2 * y / 2 = y from by omega, ← Nat.testBit_and, ih, Nat.testBit_xor]

/-- the place of the lowest bit -/
def low1 (v : Nat) : Nat := Lib.ctz 32 v
theorem low1_spec (v : Nat) (h0 : v ≠ 0) (h : v < 4294967296) : v &&& (v - 1) = v ^^^ 2 ^ low1 v ∧ low1 v < 32 := by
  obtain ⟨m, hm, hk⟩ := Lib.ctzFrom_spec 32 v (by omega) h
  have e : low1 v = Lib.ctzFrom 32 v := by unfold low1 Lib.ctz; rw [if_neg h0]
  rw [e]
  refine ⟨?_, hk⟩
  have := and_pred (Lib.ctzFrom 32 v) m
  rw [← hm] at this
  exact this
theorem less_pred (v : Nat) (h0 : v ≠ 0) : v &&& (v - 1) < v := Nat.lt_of_le_of_lt Nat.and_le_right (by omega)

/-- the columns of a function -/
def tabV (f : Nat → Nat) : Array Value := ((List.range 32).map fun i => Value.int .u32 (f (2 ^ i) : Nat)).toArray
theorem tabV_size (f : Nat → Nat) : (tabV f).size = 32 := by simp [tabV]
theorem tabV_at (f : Nat → Nat) (i : Nat) (h : i < 32) : (tabV f)[i]? = some (.int .u32 (f (2 ^ i) : Nat)) := by
  simp [tabV, List.getElem?_range h]
theorem tabV_one (f : Nat → Nat) : (tabV f).all (·.oneCell') = true := by
  rw [Array.all_eq_true]
  intro i hi
  simp [tabV, Value.oneCell']

/-- f of what is left, laid over what was gathered -/
theorem take_bit {f : Nat → Nat} (hl : Lin f) (s v k : Nat) : (s ^^^ f (2 ^ k)) ^^^ f (v ^^^ 2 ^ k) = s ^^^ f v := by
  rw [hl, Nat.xor_assoc, ← Nat.xor_assoc (f (2 ^ k)), Nat.xor_comm (f (2 ^ k)) (f v), Nat.xor_assoc (f v), Nat.xor_self, Nat.xor_zero]

/-- 2^j bytes 00 -/
def zpow (j : Nat) : Nat → Nat := zrun (2 ^ j)
theorem zpow_zero : zpow 0 = fun n => cstep n 0 := by
  funext n
  unfold zpow zrun
  rw [Nat.pow_zero]
  simp only [rep]
theorem zpow_succ (j n : Nat) : zpow (j + 1) n = zpow j (zpow j n) := by
  unfold zpow
  rw [Nat.pow_succ, Nat.mul_two, zrun_add]
theorem zpow_lin (j : Nat) : Lin (zpow j) := zrun_lin _
theorem zpow_lt (j : Nat) {n : Nat} (h : n < 4294967296) : zpow j n < 4294967296 := zrun_lt h
/-- the bytes left, one binary place at a time -/
theorem zleft (j n a : Nat) : zrun (2 ^ j * n) a = zrun (2 ^ (j + 1) * (n / 2)) (if n % 2 = 1 then zpow j a else a) := by
  have h : 2 ^ j * n = (if n % 2 = 1 then 2 ^ j else 0) + 2 ^ (j + 1) * (n / 2) := by
    rw [Nat.pow_succ, Nat.mul_assoc]
    split
    · rename_i o
      have e : n = 1 + 2 * (n / 2) := by omega
      conv => lhs; rw [e, Nat.mul_add, Nat.mul_one]
    · rename_i o
      have e : n = 2 * (n / 2) := by omega
      conv => lhs; rw [e]
      rw [Nat.zero_add]
  rw [h, zrun_add]
  congr 1
  split <;> rfl
end Go.Proofs.YtjmjmekmaamclaaDoor.sums
/-
  Layer 3, the program: the byte's closure, On, Crc; for the layers above (no other text of layer 3 is asked).
-/
namespace Go.Proofs.YtjmjmekmaamclaaDoor.sums
open Go.ChangeShapes Go.WideShapes Go.ChangeAt Go.RowKit
set_option linter.unusedVariables false

theorem bl_alloc {w w' : World} (h : Below w.heap.size w w') (o : Obj) : Below w.heap.size w (w'.alloc o) := h.alloc h.size o
theorem bl_drewN {w w' : World} (h : Below w.heap.size w w') (n : Nat) : Below w.heap.size w (w'.drewN n) := ⟨h.os, h.tape, h.output, h.size, h.block⟩
theorem bl_cell {B : Nat} {w w' : World} (h : Below B w w') {a : Addr} {v : Value} (hb : a.block < B) (hc : w.cell? a = some v) : w'.cell? a = some v := by
  rw [← hc]
  unfold World.cell?
  rw [h.block a.block hb]

/-- the two tables stand where the program laid them -/
structure Halves (w : World) : Prop where
  low : ∀ k, k < 16 → w.cell? ⟨0, k, none⟩ = some (.int .u32 (lowT.getD k 0 : Nat))
  up : ∀ k, k < 16 → w.cell? ⟨1, k, none⟩ = some (.int .u32 (upT.getD k 0 : Nat))
/-- and the library's table of lowest bits -/
structure Tables (w : World) : Prop extends Halves w where
  tz : ∀ k, k < 32 → w.cell? ⟨2, k, none⟩ = some (.int .u8 (Lib.deBruijn32tab.getD k 0 : Nat))

theorem bl_some {w w' : World} (h : Below w.heap.size w w') {a : Addr} {v : Value} (hc : w.cell? a = some v) : w'.cell? a = some v :=
  bl_cell h (World.block_lt_of_cell? w a hc) hc
theorem Halves.keep {w w' : World} (g : Halves w) (h : Below w.heap.size w w') : Halves w' := ⟨fun k hk => bl_some h (g.low k hk), fun k hk => bl_some h (g.up k hk)⟩
theorem Tables.keep {w w' : World} (g : Tables w) (h : Below w.heap.size w w') : Tables w' := ⟨g.toHalves.keep h, fun k hk => bl_some h (g.tz k hk)⟩
theorem Halves.big {w : World} (g : Halves w) : 2 ≤ w.heap.size := World.block_lt_of_cell? w _ (g.up 0 (by decide))

theorem eat_any (n b B : Nat) (w : World) (hn : n < 4294967296) (hb : b < 256) (hB : 2 ≤ B) (hc : w.cell? ⟨B, 0, none⟩ = some (.int .u32 n)) (hf : w.frozen? ⟨B, 0, none⟩ = false) (g : Halves w) :
    Calls Tryd.prog 96 #[.int .u8 b, .pointer (some ⟨B, 0, none⟩)] w fun e w' => e = .returned (.tuple #[]) ∧ ∃ q, w' = (w.setCell ⟨B, 0, none⟩ (.int .u32 (cstep n b))).drewN q := by
  have ho : n % 256 ^^^ b < 256 := Nat.xor_lt_two_pow (n := 8) (Nat.mod_lt _ (by decide)) hb
  have e1 := u8_xor_nat (n % 256) b (by omega) hb
  have e5 := cstep_halves n b hb
  rw [e5]
  generalize n % 256 ^^^ b = o at ho e1 ⊢
  have e2 : bits .and .u8 (o : Int) 15 = ((o % 16 : Nat) : Int) := by rw [u8_and15 (o : Int) (by omega) (by omega)]; simp
  have e3 : (o : Int) / 16 = ((o / 16 : Nat) : Int) := by simp
  have hl : o % 16 < 16 := by omega
  have hh : o / 16 < 16 := by omega
  have cl := g.low _ hl
  have cu := g.up _ hh
  have ll := low_lt _ hl
  have lu := up_lt _ hh
  obtain ⟨l, el⟩ : ∃ l, l = o % 16 := ⟨_, rfl⟩
  obtain ⟨h, eh⟩ : ∃ h, h = o / 16 := ⟨_, rfl⟩
  rw [← el] at e2 hl cl ll ⊢
  rw [← eh] at e3 hh cu lu ⊢
  clear el eh
  obtain ⟨L, eL⟩ : ∃ L, L = lowT.getD l 0 := ⟨_, rfl⟩
  obtain ⟨U, eU⟩ : ∃ U, U = upT.getD h 0 := ⟨_, rfl⟩
  rw [← eL] at cl ll ⊢
  rw [← eU] at cu lu ⊢
  have e6 := u32_xor_nat (n / 256) L (by omega) ll
  have hx := xor_lt32 (show n / 256 < 4294967296 from by omega) ll
  generalize n / 256 ^^^ L = x at e6 hx ⊢
  have e7 := u32_xor_nat x U hx lu
  have hy := xor_lt32 hx lu
  generalize x ^^^ U = y at e7 hy ⊢
  have n0 : (0 : Int) ≤ n := by omega
  have n1 : (n : Int) ≤ 4294967295 := by omega
  have o0 : (0 : Int) ≤ o := by omega
  have o1 : (o : Int) ≤ 255 := by omega
  have l0 : (0 : Int) ≤ l := by omega
  have l1 : (l : Int) < 16 := by omega
  have h0 : (0 : Int) ≤ h := by omega
  have h1 : (h : Int) < 16 := by omega
  rw [show ((n % 256 : Nat) : Int) = (n : Int) % 256 from by simp] at e1
  rw [show ((n / 256 : Nat) : Int) = (n : Int) / 256 from by simp] at e6
  have nb0 : ¬ (0 : Nat) = B := by omega
  have nb1 : ¬ (1 : Nat) = B := by omega
  clear g hn hb ho e5 eL eU ll lu hx hy hB
  go_enter Tryd.func96, Tryd.ntmps96
  go_wp2_with fail
  go_region
  all_goals
    go_end0
    exact ⟨rfl, 1, rfl⟩

/-- a number of the caller's own in block B, since w -/
structure Cell1 (w : World) (B n : Nat) (W : World) : Prop where
  b : Below w.heap.size w W
  at' : w.heap.size ≤ B
  c : W.cell? ⟨B, 0, none⟩ = some (.int .u32 n)
  f : W.frozen? ⟨B, 0, none⟩ = false
theorem Cell1.store {w W : World} {B n m : Nat} (h : Cell1 w B n W) (q : Nat) : Cell1 w B m ((W.setCell ⟨B, 0, none⟩ (.int .u32 m)).drewN q) where
  b := bl_drewN (h.b.setCell h.at' _) q
  at' := h.at'
  c := by
    show (W.setCell ⟨B, 0, none⟩ (.int .u32 m)).cell? ⟨B, 0, none⟩ = _
    exact World.cell?_setCell_same _ _ _ (by rw [h.c])
  f := by
    show (W.setCell ⟨B, 0, none⟩ (.int .u32 m)).frozen? ⟨B, 0, none⟩ = _
    rw [World.frozen?_setCell]
    exact h.f
theorem Cell1.new (w : World) (n : Nat) (ty : TypeId) : Cell1 w w.heap.size n (w.alloc (.cells #[.int .u32 n] ty)) where
  b := bl_alloc (Below.refl _ _) _
  at' := Nat.le_refl _
  c := by rw [cell_of_row _ _ _ _ _ _ (heap_alloc_new _ _)]; rfl
  f := by
    unfold World.frozen?
    rw [heap_alloc_new]
    rfl

theorem on_prog (c : Nat) (s : ByteArray) (hc : c < 4294967296) (hs : s.size ≤ 9223372036854775807) (w : World) (g : Halves w) :
    Calls Tryd.prog 93 #[.int .u32 c, .string s] w fun e w' => e = .returned (.int .u32 (onM c s.data.toList)) ∧ Below w.heap.size w w' := by
  have e0 := turn_val c hc
  have hb : ones ^^^ c < 4294967296 := xor_lt32 (by decide) hc
  have ho : onM c s.data.toList = ones ^^^ crun (ones ^^^ c) s.data.toList := rfl
  rw [ho]
  generalize ones ^^^ c = m at e0 hb ⊢
  have HB := Lib.hid hb
  have HG := Lib.hid g
  have c0 : (0 : Int) ≤ c := by omega
  have c1 : (c : Int) ≤ 4294967295 := by omega
  have H1 := Lib.hid (Cell1.new w m 142)
  clear hb ho hc g
  go_enter Tryd.func93, Tryd.ntmps93
  go_wp2_with fail
  go_loopw [13] (fun i wr => ∃ k : Nat, k ≤ s.size ∧ i = .int .i64 ↑k ∧ Cell1 w w.heap.size (crun m (s.data.toList.take k)) wr) (fun i _ => s.size - (intOf i).toNat)
  case atStart => exact ⟨0, Nat.zero_le _, rfl, by simpa [crun_nil] using H1.out⟩
  case round =>
    obtain ⟨k, hk, rfl, hw⟩ := hrel
    have hy := crun_lt HB.out (s.data.toList.take k)
    have HW := Lib.hid hw
    clear hw H1
    by_cases hlt : k < s.size
    · have HM := Lib.hid (crun_more m s k hlt)
      obtain ⟨y, hyy⟩ : ∃ y, y = crun m (s.data.toList.take k) := ⟨_, rfl⟩
      rw [← hyy] at hy HM HW
      have HS := Lib.hid fun W (hW : Cell1 w w.heap.size y W) => eat_any y (s[k]'hlt).toNat w.heap.size W hy (UInt8.toNat_lt _) HG.out.big hW.c hW.f (HG.out.keep hW.b)
      clear hy hyy
      go_wp2_with (go_at_call 96; refine (HS.out _ HW.out).mono ?_; rintro e w' ⟨rfl, q, rfl⟩)
      go_roundw
      case rel => exact ⟨k + 1, by omega, by go_num, by rw [HM.out]; exact HW.out.store q⟩
      case measure => simp [intOf] <;> omega
    · rw [List.take_of_length_le (show s.data.toList.length ≤ k from by simp; omega)] at hy HW
      have e2 := turn_val (crun m s.data.toList) hy
      obtain ⟨z, hz⟩ : ∃ z, z = ones ^^^ crun m s.data.toList := ⟨_, rfl⟩
      rw [← hz] at e2
      have HZ := Lib.hid hz
      clear hz
      generalize crun m s.data.toList = y at e2 hy HW
      have y0 : (0 : Int) ≤ y := by omega
      have y1 : (y : Int) ≤ 4294967295 := by omega
      have hcell := HW.out.c
      clear hy
      go_wp2_with fail
      go_ret
      rw [← HZ.out]
      exact ⟨rfl, HW.out.b⟩

theorem crc_prog (s : ByteArray) (hs : s.size ≤ 9223372036854775807) (w : World) (g : Halves w) :
    Calls Tryd.prog 80 #[.string s] w fun e w' => e = .returned (.int .u32 (crcM s.data.toList)) ∧ Below w.heap.size w w' := by
  have HO := Lib.hid (on_prog 0 s (by omega) hs w g)
  rw [show onM 0 s.data.toList = crcM s.data.toList from rfl] at HO
  go_enter Tryd.func80, Tryd.ntmps80
  go_wp2_with (go_at_call 93; refine HO.out.mono ?_; rintro e w' ⟨rfl, hb⟩)
  go_ret
  exact ⟨rfl, hb⟩
end Go.Proofs.YtjmjmekmaamclaaDoor.sums
