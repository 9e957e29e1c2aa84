/-
  Layer 3, plain: the checksum of the document, bit by bit: what it is of two texts behind one another; that one changed byte changes it; a linear function by a table of its columns. No program.
-/
import Derived.PlainAid
import Derived.Laws.BitsAllLaws
namespace Go.Proofs.YtoiankgafclbdaaDoor.sums
set_option linter.unusedVariables false

def poly : Nat := 2197175160
def ones : Nat := 4294967295

/-- one bit -/
def cbit (n : Nat) : Nat := if n % 2 = 1 then n / 2 ^^^ poly else n / 2
/-- so many times -/
def rep (f : Nat → Nat) : Nat → Nat → Nat
  | 0, n => n
  | k + 1, n => rep f k (f n)
/-- one byte -/
def cstep (n b : Nat) : Nat := rep cbit 8 (n ^^^ b)
/-- a text -/
def crun (n : Nat) (l : List UInt8) : Nat := l.foldl (fun n b => cstep n b.toNat) n
/-- bytes 00 -/
def zrun (k n : Nat) : Nat := rep (fun n => cstep n 0) k n
def onM (c : Nat) (l : List UInt8) : Nat := ones ^^^ crun (ones ^^^ c) l
def crcM (l : List UInt8) : Nat := onM 0 l

theorem xor_ext {a b : Nat} (h : ∀ i, a.testBit i = b.testBit i) : a = b := Nat.eq_of_testBit_eq h
theorem xor4 (x y p : Nat) : (x ^^^ p) ^^^ (y ^^^ p) = x ^^^ y := xor_ext fun i => by
  simp only [Nat.testBit_xor]
  cases x.testBit i <;> cases y.testBit i <;> cases p.testBit i <;> rfl
theorem xor_back (x y : Nat) : (x ^^^ y) ^^^ y = x := by rw [Nat.xor_assoc, Nat.xor_self, Nat.xor_zero]
theorem xor_back2 (x y : Nat) : x ^^^ (x ^^^ y) = y := by rw [← Nat.xor_assoc, Nat.xor_self, Nat.zero_xor]
theorem xor_zero_eq {x y : Nat} (h : x ^^^ y = 0) : x = y := by
  have := xor_back x y
  rw [h, Nat.zero_xor] at this
  exact this.symm
theorem xor_lt32 {a b : Nat} (h : a < 4294967296) (k : b < 4294967296) : a ^^^ b < 4294967296 := Nat.xor_lt_two_pow (n := 32) h k
theorem half_xor (a b : Nat) : (a ^^^ b) / 2 = a / 2 ^^^ b / 2 := xor_ext fun i => by
  simp only [Nat.testBit_div_two, Nat.testBit_xor]
theorem odd_xor (a b : Nat) : (a ^^^ b) % 2 = (a % 2 + b % 2) % 2 := by
  have h := Nat.testBit_xor a b 0
  simp only [Nat.testBit_zero] at h
  have x : a % 2 = 0 ∨ a % 2 = 1 := by omega
  have y : b % 2 = 0 ∨ b % 2 = 1 := by omega
  have z : (a ^^^ b) % 2 = 0 ∨ (a ^^^ b) % 2 = 1 := by omega
  rcases x with x | x <;> rcases y with y | y <;> rcases z with z | z <;> rw [x, y, z] at h ⊢ <;> simp at h

def Lin (f : Nat → Nat) : Prop := ∀ a b, f (a ^^^ b) = f a ^^^ f b

theorem Lin.zero {f : Nat → Nat} (h : Lin f) : f 0 = 0 := by
  have := h 0 0
  rw [Nat.xor_self, Nat.xor_self] at this
  exact this

theorem cbit_lin : Lin cbit := by
  intro a b
  unfold cbit
  rw [half_xor, odd_xor]
  have x : a % 2 = 0 ∨ a % 2 = 1 := by omega
  have y : b % 2 = 0 ∨ b % 2 = 1 := by omega
  rcases x with x | x <;> rcases y with y | y <;> rw [x, y]
  · simp
  · simp [Nat.xor_assoc]
  · rw [if_pos (by omega), if_pos rfl, if_neg (by omega)]
    rw [Nat.xor_assoc, Nat.xor_comm (b / 2) poly, ← Nat.xor_assoc]
  · rw [if_neg (by omega), if_pos rfl, if_pos rfl, xor4]

theorem cbit_lt {n : Nat} (h : n < 4294967296) : cbit n < 4294967296 := by
  unfold cbit
  split
  · exact xor_lt32 (by omega) (by decide)
  · omega
theorem cbit_zero {n : Nat} (h : n < 4294967296) (k : cbit n = 0) : n = 0 := by
  unfold cbit at k
  split at k
  · have := xor_zero_eq k
    have : poly = 2197175160 := rfl
    omega
  · omega

theorem rep_lin {f : Nat → Nat} (h : Lin f) : ∀ k, Lin (rep f k)
  | 0 => fun _ _ => rfl
  | k + 1 => fun a b => by
    show rep f k (f (a ^^^ b)) = rep f k (f a) ^^^ rep f k (f b)
    rw [h, rep_lin h k]
theorem rep_lt {f : Nat → Nat} (h : ∀ n, n < 4294967296 → f n < 4294967296) : ∀ k n, n < 4294967296 → rep f k n < 4294967296
  | 0, n, hn => hn
  | k + 1, n, hn => rep_lt h k (f n) (h n hn)
theorem rep_zero {f : Nat → Nat} (hl : ∀ n, n < 4294967296 → f n < 4294967296) (h : ∀ n, n < 4294967296 → f n = 0 → n = 0) : ∀ k n, n < 4294967296 → rep f k n = 0 → n = 0
  | 0, n, hn, e => e
  | k + 1, n, hn, e => h n hn (rep_zero hl h k (f n) (hl n hn) e)
theorem rep_add (f : Nat → Nat) (b : Nat) : ∀ a n, rep f (a + b) n = rep f b (rep f a n)
  | 0, n => by rw [Nat.zero_add]; rfl
  | a + 1, n => by rw [show a + 1 + b = (a + b) + 1 from by omega]; exact rep_add f b a (f n)
theorem rep_succ (f : Nat → Nat) (k n : Nat) : rep f (k + 1) n = f (rep f k n) := rep_add f 1 k n

theorem cstep_xor (a b c d : Nat) : cstep (a ^^^ b) (c ^^^ d) = cstep a c ^^^ cstep b d := by
  unfold cstep
  rw [← rep_lin cbit_lin 8]
  congr 1
  exact xor_ext fun i => by
    simp only [Nat.testBit_xor]
    cases a.testBit i <;> cases b.testBit i <;> cases c.testBit i <;> cases d.testBit i <;> rfl
theorem cstep_lt {n b : Nat} (h : n < 4294967296) (k : b < 256) : cstep n b < 4294967296 := rep_lt (fun _ h => cbit_lt h) 8 _ (xor_lt32 h (by omega))
theorem cstep0_lin : Lin (fun n => cstep n 0) := fun a b => by
  have := cstep_xor a b 0 0
  rw [Nat.xor_self] at this
  exact this
theorem cstep0_lt {n : Nat} (h : n < 4294967296) : cstep n 0 < 4294967296 := cstep_lt h (by omega)
theorem cstep_zero {n : Nat} (h : n < 4294967296) (k : rep cbit 8 n = 0) : n = 0 := rep_zero (fun _ h => cbit_lt h) (fun _ h => cbit_zero h) 8 n h k
theorem cstep0_zero {n : Nat} (h : n < 4294967296) (k : cstep n 0 = 0) : n = 0 := by
  unfold cstep at k
  rw [Nat.xor_zero] at k
  exact cstep_zero h k
theorem zrun_lin (k : Nat) : Lin (zrun k) := rep_lin cstep0_lin k
theorem zrun_lt {k n : Nat} (h : n < 4294967296) : zrun k n < 4294967296 := rep_lt (fun _ h => cstep0_lt h) k n h
theorem zrun_zero {k n : Nat} (h : n < 4294967296) (e : zrun k n = 0) : n = 0 := rep_zero (fun _ h => cstep0_lt h) (fun _ h => cstep0_zero h) k n h e
theorem zrun_add (a b n : Nat) : zrun (a + b) n = zrun b (zrun a n) := rep_add _ b a n

theorem crun_nil (n : Nat) : crun n [] = n := rfl
theorem crun_cons (n : Nat) (x : UInt8) (l : List UInt8) : crun n (x :: l) = crun (cstep n x.toNat) l := rfl
theorem crun_append (n : Nat) (a b : List UInt8) : crun n (a ++ b) = crun (crun n a) b := by unfold crun; rw [List.foldl_append]
theorem crun_snoc (n : Nat) (a : List UInt8) (x : UInt8) : crun n (a ++ [x]) = cstep (crun n a) x.toNat := by rw [crun_append]; rfl
theorem crun_lt {n : Nat} (h : n < 4294967296) : ∀ l : List UInt8, crun n l < 4294967296 := by
  intro l
  induction l generalizing n with
  | nil => exact h
  | cons x l ih => exact ih (cstep_lt h x.toNat_lt)

/-- two begins -/
theorem crun_two (l : List UInt8) : ∀ a b, crun (a ^^^ b) l = zrun l.length a ^^^ crun b l := by
  induction l with
  | nil => intro a b; rfl
  | cons x l ih =>
    intro a b
    rw [crun_cons, crun_cons]
    have e := cstep_xor a b 0 x.toNat
    rw [Nat.zero_xor] at e
    rw [e, ih]
    rfl

theorem onM_lt {c : Nat} (h : c < 4294967296) (l : List UInt8) : onM c l < 4294967296 := xor_lt32 (by decide) (crun_lt (xor_lt32 (by decide) h) l)
/-- a checksum is gone on with -/
theorem onM_append (c : Nat) (a b : List UInt8) : onM c (a ++ b) = onM (onM c a) b := by
  unfold onM
  rw [xor_back2, crun_append]
/-- two of them are joined -/
theorem crcM_join (a b : List UInt8) : crcM (a ++ b) = zrun b.length (crcM a) ^^^ crcM b := by
  unfold crcM
  rw [onM_append]
  have e := crun_two b (onM 0 a) ones
  show ones ^^^ crun (ones ^^^ onM 0 a) b = _
  rw [Nat.xor_comm ones (onM 0 a), e]
  unfold onM
  rw [Nat.xor_zero]
  exact xor_ext fun i => by
    simp only [Nat.testBit_xor]
    cases (ones.testBit i) <;> cases ((zrun b.length (ones ^^^ crun ones a)).testBit i) <;> cases ((crun ones b).testBit i) <;> rfl

/-- one changed byte changes it -/
theorem crun_told {n : Nat} (hn : n < 4294967296) (a b : List UInt8) (x y : UInt8) (h : crun n (a ++ x :: b) = crun n (a ++ y :: b)) : x = y := by
  rw [crun_append, crun_append, crun_cons, crun_cons] at h
  have hs := crun_lt hn a
  generalize crun n a = s at h hs
  have hx := x.toNat_lt
  have hy := y.toNat_lt
  have e := crun_two b (cstep s x.toNat ^^^ cstep s y.toNat) (cstep s y.toNat)
  rw [xor_back, h] at e
  have z : zrun b.length (cstep s x.toNat ^^^ cstep s y.toNat) = 0 := by
    have := congrArg (· ^^^ crun (cstep s y.toNat) b) e
    simp only [xor_back, Nat.xor_self] at this
    exact this.symm
  have u := zrun_zero (xor_lt32 (cstep_lt hs hx) (cstep_lt hs hy)) z
  have v := cstep_xor s s x.toNat y.toNat
  rw [Nat.xor_self, u] at v
  unfold cstep at v
  rw [Nat.zero_xor] at v
  have w := cstep_zero (xor_lt32 (by omega) (by omega)) v
  exact UInt8.toNat_inj.1 (xor_zero_eq w)
theorem ones_inj {a b : Nat} (h : ones ^^^ a = ones ^^^ b) : a = b := by
  have := congrArg (ones ^^^ ·) h
  simp only [xor_back2] at this
  exact this
theorem crcM_told (a b : List UInt8) (x y : UInt8) (h : crcM (a ++ x :: b) = crcM (a ++ y :: b)) : x = y :=
  crun_told (by decide) a b x y (ones_inj h)

/-- the sum of the columns at x's bits, up to k -/
def cols (M : Nat → Nat) (x : Nat) : Nat → Nat
  | 0 => 0
  | k + 1 => cols M x k ^^^ (if x.testBit k then M k else 0)
theorem mod_more (x k : Nat) : x % 2 ^ (k + 1) = x % 2 ^ k ^^^ (if x.testBit k then 2 ^ k else 0) := xor_ext fun i => by
  rw [Nat.testBit_xor, Nat.testBit_mod_two_pow, Nat.testBit_mod_two_pow]
  by_cases c : x.testBit k = true
  · rw [if_pos c, Nat.testBit_two_pow]
    by_cases e : k = i
    · subst e; simp [c]
    · have : decide (i < k + 1) = decide (i < k) := by rw [decide_eq_decide]; omega
      rw [this]; simp [e]
  · rw [if_neg c, Nat.zero_testBit]
    by_cases e : i = k
    · subst e; simp at c; simp [c]
    · have : decide (i < k + 1) = decide (i < k) := by rw [decide_eq_decide]; omega
      rw [this]; simp
/-- a linear function by its table -/
theorem lin_cols {f : Nat → Nat} (h : Lin f) (x : Nat) : ∀ k, f (x % 2 ^ k) = cols (fun i => f (2 ^ i)) x k
  | 0 => by rw [Nat.pow_zero, Nat.mod_one]; exact h.zero
  | k + 1 => by
    rw [mod_more, h, lin_cols h x k]
    show _ = _ ^^^ _
    congr 1
    split
    · rfl
    · exact h.zero
end Go.Proofs.YtoiankgafclbdaaDoor.sums
