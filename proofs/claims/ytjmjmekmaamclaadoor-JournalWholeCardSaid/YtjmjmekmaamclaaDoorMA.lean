/-
  Layer 5, plain: the journal's blocks as bytes: numbers, head blocks, descriptors, records; and back. No program.
-/
import Derived.Test.YtjmjmekmaamclaaDoorDevZ
import Derived.Test.YtjmjmekmaamclaaDoorCA
namespace Go.Proofs.YtjmjmekmaamclaaDoor.jrn
open dev sums
set_option linter.unusedVariables false

/-- a number in so many bytes, the highest first -/
def beL : Nat → Nat → List UInt8
  | 0, _ => []
  | w + 1, v => UInt8.ofNat (v / 256 ^ w) :: beL w v
def be (w v : Nat) : ByteArray := ⟨(beL w v).toArray⟩
def numL (l : List UInt8) : Nat := l.foldl (fun a b => a * 256 + b.toNat) 0
def num (t : ByteArray) : Nat := numL t.data.toList

theorem beL_len (w v : Nat) : (beL w v).length = w := by
  induction w with
  | zero => rfl
  | succ w ih => simp [beL, ih]
theorem be_size (w v : Nat) : (be w v).size = w := by
  show (beL w v).toArray.size = w
  rw [List.size_toArray, beL_len]
theorem num_from (l : List UInt8) : ∀ a, l.foldl (fun a b => a * 256 + b.toNat) a = a * 256 ^ l.length + numL l := by
  induction l with
  | nil => intro a; simp [numL]
  | cons b l ih =>
    intro a
    rw [numL, List.foldl_cons, List.foldl_cons, ih, ih (0 * 256 + b.toNat), List.length_cons, Nat.pow_succ, Nat.zero_mul, Nat.zero_add, Nat.add_mul, Nat.mul_assoc, Nat.mul_comm 256, Nat.add_assoc]
theorem numL_cons (b : UInt8) (l : List UInt8) : numL (b :: l) = b.toNat * 256 ^ l.length + numL l := by
  have := num_from l b.toNat
  rw [← this]
  show (b :: l).foldl _ 0 = _
  rw [List.foldl_cons, Nat.zero_mul, Nat.zero_add]
theorem num_be (w v : Nat) : num (be w v) = v % 256 ^ w := by
  show numL (beL w v).toArray.toList = _
  simp only []
  induction w with
  | zero => simp [beL, numL, Nat.mod_one]
  | succ w ih =>
    rw [beL, numL_cons, beL_len, ih, UInt8.toNat_ofNat']
    rw [show (2 : Nat) ^ 8 = 256 from rfl, Nat.pow_succ, Nat.mod_mul, Nat.mul_comm, Nat.add_comm]
theorem num_be_lt {w v : Nat} (h : v < 256 ^ w) : num (be w v) = v := by rw [num_be, Nat.mod_eq_of_lt h]
theorem be_inj {w a b : Nat} (ha : a < 256 ^ w) (hb : b < 256 ^ w) (h : be w a = be w b) : a = b := by
  rw [← num_be_lt ha, ← num_be_lt hb, h]

theorem ba_append_inj {a b c d : ByteArray} (h : a ++ b = c ++ d) (hs : a.size = c.size) : a = c ∧ b = d := by
  have h' := congrArg (fun x : ByteArray => x.data.toList) h
  simp only [ByteArray.data_append, Array.toList_append] at h'
  have := List.append_inj h' (by rw [Array.length_toList, Array.length_toList]; exact hs)
  exact ⟨ba_ext this.1, ba_ext this.2⟩
theorem ext_data (b : ByteArray) (i j : Nat) : (b.extract i j).data.toList = (b.data.toList.drop i).take (j - i) := by
  rw [ByteArray.data_extract, Array.toList_extract, List.extract_eq_take_drop]
theorem app_data (a b : ByteArray) : (a ++ b).data.toList = a.data.toList ++ b.data.toList := by rw [ByteArray.data_append, Array.toList_append]
theorem data_len (a : ByteArray) : a.data.toList.length = a.size := by rw [Array.length_toList]; rfl
theorem ba_take (a b : ByteArray) : (a ++ b).extract 0 a.size = a := by
  apply ba_ext
  rw [ext_data, app_data, List.drop_zero, Nat.sub_zero, List.take_append_of_le_length (by rw [data_len]; omega), List.take_of_length_le (by rw [data_len]; omega)]
theorem ba_sub (a b c : ByteArray) (i j : Nat) (hi : i = a.size) (hj : j = a.size + b.size) : (a ++ b ++ c).extract i j = b := by
  subst hi hj
  apply ba_ext
  rw [ext_data, app_data, app_data, List.append_assoc, ← data_len a, List.drop_left, show a.data.toList.length + b.size - a.data.toList.length = b.data.toList.length from by rw [data_len b]; omega, List.take_left]

def mkH : ByteArray := ⟨#[87, 74, 72, 49]⟩
def mkD : ByteArray := ⟨#[87, 74, 68, 49]⟩
def mkC : ByteArray := ⟨#[87, 74, 67, 49]⟩
def mk2 : ByteArray := ⟨#[87, 74]⟩
def un2 : ByteArray := ⟨#[0, 0]⟩

/-- a text, and bytes 0 -/
def pad (t : ByteArray) (z : Nat) : ByteArray := t ++ noughts (z - t.size)
theorem pad_size {t : ByteArray} {z : Nat} (h : t.size ≤ z) : (pad t z).size = z := by rw [pad, ByteArray.size_append, noughts_size]; omega
def crcB (t : ByteArray) : Nat := crcM t.data.toList
theorem crc_lt (l : List UInt8) : crcM l < 4294967296 := by
  unfold crcM onM
  exact xor_lt32 (by decide) (crun_lt (xor_lt32 (by decide) (by decide)) _)
def summed (t : ByteArray) (z : Nat) : ByteArray := pad (t ++ be 4 (crcB t)) z
theorem summed_size {t : ByteArray} {z : Nat} (h : t.size + 4 ≤ z) : (summed t z).size = z := pad_size (by rw [ByteArray.size_append, be_size]; omega)

structure Hd where
  own : Nat
  tail : Nat
  num : Nat
def headT (h : Hd) : ByteArray := mkH ++ be 8 h.own ++ be 4 h.tail ++ be 8 h.num
theorem headT_size (h : Hd) : (headT h).size = 24 := by unfold headT; rw [ByteArray.size_append, ByteArray.size_append, ByteArray.size_append, be_size, be_size, be_size]; rfl
def headB (h : Hd) (z : Nat) : ByteArray := summed (headT h) z
structure Hd.Ok (h : Hd) (ring : Nat) : Prop where
  own : h.own < 18446744073709551616
  tail : h.tail < ring
  num : h.num < 18446744073709551616

/-- the head that a block has -/
def fieldsOf (t : ByteArray) : Hd := ⟨num (t.extract 4 12), num (t.extract 12 16), num (t.extract 16 24)⟩
def isHead (t : ByteArray) (ring : Nat) : Prop := (fieldsOf t).tail < ring ∧ headB (fieldsOf t) t.size = t
instance (t : ByteArray) (ring : Nat) : Decidable (isHead t ring) := inferInstanceAs (Decidable (_ ∧ _))

theorem headB_form (h : Hd) (z : Nat) : headB h z = mkH ++ (be 8 h.own ++ (be 4 h.tail ++ (be 8 h.num ++ (be 4 (crcB (headT h)) ++ noughts (z - 28))))) := by
  unfold headB summed pad
  rw [ByteArray.size_append, be_size, headT_size]
  simp only [headT, ByteArray.append_assoc]
theorem mkH_size : mkH.size = 4 := rfl
theorem mkD_size : mkD.size = 4 := rfl
theorem mkC_size : mkC.size = 4 := rfl
theorem head_fields {h : Hd} {ring z : Nat} (a : h.Ok ring) (hr : ring ≤ 4096) (hz : 28 ≤ z) : fieldsOf (headB h z) = h := by
  have e := headB_form h z
  have e1 : (headB h z).extract 4 12 = be 8 h.own := by
    rw [e, ← ByteArray.append_assoc]
    exact ba_sub _ _ _ _ _ (by rfl) (by rw [be_size]; rfl)
  have e2 : (headB h z).extract 12 16 = be 4 h.tail := by
    rw [e, ← ByteArray.append_assoc, ← ByteArray.append_assoc]
    exact ba_sub _ _ _ _ _ (by rw [ByteArray.size_append, be_size]; rfl) (by rw [ByteArray.size_append, be_size, be_size]; rfl)
  have e3 : (headB h z).extract 16 24 = be 8 h.num := by
    rw [e, ← ByteArray.append_assoc, ← ByteArray.append_assoc, ← ByteArray.append_assoc]
    exact ba_sub _ _ _ _ _ (by simp only [ByteArray.size_append, be_size]; rfl) (by simp only [ByteArray.size_append, be_size]; rfl)
  unfold fieldsOf
  rw [e1, e2, e3, num_be_lt (by have := a.own; omega), num_be_lt (by have := a.tail; omega), num_be_lt (by have := a.num; omega)]
theorem head_is {h : Hd} {ring z : Nat} (a : h.Ok ring) (hr : ring ≤ 4096) (hz : 28 ≤ z) : isHead (headB h z) ring := by
  unfold isHead
  rw [head_fields a hr hz, show (headB h z).size = z from summed_size (by rw [headT_size]; omega)]
  exact ⟨a.tail, rfl⟩
theorem headB_size (h : Hd) {z : Nat} (hz : 28 ≤ z) : (headB h z).size = z := summed_size (by rw [headT_size]; omega)
theorem starts_noughts (z : Nat) (t s : ByteArray) (b : UInt8) (hb : b ≠ 0) (l : List UInt8) (ht : t.data.toList = b :: l) (h : t ++ s = noughts z) : False := by
  have h' := congrArg (fun x : ByteArray => x.data.toList) h
  simp only [ByteArray.data_append, Array.toList_append, ht, noughts] at h'
  cases z with
  | zero => simp at h'
  | succ z =>
    rw [List.replicate_succ] at h'
    simp at h'
    exact hb h'.1
theorem noughts_nohead (ring z : Nat) : ¬ isHead (noughts z) ring := by
  rintro ⟨_, h⟩
  rw [noughts_size, headB_form] at h
  exact starts_noughts z _ _ 87 (by decide) _ rfl h

/-- of a block: what begins a record with that number -/
def begC (n : Nat) : ByteArray := mkC ++ be 8 n
theorem begC_size (n : Nat) : (begC n).size = 12 := by rw [begC, ByteArray.size_append, be_size]; rfl
def Begins (t : ByteArray) (n : Nat) : Prop := t.extract 0 12 = begC n
instance (t : ByteArray) (n : Nat) : Decidable (Begins t n) := inferInstanceAs (Decidable (_ = _))
def Marked (t : ByteArray) : Prop := t.extract 0 2 = mk2
instance (t : ByteArray) : Decidable (Marked t) := inferInstanceAs (Decidable (_ = _))

def recB (n : Nat) (texts : List ByteArray) (z : Nat) : ByteArray := pad (begC n ++ be 4 (crcM (texts.flatMap (fun t => t.data.toList)))) z
theorem recB_size (n : Nat) (texts : List ByteArray) {z : Nat} (hz : 16 ≤ z) : (recB n texts z).size = z := pad_size (by rw [ByteArray.size_append, begC_size, be_size]; omega)

abbrev Wr := Nat × ByteArray
def esc : Nat := 2147483648
def tgt (w : Wr) : Nat := if Marked w.2 then w.1 + esc else w.1
def inRing (t : Nat) (d : ByteArray) : ByteArray := if esc ≤ t then un2 ++ d.extract 2 d.size else d
def tgts (ts : List Nat) : ByteArray := ⟨(ts.flatMap fun t => beL 4 t).toArray⟩
def descT (n : Nat) (ts : List Nat) : ByteArray := mkD ++ be 8 n ++ be 4 ts.length ++ tgts ts
def descB (n : Nat) (ts : List Nat) (z : Nat) : ByteArray := summed (descT n ts) z
theorem tgts_size (ts : List Nat) : (tgts ts).size = 4 * ts.length := by
  show (ts.flatMap fun t => beL 4 t).toArray.size = _
  rw [List.size_toArray]
  induction ts with
  | nil => rfl
  | cons t ts ih => rw [List.flatMap_cons, List.length_append, beL_len, ih, List.length_cons]; omega
theorem descT_size (n : Nat) (ts : List Nat) : (descT n ts).size = 16 + 4 * ts.length := by
  simp only [descT, ByteArray.size_append, be_size, tgts_size, mkD_size]
theorem descB_size (n : Nat) (ts : List Nat) {z : Nat} (h : 20 + 4 * ts.length ≤ z) : (descB n ts z).size = z := summed_size (by rw [descT_size]; omega)

def dataOf (l : List Wr) : List ByteArray := l.map fun w => inRing (tgt w) w.2
/-- the blocks of a transaction in the ring -/
def txn (n : Nat) (l : List Wr) (z : Nat) : List ByteArray := descB n (l.map tgt) z :: dataOf l
def txnC (n : Nat) (l : List Wr) (z : Nat) : ByteArray := recB n (txn n l z) z

/-- the targets that a block tells -/
def countOf (t : ByteArray) : Nat := num (t.extract 12 16)
def tgtAt (t : ByteArray) (i : Nat) : Nat := num (t.extract (16 + 4 * i) (20 + 4 * i))
def targetsOf (t : ByteArray) (n most : Nat) : List Nat :=
  if countOf t ≤ most then
    (if descB n ((List.range (countOf t)).map (tgtAt t)) t.size = t then (List.range (countOf t)).map (tgtAt t) else [])
  else []
def unesc (t : Nat) (d : ByteArray) : Wr := if esc ≤ t then (t - esc, mk2 ++ d.extract 2 d.size) else (t, d)
end Go.Proofs.YtjmjmekmaamclaaDoor.jrn
/-
  Layer 5, plain: steps on a device, one behind the other; what a crash within them may leave. No program.
-/
namespace Go.Proofs.YtjmjmekmaamclaaDoor.jrn
open dev sums
set_option linter.unusedVariables false

inductive Stp where
  | wr (n : Nat) (t : ByteArray)
  | fl
def Stp.does (D : DevM) : Stp → DevM × Int
  | .wr n t => D.write (n : Int) t
  | .fl => D.flush
def runS (D : DevM) : List Stp → DevM × Int
  | [] => (D, 0)
  | s :: l => if (s.does D).2 = 0 then runS (s.does D).1 l else s.does D

abbrev SC := List ByteArray × List Wr
def stepA (σ : SC) : Stp → SC
  | .wr n t => (σ.1, σ.2 ++ [(n, t)])
  | .fl => (flushed σ.2 σ.1, [])
def stepsA (σ : SC) (l : List Stp) : SC := l.foldl stepA σ
theorem stepsA_append (σ : SC) (a b : List Stp) : stepsA σ (a ++ b) = stepsA (stepsA σ a) b := List.foldl_append
def Crash (σ : SC) (S' : List ByteArray) : Prop := ∃ ks torn mask, S' = fallen ks torn mask 0 σ.2 σ.1
def Stp.Ok (nb z : Nat) : Stp → Prop
  | .wr n t => n < nb ∧ t.size = z
  | .fl => True

/-- all of it done -/
structure Went (D : DevM) (l : List Stp) (E : DevM) : Prop where
  sc : (E.safe, E.cache) = stepsA (D.safe, D.cache) l
  up : E.down = false
  nb : E.nb = D.nb
  ns : E.ns = D.ns
  ok : E.Ok
  calls : E.calls = D.calls + l.length
  reads : E.reads = D.reads
  plan : D.plan = none → E.plan = none
  cl : E.cache.length ≤ D.cache.length + l.length
/-- it went down within -/
structure Fell (D : DevM) (l : List Stp) (E : DevM) : Prop where
  had : D.plan ≠ none
  down : E.down = true
  cache : E.cache = []
  plan : E.plan = none
  nb : E.nb = D.nb
  ns : E.ns = D.ns
  ok : E.Ok
  calls : E.calls ≤ D.calls + l.length
  reads : E.reads = D.reads
  left : ∃ l1 l2, l = l1 ++ l2 ∧ Crash (stepsA (D.safe, D.cache) l1) E.safe

theorem counted_plan (D : DevM) (h : D.plan = none) : D.counted = ({ D with calls := D.calls + 1 }, none) := by
  unfold DevM.counted; rw [h]
theorem counted_fell {D E : DevM} {p : Plan} (h : D.counted = (E, some p)) : D.plan ≠ none := by
  intro e; rw [counted_plan D e] at h; cases h
theorem counted_none {D E : DevM} (h : D.counted = (E, none)) (hp : D.plan = none) : E.plan = none := by
  rw [counted_plan D hp] at h; cases h; exact hp
theorem flush_ok' {D : DevM} (a : D.Ok) : ({ D with safe := flushed D.cache D.safe, cache := [] } : DevM).Ok :=
  ⟨a.nb0, a.nb1, a.ns0, a.ns1, by show (flushed _ _).length = _; rw [flushed_len]; exact a.safe, flushed_sz _ _ a.ssz fun x hx => (a.csz x hx).2, fun x hx => (by cases hx), a.plan⟩

theorem step_cases (D : DevM) (s : Stp) (hup : D.down = false) (hs : s.Ok D.nb (512 * D.ns)) (a : D.Ok) :
    ((s.does D).2 = 0 ∧ Went D [s] (s.does D).1) ∨ ((s.does D).2 = 8 ∧ Fell D [s] (s.does D).1) := by
  obtain ⟨q1, q2, q3, q4, q5, q6, q7⟩ := counted_same D
  have hco := a.counted
  cases s with
  | wr n t =>
    obtain ⟨hn, ht⟩ := hs
    have hb : isBlock D (n : Int) ∧ t.size = 512 * D.ns := ⟨⟨by omega, by omega⟩, ht⟩
    show ((D.write (n : Int) t).2 = 0 ∧ Went D [.wr n t] (D.write (n : Int) t).1) ∨ ((D.write (n : Int) t).2 = 8 ∧ Fell D [.wr n t] (D.write (n : Int) t).1)
    unfold DevM.write
    rw [if_neg (by rw [hup]; decide), if_pos hb]
    cases hc : D.counted with
    | mk E o =>
      rw [hc] at q1 q2 q3 q4 q5 q6 q7 hco
      have q1 : E.nb = D.nb := q1
      have q2 : E.ns = D.ns := q2
      have hco : E.Ok := hco
      have q4 : E.cache = D.cache := q4
      have hpk : ({ E with cache := D.cache ++ [(n, t)] } : DevM).Ok := by
        have := hco.push (n := n) (d := t) (by rw [q1]; exact hn) (by rw [q2]; exact ht)
        rwa [q4] at this
      cases o with
      | none =>
        refine .inl ⟨rfl, ⟨?_, ?_, q1, q2, hpk, ?_, q7, fun hp => (show E.plan = none from counted_none hc hp), ?_⟩⟩
        · show (E.safe, D.cache ++ [((n : Int).toNat, t)]) = (D.safe, D.cache ++ [(n, t)])
          rw [show E.safe = D.safe from q3]
          rfl
        · exact q5.trans hup
        · exact q6
        · show (D.cache ++ [_]).length ≤ _; simp
      | some p =>
        refine .inr ⟨rfl, ⟨counted_fell hc, rfl, rfl, rfl, q1, q2, hpk.fall _ _ _, ?_, q7, ⟨[.wr n t], [], rfl, p.keep, p.torn, p.mask, ?_⟩⟩⟩
        · show E.calls ≤ _
          rw [show E.calls = D.calls + 1 from q6]; simp
        · show fallen p.keep p.torn p.mask 0 (D.cache ++ [((n : Int).toNat, t)]) E.safe = fallen p.keep p.torn p.mask 0 (D.cache ++ [(n, t)]) D.safe
          rw [show E.safe = D.safe from q3]
          rfl
  | fl =>
    show ((D.flush).2 = 0 ∧ Went D [.fl] (D.flush).1) ∨ ((D.flush).2 = 8 ∧ Fell D [.fl] (D.flush).1)
    unfold DevM.flush
    rw [if_neg (by rw [hup]; decide)]
    cases hc : D.counted with
    | mk E o =>
      rw [hc] at q1 q2 q3 q4 q5 q6 q7 hco
      have q1 : E.nb = D.nb := q1
      have q2 : E.ns = D.ns := q2
      have hco : E.Ok := hco
      have q3 : E.safe = D.safe := q3
      have q4 : E.cache = D.cache := q4
      cases o with
      | none =>
        refine .inl ⟨rfl, ⟨?_, ?_, q1, q2, ?_, ?_, q7, fun hp => (show E.plan = none from counted_none hc hp), ?_⟩⟩
        · rfl
        · exact q5.trans hup
        · have := flush_ok' hco
          rw [q3, q4] at this
          exact this
        · exact q6
        · show 0 ≤ _; omega
      | some p =>
        refine .inr ⟨rfl, ⟨counted_fell hc, rfl, rfl, rfl, q1, q2, hco.fall _ _ _, ?_, q7, ⟨[], [.fl], rfl, p.keep, p.torn, p.mask, ?_⟩⟩⟩
        · show E.calls ≤ _
          rw [show E.calls = D.calls + 1 from q6]; simp
        · show fallen p.keep p.torn p.mask 0 E.cache E.safe = fallen p.keep p.torn p.mask 0 D.cache D.safe
          rw [q3, q4]

/-- some steps: all done, or it went down within -/
theorem run_cases (l : List Stp) : ∀ (D : DevM), D.down = false → (∀ s ∈ l, s.Ok D.nb (512 * D.ns)) → D.Ok →
    ((runS D l).2 = 0 ∧ Went D l (runS D l).1) ∨ ((runS D l).2 = 8 ∧ Fell D l (runS D l).1) := by
  induction l with
  | nil => intro D hup _ a; exact .inl ⟨rfl, rfl, hup, rfl, rfl, a, rfl, rfl, fun h => h, Nat.le_refl _⟩
  | cons s l ih =>
    intro D hup hl a
    rcases step_cases D s hup (hl s List.mem_cons_self) a with ⟨h0, w⟩ | ⟨h8, f⟩
    · have e : runS D (s :: l) = runS (s.does D).1 l := by show (if (s.does D).2 = 0 then _ else _) = _; rw [if_pos h0]
      rw [e]
      have hsc := w.sc
      rcases ih (s.does D).1 w.up (by rw [w.nb, w.ns]; exact fun x hx => hl x (List.mem_cons_of_mem _ hx)) w.ok with ⟨k0, v⟩ | ⟨k8, v⟩
      · refine .inl ⟨k0, ⟨?_, v.up, v.nb.trans w.nb, v.ns.trans w.ns, v.ok, ?_, v.reads.trans w.reads, fun hp => v.plan (w.plan hp), ?_⟩⟩
        · rw [v.sc, w.sc]; rfl
        · rw [v.calls, w.calls, List.length_cons]; simp; omega
        · have := v.cl; have := w.cl; simp at *; omega
      · obtain ⟨l1, l2, e1, e2⟩ := v.left
        refine .inr ⟨k8, ⟨fun hp => v.had (w.plan hp), v.down, v.cache, v.plan, v.nb.trans w.nb, v.ns.trans w.ns, v.ok, ?_, v.reads.trans w.reads, ⟨s :: l1, l2, by rw [e1]; rfl, ?_⟩⟩⟩
        · have := v.calls; have := w.calls; simp at *; omega
        · rw [w.sc] at e2; exact e2
    · have e : runS D (s :: l) = s.does D := by show (if (s.does D).2 = 0 then _ else _) = _; rw [if_neg (by rw [h8]; decide)]
      rw [e]
      obtain ⟨l1, l2, e1, e2⟩ := f.left
      refine .inr ⟨h8, ⟨f.had, f.down, f.cache, f.plan, f.nb, f.ns, f.ok, ?_, f.reads, ⟨l1, l2 ++ l, by rw [← List.append_assoc, ← e1]; rfl, e2⟩⟩⟩
      have := f.calls; simp at *; omega

/-! what a crash leaves -/
theorem look_append (a b : List Wr) (n : Nat) (s : ByteArray) : dev.look (a ++ b) n s = dev.look b n (dev.look a n s) := List.foldl_append
theorem look_none {c : List Wr} {n : Nat} (h : ∀ x ∈ c, x.1 ≠ n) (s : ByteArray) : dev.look c n s = s := by
  induction c generalizing s with
  | nil => rfl
  | cons x c ih =>
    show dev.look c n (if x.1 = n then x.2 else s) = s
    rw [if_neg (h x List.mem_cons_self)]
    exact ih (fun y hy => h y (List.mem_cons_of_mem _ hy)) s
theorem look_indep {c : List Wr} {n : Nat} (h : ∃ x ∈ c, x.1 = n) (s s' : ByteArray) : dev.look c n s = dev.look c n s' := by
  induction c generalizing s s' with
  | nil => obtain ⟨x, hx, _⟩ := h; cases hx
  | cons x c ih =>
    show dev.look c n (if x.1 = n then x.2 else s) = dev.look c n (if x.1 = n then x.2 else s')
    by_cases e : x.1 = n
    · rw [if_pos e, if_pos e]
    · rw [if_neg e, if_neg e]
      obtain ⟨y, hy, hn⟩ := h
      rcases List.mem_cons.1 hy with rfl | hy
      · exact absurd hn e
      · exact ih ⟨y, hy, hn⟩ s s'

def Szd (nb ns : Nat) (S : List ByteArray) : Prop := S.length = nb ∧ ∀ y ∈ S, y.size = 512 * ns
structure Left (nb ns : Nat) (S : List ByteArray) (C : List Wr) (S' : List ByteArray) : Prop where
  sz : Szd nb ns S'
  un : ∀ n, (∀ x ∈ C, x.1 ≠ n) → S'.getD n empty = S.getD n empty
  sect : ∀ n k, n < nb → k < ns → seg (S'.getD n empty) k = seg (S.getD n empty) k ∨ ∃ x ∈ C, x.1 = n ∧ seg (S'.getD n empty) k = seg x.2 k
theorem crash_left {nb ns : Nat} {S : List ByteArray} {C : List Wr} {S' : List ByteArray} (a : Szd nb ns S) (hc : ∀ x ∈ C, x.1 < nb ∧ x.2.size = 512 * ns) (h : Crash (S, C) S') : Left nb ns S C S' := by
  obtain ⟨ks, torn, mask, rfl⟩ := h
  refine ⟨⟨by rw [fallen_len]; exact a.1, fallen_sz C 0 S a.2 fun x hx => by rw [a.1]; exact hc x hx⟩, fun n hn => fallen_untouched ks torn mask n C 0 S hn, ?_⟩
  have := sects_fallen (C := C) (s0 := S) (ks := ks) (torn := torn) (mask := mask) (ns := ns) C 0 S (fun x hx => ⟨hx, by rw [a.1]; exact (hc x hx).1, (hc x hx).2⟩) (fun n k _ _ => .inl rfl) rfl a.2
  intro n k hn hk
  exact this n k (by rw [a.1]; exact hn) hk
/-- all of it flushed is one of the things that a crash may leave -/
theorem crash_all (S : List ByteArray) (C : List Wr) : Crash (S, C) (flushed C S) :=
  ⟨(List.range C.length).map (fun (i : Nat) => (i : Int)), -1, 0, (fallen_every _ 0 C 0 S fun j hj => by
    rw [Nat.zero_add, List.mem_map]
    exact ⟨j, List.mem_range.2 hj, rfl⟩).symm⟩
theorem crash_nil (S S' : List ByteArray) (h : Crash (S, []) S') : S' = S := by
  obtain ⟨_, _, _, h⟩ := h; exact h
theorem flushed_get {S : List ByteArray} {C : List Wr} {n : Nat} (h : n < S.length) : (flushed C S).getD n empty = dev.look C n (S.getD n empty) := (look_flushed C S n h).symm

theorem seg_ext {a b : ByteArray} {ns : Nat} (ha : a.size = 512 * ns) (hb : b.size = 512 * ns) (h : ∀ k, k < ns → seg a k = seg b k) : a = b := by
  apply ba_ext
  apply List.ext_getElem?
  intro i
  by_cases hi : i < 512 * ns
  · have := congrArg (fun x : ByteArray => x.data.toList[i % 512]?) (h (i / 512) (by omega))
    simp only [seg_data] at this
    rw [List.getElem?_take_of_lt (Nat.mod_lt _ (by decide)), List.getElem?_take_of_lt (Nat.mod_lt _ (by decide)), List.getElem?_drop, List.getElem?_drop, show 512 * (i / 512) + i % 512 = i from by omega] at this
    exact this
  · rw [List.getElem?_eq_none (by rw [data_len]; omega), List.getElem?_eq_none (by rw [data_len]; omega)]
/-- a text whose bytes behind the first sector are 0: by its first sector -/
theorem pad_seg (t : ByteArray) (ns k : Nat) (ht : t.size ≤ 512) (hk : 1 ≤ k) (hk2 : k < ns) : seg (pad t (512 * ns)) k = noughts 512 := by
  apply ba_ext
  have hl := data_len t
  rw [seg_data]
  unfold pad noughts
  rw [app_data]
  show ((t.data.toList ++ (List.replicate (512 * ns - t.size) (0 : UInt8))).drop (512 * k)).take 512 = List.replicate 512 (0 : UInt8)
  rw [List.drop_append, List.drop_of_length_le (by omega), List.nil_append, List.drop_replicate, List.take_replicate]
  congr 1
  have : 512 * (k + 1) ≤ 512 * ns := Nat.mul_le_mul_left 512 hk2
  omega
theorem seg0_size (a : ByteArray) (h : 512 ≤ a.size) : (seg a 0).size = 512 := by
  unfold seg
  rw [ByteArray.size_extract]; omega
theorem ext_ext (a : ByteArray) (i j : Nat) (h : j ≤ 512) : (seg a 0).extract i j = a.extract i j := by
  apply ba_ext
  rw [ext_data, seg_data, ext_data, Nat.mul_zero, List.drop_zero, List.drop_take, List.take_take, Nat.min_eq_left (by omega)]
theorem begins_seg (a : ByteArray) (m : Nat) : Begins (seg a 0) m ↔ Begins a m := by unfold Begins; rw [ext_ext _ _ _ (by decide)]
end Go.Proofs.YtjmjmekmaamclaaDoor.jrn
/-
  Layer 5, plain: the ring, and what stands in it durably. No program.
-/
namespace Go.Proofs.YtjmjmekmaamclaaDoor.jrn
open dev sums
set_option linter.unusedVariables false

structure Rg where
  st : Nat
  ln : Nat
  nb : Nat
  ns : Nat
structure Rg.Ok (R : Rg) : Prop where
  six : 6 ≤ R.ln
  fit : R.st + R.ln ≤ R.nb
  nb : R.nb ≤ 4096
  ns0 : 1 ≤ R.ns
  ns1 : R.ns ≤ 8
  few : R.ln ≤ 100
def Rg.ring (R : Rg) : Nat := R.ln - 2
def Rg.z (R : Rg) : Nat := 512 * R.ns
def Rg.inR (R : Rg) (n : Nat) : Prop := R.st ≤ n ∧ n < R.st + R.ln
instance (R : Rg) (n : Nat) : Decidable (R.inR n) := inferInstanceAs (Decidable (_ ∧ _))
def Rg.place (R : Rg) (p : Nat) : Nat := R.st + 2 + p % R.ring

/-- the block at a place of the ring -/
def pl (R : Rg) (S : List ByteArray) (p : Nat) : ByteArray := S.getD (R.place p) empty
structure ValidW (R : Rg) (l : List Wr) : Prop where
  ne : l ≠ []
  few : l.length + 4 ≤ R.ln
  each : ∀ w ∈ l, w.1 < R.nb ∧ ¬ R.inR w.1 ∧ w.2.size = R.z
  nodup : (l.map Prod.fst).Nodup
structure Laid (R : Rg) (S : List ByteArray) (p n : Nat) (l : List Wr) : Prop where
  txt : ∀ i (hi : i < (txn n l R.z).length), pl R S (p + i) = (txn n l R.z)[i]
  rec' : seg (pl R S (p + 1 + l.length)) 0 = seg (txnC n l R.z) 0
def LogAt (R : Rg) (S : List ByteArray) : Nat → Nat → List (List Wr) → Prop
  | _, _, [] => True
  | p, n, l :: L => ValidW R l ∧ Laid R S p n l ∧ LogAt R S (p + (l.length + 2)) (n + 1) L
def total : List (List Wr) → Nat
  | [] => 0
  | l :: L => l.length + 2 + total L
theorem total_snoc (L : List (List Wr)) (l : List Wr) : total (L ++ [l]) = total L + (l.length + 2) := by
  induction L with
  | nil => simp [total]
  | cons x L ih => rw [List.cons_append, total, total, ih]; omega
theorem txn_len (n : Nat) (l : List Wr) (z : Nat) : (txn n l z).length = l.length + 1 := by simp [txn, dataOf]

/-- no block of the ring begins a record with a number from N on -/
def Fresh (R : Rg) (S : List ByteArray) (N : Nat) : Prop := ∀ p m, N ≤ m → m < 18446744073709551616 → ¬ Begins (seg (pl R S p) 0) m

section
variable {R : Rg} (a : R.Ok)
include a
theorem ring_pos : 0 < R.ring := by have := a.six; unfold Rg.ring; omega
theorem place_in (p : Nat) : R.st + 2 ≤ R.place p ∧ R.place p < R.st + R.ln := by
  have h := Nat.mod_lt p (ring_pos a)
  have := a.six
  unfold Rg.place
  unfold Rg.ring at h ⊢
  omega
theorem place_inR (p : Nat) : R.inR (R.place p) := by have := place_in a p; unfold Rg.inR; omega
theorem place_lt (p : Nat) : R.place p < R.nb := by have := place_in a p; have := a.fit; omega
/-- places less than a ring apart are not one -/
theorem place_ne {p q : Nat} (h1 : p < q) (h2 : q < p + R.ring) : R.place p ≠ R.place q := by
  have hr := ring_pos a
  unfold Rg.place
  intro h
  have h' : p % R.ring = q % R.ring := by omega
  have := Nat.sub_mod_eq_zero_of_mod_eq h'.symm
  rw [Nat.mod_eq_of_lt (show q - p < R.ring by omega)] at this
  omega
theorem place_ne' {p q : Nat} (h : p ≠ q) (h1 : q < p + R.ring) (h2 : p < q + R.ring) : R.place p ≠ R.place q := by
  rcases Nat.lt_or_gt_of_ne h with k | k
  · exact place_ne a k h1
  · exact fun e => place_ne a k h2 e.symm
omit a in
theorem place_mod (p q : Nat) : R.place (p % R.ring + q) = R.place (p + q) := by
  unfold Rg.place
  rw [Nat.mod_add_mod]
end

theorem logAt_valid {R : Rg} {S : List ByteArray} : ∀ {L : List (List Wr)} {p n : Nat}, LogAt R S p n L → ∀ l ∈ L, ValidW R l
  | [], _, _, _, l, hl => by cases hl
  | x :: L, p, n, ⟨h1, _, h3⟩, l, hl => by
    rcases List.mem_cons.1 hl with rfl | hl
    · exact h1
    · exact logAt_valid h3 l hl
theorem logAt_each {R : Rg} {S : List ByteArray} {L : List (List Wr)} {p n : Nat} (h : LogAt R S p n L) : ∀ w ∈ L.flatten, w.1 < R.nb ∧ ¬ R.inR w.1 ∧ w.2.size = R.z := by
  intro w hw
  obtain ⟨l, hl, hw⟩ := List.mem_flatten.1 hw
  exact (logAt_valid h l hl).each w hw
theorem laid_congr {R : Rg} {S S' : List ByteArray} {p n : Nat} {l : List Wr} (h : Laid R S p n l) (k : ∀ q, p ≤ q → q < p + (l.length + 2) → pl R S' q = pl R S q) : Laid R S' p n l := by
  refine ⟨fun i hi => ?_, ?_⟩
  · have := txn_len n l R.z
    rw [k _ (by omega) (by omega)]; exact h.txt i hi
  · rw [k _ (by omega) (by omega)]; exact h.rec'
theorem logAt_congr {R : Rg} {S S' : List ByteArray} : ∀ {L : List (List Wr)} {p n : Nat}, LogAt R S p n L → (∀ q, p ≤ q → q < p + total L → pl R S' q = pl R S q) → LogAt R S' p n L
  | [], _, _, _, _ => trivial
  | x :: L, p, n, ⟨h1, h2, h3⟩, k => by
    rw [total] at k
    exact ⟨h1, laid_congr h2 fun q h h' => k q h (by omega), logAt_congr h3 fun q h h' => k q (by omega) (by omega)⟩
theorem logAt_snoc {R : Rg} {S : List ByteArray} {l : List Wr} : ∀ {L : List (List Wr)} {p n : Nat}, LogAt R S p n L → ValidW R l → Laid R S (p + total L) (n + L.length) l → LogAt R S p n (L ++ [l])
  | [], p, n, _, h1, h2 => ⟨h1, h2, trivial⟩
  | x :: L, p, n, ⟨h1, h2, h3⟩, k1, k2 => by
    rw [total] at k2
    refine ⟨h1, h2, logAt_snoc h3 k1 ?_⟩
    rw [List.length_cons] at k2
    rw [show p + (x.length + 2) + total L = p + (x.length + 2 + total L) from by omega, show n + 1 + L.length = n + (L.length + 1) from by omega]
    exact k2

/-- what stands on a device of whose region h is the head, in block at' of the two; L the transactions in the ring; behind them the other blocks are as in was -/
structure Dur (R : Rg) (S : List ByteArray) (h : Hd) (at' : Nat) (L : List (List Wr)) (was : List ByteArray) : Prop where
  sz : Szd R.nb R.ns S
  hok : h.Ok R.ring
  at1 : at' ≤ 1
  slot : S.getD (R.st + at') empty = headB h R.z
  other : S.getD (R.st + (1 - at')) empty = noughts R.z ∨ ∃ h' : Hd, h'.Ok R.ring ∧ h'.own < h.own ∧ S.getD (R.st + (1 - at')) empty = headB h' R.z
  log : LogAt R S h.tail h.num L
  tot : total L ≤ R.ring
  fresh : Fresh R S (h.num + L.length)
  out : ∀ n, n < R.nb → ¬ R.inR n → dev.look L.flatten n (S.getD n empty) = was.getD n empty

structure JSt where
  h : Hd
  at' : Nat
  used : Nat
  num : Nat
/-- a journal's device, between calls -/
structure Quiet (R : Rg) (σ : SC) (s : JSt) (L : List (List Wr)) (was : List ByteArray) : Prop where
  dur : Dur R σ.1 s.h s.at' L was
  used : s.used = total L
  num : s.num = s.h.num + L.length
  cache : ∀ x ∈ σ.2, x ∈ L.flatten
  view : ∀ n, n < R.nb → ¬ R.inR n → dev.look σ.2 n (σ.1.getD n empty) = was.getD n empty

theorem begC_inj {n m : Nat} (hn : n < 18446744073709551616) (hm : m < 18446744073709551616) (h : begC n = begC m) : n = m :=
  be_inj (w := 8) (by omega) (by omega) (ba_append_inj h rfl).2
theorem rec_begins (n : Nat) (ts : List ByteArray) (z : Nat) : (recB n ts z).extract 0 12 = begC n := by
  unfold recB pad
  rw [ByteArray.append_assoc]
  have := ba_take (begC n) (be 4 (crcM (ts.flatMap fun t => t.data.toList)) ++ noughts (z - (begC n ++ be 4 (crcM (ts.flatMap fun t => t.data.toList))).size))
  rwa [begC_size] at this
/-- what begins with other bytes is no record -/
theorem not_begins {t : ByteArray} {b c d e : UInt8} {l : List UInt8} (ht : t.data.toList = b :: c :: d :: e :: l) (h : ¬ (b = 87 ∧ c = 74 ∧ d = 67)) (m : Nat) : ¬ Begins t m := by
  intro hb
  have h' := congrArg (fun x : ByteArray => x.data.toList) hb
  simp only [ext_data, ht, begC, app_data] at h'
  have e1 : mkC.data.toList = [87, 74, 67, 49] := rfl
  rw [e1] at h'
  simp only [List.drop_zero, Nat.sub_zero, List.take_succ_cons, List.cons_append, List.cons.injEq] at h'
  exact h ⟨h'.1, h'.2.1, h'.2.2.1⟩
theorem noughts_begins (z m : Nat) (hz : 4 ≤ z) : ¬ Begins (noughts z) m := by
  obtain ⟨k, rfl⟩ : ∃ k, z = k + 4 := ⟨z - 4, by omega⟩
  exact not_begins (t := noughts (k + 4)) (b := 0) (c := 0) (d := 0) (e := 0) (l := List.replicate k 0) rfl (by decide) m
theorem desc_begins (n : Nat) (ts : List Nat) (z m : Nat) : ¬ Begins (descB n ts z) m := by
  have e : ∃ l, (descB n ts z).data.toList = 87 :: 74 :: 68 :: 49 :: l := by
    unfold descB summed pad descT
    simp only [ByteArray.append_assoc]
    rw [app_data]
    exact ⟨_, rfl⟩
  obtain ⟨l, e⟩ := e
  exact not_begins e (by decide) m
theorem data_begins (w : Wr) (hs : 4 ≤ w.2.size) (m : Nat) : ¬ Begins (inRing (tgt w) w.2) m := by
  unfold tgt
  by_cases h : Marked w.2
  · rw [if_pos h]
    unfold inRing
    rw [if_pos (by omega)]
    have hl := data_len w.2
    obtain ⟨x, y, l, e⟩ : ∃ x y l, (w.2.extract 2 w.2.size).data.toList = x :: y :: l := by
      rw [ext_data]
      match hh : w.2.data.toList, (by omega : 4 ≤ w.2.data.toList.length) with
      | a :: b :: c :: d :: l, _ =>
        rw [hh] at hl
        simp only [List.length_cons] at hl
        refine ⟨c, d, l.take (w.2.size - 4), ?_⟩
        rw [show w.2.size - 2 = w.2.size - 4 + 1 + 1 from by omega]
        rfl
    exact not_begins (b := 0) (c := 0) (d := x) (e := y) (l := l) (by rw [app_data, e]; rfl) (fun q => absurd q.1 (by decide)) m
  · rw [if_neg h]
    unfold inRing
    by_cases h2 : esc ≤ w.1
    · rw [if_pos h2]
      intro hb
      have h' := congrArg (fun x : ByteArray => x.data.toList) hb
      simp only [ext_data, begC, app_data] at h'
      have e1 : mkC.data.toList = [87, 74, 67, 49] := rfl
      have e2 : un2.data.toList = [0, 0] := rfl
      rw [e1, e2] at h'
      simp only [List.drop_zero, Nat.sub_zero, List.take_succ_cons, List.cons_append, List.cons.injEq] at h'
      exact absurd h'.1 (by decide)
    · rw [if_neg h2]
      intro hb
      apply h
      unfold Marked
      have h' := congrArg (fun x : ByteArray => x.extract 0 2) hb
      have e : (w.2.extract 0 12).extract 0 2 = w.2.extract 0 2 := by
        apply ba_ext
        rw [ext_data, ext_data, ext_data, List.drop_zero, List.drop_zero, List.take_take]
        rfl
      simp only [e] at h'
      rw [h']
      apply ba_ext
      rw [ext_data, begC, app_data]
      rfl
/-- no block of a transaction but its record is a record -/
theorem txn_begins {R : Rg} (a : R.Ok) (n : Nat) (l : List Wr) (hl : ∀ w ∈ l, w.2.size = R.z) (m : Nat) : ∀ t ∈ txn n l R.z, ¬ Begins t m := by
  intro t ht
  rcases List.mem_cons.1 ht with rfl | ht
  · exact desc_begins _ _ _ _
  · obtain ⟨w, hw, rfl⟩ := List.mem_map.1 ht
    have := a.ns0
    exact data_begins w (by rw [hl w hw]; unfold Rg.z; omega) m
theorem tgt_lt {R : Rg} (a : R.Ok) {w : Wr} (h : w.1 < R.nb) : tgt w < 4294967296 := by
  have := a.nb
  unfold tgt esc
  split <;> omega
theorem txn_size {R : Rg} (a : R.Ok) (n : Nat) {l : List Wr} (v : ValidW R l) : ∀ t ∈ txn n l R.z, t.size = R.z := by
  have h1 := a.few
  have h2 := a.ns0
  have h3 := v.few
  intro t ht
  rcases List.mem_cons.1 ht with rfl | ht
  · exact descB_size _ _ (by rw [List.length_map]; unfold Rg.z; omega)
  · obtain ⟨w, hw, rfl⟩ := List.mem_map.1 ht
    have hz := (v.each w hw).2.2
    unfold inRing
    split
    · rw [ByteArray.size_append, ByteArray.size_extract, hz]
      have : un2.size = 2 := rfl
      unfold Rg.z at *
      omega
    · exact hz

theorem head_pad (h : Hd) (z : Nat) : ∃ t : ByteArray, t.size = 28 ∧ headB h z = pad t z := ⟨headT h ++ be 4 (crcB (headT h)), by rw [ByteArray.size_append, headT_size, be_size], rfl⟩
theorem noughts_pad (z : Nat) : noughts z = pad ⟨#[]⟩ z := by
  unfold pad
  show noughts z = empty ++ noughts z
  apply ba_ext
  rw [app_data]
  rfl
end Go.Proofs.YtjmjmekmaamclaaDoor.jrn
/-
  Layer 5, plain: what a crash leaves of what stands durably. No program.
-/
namespace Go.Proofs.YtjmjmekmaamclaaDoor.jrn
open dev sums
set_option linter.unusedVariables false

section
variable {R : Rg} {S S' : List ByteArray} {h : Hd} {at' : Nat} {L : List (List Wr)} {was : List ByteArray} {C : List Wr}

theorem place_slot (a : R.Ok) (p i : Nat) (hi : i ≤ 1) : R.place p ≠ R.st + i := by have := place_in a p; omega
theorem slot_inR (a : R.Ok) {i : Nat} (hi : i ≤ 1) : R.inR (R.st + i) := by have := a.six; unfold Rg.inR; omega

/-- writes of the transactions in the ring, and into places that are not used, that are no records: whatever of them a crash keeps, what stood there stands -/
theorem dur_crash (a : R.Ok) (d : Dur R S h at' L was) (hC : ∀ x ∈ C, x ∈ L.flatten ∨ ∃ q, x.1 = R.place q ∧ h.tail + total L ≤ q ∧ q < h.tail + R.ring ∧ x.2.size = R.z ∧ ∀ m, h.num + L.length ≤ m → ¬ Begins x.2 m) (k : Crash (S, C) S') : Dur R S' h at' L was := by
  have he := logAt_each d.log
  have hv : ∀ x ∈ C, x.1 < R.nb ∧ x.2.size = 512 * R.ns := fun x hx => by
    rcases hC x hx with q | ⟨q, e, _, _, e2, _⟩
    · exact ⟨(he x q).1, (he x q).2.2⟩
    · exact ⟨by rw [e]; exact place_lt a q, e2⟩
  have lf := crash_left d.sz hv k
  have hslot : ∀ i, i ≤ 1 → S'.getD (R.st + i) empty = S.getD (R.st + i) empty := fun i hi => lf.un _ fun x hx e => by
    rcases hC x hx with q | ⟨q, e', _⟩
    · exact (he x q).2.1 (by rw [e]; exact slot_inR a hi)
    · exact place_slot a q i hi (e'.symm.trans e)
  refine ⟨lf.sz, d.hok, d.at1, by rw [hslot _ d.at1]; exact d.slot, by rw [hslot _ (by omega)]; exact d.other, logAt_congr d.log fun q h1 h2 => ?_, d.tot, fun p m h1 h2 => ?_, fun n h1 h2 => ?_⟩
  · refine lf.un _ fun x hx e => ?_
    rcases hC x hx with r | ⟨r, e', r1, r2, _⟩
    · exact (he x r).2.1 (by rw [e]; exact place_inR a q)
    · exact place_ne a (p := q) (q := r) (by omega) (by omega) (e.symm.trans e')
  · have hp := place_lt a p
    rcases lf.sect (R.place p) 0 hp (by have := a.ns0; omega) with e | ⟨x, hx, e1, e2⟩
    · unfold pl; rw [e]; exact d.fresh p m h1 h2
    · unfold pl; rw [e2, begins_seg]
      rcases hC x hx with r | ⟨r, _, _, _, _, r3⟩
      · exact absurd (place_inR a p) (by rw [← e1]; exact (he x r).2.1)
      · exact r3 m h1
  · rw [← d.out n h1 h2]
    by_cases c : ∃ x ∈ L.flatten, x.1 = n
    · exact look_indep c _ _
    · rw [lf.un n fun x hx e => ?_]
      rcases hC x hx with r | ⟨r, e', _⟩
      · exact c ⟨x, r, e⟩
      · exact h2 (by rw [← e, e']; exact place_inR a r)

theorem seg_mixed (a : R.Ok) {b b' c : ByteArray} (hb : ∃ t : ByteArray, t.size ≤ 512 ∧ b = pad t R.z) (hb' : ∃ t : ByteArray, t.size ≤ 512 ∧ b' = pad t R.z) (hc : c.size = R.z) (k : ∀ i, i < R.ns → seg c i = seg b i ∨ seg c i = seg b' i) : c = b ∨ c = b' := by
  obtain ⟨t, ht, rfl⟩ := hb
  obtain ⟨t', ht', rfl⟩ := hb'
  have h0 := a.ns0
  have hz : 512 ≤ R.z := by unfold Rg.z; omega
  rcases k 0 (by omega) with e | e
  · refine .inl (seg_ext (ns := R.ns) hc (pad_size (by omega)) fun i hi => ?_)
    by_cases c0 : i = 0
    · subst c0; exact e
    · rcases k i hi with e2 | e2
      · exact e2
      · rw [e2]; unfold Rg.z; rw [pad_seg t' R.ns i ht' (by omega) hi, pad_seg t R.ns i ht (by omega) hi]
  · refine .inr (seg_ext (ns := R.ns) hc (pad_size (by omega)) fun i hi => ?_)
    by_cases c0 : i = 0
    · subst c0; exact e
    · rcases k i hi with e2 | e2
      · rw [e2]; unfold Rg.z; rw [pad_seg t R.ns i ht (by omega) hi, pad_seg t' R.ns i ht' (by omega) hi]
      · exact e2

/-- what is safe is all: the other head block is written: the old head stands, or the new one, with an empty ring -/
theorem dur_head (a : R.Ok) (d : Dur R S h at' L was) (hv : ∀ n, n < R.nb → ¬ R.inR n → S.getD n empty = was.getD n empty) (hown : h.own + 1 < 18446744073709551616) (hnum : h.num + L.length < 18446744073709551616) (tl : Nat) (htl : tl < R.ring)
    (k : Crash (S, [(R.st + (1 - at'), headB ⟨h.own + 1, tl, h.num + L.length⟩ R.z)]) S') : Dur R S' h at' L was ∨ Dur R S' ⟨h.own + 1, tl, h.num + L.length⟩ (1 - at') [] was := by
  have h0 := a.ns0
  have hz : 512 ≤ R.z := by unfold Rg.z; omega
  have hin : R.st + (1 - at') < R.nb := by have := a.six; have := a.fit; omega
  have lf := crash_left d.sz (fun x hx => by
    rw [List.mem_singleton.1 hx]
    exact ⟨hin, headB_size _ (by omega)⟩) k
  have hok' : Hd.Ok ⟨h.own + 1, tl, h.num + L.length⟩ R.ring := ⟨hown, htl, hnum⟩
  have hun : ∀ n, n ≠ R.st + (1 - at') → S'.getD n empty = S.getD n empty := fun n hn => lf.un n fun x hx e => hn (by rw [← e, List.mem_singleton.1 hx])
  have hsz : (S'.getD (R.st + (1 - at')) empty).size = R.z := lf.sz.2 _ (getD_mem (by rw [lf.sz.1]; exact hin))
  have hpl : ∀ p, pl R S' p = pl R S p := fun p => hun _ (place_slot a p _ (by omega))
  have hone := d.at1
  have hcase : S'.getD (R.st + (1 - at')) empty = S.getD (R.st + (1 - at')) empty ∨ S'.getD (R.st + (1 - at')) empty = headB ⟨h.own + 1, tl, h.num + L.length⟩ R.z := by
    refine seg_mixed a ?_ ?_ hsz fun i hi => ?_
    · rcases d.other with e | ⟨h', _, _, e⟩
      · rw [e]; exact ⟨⟨#[]⟩, by decide, noughts_pad _⟩
      · rw [e]; obtain ⟨t, t1, t2⟩ := head_pad h' R.z; exact ⟨t, by omega, t2⟩
    · obtain ⟨t, t1, t2⟩ := head_pad ⟨h.own + 1, tl, h.num + L.length⟩ R.z; exact ⟨t, by omega, t2⟩
    · rcases lf.sect (R.st + (1 - at')) i hin hi with e | ⟨x, hx, _, e⟩
      · exact .inl e
      · rw [List.mem_singleton.1 hx] at e; exact .inr e
  rcases hcase with e | e
  · left
    have hall : ∀ n, S'.getD n empty = S.getD n empty := fun n => by
      by_cases c : n = R.st + (1 - at')
      · rw [c]; exact e
      · exact hun n c
    refine ⟨lf.sz, d.hok, d.at1, by rw [hall]; exact d.slot, by rw [hall]; exact d.other, logAt_congr d.log fun q _ _ => hall _, d.tot, fun p m h1 h2 => by rw [hpl]; exact d.fresh p m h1 h2, fun n h1 h2 => by rw [hall]; exact d.out n h1 h2⟩
  · right
    refine ⟨lf.sz, hok', by omega, e, .inr ⟨h, d.hok, by show h.own < h.own + 1; omega, ?_⟩, trivial, by show 0 ≤ _; omega, fun p m h1 h2 => by rw [hpl]; exact d.fresh p m (by simpa using h1) h2, fun n h1 h2 => ?_⟩
    · rw [show 1 - (1 - at') = at' from by omega, hun _ (by omega)]; exact d.slot
    · show S'.getD n empty = _
      rw [hun n fun c => h2 (by rw [c]; exact slot_inR a (by omega))]
      exact hv n h1 h2

def app (l : List Wr) (was : List ByteArray) : List ByteArray := flushed l was
theorem app_get {l : List Wr} {was : List ByteArray} {n : Nat} (hn : n < was.length) : (app l was).getD n empty = dev.look l n (was.getD n empty) := flushed_get hn

/-- what is safe is all, and a transaction stands behind what is used but for its record, which is written: it is there, or not -/
theorem dur_record (a : R.Ok) (d : Dur R S h at' L was) (hw : was.length = R.nb) (hv : ∀ n, n < R.nb → ¬ R.inR n → S.getD n empty = was.getD n empty) {l : List Wr} (v : ValidW R l) (htot : total L + (l.length + 2) ≤ R.ring) (hnum : h.num + L.length + 1 < 18446744073709551616)
    (ht : ∀ i (hi : i < (txn (h.num + L.length) l R.z).length), pl R S (h.tail + total L + i) = (txn (h.num + L.length) l R.z)[i])
    (k : Crash (S, [(R.place (h.tail + total L + 1 + l.length), txnC (h.num + L.length) l R.z)]) S') : Dur R S' h at' L was ∨ Dur R S' h at' (L ++ [l]) (app l was) := by
  have h0 := a.ns0
  have hz : 512 ≤ R.z := by unfold Rg.z; omega
  have lf := crash_left d.sz (fun x hx => by
    rw [List.mem_singleton.1 hx]
    exact ⟨place_lt a _, recB_size _ _ (by omega)⟩) k
  have hun : ∀ n, n ≠ R.place (h.tail + total L + 1 + l.length) → S'.getD n empty = S.getD n empty := fun n hn => lf.un n fun x hx e => hn (by rw [← e, List.mem_singleton.1 hx])
  have hslot : ∀ i, i ≤ 1 → S'.getD (R.st + i) empty = S.getD (R.st + i) empty := fun i hi => hun _ (place_slot a _ i hi).symm
  have hone := d.at1
  have hlog : LogAt R S' h.tail h.num L := logAt_congr d.log fun q h1 h2 => hun _ (place_ne a (by omega) (by omega))
  have hout : ∀ n, n < R.nb → ¬ R.inR n → S'.getD n empty = S.getD n empty := fun n h1 h2 => hun _ fun c => h2 (by rw [c]; exact place_inR a _)
  rcases lf.sect (R.place (h.tail + total L + 1 + l.length)) 0 (place_lt a _) (by omega) with e | ⟨x, hx, _, e⟩
  · left
    refine ⟨lf.sz, d.hok, d.at1, by rw [hslot _ d.at1]; exact d.slot, by rw [hslot _ (by omega)]; exact d.other, hlog, d.tot, fun p m h1 h2 => ?_, fun n h1 h2 => by rw [hout n h1 h2]; exact d.out n h1 h2⟩
    unfold pl
    by_cases c : R.place p = R.place (h.tail + total L + 1 + l.length)
    · rw [c, e]; exact d.fresh _ m h1 h2
    · rw [hun _ c]; exact d.fresh p m h1 h2
  · right
    rw [List.mem_singleton.1 hx] at e
    have hlen := txn_len (h.num + L.length) l R.z
    refine ⟨lf.sz, d.hok, d.at1, by rw [hslot _ d.at1]; exact d.slot, by rw [hslot _ (by omega)]; exact d.other, logAt_snoc hlog v ⟨fun i hi => ?_, ?_⟩, by rw [total_snoc]; exact htot, fun p m h1 h2 => ?_, fun n h1 h2 => ?_⟩
    · rw [← ht i hi]
      exact hun _ (place_ne a (by omega) (by omega))
    · exact e
    · rw [List.length_append, List.length_singleton] at h1
      unfold pl
      by_cases c : R.place p = R.place (h.tail + total L + 1 + l.length)
      · rw [c, e, begins_seg]
        intro hb
        have := begC_inj (by omega) h2 ((rec_begins _ _ _).symm.trans hb)
        omega
      · rw [hun _ c]; exact d.fresh p m (by omega) h2
    · rw [List.flatten_append, look_append, hout n h1 h2, d.out n h1 h2, app_get (by omega)]
      simp
end
end Go.Proofs.YtjmjmekmaamclaaDoor.jrn
/-
  Layer 5, plain: a transaction, a checkpoint, an opening, a formatting: at each of their steps a crash leaves what was, or what shall be. No program.
-/
namespace Go.Proofs.YtjmjmekmaamclaaDoor.jrn
open dev sums
set_option linter.unusedVariables false

/-- a device from which a journal opens that has all blocks as in was -/
def Rec (R : Rg) (k : Nat) (S : List ByteArray) (was : List ByteArray) : Prop := ∃ h at' L, Dur R S h at' L was ∧ h.own ≤ k ∧ h.num + L.length ≤ k

def wrs (l : List Wr) : List Stp := l.map fun x => .wr x.1 x.2
def ckH (R : Rg) (s : JSt) : Hd := ⟨s.h.own + 1, (s.h.tail + s.used) % R.ring, s.num⟩
def ckS (R : Rg) (s : JSt) : List Stp := [.fl, .wr (R.st + (1 - s.at')) (headB (ckH R s) R.z), .fl]
def ckJ (R : Rg) (s : JSt) : JSt := ⟨ckH R s, 1 - s.at', 0, s.num⟩
def placed (R : Rg) : Nat → List ByteArray → List Wr
  | _, [] => []
  | p, t :: ts => (R.place p, t) :: placed R (p + 1) ts
def recS (R : Rg) (s : JSt) (l : List Wr) : List Stp := [.fl, .wr (R.place (s.h.tail + s.used + 1 + l.length)) (txnC s.num l R.z), .fl]
def txS (R : Rg) (s : JSt) (l : List Wr) : List Stp := wrs (placed R (s.h.tail + s.used) (txn s.num l R.z)) ++ (recS R s l ++ wrs l)
def txJ (s : JSt) (l : List Wr) : JSt := ⟨s.h, s.at', s.used + (l.length + 2), s.num + 1⟩
def commitS (R : Rg) (s : JSt) (l : List Wr) : List Stp := if R.ring - s.used < l.length + 2 then ckS R s ++ txS R (ckJ R s) l else txS R s l
def commitJ (R : Rg) (s : JSt) (l : List Wr) : JSt := if R.ring - s.used < l.length + 2 then txJ (ckJ R s) l else txJ s l

def AllCr (P : List ByteArray → Prop) (σ : SC) (l : List Stp) : Prop := ∀ l1 l2, l = l1 ++ l2 → ∀ S', Crash (stepsA σ l1) S' → P S'
theorem allCr_append {P : List ByteArray → Prop} {σ : SC} {a b : List Stp} (h : AllCr P σ a) (k : AllCr P (stepsA σ a) b) : AllCr P σ (a ++ b) := by
  intro l1 l2 e S' hS
  rcases List.append_eq_append_iff.1 e with ⟨c, e1, e2⟩ | ⟨c, e1, e2⟩
  · rw [e1, stepsA_append] at hS
    exact k c l2 e2 S' hS
  · exact h l1 c e1 S' hS
theorem allCr_nil {P : List ByteArray → Prop} {σ : SC} (h : ∀ S', Crash σ S' → P S') : AllCr P σ [] := by
  intro l1 l2 e S' hS
  have : l1 = [] := (List.append_eq_nil_iff.1 e.symm).1
  subst this
  exact h S' hS
theorem allCr_cons {P : List ByteArray → Prop} {σ : SC} {s : Stp} {l : List Stp} (h : ∀ S', Crash σ S' → P S') (k : AllCr P (stepA σ s) l) : AllCr P σ (s :: l) := by
  intro l1 l2 e S' hS
  cases l1 with
  | nil => exact h S' hS
  | cons x l1 =>
    rw [List.cons_append, List.cons.injEq] at e
    obtain ⟨rfl, e⟩ := e
    exact k l1 l2 e S' hS
theorem allCr_mono {P Q : List ByteArray → Prop} {σ : SC} {l : List Stp} (h : AllCr P σ l) (k : ∀ S', P S' → Q S') : AllCr Q σ l := fun l1 l2 e S' hS => k S' (h l1 l2 e S' hS)
theorem stepsA_wrs (σ : SC) (c : List Wr) : stepsA σ (wrs c) = (σ.1, σ.2 ++ c) := by
  induction c generalizing σ with
  | nil => simp [wrs, stepsA]
  | cons x c ih =>
    show stepsA (stepA σ (.wr x.1 x.2)) (wrs c) = _
    rw [ih]
    simp [stepA]
theorem allCr_wrs {P : List ByteArray → Prop} {c : List Wr} : ∀ {σ : SC}, (∀ C', C' <+: c → ∀ S', Crash (σ.1, σ.2 ++ C') S' → P S') → AllCr P σ (wrs c) := by
  induction c with
  | nil => intro σ h; exact allCr_nil fun S' hS => h [] (List.prefix_refl _) S' (by rw [List.append_nil]; exact hS)
  | cons x c ih =>
    intro σ h
    refine allCr_cons (fun S' hS => h [] List.nil_prefix S' (by rw [List.append_nil]; exact hS)) (ih fun C' hC S' hS => h (x :: C') ?_ S' ?_)
    · obtain ⟨t, rfl⟩ := hC; exact ⟨t, rfl⟩
    · have : (stepA σ (.wr x.1 x.2)).2 ++ C' = σ.2 ++ x :: C' := by simp [stepA]
      rw [this] at hS
      exact hS

section
variable {R : Rg} {σ : SC} {s : JSt} {L : List (List Wr)} {was : List ByteArray} {l : List Wr}

theorem quiet_crash (a : R.Ok) (q : Quiet R σ s L was) {S' : List ByteArray} (k : Crash σ S') : Dur R S' s.h s.at' L was :=
  dur_crash a q.dur (fun x hx => .inl (q.cache x hx)) k
theorem ring_big (a : R.Ok) : R.ring ≤ 4096 := by have := a.few; unfold Rg.ring; omega
theorem z_big (a : R.Ok) : 512 ≤ R.z := by have := a.ns0; unfold Rg.z; omega

theorem quiet_ck (a : R.Ok) (q : Quiet R σ s L was) (ho : s.h.own + 1 < 18446744073709551616) (hn : s.num < 18446744073709551616) :
    AllCr (fun S' => Dur R S' s.h s.at' L was ∨ Dur R S' (ckH R s) (1 - s.at') [] was) σ (ckS R s) ∧ Quiet R (stepsA σ (ckS R s)) (ckJ R s) [] was ∧ (stepsA σ (ckS R s)).2 = [] := by
  obtain ⟨S, C⟩ := σ
  obtain ⟨S1, hS1⟩ : ∃ S1, S1 = flushed C S := ⟨_, rfl⟩
  have d1 : Dur R S1 s.h s.at' L was := by rw [hS1]; exact quiet_crash a q (crash_all S C)
  have hv : ∀ n, n < R.nb → ¬ R.inR n → S1.getD n empty = was.getD n empty := fun n h1 h2 => by
    rw [hS1, flushed_get (by rw [q.dur.sz.1]; exact h1)]; exact q.view n h1 h2
  have hck : ckH R s = ⟨s.h.own + 1, (s.h.tail + s.used) % R.ring, s.h.num + L.length⟩ := by unfold ckH; rw [q.num]
  have htl : (s.h.tail + s.used) % R.ring < R.ring := Nat.mod_lt _ (ring_pos a)
  have step : ∀ S', Crash (S1, [(R.st + (1 - s.at'), headB (ckH R s) R.z)]) S' → Dur R S' s.h s.at' L was ∨ Dur R S' (ckH R s) (1 - s.at') [] was := fun S' hS => by
    rw [hck] at hS ⊢
    exact dur_head a d1 hv ho (by rw [← q.num]; exact hn) _ htl hS
  have e3 : stepsA (S, C) (ckS R s) = (flushed [(R.st + (1 - s.at'), headB (ckH R s) R.z)] S1, []) := by rw [hS1]; rfl
  have hone := d1.at1
  have hin : R.st + (1 - s.at') < R.nb := by have := a.six; have := a.fit; omega
  have d3 : Dur R (flushed [(R.st + (1 - s.at'), headB (ckH R s) R.z)] S1) (ckH R s) (1 - s.at') [] was := by
    rcases step _ (crash_all S1 _) with e | e
    · exfalso
      have hs : (flushed [(R.st + (1 - s.at'), headB (ckH R s) R.z)] S1).getD (R.st + (1 - s.at')) empty = headB (ckH R s) R.z := by
        rw [flushed_get (by rw [d1.sz.1]; exact hin)]
        simp [dev.look]
      have hok : (ckH R s).Ok R.ring := ⟨ho, htl, hn⟩
      have hz := z_big a
      rcases e.other with o | ⟨h', k1, k2, o⟩
      · exact noughts_nohead R.ring R.z (by rw [← o, hs]; exact head_is hok (ring_big a) (by omega))
      · have := congrArg fieldsOf (o.symm.trans hs)
        rw [head_fields k1 (ring_big a) (by omega), head_fields hok (ring_big a) (by omega)] at this
        rw [this] at k2
        have k2 : s.h.own + 1 < s.h.own := k2
        omega
    · exact e
  refine ⟨?_, ?_, by rw [e3]⟩
  · refine allCr_cons (fun S' hS => .inl (quiet_crash a q hS)) (allCr_cons (fun S' hS => .inl ?_) (allCr_cons (fun S' hS => ?_) (allCr_nil fun S' hS => .inr ?_)))
    · rw [crash_nil _ _ hS, ← hS1]; exact d1
    · exact step S' (by rw [hS1]; exact hS)
    · rw [crash_nil _ _ hS]
      have : (stepA (stepA (stepA (S, C) .fl) (.wr (R.st + (1 - s.at')) (headB (ckH R s) R.z))) .fl).1 = flushed [(R.st + (1 - s.at'), headB (ckH R s) R.z)] S1 := by rw [hS1]; rfl
      show Dur R _ _ _ _ _
      rw [← this] at d3
      exact d3
  · rw [e3]
    exact ⟨d3, rfl, rfl, fun x hx => (by cases hx), fun n h1 h2 => d3.out n h1 h2⟩

theorem placed_mem : ∀ {ts : List ByteArray} {p : Nat} {x : Wr}, x ∈ placed R p ts → ∃ i, ∃ hi : i < ts.length, x = (R.place (p + i), ts[i])
  | [], _, _, h => by cases h
  | t :: ts, p, x, h => by
    rcases List.mem_cons.1 h with rfl | h
    · exact ⟨0, by simp, rfl⟩
    · obtain ⟨i, hi, e⟩ := placed_mem h
      exact ⟨i + 1, by simpa using hi, by rw [e, show p + 1 + i = p + (i + 1) from by omega]; rfl⟩
theorem look_placed (a : R.Ok) : ∀ {ts : List ByteArray} {p : Nat} {b : ByteArray}, ts.length ≤ R.ring → ∀ i (hi : i < ts.length), dev.look (placed R p ts) (R.place (p + i)) b = ts[i]
  | t :: ts, p, b, h, 0, _ => by
    show dev.look (placed R (p + 1) ts) (R.place p) (if R.place p = R.place p then t else b) = t
    rw [if_pos rfl]
    refine look_none (fun x hx e => ?_) t
    obtain ⟨j, hj, rfl⟩ := placed_mem hx
    rw [List.length_cons] at h
    exact place_ne a (p := p) (q := p + 1 + j) (by omega) (by omega) e.symm
  | t :: ts, p, b, h, i + 1, hi => by
    have hi' : i < ts.length := by simpa using hi
    show dev.look (placed R (p + 1) ts) (R.place (p + (i + 1))) _ = ts[i]
    rw [show p + (i + 1) = p + 1 + i from by omega]
    rw [List.length_cons] at h
    exact look_placed a (by omega) i hi'

theorem quiet_tx (a : R.Ok) (q : Quiet R σ s L was) (v : ValidW R l) (hw : was.length = R.nb) (hroom : s.used + (l.length + 2) ≤ R.ring) (hn : s.num + 1 < 18446744073709551616) :
    AllCr (fun S' => Dur R S' s.h s.at' L was ∨ Dur R S' s.h s.at' (L ++ [l]) (app l was)) σ (txS R s l) ∧ Quiet R (stepsA σ (txS R s l)) (txJ s l) (L ++ [l]) (app l was) := by
  obtain ⟨S, C⟩ := σ
  have hlen := txn_len s.num l R.z
  have hu := q.used
  have hnm := q.num
  have hb := txn_begins a s.num l (fun w hw => (v.each w hw).2.2)
  have hzs := txn_size a s.num v
  have hpl : ∀ x ∈ placed R (s.h.tail + s.used) (txn s.num l R.z), ∃ r, x.1 = R.place r ∧ s.h.tail + total L ≤ r ∧ r < s.h.tail + R.ring ∧ x.2.size = R.z ∧ ∀ m, s.h.num + L.length ≤ m → ¬ Begins x.2 m := fun x hx => by
    obtain ⟨i, hi, rfl⟩ := placed_mem hx
    exact ⟨s.h.tail + s.used + i, rfl, by omega, by omega, hzs _ (List.getElem_mem hi), fun m _ => hb m _ (List.getElem_mem hi)⟩
  have cr : ∀ C', C' <+: placed R (s.h.tail + s.used) (txn s.num l R.z) → ∀ S', Crash (S, C ++ C') S' → Dur R S' s.h s.at' L was := fun C' hC S' hS =>
    dur_crash a q.dur (fun x hx => by
      rcases List.mem_append.1 hx with h | h
      · exact .inl (q.cache x h)
      · exact .inr (hpl x (hC.subset h))) hS
  obtain ⟨P, hP⟩ : ∃ P, P = placed R (s.h.tail + s.used) (txn s.num l R.z) := ⟨_, rfl⟩
  rw [← hP] at cr hpl
  obtain ⟨S3, hS3⟩ : ∃ S3, S3 = flushed (C ++ P) S := ⟨_, rfl⟩
  have d3 : Dur R S3 s.h s.at' L was := by rw [hS3]; exact cr P (List.prefix_refl _) _ (crash_all S _)
  have hv : ∀ n, n < R.nb → ¬ R.inR n → S3.getD n empty = was.getD n empty := fun n h1 h2 => by
    rw [hS3, flushed_get (by rw [q.dur.sz.1]; exact h1), look_append, look_none (fun x hx e => ?_), q.view n h1 h2]
    obtain ⟨r, e', _⟩ := hpl x hx
    exact h2 (by rw [← e, e']; exact place_inR a r)
  have ht : ∀ i (hi : i < (txn s.num l R.z).length), pl R S3 (s.h.tail + s.used + i) = (txn s.num l R.z)[i] := fun i hi => by
    unfold pl
    rw [hS3, flushed_get (by rw [q.dur.sz.1]; exact place_lt a _), look_append, hP]
    exact look_placed a (by omega) i hi
  obtain ⟨S6, hS6⟩ : ∃ S6, S6 = flushed [(R.place (s.h.tail + s.used + 1 + l.length), txnC s.num l R.z)] S3 := ⟨_, rfl⟩
  have step : ∀ S', Crash (S3, [(R.place (s.h.tail + s.used + 1 + l.length), txnC s.num l R.z)]) S' → Dur R S' s.h s.at' L was ∨ Dur R S' s.h s.at' (L ++ [l]) (app l was) := fun S' hS =>
    dur_record a d3 hw hv v (by omega) (by omega) (by rw [← hnm, ← hu]; exact ht) (by rw [← hnm, ← hu]; exact hS)
  have d6 : Dur R S6 s.h s.at' (L ++ [l]) (app l was) := by
    rcases step S6 (by rw [hS6]; exact crash_all S3 _) with e | e
    · exfalso
      refine e.fresh (s.h.tail + s.used + 1 + l.length) s.num (by omega) (by omega) ?_
      rw [begins_seg]
      unfold pl
      rw [hS6, flushed_get (by rw [d3.sz.1]; exact place_lt a _)]
      simp only [dev.look, List.foldl_cons, List.foldl_nil, if_true]
      exact rec_begins _ _ _
    · exact e
  have hfl : (L ++ [l]).flatten = L.flatten ++ l := by simp
  have cr7 : ∀ C', C' <+: l → ∀ S', Crash (S6, C') S' → Dur R S' s.h s.at' (L ++ [l]) (app l was) := fun C' hC S' hS =>
    dur_crash a d6 (fun x hx => .inl (by rw [hfl]; exact List.mem_append_right _ (hC.subset hx))) hS
  have e3 : stepsA (S, C) (wrs P) = (S, C ++ P) := stepsA_wrs _ _
  have e6 : stepsA (S, C ++ P) (recS R s l) = (S6, []) := by rw [hS6, hS3]; rfl
  unfold txS
  rw [← hP]
  refine ⟨allCr_append (allCr_wrs fun C' hC S' hS => .inl (cr C' hC S' hS)) ?_, ?_⟩
  · rw [e3]
    refine allCr_append ?_ ?_
    · refine allCr_cons (fun S' hS => .inl (cr P (List.prefix_refl _) S' hS)) (allCr_cons (fun S' hS => .inl ?_) (allCr_cons (fun S' hS => ?_) (allCr_nil fun S' hS => .inr ?_)))
      · rw [crash_nil _ _ hS, ← hS3]; exact d3
      · exact step S' (by rw [hS3]; exact hS)
      · rw [crash_nil _ _ hS]
        have : (stepA (stepA (stepA (S, C ++ P) .fl) (.wr (R.place (s.h.tail + s.used + 1 + l.length)) (txnC s.num l R.z))) .fl).1 = S6 := by rw [hS6, hS3]; rfl
        show Dur R _ _ _ _ _
        rw [← this] at d6
        exact d6
    · rw [e6]
      exact allCr_wrs fun C' hC S' hS => .inr (cr7 C' hC S' (by simpa using hS))
  · rw [stepsA_append, e3, stepsA_append, e6, stepsA_wrs]
    refine ⟨d6, by rw [total_snoc, ← hu]; rfl, by show s.num + 1 = s.h.num + (L ++ [l]).length; rw [List.length_append, List.length_singleton]; omega, fun x hx => ?_, fun n h1 h2 => ?_⟩
    · rw [hfl]; exact List.mem_append_right _ (by simpa using hx)
    · have h6 : S6.getD n empty = S3.getD n empty := by
        rw [hS6, flushed_get (by rw [d3.sz.1]; exact h1)]
        exact look_none (fun x hx e => h2 (by rw [← e, List.mem_singleton.1 hx]; exact place_inR a _)) _
      show dev.look ([] ++ l) n (S6.getD n empty) = _
      rw [h6, hv n h1 h2, app_get (by omega)]
      rfl

theorem quiet_commit (a : R.Ok) (q : Quiet R σ s L was) (v : ValidW R l) (hw : was.length = R.nb) {k : Nat} (ho : s.h.own + 1 ≤ k) (hn : s.num + 1 ≤ k) (hk : k < 9223372036854775807) :
    AllCr (fun S' => Rec R k S' was ∨ Rec R k S' (app l was)) σ (commitS R s l) ∧ (∃ L', Quiet R (stepsA σ (commitS R s l)) (commitJ R s l) L' (app l was)) ∧ (commitJ R s l).h.own ≤ k ∧ (commitJ R s l).num = s.num + 1 ∧ (commitJ R s l).used ≤ R.ring := by
  have hnm := q.num
  have hlen := v.few
  have r1 : ∀ {S' : List ByteArray} {L : List (List Wr)} {at' : Nat} {was : List ByteArray}, Dur R S' s.h at' L was → s.h.num + L.length ≤ k → Rec R k S' was := fun d h => ⟨_, _, _, d, by omega, h⟩
  unfold commitS commitJ
  by_cases c : R.ring - s.used < l.length + 2
  · rw [if_pos c, if_pos c]
    obtain ⟨q1, q2, q3⟩ := quiet_ck a q (by omega) (by omega)
    obtain ⟨t1, t2⟩ := quiet_tx a q2 v hw (by show 0 + (l.length + 2) ≤ R.ring; unfold Rg.ring; omega) (by show s.num + 1 < _; omega)
    refine ⟨allCr_append (allCr_mono q1 fun S' h => ?_) (allCr_mono t1 fun S' h => ?_), ?_, ho, rfl, by show 0 + (l.length + 2) ≤ R.ring; unfold Rg.ring; omega⟩
    · rcases h with h | h
      · exact .inl (r1 h (by omega))
      · exact .inl ⟨_, _, _, h, ho, by show s.num + 0 ≤ k; omega⟩
    · rcases h with h | h
      · exact .inl ⟨_, _, _, h, ho, by show s.num + 0 ≤ k; omega⟩
      · exact .inr ⟨_, _, _, h, ho, by show s.num + 1 ≤ k; omega⟩
    · rw [stepsA_append]; exact ⟨_, t2⟩
  · rw [if_neg c, if_neg c]
    obtain ⟨t1, t2⟩ := quiet_tx a q v hw (by omega) (by omega)
    refine ⟨allCr_mono t1 fun S' h => ?_, ⟨_, t2⟩, by show s.h.own ≤ k; omega, rfl, by show s.used + (l.length + 2) ≤ R.ring; omega⟩
    rcases h with h | h
    · exact .inl (r1 h (by omega))
    · exact .inr ⟨_, _, _, h, by omega, by rw [List.length_append, List.length_singleton]; omega⟩

def startJ (h : Hd) (at' : Nat) (L : List (List Wr)) : JSt := ⟨h, at', total L, h.num + L.length⟩
def openS (R : Rg) (h : Hd) (at' : Nat) (L : List (List Wr)) : List Stp := wrs L.flatten ++ (if L = [] then [] else ckS R (startJ h at' L))
def openJ (R : Rg) (h : Hd) (at' : Nat) (L : List (List Wr)) : JSt := if L = [] then startJ h at' L else ckJ R (startJ h at' L)
theorem quiet_open (a : R.Ok) {S : List ByteArray} {h : Hd} {at' : Nat} (d : Dur R S h at' L was) {k : Nat} (ho : h.own + 1 ≤ k) (hn : h.num + L.length ≤ k) (hk : k < 9223372036854775807) :
    AllCr (fun S' => Rec R k S' was) (S, []) (openS R h at' L) ∧ Quiet R (stepsA (S, []) (openS R h at' L)) (openJ R h at' L) [] was ∧ (stepsA (S, []) (openS R h at' L)).2 = [] ∧ (openJ R h at' L).h.own ≤ k ∧ (openJ R h at' L).num ≤ k := by
  have q : Quiet R (S, L.flatten) (startJ h at' L) L was := ⟨d, rfl, rfl, fun x hx => hx, fun n h1 h2 => d.out n h1 h2⟩
  have e : stepsA (S, []) (wrs L.flatten) = (S, L.flatten) := by rw [stepsA_wrs]; rfl
  have c1 : AllCr (fun S' => Rec R k S' was) (S, []) (wrs L.flatten) := allCr_wrs fun C' hC S' hS => ⟨h, at', L, dur_crash a d (fun x hx => .inl (hC.subset (by simpa using hx))) hS, by omega, hn⟩
  unfold openS openJ
  by_cases c : L = []
  · rw [if_pos c, if_pos c, List.append_nil]
    refine ⟨c1, ?_, ?_, by show h.own ≤ k; omega, hn⟩
    · rw [e]; subst c; exact q
    · rw [e, c]; rfl
  · rw [if_neg c, if_neg c]
    obtain ⟨q1, q2, q3⟩ := quiet_ck a q (by show h.own + 1 < _; omega) (by show h.num + L.length < _; omega)
    refine ⟨allCr_append c1 ?_, ?_, ?_, ho, hn⟩
    · rw [e]
      refine allCr_mono q1 fun S' hS => ?_
      rcases hS with hS | hS
      · exact ⟨_, _, _, hS, by show h.own ≤ k; omega, hn⟩
      · exact ⟨_, _, _, hS, ho, by show h.num + L.length + 0 ≤ k; omega⟩
    · rw [stepsA_append, e]; exact q2
    · rw [stepsA_append, e]; exact q3

def zeros (R : Rg) : List Wr := (List.range R.ln).map fun i => (R.st + i, noughts R.z)
def formatS (R : Rg) : List Stp := wrs (zeros R) ++ [.fl, .wr R.st (headB ⟨1, 0, 1⟩ R.z), .fl]
theorem zeros_mem {x : Wr} (h : x ∈ zeros R) : R.inR x.1 ∧ x.2 = noughts R.z := by
  obtain ⟨i, hi, rfl⟩ := List.mem_map.1 h
  have := List.mem_range.1 hi
  exact ⟨⟨by show R.st ≤ R.st + i; omega, by show R.st + i < _; omega⟩, rfl⟩
theorem zeros_get {n : Nat} (hn : R.inR n) (b : ByteArray) : dev.look (zeros R) n b = noughts R.z := by
  have key : ∀ (c : List Wr) (b : ByteArray), (∀ x ∈ c, x.2 = noughts R.z) → (b = noughts R.z ∨ ∃ x ∈ c, x.1 = n) → dev.look c n b = noughts R.z := by
    intro c
    induction c with
    | nil =>
      intro b _ h
      rcases h with h | ⟨x, hx, _⟩
      · exact h
      · cases hx
    | cons y c ih =>
      intro b hc h
      show dev.look c n (if y.1 = n then y.2 else b) = _
      refine ih _ (fun x hx => hc x (List.mem_cons_of_mem _ hx)) ?_
      by_cases e : y.1 = n
      · rw [if_pos e]; exact .inl (hc y List.mem_cons_self)
      · rw [if_neg e]
        rcases h with h | ⟨x, hx, hn⟩
        · exact .inl h
        · rcases List.mem_cons.1 hx with rfl | hx
          · exact absurd hn e
          · exact .inr ⟨x, hx, hn⟩
  refine key _ b (fun x hx => (zeros_mem hx).2) (.inr ⟨(R.st + (n - R.st), noughts R.z), List.mem_map.2 ⟨n - R.st, List.mem_range.2 ?_, rfl⟩, ?_⟩)
  · obtain ⟨h1, h2⟩ := hn; omega
  · obtain ⟨h1, h2⟩ := hn; show R.st + (n - R.st) = n; omega

theorem quiet_format (a : R.Ok) {S : List ByteArray} (hS : Szd R.nb R.ns S) (hv : ∀ n, n < R.nb → ¬ R.inR n → S.getD n empty = was.getD n empty) :
    AllCr (fun S' => Szd R.nb R.ns S' ∧ ∀ n, n < R.nb → ¬ R.inR n → S'.getD n empty = was.getD n empty) (S, []) (formatS R) ∧ Dur R (stepsA (S, []) (formatS R)).1 ⟨1, 0, 1⟩ 0 [] was ∧ (stepsA (S, []) (formatS R)).2 = [] := by
  have hz := z_big a
  have h6 := a.six
  have hfit := a.fit
  have hin : R.st < R.nb := by omega
  have hst : R.inR R.st := ⟨Nat.le_refl _, by omega⟩
  have cr : ∀ {S : List ByteArray} {C : List Wr}, Szd R.nb R.ns S → (∀ n, n < R.nb → ¬ R.inR n → S.getD n empty = was.getD n empty) → (∀ x ∈ C, R.inR x.1 ∧ x.2.size = R.z) → ∀ S', Crash (S, C) S' → Szd R.nb R.ns S' ∧ ∀ n, n < R.nb → ¬ R.inR n → S'.getD n empty = was.getD n empty := fun {S C} hS hv hC S' k => by
    have lf := crash_left hS (fun x hx => ⟨by have := (hC x hx).1.2; omega, (hC x hx).2⟩) k
    exact ⟨lf.sz, fun n h1 h2 => (lf.un n fun x hx e => h2 (by rw [← e]; exact (hC x hx).1)).trans (hv n h1 h2)⟩
  have hzs : ∀ x ∈ zeros R, R.inR x.1 ∧ x.2.size = R.z := fun x hx => ⟨(zeros_mem hx).1, by rw [(zeros_mem hx).2, noughts_size]⟩
  obtain ⟨S1, hS1⟩ : ∃ S1, S1 = flushed (zeros R) S := ⟨_, rfl⟩
  obtain ⟨s1, v1⟩ : Szd R.nb R.ns S1 ∧ ∀ n, n < R.nb → ¬ R.inR n → S1.getD n empty = was.getD n empty := by rw [hS1]; exact cr hS hv hzs _ (crash_all S _)
  have z1 : ∀ n, R.inR n → S1.getD n empty = noughts R.z := fun n hn => by
    rw [hS1, flushed_get (by rw [hS.1]; have := hn.2; omega)]; exact zeros_get hn _
  have hh : ∀ x ∈ [(R.st, headB ⟨1, 0, 1⟩ R.z)], R.inR x.1 ∧ x.2.size = R.z := fun x hx => by rw [List.mem_singleton.1 hx]; exact ⟨hst, headB_size _ (by omega)⟩
  obtain ⟨S2, hS2⟩ : ∃ S2, S2 = flushed [(R.st, headB ⟨1, 0, 1⟩ R.z)] S1 := ⟨_, rfl⟩
  obtain ⟨s2, v2⟩ : Szd R.nb R.ns S2 ∧ ∀ n, n < R.nb → ¬ R.inR n → S2.getD n empty = was.getD n empty := by rw [hS2]; exact cr s1 v1 hh _ (crash_all S1 _)
  have e0 : stepsA (S, []) (wrs (zeros R)) = (S, zeros R) := by rw [stepsA_wrs]; rfl
  have e2 : stepsA (S, []) (formatS R) = (S2, []) := by unfold formatS; rw [stepsA_append, e0, hS2, hS1]; rfl
  have g2 : ∀ n, n < R.nb → S2.getD n empty = if n = R.st then headB ⟨1, 0, 1⟩ R.z else S1.getD n empty := fun n hn => by
    rw [hS2, flushed_get (by rw [s1.1]; exact hn)]
    show (if R.st = n then _ else _) = _
    by_cases c : n = R.st
    · rw [if_pos c, if_pos c.symm]
    · rw [if_neg c, if_neg (fun e => c e.symm)]
  refine ⟨?_, ?_, by rw [e2]⟩
  · unfold formatS
    refine allCr_append (allCr_wrs fun C' hC S' k => cr hS hv (fun x hx => hzs x (hC.subset (by simpa using hx))) S' k) ?_
    rw [e0]
    refine allCr_cons (fun S' k => cr hS hv hzs S' k) (allCr_cons (fun S' k => ?_) (allCr_cons (fun S' k => cr s1 v1 hh S' (by rw [hS1]; exact k)) (allCr_nil fun S' k => ?_)))
    · rw [crash_nil _ _ k, ← hS1]; exact ⟨s1, v1⟩
    · rw [crash_nil _ _ k]
      have := And.intro s2 v2
      rw [hS2, hS1] at this
      exact this
  · rw [e2]
    refine ⟨s2, ⟨by decide, ring_pos a, by decide⟩, by decide, ?_, .inl ?_, trivial, Nat.zero_le _, fun p m h1 h2 => ?_, fun n h1 h2 => v2 n h1 h2⟩
    · rw [Nat.add_zero, g2 _ hin, if_pos rfl]
    · show S2.getD (R.st + 1) empty = _
      rw [g2 _ (by omega), if_neg (by omega), z1 _ ⟨by omega, by omega⟩]
    · have hp := place_in a p
      unfold pl
      rw [g2 _ (place_lt a p), if_neg (by omega), z1 _ (place_inR a p), begins_seg]
      exact noughts_begins _ _ (by omega)
end
end Go.Proofs.YtjmjmekmaamclaaDoor.jrn
