/-
  Layer 4, plain: a device of blocks: what is safe, what is not yet, the plan, the counts; what each call makes of it. No program.
-/
import Derived.PlainAid
namespace Go.Proofs.YtjmjmekmaamclaaDoor.dev
set_option linter.unusedVariables false

structure Plan where
  at' : Nat
  keep : List Int
  torn : Int
  mask : Nat

structure DevM where
  nb : Nat
  ns : Nat
  safe : List ByteArray
  cache : List (Nat × ByteArray)
  plan : Option Plan
  down : Bool
  calls : Nat
  reads : Nat

def InI64 (x : Int) : Prop := -9223372036854775808 ≤ x ∧ x ≤ 9223372036854775807
/-- a crash that may be handed in -/
structure CrashOk (ks : List Int) (torn : Int) (mask : Nat) : Prop where
  kin : ∀ k ∈ ks, InI64 k
  len : ks.length ≤ 17592186043904
  torn : InI64 torn
  mask : mask < 256

structure DevM.Ok (D : DevM) : Prop where
  nb0 : 16 ≤ D.nb
  nb1 : D.nb ≤ 4096
  ns0 : 1 ≤ D.ns
  ns1 : D.ns ≤ 8
  safe : D.safe.length = D.nb
  ssz : ∀ s ∈ D.safe, s.size = 512 * D.ns
  csz : ∀ x ∈ D.cache, x.1 < D.nb ∧ x.2.size = 512 * D.ns
  plan : ∀ p, D.plan = some p → 1 ≤ p.at' ∧ p.at' ≤ 9223372036854775807 ∧ CrashOk p.keep p.torn p.mask

/-- how many calls may still be made of it: counts and lists stay in their range -/
structure DevM.Room (D : DevM) (k : Nat) : Prop where
  calls : D.calls + k ≤ 4611686018427387904
  reads : D.reads + k ≤ 4611686018427387904
  cache : D.cache.length + k ≤ 1073741824

def empty : ByteArray := ⟨#[]⟩
def noughts (n : Nat) : ByteArray := ⟨(List.replicate n (0 : UInt8)).toArray⟩

def look (c : List (Nat × ByteArray)) (n : Nat) (s : ByteArray) : ByteArray := c.foldl (fun s x => if x.1 = n then x.2 else s) s
def DevM.now (D : DevM) (n : Nat) : ByteArray := look D.cache n (D.safe.getD n empty)
def DevM.image (D : DevM) : List ByteArray := (List.range D.nb).map D.now

/-- of two texts of one length: the second's sectors where P says so -/
def mixL (P : Nat → Bool) (a b : List UInt8) : List UInt8 := (List.range a.length).map fun i => if P (i / 512) then b.getD i 0 else a.getD i 0
def mixP (P : Nat → Bool) (a b : ByteArray) : ByteArray := ⟨(mixL P a.data.toList b.data.toList).toArray⟩
def mix (mask : Nat) (a b : ByteArray) : ByteArray := mixP (fun s => mask.testBit s) a b

def fallStep (ks : List Int) (torn : Int) (mask : Nat) (i : Nat) (x : Nat × ByteArray) (safe : List ByteArray) : List ByteArray :=
  if (i : Int) = torn then safe.set x.1 (mix mask (safe.getD x.1 empty) x.2)
  else if (i : Int) ∈ ks then safe.set x.1 x.2
  else safe
def fallen (ks : List Int) (torn : Int) (mask : Nat) : Nat → List (Nat × ByteArray) → List ByteArray → List ByteArray
  | _, [], s => s
  | i, x :: c, s => fallen ks torn mask (i + 1) c (fallStep ks torn mask i x s)
def DevM.fall (D : DevM) (ks : List Int) (torn : Int) (mask : Nat) : DevM := { D with safe := fallen ks torn mask 0 D.cache D.safe, cache := [], plan := none, down := true }
def flushed (c : List (Nat × ByteArray)) (s : List ByteArray) : List ByteArray := c.foldl (fun s x => s.set x.1 x.2) s

/-- a counted call: does it go down at it, and with what? -/
def DevM.counted (D : DevM) : DevM × Option Plan :=
  match D.plan with
  | none => ({ D with calls := D.calls + 1 }, none)
  | some p => if p.at' = 1 then ({ D with calls := D.calls + 1, plan := none }, some p) else ({ D with calls := D.calls + 1, plan := some { p with at' := p.at' - 1 } }, none)

def isBlock (D : DevM) (n : Int) : Prop := 0 ≤ n ∧ n < D.nb
instance (D : DevM) (n : Int) : Decidable (isBlock D n) := inferInstanceAs (Decidable (_ ∧ _))

def DevM.read (D : DevM) (n : Int) : DevM × ByteArray × Int :=
  if D.down = true then (D, empty, 8) else if isBlock D n then ({ D with reads := D.reads + 1 }, D.now n.toNat, 0) else (D, empty, 1)
def DevM.write (D : DevM) (n : Int) (data : ByteArray) : DevM × Int :=
  if D.down = true then (D, 8) else if isBlock D n ∧ data.size = 512 * D.ns then
    match D.counted with
    | (E, none) => ({ E with cache := D.cache ++ [(n.toNat, data)] }, 0)
    | (E, some p) => (({ E with cache := D.cache ++ [(n.toNat, data)] } : DevM).fall p.keep p.torn p.mask, 8)
  else (D, 1)
def DevM.flush (D : DevM) : DevM × Int :=
  if D.down = true then (D, 8) else
    match D.counted with
    | (E, none) => ({ E with safe := flushed D.cache D.safe, cache := [] }, 0)
    | (E, some p) => (E.fall p.keep p.torn p.mask, 8)
def DevM.setPlan (D : DevM) (at' : Int) (ks : List Int) (torn : Int) (mask : Nat) : DevM × Int :=
  if D.down = true then (D, 8) else if at' < 0 then (D, 1) else ({ D with plan := if at' = 0 then none else some ⟨at'.toNat, ks, torn, mask⟩ }, 0)
def DevM.pull (D : DevM) (ks : List Int) (torn : Int) (mask : Nat) : DevM × Int :=
  if D.down = true then (D, 8) else (D.fall ks torn mask, 0)
def DevM.restart (D : DevM) : DevM × Int := if D.down = true then ({ D with down := false }, 0) else (D, 5)

def overL (s : List UInt8) (at' : Nat) (d : List UInt8) : List UInt8 := s.take at' ++ d ++ s.drop (at' + d.length)
def over (s : ByteArray) (at' : Nat) (d : ByteArray) : ByteArray := s.extract 0 at' ++ d ++ s.extract (at' + d.size) s.size
def DevM.corrupt (D : DevM) (n at' : Int) (d : ByteArray) : DevM × Int :=
  if isBlock D n ∧ 0 ≤ at' ∧ at' ≤ 512 * D.ns ∧ (d.size : Int) ≤ 512 * D.ns - at' then
    ({ D with safe := D.safe.set n.toNat (over (D.safe.getD n.toNat empty) at'.toNat d), cache := D.cache.map fun x => if x.1 = n.toNat then (x.1, over x.2 at'.toNat d) else x }, 0)
  else (D, 1)

def DevM.new (nb ns : Nat) : DevM := ⟨nb, ns, List.replicate nb (noughts (512 * ns)), [], none, false, 0, 0⟩
def geoOk (b s : Int) : Prop := 16 ≤ b ∧ b ≤ 4096 ∧ 1 ≤ s ∧ s ≤ 8
instance (b s : Int) : Decidable (geoOk b s) := inferInstanceAs (Decidable (_ ∧ _))

theorem noughts_size (n : Nat) : (noughts n).size = n := by simp [noughts, ByteArray.size]
theorem mix_size (P : Nat → Bool) (a b : ByteArray) : (mixP P a b).size = a.size := by
  show (mixL P a.data.toList b.data.toList).toArray.size = _
  rw [List.size_toArray, mixL, List.length_map, List.length_range, Array.length_toList]
  rfl
theorem over_size (s : ByteArray) (k : Nat) (d : ByteArray) (h : k + d.size ≤ s.size) : (over s k d).size = s.size := by
  unfold over
  rw [ByteArray.size_append, ByteArray.size_append, ByteArray.size_extract, ByteArray.size_extract]
  omega

theorem getD_mem {l : List ByteArray} {n : Nat} (h : n < l.length) : l.getD n empty ∈ l := by
  rw [List.getD_eq_getElem?_getD, List.getElem?_eq_getElem h]
  exact List.getElem_mem h

theorem fallStep_len (ks : List Int) (torn : Int) (mask i : Nat) (x : Nat × ByteArray) (s : List ByteArray) : (fallStep ks torn mask i x s).length = s.length := by
  unfold fallStep
  split
  · rw [List.length_set]
  · split
    · rw [List.length_set]
    · rfl
theorem fallStep_sz {ks : List Int} {torn : Int} {mask i z : Nat} {x : Nat × ByteArray} {s : List ByteArray} (h : ∀ y ∈ s, y.size = z) (hx : x.2.size = z) (hn : x.1 < s.length) : ∀ y ∈ fallStep ks torn mask i x s, y.size = z := by
  intro y hy
  unfold fallStep at hy
  split at hy
  · rcases List.mem_or_eq_of_mem_set hy with a | rfl
    · exact h y a
    · unfold mix
      rw [mix_size]
      exact h _ (getD_mem hn)
  · split at hy
    · rcases List.mem_or_eq_of_mem_set hy with a | rfl
      · exact h y a
      · exact hx
    · exact h y hy
theorem fallen_len (ks : List Int) (torn : Int) (mask : Nat) : ∀ (c : List (Nat × ByteArray)) (i : Nat) (s : List ByteArray), (fallen ks torn mask i c s).length = s.length
  | [], _, _ => rfl
  | x :: c, i, s => by rw [fallen, fallen_len ks torn mask c, fallStep_len]
theorem fallen_sz {ks : List Int} {torn : Int} {mask z : Nat} : ∀ (c : List (Nat × ByteArray)) (i : Nat) (s : List ByteArray), (∀ y ∈ s, y.size = z) → (∀ x ∈ c, x.1 < s.length ∧ x.2.size = z) → ∀ y ∈ fallen ks torn mask i c s, y.size = z
  | [], _, _, h, _ => h
  | x :: c, i, s, h, hc => by
    rw [fallen]
    refine fallen_sz c (i + 1) _ (fallStep_sz h (hc x List.mem_cons_self).2 (hc x List.mem_cons_self).1) fun y hy => ?_
    rw [fallStep_len]
    exact hc y (List.mem_cons_of_mem _ hy)
theorem fallen_snoc (ks : List Int) (torn : Int) (mask : Nat) (x : Nat × ByteArray) : ∀ (c : List (Nat × ByteArray)) (i : Nat) (s : List ByteArray), fallen ks torn mask i (c ++ [x]) s = fallStep ks torn mask (i + c.length) x (fallen ks torn mask i c s)
  | [], i, s => rfl
  | y :: c, i, s => by
    rw [List.cons_append, fallen, fallen, fallen_snoc ks torn mask x c, List.length_cons, show i + 1 + c.length = i + (c.length + 1) from by omega]

theorem flushed_len : ∀ (c : List (Nat × ByteArray)) (s : List ByteArray), (flushed c s).length = s.length
  | [], _ => rfl
  | x :: c, s => by show (flushed c (s.set x.1 x.2)).length = _; rw [flushed_len c, List.length_set]
theorem flushed_sz {z : Nat} : ∀ (c : List (Nat × ByteArray)) (s : List ByteArray), (∀ y ∈ s, y.size = z) → (∀ x ∈ c, x.2.size = z) → ∀ y ∈ flushed c s, y.size = z
  | [], _, h, _ => h
  | x :: c, s, h, hc => by
    show ∀ y ∈ flushed c (s.set x.1 x.2), y.size = z
    refine flushed_sz c _ (fun y hy => ?_) fun y hy => hc y (List.mem_cons_of_mem _ hy)
    rcases List.mem_or_eq_of_mem_set hy with a | rfl
    · exact h y a
    · exact hc x List.mem_cons_self
theorem flushed_snoc (x : Nat × ByteArray) (c : List (Nat × ByteArray)) (s : List ByteArray) : flushed (c ++ [x]) s = (flushed c s).set x.1 x.2 := by
  simp [flushed]

theorem look_snoc (c : List (Nat × ByteArray)) (x : Nat × ByteArray) (n : Nat) (s : ByteArray) : look (c ++ [x]) n s = if x.1 = n then x.2 else look c n s := by
  simp [look]
theorem look_size {z : Nat} : ∀ (c : List (Nat × ByteArray)) (n : Nat) (s : ByteArray), s.size = z → (∀ x ∈ c, x.2.size = z) → (look c n s).size = z
  | [], _, _, h, _ => h
  | x :: c, n, s, h, hc => by
    show (look c n (if x.1 = n then x.2 else s)).size = z
    refine look_size c n _ ?_ fun y hy => hc y (List.mem_cons_of_mem _ hy)
    split
    · exact hc x List.mem_cons_self
    · exact h

namespace DevM.Ok
variable {D : DevM}
theorem getD (h : D.Ok) {n : Nat} (hn : n < D.nb) : (D.safe.getD n empty).size = 512 * D.ns := h.ssz _ (getD_mem (by rw [h.safe]; exact hn))
theorem now (h : D.Ok) {n : Nat} (hn : n < D.nb) : (D.now n).size = 512 * D.ns := look_size _ _ _ (h.getD hn) fun x hx => (h.csz x hx).2
theorem fall (h : D.Ok) (ks : List Int) (torn : Int) (mask : Nat) : (D.fall ks torn mask).Ok where
  nb0 := h.nb0
  nb1 := h.nb1
  ns0 := h.ns0
  ns1 := h.ns1
  safe := by show (fallen ks torn mask 0 D.cache D.safe).length = _; rw [fallen_len]; exact h.safe
  ssz := fallen_sz _ _ _ h.ssz fun x hx => by rw [h.safe]; exact h.csz x hx
  csz := fun x hx => by cases hx
  plan := fun p hp => by cases hp
theorem counted (h : D.Ok) : D.counted.1.Ok := by
  unfold DevM.counted
  split
  · exact ⟨h.nb0, h.nb1, h.ns0, h.ns1, h.safe, h.ssz, h.csz, fun p hp => h.plan p hp⟩
  · rename_i p hp
    split
    · exact ⟨h.nb0, h.nb1, h.ns0, h.ns1, h.safe, h.ssz, h.csz, fun q hq => by cases hq⟩
    · obtain ⟨h1, h2, h3⟩ := h.plan p hp
      exact ⟨h.nb0, h.nb1, h.ns0, h.ns1, h.safe, h.ssz, h.csz, fun q hq => by
        cases hq
        exact ⟨by show 1 ≤ p.at' - 1; omega, by show p.at' - 1 ≤ _; omega, h3⟩⟩
theorem push (h : D.Ok) {n : Nat} {d : ByteArray} (hn : n < D.nb) (hd : d.size = 512 * D.ns) : ({ D with cache := D.cache ++ [(n, d)] } : DevM).Ok :=
  ⟨h.nb0, h.nb1, h.ns0, h.ns1, h.safe, h.ssz, fun x hx => by
    rcases List.mem_append.1 hx with a | a
    · exact h.csz x a
    · rw [List.mem_singleton.1 a]; exact ⟨hn, hd⟩, h.plan⟩
end DevM.Ok

theorem counted_same (D : DevM) : D.counted.1.nb = D.nb ∧ D.counted.1.ns = D.ns ∧ D.counted.1.safe = D.safe ∧ D.counted.1.cache = D.cache ∧ D.counted.1.down = D.down ∧ D.counted.1.calls = D.calls + 1 ∧ D.counted.1.reads = D.reads := by
  unfold DevM.counted
  split
  · exact ⟨rfl, rfl, rfl, rfl, rfl, rfl, rfl⟩
  · split
    · exact ⟨rfl, rfl, rfl, rfl, rfl, rfl, rfl⟩
    · exact ⟨rfl, rfl, rfl, rfl, rfl, rfl, rfl⟩

theorem new_ok {nb ns : Nat} (h : geoOk nb ns) : (DevM.new nb ns).Ok := by
  obtain ⟨h1, h2, h3, h4⟩ := h
  refine ⟨by show 16 ≤ nb; omega, by show nb ≤ 4096; omega, by show 1 ≤ ns; omega, by show ns ≤ 8; omega, by simp [DevM.new], fun s hs => ?_, fun x hx => (by cases hx), fun p hp => (by cases hp)⟩
  simp only [DevM.new, List.mem_replicate] at hs
  rw [hs.2, noughts_size]
  rfl
end Go.Proofs.YtjmjmekmaamclaaDoor.dev
