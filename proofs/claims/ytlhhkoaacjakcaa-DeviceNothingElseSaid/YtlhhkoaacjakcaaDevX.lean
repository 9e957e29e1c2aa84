/-
  Layer 4: what the law's own 'written' comes to, and a device that has fallen and has come up again.
-/
import Derived.Test.YtlhhkoaacjakcaaDevWr
import Derived.Test.YtlhhkoaacjakcaaDevY
import Derived.Test.YtlhhkoaacjakcaaDevZ
import Derived.Test.YtlhhkoaacjakcaaHeapM
namespace Go.Proofs.Ytlhhkoaacjakcaa.dev
open Go.ChangeShapes Go.WideShapes Go.ChangeAt Go.RowKit mem
set_option linter.unusedVariables false

theorem take60 (ps : List (Int × ByteArray)) : ps.take (min 60 ps.length) = ps.take 60 := by
  by_cases h : 60 ≤ ps.length
  · rw [Nat.min_eq_left h]
  · rw [Nat.min_eq_right (by omega), List.take_of_length_le (Nat.le_refl _), List.take_of_length_le (by omega)]
theorem putM_in (nb ns : Nat) (h : 0 < nb) (p : Int × ByteArray) : (putM nb ns p).1 < nb ∧ (putM nb ns p).2.size = 512 * ns := by
  have := blockOf_in nb p.1 h
  refine ⟨by show (blockOf nb p.1).toNat < nb; omega, fillM_size _ _⟩
theorem wroteM_ok {D : DevM} (a : D.Ok) (ps : List (Int × ByteArray)) (k : Nat) : (wroteM D ps k).Ok :=
  ⟨a.nb0, a.nb1, a.ns0, a.ns1, a.safe, a.ssz, fun x hx => by
    rcases List.mem_append.1 hx with h | h
    · exact a.csz x h
    · obtain ⟨p, _, rfl⟩ := List.mem_map.1 h
      exact putM_in _ _ (by have := a.nb0; omega) p, a.plan⟩
/-- with nothing unflushed the blocks are the safe ones -/
theorem image_flat {D : DevM} (a : D.Ok) (hc : D.cache = []) : D.image = D.safe := by
  apply List.ext_getElem
  · rw [image_len, a.safe]
  · intro n h1 h2
    have e : D.image[n] = D.now n := by simp [DevM.image]
    rw [e]
    unfold DevM.now
    rw [hc, List.getD_eq_getElem?_getD, List.getElem?_eq_getElem h2]
    rfl
structure Written (nb ns : Nat) (C : List (Nat × ByteArray)) (D : DevM) : Prop where
  ok : D.Ok
  enb : D.nb = nb
  ens : D.ns = ns
  down : D.down = false
  cache : D.cache = C
  len : C.length ≤ 60
  num : ∀ x ∈ C, x.1 < nb ∧ x.2.size = 512 * ns
  room : D.Room 800
theorem written_facts {nb ns : Nat} (g : geoOk nb ns) (safe more : List (Int × ByteArray)) (S D : DevM) (hS : S = (wroteM (DevM.new nb ns) safe (min 60 safe.length)).flush.1) (hD : D = wroteM S more (min 60 more.length)) :
    Written nb ns ((more.take 60).map (putM nb ns)) D ∧ S.image = D.safe := by
  have hfl := flush_none (D := wroteM (DevM.new nb ns) safe (min 60 safe.length)) rfl (counted_plain rfl)
  have a0 := wroteM_ok (new_ok g) safe (min 60 safe.length)
  have a1 := flushed_ok a0 (wroteM (DevM.new nb ns) safe (min 60 safe.length)).cache.length
  rw [List.take_length] at a1
  rw [hfl] at hS
  have aS : S.Ok := by
    subst hS
    exact ⟨a1.nb0, a1.nb1, a1.ns0, a1.ns1, a1.safe, a1.ssz, fun x hx => (by cases hx), fun p hp => (by cases hp)⟩
  have cS : S.cache = [] := by subst hS; rfl
  have nS : S.nb = nb := by subst hS; rfl
  have mS : S.ns = ns := by subst hS; rfl
  have dS : S.down = false := by subst hS; rfl
  have rS : S.calls = 0 + min 60 safe.length + 1 ∧ S.reads = 0 := by subst hS; exact ⟨rfl, rfl⟩
  have hn : 0 < nb := by have := g.1; omega
  refine ⟨⟨?_, ?_, ?_, ?_, ?_, ?_, ?_, ?_⟩, ?_⟩
  · subst hD; exact wroteM_ok aS _ _
  · subst hD; exact nS
  · subst hD; exact mS
  · subst hD; exact dS
  · subst hD
    show S.cache ++ (more.take (min 60 more.length)).map (putM S.nb S.ns) = _
    rw [cS, nS, mS, take60]; rfl
  · rw [List.length_map, List.length_take]; omega
  · intro x hx
    obtain ⟨p, _, rfl⟩ := List.mem_map.1 hx
    exact putM_in nb ns hn p
  · subst hD
    refine ⟨?_, ?_, ?_⟩
    · show S.calls + min 60 more.length + 800 ≤ _; rw [rS.1]; omega
    · show S.reads + 800 ≤ _; rw [rS.2]; decide
    · show (S.cache ++ (more.take (min 60 more.length)).map (putM S.nb S.ns)).length + 800 ≤ _
      rw [cS, List.nil_append, List.length_map, List.length_take]; omega
  · subst hD; exact image_flat aS cS

/-- fallen, and up again -/
def fell (D : DevM) (ks : List Int) (torn : Int) (mask : Nat) : DevM := { D.fall ks torn mask with down := false }
theorem fell_ok {D : DevM} (a : D.Ok) (ks : List Int) (torn : Int) (mask : Nat) : (fell D ks torn mask).Ok := (a.fall ks torn mask).like rfl rfl rfl rfl rfl
theorem fell_image {D : DevM} (a : D.Ok) (ks : List Int) (torn : Int) (mask : Nat) : (fell D ks torn mask).image = fallen ks torn mask 0 D.cache D.safe := image_flat (fell_ok a ks torn mask) rfl
theorem fell_every {D : DevM} (a : D.Ok) (ks : List Int) (mask : Nat) (h : ∀ j, j < D.cache.length → ((j : Nat) : Int) ∈ ks) : (fell D ks (-1) mask).image = D.image := every_image D a ks mask h
theorem fell_room {D : DevM} {k : Nat} (h : D.Room k) (hk : k ≤ 1073741824) (ks : List Int) (torn : Int) (mask : Nat) : (fell D ks torn mask).Room k := ⟨h.calls, h.reads, by show 0 + k ≤ _; omega⟩
theorem pull_fall {D : DevM} (d : D.down = false) (ks : List Int) (torn : Int) (mask : Nat) : D.pull ks torn mask = (D.fall ks torn mask, 0) := by unfold DevM.pull; rw [if_neg (by rw [d]; decide)]
theorem restart_fall (D : DevM) (ks : List Int) (torn : Int) (mask : Nat) : (D.fall ks torn mask).restart = (fell D ks torn mask, 0) := by unfold DevM.restart; rw [if_pos (show (D.fall ks torn mask).down = true from rfl)]; rfl

/-- each of m numbers, twice, the greatest first -/
def evs (m : Nat) : Nat → List Int
  | 0 => []
  | k + 1 => evs m k ++ [(m : Int) - 1 - k, (m : Int) - 1 - k]
theorem evs_len (m : Nat) : ∀ k, (evs m k).length = 2 * k
  | 0 => rfl
  | k + 1 => by rw [evs, List.length_append, evs_len m k]; simp; omega
theorem evs_mem (m : Nat) : ∀ k j : Nat, j < k → ((m : Int) - 1 - j) ∈ evs m k
  | k + 1, j, h => by
    rw [evs, List.mem_append]
    by_cases e : j = k
    · subst e; exact .inr List.mem_cons_self
    · exact .inl (evs_mem m k j (by omega))
theorem evs_in (m : Nat) : ∀ k, k ≤ m → ∀ x ∈ evs m k, 0 ≤ x ∧ x < m
  | 0, _, x, hx => by cases hx
  | k + 1, h, x, hx => by
    rw [evs, List.mem_append] at hx
    rcases hx with a | a
    · exact evs_in m k (by omega) x a
    · simp at a; omega
theorem evs_all (m j : Nat) (h : j < m) : (j : Int) ∈ evs m m := by
  have := evs_mem m m (m - 1 - j) (by omega)
  rwa [show (m : Int) - 1 - ((m - 1 - j : Nat) : Int) = j from by omega] at this
theorem evs_crash (m : Nat) (hm : m ≤ 60) : CrashOk (evs m m) (-1) 0 :=
  ⟨fun k hk => by have := evs_in m m (Nat.le_refl _) k hk; exact ⟨by omega, by omega⟩, by rw [evs_len]; omega, ⟨by omega, by omega⟩, by omega⟩
theorem one2i (a b : Int) : ∀ u ∈ [Value.int .i64 a, Value.int .i64 b], u.oneCell' = true := by
  intro u hu
  simp at hu
  rcases hu with rfl | rfl <;> rfl

/-- the blocks that the first k writes speak of -/
def tch (C : List (Nat × ByteArray)) (k : Nat) : Nat → Option Value := fun n => if n ∈ (C.take k).map (·.1) then some (.int .i64 1) else none
theorem tch_zero (C : List (Nat × ByteArray)) : tch C 0 = fun _ => none := by funext n; simp [tch]
theorem tch_more (C : List (Nat × ByteArray)) (k : Nat) (h : k < C.length) : upd (tch C k) (C[k]).1 (.int .i64 1) = tch C (k + 1) := by
  funext n
  unfold upd tch
  have hm : n ∈ (C.take (k + 1)).map (·.1) ↔ n ∈ (C.take k).map (·.1) ∨ n = (C[k]).1 := by rw [List.take_succ_eq_append_getElem h, List.map_append, List.mem_append]; simp
  by_cases e : n = (C[k]).1
  · rw [if_pos e, if_pos (hm.2 (.inr e))]
  · rw [if_neg e]
    by_cases q : n ∈ (C.take k).map (·.1)
    · rw [if_pos q, if_pos (hm.2 (.inl q))]
    · rw [if_neg q, if_neg (fun h => (hm.1 h).elim q e)]
theorem tch_all (C : List (Nat × ByteArray)) (n : Nat) : (tch C C.length n = some (.int .i64 1)) ∨ (tch C C.length n = none ∧ ∀ x ∈ C, ¬ x.1 = n) := by
  unfold tch
  rw [List.take_length]
  by_cases q : n ∈ C.map (·.1)
  · exact .inl (if_pos q)
  · exact .inr ⟨if_neg q, fun x hx e => q (List.mem_map.2 ⟨x, hx, e⟩)⟩
end Go.Proofs.Ytlhhkoaacjakcaa.dev
