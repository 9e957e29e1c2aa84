/-
  Layer 4, plain: how many calls are left.
-/
import Derived.Test.YtkebilddoanhgaaDevC
namespace Go.Proofs.Ytkebilddoanhgaa.dev
set_option linter.unusedVariables false

theorem counted_like (D : DevM) : D.counted.1.calls = D.calls + 1 ∧ D.counted.1.reads = D.reads ∧ D.counted.1.cache = D.cache := by
  unfold DevM.counted
  cases D.plan with
  | none => exact ⟨rfl, rfl, rfl⟩
  | some p => simp only; split <;> exact ⟨rfl, rfl, rfl⟩
theorem room_less {D : DevM} {k m : Nat} (h : D.Room k) (hm : m ≤ k) : D.Room m := ⟨by have := h.calls; omega, by have := h.reads; omega, by have := h.cache; omega⟩
theorem room_of {D E : DevM} {k : Nat} (h : D.Room (k + 1)) (c : E.calls ≤ D.calls + 1) (r : E.reads ≤ D.reads + 1) (l : E.cache.length ≤ D.cache.length + 1) : E.Room k :=
  ⟨by have := h.calls; omega, by have := h.reads; omega, by have := h.cache; omega⟩
theorem write_room {D : DevM} {k : Nat} (h : D.Room (k + 1)) (n : Int) (d : ByteArray) : (D.write n d).1.Room k := by
  obtain ⟨c1, c2, c3⟩ := counted_like D
  unfold DevM.write
  split
  · exact room_less h (by omega)
  · split
    · split
      · rename_i E hE
        rw [hE] at c1 c2 c3
        exact room_of h (by show E.calls ≤ _; simp only at c1; omega) (by show E.reads ≤ _; simp only at c2; omega) (by show (D.cache ++ _).length ≤ _; simp)
      · rename_i E p hE
        rw [hE] at c1 c2 c3
        exact room_of h (by show E.calls ≤ _; simp only at c1; omega) (by show E.reads ≤ _; simp only at c2; omega) (by show ([] : List (Nat × ByteArray)).length ≤ _; simp)
    · exact room_less h (by omega)
theorem flush_room {D : DevM} {k : Nat} (h : D.Room (k + 1)) : D.flush.1.Room k := by
  obtain ⟨c1, c2, c3⟩ := counted_like D
  unfold DevM.flush
  split
  · exact room_less h (by omega)
  · split
    · rename_i E hE
      rw [hE] at c1 c2 c3
      exact room_of h (by show E.calls ≤ _; simp only at c1; omega) (by show E.reads ≤ _; simp only at c2; omega) (by show ([] : List (Nat × ByteArray)).length ≤ _; simp)
    · rename_i E p hE
      rw [hE] at c1 c2 c3
      exact room_of h (by show E.calls ≤ _; simp only at c1; omega) (by show E.reads ≤ _; simp only at c2; omega) (by show ([] : List (Nat × ByteArray)).length ≤ _; simp)
theorem read_room {D : DevM} {k : Nat} (h : D.Room (k + 1)) (n : Int) : (D.read n).1.Room k := by
  unfold DevM.read
  split
  · exact room_less h (by omega)
  · split
    · exact room_of h (by show D.calls ≤ _; omega) (Nat.le_refl _) (by show D.cache.length ≤ _; omega)
    · exact room_less h (by omega)
theorem plan_room {D : DevM} {k : Nat} (h : D.Room (k + 1)) (n : Int) (ks : List Int) (t : Int) (m : Nat) : (D.setPlan n ks t m).1.Room k := by
  unfold DevM.setPlan
  split
  · exact room_less h (by omega)
  · split
    · exact room_less h (by omega)
    · exact room_of h (by show D.calls ≤ _; omega) (by show D.reads ≤ _; omega) (by show D.cache.length ≤ _; omega)
theorem pull_room {D : DevM} {k : Nat} (h : D.Room (k + 1)) (ks : List Int) (t : Int) (m : Nat) : (D.pull ks t m).1.Room k := by
  unfold DevM.pull
  split
  · exact room_less h (by omega)
  · exact room_of h (by show D.calls ≤ _; omega) (by show D.reads ≤ _; omega) (by show ([] : List (Nat × ByteArray)).length ≤ _; simp)
theorem restart_room {D : DevM} {k : Nat} (h : D.Room (k + 1)) : D.restart.1.Room k := by
  unfold DevM.restart
  split
  · exact room_of h (by show D.calls ≤ _; omega) (by show D.reads ≤ _; omega) (by show D.cache.length ≤ _; omega)
  · exact room_less h (by omega)
theorem corrupt_room {D : DevM} {k : Nat} (h : D.Room (k + 1)) (n a : Int) (d : ByteArray) : (D.corrupt n a d).1.Room k := by
  unfold DevM.corrupt
  split
  · exact room_of h (by show D.calls ≤ _; omega) (by show D.reads ≤ _; omega) (by show (D.cache.map _).length ≤ _; simp)
  · exact room_less h (by omega)
theorem does_room {D : DevM} {k : Nat} (h : D.Room (k + 1)) (x : OpM) : (D.does x).Room k := by
  unfold DevM.does
  split
  · exact write_room h _ _
  split
  · exact write_room h _ _
  split
  · exact flush_room h
  split
  · exact read_room h _
  split
  · exact plan_room h _ _ _ _
  split
  · exact pull_room h _ _ _
  split
  · exact restart_room h
  split
  · exact corrupt_room h _ _ _
  · exact room_less h (by omega)
end Go.Proofs.Ytkebilddoanhgaa.dev
