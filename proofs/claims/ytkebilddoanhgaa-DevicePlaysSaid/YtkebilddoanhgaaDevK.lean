/-
  Layer 4, the document's device: over, Corrupt.
-/
import Derived.Test.YtkebilddoanhgaaDevJ
namespace Go.Proofs.Ytkebilddoanhgaa.dev
open Go.ChangeShapes Go.WideShapes Go.ChangeAt Go.RowKit mem
set_option linter.unusedVariables false

theorem rover_any (s : ByteArray) (k : Nat) (d : ByteArray) (h : k + d.size ≤ s.size) (hs : s.size ≤ 4096) (w : World) :
    Calls Try.prog 60 #[.string s, .int .i64 (k : Int), .string d] w fun e w' => e = .returned (.string (over s k d)) ∧ ∃ q, w' = w.drewN q := by
  have s1 : ∀ wx, (Instr.slice 9 (.string s) none (some (.int .i64 (k : Int))) none).run Try.prog wx = .ok (.string (s.extract 0 k)) wx := fun wx => by
    rw [run_slice_string_to_if (P := Try.prog) wx 9 s .i64 k Try.underlying9, if_pos ⟨by omega, by omega⟩, Int.toNat_natCast]
  have s2 : ∀ wx, (Instr.slice 9 (.string s) (some (.int .i64 ((k : Int) + (d.size : Int)))) none none).run Try.prog wx = .ok (.string (s.extract (k + d.size) s.size)) wx := fun wx => by
    rw [run_slice_string_from_if (P := Try.prog) wx 9 s .i64 _ Try.underlying9, if_pos ⟨by omega, by omega⟩, show ((k : Int) + (d.size : Int)).toNat = k + d.size from by omega]
  have e1 : IntKind.i64.wrap ((k : Int) + (d.size : Int)) = (k : Int) + (d.size : Int) := IntWalk.i64_in _ (by omega)
  have g1 : ¬ 9223372036854775807 < (s.extract 0 k).size + d.size := by rw [ByteArray.size_extract]; omega
  have g2 : ¬ 9223372036854775807 < (s.extract 0 k).size + d.size + (s.extract (k + d.size) s.size).size := by rw [ByteArray.size_extract, ByteArray.size_extract]; omega
  unfold over
  generalize s.extract 0 k = A at s1 g1 g2 ⊢
  generalize s.extract (k + d.size) s.size = B at s2 g2 ⊢
  have k0 : (0 : Int) ≤ k := by omega
  clear h hs
  go_enter Try.func60, Try.ntmps60
  go_wp2_with fail
  go_quiet (fail)
  go_wp2_with fail
  go_ret
  exact ⟨rfl, _, rfl⟩

/-- one block's writes overwritten -/
def mend (n : Nat) (f : ByteArray → ByteArray) (x : Nat × ByteArray) : Nat × ByteArray := if x.1 = n then (x.1, f x.2) else x
def mendK (n : Nat) (f : ByteArray → ByteArray) (c : List (Nat × ByteArray)) (k : Nat) : List (Nat × ByteArray) := (c.take k).map (mend n f) ++ c.drop k
theorem mendK_len (n : Nat) (f : ByteArray → ByteArray) (c : List (Nat × ByteArray)) (k : Nat) : (mendK n f c k).length = c.length := by
  simp only [mendK, List.length_append, List.length_map, List.length_take, List.length_drop]; omega
theorem mendK_zero (n : Nat) (f : ByteArray → ByteArray) (c : List (Nat × ByteArray)) : mendK n f c 0 = c := by simp [mendK]
theorem mendK_full (n : Nat) (f : ByteArray → ByteArray) (c : List (Nat × ByteArray)) : mendK n f c c.length = c.map (mend n f) := by simp [mendK]
theorem mendK_at (n : Nat) (f : ByteArray → ByteArray) (c : List (Nat × ByteArray)) (k : Nat) (h : k < c.length) : (mendK n f c k)[k]'(by rw [mendK_len]; exact h) = c[k] := by
  have hl : ((c.take k).map (mend n f)).length = k := by rw [List.length_map, List.length_take]; omega
  apply Option.some.inj
  rw [← List.getElem?_eq_getElem, ← List.getElem?_eq_getElem]
  unfold mendK
  rw [List.getElem?_append_right (by omega), hl, Nat.sub_self, List.getElem?_drop, Nat.add_zero]
theorem mendK_set (n : Nat) (f : ByteArray → ByteArray) (c : List (Nat × ByteArray)) (k : Nat) (h : k < c.length) : (mendK n f c k).set k (mend n f c[k]) = mendK n f c (k + 1) := by
  have hl : ((c.take k).map (mend n f)).length = k := by rw [List.length_map, List.length_take]; omega
  unfold mendK
  rw [List.set_append_right _ _ (by omega), hl, Nat.sub_self, List.take_succ_eq_append_getElem h, List.map_append, List.append_assoc, List.drop_eq_getElem_cons h]
  rfl
theorem mendK_skip (n : Nat) (f : ByteArray → ByteArray) (c : List (Nat × ByteArray)) (k : Nat) (h : k < c.length) (hne : ¬ (c[k]).1 = n) : mendK n f c (k + 1) = mendK n f c k := by
  rw [← mendK_set n f c k h]
  have e : mend n f c[k] = (mendK n f c k)[k]'(by rw [mendK_len]; exact h) := by rw [mendK_at n f c k h]; unfold mend; rw [if_neg hne]
  rw [e, List.set_getElem_self]
theorem wcells_set (c : List (Nat × ByteArray)) (k : Nat) (h : k < c.length) (y : ByteArray) : (wcells c).set (k * 2 + 1) (.string y) = wcells (c.set k ((c[k]).1, y)) := by
  have e : c = c.take k ++ (c[k] :: c.drop (k + 1)) := by rw [← List.drop_eq_getElem_cons h, List.take_append_drop]
  have l : (wcells (c.take k)).length = k * 2 := by rw [wcells_len, List.length_take]; omega
  have e2 : c.set k ((c[k]).1, y) = c.take k ++ (((c[k]).1, y) :: c.drop (k + 1)) := by rw [List.set_eq_take_append_cons_drop, if_pos h]
  rw [e2, wcells_append, wcells_cons]
  conv => lhs; rw [e, wcells_append, wcells_cons]
  rw [List.set_append_right _ _ (by omega), l, show k * 2 + 1 - k * 2 = 1 from by omega]
  rfl

section
variable {w wr : World} {As : List Ast} {X : Nat} {D : DevM} {r : RRep}
def withCache (D : DevM) (c : List (Nat × ByteArray)) : DevM := { D with cache := c }
theorem rparts_wrote {W : World} {gc cap k : Nat} {c : List (Nat × ByteArray)} {Bs : List Ast} (h : St w W (rParts X (withCache D c) r ++ Bs)) (hv : r.cv = .slice (some ⟨gc, 0, none⟩) c.length cap) (hk : k < c.length) (y : ByteArray) :
    St w (W.setCell ⟨gc, k * 2 + 1, none⟩ (.string y)) (rParts X (withCache D (c.set k ((c[k]).1, y))) r ++ Bs) ∧ W.frozen? ⟨gc, k * 2 + 1, none⟩ = false := by
  have h1 := h.third
  unfold rParts at h1 ⊢
  simp only [hv] at h1
  have h2 : St w W (aRow 96 2 (.slice (some ⟨gc, 0, none⟩) c.length cap) c.length (wcells c) :: aVar X (rHead (withCache D c) r) 50 :: aRow 9 1 r.sv D.nb (strs D.safe) :: ([aRow 3 1 r.kv r.ks.length (intsV r.ks)] ++ Bs)) := h1
  have h3 := (st_put (u := .string y) h2 (by omega : k * 2 + 1 < c.length * 2)).third.third
  rw [wcells_set c k hk, ← hv] at h3
  refine ⟨?_, st_unfrozen h2 _⟩
  have e : (c.set k ((c[k]).1, y)).length = c.length := by simp
  have h4 : St w (W.setCell ⟨gc, k * 2 + 1, none⟩ (.string y)) (aVar X (rHead (withCache D c) r) 50 :: aRow 9 1 r.sv D.nb (strs D.safe) :: aRow 96 2 r.cv (c.set k ((c[k]).1, y)).length (wcells (c.set k ((c[k]).1, y))) :: ([aRow 3 1 r.kv r.ks.length (intsV r.ks)] ++ Bs)) := by rw [e]; exact h3
  exact h4
end
end Go.Proofs.Ytkebilddoanhgaa.dev
