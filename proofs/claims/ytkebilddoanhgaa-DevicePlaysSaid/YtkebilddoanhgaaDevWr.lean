/-
  Layer 4, the law's own: written: a device, some writes safe, some not.
-/
import Derived.Test.YtkebilddoanhgaaDevAw
import Derived.Deep.Cut
import Derived.Deep.CutRange
import Derived.Deep.CutBlock
import Derived.Deep.DeepCutAuto
namespace Go.Proofs.Ytkebilddoanhgaa.dev
open Go.ChangeShapes Go.WideShapes Go.ChangeAt Go.RowKit mem
set_option linter.unusedVariables false

/-- a slice of writes, wherever it lies -/
def PutsIn (W : World) (v : Value) (ps : List (Int × ByteArray)) : Prop :=
  ∃ ao cap, v = .slice ao ps.length cap ∧ ∀ i (hi : i < ps.length), ∃ b o, ao = some ⟨b, o, none⟩ ∧ W.cell? ⟨b, o + i * 2, none⟩ = some (.int .i64 (ps[i]).1) ∧ W.cell? ⟨b, o + i * 2 + 1, none⟩ = some (.string (ps[i]).2)
theorem PutsIn.kept {w W : World} {v : Value} {ps : List (Int × ByteArray)} (h : PutsIn w v ps) (hc : Ch (fun _ => False) w W) : PutsIn W v ps := by
  obtain ⟨ao, cap, rfl, h⟩ := h
  exact ⟨ao, cap, rfl, fun i hi => by obtain ⟨b, o, e, h1, h2⟩ := h i hi; exact ⟨b, o, e, hc.cell h1, hc.cell h2⟩⟩
structure PutsOk (ps : List (Int × ByteArray)) : Prop where
  len : ps.length ≤ 17592186043904
  num : ∀ p ∈ ps, InI64 p.1 ∧ p.2.size ≤ 9223372036854775807

/-- the number laid into 0 .. 7, from which the geometry is made -/
def eight (b : Int) : Int := (b.tmod 8 + 8).tmod 8
theorem eight_in (b : Int) : 0 ≤ eight b ∧ eight b ≤ 7 := by
  have h2 := Int.lt_tmod_of_pos b (show (0 : Int) < 8 by omega)
  have h1 := Int.tmod_lt_of_pos (b.tmod 8 + 8) (show (0 : Int) < 8 by omega)
  have h3 := Int.tmod_nonneg 8 (show 0 ≤ b.tmod 8 + 8 by omega)
  exact ⟨h3, by unfold eight; omega⟩
def blockOf (nb : Nat) (n : Int) : Int := (n.tmod nb + nb).tmod nb
theorem blockOf_in (nb : Nat) (n : Int) (h : 0 < nb) : 0 ≤ blockOf nb n ∧ blockOf nb n < nb := by
  have h1 := Int.tmod_lt_of_pos (n.tmod nb + nb) (show (0 : Int) < nb by omega)
  have h2 : -(nb : Int) < n.tmod nb := by have := Int.lt_tmod_of_pos n (show (0 : Int) < nb by omega); omega
  exact ⟨Int.tmod_nonneg _ (by omega), h1⟩
def putM (nb ns : Nat) (p : Int × ByteArray) : Nat × ByteArray := ((blockOf nb p.1).toNat, fillM p.2 (512 * ns))
/-- so many writes more -/
def wroteM (D : DevM) (ps : List (Int × ByteArray)) (k : Nat) : DevM := { D with calls := D.calls + k, cache := D.cache ++ (ps.take k).map (putM D.nb D.ns) }
theorem wroteM_zero (D : DevM) (ps : List (Int × ByteArray)) : wroteM D ps 0 = D := by simp [wroteM]
theorem counted_plain {D : DevM} (hp : D.plan = none) : D.counted = ({ D with calls := D.calls + 1 }, none) := by unfold DevM.counted; rw [hp]
theorem wroteM_more (D : DevM) (ps : List (Int × ByteArray)) (k : Nat) (h : k < ps.length) (hd : D.down = false) (hp : D.plan = none) (hb : 0 < D.nb) :
    (wroteM D ps k).write (blockOf D.nb (ps[k]).1) (fillM (ps[k]).2 (512 * D.ns)) = (wroteM D ps (k + 1), 0) := by
  have hz : (fillM (ps[k]).2 (512 * D.ns)).size = 512 * (wroteM D ps k).ns := fillM_size _ _
  rw [write_none (D := wroteM D ps k) hd (blockOf_in D.nb _ hb) hz (counted_plain (D := wroteM D ps k) hp)]
  unfold wroteM putM
  rw [List.take_succ_eq_append_getElem h, List.map_append, ← List.append_assoc]
  rfl
theorem wroteM_room (D : DevM) (ps : List (Int × ByteArray)) (k m : Nat) (h : D.Room (m + k)) : (wroteM D ps k).Room m :=
  ⟨by show D.calls + k + m ≤ _; have := h.calls; omega, by show D.reads + m ≤ _; have := h.reads; omega, by show (D.cache ++ _).length + m ≤ _; rw [List.length_append, List.length_map, List.length_take]; have := h.cache; omega⟩

section
variable {w wr : World} {As : List Ast} {dev : Nat → DevM → Ast}
theorem put_write (ok : DevOk dev) {D : DevM} {ps : List (Int × ByteArray)} {k nb ns : Nat} {X : Nat} {R : List Ast} (hk : k < ps.length) (hd : D.down = false) (hp : D.plan = none) (hb : 0 < nb) (hb2 : nb ≤ 4096) (hs2 : ns ≤ 8) (en : D.nb = nb) (es : D.ns = ns) (hR : (wroteM D ps k).Room 1) :
    ∀ W', St w W' (dev X (wroteM D ps k) :: R) → Calls Try.prog 21 #[pt X, .int .i64 (((ps[k]).1.tmod nb + nb).tmod nb), .string (fillM (ps[k]).2 (512 * ns))] W' fun e w' => e = .returned (.int .i64 0) ∧ St w w' (dev X (wroteM D ps (k + 1)) :: R) := by
  intro W' h
  subst en es
  have hi := blockOf_in D.nb (ps[k]).1 hb
  have := ok.write h (blockOf D.nb (ps[k]).1) (fillM (ps[k]).2 (512 * D.ns)) ⟨by omega, by omega⟩ (by rw [fillM_size]; omega) hR
  rw [wroteM_more D ps k hk hd hp hb] at this
  exact this
theorem mod_wraps (n : Int) (nb : Nat) (h : InI64 n) (hb : 0 < nb) (hb2 : nb ≤ 4096) : IntKind.i64.wrap (n.tmod nb) = n.tmod nb ∧ IntKind.i64.wrap (n.tmod nb + nb) = n.tmod nb + nb ∧ IntKind.i64.wrap ((n.tmod nb + nb).tmod nb) = (n.tmod nb + nb).tmod nb := by
  have h1 := Int.lt_tmod_of_pos n (show (0 : Int) < nb by omega)
  have h2 := Int.tmod_lt_of_pos n (show (0 : Int) < nb by omega)
  have h3 := blockOf_in nb n hb
  unfold blockOf at h3
  exact ⟨IntWalk.i64_in _ (by omega), IntWalk.i64_in _ (by omega), IntWalk.i64_in _ (by omega)⟩

end
end Go.Proofs.Ytkebilddoanhgaa.dev
