/-
  Layer 4, the program's Corrupt.
-/
import Derived.Test.YtkebilddoanhgaaDrvI
import Derived.Test.YtkebilddoanhgaaDevL
namespace Go.Proofs.Ytkebilddoanhgaa.dev
open Go.ChangeShapes Go.WideShapes Go.ChangeAt Go.RowKit mem
set_option linter.unusedVariables false

section
variable {w wr : World} {As : List Ast} {X : Nat} {D : DevM} {r : PRep}

theorem pover_any (s : ByteArray) (k : Nat) (d : ByteArray) (P1 P2 : Nat) (h : k + d.size ≤ s.size) (hs : s.size ≤ 4096) (w : World) (h1 : w.cell? ⟨P1, 0, none⟩ = some (.int .i64 (k : Int))) (h2 : w.cell? ⟨P2, 0, none⟩ = some (.string d)) :
    Calls Try.prog 59 #[.string s, pt P1, pt P2] w fun e w' => e = .returned (.string (over s k d)) ∧ ∃ q, w' = w.drewN q := by
  have s1 : ∀ wx, (Instr.slice 9 (.string s) none (some (.int .i64 (k : Int))) none).run Try.prog wx = .ok (.string (s.extract 0 k)) wx := fun wx => by
    rw [run_slice_string_to_if (P := Try.prog) wx 9 s .i64 k Try.underlying9, if_pos ⟨by omega, by omega⟩, Int.toNat_natCast]
  have s2 : ∀ wx, (Instr.slice 9 (.string s) (some (.int .i64 ((k : Int) + (d.size : Int)))) none none).run Try.prog wx = .ok (.string (s.extract (k + d.size) s.size)) wx := fun wx => by
    rw [run_slice_string_from_if (P := Try.prog) wx 9 s .i64 _ Try.underlying9, if_pos ⟨by omega, by omega⟩, show ((k : Int) + (d.size : Int)).toNat = k + d.size from by omega]
  have e1 : IntKind.i64.wrap ((k : Int) + (d.size : Int)) = (k : Int) + (d.size : Int) := IntWalk.i64_in _ (by omega)
  have g1 : ¬ 9223372036854775807 < (s.extract 0 k).size + d.size := by rw [ByteArray.size_extract]; omega
  have g2 : ¬ 9223372036854775807 < (s.extract 0 k).size + d.size + (s.extract (k + d.size) s.size).size := by rw [ByteArray.size_extract, ByteArray.size_extract]; omega
  unfold over
  generalize s.extract 0 k = A at s1 g1 g2 ⊢
  generalize s.extract (k + d.size) s.size = B at s2 g2 ⊢
  have k0 : (0 : Int) ≤ k := by omega
  clear h hs
  go_enter Try.func59, Try.ntmps59
  go_wp2_with fail
  go_quiet (fail)
  go_wp2_with fail
  go_ret
  exact ⟨rfl, _, rfl⟩

/-- the first k of a list through f -/
def mapK {α : Type} (f : α → α) (c : List α) (k : Nat) : List α := (c.take k).map f ++ c.drop k
theorem mapK_len {α : Type} (f : α → α) (c : List α) (k : Nat) : (mapK f c k).length = c.length := by
  simp only [mapK, List.length_append, List.length_map, List.length_take, List.length_drop]; omega
theorem mapK_zero {α : Type} (f : α → α) (c : List α) : mapK f c 0 = c := by simp [mapK]
theorem mapK_full {α : Type} (f : α → α) (c : List α) : mapK f c c.length = c.map f := by simp [mapK]
theorem mapK_at {α : Type} (f : α → α) (c : List α) (k : Nat) (h : k < c.length) : (mapK f c k)[k]'(by rw [mapK_len]; exact h) = c[k] := by
  have hl : ((c.take k).map f).length = k := by rw [List.length_map, List.length_take]; omega
  apply Option.some.inj
  rw [← List.getElem?_eq_getElem, ← List.getElem?_eq_getElem]
  unfold mapK
  rw [List.getElem?_append_right (by omega), hl, Nat.sub_self, List.getElem?_drop, Nat.add_zero]
theorem mapK_set {α : Type} (f : α → α) (c : List α) (k : Nat) (h : k < c.length) : (mapK f c k).set k (f c[k]) = mapK f c (k + 1) := by
  have hl : ((c.take k).map f).length = k := by rw [List.length_map, List.length_take]; omega
  unfold mapK
  rw [List.set_append_right _ _ (by omega), hl, Nat.sub_self, List.take_succ_eq_append_getElem h, List.map_append, List.append_assoc, List.drop_eq_getElem_cons h]
  rfl

/-- a write with other bytes -/
def mendW (k : Nat) (d : ByteArray) (x : Nat × ByteArray) : Nat × ByteArray := (x.1, over x.2 k d)
/-- behind it -/
def corrupted (D : DevM) (m k : Nat) (d : ByteArray) : DevM := { D with safe := D.safe.set m (over (D.safe.getD m empty) k d), cache := D.cache.map (mend m fun s => over s k d) }
theorem ws_corrupted (m k n : Nat) (d : ByteArray) : (corrupted D m k d).ws n = if n = m then (D.ws n).map (mendW k d) else D.ws n := ws_mend m n (fun s => over s k d) D.cache 0
theorem corrupted_known (a : PKnown D r) {m k : Nat} {d : ByteArray} (hm : m < D.nb) (h : k + d.size ≤ 512 * D.ns) : PKnown (corrupted D m k d) r := by
  refine ⟨⟨a.ok.nb0, a.ok.nb1, a.ok.ns0, a.ok.ns1, by show (D.safe.set _ _).length = _; rw [List.length_set]; exact a.ok.safe, fun s hs => ?_, fun x hx => ?_, a.ok.plan⟩, a.plan, a.crash, a.left, by show r.mc ≤ (D.cache.map _).length; rw [List.length_map]; exact a.mc, fun n hn => ?_⟩
  · rcases List.mem_or_eq_of_mem_set hs with e | rfl
    · exact a.ok.ssz s e
    · have hz := a.ok.ssz _ (getD_mem (n := m) (by rw [a.ok.safe]; exact hm))
      rw [over_size _ _ _ (by rw [hz]; exact h)]
      exact hz
  · obtain ⟨y, hy, rfl⟩ := List.mem_map.1 hx
    have h7 := a.ok.csz y hy
    unfold mend
    split
    · exact ⟨h7.1, by show (over y.2 k d).size = _; rw [over_size _ _ _ (by rw [h7.2]; exact h)]; exact h7.2⟩
    · exact h7
  · rw [ws_corrupted] at hn
    split at hn
    · exact a.none n (List.map_eq_nil_iff.1 hn)
    · exact a.none n hn
theorem corrupted_mapV (m k : Nat) (d : ByteArray) : mapV (corrupted D m k d) r = mapV D r := by
  funext n
  unfold mapV
  rw [ws_corrupted]
  split <;> simp
theorem corrupted_row (m k : Nat) (d : ByteArray) (n : Nat) (h : n ≠ m) : pRow (corrupted D m k d) r n = pRow D r n := by
  unfold pRow
  rw [ws_corrupted, if_neg h]
/-- the writes of block m, the first j of them corrupted -/
def rowJ (D : DevM) (r : PRep) (m k : Nat) (d : ByteArray) (j : Nat) : Ast := aRow 66 2 (r.rv m) (D.ws m).length (wcells (mapK (mendW k d) (D.ws m) j))
theorem corrupted_end {W : World} {m k : Nat} {d : ByteArray} (hm : m < D.nb) (h : St w W (rowJ D r m k d (D.ws m).length :: aMany (butOne (pRow D r) D.nb m) :: aVar X (pHead D r) 60 :: aMap r.mb r.mc (mapV D r) :: aRow 9 1 r.sv D.nb (strs (D.safe.set m (over (D.safe.getD m empty) k d))) :: aShare 3 1 r.kv r.ks.length (intsV r.ks) r.q :: As)) :
    St w W (pParts X (corrupted D m k d) r ++ As) := by
  have e1 : rowJ D r m k d (D.ws m).length = pRow (corrupted D m k d) r m := by
    unfold rowJ pRow
    rw [ws_corrupted, if_pos rfl, mapK_full, List.length_map]
  have e2 : pHead D r = pHead (corrupted D m k d) r := by unfold pHead corrupted; simp
  rw [e1, ← butOne_congr (corrupted_row (D := D) (r := r) m k d), ← corrupted_mapV m k d, e2] at h
  have h1 := one_shut hm h
  have h2 := (h1.swap).rest fun V k => (k.tail fun V k => k.swap)
  have h3 := h2.rest fun V k => (k.swap).tail fun V k => k.swap
  exact h3
end
end Go.Proofs.Ytkebilddoanhgaa.dev
