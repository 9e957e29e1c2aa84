/-
  Layer 7, the program: a buffer that is filled: put.
-/
import Derived.Test.YtfgcbbbhnnikdaaPgK
namespace Go.Proofs.Ytfgcbbbhnnikdaa.pg
open Go.ChangeShapes Go.WideShapes Go.ChangeAt Go.RowKit mem
set_option linter.unusedVariables false

/-- a buffer of bytes in block b -/
def aBuf (b : Nat) (l : List UInt8) : Ast :=
  ⟨fun w F => (b < w.heap.size ∧ (∀ i x, l[i]? = some x → w.cell? ⟨b, i, none⟩ = some (.int .u8 ((x.toNat : Nat) : Int))) ∧ ∀ i, i < l.length → w.frozen? ⟨b, i, none⟩ = false) ∧ ∀ g, F g ↔ g.1 = b,
   fun ⟨⟨h1, h2, h3⟩, hF⟩ hc hd => by
    have hb := hc.block b h1 (hd (b, []) ((hF _).2 rfl))
    exact ⟨⟨Nat.lt_of_lt_of_le h1 hc.size, fun i x hx => by rw [World.cell?_of_block hb]; exact h2 i x hx, fun i hi => by rw [World.frozen?_of_block hb]; exact h3 i hi⟩, hF⟩,
   fun h g hg => by rw [(h.2 g).1 hg]; exact h.1.1⟩

section
variable {w wr : World} {As : List Ast} {b : Nat} {l : List UInt8}
theorem buf_cell (h : St w wr (aBuf b l :: As)) (i : Nat) (hi : i < l.length) : wr.cell? ⟨b, i, none⟩ = some (.int .u8 ((l[i].toNat : Nat) : Int)) := by
  obtain ⟨F, h, _⟩ := h.get
  exact h.2.1 i _ (List.getElem?_eq_getElem hi)
theorem buf_free (h : St w wr (aBuf b l :: As)) (i : Nat) (hi : i < l.length) : wr.frozen? ⟨b, i, none⟩ = false := by
  obtain ⟨F, h, _⟩ := h.get
  exact h.2.2 i hi
theorem ch_setCells {F : Nat → Prop} (hb : F b) : ∀ (vs : List Value) (o : Nat) (w a : World), Ch F a w → Ch F a (w.setCells b o vs)
  | [], _, _, _, h => h
  | v :: r, o, w, a, h => ch_setCells hb r (o + 1) _ a (h.setCell (.inl hb) v)
theorem cellsOf_get (t : List UInt8) (j : Nat) (h : j < t.length) : (cellsOf t)[j]'(by simpa [cellsOf] using h) = .int .u8 ((t[j].toNat : Nat) : Int) := by simp [cellsOf]
theorem buf_copy (h : St w wr (aBuf b l :: As)) (t : List UInt8) (o : Nat) (ho : o + t.length ≤ l.length) : St w (wr.setCells b o (cellsOf t)) (aBuf b (l.take o ++ t ++ l.drop (o + t.length)) :: As) := by
  refine h.step fun F ⟨⟨h1, h2, h3⟩, hF⟩ => ⟨F, ⟨⟨?_, fun i x hx => ?_, fun i hi => ?_⟩, hF⟩, ch_setCells (F := full F) (fun q => (hF (b, q)).2 rfl) _ _ _ _ (Ch.refl _ wr), fun g hg => .inl hg⟩
  · have := (ch_setCells (F := full F) (fun q => (hF (b, q)).2 rfl) (cellsOf t) o wr wr (Ch.refl _ wr)).size
    omega
  · have hl : (cellsOf t).length = t.length := by simp [cellsOf]
    have hto : (l.take o).length = o := by rw [List.length_take]; omega
    by_cases c1 : i < o
    · rw [World.cell?_setCells_out b _ _ _ _ fun _ _ => .inl c1]
      rw [List.append_assoc, List.getElem?_append_left (by omega), List.getElem?_take_of_lt c1] at hx
      exact h2 i x hx
    · by_cases c2 : i < o + t.length
      · have e : i = o + (i - o) := by omega
        rw [List.append_assoc, List.getElem?_append_right (by omega), hto, List.getElem?_append_left (by omega), List.getElem?_eq_getElem (by omega)] at hx
        have := World.cell?_setCells_in b (cellsOf t) o wr (fun j hj => by
          rw [hl] at hj
          rw [h2 (o + j) _ (List.getElem?_eq_getElem (by omega))]; rfl) (i - o) (by omega)
        rw [← e] at this
        rw [this, cellsOf_get t (i - o) (by omega), ← Option.some.inj hx]
      · rw [World.cell?_setCells_out b _ _ _ _ fun _ _ => .inr (by rw [hl]; show o + t.length ≤ i; omega)]
        rw [List.getElem?_append_right (by rw [List.length_append]; omega), List.length_append, hto, List.getElem?_drop, show o + t.length + (i - (o + t.length)) = i from by omega] at hx
        exact h2 i x hx
  · rw [World.frozen?_setCells]
    refine h3 i ?_
    simp only [List.length_append, List.length_take, List.length_drop] at hi
    omega
end
section
variable {w : World}
theorem buf_text {W : World} {B cap : Nat} {l : List UInt8} {Bs : List Ast} (h : St w W (aBuf B l :: Bs)) :
    (convert 90 9 (.slice (some ⟨B, 0, none⟩) l.length cap)).run Try.prog W = .ok (.string ⟨l.toArray⟩) W :=
  run_convert_bytes_back (P := Try.prog) W 90 9 5 ⟨B, 0, none⟩ cap l Try.underlying90 Try.underlying5 Try.underlying9 fun j hj => by
    rw [Addr.add_mid, Nat.zero_add]
    exact buf_cell h j hj

end

section
variable {w wr : World} {As : List Ast} {A Bk G z : Nat} {p : ByteArray}
theorem buf_of_row {E : TypeId} {n c : Nat} {l : List UInt8} (h : St w wr (aRow E 1 (.slice (some ⟨G, 0, none⟩) n c) n (cellsOf l) :: As)) : St w wr (aBuf G l :: As) := by
  have hl : l.length = n := by have := st_len h; rw [cellsOf_len] at this; omega
  by_cases hn : 0 < n
  · obtain ⟨g, cap, hv, _⟩ := st_form h hn
    cases hv
    have hc := fun i (hi : i < n) => st_at h rfl i (by omega)
    have hf := fun i => st_unfrozen h i
    refine h.step fun F ⟨hr, hF⟩ => ⟨F, ⟨⟨(own_lt hr rfl), fun i x hx => ?_, fun i hi => hf i⟩, fun g => (hF g).trans (by simp only [Value.ownBlock, Option.some.injEq]; exact eq_comm)⟩, Ch.refl _ _, fun g hg => .inl hg⟩
    have hi := (List.getElem?_eq_some_iff.1 hx).1
    rw [hc i (by omega)]
    simp [cellsOf, hx]
  · obtain rfl : n = 0 := by omega
    refine h.step fun F ⟨hr, hF⟩ => ⟨F, ⟨⟨(own_lt hr rfl), fun i x hx => ?_, fun i hi => by omega⟩, fun g => (hF g).trans (by simp only [Value.ownBlock, Option.some.injEq]; exact eq_comm)⟩, Ch.refl _ _, fun g hg => .inl hg⟩
    have hi := (List.getElem?_eq_some_iff.1 hx).1
    omega
def filL (p : ByteArray) (z : Nat) : List UInt8 := p.data.toList ++ List.replicate (z - p.size) 0
theorem filL_len {p : ByteArray} {z : Nat} (h : p.size ≤ z) : (filL p z).length = z := by unfold filL; rw [List.length_append, data_len, List.length_replicate]; omega
theorem filL_more {p t : ByteArray} {z : Nat} (h : p.size + t.size ≤ z) : (filL p z).take p.size ++ t.data.toList ++ (filL p z).drop (p.size + t.data.toList.length) = filL (p ++ t) z := by
  have e1 : (filL p z).take p.size = p.data.toList := by unfold filL; rw [← data_len p, List.take_left]
  have e2 : (filL p z).drop (p.size + t.data.toList.length) = List.replicate (z - (p ++ t).size) 0 := by
    unfold filL
    rw [data_len, ByteArray.size_append, List.drop_append, List.drop_of_length_le (by rw [data_len]; omega), data_len, List.nil_append, List.drop_replicate]
    congr 1
    omega
  rw [e1, e2]
  unfold filL
  rw [app_data]
abbrev putB (A Bk G z : Nat) (p : ByteArray) (As : List Ast) : List Ast := aBuf G (filL p z) :: aVar A [.int .i64 (p.size : Nat)] 3 :: aVar Bk [.slice (some ⟨G, 0, none⟩) z z] 90 :: As
abbrev pt (b : Nat) : Value := .pointer (some ⟨b, 0, none⟩)
set_option maxRecDepth 16000 in
set_option maxHeartbeats 1000000 in
theorem put_st (h : St w wr (putB A Bk G z p As)) (t : ByteArray) (hz : p.size + t.size ≤ z) (hz4 : z ≤ 4096) :
    Calls Try.prog 75 #[.string t, pt A, pt Bk] wr fun e w' => e = .returned (.tuple #[]) ∧ St w w' (putB A Bk G z (p ++ t) As) := by
  obtain ⟨o, ho⟩ : ∃ o, o = if z = p.size then 0 else p.size := ⟨_, rfl⟩
  have elB : Try.prog.elem 90 = 5 := by kernel_rfl
  have hsl : ∀ W, (Instr.slice 90 (.slice (some ⟨G, 0, none⟩) z z) (some (.int .i64 (p.size : Nat))) none none).run Try.prog W = .ok (.slice (some ⟨G, o, none⟩) (z - p.size) (z - p.size)) W := fun W => by
    have e := run_slice_l (P := Try.prog) (w := W) 90 (some ⟨G, 0, none⟩) z z (by rw [elB]; exact Try.underlying90) .i64 (p.size : Nat) (by omega) (by omega)
    have e8 : (sizeOf (Try.prog.elem 90)).run Try.prog W = .ok 1 W := by rw [elB]; kernel_rfl
    rw [e, e8]
    show Result.ok (sliced (some ⟨G, 0, none⟩) ((p.size : Nat) : Int).toNat z z 1) W = _
    rw [Int.toNat_natCast]
    unfold sliced
    rw [ho]
    by_cases c : z = p.size
    · rw [if_pos c, if_pos c]
    · rw [if_neg c, if_neg c, Option.map_some, Addr.add_mid, Nat.zero_add, Nat.mul_one]
  have hcp : (Builtin.copy_ #[90, 9] 3 #[.slice (some ⟨G, o, none⟩) (z - p.size) (z - p.size), .string t]).run Try.prog wr.drew = .ok (goInt t.size) (wr.drew.setCells G p.size (cellsOf t.data.toList)) := by
    have ho2 : ∀ j, j < t.size → o = p.size := fun j hj => by rw [ho, if_neg (by omega)]
    have := run_copy_string (P := Try.prog) wr.drew 90 9 3 5 G o (z - p.size) (z - p.size) t Try.underlying90 (fun W => by kernel_rfl) (by omega)
      (fun j hj => by rw [ho2 j hj, buf_cell h.drew (p.size + j) (by rw [filL_len (by omega)]; omega)]; rfl) (fun j hj => by rw [ho2 j hj]; exact buf_free h.drew (p.size + j) (by rw [filL_len (by omega)]; omega))
    rw [this]
    by_cases ht : t.size = 0
    · have : t.data.toList = [] := List.length_eq_zero_iff.1 (by rw [data_len]; exact ht)
      rw [this]
      rfl
    · rw [ho2 0 (by omega)]
      rfl
  clear ho
  have h2 := buf_copy h.drew t.data.toList p.size (by rw [filL_len (by omega), data_len]; omega)
  rw [filL_more hz] at h2
  have HE : Hid (St w _ (putB A Bk G z (p ++ t) As)) := Lib.hid (st_set h2.swap 0 (.int .i64 ((p ++ t).size : Nat))).swap
  have a0 : _ = some (Value.int .i64 (p.size : Nat)) := st_cell h.swap 0
  have af := st_free h2.swap 0
  have ac : _ = some (Value.int .i64 (p.size : Nat)) := st_cell h2.swap 0
  have b0 : _ = some (Value.slice (some ⟨G, 0, none⟩) z z) := st_cell h.third 0
  have e1 : IntKind.i64.wrap ((p.size : Int) + (t.size : Int)) = (p.size : Int) + (t.size : Int) := by rw [IntWalk.i64_in _ (by omega)]
  have HSZ : Hid ((((p ++ t).size : Nat) : Int) = (p.size : Int) + (t.size : Int)) := Lib.hid (by rw [ByteArray.size_append]; omega)
  rw [HSZ.out] at HE
  clear h h2 hz
  go_enter Try.func75, Try.ntmps75
  go_wp2_with fail
  go_region
  go_wp2_with fail
  go_end0
  exact ⟨rfl, HE.out⟩
end
end Go.Proofs.Ytfgcbbbhnnikdaa.pg
