/-
  A buffer of bytes as an object: made of a text, written over, turned into a text; and mixing by sectors.
-/
import Derived.Test.YtjmjmekmaamclaaDoorDevS
import Derived.Laws.IdiomStrings
import Derived.Laws.IdiomCopy
import Derived.Lib.LazyBuf
import Derived.Deep.RegionHeld3
namespace Go.Proofs.YtjmjmekmaamclaaDoor.dev
open Go.ChangeShapes Go.WideShapes Go.ChangeAt Go.RowKit mem
set_option linter.unusedVariables false

/-- a buffer of bytes in block b -/
def aBuf (b : Nat) (l : List UInt8) : Ast :=
  ⟨fun w F => (b < w.heap.size ∧ (∀ i x, l[i]? = some x → w.cell? ⟨b, i, none⟩ = some (.int .u8 ((x.toNat : Nat) : Int))) ∧ ∀ i, i < l.length → w.frozen? ⟨b, i, none⟩ = false) ∧ ∀ g, F g ↔ g.1 = b,
   fun ⟨⟨h1, h2, h3⟩, hF⟩ hc hd => by
    have hb := hc.block b h1 (hd (b, []) ((hF _).2 rfl))
    exact ⟨⟨Nat.lt_of_lt_of_le h1 hc.size, fun i x hx => by rw [World.cell?_of_block hb]; exact h2 i x hx, fun i hi => by rw [World.frozen?_of_block hb]; exact h3 i hi⟩, hF⟩,
   fun h g hg => by rw [(h.2 g).1 hg]; exact h.1.1⟩

def cellsOf (l : List UInt8) : List Value := l.map fun x => .int .u8 ((x.toNat : Nat) : Int)

section
variable {w wr : World} {As : List Ast} {b : Nat} {l : List UInt8}
theorem buf_cell (h : St w wr (aBuf b l :: As)) (i : Nat) (hi : i < l.length) : wr.cell? ⟨b, i, none⟩ = some (.int .u8 ((l[i].toNat : Nat) : Int)) := by
  obtain ⟨F, h, _⟩ := h.get
  exact h.2.1 i _ (List.getElem?_eq_getElem hi)
theorem buf_free (h : St w wr (aBuf b l :: As)) (i : Nat) (hi : i < l.length) : wr.frozen? ⟨b, i, none⟩ = false := by
  obtain ⟨F, h, _⟩ := h.get
  exact h.2.2 i hi
theorem buf_new (h : St w wr As) (s : ByteArray) (c : Nat) (ty : TypeId) :
    St w (wr.alloc (.cells (bytesRow s c) ty ((bytesRow s c).size, (bytesRow s c).size + 1))) (aBuf wr.heap.size s.data.toList :: As) := by
  have hb : (wr.alloc (.cells (bytesRow s c) ty ((bytesRow s c).size, (bytesRow s c).size + 1))).heap[wr.heap.size]? = some (.cells (bytesRow s c) ty ((bytesRow s c).size, (bytesRow s c).size + 1)) := heap_alloc_new wr _
  refine h.push ((Ch.refl _ wr).alloc _) (A := aBuf wr.heap.size s.data.toList) (F := fun g => g.1 = wr.heap.size) ⟨⟨lt_of_block hb, fun i x hx => ?_, fun i hi => ?_⟩, fun g => Iff.rfl⟩ fun g hg => by omega
  · rw [cell_of_row _ _ _ _ _ _ hb]
    obtain ⟨hi, he⟩ := List.getElem?_eq_some_iff.1 hx
    have hi' : i < s.data.size := by simpa using hi
    unfold bytesRow
    rw [Array.getElem?_append_left (by simpa using hi'), Array.getElem?_map, Array.getElem?_eq_getElem hi']
    rw [Array.getElem_toList] at he
    rw [he]
    rfl
  · have hi' : i < s.data.size := by simpa using hi
    have : s.data.size ≤ (bytesRow s c).size := by
      unfold bytesRow
      rw [Array.size_append, Array.size_map]
      exact Nat.le_add_right _ _
    unfold World.frozen?
    rw [hb]
    simp
    omega
theorem ch_setCells {F : Nat → Prop} (hb : F b) : ∀ (vs : List Value) (o : Nat) (w a : World), Ch F a w → Ch F a (w.setCells b o vs)
  | [], _, _, _, h => h
  | v :: r, o, w, a, h => ch_setCells hb r (o + 1) _ a (h.setCell (.inl hb) v)
theorem cellsOf_get (t : List UInt8) (j : Nat) (h : j < t.length) : (cellsOf t)[j]'(by simpa [cellsOf] using h) = .int .u8 ((t[j].toNat : Nat) : Int) := by simp [cellsOf]
theorem buf_copy (h : St w wr (aBuf b l :: As)) (t : List UInt8) (o : Nat) (ho : o + t.length ≤ l.length) : St w (wr.setCells b o (cellsOf t)) (aBuf b (l.take o ++ t ++ l.drop (o + t.length)) :: As) := by
  refine h.step fun F ⟨⟨h1, h2, h3⟩, hF⟩ => ⟨F, ⟨⟨?_, fun i x hx => ?_, fun i hi => ?_⟩, hF⟩, ch_setCells (F := full F) (fun q => (hF (b, q)).2 rfl) _ _ _ _ (Ch.refl _ wr), fun g hg => .inl hg⟩
  · have := (ch_setCells (F := full F) (fun q => (hF (b, q)).2 rfl) (cellsOf t) o wr wr (Ch.refl _ wr)).size
    omega
  · have hl : (cellsOf t).length = t.length := by simp [cellsOf]
    have hto : (l.take o).length = o := by rw [List.length_take]; omega
    by_cases c1 : i < o
    · rw [World.cell?_setCells_out b _ _ _ _ fun _ _ => .inl c1]
      rw [List.append_assoc, List.getElem?_append_left (by omega), List.getElem?_take_of_lt c1] at hx
      exact h2 i x hx
    · by_cases c2 : i < o + t.length
      · have e : i = o + (i - o) := by omega
        rw [List.append_assoc, List.getElem?_append_right (by omega), hto, List.getElem?_append_left (by omega), List.getElem?_eq_getElem (by omega)] at hx
        have := World.cell?_setCells_in b (cellsOf t) o wr (fun j hj => by
          rw [hl] at hj
          rw [h2 (o + j) _ (List.getElem?_eq_getElem (by omega))]; rfl) (i - o) (by omega)
        rw [← e] at this
        rw [this, cellsOf_get t (i - o) (by omega), ← Option.some.inj hx]
      · rw [World.cell?_setCells_out b _ _ _ _ fun _ _ => .inr (by rw [hl]; show o + t.length ≤ i; omega)]
        rw [List.getElem?_append_right (by rw [List.length_append]; omega), List.length_append, hto, List.getElem?_drop, show o + t.length + (i - (o + t.length)) = i from by omega] at hx
        exact h2 i x hx
  · rw [World.frozen?_setCells]
    refine h3 i ?_
    simp only [List.length_append, List.length_take, List.length_drop] at hi
    omega
end

/-- mixing, a sector more -/
theorem mixL_len (P : Nat → Bool) (a b : List UInt8) : (mixL P a b).length = a.length := by simp [mixL]
theorem mixL_get (P : Nat → Bool) (a b : List UInt8) (i : Nat) (h : i < a.length) : (mixL P a b)[i]? = some (if P (i / 512) then b.getD i 0 else a.getD i 0) := by
  simp [mixL, List.getElem?_range h]
theorem mixL_none (a b : List UInt8) : mixL (fun _ => false) a b = a := by
  apply List.ext_getElem?
  intro i
  by_cases h : i < a.length
  · rw [mixL_get _ _ _ _ h, List.getElem?_eq_getElem h]
    simp [List.getD_eq_getElem?_getD, List.getElem?_eq_getElem h]
  · rw [List.getElem?_eq_none (by rw [mixL_len]; omega), List.getElem?_eq_none (by omega)]
theorem mixL_congr {P Q : Nat → Bool} {a b : List UInt8} (h : ∀ i, i < a.length → P (i / 512) = Q (i / 512)) : mixL P a b = mixL Q a b := by
  apply List.ext_getElem?
  intro i
  by_cases hi : i < a.length
  · rw [mixL_get _ _ _ _ hi, mixL_get _ _ _ _ hi, h i hi]
  · rw [List.getElem?_eq_none (by rw [mixL_len]; omega), List.getElem?_eq_none (by rw [mixL_len]; omega)]
theorem mixL_more (P : Nat → Bool) (a b : List UInt8) (k : Nat) (hk : 512 * k + 512 ≤ a.length) (hb : b.length = a.length) (hP : P k = true) :
    (mixL (fun s => decide (s < k) && P s) a b).take (512 * k) ++ (b.drop (512 * k)).take 512 ++ (mixL (fun s => decide (s < k) && P s) a b).drop (512 * k + 512) = mixL (fun s => decide (s < k + 1) && P s) a b := by
  apply List.ext_getElem?
  intro i
  have l1 : ((mixL (fun s => decide (s < k) && P s) a b).take (512 * k)).length = 512 * k := by rw [List.length_take, mixL_len]; omega
  have l2 : ((b.drop (512 * k)).take 512).length = 512 := by rw [List.length_take, List.length_drop]; omega
  by_cases c1 : i < 512 * k
  · rw [List.append_assoc, List.getElem?_append_left (by omega), List.getElem?_take_of_lt c1, mixL_get _ _ _ _ (by omega), mixL_get _ _ _ _ (by omega)]
    have : i / 512 < k := by omega
    simp [this, show i / 512 < k + 1 from by omega]
  · by_cases c2 : i < 512 * k + 512
    · have e : i / 512 = k := by omega
      rw [List.append_assoc, List.getElem?_append_right (by omega), l1, List.getElem?_append_left (by omega), List.getElem?_take_of_lt (by omega), List.getElem?_drop, show 512 * k + (i - 512 * k) = i from by omega, mixL_get _ _ _ _ (by omega), e]
      simp [hP, List.getD_eq_getElem?_getD, List.getElem?_eq_getElem (show i < b.length from by omega)]
    · by_cases c3 : i < a.length
      · rw [List.getElem?_append_right (by rw [List.length_append]; omega), List.length_append, l1, l2, List.getElem?_drop, show 512 * k + 512 + (i - (512 * k + 512)) = i from by omega, mixL_get _ _ _ _ c3, mixL_get _ _ _ _ c3]
        simp [show ¬ i / 512 < k from by omega, show ¬ i / 512 < k + 1 from by omega]
      · rw [List.getElem?_eq_none (by simp only [List.length_append, List.length_drop, mixL_len, l1, l2]; omega), List.getElem?_eq_none (by rw [mixL_len]; omega)]
theorem mixL_skip (P : Nat → Bool) (a b : List UInt8) (k : Nat) (hP : P k = false) : mixL (fun s => decide (s < k) && P s) a b = mixL (fun s => decide (s < k + 1) && P s) a b := by
  refine mixL_congr fun i _ => ?_
  by_cases e : i / 512 = k
  · rw [e, hP]; simp
  · have : (i / 512 < k + 1) = (i / 512 < k) := by simp only [eq_iff_iff]; omega
    simp [this]
theorem mixL_all (P : Nat → Bool) (a b : List UInt8) (k : Nat) (h : a.length ≤ 512 * k) : mixL (fun s => decide (s < k) && P s) a b = mixL P a b := by
  refine mixL_congr fun i hi => ?_
  simp [show i / 512 < k from by omega]
theorem shift_int (mask j : Nat) : ((mask : Int) / 2 ^ j).tmod 2 = ((mask / 2 ^ j % 2 : Nat) : Int) := by
  rw [show ((2 : Int) ^ j) = ((2 ^ j : Nat) : Int) from (Int.natCast_pow 2 j).symm, ← Int.natCast_ediv]
  exact (Int.ofNat_tmod _ 2).symm
theorem bit_true {mask j : Nat} (h : mask.testBit j = true) : (((mask : Int) / 2 ^ j).tmod 2 == 1) = true := by
  rw [shift_int]
  rw [Nat.testBit_eq_decide_div_mod_eq] at h
  have : mask / 2 ^ j % 2 = 1 := by simpa using h
  rw [this]
  rfl
theorem bit_false {mask j : Nat} (h : mask.testBit j = false) : (((mask : Int) / 2 ^ j).tmod 2 == 1) = false := by
  rw [shift_int]
  rw [Nat.testBit_eq_decide_div_mod_eq] at h
  have : ¬ mask / 2 ^ j % 2 = 1 := by simpa using h
  rw [beq_eq_false_iff_ne]
  omega
theorem elB : Tryd.prog.elem 119 = 5 := by kernel_rfl
theorem size8 (W : World) : (sizeOf (Tryd.prog.elem 119)).run Tryd.prog W = .ok 1 W := by
  rw [elB]
  kernel_rfl
theorem part_slice (B len cap j : Nat) (h : 512 * j + 512 ≤ cap) (W : World) :
    (Instr.slice 119 (.slice (some ⟨B, 0, none⟩) len cap) (some (.int .i64 (512 * (j : Int)))) (some (.int .i64 (512 * (j : Int) + 512))) none).run Tryd.prog W = .ok (.slice (some ⟨B, 512 * j, none⟩) 512 (cap - 512 * j)) W := by
  have := run_slice_lh (P := Tryd.prog) (w := W) 119 (some ⟨B, 0, none⟩) len cap (by rw [elB]; exact Tryd.underlying119) .i64 .i64 (512 * (j : Int)) (512 * (j : Int) + 512) (by omega) (by omega) (by omega)
  rw [this, size8 W]
  show Result.ok (sliced (some ⟨B, 0, none⟩) (512 * (j : Int)).toNat (512 * (j : Int) + 512).toNat cap 1) W = _
  rw [show (512 * (j : Int)).toNat = 512 * j from by omega, show (512 * (j : Int) + 512).toNat = 512 * j + 512 from by omega]
  unfold sliced
  rw [if_neg (by omega), show 512 * j + 512 - 512 * j = 512 from by omega, Option.map_some, Addr.add_mid, Nat.zero_add, Nat.mul_one]
theorem part_text (s : ByteArray) (j : Nat) (h : 512 * j + 512 ≤ s.size) (W : World) :
    (Instr.slice 9 (.string s) (some (.int .i64 (512 * (j : Int)))) (some (.int .i64 (512 * (j : Int) + 512))) none).run Tryd.prog W = .ok (.string (s.extract (512 * j) (512 * j + 512))) W := by
  have := run_slice_string (P := Tryd.prog) W 9 s .i64 .i64 (512 * (j : Int)) (512 * (j : Int) + 512) Tryd.underlying9 (by omega) (by omega) (by omega)
  rw [this, show (512 * (j : Int)).toNat = 512 * j from by omega, show (512 * (j : Int) + 512).toNat = 512 * j + 512 from by omega]

theorem seg_list (s : ByteArray) (j : Nat) : (s.extract (512 * j) (512 * j + 512)).data.toList = (s.data.toList.drop (512 * j)).take 512 := by
  simp [ByteArray.data_extract, List.take_drop, Array.toList_extract]
set_option maxRecDepth 16000 in
theorem part_copy {w wr : World} {As : List Ast} {B : Nat} {l : List UInt8} (h : St w wr (aBuf B l :: As)) (t : ByteArray) (o dc : Nat) (ty : TypeId) (hz : t.size = 512) (ho : o + 512 ≤ l.length) :
    (Builtin.copy_ #[119, 9] ty #[.slice (some ⟨B, o, none⟩) 512 dc, .string t]).run Tryd.prog wr = .ok (goInt 512) (wr.setCells B o (cellsOf t.data.toList)) := by
  have := run_copy_string (P := Tryd.prog) wr 119 9 ty 5 B o 512 dc t Tryd.underlying119 (fun W => by kernel_rfl) (by omega)
    (fun j hj => by rw [buf_cell h (o + j) (by omega)]; rfl) (fun j hj => buf_free h (o + j) (by omega))
  rw [this, hz]
  rfl
end Go.Proofs.YtjmjmekmaamclaaDoor.dev
