/-
  CodesBack: rows of numbers in codes; a row and a variable as objects.
-/
import Derived.Test.YtgcediipkojdbaaSep
import Derived.Test.YtgcediipkojdbaaBackA
import Derived.Test.YtgcediipkojdbaaOwn
namespace Go.Proofs.Ytgcediipkojdbaa.bits
open Go.ChangeShapes Go.WideShapes Go.ChangeAt Go.RowKit
set_option linter.unusedVariables false

theorem Try.infoNumber : (Try.prog.info? 49).map (fun i => (i.zero, i.size, i.bytes)) = some (some (.agg #[.int .u8 0, .int .u64 0, .int .u64 0]), 3, 24) := by kernel_rfl

abbrev Num3 := Nat × Nat × Nat
def nbits (ms : List Num3) : List Bool := ms.flatMap fun x => cbits x.1 x.2.1 x.2.2
def ncells (ms : List Num3) : List Value := ms.flatMap fun x => [.int .u8 (x.1 : Int), .int .u64 (x.2.1 : Int), .int .u64 (x.2.2 : Int)]
def Good (ms : List Num3) : Prop := ∀ x ∈ ms, x.1 < 256 ∧ x.2.1 < 18446744073709551616 ∧ fits2 x.1 x.2.1 x.2.2 = true

theorem cut_at (ms : List Num3) (i : Nat) (h : i < ms.length) : ms = ms.take i ++ (ms[i] :: ms.drop (i + 1)) := by rw [← List.drop_eq_getElem_cons h, List.take_append_drop]
theorem nbits_append (a b : List Num3) : nbits (a ++ b) = nbits a ++ nbits b := by simp [nbits]
theorem nbits_cons (x : Num3) (b : List Num3) : nbits (x :: b) = cbits x.1 x.2.1 x.2.2 ++ nbits b := by simp [nbits]
theorem ncells_append (a b : List Num3) : ncells (a ++ b) = ncells a ++ ncells b := by simp [ncells]
theorem ncells_cons (x : Num3) (b : List Num3) : ncells (x :: b) = [.int .u8 (x.1 : Int), .int .u64 (x.2.1 : Int), .int .u64 (x.2.2 : Int)] ++ ncells b := by simp [ncells]
theorem nbits_snoc (ms : List Num3) (x : Num3) : nbits (ms ++ [x]) = nbits ms ++ cbits x.1 x.2.1 x.2.2 := by simp [nbits]
theorem ncells_snoc (ms : List Num3) (x : Num3) : ncells (ms ++ [x]) = ncells ms ++ [.int .u8 (x.1 : Int), .int .u64 (x.2.1 : Int), .int .u64 (x.2.2 : Int)] := by simp [ncells]
theorem Good.snoc {ms : List Num3} {x : Num3} (h : Good ms) (hx : x.1 < 256 ∧ x.2.1 < 18446744073709551616 ∧ fits2 x.1 x.2.1 x.2.2 = true) : Good (ms ++ [x]) := by
  intro y hy
  rcases List.mem_append.1 hy with a | a
  · exact h y a
  · rw [List.mem_singleton.1 a]; exact hx
theorem Good.nil : Good [] := fun _ h => by cases h
theorem Good.len {ms : List Num3} (h : Good ms) : (nbits ms).length ≤ 65536 * ms.length := by
  induction ms with
  | nil => simp [nbits]
  | cons x ms ih =>
    have a := ih fun y hy => h y (List.mem_cons_of_mem _ hy)
    have f := (h x List.mem_cons_self).2.2
    have b := cbits_len (fits2_of f).1 (fits2_of f).2
    have e : nbits (x :: ms) = cbits x.1 x.2.1 x.2.2 ++ nbits ms := by simp [nbits]
    rw [e, List.length_append, List.length_cons]
    omega
theorem ncells_len (ms : List Num3) : (ncells ms).length = 3 * ms.length := by
  induction ms with
  | nil => rfl
  | cons x ms ih =>
    rw [show ncells (x :: ms) = [.int .u8 (x.1 : Int), .int .u64 (x.2.1 : Int), .int .u64 (x.2.2 : Int)] ++ ncells ms from by simp [ncells], List.length_append, ih, List.length_cons]
    simp; omega
theorem ncells_get (ms : List Num3) (i : Nat) (h : i < ms.length) :
    (ncells ms)[i * 3]? = some (.int .u8 ((ms[i]).1 : Int)) ∧ (ncells ms)[i * 3 + 1]? = some (.int .u64 ((ms[i]).2.1 : Int)) ∧ (ncells ms)[i * 3 + 2]? = some (.int .u64 ((ms[i]).2.2 : Int)) := by
  have e : ncells ms = ncells (ms.take i) ++ (([.int .u8 ((ms[i]).1 : Int), .int .u64 ((ms[i]).2.1 : Int), .int .u64 ((ms[i]).2.2 : Int)] : List Value) ++ ncells (ms.drop (i + 1))) := by
    have e := congrArg ncells (cut_at ms i h)
    rw [ncells_append, ncells_cons] at e
    exact e
  have l : (ncells (ms.take i)).length = i * 3 := by rw [ncells_len, List.length_take]; omega
  rw [e]
  refine ⟨?_, ?_, ?_⟩
  · rw [List.getElem?_append_right (by omega), l, Nat.sub_self]; rfl
  · rw [List.getElem?_append_right (by omega), l, show i * 3 + 1 - i * 3 = 1 from by omega]; rfl
  · rw [List.getElem?_append_right (by omega), l, show i * 3 + 2 - i * 3 = 2 from by omega]; rfl
theorem nbits_take (ms : List Num3) (i : Nat) (h : i < ms.length) : nbits (ms.take (i + 1)) = nbits (ms.take i) ++ cbits (ms[i]).1 (ms[i]).2.1 (ms[i]).2.2 := by
  rw [List.take_succ_eq_append_getElem h, nbits_snoc]
theorem nbits_split (ms : List Num3) (i : Nat) (h : i < ms.length) : nbits ms = nbits (ms.take i) ++ (cbits (ms[i]).1 (ms[i]).2.1 (ms[i]).2.2 ++ nbits (ms.drop (i + 1))) := by
  have e := congrArg nbits (cut_at ms i h)
  rw [nbits_append, nbits_cons] at e
  exact e

/-- a row of the law's own -/
def aRow (t : TypeId) (size : Nat) (v : Value) (n : Nat) (xs : List Value) : Ast :=
  ⟨fun w F => w.ownsRow 0 t size v n xs ∧ ∀ g, F g ↔ v.ownBlock = some g, fun h hc hd => ⟨row_kept h.1 hc fun g hg => hd g ((h.2 g).2 hg), h.2⟩, fun h g hg => own_lt h.1 ((h.2 g).1 hg)⟩
/-- a variable -/
def aBlk (b : Nat) (o : Obj) : Ast :=
  ⟨fun w F => w.heap[b]? = some o ∧ ∀ g, F g ↔ g = b, fun h hc hd => ⟨by rw [hc.block b (lt_of_block h.1) (hd b ((h.2 b).2 rfl))]; exact h.1, h.2⟩, fun h g hg => by rw [(h.2 g).1 hg]; exact lt_of_block h.1⟩

section
variable {w wr : World} {As : List Ast} {t : TypeId} {size n : Nat} {v : Value} {xs : List Value} {b : Nat} {o : Obj}

theorem st_row (h : St w wr (aRow t size v n xs :: As)) : wr.ownsRow 0 t size v n xs := by obtain ⟨F, h, _⟩ := h.get; exact h
theorem st_blk (h : St w wr (aBlk b o :: As)) : wr.heap[b]? = some o := by obtain ⟨F, h, _⟩ := h.get; exact h
theorem st_pushrow (h : St w wr As) : St w wr (aRow t size (.slice none 0 0) 0 [] :: As) :=
  h.push (Ch.refl _ wr) (A := aRow t size (.slice none 0 0) 0 []) (F := fun _ => False) ⟨World.ownsRow_nil _ _ _ _, fun g => by simp [Value.ownBlock]⟩ fun g h => h.elim
theorem st_var (h : St w wr As) (cs : Array Value) (t : TypeId) : St w (wr.alloc (.cells cs t)) (aBlk wr.heap.size (.cells cs t (0, 0)) :: As) :=
  h.push ((Ch.refl _ wr).alloc _) (A := aBlk wr.heap.size (.cells cs t (0, 0))) (F := fun g => g = wr.heap.size) ⟨heap_alloc_new wr _, fun g => Iff.rfl⟩ fun g hg => by omega
theorem st_grow {w1 : World} {o : Obj} {g cap m : Nat} {news : List Value} (h : St w wr (aRow t size v n xs :: As)) (hown : w1.ownsRow 0 t size (.slice (some ⟨g, 0, none⟩) m cap) m (xs ++ news)) (hgr : (wr.alloc o).grownBy w1 v.ownBlock) (hg : v.ownBlock = some g ∨ (wr.alloc o).heap.size ≤ g) :
    St w w1 (aRow t size (.slice (some ⟨g, 0, none⟩) m cap) m (xs ++ news) :: As) :=
  h.step fun F ⟨_, hF⟩ => ⟨fun k => k = g, ⟨hown, fun k => by simp only [Value.ownBlock, Option.some.injEq]; exact eq_comm⟩, ((Ch.refl F wr).alloc o).grown hgr fun k hk => .inl ((hF k).2 hk), fun k hk => by
    subst hk
    rcases hg with hg | hg
    · exact .inl ((hF k).2 hg)
    · simp at hg; exact .inr (by omega)⟩
end

theorem lit_cell3 (w : World) (a b c : Value) (t : TypeId) : ∀ j u, [a, b, c][j]? = some u → (w.alloc (.cells #[a, b, c] t)).cell? ((⟨w.heap.size, 0, none⟩ : Addr).add j) = some u := by
  intro j u hj
  have hb := heap_alloc_new w (.cells #[a, b, c] t)
  match j, hj with
  | 0, hj => simp at hj; subst hj; exact three_cell0 hb
  | 1, hj => simp at hj; subst hj; exact three_cell1 hb
  | 2, hj => simp at hj; subst hj; exact three_cell2 hb
theorem lit_one3 (a b c : Int) : ∀ u ∈ [Value.int .u8 a, Value.int .u64 b, Value.int .u64 c], u.oneCell' = true := by
  intro u hu
  simp at hu
  rcases hu with rfl | rfl | rfl <;> rfl

/-- a slice of Numbers that came in -/
structure Nums3 (w : World) (lv : Value) (ao : Option Addr) (len cap : Nat) (kd K V : Nat → Nat) : Prop where
  val : lv = .slice ao len cap
  cells : ∀ i, i < len → ∃ b o, ao = some ⟨b, o, none⟩ ∧ w.cell? ⟨b, o + i * 3, none⟩ = some (.int .u8 (kd i : Int)) ∧ w.cell? ⟨b, o + i * 3 + 1, none⟩ = some (.int .u64 (K i : Int)) ∧ w.cell? ⟨b, o + i * 3 + 2, none⟩ = some (.int .u64 (V i : Int))
  fit : ∀ i, i < len → kd i < 256 ∧ K i < 18446744073709551616 ∧ V i < 18446744073709551616

/-- Len, of whatever number -/
def lens (kd K v : Nat) : Nat × Int := if fits2 kd K v = true then ((cbits kd K v).length, 0) else (0, 1)
theorem st_lens {w wr : World} {As : List Ast} (h : St w wr As) (kd K v : Nat) (hk : kd < 256) (hK : K < 18446744073709551616) :
    Calls Try.prog 22 #[.agg #[.int .u8 kd, .int .u64 K], .int .u64 v] wr fun e w' => e = .returned (.tuple #[.int .i64 ((lens kd K v).1 : Nat), .int .i64 (lens kd K v).2]) ∧ St w w' As := by
  unfold lens
  by_cases f : fits2 kd K v = true
  · rw [if_pos f]
    exact (len_ok kd K v wr hk hK f).mono fun _ _ ⟨he, hc⟩ => ⟨he, h.same hc⟩
  · rw [if_neg f]
    exact (len_bad kd K v wr hk hK (by simpa using f)).mono fun _ _ ⟨he, hc⟩ => ⟨he, h.same hc⟩
end Go.Proofs.Ytgcediipkojdbaa.bits
