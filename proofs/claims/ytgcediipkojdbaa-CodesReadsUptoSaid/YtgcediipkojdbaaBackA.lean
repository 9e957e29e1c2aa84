/-
  BitioBack: the plain facts, and what the walk carries, without the walk.
-/
import Derived.Test.YtgcediipkojdbaaBitR
namespace Go.Proofs.Ytgcediipkojdbaa.bits
open Go.ChangeShapes Go.WideShapes Go.ChangeAt Go.RowKit

def widthOf (N : Int) : Nat := (N.tmod 65 % 65).toNat
theorem width_bd (N : Int) : -64 ≤ N.tmod 65 ∧ N.tmod 65 ≤ 64 := by
  have h1 := Int.tmod_lt_of_pos N (b := 65) (by omega)
  have h2 := Int.lt_tmod_of_pos N (b := 65) (by omega)
  omega
theorem width_eq (N : Int) : N.tmod 65 % 65 = (widthOf N : Int) := by
  have := width_bd N
  unfold widthOf
  omega
theorem width_le (N : Int) : widthOf N ≤ 64 := by
  have := width_bd N
  unfold widthOf
  omega

/-- the bits of the first k numbers -/
def bitsK (V : Nat → Nat) (N : Nat → Int) : Nat → List Bool
  | 0 => []
  | k + 1 => bitsK V N k ++ ofNum (V k) (widthOf (N k))

theorem bitsK_len (V : Nat → Nat) (N : Nat → Int) (k : Nat) : (bitsK V N k).length ≤ 64 * k := by
  induction k with
  | zero => simp [bitsK]
  | succ k ih => have := width_le (N k); simp only [bitsK, List.length_append, length_ofNum]; omega

theorem bitsK_prefix (V : Nat → Nat) (N : Nat → Int) (j k : Nat) (h : j < k) : ∃ r, bitsK V N k = bitsK V N j ++ (ofNum (V j) (widthOf (N j)) ++ r) := by
  induction k with
  | zero => omega
  | succ k ih =>
    rcases Nat.lt_or_ge j k with h' | h'
    · obtain ⟨r, hr⟩ := ih h'
      exact ⟨r ++ ofNum (V k) (widthOf (N k)), by simp only [bitsK, hr, List.append_assoc]⟩
    · obtain rfl : j = k := by omega
      exact ⟨[], by simp [bitsK]⟩

theorem fld_of {L : List UInt8} {b c r : List Bool} {v n : Nat} (hp : Packs L b) (h : b = c ++ (ofNum v n ++ r)) : fld ⟨L.toArray⟩ c.length n = v % 2 ^ n := by
  obtain ⟨z, _, e⟩ := hp
  unfold fld
  show num (List.take n (List.drop c.length (bitsOf L))) = _
  rw [e, h, List.append_assoc, List.drop_append_of_le_length (Nat.le_refl _), List.drop_length, List.nil_append, List.append_assoc, List.take_append_of_le_length (by rw [length_ofNum]; exact Nat.le_refl _), List.take_of_length_le (by rw [length_ofNum]; exact Nat.le_refl _), num_ofNum]

theorem fld_rest {L : List UInt8} {b : List Bool} (hp : Packs L b) : fld ⟨L.toArray⟩ b.length (8 * L.length - b.length) = 0 := by
  obtain ⟨z, _, e⟩ := hp
  have hl := congrArg List.length e
  simp only [length_bitsOf, List.length_append, List.length_replicate] at hl
  unfold fld
  show num (List.take _ (List.drop b.length (bitsOf L))) = _
  rw [e, List.drop_append_of_le_length (Nat.le_refl _), List.drop_length, List.nil_append, List.take_of_length_le (by rw [List.length_replicate]; omega), num_replicate]

theorem size_text (L : List UInt8) : (ByteArray.mk L.toArray).size = L.length := by simp [ByteArray.size]

theorem Packs.room {L : List UInt8} {b : List Bool} (hp : Packs L b) : b.length ≤ 8 * L.length ∧ 8 * L.length < b.length + 8 := by
  obtain ⟨z, _, e⟩ := hp
  have hl := congrArg List.length e
  simp only [length_bitsOf, List.length_append, List.length_replicate] at hl
  omega

def ints (l : List Nat) : List Value := l.map fun z : Nat => Value.int .i64 ((z : Nat) : Int)

theorem row_kept {w w' : World} {G : Nat → Prop} {base : Nat} {e : TypeId} {size : Nat} {v : Value} {n : Nat} {xs : List Value} (h : w.ownsRow base e size v n xs) (hc : Ch G w w') (hg : ∀ g, v.ownBlock = some g → ¬ G g) : w'.ownsRow base e size v n xs := by
  refine ⟨h.1, ?_⟩
  rcases h.2 with h2 | ⟨g, cap, cur, hv, hb, hh, r⟩
  · exact .inl h2
  · exact .inr ⟨g, cap, cur, hv, hb, by rw [hc.block g (lt_of_block hh) (hg g (by rw [hv]; rfl))]; exact hh, r⟩

/-- two writers beside one another, and a row of places, all made since w -/
def Trio (w wr : World) (X Y : Nat) (b c : List Bool) (a : Value) (ns : List Nat) : Prop :=
  ∃ FX sX LX FY sY LY, Wr wr X FX b sX LX ∧ Wr wr Y FY c sY LY ∧ (∀ g, FX g → ¬ FY g) ∧ wr.ownsRow 0 3 1 a ns.length (ints ns) ∧ (∀ g, a.ownBlock = some g → ¬ FX g ∧ ¬ FY g) ∧
    (∀ g, FX g → w.heap.size ≤ g) ∧ (∀ g, FY g → w.heap.size ≤ g) ∧ (∀ g, a.ownBlock = some g → w.heap.size ≤ g) ∧ Ch (fun _ => False) w wr

theorem own_lt {w : World} {base : Nat} {e : TypeId} {size : Nat} {v : Value} {n : Nat} {xs : List Value} (h : w.ownsRow base e size v n xs) {g : Nat} (hg : v.ownBlock = some g) : g < w.heap.size := (h.lt g hg).2

theorem trio_put {w wr : World} {X Y : Nat} {b c : List Bool} {a : Value} {ns : List Nat} (h : Trio w wr X Y b c a ns) (v n : Nat) (hn : n ≤ 64) (hv : v < 2 ^ n) (hmax : b.length + n ≤ 134217728) :
    Calls Try.prog 39 #[.pointer (some ⟨X, 0, none⟩), .int .u64 v, .int .i64 n] wr fun e w' => e = .returned (.int .i64 0) ∧ Trio w w' X Y (b ++ ofNum v n) c a ns := by
  obtain ⟨FX, sX, LX, FY, sY, LY, hX, hY, hd, hr, ha, h1, h2, h3, hc⟩ := h
  refine (wput_ok v n X FX b sX LX wr hX hn hv hmax).mono ?_
  rintro e w' ⟨rfl, F', s', L', hW, hC, hF⟩
  have hs := hc.size
  refine ⟨rfl, F', s', L', FY, sY, LY, hW, hY.kept hC (fun g h1 h2 => hd g h2 h1), ?_, row_kept hr hC fun g hg => (ha g hg).1, ?_, ?_, h2, h3, hc.trans hC fun g hg => .inr (h1 g hg)⟩
  · intro g hg hy
    rcases hF g hg with h | h
    · exact hd g h hy
    · have := hY.live g hy; omega
  · intro g hg
    refine ⟨fun h => ?_, (ha g hg).2⟩
    rcases hF g h with h | h
    · exact (ha g hg).1 h
    · have := own_lt hr hg; omega
  · intro g hg
    rcases hF g hg with h | h
    · exact h1 g h
    · omega

theorem trio_len {w wr : World} {X Y : Nat} {b c : List Bool} {a : Value} {ns : List Nat} (h : Trio w wr X Y b c a ns) :
    Calls Try.prog 20 #[.pointer (some ⟨X, 0, none⟩)] wr fun e w' => e = .returned (.int .i64 b.length) ∧ wr = w' := by
  obtain ⟨FX, sX, LX, FY, sY, LY, hX, _⟩ := h
  exact wlen_any hX

/-- the row of places grows -/
theorem trio_at {w wr w1 : World} {X Y : Nat} {b c : List Bool} {a : Value} {ns : List Nat} {o : Obj} {g cap n : Nat} (h : Trio w wr X Y b c a ns)
    (hown : w1.ownsRow 0 3 1 (.slice (some ⟨g, 0, none⟩) (ns.length + 1) cap) (ns.length + 1) (ints ns ++ [.int .i64 ((n : Nat) : Int)])) (hgr : (wr.alloc o).grownBy w1 a.ownBlock) (hg : a.ownBlock = some g ∨ (wr.alloc o).heap.size ≤ g) :
    Trio w w1 X Y b c (.slice (some ⟨g, 0, none⟩) (ns.length + 1) cap) (ns ++ [n]) := by
  obtain ⟨FX, sX, LX, FY, sY, LY, hX, hY, hd, hr, ha, h1, h2, h3, hc⟩ := h
  have hC : Ch (fun k => a.ownBlock = some k) wr w1 := ((Ch.refl _ wr).alloc o).grown hgr fun k hk => .inl hk
  have hs := hc.size
  refine ⟨FX, sX, LX, FY, sY, LY, hX.kept hC (fun g hg h => (ha g h).1 hg), hY.kept hC (fun g hg h => (ha g h).2 hg), hd, ?_, ?_, h1, h2, ?_, hc.trans hC fun g hg => .inr (h3 g hg)⟩
  · simpa [ints] using hown
  · intro k hk
    simp [Value.ownBlock] at hk
    subst hk
    rcases hg with hg | hg
    · exact ha g hg
    · simp at hg
      exact ⟨fun h => by have := hX.live g h; omega, fun h => by have := hY.live g h; omega⟩
  · intro k hk
    simp [Value.ownBlock] at hk
    subst hk
    rcases hg with hg | hg
    · exact h3 g hg
    · simp at hg; omega

theorem trio_start (w : World) :
    Trio w ((w.alloc (.cells #[.slice none 0 0, .int .i64 0] 73)).alloc (.cells #[.slice none 0 0, .int .i64 0] 73)) w.heap.size (w.heap.size + 1) [] [] (.slice none 0 0) [] := by
  have h1 := (Wr.new w).alloc (.cells #[.slice none 0 0, .int .i64 0] 73)
  have h2 := Wr.new (w.alloc (.cells #[.slice none 0 0, .int .i64 0] 73))
  rw [show (w.alloc (.cells #[.slice none 0 0, .int .i64 0] 73)).heap.size = w.heap.size + 1 from by simp] at h2
  exact ⟨_, _, _, _, _, _, h1, h2, fun g a b => by omega, World.ownsRow_nil _ _ _ _, fun g hg => by simp [Value.ownBlock] at hg, fun g hg => by omega, fun g hg => by omega, fun g hg => by simp [Value.ownBlock] at hg, ((Ch.refl _ w).alloc _).alloc _⟩
end Go.Proofs.Ytgcediipkojdbaa.bits
