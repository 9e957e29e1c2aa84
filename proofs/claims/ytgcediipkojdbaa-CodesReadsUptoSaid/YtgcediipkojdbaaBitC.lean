/-
  Layer 1: a writer in memory; the contract of (*bitio.Writer).put.
-/
import Derived.Test.YtgcediipkojdbaaRows
import Derived.Test.YtgcediipkojdbaaBits
import Derived.Test.YtgcediipkojdbaaBitB
import Derived.WalkKit
import Derived.ProofKit
import Derived.OpenShut
import Derived.Lib.Hide
import Derived.BigQuiet
import Derived.Deep.QuietTactic
import Derived.BigRegion
import Derived.ChangeAlike
import Derived.Outline
namespace Go.Proofs.Ytgcediipkojdbaa.bits
open Go.ChangeShapes Go.WideShapes Go.ChangeAt Go.RowKit

/-- w' is w but for the blocks of F and new ones -/
structure Ch (F : Nat → Prop) (w w' : World) : Prop where
  os : w'.os = w.os
  tape : w'.tape = w.tape
  output : w'.output = w.output
  size : w.heap.size ≤ w'.heap.size
  block : ∀ k, k < w.heap.size → ¬ F k → w'.heap[k]? = w.heap[k]?

theorem Ch.refl (F : Nat → Prop) (w : World) : Ch F w w := ⟨rfl, rfl, rfl, Nat.le_refl _, fun _ _ _ => rfl⟩
/-- two steps; the second's blocks are the first's, or new ones -/
theorem Ch.trans {F G : Nat → Prop} {a b c : World} (h : Ch F a b) (k : Ch G b c) (hg : ∀ g, G g → F g ∨ a.heap.size ≤ g) : Ch F a c :=
  ⟨k.os.trans h.os, k.tape.trans h.tape, k.output.trans h.output, Nat.le_trans h.size k.size, fun i hi hf => (k.block i (Nat.lt_of_lt_of_le hi h.size) (fun hG => by rcases hg i hG with h' | h'; exact hf h'; omega)).trans (h.block i hi hf)⟩
theorem Ch.drew {F : Nat → Prop} {a w : World} (h : Ch F a w) : Ch F a w.drew := ⟨h.os, h.tape, h.output, h.size, h.block⟩
theorem Ch.drewN {F : Nat → Prop} {a w : World} (h : Ch F a w) (n : Nat) : Ch F a (w.drewN n) := ⟨h.os, h.tape, h.output, h.size, h.block⟩
theorem Ch.alloc {F : Nat → Prop} {a w : World} (h : Ch F a w) (o : Obj) : Ch F a (w.alloc o) :=
  ⟨h.os, h.tape, h.output, Nat.le_trans h.size (by simp), fun i hi hf => (Below.heap_alloc w o i (Nat.lt_of_lt_of_le hi h.size)).trans (h.block i hi hf)⟩
theorem Ch.setCell {F : Nat → Prop} {a w : World} (h : Ch F a w) {p : Addr} (hp : F p.block ∨ a.heap.size ≤ p.block) (u : Value) : Ch F a (w.setCell p u) :=
  ⟨h.os, h.tape, h.output, by simpa using h.size, fun i hi hf => (Below.heap_setCell w p u i (fun e => by rw [← e] at hp; rcases hp with h' | h'; exact hf h'; omega)).trans (h.block i hi hf)⟩
theorem Ch.grown {F : Nat → Prop} {a w w' : World} {row : Option Nat} (h : Ch F a w) (hg : w.grownBy w' row) (hr : ∀ k, row = some k → F k ∨ a.heap.size ≤ k) : Ch F a w' :=
  ⟨hg.os.trans h.os, hg.tape.trans h.tape, hg.output.trans h.output, Nat.le_trans h.size hg.size, fun i hi hf => (hg.block i (Nat.lt_of_lt_of_le hi h.size) (fun e => by rcases hr i e.symm with h' | h'; exact hf h'; omega)).trans (h.block i hi hf)⟩
theorem Ch.mono {F G : Nat → Prop} {a b : World} (h : Ch F a b) (hg : ∀ g, F g → G g) : Ch G a b := ⟨h.os, h.tape, h.output, h.size, fun i hi hf => h.block i hi (fun e => hf (hg i e))⟩

theorem two_cell0 {w : World} {B : Nat} {x y : Value} {t : TypeId} (h : w.heap[B]? = some (.cells #[x, y] t (0, 0))) : w.cell? ⟨B, 0, none⟩ = some x := by simp [World.cell?, h]
theorem two_cell1 {w : World} {B : Nat} {x y : Value} {t : TypeId} (h : w.heap[B]? = some (.cells #[x, y] t (0, 0))) : w.cell? ⟨B, 1, none⟩ = some y := by simp [World.cell?, h]
theorem two_free {w : World} {B : Nat} {x y : Value} {t : TypeId} (h : w.heap[B]? = some (.cells #[x, y] t (0, 0))) (o : Nat) : w.frozen? ⟨B, o, none⟩ = false := by simp [World.frozen?, h]
theorem block_set {w : World} {B o : Nat} {cs : Array Value} {z : Value} {t : TypeId} (h : w.heap[B]? = some (.cells cs t (0, 0))) : (w.setCell ⟨B, o, none⟩ z).heap[B]? = some (.cells (cs.setIfInBounds o z) t (0, 0)) := by
  have hlt := lt_of_block h
  have h' : w.heap[B] = .cells cs t (0, 0) := by simpa [Array.getElem?_eq_getElem hlt] using h
  show (w.heap.modify B _)[B]? = _
  rw [Array.getElem?_eq_getElem (by simpa using hlt), Array.getElem_modify_self, h']
  rfl
theorem two_set0 {w : World} {B : Nat} {x y z : Value} {t : TypeId} (h : w.heap[B]? = some (.cells #[x, y] t (0, 0))) : (w.setCell ⟨B, 0, none⟩ z).heap[B]? = some (.cells #[z, y] t (0, 0)) := block_set h
theorem two_set1 {w : World} {B : Nat} {x y z : Value} {t : TypeId} (h : w.heap[B]? = some (.cells #[x, y] t (0, 0))) : (w.setCell ⟨B, 1, none⟩ z).heap[B]? = some (.cells #[x, z] t (0, 0)) := block_set h

def byteCells (L : List UInt8) : List Value := L.map fun c => .int .u8 (c.toNat : Int)

/-- a writer at block B, in the blocks F, that has the bits b -/
structure Wr (w : World) (B : Nat) (F : Nat → Prop) (b : List Bool) (v : Value) (L : List UInt8) : Prop where
  packs : Packs L b
  head : w.heap[B]? = some (.cells #[v, .int .i64 (b.length : Int)] 73 (0, 0))
  row : w.ownsRow 0 5 1 v L.length (byteCells L)
  mine : F B
  rowMine : ∀ g, v.ownBlock = some g → F g
  apart : v.ownBlock ≠ some B
  max : b.length ≤ 134217728
  live : ∀ g, F g → g < w.heap.size

/-- the same, with room in the last byte -/
structure Mid (w : World) (B : Nat) (F : Nat → Prop) (b : List Bool) (g cap : Nat) (I : List UInt8) (c : UInt8) (r : Nat) : Prop where
  bits : bitsOf (I ++ [c]) = b ++ List.replicate r false
  r8 : r ≤ 8
  head : w.heap[B]? = some (.cells #[.slice (some ⟨g, 0, none⟩) (I.length + 1) cap, .int .i64 (b.length : Int)] 73 (0, 0))
  row : w.ownsRow 0 5 1 (.slice (some ⟨g, 0, none⟩) (I.length + 1) cap) (I.length + 1) (byteCells (I ++ [c]))
  mine : F B
  rowMine : F g
  apart : g ≠ B
  live : ∀ g, F g → g < w.heap.size

theorem Mid.last {w : World} {B : Nat} {F : Nat → Prop} {b : List Bool} {g cap : Nat} {I : List UInt8} {c : UInt8} {r : Nat} (h : Mid w B F b g cap I c r) : w.cell? ⟨g, I.length, none⟩ = some (.int .u8 (c.toNat : Int)) := by
  rw [h.row.cellAt I.length (by omega)]
  simp [byteCells]

theorem Wr.mid {w : World} {B : Nat} {F : Nat → Prop} {b : List Bool} {v : Value} {L : List UInt8} (h : Wr w B F b v L) (hr : b.length % 8 ≠ 0) :
    ∃ g cap I c, v = .slice (some ⟨g, 0, none⟩) (I.length + 1) cap ∧ Mid w B F b g cap I c (8 - b.length % 8) := by
  have hL := h.packs.len
  have hne : L ≠ [] := by intro e; rw [e] at hL; simp at hL; omega
  obtain ⟨I, c, rfl⟩ : ∃ I c, L = I ++ [c] := ⟨L.dropLast, L.getLast hne, (List.dropLast_concat_getLast hne).symm⟩
  obtain ⟨h1, h2⟩ := h.row
  rcases h2 with ⟨_, h2⟩ | ⟨g, cap, cur, hv, h3⟩
  · simp at h2
  · simp only [List.length_append, List.length_cons, List.length_nil, Nat.zero_add] at hv hL
    refine ⟨g, cap, I, c, hv, ?_, by omega, ?_, ?_, h.mine, h.rowMine g (by rw [hv]; rfl), ?_, h.live⟩
    · obtain ⟨z, hz, e⟩ := h.packs
      have := congrArg List.length e
      simp only [length_bitsOf, List.length_append, List.length_cons, List.length_nil, Nat.zero_add, List.length_replicate] at this
      rw [e, show z = 8 - b.length % 8 from by omega]
    · rw [← hv]; exact h.head
    · have := h.row
      rw [hv] at this
      simpa using this
    · have := h.apart
      rw [hv] at this
      intro e; exact this (by rw [e]; rfl)

/-- a byte 0 behind full bytes, stored back into the head: room in the last byte -/
theorem Wr.grow {w w1 : World} {B : Nat} {F : Nat → Prop} {b : List Bool} {v : Value} {L : List UInt8} {o : Obj} {g cap : Nat} (h : Wr w B F b v L) (h8 : b.length % 8 = 0)
    (hown : w1.ownsRow 0 5 1 (.slice (some ⟨g, 0, none⟩) (L.length + 1) cap) (L.length + 1) (byteCells L ++ [.int .u8 0])) (hgr : (w.alloc o).grownBy w1 v.ownBlock) (hg : v.ownBlock = some g ∨ (w.alloc o).heap.size ≤ g) :
    w1.heap[B]? = some (.cells #[v, .int .i64 (b.length : Int)] 73 (0, 0)) ∧
    Mid (w1.setCell ⟨B, 0, none⟩ (.slice (some ⟨g, 0, none⟩) (L.length + 1) cap)) B (fun k => F k ∨ k = g) b g cap L 0 8 ∧ Ch F w (w1.setCell ⟨B, 0, none⟩ (.slice (some ⟨g, 0, none⟩) (L.length + 1) cap)) ∧ ∀ k, (F k ∨ k = g) → F k ∨ w.heap.size ≤ k := by
  have hB : B < w.heap.size := lt_of_block h.head
  have hB1 : w1.heap[B]? = some (.cells #[v, .int .i64 (b.length : Int)] 73 (0, 0)) := by
    rw [hgr.block B (by simp; omega) (fun e => h.apart e.symm), Below.heap_alloc _ _ _ hB]
    exact h.head
  have hgB : g ≠ B := by
    intro e
    rcases hg with hg | hg
    · exact h.apart (by rw [hg, e])
    · simp at hg; omega
  have hgl : g < w1.heap.size := (hown.lt g rfl).2
  have hFg : ∀ k, (F k ∨ k = g) → F k ∨ w.heap.size ≤ k := by
    intro k hk
    rcases hk with hk | rfl
    · exact .inl hk
    · rcases hg with hg | hg
      · exact .inl (h.rowMine _ hg)
      · simp at hg; exact .inr (by omega)
  refine ⟨hB1, ⟨?_, by omega, two_set0 hB1, ?_, .inl h.mine, .inr rfl, hgB, ?_⟩, ?_, hFg⟩
  · obtain ⟨z, hz, e⟩ := h.packs
    have := congrArg List.length e
    simp only [length_bitsOf, List.length_append, List.length_replicate] at this
    obtain rfl : z = 0 := by omega
    rw [bitsOf_append, e, bitsOf_one]
    rw [List.replicate_zero, List.append_nil]
    rfl
  · have := ownsRow_setCell_other hown (a := ⟨B, 0, none⟩) (by simp [Value.ownBlock]; exact hgB) (.slice (some ⟨g, 0, none⟩) (L.length + 1) cap)
    simpa [byteCells] using this
  · intro k hk
    have hs : w.heap.size ≤ w1.heap.size := by have := hgr.size; simp at this; omega
    rcases hk with hk | rfl
    · have := h.live k hk; simp; omega
    · simpa using hgl
  · refine Ch.setCell (Ch.grown ((Ch.refl F w).alloc o) hgr fun k hk => .inl (h.rowMine k hk)) (.inl h.mine) _

/-- a part of a number put into the last byte, and the count raised -/
theorem Mid.fill {w : World} {B : Nat} {F : Nat → Prop} {b : List Bool} {g cap : Nat} {I : List UInt8} {c : UInt8} {r k part : Nat} (h : Mid w B F b g cap I c r) (hk : k ≤ r) (hk0 : 0 < k) (hp : part < 2 ^ k) (hmax : b.length + k ≤ 134217728) :
    ∃ L', Wr ((w.setCell ⟨g, I.length, none⟩ (.int .u8 ((c.toNat ||| part * 2 ^ (r - k) : Nat) : Int))).setCell ⟨B, 1, none⟩ (.int .i64 ((b.length + k : Nat) : Int))) B F (b ++ ofNum part k) (.slice (some ⟨g, 0, none⟩) (I.length + 1) cap) L' ∧
      Ch F w ((w.setCell ⟨g, I.length, none⟩ (.int .u8 ((c.toNat ||| part * 2 ^ (r - k) : Nat) : Int))).setCell ⟨B, 1, none⟩ (.int .i64 ((b.length + k : Nat) : Int))) := by
  have hr8 := h.r8
  have hpr : part * 2 ^ (r - k) < 2 ^ 8 := by
    calc part * 2 ^ (r - k) < 2 ^ k * 2 ^ (r - k) := Nat.mul_lt_mul_of_pos_right hp (Nat.two_pow_pos _)
      _ = 2 ^ r := by rw [← Nat.pow_add]; congr 1; omega
      _ ≤ 2 ^ 8 := Nat.pow_le_pow_right (by omega) hr8
  have hd : c.toNat ||| part * 2 ^ (r - k) < 256 := Nat.or_lt_two_pow (n := 8) (UInt8.toNat_lt c) hpr
  obtain ⟨d, hdd⟩ : ∃ d : UInt8, d.toNat = c.toNat ||| part * 2 ^ (r - k) := ⟨UInt8.ofNat (c.toNat ||| part * 2 ^ (r - k)), by rw [UInt8.toNat_ofNat']; omega⟩
  rw [← hdd]
  have hfill := fill_byte I c b r k part hr8 hk hp h.bits d hdd
  refine ⟨I ++ [d], ⟨⟨r - k, by omega, hfill⟩, ?_, ?_, h.mine, ?_, ?_, ?_, ?_⟩, ?_⟩
  · rw [List.length_append, length_ofNum]
    refine two_set1 (y := .int .i64 (b.length : Int)) ?_
    rw [Below.heap_setCell _ _ _ _ (by simpa using Ne.symm h.apart)]
    exact h.head
  · have hst := (h.row.stored I.length (.int .u8 (d.toNat : Int))).1
    have h2 := ownsRow_setCell_other hst (a := ⟨B, 1, none⟩) (by simp [Value.ownBlock]; exact h.apart) (.int .i64 ((b.length + k : Nat) : Int))
    simpa [byteCells] using h2
  · intro k hk
    simp [Value.ownBlock] at hk
    subst hk
    exact h.rowMine
  · simp [Value.ownBlock]; exact h.apart
  · rw [List.length_append, length_ofNum]; omega
  · intro k hk; have := h.live k hk; simpa using this
  · exact ((Ch.refl F w).setCell (.inl h.rowMine) _).setCell (.inl h.mine) _
end Go.Proofs.Ytgcediipkojdbaa.bits
