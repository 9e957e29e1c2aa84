/-
  BitioBack: what the walk carries while it reads.
-/
import Derived.Test.YtpedohlglllocaaBackA
namespace Go.Proofs.Ytpedohlglllocaa.bits
open Go.ChangeShapes Go.WideShapes Go.ChangeAt Go.RowKit

structure Fin (w wr : World) (X R T : Nat) (FX FR : Nat → Prop) (b : List Bool) (sX : Value) (LX : List UInt8) (ao : Option Addr) (k : Nat) (pl : Nat → Nat) (s : ByteArray) (p : Nat) : Prop where
  writer : Wr wr X FX b sX LX
  reader : Rd wr R T FR s p
  apart : ∀ g, FX g → ¬ FR g
  row : ∀ j, j < k → ∃ g, ao = some ⟨g, 0, none⟩ ∧ ¬ FR g ∧ wr.cell? ⟨g, j, none⟩ = some (.int .i64 ((pl j : Nat) : Int))
  new : ∀ g, FR g → w.heap.size ≤ g
  ch : Ch (fun _ => False) w wr

section
variable {w wr : World} {X R T : Nat} {FX FR : Nat → Prop} {b : List Bool} {sX : Value} {LX : List UInt8} {ao : Option Addr} {k : Nat} {pl : Nat → Nat} {s : ByteArray} {p : Nat}

theorem Fin.step (h : Fin w wr X R T FX FR b sX LX ao k pl s p) {wq : World} {q : Nat} (hr : Rd wq R T FR s q) (hc : Ch FR wr wq) : Fin w wq X R T FX FR b sX LX ao k pl s q := by
  refine ⟨h.writer.kept hc h.apart, hr, h.apart, fun j hj => ?_, h.new, h.ch.trans hc fun g hg => .inr (h.new g hg)⟩
  obtain ⟨g, h1, h2, h3⟩ := h.row j hj
  refine ⟨g, h1, h2, ?_⟩
  rw [World.cell?_of_block (w := wr) (hc.block g (World.block_lt_of_cell? wr _ h3) h2)]
  exact h3

theorem fin_seek (h : Fin w wr X R T FX FR b sX LX ao k pl s p) (n : Nat) (hn : n ≤ 8 * s.size) :
    Calls Try.prog 21 #[.pointer (some ⟨R, 0, none⟩), .int .i64 n] wr fun e w' => e = .returned (.int .i64 0) ∧ Fin w w' X R T FX FR b sX LX ao k pl s n :=
  (seek_ok h.reader n hn).mono fun _ _ ⟨he, hr, hc⟩ => ⟨he, h.step hr hc⟩

theorem fin_take (h : Fin w wr X R T FX FR b sX LX ao k pl s p) (n : Nat) (hn : n ≤ 64) (hl : p + n ≤ 8 * s.size) :
    Calls Try.prog 19 #[.pointer (some ⟨R, 0, none⟩), .int .i64 n] wr fun e w' => e = .returned (.tuple #[.int .u64 (fld s p n), .int .i64 0]) ∧ Fin w w' X R T FX FR b sX LX ao k pl s (p + n) :=
  (rtake_ok h.reader n hn hl).mono fun _ _ ⟨he, hr, hc⟩ => ⟨he, h.step hr hc⟩

theorem fin_left (h : Fin w wr X R T FX FR b sX LX ao k pl s p) :
    Calls Try.prog 24 #[.pointer (some ⟨R, 0, none⟩)] wr fun e w' => e = .returned (.int .i64 ((8 * s.size - p : Nat) : Int)) ∧ Fin w w' X R T FX FR b sX LX ao k pl s p :=
  (left_any h.reader).mono fun _ _ ⟨he, q, hq⟩ => ⟨he, by subst hq; exact h.step (h.reader.drewN q) ((Ch.refl FR wr).drewN q)⟩
end

/-- a row of numbers as a slice value, nil or not -/
theorem row_slice {w : World} {a : Value} {ns : List Nat} (h : w.ownsRow 0 3 1 a ns.length (ints ns)) :
    ∃ ao cap, a = .slice ao ns.length cap ∧ ∀ j, j < ns.length → ∃ g, ao = some ⟨g, 0, none⟩ ∧ a.ownBlock = some g ∧ w.cell? ⟨g, j, none⟩ = (ints ns)[j]? := by
  rcases h.2 with ⟨rfl, h2⟩ | ⟨g, cap, cur, rfl, _⟩
  · exact ⟨none, 0, by rw [h2], fun j hj => by omega⟩
  · refine ⟨some ⟨g, 0, none⟩, cap, rfl, fun j hj => ⟨g, rfl, rfl, ?_⟩⟩
    rw [h.cellAt j (by omega)]

theorem quiet_at {w : World} {R T : Nat} {F : Nat → Prop} {s : ByteArray} {a : Nat} (h : Rd w R T F s a) (n : Nat) :
    Calls Try.prog 23 #[.pointer (some ⟨R, 0, none⟩)] (w.drewN n) fun e w'' => e = .returned (.int .i64 a) ∧ ∃ m, w'' = w.drewN m :=
  (at_any (h.drewN n)).mono fun _ _ ⟨he, hq⟩ => ⟨he, n, hq.symm⟩
end Go.Proofs.Ytpedohlglllocaa.bits
