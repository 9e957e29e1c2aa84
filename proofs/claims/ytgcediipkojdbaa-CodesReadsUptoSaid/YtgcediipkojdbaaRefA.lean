/-
  Layer 1, the document's answers: Bits, Number, Of, Fits.
-/
import Derived.Test.YtgcediipkojdbaaBackA
import Derived.Test.YtgcediipkojdbaaOwn
import Derived.Test.YtgcediipkojdbaaBitD
import Derived.Outline
namespace Go.Proofs.Ytgcediipkojdbaa.bits
open Go.ChangeShapes Go.WideShapes Go.ChangeAt Go.RowKit
set_option linter.unusedVariables false

theorem Try.info4 : (Try.prog.info? 4).map (fun i => (i.zero, i.size, i.bytes)) = some (some (.bool false), 1, 1) := by kernel_rfl

def bools (l : List Bool) : List Value := l.map Value.bool

theorem lit_oneb (x : Bool) : ∀ u ∈ [Value.bool x], u.oneCell' = true := by intro u hu; simp at hu; subst hu; rfl

/-- a row of bits of the call's own, in new memory since w -/
def NewRow (w w' : World) (v : Value) (l : List Bool) : Prop := w'.ownsRow 0 4 1 v l.length (bools l) ∧ (∀ g, v.ownBlock = some g → w.heap.size ≤ g) ∧ Ch (fun _ => False) w w'

theorem NewRow.nil (w : World) : NewRow w w (.slice none 0 0) [] := ⟨World.ownsRow_nil _ _ _ _, fun g hg => by simp [Value.ownBlock] at hg, Ch.refl _ w⟩

/-- one bit behind -/
theorem NewRow.push {w wr w1 : World} {v : Value} {l : List Bool} {o : Obj} {g cap : Nat} {x : Bool} (h : NewRow w wr v l) (hown : w1.ownsRow 0 4 1 (.slice (some ⟨g, 0, none⟩) (l.length + 1) cap) (l.length + 1) (bools l ++ [.bool x]))
    (hgr : (wr.alloc o).grownBy w1 v.ownBlock) (hg : v.ownBlock = some g ∨ (wr.alloc o).heap.size ≤ g) : NewRow w w1 (.slice (some ⟨g, 0, none⟩) (l.length + 1) cap) (l ++ [x]) := by
  obtain ⟨h1, h2, h3⟩ := h
  have hs := h3.size
  refine ⟨by simpa [bools] using hown, fun k hk => ?_, ?_⟩
  · simp [Value.ownBlock] at hk
    subst hk
    rcases hg with hg | hg
    · exact h2 g hg
    · simp at hg; omega
  · have hC : Ch (fun k => v.ownBlock = some k) wr w1 := ((Ch.refl _ wr).alloc o).grown hgr fun k hk => .inl hk
    exact h3.trans hC fun k hk => .inr (h2 k hk)

def RowEnd (w : World) (l : List Bool) (e : Ending) (w' : World) : Prop := ∃ v, e = .returned v ∧ NewRow w w' v l

theorem rbit_val8 (x r : Nat) (hx : x < 256) : (bits BinOp.and IntKind.u8 ((x : Int) / 2 ^ r) 1 == 1) = x.testBit r := by
  have hd : x / 2 ^ r < 256 := Nat.lt_of_le_of_lt (Nat.div_le_self _ _) hx
  rw [show (x : Int) / 2 ^ r = ((x / 2 ^ r : Nat) : Int) from by simp, show (1 : Int) = ((1 : Nat) : Int) from rfl, u8_and_nat _ _ hd (by omega), nat_mask1, Nat.testBit_eq_decide_div_mod_eq, Bool.eq_iff_iff]
  simp only [beq_iff_eq, decide_eq_true_eq]
  omega
theorem rbit_val (x r : Nat) (hx : x < 18446744073709551616) : (bits BinOp.and IntKind.u64 ((x : Int) / 2 ^ r) 1 == 1) = x.testBit r := by
  have hd : x / 2 ^ r < 18446744073709551616 := Nat.lt_of_le_of_lt (Nat.div_le_self _ _) hx
  rw [show (x : Int) / 2 ^ r = ((x / 2 ^ r : Nat) : Int) from by simp, show (1 : Int) = ((1 : Nat) : Int) from rfl, u64_and_nat _ _ hd (by omega), nat_mask1, Nat.testBit_eq_decide_div_mod_eq, Bool.eq_iff_iff]
  simp only [beq_iff_eq, decide_eq_true_eq]
  omega
theorem rbit_step (x r m : Nat) : ofNum (x / 2 ^ r) (m + 1) = ofNum (x / 2 ^ (r + 1)) m ++ [x.testBit r] := by
  rw [ofNum_append (x / 2 ^ r) m 1, Nat.div_div_eq_div_mul, ← Nat.pow_add]
  simp only [ofNum]
  rw [Nat.testBit_div_two_pow, Nat.zero_add]

end Go.Proofs.Ytgcediipkojdbaa.bits
