/-
  Layer 1, the document's answers: Bits, Number, Of, Fits.
-/
import Derived.Test.YtpedohlglllocaaBackA
import Derived.Test.YtpedohlglllocaaOwn
import Derived.Test.YtpedohlglllocaaBitD
import Derived.Outline
namespace Go.Proofs.Ytpedohlglllocaa.bits
open Go.ChangeShapes Go.WideShapes Go.ChangeAt Go.RowKit
set_option linter.unusedVariables false

theorem Try.info4 : (Try.prog.info? 4).map (fun i => (i.zero, i.size, i.bytes)) = some (some (.bool false), 1, 1) := by kernel_rfl

def bools (l : List Bool) : List Value := l.map Value.bool

theorem lit_oneb (x : Bool) : ∀ u ∈ [Value.bool x], u.oneCell' = true := by intro u hu; simp at hu; subst hu; rfl

/-- a row of bits of the call's own, in new memory since w -/
def NewRow (w w' : World) (v : Value) (l : List Bool) : Prop := w'.ownsRow 0 4 1 v l.length (bools l) ∧ (∀ g, v.ownBlock = some g → w.heap.size ≤ g) ∧ Ch (fun _ => False) w w'

theorem NewRow.nil (w : World) : NewRow w w (.slice none 0 0) [] := ⟨World.ownsRow_nil _ _ _ _, fun g hg => by simp [Value.ownBlock] at hg, Ch.refl _ w⟩

/-- one bit behind -/
theorem NewRow.push {w wr w1 : World} {v : Value} {l : List Bool} {o : Obj} {g cap : Nat} {x : Bool} (h : NewRow w wr v l) (hown : w1.ownsRow 0 4 1 (.slice (some ⟨g, 0, none⟩) (l.length + 1) cap) (l.length + 1) (bools l ++ [.bool x]))
    (hgr : (wr.alloc o).grownBy w1 v.ownBlock) (hg : v.ownBlock = some g ∨ (wr.alloc o).heap.size ≤ g) : NewRow w w1 (.slice (some ⟨g, 0, none⟩) (l.length + 1) cap) (l ++ [x]) := by
  obtain ⟨h1, h2, h3⟩ := h
  have hs := h3.size
  refine ⟨by simpa [bools] using hown, fun k hk => ?_, ?_⟩
  · simp [Value.ownBlock] at hk
    subst hk
    rcases hg with hg | hg
    · exact h2 g hg
    · simp at hg; omega
  · have hC : Ch (fun k => v.ownBlock = some k) wr w1 := ((Ch.refl _ wr).alloc o).grown hgr fun k hk => .inl hk
    exact h3.trans hC fun k hk => .inr (h2 k hk)

def RowEnd (w : World) (l : List Bool) (e : Ending) (w' : World) : Prop := ∃ v, e = .returned v ∧ NewRow w w' v l

theorem rbit_val8 (x r : Nat) (hx : x < 256) : (bits BinOp.and IntKind.u8 ((x : Int) / 2 ^ r) 1 == 1) = x.testBit r := by
  have hd : x / 2 ^ r < 256 := Nat.lt_of_le_of_lt (Nat.div_le_self _ _) hx
  rw [show (x : Int) / 2 ^ r = ((x / 2 ^ r : Nat) : Int) from by simp, show (1 : Int) = ((1 : Nat) : Int) from rfl, u8_and_nat _ _ hd (by omega), nat_mask1, Nat.testBit_eq_decide_div_mod_eq, Bool.eq_iff_iff]
  simp only [beq_iff_eq, decide_eq_true_eq]
  omega
theorem rbit_val (x r : Nat) (hx : x < 18446744073709551616) : (bits BinOp.and IntKind.u64 ((x : Int) / 2 ^ r) 1 == 1) = x.testBit r := by
  have hd : x / 2 ^ r < 18446744073709551616 := Nat.lt_of_le_of_lt (Nat.div_le_self _ _) hx
  rw [show (x : Int) / 2 ^ r = ((x / 2 ^ r : Nat) : Int) from by simp, show (1 : Int) = ((1 : Nat) : Int) from rfl, u64_and_nat _ _ hd (by omega), nat_mask1, Nat.testBit_eq_decide_div_mod_eq, Bool.eq_iff_iff]
  simp only [beq_iff_eq, decide_eq_true_eq]
  omega
theorem rbit_step (x r m : Nat) : ofNum (x / 2 ^ r) (m + 1) = ofNum (x / 2 ^ (r + 1)) m ++ [x.testBit r] := by
  rw [ofNum_append (x / 2 ^ r) m 1, Nat.div_div_eq_div_mul, ← Nat.pow_add]
  simp only [ofNum]
  rw [Nat.testBit_div_two_pow, Nat.zero_add]

set_option maxHeartbeats 1000000 in
theorem of_any (v n : Nat) (w : World) (hv : v < 18446744073709551616) (hn : n ≤ 64) :
    Calls Try.prog 41 #[.int .u64 v, .int .i64 n] w (RowEnd w (ofNum v n)) := by
  obtain ⟨i0, hi, hz0, hz1, hz2⟩ := info_parts Try.info4
  go_enter Try.func41, Try.ntmps41
  go_wp2_with fail
  go_loopw [5, 6] (fun a j wr => ∃ m r : Nat, m + r = n ∧ j = .int .i64 ((r : Int) - 1) ∧ NewRow w wr a (ofNum (v / 2 ^ r) m)) (fun _ j _ => (intOf j + 1).toNat)
  case atStart => exact ⟨0, n, by omega, rfl, by simpa [ofNum] using NewRow.nil w⟩
  case round =>
    obtain ⟨m, r, hmr, rfl, hR⟩ := hrel
    have HR := Lib.hid hR
    have HMR := Lib.hid hmr
    have hr64 : r ≤ 64 := by omega
    have hm64 : m ≤ 64 := by omega
    clear hR hmr
    by_cases hr0 : 0 < r
    · obtain ⟨r', rfl⟩ : ∃ r', r = r' + 1 := ⟨r - 1, by omega⟩
      have hr63 : r' ≤ 63 := by omega
      have e10 := rbit_val v r' hv
      have HS := Lib.hid (rbit_step v r' m)
      have HL := Lib.hid (length_ofNum (v / 2 ^ (r' + 1)) m)
      go_wp2_with (at_builtin; refine wpList_append_mine _ rfl _ _ 26 rfl 4 i0 (.bool false) 1 1 Try.underlying26 hi hz0 hz1 hz2 rfl (by decide) _ _ _ rfl (HR.out.1.alloc _) ⟨wr.heap.size, 0, none⟩ 1 1 [.bool (v.testBit r')] rfl rfl (lit_cell _ _ _) (lit_oneb _) (by decide) (by rw [HL.out]; unfold maxLen; omega) (by rw [HL.out]; omega) ?_; intro g cap2 w3 hown3 hgr3 hg3; have HT3 := Lib.hid (HR.out.push hown3 hgr3 hg3); clear hown3 hgr3 hg3)
      go_roundw
      case rel => exact ⟨m + 1, r', by have := HMR.out; omega, rfl, by rw [HS.out]; exact HT3.out⟩
      case measure => simp [intOf] <;> omega
    · obtain rfl : r = 0 := by omega
      obtain rfl : m = n := by have := HMR.out; omega
      clear HMR hr0
      go_wp2_with fail
      go_ret
      exact ⟨_, rfl, by have h := HR.out; rw [Nat.pow_zero, Nat.div_one] at h; exact h⟩

theorem rfits_any (v : Nat) (n : Int) (hv : v < 18446744073709551616) (h2 : 0 ≤ n) (h3 : n ≤ 64) (w : World) :
    Calls Try.prog 40 #[.int .u64 v, .int .i64 n] w fun e w' => e = .returned (.bool (decide (v < 2 ^ n.toNat))) ∧ w = w' := by
  have h1' : (v : Int) ≤ 18446744073709551615 := by omega
  by_cases h64 : n = 64
  · subst h64
    rw [show decide (v < 2 ^ (64 : Int).toNat) = true from by simpa using hv]
    go_enter Try.func40, Try.ntmps40
    go_wp2_with fail
    go_ret
    exact ⟨rfl, rfl⟩
  · have HE : Hid (((v : Int) / 2 ^ n.toNat == 0) = decide (v < 2 ^ n.toNat)) := by
      show _ = _
      have hp : 0 < 2 ^ n.toNat := Nat.two_pow_pos _
      rw [show (v : Int) / 2 ^ n.toNat = ((v / 2 ^ n.toNat : Nat) : Int) from by simp, Bool.eq_iff_iff]
      simp only [beq_iff_eq, decide_eq_true_eq]
      constructor
      · intro h
        have h' : v / 2 ^ n.toNat = 0 := by omega
        rcases Nat.div_eq_zero_iff.1 h' with h | h
        · omega
        · exact h
      · intro h
        rw [Nat.div_eq_of_lt h]; rfl
    have t64 : (n == 64) = false := by rw [beq_eq_false_iff_ne]; exact h64
    clear h64
    go_enter Try.func40, Try.ntmps40
    go_wp2_with fail
    go_ret
    exact ⟨by rw [← HE.out]; rfl, rfl⟩
end Go.Proofs.Ytpedohlglllocaa.bits
