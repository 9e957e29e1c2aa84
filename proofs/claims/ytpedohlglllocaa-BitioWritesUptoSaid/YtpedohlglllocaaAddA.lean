/-
  Layer 1: the contract of a writer's Add, where it answers 0.
-/
import Derived.Test.YtpedohlglllocaaBitF
import Derived.Outline
namespace Go.Proofs.Ytpedohlglllocaa.bits
open Go.ChangeShapes Go.WideShapes Go.ChangeAt Go.RowKit

/-- the first bits of a text -/
def firsts (s : ByteArray) (n : Nat) : List Bool := (bitsOf s.data.toList).take n

theorem length_firsts (s : ByteArray) (n : Nat) (h : n ≤ 8 * s.size) : (firsts s n).length = n := by
  unfold firsts
  rw [List.length_take, length_bitsOf]
  simp
  omega

theorem firsts_step (s : ByteArray) (A k : Nat) (h : A + k ≤ 8 * s.size) : firsts s A ++ ofNum (fld s A k) k = firsts s (A + k) := by
  unfold firsts fld
  have h1 : (((bitsOf s.data.toList).drop A).take k).length = k := by
    rw [List.length_take, List.length_drop, length_bitsOf]
    simp
    omega
  rw [List.take_add]
  congr 1
  have h2 := ofNum_num (((bitsOf s.data.toList).drop A).take k)
  rw [h1] at h2
  exact h2

set_option maxHeartbeats 1000000 in
theorem wadd_ok (s : ByteArray) (n : Nat) (B : Nat) (F : Nat → Prop) (b : List Bool) (sv : Value) (L : List UInt8) (w : World) (hw : Wr w B F b sv L) (hs : s.size ≤ 1152921504606846975) (hn : n ≤ 8 * s.size) (hmax : b.length + n ≤ 134217728) :
    Calls Try.prog 31 #[.pointer (some ⟨B, 0, none⟩), .string s, .int .i64 n] w fun e w' => e = .returned (.int .i64 0) ∧ ∃ F' sv' L', Wr w' B F' (b ++ firsts s n) sv' L' ∧ Ch F w w' ∧ ∀ g, F' g → F g ∨ w.heap.size ≤ g := by
  have hc1 := two_cell1 hw.head
  have hm := hw.max
  have HB := Lib.hid (hw.live B hw.mine)
  have HF := Lib.hid hw.live
  have HW := Lib.hid (hw.alloc (.cells #[.string s] 9))
  have HL : Hid (∀ a, a ≤ n → (b ++ firsts s a).length = b.length + a) := Lib.hid fun a ha => by rw [List.length_append, length_firsts s a (by omega)]
  obtain ⟨ln, hln⟩ : ∃ ln : Nat, ln = b.length := ⟨_, rfl⟩
  rw [← hln] at hc1 hm hmax HL
  have h1 : (n : Int) ≤ ((134217728 : Int) - (ln : Int)) := by omega
  have h2 : (n : Int) ≤ 8 * (s.size : Int) := by omega
  have HI : Hid ((w.alloc (.cells #[.string s] 9)).heap[w.heap.size]? = some (.cells #[.string s] 9 (0, 0))) := Lib.hid (heap_alloc_new w _)
  clear hln hw
  go_enter Try.func31, Try.ntmps31
  go_wp2_with (go_at_call 37; refine (taker_any _ _).mono ?_; rintro e w' ⟨rfl, rfl⟩)
  have HC : Hid (Ch F w (w.alloc (.cells #[.string s] 9))) := Lib.hid ((Ch.refl F w).alloc _)
  have HN : Hid (∀ g, F g → g < w.heap.size) := HF
  generalize w.alloc (.cells #[.string s] 9) = w1 at HW HI HC ⊢
  go_loopw [8] (fun a wr => ∃ A : Nat, a = .int .i64 ↑A ∧ A ≤ n + 63 ∧ wr.heap[w.heap.size]? = some (.cells #[.string s] 9 (0, 0)) ∧ ∃ F1 sv1 L1, Wr wr B F1 (b ++ firsts s (min A n)) sv1 L1 ∧ Ch F w wr ∧ ∀ g, F1 g → F g ∨ w.heap.size + 1 ≤ g) (fun a _ => n + 64 - (intOf a).toNat)
  case atStart => exact ⟨0, rfl, by omega, HI.out, F, sv, L, by simpa [firsts] using HW.out, HC.out, fun g hg => .inl hg⟩
  case round =>
    obtain ⟨A, rfl, hA63, hT, F1, sv1, L1, hW, hC, hN⟩ := hrel
    have HT1 := Lib.hid hT
    have HC1 := Lib.hid hC
    have HN1 := Lib.hid hN
    have HW1 := Lib.hid hW
    clear hT hW hC hN HW HC HI
    have HX : Hid (¬ F1 w.heap.size) := Lib.hid fun h => by
      rcases HN1.out _ h with h | h
      · exact Nat.lt_irrefl _ (HF.out _ h)
      · omega
    by_cases hlt : A < n
    · have hmn : min A n = A := by omega
      rw [hmn] at HW1
      clear hmn
      by_cases hroom : 64 ≤ n - A
      · have e1 : (64 : Int) ≤ (n : Int) - (A : Int) := by omega
        have HTK := Lib.hid (take_any s w.heap.size A 64 wr hs (cell_of_one HT1.out) (by omega) (by omega))
        have HP : Hid (∀ q, Calls Try.prog 36 #[.pointer (some ⟨B, 0, none⟩), .int .u64 (fld s A 64), .int .i64 (64 : Nat)] (wr.drewN q) fun e w' => e = .returned (.tuple #[]) ∧ ∃ F' sv' L', Wr w' B F' (b ++ firsts s A ++ ofNum (fld s A 64) 64) sv' L' ∧ Ch F1 (wr.drewN q) w' ∧ ∀ g, F' g → F1 g ∨ (wr.drewN q).heap.size ≤ g) :=
          Lib.hid fun q => put_any (fld s A 64) 64 B F1 (b ++ firsts s A) sv1 L1 (wr.drewN q) (HW1.out.drewN q) (by omega) (fld_lt s A 64) (by rw [HL.out A (by omega)]; omega)
        go_wp2_with (first | (go_at_call 42; refine HTK.out.mono ?_; rintro e w' ⟨rfl, q, rfl⟩) | (go_at_call 36; refine (HP.out _).mono ?_; rintro e w3 ⟨rfl, hq⟩; have HQ := Lib.hid hq; clear hq))
        go_roundw
        case rel =>
          obtain ⟨F3, v3, L3, hW3, hC3, hN3⟩ := HQ.out
          refine ⟨A + 64, by go_num, by omega, ?_, F3, v3, L3, ?_, (HC1.out.drewN q).trans hC3 ?_, ?_⟩
          · rw [hC3.block w.heap.size (lt_of_block (w := wr) HT1.out) HX.out]; exact HT1.out
          · rw [show min (A + 64) n = A + 64 from by omega, ← firsts_step s A 64 (by omega), ← List.append_assoc]; exact hW3
          · intro g hg
            rcases HN1.out g hg with h | h
            · exact .inl h
            · exact .inr (by omega)
          · intro g hg
            rcases hN3 g hg with h | h
            · exact HN1.out g h
            · exact .inr (by have := lt_of_block (w := wr) HT1.out; have h' : wr.heap.size ≤ g := h; omega)
        case measure => simp [intOf]; omega
      · obtain ⟨k, hk⟩ : ∃ k : Nat, k = n - A := ⟨_, rfl⟩
        have e0 : (n : Int) - (A : Int) = (k : Int) := by omega
        have e1 : IntKind.i64.wrap ((n : Int) - (A : Int)) = (k : Int) := by rw [e0]; exact IntWalk.i64_in _ (by omega)
        have hk64 : (k : Int) < 64 := by omega
        have HTK := Lib.hid (take_any s w.heap.size A k wr hs (cell_of_one HT1.out) (by omega) (by omega))
        have HP : Hid (∀ q, Calls Try.prog 36 #[.pointer (some ⟨B, 0, none⟩), .int .u64 (fld s A k), .int .i64 (k : Nat)] (wr.drewN q) fun e w' => e = .returned (.tuple #[]) ∧ ∃ F' sv' L', Wr w' B F' (b ++ firsts s A ++ ofNum (fld s A k) k) sv' L' ∧ Ch F1 (wr.drewN q) w' ∧ ∀ g, F' g → F1 g ∨ (wr.drewN q).heap.size ≤ g) :=
          Lib.hid fun q => put_any (fld s A k) k B F1 (b ++ firsts s A) sv1 L1 (wr.drewN q) (HW1.out.drewN q) (by omega) (fld_lt s A k) (by rw [HL.out A (by omega)]; omega)
        have HK := Lib.hid hk
        have hAk : A + k = n := by omega
        have HAK := Lib.hid hAk
        clear hk hroom hAk
        go_wp2_with (first | (go_at_call 42; refine HTK.out.mono ?_; rintro e w' ⟨rfl, q, rfl⟩) | (go_at_call 36; refine (HP.out _).mono ?_; rintro e w3 ⟨rfl, hq⟩; have HQ := Lib.hid hq; clear hq))
        go_roundw
        case rel =>
          obtain ⟨F3, v3, L3, hW3, hC3, hN3⟩ := HQ.out
          have hAk := HAK.out
          refine ⟨A + 64, by go_num, by omega, ?_, F3, v3, L3, ?_, (HC1.out.drewN q).trans hC3 ?_, ?_⟩
          · rw [hC3.block w.heap.size (lt_of_block (w := wr) HT1.out) HX.out]; exact HT1.out
          · rw [show min (A + 64) n = A + k from by omega, ← firsts_step s A k (by omega), ← List.append_assoc]; exact hW3
          · intro g hg
            rcases HN1.out g hg with h | h
            · exact .inl h
            · exact .inr (by omega)
          · intro g hg
            rcases hN3 g hg with h | h
            · exact HN1.out g h
            · exact .inr (by have := lt_of_block (w := wr) HT1.out; have h' : wr.heap.size ≤ g := h; omega)
        case measure => simp [intOf]; omega
    · have hmn : min A n = n := by omega
      rw [hmn] at HW1
      clear hmn
      go_wp2_with fail
      go_ret
      exact ⟨rfl, F1, sv1, L1, HW1.out, HC1.out, fun g hg => (HN1.out g hg).imp id fun h => by omega⟩
end Go.Proofs.Ytpedohlglllocaa.bits
