/-
  Layer 2: the contract of Read.
-/
import Derived.Test.YtgcediipkojdbaaCodeL
import Derived.Defers
import Derived.Outline
namespace Go.Proofs.Ytgcediipkojdbaa.bits
open Go.ChangeShapes Go.WideShapes Go.ChangeAt Go.RowKit
set_option linter.unusedVariables false

theorem close_ok (a4 a5 a2 a7 : Nat) (u : FrameMode) (w : World) (h : w.cell? ⟨a5, 0, none⟩ = some (.int .i64 0)) :
    CallsD Try.prog 28 #[.pointer (some ⟨a5, 0, none⟩), .pointer (some ⟨a4, 0, none⟩), .pointer (some ⟨a2, 0, none⟩), .pointer (some ⟨a7, 0, none⟩)] u w fun e u' w' => u' = u ∧ e = .returned (.tuple #[]) ∧ w' = w := by
  go_enter_d Try.func28, Try.ntmps28
  go_wp2
  go_end0
  exact ⟨rfl, rfl⟩

/-- the variables of a reading call: the reader's place, the two results, the place to go back to -/
structure Vars (w : World) (a2 a4 a5 a7 : Nat) (R : Nat) (x y p : Int) : Prop where
  b2 : w.heap[a2]? = some (.cells #[.pointer (some ⟨R, 0, none⟩)] 23 (0, 0))
  b4 : w.heap[a4]? = some (.cells #[.int .u64 x] 30 (0, 0))
  b5 : w.heap[a5]? = some (.cells #[.int .i64 y] 31 (0, 0))
  b7 : w.heap[a7]? = some (.cells #[.int .i64 p] 3 (0, 0))

theorem one_free {w : World} {B : Nat} {x : Value} {t : TypeId} (h : w.heap[B]? = some (.cells #[x] t (0, 0))) : w.frozen? ⟨B, 0, none⟩ = false := by simp [World.frozen?, h]
theorem one_set {w : World} {B : Nat} {x z : Value} {t : TypeId} (h : w.heap[B]? = some (.cells #[x] t (0, 0))) : (w.setCell ⟨B, 0, none⟩ z).heap[B]? = some (.cells #[z] t (0, 0)) := block_set h
theorem other_set {w : World} {B C : Nat} {z : Value} (h : C ≠ B) : (w.setCell ⟨B, 0, none⟩ z).heap[C]? = w.heap[C]? := Below.heap_setCell _ _ _ _ (by simpa using h)

theorem Vars.kept {w w' : World} {a2 a4 a5 a7 R : Nat} {x y p : Int} {F : Nat → Prop} (h : Vars w a2 a4 a5 a7 R x y p) (hc : Ch F w w') (h2 : ¬ F a2) (h4 : ¬ F a4) (h5 : ¬ F a5) (h7 : ¬ F a7) : Vars w' a2 a4 a5 a7 R x y p :=
  ⟨by rw [hc.block _ (lt_of_block h.b2) h2]; exact h.b2, by rw [hc.block _ (lt_of_block h.b4) h4]; exact h.b4, by rw [hc.block _ (lt_of_block h.b5) h5]; exact h.b5, by rw [hc.block _ (lt_of_block h.b7) h7]; exact h.b7⟩

theorem close_bad {w : World} {a2 a4 a5 a7 R T : Nat} {F : Nat → Prop} {s : ByteArray} {p q : Nat} {x : Int} (u : FrameMode) (h : Vars w a2 a4 a5 a7 R x 4 p) (hR : Rd w R T F s q) (hp : p ≤ 8 * s.size) (h24 : a2 ≠ a4) (h45 : a5 ≠ a4) (h74 : a7 ≠ a4) (h2 : ¬ F a2) (h4 : ¬ F a4) (h5 : ¬ F a5) (h7 : ¬ F a7) :
    CallsD Try.prog 28 #[.pointer (some ⟨a5, 0, none⟩), .pointer (some ⟨a4, 0, none⟩), .pointer (some ⟨a2, 0, none⟩), .pointer (some ⟨a7, 0, none⟩)] u w fun e u' w' => u' = u ∧ e = .returned (.tuple #[]) ∧ Vars w' a2 a4 a5 a7 R 0 4 p ∧ Rd w' R T F s p ∧ Ch (fun g => F g ∨ g = a4) w w' := by
  have hc4 := cell_of_one h.b4
  have hc5 := cell_of_one h.b5
  have hf4 := one_free h.b4
  have hV : Vars (w.setCell ⟨a4, 0, none⟩ (.int .u64 0)) a2 a4 a5 a7 R 0 4 p := ⟨by rw [other_set h24]; exact h.b2, one_set h.b4, by rw [other_set h45]; exact h.b5, by rw [other_set h74]; exact h.b7⟩
  have hC1 : Ch (fun g => F g ∨ g = a4) w (w.setCell ⟨a4, 0, none⟩ (.int .u64 0)) := (Ch.refl (fun g => F g ∨ g = a4) w).setCell (p := ⟨a4, 0, none⟩) (.inl (.inr rfl)) _
  have hR1 : Rd (w.setCell ⟨a4, 0, none⟩ (.int .u64 0)) R T F s q := hR.kept ((Ch.refl (fun g => g = a4) w).setCell (p := ⟨a4, 0, none⟩) (.inl rfl) _) fun g hg e => h4 (e ▸ hg)
  have HS := Lib.hid (seek_ok hR1 p hp)
  have hcB := cell_of_one hV.b2
  have hcD := cell_of_one hV.b7
  have HV := Lib.hid hV
  have HC1 := Lib.hid hC1
  clear hV hC1 hR1 hR h hp
  go_enter_d Try.func28, Try.ntmps28
  go_wp2_with (go_at_call 24; refine HS.out.mono ?_; rintro e w' ⟨rfl, hq⟩; have HQ := Lib.hid hq; clear hq)
  go_end0
  exact ⟨rfl, HV.out.kept HQ.out.2 h2 h4 h5 h7, HQ.out.1, HC1.out.trans HQ.out.2 fun g hg => .inl (.inl hg)⟩

/-- what Read answers -/
def Told (w : World) (R T : Nat) (F : Nat → Prop) (s : ByteArray) (p : Nat) (tex : Nat → List Bool) (mx : Nat) (e : Ending) (w' : World) : Prop :=
  (∃ v, v ≤ mx ∧ tex v <+: rest s p ∧ e = .returned (.tuple #[.int .u64 (v : Nat), .int .i64 0]) ∧ Rd w' R T F s (p + (tex v).length) ∧ Ch F w w') ∨
  ((∀ v, v ≤ mx → ¬ tex v <+: rest s p) ∧ e = .returned (.tuple #[.int .u64 0, .int .i64 4]) ∧ Rd w' R T F s p ∧ Ch F w w')

/-- the blocks of Read's variables, laid ahead of the place's -/
theorem read_start (w : World) (R : Nat) (kd K p : Int) {w5 : World} (h : w5 = ((((w.alloc (.cells #[.pointer (some ⟨R, 0, none⟩)] 23)).alloc (.cells #[.int .u8 kd, .int .u64 K] 35)).alloc (.cells #[.int .u64 0] 30)).alloc (.cells #[.int .i64 0] 31)).alloc (.cells #[.int .u8 kd, .int .u64 K] 35)) :
    Ch (fun _ => False) w w5 ∧ w5.heap.size = w.heap.size + 5 ∧ Vars (w5.alloc (.cells #[.int .i64 p] 3)) w.heap.size (w.heap.size + 1 + 1) (w.heap.size + 1 + 1 + 1) (w.heap.size + 5) R 0 0 p ∧ w5.heap[w.heap.size + 1]? = some (.cells #[.int .u8 kd, .int .u64 K] 35 (0, 0)) := by
  obtain ⟨w1, h1⟩ : ∃ w1, w1 = w.alloc (.cells #[.pointer (some ⟨R, 0, none⟩)] 23) := ⟨_, rfl⟩
  obtain ⟨w2, h2⟩ : ∃ w2, w2 = w1.alloc (.cells #[.int .u8 kd, .int .u64 K] 35) := ⟨_, rfl⟩
  obtain ⟨w3, h3⟩ : ∃ w3, w3 = w2.alloc (.cells #[.int .u64 0] 30) := ⟨_, rfl⟩
  obtain ⟨w4, h4⟩ : ∃ w4, w4 = w3.alloc (.cells #[.int .i64 0] 31) := ⟨_, rfl⟩
  rw [← h1, ← h2, ← h3, ← h4] at h
  have s1 : w1.heap.size = w.heap.size + 1 := by rw [h1]; simp
  have s2 : w2.heap.size = w.heap.size + 2 := by rw [h2]; simp [s1]
  have s3 : w3.heap.size = w.heap.size + 3 := by rw [h3]; simp [s2]
  have s4 : w4.heap.size = w.heap.size + 4 := by rw [h4]; simp [s3]
  have s5 : w5.heap.size = w.heap.size + 5 := by rw [h]; simp [s4]
  have b1 : w1.heap[w.heap.size]? = some (.cells #[.pointer (some ⟨R, 0, none⟩)] 23 (0, 0)) := by rw [h1]; exact heap_alloc_new w _
  have b2 : w2.heap[w.heap.size + 1]? = some (.cells #[.int .u8 kd, .int .u64 K] 35 (0, 0)) := by rw [h2, ← s1]; exact heap_alloc_new w1 _
  have b3 : w3.heap[w.heap.size + 2]? = some (.cells #[.int .u64 0] 30 (0, 0)) := by rw [h3, ← s2]; exact heap_alloc_new w2 _
  have b4 : w4.heap[w.heap.size + 3]? = some (.cells #[.int .i64 0] 31 (0, 0)) := by rw [h4, ← s3]; exact heap_alloc_new w3 _
  have c12 : Ch (fun _ => False) w1 w2 := by rw [h2]; exact (Ch.refl _ w1).alloc _
  have c23 : Ch (fun _ => False) w2 w3 := by rw [h3]; exact (Ch.refl _ w2).alloc _
  have c34 : Ch (fun _ => False) w3 w4 := by rw [h4]; exact (Ch.refl _ w3).alloc _
  have c45 : Ch (fun _ => False) w4 w5 := by rw [h]; exact (Ch.refl _ w4).alloc _
  have c01 : Ch (fun _ => False) w w1 := by rw [h1]; exact (Ch.refl _ w).alloc _
  have c35 := c34.trans c45 fun _ h => h.elim
  have c25 := c23.trans c35 fun _ h => h.elim
  have c15 := c12.trans c25 fun _ h => h.elim
  have c56 : Ch (fun _ => False) w5 (w5.alloc (.cells #[.int .i64 p] 3)) := (Ch.refl _ w5).alloc _
  refine ⟨c01.trans c15 fun _ h => h.elim, s5, ⟨?_, ?_, ?_, by rw [← s5]; exact heap_alloc_new w5 _⟩, ?_⟩
  · rw [(c15.trans c56 fun _ h => h.elim).block _ (by omega) (fun h => h)]; exact b1
  · rw [(c35.trans c56 fun _ h => h.elim).block _ (by omega) (fun h => h)]; exact b3
  · rw [(c45.trans c56 fun _ h => h.elim).block _ (by omega) (fun h => h)]; exact b4
  · rw [c25.block _ (by omega) (fun h => h)]; exact b2

theorem read_ok_end {w w7 : World} {R T H5 q : Nat} {F : Nat → Prop} {s : ByteArray} {p : Int} (hV : Vars w7 w.heap.size (w.heap.size + 1 + 1) (w.heap.size + 1 + 1 + 1) H5 R 0 0 p) (hR : Rd w7 R T F s q) (hC : Ch F w w7) (hn : ∀ g, w.heap.size ≤ g → ¬ F g) (v : Int) :
    ((w7.setCell ⟨w.heap.size + 1 + 1, 0, none⟩ (.int .u64 v)).setCell ⟨w.heap.size + 1 + 1 + 1, 0, none⟩ (.int .i64 0)).cell? ⟨w.heap.size + 1 + 1, 0, none⟩ = some (.int .u64 v) ∧
    ((w7.setCell ⟨w.heap.size + 1 + 1, 0, none⟩ (.int .u64 v)).setCell ⟨w.heap.size + 1 + 1 + 1, 0, none⟩ (.int .i64 0)).cell? ⟨w.heap.size + 1 + 1 + 1, 0, none⟩ = some (.int .i64 0) ∧
    Rd ((w7.setCell ⟨w.heap.size + 1 + 1, 0, none⟩ (.int .u64 v)).setCell ⟨w.heap.size + 1 + 1 + 1, 0, none⟩ (.int .i64 0)) R T F s q ∧ Ch F w ((w7.setCell ⟨w.heap.size + 1 + 1, 0, none⟩ (.int .u64 v)).setCell ⟨w.heap.size + 1 + 1 + 1, 0, none⟩ (.int .i64 0)) := by
  have hG : Ch (fun g => w.heap.size ≤ g) w7 ((w7.setCell ⟨w.heap.size + 1 + 1, 0, none⟩ (.int .u64 v)).setCell ⟨w.heap.size + 1 + 1 + 1, 0, none⟩ (.int .i64 0)) :=
    ((Ch.refl (fun g => w.heap.size ≤ g) w7).setCell (p := ⟨w.heap.size + 1 + 1, 0, none⟩) (.inl (by show w.heap.size ≤ w.heap.size + 1 + 1; omega)) _).setCell (p := ⟨w.heap.size + 1 + 1 + 1, 0, none⟩) (.inl (by show w.heap.size ≤ w.heap.size + 1 + 1 + 1; omega)) _
  refine ⟨cell_of_one (by rw [other_set (by omega)]; exact one_set hV.b4), cell_of_one (one_set (by rw [other_set (by omega)]; exact hV.b5)), hR.kept hG fun g hg h => hn g h hg, hC.trans hG fun g hg => .inr hg⟩

theorem read_bad_end {w w7 : World} {R T q : Nat} {F : Nat → Prop} {s : ByteArray} {p : Int} (hV : Vars w7 w.heap.size (w.heap.size + 1 + 1) (w.heap.size + 1 + 1 + 1) (w.heap.size + 5) R 0 0 p) (hR : Rd w7 R T F s q) (hC : Ch F w w7) (hn : ∀ g, w.heap.size ≤ g → ¬ F g) (x : Int) :
    Vars ((w7.setCell ⟨w.heap.size + 1 + 1, 0, none⟩ (.int .u64 x)).setCell ⟨w.heap.size + 1 + 1 + 1, 0, none⟩ (.int .i64 4)) w.heap.size (w.heap.size + 1 + 1) (w.heap.size + 1 + 1 + 1) (w.heap.size + 5) R x 4 p ∧
    Rd ((w7.setCell ⟨w.heap.size + 1 + 1, 0, none⟩ (.int .u64 x)).setCell ⟨w.heap.size + 1 + 1 + 1, 0, none⟩ (.int .i64 4)) R T F s q ∧ Ch F w ((w7.setCell ⟨w.heap.size + 1 + 1, 0, none⟩ (.int .u64 x)).setCell ⟨w.heap.size + 1 + 1 + 1, 0, none⟩ (.int .i64 4)) := by
  have hG : Ch (fun g => w.heap.size ≤ g) w7 ((w7.setCell ⟨w.heap.size + 1 + 1, 0, none⟩ (.int .u64 x)).setCell ⟨w.heap.size + 1 + 1 + 1, 0, none⟩ (.int .i64 4)) :=
    ((Ch.refl (fun g => w.heap.size ≤ g) w7).setCell (p := ⟨w.heap.size + 1 + 1, 0, none⟩) (.inl (by show w.heap.size ≤ w.heap.size + 1 + 1; omega)) _).setCell (p := ⟨w.heap.size + 1 + 1 + 1, 0, none⟩) (.inl (by show w.heap.size ≤ w.heap.size + 1 + 1 + 1; omega)) _
  refine ⟨⟨?_, ?_, ?_, ?_⟩, hR.kept hG fun g hg h => hn g h hg, hC.trans hG fun g hg => .inr hg⟩
  · rw [other_set (by omega), other_set (by omega)]; exact hV.b2
  · rw [other_set (by omega)]; exact one_set hV.b4
  · exact one_set (by rw [other_set (by omega)]; exact hV.b5)
  · rw [other_set (by omega), other_set (by omega)]; exact hV.b7

theorem read_gamma {w : World} {R T : Nat} {F : Nat → Prop} {s : ByteArray} {p : Nat} (h : Rd w R T F s p) :
    Calls Try.prog 10 #[.pointer (some ⟨R, 0, none⟩), .agg #[.int .u8 1, .int .u64 0]] w (Told w R T F s p gam 281474976710654) := by
  have hmf : ∀ (fn : Fn) (first cap : Array Value) (w : World), (Instr.makeFunc fn first cap).run Try.prog w = .ok (.func fn first cap) w := fun _ _ _ _ => rfl
  have HC := Lib.hid fun W : World => check_any 1 0 W (by omega) (by omega)
  have HA := Lib.hid fun (W : World) (hc : Ch (fun _ => False) w W) => at_any (h.kept hc fun _ _ h => h)
  have HU := Lib.hid fun (W : World) (hc : Ch (fun _ => False) w W) => readGamma_any (h.kept hc fun _ _ h => h)
  rw [show ck 1 0 = 0 from rfl] at HC
  have HR := Lib.hid h
  clear h
  go_enter_defers Try.func10, Try.ntmps10
  go_wp2_with (go_at_call 26; refine (HC.out _).mono ?_; rintro e w' ⟨rfl, rfl⟩)
  obtain ⟨w5, h5⟩ : ∃ w5, w5 = ((((w.alloc (.cells #[.pointer (some ⟨R, 0, none⟩)] 23)).alloc (.cells #[.int .u8 1, .int .u64 0] 35)).alloc (.cells #[.int .u64 0] 30)).alloc (.cells #[.int .i64 0] 31)).alloc (.cells #[.int .u8 1, .int .u64 0] 35) := ⟨_, rfl⟩
  obtain ⟨hch, hsz, hV, hB⟩ := read_start w R 1 0 (p : Int) h5
  rw [← h5]
  clear h5
  refine (HA.out _ hch).mono ?_
  rintro e w' ⟨rfl, rfl⟩
  have hk0 := two_cell0 hB
  have hr0 := cell_of_one (show w5.heap[w.heap.size]? = _ from by have := hV.b2; rw [Below.heap_alloc _ _ _ (by omega)] at this; exact this)
  go_wp2_with fail
  refine (HU.out _ (hch.alloc _)).mono ?_
  rintro e w7 (⟨v, hv, hp, rfl, hR7, hc7⟩ | ⟨hn, x, p', rfl, hR7, hc7⟩)
  · have hnF : ∀ g, w.heap.size ≤ g → ¬ F g := fun g hg c => absurd (HR.out.live g c) (by omega)
    have hV7 := hV.kept hc7 (hnF _ (by omega)) (hnF _ (by omega)) (hnF _ (by omega)) (hnF _ (by omega))
    have hc4 := cell_of_one hV7.b4
    have hc5 := cell_of_one hV7.b5
    have hf4 := one_free hV7.b4
    have hf5 := one_free hV7.b5
    have HV7 := Lib.hid hV7
    have HV := Lib.hid hv
    have HP := Lib.hid hp
    have HR7 := Lib.hid hR7
    have HC7 := Lib.hid ((hch.alloc (.cells #[.int .i64 (p : Int)] 3)).mono (G := F) (fun _ h => h.elim) |>.trans hc7 fun g h => .inl h)
    clear hv hp hR7 hc7 hV7 hV hk0 hr0 hB hch hsz HU HA HC
    go_wp2_with fail
    have hE := read_ok_end HV7.out HR7.out HC7.out hnF (v : Int)
    have HE := Lib.hid hE.2.2
    have hE4 := hE.1
    have hE5 := hE.2.1
    clear hE hc4 hc5 hf4 hf5
    generalize (w7.setCell ⟨w.heap.size + 1 + 1, 0, none⟩ (.int .u64 (v : Int))).setCell ⟨w.heap.size + 1 + 1 + 1, 0, none⟩ (.int .i64 0) = w8 at hE4 hE5 HE ⊢
    refine leaves_cons (f := 28) (args := #[.pointer (some ⟨w.heap.size + 1 + 1 + 1, 0, none⟩), .pointer (some ⟨w.heap.size + 1 + 1, 0, none⟩), .pointer (some ⟨w.heap.size, 0, none⟩), .pointer (some ⟨w.heap.size + 5, 0, none⟩)]) (by simp) (by simp [go_sem]) ?_
    refine (close_ok _ _ _ _ _ _ hE5).mono ?_
    rintro e u' w'' ⟨rfl, rfl, rfl⟩
    simp [Leaves, settle, results, Try.results10, go_sem, hE4, hE5]
    exact .inl ⟨v, HV.out, HP.out, rfl, HE.out.1, HE.out.2⟩
  · have hnF : ∀ g, w.heap.size ≤ g → ¬ F g := fun g hg c => absurd (HR.out.live g c) (by omega)
    have hV7 := hV.kept hc7 (hnF _ (by omega)) (hnF _ (by omega)) (hnF _ (by omega)) (hnF _ (by omega))
    have hc4 := cell_of_one hV7.b4
    have hc5 := cell_of_one hV7.b5
    have hf4 := one_free hV7.b4
    have hf5 := one_free hV7.b5
    have HV7 := Lib.hid hV7
    have HN := Lib.hid hn
    have HR7 := Lib.hid hR7
    have HC7 := Lib.hid ((hch.alloc (.cells #[.int .i64 (p : Int)] 3)).mono (G := F) (fun _ h => h.elim) |>.trans hc7 fun g h => .inl h)
    clear hn hR7 hc7 hV7 hV hk0 hr0 hB hch hsz HU HA HC
    go_wp2_with fail
    have hE := read_bad_end HV7.out HR7.out HC7.out hnF x
    clear hc4 hc5 hf4 hf5
    generalize (w7.setCell ⟨w.heap.size + 1 + 1, 0, none⟩ (.int .u64 x)).setCell ⟨w.heap.size + 1 + 1 + 1, 0, none⟩ (.int .i64 4) = w8 at hE ⊢
    refine leaves_cons (f := 28) (args := #[.pointer (some ⟨w.heap.size + 1 + 1 + 1, 0, none⟩), .pointer (some ⟨w.heap.size + 1 + 1, 0, none⟩), .pointer (some ⟨w.heap.size, 0, none⟩), .pointer (some ⟨w.heap.size + 5, 0, none⟩)]) (by simp) (by simp [go_sem]) ?_
    refine (close_bad _ hE.1 hE.2.1 HR.out.le (by omega) (by omega) (by omega) (hnF _ (by omega)) (hnF _ (by omega)) (hnF _ (by omega)) (hnF _ (by omega))).mono ?_
    rintro e u' w9 ⟨rfl, rfl, hV9, hR9, hC9⟩
    have hE4 := cell_of_one hV9.b4
    have hE5 := cell_of_one hV9.b5
    simp [Leaves, settle, results, Try.results10, go_sem, hE4, hE5]
    exact .inr ⟨HN.out, rfl, hR9, hE.2.2.trans hC9 fun g hg => by rcases hg with a | rfl; exact .inl a; exact .inr (by omega)⟩
end Go.Proofs.Ytgcediipkojdbaa.bits
