/-
  Layer 1: a reader in memory; the contracts of its calls.
-/
import Derived.Test.YtgcediipkojdbaaBitF
namespace Go.Proofs.Ytgcediipkojdbaa.bits
open Go.ChangeShapes Go.WideShapes Go.ChangeAt Go.RowKit

theorem three_cell0 {w : World} {B : Nat} {x y z : Value} {t : TypeId} (h : w.heap[B]? = some (.cells #[x, y, z] t (0, 0))) : w.cell? ⟨B, 0, none⟩ = some x := by simp [World.cell?, h]
theorem three_cell1 {w : World} {B : Nat} {x y z : Value} {t : TypeId} (h : w.heap[B]? = some (.cells #[x, y, z] t (0, 0))) : w.cell? ⟨B, 1, none⟩ = some y := by simp [World.cell?, h]
theorem three_cell2 {w : World} {B : Nat} {x y z : Value} {t : TypeId} (h : w.heap[B]? = some (.cells #[x, y, z] t (0, 0))) : w.cell? ⟨B, 2, none⟩ = some z := by simp [World.cell?, h]
theorem three_free {w : World} {B : Nat} {x y z : Value} {t : TypeId} (h : w.heap[B]? = some (.cells #[x, y, z] t (0, 0))) (o : Nat) : w.frozen? ⟨B, o, none⟩ = false := by simp [World.frozen?, h]
theorem three_set2 {w : World} {B : Nat} {x y z u : Value} {t : TypeId} (h : w.heap[B]? = some (.cells #[x, y, z] t (0, 0))) : (w.setCell ⟨B, 2, none⟩ u).heap[B]? = some (.cells #[x, y, u] t (0, 0)) := block_set h

/-- a reader at block R, in the blocks F, of the text s, at a place -/
structure Rd (w : World) (R T : Nat) (F : Nat → Prop) (s : ByteArray) (at' : Nat) : Prop where
  head : w.heap[R]? = some (.cells #[.func (Fn.func 43) #[] #[.pointer (some ⟨T, 0, none⟩)], .int .i64 ((8 * s.size : Nat) : Int), .int .i64 (at' : Int)] 63 (0, 0))
  text : w.heap[T]? = some (.cells #[.string s] 9 (0, 0))
  mine : F R
  mine' : F T
  apart : T ≠ R
  le : at' ≤ 8 * s.size
  size : s.size ≤ 1152921504606846975
  live : ∀ g, F g → g < w.heap.size

theorem Rd.kept {w w' : World} {R T : Nat} {F G : Nat → Prop} {s : ByteArray} {a : Nat} (h : Rd w R T F s a) (hc : Ch G w w') (hd : ∀ g, F g → ¬ G g) : Rd w' R T F s a :=
  ⟨by rw [hc.block R (h.live R h.mine) (hd R h.mine)]; exact h.head, by rw [hc.block T (h.live T h.mine') (hd T h.mine')]; exact h.text, h.mine, h.mine', h.apart, h.le, h.size, fun g hg => Nat.lt_of_lt_of_le (h.live g hg) hc.size⟩

theorem Rd.drewN {w : World} {R T : Nat} {F : Nat → Prop} {s : ByteArray} {a : Nat} (h : Rd w R T F s a) (n : Nat) : Rd (w.drewN n) R T F s a :=
  h.kept ((Ch.refl (fun _ => False) w).drewN n) fun _ _ h => h

theorem Rd.move {w : World} {R T : Nat} {F : Nat → Prop} {s : ByteArray} {a : Nat} (h : Rd w R T F s a) (c : Nat) (hc : c ≤ 8 * s.size) : Rd (w.setCell ⟨R, 2, none⟩ (.int .i64 (c : Int))) R T F s c ∧ Ch F w (w.setCell ⟨R, 2, none⟩ (.int .i64 (c : Int))) :=
  ⟨⟨three_set2 h.head, by rw [Below.heap_setCell _ _ _ _ (by simpa using h.apart)]; exact h.text, h.mine, h.mine', h.apart, hc, h.size, fun g hg => by have := h.live g hg; simpa using this⟩, (Ch.refl F w).setCell (.inl h.mine) _⟩

theorem open_any (s : ByteArray) (w : World) (hs : s.size ≤ 1152921504606846975) :
    Calls Try.prog 8 #[.string s] w fun e w' => e = .returned (.pointer (some ⟨w.heap.size + 1, 0, none⟩)) ∧ Rd w' (w.heap.size + 1) w.heap.size (fun g => g = w.heap.size ∨ g = w.heap.size + 1) s 0 ∧ Ch (fun _ => False) w w' := by
  have HF : Hid (∀ w' : World, w' = (w.alloc (.cells #[.string s] 9)).alloc (.cells #[.func (Fn.func 43) #[] #[.pointer (some ⟨w.heap.size, 0, none⟩)], .int .i64 (8 * (s.size : Int)), .int .i64 0] 63) →
      Rd w' (w.heap.size + 1) w.heap.size (fun g => g = w.heap.size ∨ g = w.heap.size + 1) s 0 ∧ Ch (fun _ => False) w w') := by
    intro w' hw'
    subst hw'
    refine ⟨⟨?_, ?_, .inr rfl, .inl rfl, by omega, by omega, hs, ?_⟩, ((Ch.refl _ w).alloc _).alloc _⟩
    · have := heap_alloc_new (w.alloc (.cells #[.string s] 9)) (.cells #[.func (Fn.func 43) #[] #[.pointer (some ⟨w.heap.size, 0, none⟩)], .int .i64 (8 * (s.size : Int)), .int .i64 0] 63)
      simpa using this
    · rw [Below.heap_alloc _ _ _ (by simp)]
      exact heap_alloc_new w _
    · intro g hg
      simp
      omega
  go_enter Try.func8, Try.ntmps8
  go_wp2_with (go_at_call 27; refine (taker_any _ _).mono ?_; rintro e w' ⟨rfl, rfl⟩)
  refine bodyPost_ret (v := .pointer (some ⟨w.heap.size + 1, 0, none⟩)) (by simp [results, Try.results8, go_sem]) rfl ?_
  exact ⟨rfl, HF.out _ rfl⟩

theorem left_nil (w : World) : Calls Try.prog 56 #[.pointer none] w fun e w' => e = .returned (.int .i64 0) ∧ w = w' := by
  go_enter Try.func56, Try.ntmps56
  go_wp2_with fail
  go_ret
  exact ⟨rfl, rfl⟩

theorem left_any {w : World} {R T : Nat} {F : Nat → Prop} {s : ByteArray} {a : Nat} (h : Rd w R T F s a) :
    Calls Try.prog 56 #[.pointer (some ⟨R, 0, none⟩)] w fun e w' => e = .returned (.int .i64 ((8 * s.size - a : Nat) : Int)) ∧ ∃ q, w' = w.drewN q := by
  have hc1 := three_cell1 h.head
  have hc2 := three_cell2 h.head
  have hle := h.le
  have hsz := h.size
  obtain ⟨m, hm⟩ : ∃ m : Nat, m = 8 * s.size := ⟨_, rfl⟩
  rw [← hm] at hc1 hle ⊢
  have hmm : m ≤ 9223372036854775800 := by omega
  have e1 : IntKind.i64.wrap ((m : Int) - (a : Int)) = ((m - a : Nat) : Int) := by rw [show (m : Int) - (a : Int) = ((m - a : Nat) : Int) from by omega]; exact IntWalk.i64_in _ (by omega)
  clear h hm
  go_enter Try.func56, Try.ntmps56
  go_wp2_with fail
  go_quiet (fail)
  go_wp2_with fail
  go_ret
  exact ⟨rfl, _, rfl⟩

theorem at_nil (w : World) : Calls Try.prog 13 #[.pointer none] w fun e w' => e = .returned (.int .i64 0) ∧ w = w' := by
  go_enter Try.func13, Try.ntmps13
  go_wp2_with fail
  go_ret
  exact ⟨rfl, rfl⟩

theorem at_any {w : World} {R T : Nat} {F : Nat → Prop} {s : ByteArray} {a : Nat} (h : Rd w R T F s a) :
    Calls Try.prog 13 #[.pointer (some ⟨R, 0, none⟩)] w fun e w' => e = .returned (.int .i64 a) ∧ w = w' := by
  have hc2 := three_cell2 h.head
  clear h
  go_enter Try.func13, Try.ntmps13
  go_wp2_with fail
  go_ret
  exact ⟨rfl, rfl⟩

theorem seek_nil (n : Int) (w : World) : Calls Try.prog 24 #[.pointer none, .int .i64 n] w fun e w' => e = .returned (.int .i64 2) ∧ w = w' := by
  go_enter Try.func24, Try.ntmps24
  go_wp2_with fail
  go_ret
  exact ⟨rfl, rfl⟩

theorem seek_bad {w : World} {R T : Nat} {F : Nat → Prop} {s : ByteArray} {a : Nat} (h : Rd w R T F s a) (n : Int) (hn : n < 0 ∨ ((8 * s.size : Nat) : Int) < n) :
    Calls Try.prog 24 #[.pointer (some ⟨R, 0, none⟩), .int .i64 n] w fun e w' => e = .returned (.int .i64 1) ∧ w = w' := by
  have hc1 := three_cell1 h.head
  obtain ⟨m, hm⟩ : ∃ m : Nat, m = 8 * s.size := ⟨_, rfl⟩
  rw [← hm] at hc1 hn
  clear h hm
  by_cases h1 : n < 0
  · clear hn
    go_enter Try.func24, Try.ntmps24
    go_wp2_with fail
    go_ret
    exact ⟨rfl, rfl⟩
  · have h2 : (m : Int) < n := by omega
    clear hn
    go_enter Try.func24, Try.ntmps24
    go_wp2_with fail
    go_ret
    exact ⟨rfl, rfl⟩

theorem seek_ok {w : World} {R T : Nat} {F : Nat → Prop} {s : ByteArray} {a : Nat} (h : Rd w R T F s a) (n : Nat) (hn : n ≤ 8 * s.size) :
    Calls Try.prog 24 #[.pointer (some ⟨R, 0, none⟩), .int .i64 n] w fun e w' => e = .returned (.int .i64 0) ∧ Rd w' R T F s n ∧ Ch F w w' := by
  have hc1 := three_cell1 h.head
  have hc2 := three_cell2 h.head
  have hf := three_free h.head 2
  have HM := Lib.hid (h.move n hn)
  obtain ⟨m, hm⟩ : ∃ m : Nat, m = 8 * s.size := ⟨_, rfl⟩
  rw [← hm] at hc1 hn
  have h2 : (n : Int) ≤ m := by omega
  clear h hm
  go_enter Try.func24, Try.ntmps24
  go_wp2_with fail
  go_ret
  exact ⟨rfl, HM.out⟩

theorem rtake_nil (n : Int) (w : World) : Calls Try.prog 42 #[.pointer none, .int .i64 n] w fun e w' => e = .returned (.tuple #[.int .u64 0, .int .i64 2]) ∧ w = w' := by
  go_enter Try.func42, Try.ntmps42
  go_wp2_with fail
  go_ret2
  exact ⟨rfl, rfl⟩

theorem rtake_arg (n : Int) (R : Nat) (w : World) (hn : n < 0 ∨ 64 < n) : Calls Try.prog 42 #[.pointer (some ⟨R, 0, none⟩), .int .i64 n] w fun e w' => e = .returned (.tuple #[.int .u64 0, .int .i64 1]) ∧ w = w' := by
  by_cases h1 : n < 0
  · clear hn
    go_enter Try.func42, Try.ntmps42
    go_wp2_with fail
    go_ret2
    exact ⟨rfl, rfl⟩
  · have h2 : 64 < n := by omega
    clear hn
    go_enter Try.func42, Try.ntmps42
    go_wp2_with fail
    go_ret2
    exact ⟨rfl, rfl⟩

theorem rtake_form {w : World} {R T : Nat} {F : Nat → Prop} {s : ByteArray} {a : Nat} (h : Rd w R T F s a) (n : Nat) (hn : n ≤ 64) (hl : 8 * s.size < a + n) :
    Calls Try.prog 42 #[.pointer (some ⟨R, 0, none⟩), .int .i64 n] w fun e w' => e = .returned (.tuple #[.int .u64 0, .int .i64 4]) ∧ ∃ q, w' = w.drewN q := by
  have HL := Lib.hid (left_any h)
  have hle := h.le
  have hlt : ((8 * s.size - a : Nat) : Int) < (n : Int) := by omega
  obtain ⟨m, hm⟩ : ∃ m : Nat, m = 8 * s.size - a := ⟨_, rfl⟩
  rw [← hm] at hlt HL
  clear h hm hl
  go_enter Try.func42, Try.ntmps42
  go_wp2_with (go_at_call 56; refine HL.out.mono ?_; rintro e w' ⟨rfl, q, rfl⟩)
  go_ret2
  exact ⟨rfl, _, rfl⟩

/-- a quiet call behind draws -/
theorem quiet_plus {P : Program} {f : FuncId} {args : Array Value} {w : World} {a n : Nat} {v : Value} (h : Calls P f args (w.drewN (a + n)) fun e w' => e = .returned v ∧ ∃ m, w' = (w.drewN (a + n)).drewN m) :
    Calls P f args (w.drewN (a + n)) fun e w'' => e = .returned v ∧ ∃ m, w'' = w.drewN (a + m) :=
  h.mono fun _ _ ⟨he, m, hm⟩ => ⟨he, n + m, by rw [hm, World.drewN_drewN, Nat.add_assoc]⟩

theorem rtake_ok {w : World} {R T : Nat} {F : Nat → Prop} {s : ByteArray} {a : Nat} (h : Rd w R T F s a) (n : Nat) (hn : n ≤ 64) (hl : a + n ≤ 8 * s.size) :
    Calls Try.prog 42 #[.pointer (some ⟨R, 0, none⟩), .int .i64 n] w fun e w' => e = .returned (.tuple #[.int .u64 (fld s a n), .int .i64 0]) ∧ Rd w' R T F s (a + n) ∧ Ch F w w' := by
  have HL := Lib.hid (left_any h)
  have HF := Lib.hid h
  have hle := h.le
  have hsz := h.size
  have hlt : (n : Int) ≤ ((8 * s.size - a : Nat) : Int) := by omega
  by_cases h0 : n = 0
  · subst h0
    have HZ := Lib.hid (fld_zero s a)
    obtain ⟨m, hm⟩ : ∃ m : Nat, m = 8 * s.size - a := ⟨_, rfl⟩
    rw [← hm] at hlt HL
    clear h hm hl
    go_enter Try.func42, Try.ntmps42
    go_wp2_with (go_at_call 56; refine HL.out.mono ?_; rintro e w' ⟨rfl, q, rfl⟩)
    go_ret2
    exact ⟨by rw [HZ.out]; rfl, HF.out.drewN q, (Ch.refl F w).drewN q⟩
  · have t0 : ((n : Int) == 0) = false := by simpa using h0
    have h0' : 0 < n := by omega
    obtain ⟨m, hm⟩ : ∃ m : Nat, m = 8 * s.size - a := ⟨_, rfl⟩
    rw [← hm] at hlt HL
    have han : a + n ≤ 9223372036854775800 := by omega
    have HT : Hid (∀ Q : Nat, Calls Try.prog 43 #[.int .i64 a, .int .i64 n, .pointer (some ⟨T, 0, none⟩)] (w.drewN Q) fun e w' => e = .returned (.int .u64 (fld s a n)) ∧ ∃ m, w' = (w.drewN Q).drewN m) :=
      Lib.hid fun Q => take_any s T a n (w.drewN Q) hsz (cell_of_one h.text) hn hl
    have hc0 := three_cell0 h.head
    have hc2 := three_cell2 h.head
    have hf2 := three_free h.head 2
    have HLE := Lib.hid hl
    clear h hm hl h0
    go_enter Try.func42, Try.ntmps42
    go_wp2_with (go_at_call 56; refine HL.out.mono ?_; rintro e w' ⟨rfl, q, rfl⟩)
    go_quiet ((go_at_call 43; exact quiet_plus (HT.out _)))
    go_wp2_with fail
    go_ret2
    obtain ⟨h1, h2⟩ := (HF.out.drewN (q + nq)).move (a + n) HLE.out
    rw [show (a : Int) + (n : Int) = ((a + n : Nat) : Int) from by simp]
    exact ⟨rfl, h1, ((Ch.refl F w).drewN _).trans h2 fun g h => .inl h⟩

theorem rbit_nil (w : World) : Calls Try.prog 25 #[.pointer none] w fun e w' => e = .returned (.tuple #[.bool false, .int .i64 2]) ∧ w = w' := by
  go_enter Try.func25, Try.ntmps25
  go_wp2_with (go_at_call 42; refine (rtake_nil _ _).mono ?_; rintro e w' ⟨rfl, rfl⟩)
  go_ret2
  exact ⟨rfl, rfl⟩

theorem rbit_form {w : World} {R T : Nat} {F : Nat → Prop} {s : ByteArray} {a : Nat} (h : Rd w R T F s a) (hl : 8 * s.size < a + 1) :
    Calls Try.prog 25 #[.pointer (some ⟨R, 0, none⟩)] w fun e w' => e = .returned (.tuple #[.bool false, .int .i64 4]) ∧ ∃ q, w' = w.drewN q := by
  have HT := Lib.hid (rtake_form h 1 (by omega) hl)
  clear h hl
  go_enter Try.func25, Try.ntmps25
  go_wp2_with (go_at_call 42; refine HT.out.mono ?_; rintro e w' ⟨rfl, q, rfl⟩)
  go_ret2
  exact ⟨rfl, q, rfl⟩

theorem rbit_ok {w : World} {R T : Nat} {F : Nat → Prop} {s : ByteArray} {a : Nat} (h : Rd w R T F s a) (hl : a + 1 ≤ 8 * s.size) :
    Calls Try.prog 25 #[.pointer (some ⟨R, 0, none⟩)] w fun e w' => e = .returned (.tuple #[.bool (fld s a 1 == 1), .int .i64 0]) ∧ Rd w' R T F s (a + 1) ∧ Ch F w w' := by
  have HT := Lib.hid (rtake_ok h 1 (by omega) hl)
  clear h hl
  have HB : Hid ((((fld s a 1 : Nat) : Int) == 1) = (fld s a 1 == 1)) := Lib.hid (by rw [Bool.eq_iff_iff]; simp only [beq_iff_eq]; omega)
  go_enter Try.func25, Try.ntmps25
  go_wp2_with (go_at_call 42; refine HT.out.mono ?_; rintro e w' ⟨rfl, hq⟩; have HQ := Lib.hid hq; clear hq)
  go_ret2
  exact ⟨by rw [← HB.out]; rfl, HQ.out⟩
end Go.Proofs.Ytgcediipkojdbaa.bits
