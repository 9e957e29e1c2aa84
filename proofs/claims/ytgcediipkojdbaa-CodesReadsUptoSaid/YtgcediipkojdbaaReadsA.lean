/-
  BitioReads: the program's reader and the document's beside one another.
-/
import Derived.Test.YtgcediipkojdbaaRefC
namespace Go.Proofs.Ytgcediipkojdbaa.bits
open Go.ChangeShapes Go.WideShapes Go.ChangeAt Go.RowKit
set_option linter.unusedVariables false

/-- a reader at R of the text s at the place p, and the document's at Q of the same bits at the place q; all made since w -/
structure Two (w wr : World) (R T Q : Nat) (FR FQ : Nat → Prop) (v : Value) (s : ByteArray) (p q : Nat) : Prop where
  rd : Rd wr R T FR s p
  rr : Rr wr Q FQ v (bitsOf s.data.toList) q
  apart : ∀ g, FR g → ¬ FQ g
  newR : ∀ g, FR g → w.heap.size ≤ g
  newQ : ∀ g, FQ g → w.heap.size ≤ g
  ch : Ch (fun _ => False) w wr

theorem bits_len (s : ByteArray) : (bitsOf s.data.toList).length = 8 * s.size := by rw [length_bitsOf]; simp

section
variable {w wr : World} {R T Q : Nat} {FR FQ : Nat → Prop} {v : Value} {s : ByteArray} {p q : Nat}

theorem Two.stepR (h : Two w wr R T Q FR FQ v s p q) {wq : World} {p' : Nat} (hr : Rd wq R T FR s p') (hc : Ch FR wr wq) : Two w wq R T Q FR FQ v s p' q :=
  ⟨hr, h.rr.kept hc fun g a b => h.apart g b a, h.apart, h.newR, h.newQ, h.ch.trans hc fun g hg => .inr (h.newR g hg)⟩
theorem Two.stepQ (h : Two w wr R T Q FR FQ v s p q) {wq : World} {q' : Nat} (hr : Rr wq Q FQ v (bitsOf s.data.toList) q') (hc : Ch FQ wr wq) : Two w wq R T Q FR FQ v s p q' :=
  ⟨h.rd.kept hc h.apart, hr, h.apart, h.newR, h.newQ, h.ch.trans hc fun g hg => .inr (h.newQ g hg)⟩
theorem Two.drewN (h : Two w wr R T Q FR FQ v s p q) (n : Nat) : Two w (wr.drewN n) R T Q FR FQ v s p q := h.stepR (h.rd.drewN n) ((Ch.refl FR wr).drewN n)
theorem Two.same (h : Two w wr R T Q FR FQ v s p q) {wq : World} (hc : Ch (fun _ => False) wr wq) : Two w wq R T Q FR FQ v s p q := h.stepR (h.rd.kept hc fun _ _ h => h) (hc.mono fun _ h => h.elim)

/-- what Take answers: the number, the error, the place behind it -/
def tk (s : ByteArray) (p : Nat) (N : Int) : Nat × Int × Nat :=
  if N < 0 ∨ 64 < N then (0, 1, p) else if 8 * s.size < p + N.toNat then (0, 4, p) else (fld s p N.toNat, 0, p + N.toNat)
def bt1 (s : ByteArray) (p : Nat) : Bool × Int × Nat := if 8 * s.size < p + 1 then (false, 4, p) else (fld s p 1 == 1, 0, p + 1)
def sk (s : ByteArray) (p : Nat) (N : Int) : Int × Nat := if N < 0 ∨ ((8 * s.size : Nat) : Int) < N then (1, p) else (0, N.toNat)

theorem two_takeR (h : Two w wr R T Q FR FQ v s p q) (N : Int) :
    Calls Try.prog 42 #[.pointer (some ⟨R, 0, none⟩), .int .i64 N] wr fun e w' => e = .returned (.tuple #[.int .u64 ((tk s p N).1 : Int), .int .i64 (tk s p N).2.1]) ∧ Two w w' R T Q FR FQ v s (tk s p N).2.2 q := by
  unfold tk
  by_cases h1 : N < 0 ∨ 64 < N
  · rw [if_pos h1]
    exact (rtake_arg N R wr h1).mono fun _ _ ⟨he, hw⟩ => ⟨by rw [he]; rfl, by subst hw; exact h⟩
  · rw [if_neg h1]
    obtain ⟨n, rfl⟩ := Int.eq_ofNat_of_zero_le (show 0 ≤ N from by omega)
    rw [Int.toNat_natCast]
    by_cases h2 : 8 * s.size < p + n
    · rw [if_pos h2]
      exact (rtake_form h.rd n (by omega) h2).mono fun _ _ ⟨he, k, hw⟩ => ⟨by rw [he]; rfl, by subst hw; exact h.drewN k⟩
    · rw [if_neg h2]
      exact (rtake_ok h.rd n (by omega) (by omega)).mono fun _ _ ⟨he, hr, hc⟩ => ⟨he, h.stepR hr hc⟩

theorem two_takeQ (h : Two w wr R T Q FR FQ v s p q) (hs : s.size ≤ 17592186044416) (N : Int) :
    Calls Try.prog 48 #[.pointer (some ⟨Q, 0, none⟩), .int .i64 N] wr fun e w' => e = .returned (.tuple #[.int .u64 ((tk s q N).1 : Int), .int .i64 (tk s q N).2.1]) ∧ Two w w' R T Q FR FQ v s p (tk s q N).2.2 := by
  have hsz := h.rd.size
  have hbl := bits_len s
  unfold tk
  by_cases h1 : N < 0 ∨ 64 < N
  · rw [if_pos h1]
    exact (rrtake_arg N Q wr h1).mono fun _ _ ⟨he, hw⟩ => ⟨by rw [he]; rfl, by subst hw; exact h⟩
  · rw [if_neg h1]
    obtain ⟨n, rfl⟩ := Int.eq_ofNat_of_zero_le (show 0 ≤ N from by omega)
    rw [Int.toNat_natCast]
    by_cases h2 : 8 * s.size < q + n
    · rw [if_pos h2]
      exact (rrtake_form h.rr n (by omega) (by omega) (by omega)).mono fun _ _ ⟨he, k, hw⟩ => ⟨by rw [he]; rfl, by subst hw; exact h.drewN k⟩
    · rw [if_neg h2]
      exact (rrtake_ok h.rr n (by omega) (by omega) (by omega)).mono fun _ _ ⟨he, hr, hc⟩ => ⟨he, h.stepQ hr hc⟩

theorem two_bitR (h : Two w wr R T Q FR FQ v s p q) :
    Calls Try.prog 25 #[.pointer (some ⟨R, 0, none⟩)] wr fun e w' => e = .returned (.tuple #[.bool (bt1 s p).1, .int .i64 (bt1 s p).2.1]) ∧ Two w w' R T Q FR FQ v s (bt1 s p).2.2 q := by
  unfold bt1
  by_cases h2 : 8 * s.size < p + 1
  · rw [if_pos h2]
    exact (rbit_form h.rd h2).mono fun _ _ ⟨he, k, hw⟩ => ⟨by rw [he], by subst hw; exact h.drewN k⟩
  · rw [if_neg h2]
    exact (rbit_ok h.rd (by omega)).mono fun _ _ ⟨he, hr, hc⟩ => ⟨he, h.stepR hr hc⟩

theorem two_bitQ (h : Two w wr R T Q FR FQ v s p q) (hs : s.size ≤ 17592186044416) :
    Calls Try.prog 58 #[.pointer (some ⟨Q, 0, none⟩)] wr fun e w' => e = .returned (.tuple #[.bool (bt1 s q).1, .int .i64 (bt1 s q).2.1]) ∧ Two w w' R T Q FR FQ v s p (bt1 s q).2.2 := by
  have hsz := h.rd.size
  have hbl := bits_len s
  unfold bt1
  by_cases h2 : 8 * s.size < q + 1
  · rw [if_pos h2]
    exact (rrbit_form h.rr (by omega) (by omega)).mono fun _ _ ⟨he, k, hw⟩ => ⟨by rw [he], by subst hw; exact h.drewN k⟩
  · rw [if_neg h2]
    exact (rrbit_ok h.rr (by omega) (by omega)).mono fun _ _ ⟨he, hr, hc⟩ => ⟨he, h.stepQ hr hc⟩

theorem two_seekR (h : Two w wr R T Q FR FQ v s p q) (N : Int) :
    Calls Try.prog 24 #[.pointer (some ⟨R, 0, none⟩), .int .i64 N] wr fun e w' => e = .returned (.int .i64 (sk s p N).1) ∧ Two w w' R T Q FR FQ v s (sk s p N).2 q := by
  unfold sk
  by_cases h1 : N < 0 ∨ ((8 * s.size : Nat) : Int) < N
  · rw [if_pos h1]
    exact (seek_bad h.rd N h1).mono fun _ _ ⟨he, hw⟩ => ⟨he, by subst hw; exact h⟩
  · rw [if_neg h1]
    obtain ⟨n, rfl⟩ := Int.eq_ofNat_of_zero_le (show 0 ≤ N from by omega)
    rw [Int.toNat_natCast]
    exact (seek_ok h.rd n (by omega)).mono fun _ _ ⟨he, hr, hc⟩ => ⟨he, h.stepR hr hc⟩

end

/-- the start: the program's reader is made, then the document's bits, then its reader -/
theorem two_start {w w1 w2 : World} {s : ByteArray} {v : Value} (hR : Rd w1 (w.heap.size + 1) w.heap.size (fun g => g = w.heap.size ∨ g = w.heap.size + 1) s 0) (h1 : Ch (fun _ => False) w w1) (hn : NewRow w1 w2 v (bitsOf s.data.toList)) :
    Two w (w2.alloc (.cells #[v, .int .i64 0] 29)) (w.heap.size + 1) w.heap.size w2.heap.size (fun g => g = w.heap.size ∨ g = w.heap.size + 1) (fun g => g = w2.heap.size ∨ v.ownBlock = some g) v s 0 0 := by
  obtain ⟨hr, hnew, hc⟩ := hn
  have hl1 := hR.live (w.heap.size + 1) (.inr rfl)
  have hs := hc.size
  have hs1 := h1.size
  refine ⟨(hR.kept hc (fun _ _ h => h)).kept ((Ch.refl (fun _ => False) w2).alloc _) (fun _ _ h => h), ⟨heap_alloc_new w2 _, hr.alloc _, .inl rfl, fun g hg => .inr hg, fun e => by have := own_lt hr e; omega, Nat.zero_le _, fun g hg => ?_⟩, fun g hg hq => ?_, fun g hg => by omega, fun g hg => ?_, (h1.trans hc fun _ h => h.elim).alloc _⟩
  · rcases hg with hg | hg
    · simp; omega
    · have := own_lt hr hg; simp; omega
  · rcases hq with hq | hq
    · omega
    · have := hnew g hq; omega
  · rcases hg with hg | hg
    · omega
    · have := hnew g hg; omega
end Go.Proofs.Ytgcediipkojdbaa.bits
