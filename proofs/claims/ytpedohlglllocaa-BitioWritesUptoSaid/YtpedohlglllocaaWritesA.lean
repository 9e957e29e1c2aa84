/-
  BitioWrites: the program's two writers beside the document's.
-/
import Derived.Test.YtpedohlglllocaaRefY
namespace Go.Proofs.Ytpedohlglllocaa.bits
open Go.ChangeShapes Go.WideShapes Go.ChangeAt Go.RowKit
set_option linter.unusedVariables false

/-- the program's writer B holds bp, the document's Q holds bq, another of the program's O holds bo -/
def Duo (gs : List (Nat × Obj)) (w wr : World) (B Q O : Nat) (bp bq bo : List Bool) : Prop :=
  ∃ FB FQ FO sv L qv ov OL, Wr wr B FB bp sv L ∧ Ww wr Q FQ qv bq ∧ Wr wr O FO bo ov OL ∧ (∀ g, FB g → ¬ FQ g) ∧ (∀ g, FB g → ¬ FO g) ∧ (∀ g, FQ g → ¬ FO g) ∧ (∀ g, FB g → w.heap.size ≤ g) ∧ (∀ g, FQ g → w.heap.size ≤ g) ∧ (∀ g, FO g → w.heap.size ≤ g) ∧ Ch (fun _ => False) w wr ∧ ∀ p ∈ gs, wr.heap[p.1]? = some p.2 ∧ ¬ FB p.1 ∧ ¬ FQ p.1 ∧ ¬ FO p.1

section
variable {gs : List (Nat × Obj)} {w wr : World} {B Q O : Nat} {bp bq bo : List Bool}

theorem Duo.ch (h : Duo gs w wr B Q O bp bq bo) : Ch (fun _ => False) w wr := by
  obtain ⟨FB, FQ, FO, sv, L, qv, ov, OL, h1, h2, h3, d1, d2, d3, n1, n2, n3, hc, hg⟩ := h
  exact hc

theorem Duo.same (h : Duo gs w wr B Q O bp bq bo) {wq : World} (hc : Ch (fun _ => False) wr wq) : Duo gs w wq B Q O bp bq bo := by
  obtain ⟨FB, FQ, FO, sv, L, qv, ov, OL, h1, h2, h3, d1, d2, d3, n1, n2, n3, h4, hg⟩ := h
  exact ⟨FB, FQ, FO, sv, L, qv, ov, OL, h1.kept hc fun _ _ h => h, h2.kept hc fun _ _ h => h, h3.kept hc fun _ _ h => h, d1, d2, d3, n1, n2, n3, h4.trans hc fun _ h => h.elim, fun p hp => ⟨by rw [hc.block p.1 (lt_of_block (hg p hp).1) (fun h => h)]; exact (hg p hp).1, (hg p hp).2⟩⟩

theorem stepB {FB FQ FO : Nat → Prop} {sv qv ov : Value} {L OL : List UInt8} (h1 : Wr wr B FB bp sv L) (h2 : Ww wr Q FQ qv bq) (h3 : Wr wr O FO bo ov OL) (d1 : ∀ g, FB g → ¬ FQ g) (d2 : ∀ g, FB g → ¬ FO g) (d3 : ∀ g, FQ g → ¬ FO g)
    (n1 : ∀ g, FB g → w.heap.size ≤ g) (n2 : ∀ g, FQ g → w.heap.size ≤ g) (n3 : ∀ g, FO g → w.heap.size ≤ g) (hc : Ch (fun _ => False) w wr) (hg : ∀ p ∈ gs, wr.heap[p.1]? = some p.2 ∧ ¬ FB p.1 ∧ ¬ FQ p.1 ∧ ¬ FO p.1) {wq : World} {b : List Bool}
    (k : ∃ F' sv' L', Wr wq B F' b sv' L' ∧ Ch FB wr wq ∧ ∀ g, F' g → FB g ∨ wr.heap.size ≤ g) : Duo gs w wq B Q O b bq bo := by
  obtain ⟨F', sv', L', k1, k2, k3⟩ := k
  have hs := hc.size
  refine ⟨F', FQ, FO, sv', L', qv, ov, OL, k1, h2.kept k2 fun g a b => d1 g b a, h3.kept k2 fun g a b => d2 g b a, fun g a b => ?_, fun g a b => ?_, d3, fun g a => ?_, n2, n3, hc.trans k2 fun g hg => .inr (n1 g hg), fun p hp => ⟨by rw [k2.block p.1 (lt_of_block (hg p hp).1) (hg p hp).2.1]; exact (hg p hp).1, ⟨fun a => ?_, (hg p hp).2.2.1, (hg p hp).2.2.2⟩⟩⟩
  · rcases k3 g a with c | c
    · exact d1 g c b
    · exact absurd (h2.live g b) (by omega)
  · rcases k3 g a with c | c
    · exact d2 g c b
    · exact absurd (h3.live g b) (by omega)
  · rcases k3 g a with c | c
    · exact n1 g c
    · omega
  · rcases k3 p.1 a with c | c
    · exact (hg p hp).2.1 c
    · exact absurd (lt_of_block (hg p hp).1) (by omega)

theorem stepQ {FB FQ FO : Nat → Prop} {sv qv ov : Value} {L OL : List UInt8} (h1 : Wr wr B FB bp sv L) (h2 : Ww wr Q FQ qv bq) (h3 : Wr wr O FO bo ov OL) (d1 : ∀ g, FB g → ¬ FQ g) (d2 : ∀ g, FB g → ¬ FO g) (d3 : ∀ g, FQ g → ¬ FO g)
    (n1 : ∀ g, FB g → w.heap.size ≤ g) (n2 : ∀ g, FQ g → w.heap.size ≤ g) (n3 : ∀ g, FO g → w.heap.size ≤ g) (hc : Ch (fun _ => False) w wr) (hg : ∀ p ∈ gs, wr.heap[p.1]? = some p.2 ∧ ¬ FB p.1 ∧ ¬ FQ p.1 ∧ ¬ FO p.1) {wq : World} {b : List Bool}
    (k : ∃ F' sv', Ww wq Q F' sv' b ∧ Ch FQ wr wq ∧ ∀ g, F' g → FQ g ∨ wr.heap.size ≤ g) : Duo gs w wq B Q O bp b bo := by
  obtain ⟨F', sv', k1, k2, k3⟩ := k
  have hs := hc.size
  refine ⟨FB, F', FO, sv, L, sv', ov, OL, h1.kept k2 fun g a b => d1 g a b, k1, h3.kept k2 fun g a b => d3 g b a, fun g a b => ?_, d2, fun g a b => ?_, n1, fun g a => ?_, n3, hc.trans k2 fun g hg => .inr (n2 g hg), fun p hp => ⟨by rw [k2.block p.1 (lt_of_block (hg p hp).1) (hg p hp).2.2.1]; exact (hg p hp).1, ⟨(hg p hp).2.1, fun a => ?_, (hg p hp).2.2.2⟩⟩⟩
  · rcases k3 g b with c | c
    · exact d1 g a c
    · exact absurd (h1.live g a) (by omega)
  · rcases k3 g a with c | c
    · exact d3 g c b
    · exact absurd (h3.live g b) (by omega)
  · rcases k3 g a with c | c
    · exact n2 g c
    · omega
  · rcases k3 p.1 a with c | c
    · exact (hg p hp).2.2.1 c
    · exact absurd (lt_of_block (hg p hp).1) (by omega)

theorem stepO {FB FQ FO : Nat → Prop} {sv qv ov : Value} {L OL : List UInt8} (h1 : Wr wr B FB bp sv L) (h2 : Ww wr Q FQ qv bq) (h3 : Wr wr O FO bo ov OL) (d1 : ∀ g, FB g → ¬ FQ g) (d2 : ∀ g, FB g → ¬ FO g) (d3 : ∀ g, FQ g → ¬ FO g)
    (n1 : ∀ g, FB g → w.heap.size ≤ g) (n2 : ∀ g, FQ g → w.heap.size ≤ g) (n3 : ∀ g, FO g → w.heap.size ≤ g) (hc : Ch (fun _ => False) w wr) (hg : ∀ p ∈ gs, wr.heap[p.1]? = some p.2 ∧ ¬ FB p.1 ∧ ¬ FQ p.1 ∧ ¬ FO p.1) {wq : World} {b : List Bool}
    (k : ∃ F' sv' L', Wr wq O F' b sv' L' ∧ Ch FO wr wq ∧ ∀ g, F' g → FO g ∨ wr.heap.size ≤ g) : Duo gs w wq B Q O bp bq b := by
  obtain ⟨F', sv', L', k1, k2, k3⟩ := k
  have hs := hc.size
  refine ⟨FB, FQ, F', sv, L, qv, sv', L', h1.kept k2 fun g a b => d2 g a b, h2.kept k2 fun g a b => d3 g a b, k1, d1, fun g a b => ?_, fun g a b => ?_, n1, n2, fun g a => ?_, hc.trans k2 fun g hg => .inr (n3 g hg), fun p hp => ⟨by rw [k2.block p.1 (lt_of_block (hg p hp).1) (hg p hp).2.2.2]; exact (hg p hp).1, ⟨(hg p hp).2.1, (hg p hp).2.2.1, fun a => ?_⟩⟩⟩
  · rcases k3 g b with c | c
    · exact d2 g a c
    · exact absurd (h1.live g a) (by omega)
  · rcases k3 g b with c | c
    · exact d3 g a c
    · exact absurd (h2.live g a) (by omega)
  · rcases k3 g a with c | c
    · exact n3 g c
    · omega
  · rcases k3 p.1 a with c | c
    · exact (hg p hp).2.2.2 c
    · exact absurd (lt_of_block (hg p hp).1) (by omega)

/-- what the calls answer, and what is written -/
def oBit (bs : List Bool) (x : Bool) : Int × List Bool := if bs.length < 134217728 then (0, bs ++ [x]) else (3, bs)
def oPut (bs : List Bool) (V : Nat) (N : Int) : Int × List Bool :=
  if N < 0 ∨ 64 < N ∨ 2 ^ N.toNat ≤ V then (1, bs) else if 134217728 < bs.length + N.toNat then (3, bs) else (0, bs ++ ofNum V N.toNat)
def oAdd (bs : List Bool) (s : ByteArray) (N : Int) : Int × List Bool :=
  if N < 0 ∨ 8 * (s.size : Int) < N then (1, bs) else if 134217728 < bs.length + N.toNat then (3, bs) else (0, bs ++ firsts s N.toNat)

theorem duo_bitB (h : Duo gs w wr B Q O bp bq bo) (x : Bool) :
    Calls Try.prog 30 #[.pointer (some ⟨B, 0, none⟩), .bool x] wr fun e w' => e = .returned (.int .i64 (oBit bp x).1) ∧ Duo gs w w' B Q O (oBit bp x).2 bq bo := by
  have h0 := h
  obtain ⟨FB, FQ, FO, sv, L, qv, ov, OL, h1, h2, h3, d1, d2, d3, n1, n2, n3, hc, hg⟩ := h
  have hm := h1.max
  unfold oBit
  by_cases c : bp.length < 134217728
  · rw [if_pos c]
    exact (wbit_ok x h1 c).mono fun _ _ ⟨he, k⟩ => ⟨he, stepB h1 h2 h3 d1 d2 d3 n1 n2 n3 hc hg k⟩
  · rw [if_neg c]
    exact (wbit_full x h1 (by omega)).mono fun _ _ ⟨he, k⟩ => ⟨he, by subst k; exact h0⟩

theorem duo_bitQ (h : Duo gs w wr B Q O bp bq bo) (x : Bool) :
    Calls Try.prog 32 #[.pointer (some ⟨Q, 0, none⟩), .bool x] wr fun e w' => e = .returned (.int .i64 (oBit bq x).1) ∧ Duo gs w w' B Q O bp (oBit bq x).2 bo := by
  have h0 := h
  obtain ⟨FB, FQ, FO, sv, L, qv, ov, OL, h1, h2, h3, d1, d2, d3, n1, n2, n3, hc, hg⟩ := h
  have hm := h2.max
  unfold oBit
  by_cases c : bq.length < 134217728
  · rw [if_pos c]
    exact (wwbit_ok h2 x c).mono fun _ _ ⟨he, k⟩ => ⟨he, stepQ h1 h2 h3 d1 d2 d3 n1 n2 n3 hc hg k⟩
  · rw [if_neg c]
    exact (wwbit_full h2 x (by omega)).mono fun _ _ ⟨he, k⟩ => ⟨he, by subst k; exact h0⟩

theorem duo_putB (h : Duo gs w wr B Q O bp bq bo) (V : Nat) (N : Int) (hV : V < 18446744073709551616) :
    Calls Try.prog 10 #[.pointer (some ⟨B, 0, none⟩), .int .u64 V, .int .i64 N] wr fun e w' => e = .returned (.int .i64 (oPut bp V N).1) ∧ Duo gs w w' B Q O (oPut bp V N).2 bq bo := by
  have h0 := h
  obtain ⟨FB, FQ, FO, sv, L, qv, ov, OL, h1, h2, h3, d1, d2, d3, n1, n2, n3, hc, hg⟩ := h
  unfold oPut
  by_cases c : N < 0 ∨ 64 < N ∨ 2 ^ N.toNat ≤ V
  · rw [if_pos c]
    exact (wput_arg V N B wr hV c).mono fun _ _ ⟨he, k⟩ => ⟨he, by subst k; exact h0⟩
  · rw [if_neg c]
    obtain ⟨n, rfl⟩ := Int.eq_ofNat_of_zero_le (show 0 ≤ N from by omega)
    rw [Int.toNat_natCast] at c ⊢
    by_cases c2 : 134217728 < bp.length + n
    · rw [if_pos c2]
      exact (wput_full V n B FB bp sv L wr h1 (by omega) (by omega) c2).mono fun _ _ ⟨he, k⟩ => ⟨he, by subst k; exact h0⟩
    · rw [if_neg c2]
      exact (wput_ok V n B FB bp sv L wr h1 (by omega) (by omega) (by omega)).mono fun _ _ ⟨he, k⟩ => ⟨he, stepB h1 h2 h3 d1 d2 d3 n1 n2 n3 hc hg k⟩

theorem duo_putO (h : Duo gs w wr B Q O bp bq bo) (hm : bo.length + 7 ≤ 134217728) :
    Calls Try.prog 10 #[.pointer (some ⟨O, 0, none⟩), .int .u64 3, .int .i64 7] wr fun e w' => e = .returned (.int .i64 0) ∧ Duo gs w w' B Q O bp bq (bo ++ ofNum 3 7) := by
  obtain ⟨FB, FQ, FO, sv, L, qv, ov, OL, h1, h2, h3, d1, d2, d3, n1, n2, n3, hc, hg⟩ := h
  exact (wput_ok 3 7 O FO bo ov OL wr h3 (by omega) (by omega) hm).mono fun _ _ ⟨he, k⟩ => ⟨he, stepO h1 h2 h3 d1 d2 d3 n1 n2 n3 hc hg k⟩

theorem duo_putQ (h : Duo gs w wr B Q O bp bq bo) (V : Nat) (N : Int) (hV : V < 18446744073709551616) :
    Calls Try.prog 33 #[.pointer (some ⟨Q, 0, none⟩), .int .u64 V, .int .i64 N] wr fun e w' => e = .returned (.int .i64 (oPut bq V N).1) ∧ Duo gs w w' B Q O bp (oPut bq V N).2 bo := by
  have h0 := h
  obtain ⟨FB, FQ, FO, sv, L, qv, ov, OL, h1, h2, h3, d1, d2, d3, n1, n2, n3, hc, hg⟩ := h
  have hm := h2.max
  unfold oPut
  by_cases c : N < 0 ∨ 64 < N ∨ 2 ^ N.toNat ≤ V
  · rw [if_pos c]
    exact (wwput_arg V N Q wr hV c).mono fun _ _ ⟨he, k⟩ => ⟨he, by subst k; exact h0⟩
  · rw [if_neg c]
    obtain ⟨n, rfl⟩ := Int.eq_ofNat_of_zero_le (show 0 ≤ N from by omega)
    rw [Int.toNat_natCast] at c ⊢
    by_cases c2 : 134217728 < bq.length + n
    · rw [if_pos c2]
      exact (wwput_full h2 V n (by omega) (by omega) c2).mono fun _ _ ⟨he, k⟩ => ⟨he, by subst k; exact h0⟩
    · rw [if_neg c2]
      by_cases n0 : n = 0
      · subst n0
        obtain rfl : V = 0 := by omega
        exact (wwput_zero h2).mono fun _ _ ⟨he, k, k2⟩ => ⟨he, stepQ h1 h2 h3 d1 d2 d3 n1 n2 n3 hc hg ⟨FQ, qv, by simpa [ofNum] using k, k2, fun g hg => .inl hg⟩⟩
      · exact (wwput_ok h2 V n (by omega) (by omega) (by omega) (by omega)).mono fun _ _ ⟨he, k⟩ => ⟨he, stepQ h1 h2 h3 d1 d2 d3 n1 n2 n3 hc hg k⟩

theorem duo_addB (h : Duo gs w wr B Q O bp bq bo) (s : ByteArray) (N : Int) (hs : s.size ≤ 17592186044416) :
    Calls Try.prog 31 #[.pointer (some ⟨B, 0, none⟩), .string s, .int .i64 N] wr fun e w' => e = .returned (.int .i64 (oAdd bp s N).1) ∧ Duo gs w w' B Q O (oAdd bp s N).2 bq bo := by
  have h0 := h
  obtain ⟨FB, FQ, FO, sv, L, qv, ov, OL, h1, h2, h3, d1, d2, d3, n1, n2, n3, hc, hg⟩ := h
  unfold oAdd
  by_cases c : N < 0 ∨ 8 * (s.size : Int) < N
  · rw [if_pos c]
    exact (wadd_arg s N B wr (by omega) c).mono fun _ _ ⟨he, k⟩ => ⟨he, by subst k; exact h0⟩
  · rw [if_neg c]
    obtain ⟨n, rfl⟩ := Int.eq_ofNat_of_zero_le (show 0 ≤ N from by omega)
    rw [Int.toNat_natCast]
    by_cases c2 : 134217728 < bp.length + n
    · rw [if_pos c2]
      exact (wadd_full s n B FB bp sv L wr h1 (by omega) (by omega) c2).mono fun _ _ ⟨he, k⟩ => ⟨he, by subst k; exact h0⟩
    · rw [if_neg c2]
      exact (wadd_ok s n B FB bp sv L wr h1 (by omega) (by omega) (by omega)).mono fun _ _ ⟨he, k⟩ => ⟨he, stepB h1 h2 h3 d1 d2 d3 n1 n2 n3 hc hg k⟩

theorem duo_addQ (h : Duo gs w wr B Q O bp bq bo) (s : ByteArray) (N : Int) (hs : s.size ≤ 17592186044416) :
    Calls Try.prog 34 #[.pointer (some ⟨Q, 0, none⟩), .string s, .int .i64 N] wr fun e w' => e = .returned (.int .i64 (oAdd bq s N).1) ∧ Duo gs w w' B Q O bp (oAdd bq s N).2 bo := by
  have h0 := h
  obtain ⟨FB, FQ, FO, sv, L, qv, ov, OL, h1, h2, h3, d1, d2, d3, n1, n2, n3, hc, hg⟩ := h
  unfold oAdd
  by_cases c : N < 0 ∨ 8 * (s.size : Int) < N
  · rw [if_pos c]
    exact (wwadd_arg s N Q wr (by omega) c).mono fun _ _ ⟨he, k⟩ => ⟨he, by subst k; exact h0⟩
  · rw [if_neg c]
    obtain ⟨n, rfl⟩ := Int.eq_ofNat_of_zero_le (show 0 ≤ N from by omega)
    rw [Int.toNat_natCast]
    by_cases c2 : 134217728 < bq.length + n
    · rw [if_pos c2]
      exact (wwadd_full h2 s n (by omega) (by omega) c2).mono fun _ _ ⟨he, k⟩ => ⟨he, by subst k; exact h0⟩
    · rw [if_neg c2]
      by_cases n0 : n = 0
      · subst n0
        exact (wwadd_zero h2 s hs).mono fun _ _ ⟨he, k, k2⟩ => ⟨he, stepQ h1 h2 h3 d1 d2 d3 n1 n2 n3 hc hg ⟨FQ, qv, by simpa [firsts] using k, k2, fun g hg => .inl hg⟩⟩
      · exact (wwadd_ok h2 s n hs (by omega) (by omega) (by omega)).mono fun _ _ ⟨he, k⟩ => ⟨he, stepQ h1 h2 h3 d1 d2 d3 n1 n2 n3 hc hg k⟩

/-- a block that is none of theirs -/
theorem Duo.guest (h : Duo [] w wr B Q O bp bq bo) (o : Obj) : Duo [(wr.heap.size, o)] w (wr.alloc o) B Q O bp bq bo := by
  have k := h.same ((Ch.refl (fun _ => False) wr).alloc o)
  obtain ⟨FB, FQ, FO, sv, L, qv, ov, OL, h1, h2, h3, d1, d2, d3, n1, n2, n3, hc, hg⟩ := h
  have a := (Ch.refl (fun _ => False) wr).alloc o
  exact ⟨FB, FQ, FO, sv, L, qv, ov, OL, h1.kept a fun _ _ h => h, h2.kept a fun _ _ h => h, h3.kept a fun _ _ h => h, d1, d2, d3, n1, n2, n3, hc.trans a fun _ h => h.elim, fun p hp => by
    rw [List.mem_singleton] at hp
    subst hp
    exact ⟨heap_alloc_new wr o, fun c => absurd (h1.live _ c) (Nat.lt_irrefl _), fun c => absurd (h2.live _ c) (Nat.lt_irrefl _), fun c => absurd (h3.live _ c) (Nat.lt_irrefl _)⟩⟩
theorem Duo.held {P : Nat} {o : Obj} (h : Duo [(P, o)] w wr B Q O bp bq bo) : wr.heap[P]? = some o := by
  obtain ⟨FB, FQ, FO, sv, L, qv, ov, OL, h1, h2, h3, d1, d2, d3, n1, n2, n3, hc, hg⟩ := h
  exact (hg (P, o) (by simp)).1
theorem Duo.left (h : Duo gs w wr B Q O bp bq bo) : Duo [] w wr B Q O bp bq bo := by
  obtain ⟨FB, FQ, FO, sv, L, qv, ov, OL, h1, h2, h3, d1, d2, d3, n1, n2, n3, hc, hg⟩ := h
  exact ⟨FB, FQ, FO, sv, L, qv, ov, OL, h1, h2, h3, d1, d2, d3, n1, n2, n3, hc, fun p hp => by cases hp⟩
end

/-- what put answers and leaves -/
def oOne (bs : List Bool) (K : Int) (V : Nat) (N : Int) (T : ByteArray) : List Bool :=
  if K = 0 then (oBit bs (decide (V % 2 = 1))).2 else if K = 1 then (oPut bs V N).2 else if K = 2 then (oAdd bs T N).2 else bs
end Go.Proofs.Ytpedohlglllocaa.bits
