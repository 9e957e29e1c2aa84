/-
  CodesNone: a writer and a reader beside a variable of the law's own; the walk.
-/
import Derived.Test.YtgcediipkojdbaaCodeO
import Derived.Outline
namespace Go.Proofs.Ytgcediipkojdbaa.bits
open Go.ChangeShapes Go.WideShapes Go.ChangeAt Go.RowKit
set_option linter.unusedVariables false

/-- a writer at B that holds bs, made since w, beside guest blocks -/
def NW (gs : List (Nat × Obj)) (w wr : World) (B : Nat) (bs : List Bool) : Prop :=
  ∃ F sv L, Wr wr B F bs sv L ∧ (∀ g, F g → w.heap.size ≤ g) ∧ Ch (fun _ => False) w wr ∧ ∀ p ∈ gs, wr.heap[p.1]? = some p.2 ∧ ¬ F p.1
/-- a reader at R of the text s at p, made since w, beside guest blocks -/
def NR (gs : List (Nat × Obj)) (w wr : World) (R T : Nat) (s : ByteArray) (p : Nat) : Prop :=
  ∃ F, Rd wr R T F s p ∧ (∀ g, F g → w.heap.size ≤ g) ∧ Ch (fun _ => False) w wr ∧ ∀ p ∈ gs, wr.heap[p.1]? = some p.2 ∧ ¬ F p.1

section
variable {gs : List (Nat × Obj)} {w wr : World} {B R T : Nat} {bs : List Bool} {s : ByteArray} {p : Nat}

theorem NW.ch (h : NW gs w wr B bs) : Ch (fun _ => False) w wr := by obtain ⟨F, sv, L, _, _, h, _⟩ := h; exact h
theorem NW.held (h : NW gs w wr B bs) {g : Nat × Obj} (hg : g ∈ gs) : wr.heap[g.1]? = some g.2 := by obtain ⟨F, sv, L, _, _, _, h⟩ := h; exact (h g hg).1
theorem NR.ch (h : NR gs w wr R T s p) : Ch (fun _ => False) w wr := by obtain ⟨F, _, _, h, _⟩ := h; exact h
theorem NR.held (h : NR gs w wr R T s p) {g : Nat × Obj} (hg : g ∈ gs) : wr.heap[g.1]? = some g.2 := by obtain ⟨F, _, _, _, h⟩ := h; exact (h g hg).1

theorem guests_kept {gs : List (Nat × Obj)} {F : Nat → Prop} {wr wq : World} (hg : ∀ p ∈ gs, wr.heap[p.1]? = some p.2 ∧ ¬ F p.1) (hc : Ch F wr wq) : ∀ p ∈ gs, wq.heap[p.1]? = some p.2 :=
  fun p hp => by rw [hc.block p.1 (lt_of_block (hg p hp).1) (hg p hp).2]; exact (hg p hp).1

theorem NW.same (h : NW gs w wr B bs) {wq : World} (hc : Ch (fun _ => False) wr wq) : NW gs w wq B bs := by
  obtain ⟨F, sv, L, h1, h2, h3, h4⟩ := h
  exact ⟨F, sv, L, h1.kept hc fun _ _ h => h, h2, h3.trans hc fun _ h => h.elim, fun p hp => ⟨guests_kept (F := fun _ => False) (fun p hp => ⟨(h4 p hp).1, fun h => h⟩) hc p hp, (h4 p hp).2⟩⟩

theorem nw_put (h : NW gs w wr B bs) (kd K v : Nat) (hk : kd < 256) (hK : K < 18446744073709551616) (hf : fits2 kd K v = true) (hm : bs.length + (cbits kd K v).length ≤ 134217728) :
    Calls Try.prog 21 #[.pointer (some ⟨B, 0, none⟩), .agg #[.int .u8 kd, .int .u64 K], .int .u64 v] wr fun e w' => e = .returned (.int .i64 0) ∧ NW gs w w' B (bs ++ cbits kd K v) := by
  obtain ⟨F, sv, L, h1, h2, h3, h4⟩ := h
  refine (cput_ok kd K v B F bs sv L wr h1 hk hK hf hm).mono ?_
  rintro e w' ⟨he, F', sv', L', k1, k2, k3⟩
  have hs := h3.size
  refine ⟨he, F', sv', L', k1, fun g hg => ?_, h3.trans k2 fun g hg => .inr (h2 g hg), fun p hp => ⟨guests_kept h4 k2 p hp, fun c => ?_⟩⟩
  · rcases k3 g hg with a | a
    · exact h2 g a
    · omega
  · rcases k3 _ c with a | a
    · exact (h4 p hp).2 a
    · exact absurd (lt_of_block (h4 p hp).1) (by omega)

theorem nw_arg (h : NW gs w wr B bs) (kd K v : Nat) (hk : kd < 256) (hK : K < 18446744073709551616) (hf : fits2 kd K v = false) :
    Calls Try.prog 21 #[.pointer (some ⟨B, 0, none⟩), .agg #[.int .u8 kd, .int .u64 K], .int .u64 v] wr fun e w' => e = .returned (.int .i64 1) ∧ NW gs w w' B bs :=
  (cput_arg kd K v B wr hk hK hf).mono fun _ _ ⟨he, hc⟩ => ⟨he, h.same hc⟩

theorem nw_new (hc : Ch (fun _ => False) w wr) (hg : ∀ p ∈ gs, wr.heap[p.1]? = some p.2) :
    Calls Try.prog 19 #[] wr fun e w' => ∃ B, e = .returned (.pointer (some ⟨B, 0, none⟩)) ∧ NW gs w w' B [] := by
  refine (new_any wr).mono ?_
  rintro e w' ⟨he, rfl⟩
  have hs := hc.size
  have ha := (Ch.refl (fun _ => False) wr).alloc (.cells #[.slice none 0 0, .int .i64 0] 73)
  exact ⟨_, he, _, _, _, Wr.new wr, fun g hg => by omega, hc.trans ha fun _ h => h.elim, fun p hp => ⟨guests_kept (F := fun _ => False) (fun p hp => ⟨hg p hp, fun h => h⟩) ha p hp, fun c => absurd (lt_of_block (hg p hp)) (by omega)⟩⟩

/-- the text, opened -/
theorem nw_text (h : NW gs w wr B bs) : ∃ L, Packs L bs ∧ Calls Try.prog 23 #[.pointer (some ⟨B, 0, none⟩)] wr fun e w' => e = .returned (.tuple #[.string ⟨L.toArray⟩, .int .i64 0]) ∧ wr = w' := by
  obtain ⟨F, sv, L, h1, _⟩ := h
  exact ⟨L, h1.packs, wtext_any h1⟩

theorem nw_open (hc : Ch (fun _ => False) w wr) (hg : ∀ p ∈ gs, wr.heap[p.1]? = some p.2) (s : ByteArray) (hs : s.size ≤ 1152921504606846975) :
    Calls Try.prog 8 #[.string s] wr fun e w' => ∃ R T, e = .returned (.pointer (some ⟨R, 0, none⟩)) ∧ NR gs w w' R T s 0 ∧ Ch (fun _ => False) wr w' := by
  refine (open_any s wr hs).mono ?_
  rintro e w' ⟨he, hR, hC⟩
  have hsz := hc.size
  exact ⟨_, _, he, ⟨_, hR, fun g hg => by omega, hc.trans hC fun _ h => h.elim, fun p hp => ⟨guests_kept (F := fun _ => False) (fun p hp => ⟨hg p hp, fun h => h⟩) hC p hp, fun c => absurd (lt_of_block (hg p hp)) (by omega)⟩⟩, hC⟩

theorem NR.same (h : NR gs w wr R T s p) {wq : World} (hc : Ch (fun _ => False) wr wq) : NR gs w wq R T s p := by
  obtain ⟨F, h1, h2, h3, h4⟩ := h
  exact ⟨F, h1.kept hc fun _ _ h => h, h2, h3.trans hc fun _ h => h.elim, fun p hp => ⟨guests_kept (F := fun _ => False) (fun p hp => ⟨(h4 p hp).1, fun h => h⟩) hc p hp, (h4 p hp).2⟩⟩

theorem NR.moved {F : Nat → Prop} {wq : World} {q : Nat} (h1 : Rd wq R T F s q) (h2 : ∀ g, F g → w.heap.size ≤ g) (h3 : Ch (fun _ => False) w wr) (h4 : ∀ p ∈ gs, wr.heap[p.1]? = some p.2 ∧ ¬ F p.1) (hc : Ch F wr wq) : NR gs w wq R T s q :=
  ⟨F, h1, h2, h3.trans hc fun g hg => .inr (h2 g hg), fun p hp => ⟨guests_kept h4 hc p hp, (h4 p hp).2⟩⟩

theorem nr_read (h : NR gs w wr R T s p) (kd K v : Nat) (hm : may kd K = true) (hv : v ≤ most kd K) (hp : cbits kd K v <+: rest s p) :
    Calls Try.prog 10 #[.pointer (some ⟨R, 0, none⟩), .agg #[.int .u8 kd, .int .u64 K]] wr fun e w' => e = .returned (.tuple #[.int .u64 (v : Nat), .int .i64 0]) ∧ NR gs w w' R T s (p + (cbits kd K v).length) := by
  obtain ⟨F, h1, h2, h3, h4⟩ := h
  refine (read_any h1 kd K hm).mono ?_
  intro e w' hT
  obtain ⟨he, hR, hC⟩ := hT.of hm v hv hp
  exact ⟨he, NR.moved hR h2 h3 h4 hC⟩
end

/-- what stands behind a in a text of a, b, c -/
theorem packs_at {L : List UInt8} {x a b c : List Bool} (h : Packs L x) (e : x = a ++ (b ++ c)) : b <+: rest ⟨L.toArray⟩ a.length := by
  obtain ⟨z, _, h⟩ := h
  unfold rest
  show b <+: (bitsOf L).drop a.length
  rw [h, e, List.append_assoc, List.drop_append_of_le_length (Nat.le_refl _), List.drop_length, List.nil_append, List.append_assoc]
  exact List.prefix_append _ _
theorem packs_size {L : List UInt8} {x : List Bool} (h : Packs L x) (hx : x.length ≤ 134217728) : (ByteArray.mk L.toArray).size ≤ 1152921504606846975 := by
  have := h.len
  have e : (ByteArray.mk L.toArray).size = L.length := by simp [ByteArray.size]
  omega
end Go.Proofs.Ytgcediipkojdbaa.bits
