/-
  Objects of a walk's own side by side in memory, each in blocks of its own, all made since w: a call changes one of them, the others stay.
-/
import Derived.Test.YtgcediipkojdbaaCodeO
namespace Go.Proofs.Ytgcediipkojdbaa.bits
open Go.ChangeShapes Go.WideShapes Go.ChangeAt Go.RowKit
set_option linter.unusedVariables false

/-- an object: what holds of it in the blocks F; it hangs on these blocks alone -/
structure Ast where
  p : World → (Nat → Prop) → Prop
  kept : ∀ {w w' : World} {F G : Nat → Prop}, p w F → Ch G w w' → (∀ g, F g → ¬ G g) → p w' F
  live : ∀ {w : World} {F : Nat → Prop}, p w F → ∀ g, F g → g < w.heap.size

def Sep (wr : World) : List Ast → (Nat → Prop) → Prop
  | [], U => ∀ g, ¬ U g
  | A :: As, U => ∃ F V, A.p wr F ∧ Sep wr As V ∧ (∀ g, F g → ¬ V g) ∧ ∀ g, U g ↔ F g ∨ V g

theorem Sep.kept {wr wq : World} {G : Nat → Prop} (hc : Ch G wr wq) : ∀ {As : List Ast} {U : Nat → Prop}, Sep wr As U → (∀ g, U g → ¬ G g) → Sep wq As U
  | [], _, h, _ => h
  | A :: As, U, ⟨F, V, h1, h2, h3, h4⟩, hd => ⟨F, V, A.kept h1 hc fun g hg => hd g ((h4 g).2 (.inl hg)), Sep.kept hc h2 fun g hg => hd g ((h4 g).2 (.inr hg)), h3, h4⟩

theorem Sep.live {wr : World} : ∀ {As : List Ast} {U : Nat → Prop}, Sep wr As U → ∀ g, U g → g < wr.heap.size
  | [], _, h, g, hg => absurd hg (h g)
  | A :: As, U, ⟨F, V, h1, h2, h3, h4⟩, g, hg => by
    rcases (h4 g).1 hg with a | a
    · exact A.live h1 g a
    · exact Sep.live h2 g a

theorem Sep.swap {wr : World} {A B : Ast} {As : List Ast} {U : Nat → Prop} (h : Sep wr (A :: B :: As) U) : Sep wr (B :: A :: As) U := by
  obtain ⟨F, V, h1, ⟨F2, V2, k1, k2, k3, k4⟩, h3, h4⟩ := h
  refine ⟨F2, fun g => F g ∨ V2 g, k1, ⟨F, V2, h1, k2, fun g a b => h3 g a ((k4 g).2 (.inr b)), fun g => Iff.rfl⟩, fun g a b => ?_, fun g => ?_⟩
  · rcases b with b | b
    · exact h3 g b ((k4 g).2 (.inl a))
    · exact k3 g a b
  · rw [h4, k4]
    exact ⟨fun h => by rcases h with a | a | a; exact .inr (.inl a); exact .inl a; exact .inr (.inr a), fun h => by rcases h with a | a | a; exact .inr (.inl a); exact .inl a; exact .inr (.inr a)⟩

theorem Sep.tail {wr : World} {A : Ast} {As Bs : List Ast} {U : Nat → Prop} (h : Sep wr (A :: As) U) (k : ∀ V, Sep wr As V → Sep wr Bs V) : Sep wr (A :: Bs) U := by
  obtain ⟨F, V, h1, h2, h3, h4⟩ := h
  exact ⟨F, V, h1, k V h2, h3, h4⟩

/-- the objects As side by side in wr, all made since w; of what was there nothing has turned -/
def St (w wr : World) (As : List Ast) : Prop := ∃ U, Sep wr As U ∧ (∀ g, U g → w.heap.size ≤ g) ∧ Ch (fun _ => False) w wr

section
variable {w wr : World} {A B C : Ast} {As : List Ast}

theorem St.nil (h : Ch (fun _ => False) w wr) : St w wr [] := ⟨fun _ => False, fun g h => h, fun g h => h.elim, h⟩
theorem St.ch (h : St w wr As) : Ch (fun _ => False) w wr := by obtain ⟨U, _, _, h⟩ := h; exact h
theorem St.swap (h : St w wr (A :: B :: As)) : St w wr (B :: A :: As) := by obtain ⟨U, h1, h2⟩ := h; exact ⟨U, h1.swap, h2⟩
/-- the third to the front -/
theorem St.third (h : St w wr (A :: B :: C :: As)) : St w wr (C :: A :: B :: As) := by obtain ⟨U, h1, h2⟩ := h; exact ⟨U, (h1.tail fun V k => k.swap).swap, h2⟩
theorem St.fourth {D : Ast} (h : St w wr (A :: B :: C :: D :: As)) : St w wr (D :: A :: B :: C :: As) := by
  obtain ⟨U, h1, h2⟩ := h
  exact ⟨U, (h1.tail fun V k => (k.tail fun V k => k.swap).swap).swap, h2⟩
theorem St.drop (h : St w wr (A :: As)) : St w wr As := by
  obtain ⟨U, ⟨F, V, h1, h2, h3, h4⟩, h5, h6⟩ := h
  exact ⟨V, h2, fun g hg => h5 g ((h4 g).2 (.inr hg)), h6⟩
theorem St.get (h : St w wr (A :: As)) : ∃ F, A.p wr F := by
  obtain ⟨U, ⟨F, V, h1, _⟩, _⟩ := h
  exact ⟨F, h1⟩
theorem St.same (h : St w wr As) {wq : World} (hc : Ch (fun _ => False) wr wq) : St w wq As := by
  obtain ⟨U, h1, h2, h3⟩ := h
  exact ⟨U, h1.kept hc fun _ _ h => h, h2, h3.trans hc fun _ h => h.elim⟩

/-- the first object changes -/
theorem St.step {A' : Ast} (h : St w wr (A :: As)) {wq : World} (k : ∀ F, A.p wr F → ∃ F', A'.p wq F' ∧ Ch F wr wq ∧ ∀ g, F' g → F g ∨ wr.heap.size ≤ g) : St w wq (A' :: As) := by
  obtain ⟨U, ⟨F, V, h1, h2, h3, h4⟩, h5, h6⟩ := h
  obtain ⟨F', k1, k2, k3⟩ := k F h1
  have hs := h6.size
  refine ⟨fun g => F' g ∨ V g, ⟨F', V, k1, h2.kept k2 fun g a b => h3 g b a, fun g a b => ?_, fun g => Iff.rfl⟩, fun g hg => ?_, h6.trans k2 fun g hg => .inr (h5 g ((h4 g).2 (.inl hg)))⟩
  · rcases k3 g a with c | c
    · exact h3 g c b
    · have := h2.live g b; omega
  · rcases hg with a | a
    · rcases k3 g a with c | c
      · exact h5 g ((h4 g).2 (.inl c))
      · omega
    · exact h5 g ((h4 g).2 (.inr a))

/-- a call on the first object -/
theorem St.op {A' : Ast} (h : St w wr (A :: As)) {f : FuncId} {args : Array Value} {v : Ending} (c : ∀ F, A.p wr F → Calls Try.prog f args wr fun e w' => e = v ∧ ∃ F', A'.p w' F' ∧ Ch F wr w' ∧ ∀ g, F' g → F g ∨ wr.heap.size ≤ g) :
    Calls Try.prog f args wr fun e w' => e = v ∧ St w w' (A' :: As) := by
  have h0 := h
  obtain ⟨U, ⟨F, V, h1, h2, h3, h4⟩, h5, h6⟩ := h
  refine (c F h1).mono ?_
  rintro e w' ⟨he, F', k1, k2, k3⟩
  have hs := h6.size
  refine ⟨he, fun g => F' g ∨ V g, ⟨F', V, k1, h2.kept k2 fun g a b => h3 g b a, fun g a b => ?_, fun g => Iff.rfl⟩, fun g hg => ?_, h6.trans k2 fun g hg => .inr (h5 g ((h4 g).2 (.inl hg)))⟩
  · rcases k3 g a with c | c
    · exact h3 g c b
    · have := h2.live g b; omega
  · rcases hg with a | a
    · rcases k3 g a with c | c
      · exact h5 g ((h4 g).2 (.inl c))
      · omega
    · exact h5 g ((h4 g).2 (.inr a))

/-- an object more -/
theorem St.push (h : St w wr As) {wq : World} (hc : Ch (fun _ => False) wr wq) {F : Nat → Prop} (hA : A.p wq F) (hF : ∀ g, F g → wr.heap.size ≤ g) : St w wq (A :: As) := by
  obtain ⟨U, h1, h2, h3⟩ := h
  have hs := h3.size
  refine ⟨fun g => F g ∨ U g, ⟨F, U, hA, h1.kept hc fun _ _ h => h, fun g a b => ?_, fun g => Iff.rfl⟩, fun g hg => ?_, h3.trans hc fun _ h => h.elim⟩
  · have := h1.live g b; have := hF g a; omega
  · rcases hg with a | a
    · have := hF g a; omega
    · exact h2 g a
end

/-- a reader, a writer of the program's -/
def aRd (R T : Nat) (s : ByteArray) (p : Nat) : Ast := ⟨fun w F => Rd w R T F s p, fun h hc hd => h.kept hc hd, fun h => h.live⟩
def aWr (B : Nat) (bs : List Bool) : Ast := ⟨fun w F => ∃ sv L, Wr w B F bs sv L, fun ⟨sv, L, h⟩ hc hd => ⟨sv, L, h.kept hc hd⟩, fun ⟨_, _, h⟩ => h.live⟩

section
variable {w wr : World} {As : List Ast} {B R T : Nat} {bs : List Bool} {s : ByteArray} {p : Nat}

theorem st_new (h : St w wr As) : Calls Try.prog 19 #[] wr fun e w' => ∃ B, e = .returned (.pointer (some ⟨B, 0, none⟩)) ∧ St w w' (aWr B [] :: As) := by
  refine (new_any wr).mono ?_
  rintro e w' ⟨he, rfl⟩
  exact ⟨_, he, h.push ((Ch.refl (fun _ => False) wr).alloc _) (A := aWr wr.heap.size []) ⟨_, _, Wr.new wr⟩ fun g hg => by omega⟩

theorem st_open (h : St w wr As) (s : ByteArray) (hs : s.size ≤ 1152921504606846975) : Calls Try.prog 8 #[.string s] wr fun e w' => ∃ R T, e = .returned (.pointer (some ⟨R, 0, none⟩)) ∧ St w w' (aRd R T s 0 :: As) := by
  refine (open_any s wr hs).mono ?_
  rintro e w' ⟨he, hR, hC⟩
  exact ⟨_, _, he, h.push hC (A := aRd _ _ s 0) hR fun g hg => by omega⟩

theorem st_put (h : St w wr (aWr B bs :: As)) (kd K v : Nat) (hk : kd < 256) (hK : K < 18446744073709551616) (hf : fits2 kd K v = true) (hm : bs.length + (cbits kd K v).length ≤ 134217728) :
    Calls Try.prog 21 #[.pointer (some ⟨B, 0, none⟩), .agg #[.int .u8 kd, .int .u64 K], .int .u64 v] wr fun e w' => e = .returned (.int .i64 0) ∧ St w w' (aWr B (bs ++ cbits kd K v) :: As) :=
  h.op fun F ⟨sv, L, hW⟩ => (cput_ok kd K v B F bs sv L wr hW hk hK hf hm).mono fun _ _ ⟨he, F', sv', L', k1, k2, k3⟩ => ⟨he, F', ⟨sv', L', k1⟩, k2, k3⟩

theorem st_putarg (h : St w wr As) (kd K v : Nat) (hk : kd < 256) (hK : K < 18446744073709551616) (hf : fits2 kd K v = false) :
    Calls Try.prog 21 #[.pointer (some ⟨B, 0, none⟩), .agg #[.int .u8 kd, .int .u64 K], .int .u64 v] wr fun e w' => e = .returned (.int .i64 1) ∧ St w w' As :=
  (cput_arg kd K v B wr hk hK hf).mono fun _ _ ⟨he, hc⟩ => ⟨he, h.same hc⟩

theorem st_len (h : St w wr (aWr B bs :: As)) : Calls Try.prog 20 #[.pointer (some ⟨B, 0, none⟩)] wr fun e w' => e = .returned (.int .i64 bs.length) ∧ wr = w' := by
  obtain ⟨F, sv, L, hW⟩ := h.get
  exact wlen_any hW

theorem st_text (h : St w wr (aWr B bs :: As)) : ∃ L, Packs L bs ∧ Calls Try.prog 23 #[.pointer (some ⟨B, 0, none⟩)] wr fun e w' => e = .returned (.tuple #[.string ⟨L.toArray⟩, .int .i64 0]) ∧ wr = w' := by
  obtain ⟨F, sv, L, hW⟩ := h.get
  exact ⟨L, hW.packs, wtext_any hW⟩

theorem st_at (h : St w wr (aRd R T s p :: As)) : Calls Try.prog 13 #[.pointer (some ⟨R, 0, none⟩)] wr fun e w' => e = .returned (.int .i64 p) ∧ wr = w' := by
  obtain ⟨F, hR⟩ := h.get
  exact at_any hR

theorem st_seek (h : St w wr (aRd R T s p :: As)) (n : Nat) (hn : n ≤ 8 * s.size) : Calls Try.prog 24 #[.pointer (some ⟨R, 0, none⟩), .int .i64 n] wr fun e w' => e = .returned (.int .i64 0) ∧ St w w' (aRd R T s n :: As) :=
  h.op fun F hR => (seek_ok hR n hn).mono fun _ _ ⟨he, k1, k2⟩ => ⟨he, F, k1, k2, fun g h => .inl h⟩

theorem st_bit (h : St w wr (aRd R T s p :: As)) (hl : p + 1 ≤ 8 * s.size) : Calls Try.prog 25 #[.pointer (some ⟨R, 0, none⟩)] wr fun e w' => e = .returned (.tuple #[.bool (fld s p 1 == 1), .int .i64 0]) ∧ St w w' (aRd R T s (p + 1) :: As) :=
  h.op fun F hR => (rbit_ok hR hl).mono fun _ _ ⟨he, k1, k2⟩ => ⟨he, F, k1, k2, fun g h => .inl h⟩

/-- Read: a number that stands there; none; no code -/
theorem st_read (h : St w wr (aRd R T s p :: As)) (kd K : Nat) (hm : may kd K = true) :
    Calls Try.prog 10 #[.pointer (some ⟨R, 0, none⟩), .agg #[.int .u8 kd, .int .u64 K]] wr fun e w' =>
      (∃ v, v ≤ most kd K ∧ cbits kd K v <+: rest s p ∧ e = .returned (.tuple #[.int .u64 (v : Nat), .int .i64 0]) ∧ St w w' (aRd R T s (p + (cbits kd K v).length) :: As)) ∨
      ((∀ v, v ≤ most kd K → ¬ cbits kd K v <+: rest s p) ∧ e = .returned (.tuple #[.int .u64 0, .int .i64 4]) ∧ St w w' (aRd R T s p :: As)) := by
  have h0 := h
  obtain ⟨U, ⟨F, V, h1, h2, h3, h4⟩, h5, h6⟩ := h
  have step : ∀ {w' : World} {q : Nat}, Rd w' R T F s q → Ch F wr w' → St w w' (aRd R T s q :: As) := fun {w' q} hR hC =>
    ⟨U, ⟨F, V, hR, h2.kept hC fun g a b => h3 g b a, h3, h4⟩, h5, h6.trans hC fun g hg => .inr (h5 g ((h4 g).2 (.inl hg)))⟩
  refine (read_any h1 kd K hm).mono ?_
  rintro e w' (⟨v, hv, hp, he, hR, hC⟩ | ⟨hn, he, hR, hC⟩)
  · exact .inl ⟨v, hv, hp, he, step hR hC⟩
  · exact .inr ⟨hn, he, step hR hC⟩
theorem st_readbad (h : St w wr As) (kd K : Nat) (hk : kd < 256) (hK : K < 18446744073709551616) (hm : may kd K = false) :
    Calls Try.prog 10 #[.pointer (some ⟨R, 0, none⟩), .agg #[.int .u8 kd, .int .u64 K]] wr fun e w' => e = .returned (.tuple #[.int .u64 0, .int .i64 1]) ∧ St w w' As :=
  (read_bad kd K R wr hk hK hm).mono fun _ _ ⟨he, hc⟩ => ⟨he, h.same hc⟩
theorem st_own (h : St w wr As) (kd K : Nat) : Calls Try.prog 11 #[.agg #[.int .u8 kd, .int .u64 K]] wr fun e w' => e = .returned (.agg #[.int .u8 kd, .int .u64 K]) ∧ St w w' As :=
  (own_any kd K wr).mono fun _ _ ⟨he, hc⟩ => ⟨he, h.same hc⟩
end

/-- one bit of what stands there -/
theorem fld_of_pre {c : List Bool} {s : ByteArray} {p q : Nat} (h : c <+: rest s p) (hq : q < c.length) : fld s (p + q) 1 = (c[q]'hq).toNat ∧ p + q + 1 ≤ 8 * s.size := by
  have hl := h.length_le
  rw [rest_len] at hl
  refine ⟨?_, by omega⟩
  obtain ⟨t, ht⟩ := h
  rw [fld_rest0, ← rest_drop, ← ht, List.drop_append_of_le_length (by omega), List.drop_eq_getElem_cons hq, List.cons_append, List.take_succ_cons, List.take_zero]
  simp [num]
end Go.Proofs.Ytgcediipkojdbaa.bits
