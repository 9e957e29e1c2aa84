/-
  A kit of a heap's objects side by side: blocks and rows of a walk's own; an object of several parts; calls on the first of them. No program but for the name of the one that calls are made of.
-/

import Derived.Test.YtfgcbbbhnnikdaaRows
import Derived.WalkKit
import Derived.ProofKit
import Derived.OpenShut
import Derived.Lib.Hide
import Derived.OneCell
import Derived.BigQuiet
import Derived.Deep.QuietTactic
import Derived.BigRegion
import Derived.ChangeAlike
import Derived.Outline
namespace Go.Proofs.Ytfgcbbbhnnikdaa.mem
open Go.ChangeShapes Go.WideShapes Go.ChangeAt Go.RowKit
set_option linter.unusedVariables false

/-- from w to w' nothing of what was there has turned, but for the blocks F -/
structure Ch (F : Nat → Prop) (w w' : World) : Prop where
  os : w'.os = w.os
  tape : w'.tape = w.tape
  output : w'.output = w.output
  size : w.heap.size ≤ w'.heap.size
  block : ∀ k, k < w.heap.size → ¬ F k → w'.heap[k]? = w.heap[k]?

theorem Ch.refl (F : Nat → Prop) (w : World) : Ch F w w := ⟨rfl, rfl, rfl, Nat.le_refl _, fun _ _ _ => rfl⟩
theorem Ch.trans {F G : Nat → Prop} {a b c : World} (h : Ch F a b) (k : Ch G b c) (hg : ∀ g, G g → F g ∨ a.heap.size ≤ g) : Ch F a c :=
  ⟨k.os.trans h.os, k.tape.trans h.tape, k.output.trans h.output, Nat.le_trans h.size k.size, fun i hi hf => (k.block i (Nat.lt_of_lt_of_le hi h.size) (fun hG => by rcases hg i hG with h' | h'; exact hf h'; omega)).trans (h.block i hi hf)⟩
theorem Ch.drew {F : Nat → Prop} {a w : World} (h : Ch F a w) : Ch F a w.drew := ⟨h.os, h.tape, h.output, h.size, h.block⟩
theorem Ch.drewN {F : Nat → Prop} {a w : World} (h : Ch F a w) (n : Nat) : Ch F a (w.drewN n) := ⟨h.os, h.tape, h.output, h.size, h.block⟩
theorem Ch.alloc {F : Nat → Prop} {a w : World} (h : Ch F a w) (o : Obj) : Ch F a (w.alloc o) :=
  ⟨h.os, h.tape, h.output, Nat.le_trans h.size (by simp), fun i hi hf => (Below.heap_alloc w o i (Nat.lt_of_lt_of_le hi h.size)).trans (h.block i hi hf)⟩
theorem Ch.setCell {F : Nat → Prop} {a w : World} (h : Ch F a w) {p : Addr} (hp : F p.block ∨ a.heap.size ≤ p.block) (u : Value) : Ch F a (w.setCell p u) :=
  ⟨h.os, h.tape, h.output, by simpa using h.size, fun i hi hf => (Below.heap_setCell w p u i (fun e => by rw [← e] at hp; rcases hp with h' | h'; exact hf h'; omega)).trans (h.block i hi hf)⟩
theorem Ch.grown {F : Nat → Prop} {a w w' : World} {row : Option Nat} (h : Ch F a w) (hg : w.grownBy w' row) (hr : ∀ k, row = some k → F k ∨ a.heap.size ≤ k) : Ch F a w' :=
  ⟨hg.os.trans h.os, hg.tape.trans h.tape, hg.output.trans h.output, Nat.le_trans h.size hg.size, fun i hi hf => (hg.block i (Nat.lt_of_lt_of_le hi h.size) (fun e => by rcases hr i e.symm with h' | h'; exact hf h'; omega)).trans (h.block i hi hf)⟩
theorem Ch.mono {F G : Nat → Prop} {a b : World} (h : Ch F a b) (hg : ∀ g, F g → G g) : Ch G a b := ⟨h.os, h.tape, h.output, h.size, fun i hi hf => h.block i hi (fun e => hf (hg i e))⟩
theorem Ch.of_below {w w' : World} (h : Below w.heap.size w w') : Ch (fun _ => False) w w' := ⟨h.os, h.tape, h.output, h.size, fun k hk _ => h.block k hk⟩
theorem Ch.below {w w' : World} (h : Ch (fun _ => False) w w') : Below w.heap.size w w' := ⟨h.os, h.tape, h.output, h.size, fun k hk => h.block k hk (fun h => h)⟩
theorem Ch.cell {w w' : World} (h : Ch (fun _ => False) w w') {a : Addr} {v : Value} (hc : w.cell? a = some v) : w'.cell? a = some v := by
  rw [World.cell?_of_block (w := w) (h.block a.block (World.block_lt_of_cell? w a hc) (fun h => h))]
  exact hc

theorem block_set {w : World} {B o : Nat} {cs : Array Value} {z : Value} {t : TypeId} (h : w.heap[B]? = some (.cells cs t (0, 0))) : (w.setCell ⟨B, o, none⟩ z).heap[B]? = some (.cells (cs.setIfInBounds o z) t (0, 0)) := by
  have hlt := lt_of_block h
  have h' : w.heap[B] = .cells cs t (0, 0) := by simpa [Array.getElem?_eq_getElem hlt] using h
  show (w.heap.modify B _)[B]? = _
  rw [Array.getElem?_eq_getElem (by simpa using hlt), Array.getElem_modify_self, h']
  rfl
theorem row_kept {w w' : World} {G : Nat → Prop} {base : Nat} {e : TypeId} {size : Nat} {v : Value} {n : Nat} {xs : List Value} (h : w.ownsRow base e size v n xs) (hc : Ch G w w') (hg : ∀ g, v.ownBlock = some g → ¬ G g) : w'.ownsRow base e size v n xs := by
  refine ⟨h.1, ?_⟩
  rcases h.2 with h2 | ⟨g, cap, cur, hv, hb, hh, r⟩
  · exact .inl h2
  · exact .inr ⟨g, cap, cur, hv, hb, by rw [hc.block g (lt_of_block hh) (hg g (by rw [hv]; rfl))]; exact hh, r⟩
theorem own_lt {w : World} {base : Nat} {e : TypeId} {size : Nat} {v : Value} {n : Nat} {xs : List Value} (h : w.ownsRow base e size v n xs) {g : Nat} (hg : v.ownBlock = some g) : g < w.heap.size := (h.lt g hg).2

/-- a share of a block: who has all of them may write it, who has one may read it -/
abbrev Tok := Nat × List Bool
/-- an object: what holds of it by the shares F; it hangs on these blocks alone -/
structure Ast where
  p : World → (Tok → Prop) → Prop
  kept : ∀ {w w' : World} {F : Tok → Prop} {G : Nat → Prop}, p w F → Ch G w w' → (∀ g, F g → ¬ G g.1) → p w' F
  live : ∀ {w : World} {F : Tok → Prop}, p w F → ∀ g, F g → g.1 < w.heap.size
/-- the blocks of which all shares are there -/
def full (F : Tok → Prop) : Nat → Prop := fun g => ∀ q, F (g, q)

def Sep (wr : World) : List Ast → (Tok → Prop) → Prop
  | [], U => ∀ g, ¬ U g
  | A :: As, U => ∃ F V, A.p wr F ∧ Sep wr As V ∧ (∀ g, F g → ¬ V g) ∧ ∀ g, U g ↔ F g ∨ V g

theorem Sep.kept {wr wq : World} {G : Nat → Prop} (hc : Ch G wr wq) : ∀ {As : List Ast} {U : Tok → Prop}, Sep wr As U → (∀ g, U g → ¬ G g.1) → Sep wq As U
  | [], _, h, _ => h
  | A :: As, U, ⟨F, V, h1, h2, h3, h4⟩, hd => ⟨F, V, A.kept h1 hc fun g hg => hd g ((h4 g).2 (.inl hg)), Sep.kept hc h2 fun g hg => hd g ((h4 g).2 (.inr hg)), h3, h4⟩
theorem Sep.live {wr : World} : ∀ {As : List Ast} {U : Tok → Prop}, Sep wr As U → ∀ g, U g → g.1 < wr.heap.size
  | [], _, h, g, hg => absurd hg (h g)
  | A :: As, U, ⟨F, V, h1, h2, h3, h4⟩, g, hg => by
    rcases (h4 g).1 hg with a | a
    · exact A.live h1 g a
    · exact Sep.live h2 g a
theorem Sep.swap {wr : World} {A B : Ast} {As : List Ast} {U : Tok → Prop} (h : Sep wr (A :: B :: As) U) : Sep wr (B :: A :: As) U := by
  obtain ⟨F, V, h1, ⟨F2, V2, k1, k2, k3, k4⟩, h3, h4⟩ := h
  refine ⟨F2, fun g => F g ∨ V2 g, k1, ⟨F, V2, h1, k2, fun g a b => h3 g a ((k4 g).2 (.inr b)), fun g => Iff.rfl⟩, fun g a b => ?_, fun g => ?_⟩
  · rcases b with b | b
    · exact h3 g b ((k4 g).2 (.inl a))
    · exact k3 g a b
  · rw [h4, k4]
    exact ⟨fun h => by rcases h with a | a | a; exact .inr (.inl a); exact .inl a; exact .inr (.inr a), fun h => by rcases h with a | a | a; exact .inr (.inl a); exact .inl a; exact .inr (.inr a)⟩
theorem Sep.tail {wr : World} {A : Ast} {As Bs : List Ast} {U : Tok → Prop} (h : Sep wr (A :: As) U) (k : ∀ V, Sep wr As V → Sep wr Bs V) : Sep wr (A :: Bs) U := by
  obtain ⟨F, V, h1, h2, h3, h4⟩ := h
  exact ⟨F, V, h1, k V h2, h3, h4⟩
/-- the objects As in the blocks U, the objects Bs in the blocks V apart from them -/
theorem Sep.append {wr : World} {Bs : List Ast} {V : Tok → Prop} (hB : Sep wr Bs V) : ∀ {As : List Ast} {U : Tok → Prop}, Sep wr As U → (∀ g, U g → ¬ V g) → Sep wr (As ++ Bs) fun g => U g ∨ V g
  | [], U, h, hd => by
    have : (fun g => U g ∨ V g) = V := funext fun g => propext ⟨fun h' => h'.elim (fun a => absurd a (h g)) id, .inr⟩
    rw [this]
    exact hB
  | A :: As, U, ⟨F, W, h1, h2, h3, h4⟩, hd => ⟨F, fun g => W g ∨ V g, h1, Sep.append hB h2 fun g a b => hd g ((h4 g).2 (.inr a)) b, fun g a b => by
      rcases b with b | b
      · exact h3 g a b
      · exact hd g ((h4 g).2 (.inl a)) b, fun g => by show U g ∨ V g ↔ F g ∨ (W g ∨ V g); rw [h4, or_assoc]⟩
theorem Sep.split {wr : World} {Bs : List Ast} : ∀ {As : List Ast} {X : Tok → Prop}, Sep wr (As ++ Bs) X → ∃ U V, Sep wr As U ∧ Sep wr Bs V ∧ (∀ g, U g → ¬ V g) ∧ ∀ g, X g ↔ U g ∨ V g
  | [], X, h => ⟨fun _ => False, X, fun _ h => h, h, fun _ h => h.elim, fun g => ⟨.inr, fun h => h.elim False.elim id⟩⟩
  | A :: As, X, ⟨F, W, h1, h2, h3, h4⟩ => by
    obtain ⟨U, V, k1, k2, k3, k4⟩ := Sep.split h2
    refine ⟨fun g => F g ∨ U g, V, ⟨F, U, h1, k1, fun g a b => h3 g a ((k4 g).2 (.inl b)), fun g => Iff.rfl⟩, k2, fun g a b => ?_, fun g => by rw [h4, k4, or_assoc]⟩
    rcases a with a | a
    · exact h3 g a ((k4 g).2 (.inr b))
    · exact k3 g a b

/-- an object of several parts -/
def aMany (L : List Ast) : Ast := ⟨fun w F => Sep w L F, fun h hc hd => h.kept hc hd, fun h => h.live⟩
/-- an object for some x -/
def aEx {α : Type} (f : α → Ast) : Ast := ⟨fun w F => ∃ x, (f x).p w F, fun ⟨x, h⟩ hc hd => ⟨x, (f x).kept h hc hd⟩, fun ⟨x, h⟩ => (f x).live h⟩
/-- an object of which more is known -/
def aAnd (φ : Prop) (A : Ast) : Ast := ⟨fun w F => φ ∧ A.p w F, fun ⟨a, h⟩ hc hd => ⟨a, A.kept h hc hd⟩, fun ⟨_, h⟩ => A.live h⟩
/-- a row of the walk's own -/
def aRow (t : TypeId) (size : Nat) (v : Value) (n : Nat) (xs : List Value) : Ast :=
  ⟨fun w F => w.ownsRow 0 t size v n xs ∧ ∀ g, F g ↔ v.ownBlock = some g.1, fun h hc hd => ⟨row_kept h.1 hc fun g hg => hd (g, []) ((h.2 _).2 hg), h.2⟩, fun h g hg => own_lt h.1 ((h.2 g).1 hg)⟩
/-- a row that may be read, and is shared: the shares that begin with q -/
def aShare (t : TypeId) (size : Nat) (v : Value) (n : Nat) (xs : List Value) (q : List Bool) : Ast :=
  ⟨fun w F => w.ownsRow 0 t size v n xs ∧ ∀ g, F g ↔ v.ownBlock = some g.1 ∧ q <+: g.2, fun h hc hd => ⟨row_kept h.1 hc fun g hg => hd (g, q) ((h.2 _).2 ⟨hg, List.prefix_refl q⟩), h.2⟩, fun h g hg => own_lt h.1 ((h.2 g).1 hg).1⟩
/-- a block -/
def aBlk (b : Nat) (o : Obj) : Ast :=
  ⟨fun w F => w.heap[b]? = some o ∧ ∀ g, F g ↔ g.1 = b, fun h hc hd => ⟨by rw [hc.block b (lt_of_block h.1) (hd (b, []) ((h.2 _).2 rfl))]; exact h.1, h.2⟩, fun h g hg => by rw [(h.2 g).1 hg]; exact lt_of_block h.1⟩
/-- a variable of so many cells -/
abbrev aVar (b : Nat) (cs : List Value) (t : TypeId) : Ast := aBlk b (.cells cs.toArray t (0, 0))

/-- the objects As side by side in wr, all made since w; of what was there nothing has turned -/
def St (w wr : World) (As : List Ast) : Prop := ∃ U, Sep wr As U ∧ (∀ g, U g → w.heap.size ≤ g.1) ∧ Ch (fun _ => False) w wr

section
variable {w wr : World} {A B C D E : Ast} {As Bs : List Ast}

theorem St.nil (h : Ch (fun _ => False) w wr) : St w wr [] := ⟨fun _ => False, fun g h => h, fun g h => h.elim, h⟩
theorem St.ch (h : St w wr As) : Ch (fun _ => False) w wr := by obtain ⟨U, _, _, h⟩ := h; exact h
theorem St.swap (h : St w wr (A :: B :: As)) : St w wr (B :: A :: As) := by obtain ⟨U, h1, h2⟩ := h; exact ⟨U, h1.swap, h2⟩
theorem St.third (h : St w wr (A :: B :: C :: As)) : St w wr (C :: A :: B :: As) := by obtain ⟨U, h1, h2⟩ := h; exact ⟨U, (h1.tail fun V k => k.swap).swap, h2⟩
theorem St.fourth (h : St w wr (A :: B :: C :: D :: As)) : St w wr (D :: A :: B :: C :: As) := by
  obtain ⟨U, h1, h2⟩ := h
  exact ⟨U, (h1.tail fun V k => (k.tail fun V k => k.swap).swap).swap, h2⟩
theorem St.fifth (h : St w wr (A :: B :: C :: D :: E :: As)) : St w wr (E :: A :: B :: C :: D :: As) := by
  obtain ⟨U, h1, h2⟩ := h
  exact ⟨U, (h1.tail fun V k => (k.tail fun V k => (k.tail fun V k => k.swap).swap).swap).swap, h2⟩
/-- behind the first -/
theorem St.rest (h : St w wr (A :: As)) (k : ∀ V, Sep wr As V → Sep wr Bs V) : St w wr (A :: Bs) := by obtain ⟨U, h1, h2⟩ := h; exact ⟨U, h1.tail k, h2⟩
theorem St.drop (h : St w wr (A :: As)) : St w wr As := by
  obtain ⟨U, ⟨F, V, h1, h2, h3, h4⟩, h5, h6⟩ := h
  exact ⟨V, h2, fun g hg => h5 g ((h4 g).2 (.inr hg)), h6⟩
theorem St.get (h : St w wr (A :: As)) : ∃ F, A.p wr F := by
  obtain ⟨U, ⟨F, V, h1, _⟩, _⟩ := h
  exact ⟨F, h1⟩
theorem St.same (h : St w wr As) {wq : World} (hc : Ch (fun _ => False) wr wq) : St w wq As := by
  obtain ⟨U, h1, h2, h3⟩ := h
  exact ⟨U, h1.kept hc fun _ _ h => h, h2, h3.trans hc fun _ h => h.elim⟩
theorem St.alloc (h : St w wr As) (o : Obj) : St w (wr.alloc o) As := h.same ((Ch.refl _ _).alloc o)
theorem St.drew (h : St w wr As) : St w wr.drew As := h.same (Ch.refl _ _).drew
theorem St.drewN (h : St w wr As) (n : Nat) : St w (wr.drewN n) As := h.same ((Ch.refl _ _).drewN n)
theorem St.append (h : St w wr (aMany As :: Bs)) : St w wr (As ++ Bs) := by
  obtain ⟨U, ⟨F, V, h1, h2, h3, h4⟩, h5⟩ := h
  refine ⟨fun g => F g ∨ V g, Sep.append h2 h1 h3, fun g hg => h5.1 g ((h4 g).2 hg), h5.2⟩
theorem St.gather (h : St w wr (As ++ Bs)) : St w wr (aMany As :: Bs) := by
  obtain ⟨U, h1, h5⟩ := h
  obtain ⟨F, V, k1, k2, k3, k4⟩ := Sep.split h1
  exact ⟨U, ⟨F, V, k1, k2, k3, k4⟩, h5⟩
theorem Sep.gather {U : Tok → Prop} (h : Sep wr (As ++ Bs) U) : Sep wr (aMany As :: Bs) U := by
  obtain ⟨F, V, k1, k2, k3, k4⟩ := Sep.split h
  exact ⟨F, V, k1, k2, k3, k4⟩
theorem Sep.ungather {U : Tok → Prop} (h : Sep wr (aMany As :: Bs) U) : Sep wr (As ++ Bs) U := by
  obtain ⟨F, V, h1, h2, h3, h4⟩ := h
  have : U = fun g => F g ∨ V g := funext fun g => propext (h4 g)
  rw [this]
  exact Sep.append h2 h1 h3
/-- the first one behind some others, and to the front again -/
theorem St.behind (h : St w wr (A :: (As ++ Bs))) : St w wr (As ++ A :: Bs) := (h.rest (Bs := aMany As :: Bs) fun V k => k.gather).swap.append
theorem St.front (h : St w wr (As ++ A :: Bs)) : St w wr (A :: (As ++ Bs)) := (h.gather.swap).rest fun V k => k.ungather
theorem St.open' {α : Type} {f : α → Ast} (h : St w wr (aEx f :: As)) : ∃ x, St w wr (f x :: As) := by
  obtain ⟨U, ⟨F, V, ⟨x, h1⟩, h2, h3, h4⟩, h5⟩ := h
  exact ⟨x, U, ⟨F, V, h1, h2, h3, h4⟩, h5⟩
theorem St.shut {α : Type} {f : α → Ast} (x : α) (h : St w wr (f x :: As)) : St w wr (aEx f :: As) := by
  obtain ⟨U, ⟨F, V, h1, h2, h3, h4⟩, h5⟩ := h
  exact ⟨U, ⟨F, V, ⟨x, h1⟩, h2, h3, h4⟩, h5⟩
theorem St.know {φ : Prop} (h : St w wr (aAnd φ A :: As)) : φ ∧ St w wr (A :: As) := by
  obtain ⟨U, ⟨F, V, ⟨a, h1⟩, h2, h3, h4⟩, h5⟩ := h
  exact ⟨a, U, ⟨F, V, h1, h2, h3, h4⟩, h5⟩
theorem St.tell {φ : Prop} (a : φ) (h : St w wr (A :: As)) : St w wr (aAnd φ A :: As) := by
  obtain ⟨U, ⟨F, V, h1, h2, h3, h4⟩, h5⟩ := h
  exact ⟨U, ⟨F, V, ⟨a, h1⟩, h2, h3, h4⟩, h5⟩

/-- the first object changes -/
theorem St.step {A' : Ast} (h : St w wr (A :: As)) {wq : World} (k : ∀ F, A.p wr F → ∃ F', A'.p wq F' ∧ Ch (full F) wr wq ∧ ∀ g, F' g → F g ∨ wr.heap.size ≤ g.1) : St w wq (A' :: As) := by
  obtain ⟨U, ⟨F, V, h1, h2, h3, h4⟩, h5, h6⟩ := h
  obtain ⟨F', k1, k2, k3⟩ := k F h1
  have hs := h6.size
  refine ⟨fun g => F' g ∨ V g, ⟨F', V, k1, h2.kept k2 fun g a b => h3 g (b g.2) a, fun g a b => ?_, fun g => Iff.rfl⟩, fun g hg => ?_, h6.trans k2 fun g hg => .inr (h5 (g, []) ((h4 _).2 (.inl (hg []))))⟩
  · rcases k3 g a with c | c
    · exact h3 g c b
    · have := h2.live g b; omega
  · rcases hg with a | a
    · rcases k3 g a with c | c
      · exact h5 g ((h4 g).2 (.inl c))
      · omega
    · exact h5 g ((h4 g).2 (.inr a))
/-- an object more -/
theorem St.push (h : St w wr As) {wq : World} (hc : Ch (fun _ => False) wr wq) {F : Tok → Prop} (hA : A.p wq F) (hF : ∀ g, F g → wr.heap.size ≤ g.1) : St w wq (A :: As) := by
  obtain ⟨U, h1, h2, h3⟩ := h
  have hs := h3.size
  refine ⟨fun g => F g ∨ U g, ⟨F, U, hA, h1.kept hc fun _ _ h => h, fun g a b => ?_, fun g => Iff.rfl⟩, fun g hg => ?_, h3.trans hc fun _ h => h.elim⟩
  · have := h1.live g b; have := hF g a; omega
  · rcases hg with a | a
    · have := hF g a; omega
    · exact h2 g a
/-- seen from a world between: what w's objects are stays as it is, the new ones are the call's own -/
theorem St.frame {wq : World} (h : St w wr As) (k : St wr wq Bs) : St w wq (Bs ++ As) := by
  obtain ⟨U, h1, h2, h3⟩ := h
  obtain ⟨V, k1, k2, k3⟩ := k
  have hs := h3.size
  refine ⟨fun g => V g ∨ U g, Sep.append (h1.kept k3 fun _ _ h => h) k1 fun g a b => ?_, fun g hg => ?_, h3.trans k3 fun _ h => h.elim⟩
  · have := h1.live g b; have := k2 g a; omega
  · rcases hg with a | a
    · have := k2 g a; omega
    · exact h2 g a
end

section
variable {w wr : World} {As : List Ast} {t : TypeId} {size n : Nat} {v : Value} {xs : List Value} {b : Nat} {o : Obj} {cs : List Value}

theorem st_row (h : St w wr (aRow t size v n xs :: As)) : wr.ownsRow 0 t size v n xs := by obtain ⟨F, h, _⟩ := h.get; exact h
theorem st_blk (h : St w wr (aBlk b o :: As)) : wr.heap[b]? = some o := by obtain ⟨F, h, _⟩ := h.get; exact h
theorem st_cell (h : St w wr (aVar b cs t :: As)) (i : Nat) : wr.cell? ⟨b, i, none⟩ = cs[i]? := by
  rw [cell_of_row _ _ _ _ _ _ (st_blk h)]
  simp
theorem st_free (h : St w wr (aVar b cs t :: As)) (i : Nat) : wr.frozen? ⟨b, i, none⟩ = false := by
  have := st_blk h
  unfold World.frozen?
  rw [this]
  simp
theorem st_ge (h : St w wr (aBlk b o :: As)) : w.heap.size ≤ b := by
  obtain ⟨U, ⟨F, V, ⟨_, h1⟩, h2, h3, h4⟩, h5, h6⟩ := h
  exact h5 (b, []) ((h4 _).2 (.inl ((h1 _).2 rfl)))
theorem st_lt (h : St w wr (aBlk b o :: As)) : b < wr.heap.size := lt_of_block (st_blk h)
theorem st_new (h : St w wr As) (cs : List Value) (t : TypeId) : St w (wr.alloc (.cells cs.toArray t)) (aVar wr.heap.size cs t :: As) :=
  h.push ((Ch.refl _ wr).alloc _) (A := aVar wr.heap.size cs t) (F := fun g => g.1 = wr.heap.size) ⟨heap_alloc_new wr _, fun g => Iff.rfl⟩ fun g hg => by omega
theorem st_set (h : St w wr (aVar b cs t :: As)) (i : Nat) (u : Value) : St w (wr.setCell ⟨b, i, none⟩ u) (aVar b (cs.set i u) t :: As) :=
  h.step fun F ⟨hb, hF⟩ => ⟨F, ⟨by
    have := block_set (o := i) (z := u) hb
    rw [this]
    simp, hF⟩, (Ch.refl _ wr).setCell (.inl fun q => (hF _).2 rfl) u, fun g hg => .inl hg⟩
theorem st_pushrow (h : St w wr As) : St w wr (aRow t size (.slice none 0 0) 0 [] :: As) :=
  h.push (Ch.refl _ wr) (A := aRow t size (.slice none 0 0) 0 []) (F := fun _ => False) ⟨World.ownsRow_nil _ _ _ _, fun g => by simp [Value.ownBlock]⟩ fun g h => h.elim
/-- a row is shared from now on -/
theorem st_share (h : St w wr (aRow t size v n xs :: As)) : St w wr (aShare t size v n xs [] :: As) :=
  h.step fun F ⟨hr, hF⟩ => ⟨F, ⟨hr, fun g => by rw [hF]; exact ⟨fun a => ⟨a, List.nil_prefix⟩, fun a => a.1⟩⟩, Ch.refl _ _, fun g hg => .inl hg⟩
theorem st_shared {q : List Bool} (h : St w wr (aShare t size v n xs q :: As)) : wr.ownsRow 0 t size v n xs := by obtain ⟨F, h, _⟩ := h.get; exact h
/-- a share is halved -/
theorem st_halve {q : List Bool} (h : St w wr (aShare t size v n xs q :: As)) : St w wr (aShare t size v n xs (q ++ [false]) :: aShare t size v n xs (q ++ [true]) :: As) := by
  obtain ⟨U, ⟨F, V, ⟨hr, hF⟩, h2, h3, h4⟩, h5, h6⟩ := h
  have hp : ∀ b (l : List Bool), q ++ [b] <+: l → q <+: l := fun b l a => (List.prefix_append q [b]).trans a
  have hd : ∀ l : List Bool, q ++ [false] <+: l → ¬ q ++ [true] <+: l := fun l a b => by
    obtain ⟨x, rfl⟩ := a
    obtain ⟨y, hy⟩ := b
    rw [List.append_assoc, List.append_assoc] at hy
    have := List.append_cancel_left hy
    simp at this
  refine ⟨fun g => (v.ownBlock = some g.1 ∧ q ++ [false] <+: g.2) ∨ ((v.ownBlock = some g.1 ∧ q ++ [true] <+: g.2) ∨ V g), ⟨_, fun g => (v.ownBlock = some g.1 ∧ q ++ [true] <+: g.2) ∨ V g, ⟨hr, fun g => Iff.rfl⟩, ⟨_, V, ⟨hr, fun g => Iff.rfl⟩, h2, fun g a b => h3 g ((hF g).2 ⟨a.1, hp _ _ a.2⟩) b, fun g => Iff.rfl⟩, fun g a b => ?_, fun g => Iff.rfl⟩, fun g hg => ?_, h6⟩
  · rcases b with b | b
    · exact hd _ a.2 b.2
    · exact h3 g ((hF g).2 ⟨a.1, hp _ _ a.2⟩) b
  · rcases hg with a | a | a
    · exact h5 g ((h4 g).2 (.inl ((hF g).2 ⟨a.1, hp _ _ a.2⟩)))
    · exact h5 g ((h4 g).2 (.inl ((hF g).2 ⟨a.1, hp _ _ a.2⟩)))
    · exact h5 g ((h4 g).2 (.inr a))
/-- a cell of a row is stored -/
theorem st_put {g cap i : Nat} {u : Value} (h : St w wr (aRow t size (.slice (some ⟨g, 0, none⟩) n cap) n xs :: As)) (hi : i < n * size) : St w (wr.setCell ⟨g, i, none⟩ u) (aRow t size (.slice (some ⟨g, 0, none⟩) n cap) n (xs.set i u) :: As) :=
  h.step fun F ⟨hr, hF⟩ => ⟨F, ⟨by
    obtain ⟨h1, h2⟩ := hr
    refine ⟨by rw [List.length_set]; exact h1, ?_⟩
    rcases h2 with ⟨h2, _⟩ | ⟨g', cap', cur, hv, hb, hh, c1, c2, c3, c4⟩
    · cases h2
    · simp only [Value.slice.injEq, Option.some.injEq, Addr.mk.injEq] at hv
      obtain ⟨⟨rfl, _, _⟩, _, rfl⟩ := hv
      exact .inr ⟨g, cap, cur.setIfInBounds i u, rfl, hb, block_set hh, c1, c2, by rw [Array.size_setIfInBounds]; exact c3, by rw [Array.toList_setIfInBounds, List.take_set, c4]⟩, hF⟩, (Ch.refl _ wr).setCell (.inl fun q => (hF _).2 rfl) u, fun g hg => .inl hg⟩
/-- a row grows: by what wpList_append_mine tells -/
theorem st_grow {w0 w1 : World} {g cap m : Nat} {news : List Value} (h : St w wr (aRow t size v n xs :: As)) (h0 : Ch (fun _ => False) wr w0) (hown : w1.ownsRow 0 t size (.slice (some ⟨g, 0, none⟩) m cap) m (xs ++ news)) (hgr : w0.grownBy w1 v.ownBlock) (hg : v.ownBlock = some g ∨ w0.heap.size ≤ g) :
    St w w1 (aRow t size (.slice (some ⟨g, 0, none⟩) m cap) m (xs ++ news) :: As) :=
  h.step fun F ⟨_, hF⟩ => ⟨fun k => k.1 = g, ⟨hown, fun k => by simp only [Value.ownBlock, Option.some.injEq]; exact eq_comm⟩, (h0.mono fun _ h => h.elim).grown hgr fun k hk => .inl fun q => (hF _).2 hk, fun k hk => by
    have := h0.size
    rcases hg with hg | hg
    · exact .inl ((hF k).2 (by rw [hk]; exact hg))
    · exact .inr (by omega)⟩
theorem st_rowge {g cap : Nat} (h : St w wr (aRow t size (.slice (some ⟨g, 0, none⟩) n cap) n xs :: As)) : w.heap.size ≤ g := by
  obtain ⟨U, ⟨F, V, ⟨_, h1⟩, h2, h3, h4⟩, h5, h6⟩ := h
  exact h5 (g, []) ((h4 _).2 (.inl ((h1 _).2 rfl)))
/-- a row's cells -/
theorem st_at (h : St w wr (aRow t size v n xs :: As)) {g cap : Nat} (hv : v = .slice (some ⟨g, 0, none⟩) n cap) (i : Nat) (hi : i < n * size) : wr.cell? ⟨g, i, none⟩ = xs[i]? := by
  subst hv
  rw [(st_row h).cellAt i hi]
theorem st_unfrozen {g cap : Nat} (h : St w wr (aRow t size (.slice (some ⟨g, 0, none⟩) n cap) n xs :: As)) (i : Nat) : wr.frozen? ⟨g, i, none⟩ = false := by
  rcases (st_row h).2 with ⟨h2, _⟩ | ⟨g', cap', cur, hv, hb, hh, r⟩
  · cases h2
  · simp only [Value.slice.injEq, Option.some.injEq, Addr.mk.injEq] at hv
    obtain ⟨⟨rfl, _, _⟩, _, rfl⟩ := hv
    unfold World.frozen?
    rw [hh]
    simp
/-- a row that is not empty has a block -/
theorem st_form (h : St w wr (aRow t size v n xs :: As)) (hn : 0 < n) : ∃ g cap, v = .slice (some ⟨g, 0, none⟩) n cap ∧ n ≤ cap := by
  rcases (st_row h).2 with ⟨_, h2⟩ | ⟨g, cap, cur, hv, hb, hh, c1, r⟩
  · omega
  · exact ⟨g, cap, hv, c1⟩
theorem st_len (h : St w wr (aRow t size v n xs :: As)) : xs.length = n * size := (st_row h).1
theorem st_shape (h : St w wr (aRow t size v n xs :: As)) : ∃ ao cap, v = .slice ao n cap := by
  rcases (st_row h).2 with ⟨h2, rfl⟩ | ⟨g, cap, cur, hv, r⟩
  · exact ⟨none, 0, h2⟩
  · exact ⟨_, _, hv⟩
end
end Go.Proofs.Ytfgcbbbhnnikdaa.mem
