/-
  A kit of a heap's objects side by side: blocks and rows of a walk's own; an object of several parts; calls on the first of them. No program but for the name of the one that calls are made of.
-/
import Derived.Test.YtjmjmekmaamclaaDoorRows
import Derived.WalkKit
import Derived.ProofKit
import Derived.OpenShut
import Derived.Lib.Hide
import Derived.OneCell
import Derived.BigQuiet
import Derived.Deep.QuietTactic
import Derived.BigRegion
import Derived.ChangeAlike
import Derived.Outline
import Derived.Deep.Upon
import Derived.Deep.AppendLies
import Derived.Deep.RegionHeld3
import Derived.Deep.RegionHeldLaw
import Derived.Maps.RangeWalk
import Derived.Maps.Ext

namespace Go.Proofs.YtjmjmekmaamclaaDoor.mem
open Go.ChangeShapes Go.WideShapes Go.ChangeAt Go.RowKit
set_option linter.unusedVariables false

/-- from w to w' nothing of what was there has turned, but for the blocks F -/
structure Ch (F : Nat → Prop) (w w' : World) : Prop where
  os : w'.os = w.os
  tape : w'.tape = w.tape
  output : w'.output = w.output
  size : w.heap.size ≤ w'.heap.size
  block : ∀ k, k < w.heap.size → ¬ F k → w'.heap[k]? = w.heap[k]?

theorem Ch.refl (F : Nat → Prop) (w : World) : Ch F w w := ⟨rfl, rfl, rfl, Nat.le_refl _, fun _ _ _ => rfl⟩
theorem Ch.trans {F G : Nat → Prop} {a b c : World} (h : Ch F a b) (k : Ch G b c) (hg : ∀ g, G g → F g ∨ a.heap.size ≤ g) : Ch F a c :=
  ⟨k.os.trans h.os, k.tape.trans h.tape, k.output.trans h.output, Nat.le_trans h.size k.size, fun i hi hf => (k.block i (Nat.lt_of_lt_of_le hi h.size) (fun hG => by rcases hg i hG with h' | h'; exact hf h'; omega)).trans (h.block i hi hf)⟩
theorem Ch.drew {F : Nat → Prop} {a w : World} (h : Ch F a w) : Ch F a w.drew := ⟨h.os, h.tape, h.output, h.size, h.block⟩
theorem Ch.drewN {F : Nat → Prop} {a w : World} (h : Ch F a w) (n : Nat) : Ch F a (w.drewN n) := ⟨h.os, h.tape, h.output, h.size, h.block⟩
theorem Ch.alloc {F : Nat → Prop} {a w : World} (h : Ch F a w) (o : Obj) : Ch F a (w.alloc o) :=
  ⟨h.os, h.tape, h.output, Nat.le_trans h.size (by simp), fun i hi hf => (Below.heap_alloc w o i (Nat.lt_of_lt_of_le hi h.size)).trans (h.block i hi hf)⟩
theorem Ch.setCell {F : Nat → Prop} {a w : World} (h : Ch F a w) {p : Addr} (hp : F p.block ∨ a.heap.size ≤ p.block) (u : Value) : Ch F a (w.setCell p u) :=
  ⟨h.os, h.tape, h.output, by simpa using h.size, fun i hi hf => (Below.heap_setCell w p u i (fun e => by rw [← e] at hp; rcases hp with h' | h'; exact hf h'; omega)).trans (h.block i hi hf)⟩
theorem Ch.grown {F : Nat → Prop} {a w w' : World} {row : Option Nat} (h : Ch F a w) (hg : w.grownBy w' row) (hr : ∀ k, row = some k → F k ∨ a.heap.size ≤ k) : Ch F a w' :=
  ⟨hg.os.trans h.os, hg.tape.trans h.tape, hg.output.trans h.output, Nat.le_trans h.size hg.size, fun i hi hf => (hg.block i (Nat.lt_of_lt_of_le hi h.size) (fun e => by rcases hr i e.symm with h' | h'; exact hf h'; omega)).trans (h.block i hi hf)⟩
theorem Ch.mono {F G : Nat → Prop} {a b : World} (h : Ch F a b) (hg : ∀ g, F g → G g) : Ch G a b := ⟨h.os, h.tape, h.output, h.size, fun i hi hf => h.block i hi (fun e => hf (hg i e))⟩
theorem Ch.of_below {w w' : World} (h : Below w.heap.size w w') : Ch (fun _ => False) w w' := ⟨h.os, h.tape, h.output, h.size, fun k hk _ => h.block k hk⟩
theorem Ch.below {w w' : World} (h : Ch (fun _ => False) w w') : Below w.heap.size w w' := ⟨h.os, h.tape, h.output, h.size, fun k hk => h.block k hk (fun h => h)⟩
theorem Ch.cell {w w' : World} (h : Ch (fun _ => False) w w') {a : Addr} {v : Value} (hc : w.cell? a = some v) : w'.cell? a = some v := by
  rw [World.cell?_of_block (w := w) (h.block a.block (World.block_lt_of_cell? w a hc) (fun h => h))]
  exact hc

theorem block_set {w : World} {B o : Nat} {cs : Array Value} {z : Value} {t : TypeId} (h : w.heap[B]? = some (.cells cs t (0, 0))) : (w.setCell ⟨B, o, none⟩ z).heap[B]? = some (.cells (cs.setIfInBounds o z) t (0, 0)) := by
  have hlt := lt_of_block h
  have h' : w.heap[B] = .cells cs t (0, 0) := by simpa [Array.getElem?_eq_getElem hlt] using h
  show (w.heap.modify B _)[B]? = _
  rw [Array.getElem?_eq_getElem (by simpa using hlt), Array.getElem_modify_self, h']
  rfl
theorem row_kept {w w' : World} {G : Nat → Prop} {base : Nat} {e : TypeId} {size : Nat} {v : Value} {n : Nat} {xs : List Value} (h : w.ownsRow base e size v n xs) (hc : Ch G w w') (hg : ∀ g, v.ownBlock = some g → ¬ G g) : w'.ownsRow base e size v n xs := by
  refine ⟨h.1, ?_⟩
  rcases h.2 with h2 | ⟨g, cap, cur, hv, hb, hh, r⟩
  · exact .inl h2
  · exact .inr ⟨g, cap, cur, hv, hb, by rw [hc.block g (lt_of_block hh) (hg g (by rw [hv]; rfl))]; exact hh, r⟩
theorem own_lt {w : World} {base : Nat} {e : TypeId} {size : Nat} {v : Value} {n : Nat} {xs : List Value} (h : w.ownsRow base e size v n xs) {g : Nat} (hg : v.ownBlock = some g) : g < w.heap.size := (h.lt g hg).2

/-- a share of a block: who has all of them may write it, who has one may read it -/
abbrev Tok := Nat × List Bool
/-- an object: what holds of it by the shares F; it hangs on these blocks alone -/
structure Ast where
  p : World → (Tok → Prop) → Prop
  kept : ∀ {w w' : World} {F : Tok → Prop} {G : Nat → Prop}, p w F → Ch G w w' → (∀ g, F g → ¬ G g.1) → p w' F
  live : ∀ {w : World} {F : Tok → Prop}, p w F → ∀ g, F g → g.1 < w.heap.size
/-- the blocks of which all shares are there -/
def full (F : Tok → Prop) : Nat → Prop := fun g => ∀ q, F (g, q)

def Sep (wr : World) : List Ast → (Tok → Prop) → Prop
  | [], U => ∀ g, ¬ U g
  | A :: As, U => ∃ F V, A.p wr F ∧ Sep wr As V ∧ (∀ g, F g → ¬ V g) ∧ ∀ g, U g ↔ F g ∨ V g

theorem Sep.kept {wr wq : World} {G : Nat → Prop} (hc : Ch G wr wq) : ∀ {As : List Ast} {U : Tok → Prop}, Sep wr As U → (∀ g, U g → ¬ G g.1) → Sep wq As U
  | [], _, h, _ => h
  | A :: As, U, ⟨F, V, h1, h2, h3, h4⟩, hd => ⟨F, V, A.kept h1 hc fun g hg => hd g ((h4 g).2 (.inl hg)), Sep.kept hc h2 fun g hg => hd g ((h4 g).2 (.inr hg)), h3, h4⟩
theorem Sep.live {wr : World} : ∀ {As : List Ast} {U : Tok → Prop}, Sep wr As U → ∀ g, U g → g.1 < wr.heap.size
  | [], _, h, g, hg => absurd hg (h g)
  | A :: As, U, ⟨F, V, h1, h2, h3, h4⟩, g, hg => by
    rcases (h4 g).1 hg with a | a
    · exact A.live h1 g a
    · exact Sep.live h2 g a
theorem Sep.swap {wr : World} {A B : Ast} {As : List Ast} {U : Tok → Prop} (h : Sep wr (A :: B :: As) U) : Sep wr (B :: A :: As) U := by
  obtain ⟨F, V, h1, ⟨F2, V2, k1, k2, k3, k4⟩, h3, h4⟩ := h
  refine ⟨F2, fun g => F g ∨ V2 g, k1, ⟨F, V2, h1, k2, fun g a b => h3 g a ((k4 g).2 (.inr b)), fun g => Iff.rfl⟩, fun g a b => ?_, fun g => ?_⟩
  · rcases b with b | b
    · exact h3 g b ((k4 g).2 (.inl a))
    · exact k3 g a b
  · rw [h4, k4]
    exact ⟨fun h => by rcases h with a | a | a; exact .inr (.inl a); exact .inl a; exact .inr (.inr a), fun h => by rcases h with a | a | a; exact .inr (.inl a); exact .inl a; exact .inr (.inr a)⟩
theorem Sep.tail {wr : World} {A : Ast} {As Bs : List Ast} {U : Tok → Prop} (h : Sep wr (A :: As) U) (k : ∀ V, Sep wr As V → Sep wr Bs V) : Sep wr (A :: Bs) U := by
  obtain ⟨F, V, h1, h2, h3, h4⟩ := h
  exact ⟨F, V, h1, k V h2, h3, h4⟩
/-- the objects As in the blocks U, the objects Bs in the blocks V apart from them -/
theorem Sep.append {wr : World} {Bs : List Ast} {V : Tok → Prop} (hB : Sep wr Bs V) : ∀ {As : List Ast} {U : Tok → Prop}, Sep wr As U → (∀ g, U g → ¬ V g) → Sep wr (As ++ Bs) fun g => U g ∨ V g
  | [], U, h, hd => by
    have : (fun g => U g ∨ V g) = V := funext fun g => propext ⟨fun h' => h'.elim (fun a => absurd a (h g)) id, .inr⟩
    rw [this]
    exact hB
  | A :: As, U, ⟨F, W, h1, h2, h3, h4⟩, hd => ⟨F, fun g => W g ∨ V g, h1, Sep.append hB h2 fun g a b => hd g ((h4 g).2 (.inr a)) b, fun g a b => by
      rcases b with b | b
      · exact h3 g a b
      · exact hd g ((h4 g).2 (.inl a)) b, fun g => by show U g ∨ V g ↔ F g ∨ (W g ∨ V g); rw [h4, or_assoc]⟩
theorem Sep.split {wr : World} {Bs : List Ast} : ∀ {As : List Ast} {X : Tok → Prop}, Sep wr (As ++ Bs) X → ∃ U V, Sep wr As U ∧ Sep wr Bs V ∧ (∀ g, U g → ¬ V g) ∧ ∀ g, X g ↔ U g ∨ V g
  | [], X, h => ⟨fun _ => False, X, fun _ h => h, h, fun _ h => h.elim, fun g => ⟨.inr, fun h => h.elim False.elim id⟩⟩
  | A :: As, X, ⟨F, W, h1, h2, h3, h4⟩ => by
    obtain ⟨U, V, k1, k2, k3, k4⟩ := Sep.split h2
    refine ⟨fun g => F g ∨ U g, V, ⟨F, U, h1, k1, fun g a b => h3 g a ((k4 g).2 (.inl b)), fun g => Iff.rfl⟩, k2, fun g a b => ?_, fun g => by rw [h4, k4, or_assoc]⟩
    rcases a with a | a
    · exact h3 g a ((k4 g).2 (.inr b))
    · exact k3 g a b

/-- an object of several parts -/
def aMany (L : List Ast) : Ast := ⟨fun w F => Sep w L F, fun h hc hd => h.kept hc hd, fun h => h.live⟩
/-- an object for some x -/
def aEx {α : Type} (f : α → Ast) : Ast := ⟨fun w F => ∃ x, (f x).p w F, fun ⟨x, h⟩ hc hd => ⟨x, (f x).kept h hc hd⟩, fun ⟨x, h⟩ => (f x).live h⟩
/-- an object of which more is known -/
def aAnd (φ : Prop) (A : Ast) : Ast := ⟨fun w F => φ ∧ A.p w F, fun ⟨a, h⟩ hc hd => ⟨a, A.kept h hc hd⟩, fun ⟨_, h⟩ => A.live h⟩
/-- a row of the walk's own -/
def aRow (t : TypeId) (size : Nat) (v : Value) (n : Nat) (xs : List Value) : Ast :=
  ⟨fun w F => w.ownsRow 0 t size v n xs ∧ ∀ g, F g ↔ v.ownBlock = some g.1, fun h hc hd => ⟨row_kept h.1 hc fun g hg => hd (g, []) ((h.2 _).2 hg), h.2⟩, fun h g hg => own_lt h.1 ((h.2 g).1 hg)⟩
/-- a row that may be read, and is shared: the shares that begin with q -/
def aShare (t : TypeId) (size : Nat) (v : Value) (n : Nat) (xs : List Value) (q : List Bool) : Ast :=
  ⟨fun w F => w.ownsRow 0 t size v n xs ∧ ∀ g, F g ↔ v.ownBlock = some g.1 ∧ q <+: g.2, fun h hc hd => ⟨row_kept h.1 hc fun g hg => hd (g, q) ((h.2 _).2 ⟨hg, List.prefix_refl q⟩), h.2⟩, fun h g hg => own_lt h.1 ((h.2 g).1 hg).1⟩
/-- a block -/
def aBlk (b : Nat) (o : Obj) : Ast :=
  ⟨fun w F => w.heap[b]? = some o ∧ ∀ g, F g ↔ g.1 = b, fun h hc hd => ⟨by rw [hc.block b (lt_of_block h.1) (hd (b, []) ((h.2 _).2 rfl))]; exact h.1, h.2⟩, fun h g hg => by rw [(h.2 g).1 hg]; exact lt_of_block h.1⟩
/-- a variable of so many cells -/
abbrev aVar (b : Nat) (cs : List Value) (t : TypeId) : Ast := aBlk b (.cells cs.toArray t (0, 0))

/-- the objects As side by side in wr, all made since w; of what was there nothing has turned -/
def St (w wr : World) (As : List Ast) : Prop := ∃ U, Sep wr As U ∧ (∀ g, U g → w.heap.size ≤ g.1) ∧ Ch (fun _ => False) w wr

section
variable {w wr : World} {A B C D E : Ast} {As Bs : List Ast}

theorem St.nil (h : Ch (fun _ => False) w wr) : St w wr [] := ⟨fun _ => False, fun g h => h, fun g h => h.elim, h⟩
theorem St.ch (h : St w wr As) : Ch (fun _ => False) w wr := by obtain ⟨U, _, _, h⟩ := h; exact h
theorem St.swap (h : St w wr (A :: B :: As)) : St w wr (B :: A :: As) := by obtain ⟨U, h1, h2⟩ := h; exact ⟨U, h1.swap, h2⟩
theorem St.third (h : St w wr (A :: B :: C :: As)) : St w wr (C :: A :: B :: As) := by obtain ⟨U, h1, h2⟩ := h; exact ⟨U, (h1.tail fun V k => k.swap).swap, h2⟩
theorem St.fourth (h : St w wr (A :: B :: C :: D :: As)) : St w wr (D :: A :: B :: C :: As) := by
  obtain ⟨U, h1, h2⟩ := h
  exact ⟨U, (h1.tail fun V k => (k.tail fun V k => k.swap).swap).swap, h2⟩
theorem St.fifth (h : St w wr (A :: B :: C :: D :: E :: As)) : St w wr (E :: A :: B :: C :: D :: As) := by
  obtain ⟨U, h1, h2⟩ := h
  exact ⟨U, (h1.tail fun V k => (k.tail fun V k => (k.tail fun V k => k.swap).swap).swap).swap, h2⟩
/-- behind the first -/
theorem St.rest (h : St w wr (A :: As)) (k : ∀ V, Sep wr As V → Sep wr Bs V) : St w wr (A :: Bs) := by obtain ⟨U, h1, h2⟩ := h; exact ⟨U, h1.tail k, h2⟩
theorem St.drop (h : St w wr (A :: As)) : St w wr As := by
  obtain ⟨U, ⟨F, V, h1, h2, h3, h4⟩, h5, h6⟩ := h
  exact ⟨V, h2, fun g hg => h5 g ((h4 g).2 (.inr hg)), h6⟩
theorem St.get (h : St w wr (A :: As)) : ∃ F, A.p wr F := by
  obtain ⟨U, ⟨F, V, h1, _⟩, _⟩ := h
  exact ⟨F, h1⟩
theorem St.same (h : St w wr As) {wq : World} (hc : Ch (fun _ => False) wr wq) : St w wq As := by
  obtain ⟨U, h1, h2, h3⟩ := h
  exact ⟨U, h1.kept hc fun _ _ h => h, h2, h3.trans hc fun _ h => h.elim⟩
theorem St.alloc (h : St w wr As) (o : Obj) : St w (wr.alloc o) As := h.same ((Ch.refl _ _).alloc o)
theorem St.drew (h : St w wr As) : St w wr.drew As := h.same (Ch.refl _ _).drew
theorem St.drewN (h : St w wr As) (n : Nat) : St w (wr.drewN n) As := h.same ((Ch.refl _ _).drewN n)
theorem St.append (h : St w wr (aMany As :: Bs)) : St w wr (As ++ Bs) := by
  obtain ⟨U, ⟨F, V, h1, h2, h3, h4⟩, h5⟩ := h
  refine ⟨fun g => F g ∨ V g, Sep.append h2 h1 h3, fun g hg => h5.1 g ((h4 g).2 hg), h5.2⟩
theorem St.gather (h : St w wr (As ++ Bs)) : St w wr (aMany As :: Bs) := by
  obtain ⟨U, h1, h5⟩ := h
  obtain ⟨F, V, k1, k2, k3, k4⟩ := Sep.split h1
  exact ⟨U, ⟨F, V, k1, k2, k3, k4⟩, h5⟩
theorem Sep.gather {U : Tok → Prop} (h : Sep wr (As ++ Bs) U) : Sep wr (aMany As :: Bs) U := by
  obtain ⟨F, V, k1, k2, k3, k4⟩ := Sep.split h
  exact ⟨F, V, k1, k2, k3, k4⟩
theorem Sep.ungather {U : Tok → Prop} (h : Sep wr (aMany As :: Bs) U) : Sep wr (As ++ Bs) U := by
  obtain ⟨F, V, h1, h2, h3, h4⟩ := h
  have : U = fun g => F g ∨ V g := funext fun g => propext (h4 g)
  rw [this]
  exact Sep.append h2 h1 h3
/-- the first one behind some others, and to the front again -/
theorem St.behind (h : St w wr (A :: (As ++ Bs))) : St w wr (As ++ A :: Bs) := (h.rest (Bs := aMany As :: Bs) fun V k => k.gather).swap.append
theorem St.front (h : St w wr (As ++ A :: Bs)) : St w wr (A :: (As ++ Bs)) := (h.gather.swap).rest fun V k => k.ungather
theorem St.open' {α : Type} {f : α → Ast} (h : St w wr (aEx f :: As)) : ∃ x, St w wr (f x :: As) := by
  obtain ⟨U, ⟨F, V, ⟨x, h1⟩, h2, h3, h4⟩, h5⟩ := h
  exact ⟨x, U, ⟨F, V, h1, h2, h3, h4⟩, h5⟩
theorem St.shut {α : Type} {f : α → Ast} (x : α) (h : St w wr (f x :: As)) : St w wr (aEx f :: As) := by
  obtain ⟨U, ⟨F, V, h1, h2, h3, h4⟩, h5⟩ := h
  exact ⟨U, ⟨F, V, ⟨x, h1⟩, h2, h3, h4⟩, h5⟩
theorem St.know {φ : Prop} (h : St w wr (aAnd φ A :: As)) : φ ∧ St w wr (A :: As) := by
  obtain ⟨U, ⟨F, V, ⟨a, h1⟩, h2, h3, h4⟩, h5⟩ := h
  exact ⟨a, U, ⟨F, V, h1, h2, h3, h4⟩, h5⟩
theorem St.tell {φ : Prop} (a : φ) (h : St w wr (A :: As)) : St w wr (aAnd φ A :: As) := by
  obtain ⟨U, ⟨F, V, h1, h2, h3, h4⟩, h5⟩ := h
  exact ⟨U, ⟨F, V, ⟨a, h1⟩, h2, h3, h4⟩, h5⟩

/-- the first object changes -/
theorem St.step {A' : Ast} (h : St w wr (A :: As)) {wq : World} (k : ∀ F, A.p wr F → ∃ F', A'.p wq F' ∧ Ch (full F) wr wq ∧ ∀ g, F' g → F g ∨ wr.heap.size ≤ g.1) : St w wq (A' :: As) := by
  obtain ⟨U, ⟨F, V, h1, h2, h3, h4⟩, h5, h6⟩ := h
  obtain ⟨F', k1, k2, k3⟩ := k F h1
  have hs := h6.size
  refine ⟨fun g => F' g ∨ V g, ⟨F', V, k1, h2.kept k2 fun g a b => h3 g (b g.2) a, fun g a b => ?_, fun g => Iff.rfl⟩, fun g hg => ?_, h6.trans k2 fun g hg => .inr (h5 (g, []) ((h4 _).2 (.inl (hg []))))⟩
  · rcases k3 g a with c | c
    · exact h3 g c b
    · have := h2.live g b; omega
  · rcases hg with a | a
    · rcases k3 g a with c | c
      · exact h5 g ((h4 g).2 (.inl c))
      · omega
    · exact h5 g ((h4 g).2 (.inr a))
/-- an object more -/
theorem St.push (h : St w wr As) {wq : World} (hc : Ch (fun _ => False) wr wq) {F : Tok → Prop} (hA : A.p wq F) (hF : ∀ g, F g → wr.heap.size ≤ g.1) : St w wq (A :: As) := by
  obtain ⟨U, h1, h2, h3⟩ := h
  have hs := h3.size
  refine ⟨fun g => F g ∨ U g, ⟨F, U, hA, h1.kept hc fun _ _ h => h, fun g a b => ?_, fun g => Iff.rfl⟩, fun g hg => ?_, h3.trans hc fun _ h => h.elim⟩
  · have := h1.live g b; have := hF g a; omega
  · rcases hg with a | a
    · have := hF g a; omega
    · exact h2 g a
/-- seen from a world between: what w's objects are stays as it is, the new ones are the call's own -/
theorem St.frame {wq : World} (h : St w wr As) (k : St wr wq Bs) : St w wq (Bs ++ As) := by
  obtain ⟨U, h1, h2, h3⟩ := h
  obtain ⟨V, k1, k2, k3⟩ := k
  have hs := h3.size
  refine ⟨fun g => V g ∨ U g, Sep.append (h1.kept k3 fun _ _ h => h) k1 fun g a b => ?_, fun g hg => ?_, h3.trans k3 fun _ h => h.elim⟩
  · have := h1.live g b; have := k2 g a; omega
  · rcases hg with a | a
    · have := k2 g a; omega
    · exact h2 g a
end

section
variable {w wr : World} {As : List Ast} {t : TypeId} {size n : Nat} {v : Value} {xs : List Value} {b : Nat} {o : Obj} {cs : List Value}

theorem st_row (h : St w wr (aRow t size v n xs :: As)) : wr.ownsRow 0 t size v n xs := by obtain ⟨F, h, _⟩ := h.get; exact h
theorem st_blk (h : St w wr (aBlk b o :: As)) : wr.heap[b]? = some o := by obtain ⟨F, h, _⟩ := h.get; exact h
theorem st_cell (h : St w wr (aVar b cs t :: As)) (i : Nat) : wr.cell? ⟨b, i, none⟩ = cs[i]? := by
  rw [cell_of_row _ _ _ _ _ _ (st_blk h)]
  simp
theorem st_free (h : St w wr (aVar b cs t :: As)) (i : Nat) : wr.frozen? ⟨b, i, none⟩ = false := by
  have := st_blk h
  unfold World.frozen?
  rw [this]
  simp
theorem st_ge (h : St w wr (aBlk b o :: As)) : w.heap.size ≤ b := by
  obtain ⟨U, ⟨F, V, ⟨_, h1⟩, h2, h3, h4⟩, h5, h6⟩ := h
  exact h5 (b, []) ((h4 _).2 (.inl ((h1 _).2 rfl)))
theorem st_lt (h : St w wr (aBlk b o :: As)) : b < wr.heap.size := lt_of_block (st_blk h)
theorem st_new (h : St w wr As) (cs : List Value) (t : TypeId) : St w (wr.alloc (.cells cs.toArray t)) (aVar wr.heap.size cs t :: As) :=
  h.push ((Ch.refl _ wr).alloc _) (A := aVar wr.heap.size cs t) (F := fun g => g.1 = wr.heap.size) ⟨heap_alloc_new wr _, fun g => Iff.rfl⟩ fun g hg => by omega
theorem st_set (h : St w wr (aVar b cs t :: As)) (i : Nat) (u : Value) : St w (wr.setCell ⟨b, i, none⟩ u) (aVar b (cs.set i u) t :: As) :=
  h.step fun F ⟨hb, hF⟩ => ⟨F, ⟨by
    have := block_set (o := i) (z := u) hb
    rw [this]
    simp, hF⟩, (Ch.refl _ wr).setCell (.inl fun q => (hF _).2 rfl) u, fun g hg => .inl hg⟩
theorem st_pushrow (h : St w wr As) : St w wr (aRow t size (.slice none 0 0) 0 [] :: As) :=
  h.push (Ch.refl _ wr) (A := aRow t size (.slice none 0 0) 0 []) (F := fun _ => False) ⟨World.ownsRow_nil _ _ _ _, fun g => by simp [Value.ownBlock]⟩ fun g h => h.elim
/-- a row is shared from now on -/
theorem st_share (h : St w wr (aRow t size v n xs :: As)) : St w wr (aShare t size v n xs [] :: As) :=
  h.step fun F ⟨hr, hF⟩ => ⟨F, ⟨hr, fun g => by rw [hF]; exact ⟨fun a => ⟨a, List.nil_prefix⟩, fun a => a.1⟩⟩, Ch.refl _ _, fun g hg => .inl hg⟩
theorem st_shared {q : List Bool} (h : St w wr (aShare t size v n xs q :: As)) : wr.ownsRow 0 t size v n xs := by obtain ⟨F, h, _⟩ := h.get; exact h
/-- a share is halved -/
theorem st_halve {q : List Bool} (h : St w wr (aShare t size v n xs q :: As)) : St w wr (aShare t size v n xs (q ++ [false]) :: aShare t size v n xs (q ++ [true]) :: As) := by
  obtain ⟨U, ⟨F, V, ⟨hr, hF⟩, h2, h3, h4⟩, h5, h6⟩ := h
  have hp : ∀ b (l : List Bool), q ++ [b] <+: l → q <+: l := fun b l a => (List.prefix_append q [b]).trans a
  have hd : ∀ l : List Bool, q ++ [false] <+: l → ¬ q ++ [true] <+: l := fun l a b => by
    obtain ⟨x, rfl⟩ := a
    obtain ⟨y, hy⟩ := b
    rw [List.append_assoc, List.append_assoc] at hy
    have := List.append_cancel_left hy
    simp at this
  refine ⟨fun g => (v.ownBlock = some g.1 ∧ q ++ [false] <+: g.2) ∨ ((v.ownBlock = some g.1 ∧ q ++ [true] <+: g.2) ∨ V g), ⟨_, fun g => (v.ownBlock = some g.1 ∧ q ++ [true] <+: g.2) ∨ V g, ⟨hr, fun g => Iff.rfl⟩, ⟨_, V, ⟨hr, fun g => Iff.rfl⟩, h2, fun g a b => h3 g ((hF g).2 ⟨a.1, hp _ _ a.2⟩) b, fun g => Iff.rfl⟩, fun g a b => ?_, fun g => Iff.rfl⟩, fun g hg => ?_, h6⟩
  · rcases b with b | b
    · exact hd _ a.2 b.2
    · exact h3 g ((hF g).2 ⟨a.1, hp _ _ a.2⟩) b
  · rcases hg with a | a | a
    · exact h5 g ((h4 g).2 (.inl ((hF g).2 ⟨a.1, hp _ _ a.2⟩)))
    · exact h5 g ((h4 g).2 (.inl ((hF g).2 ⟨a.1, hp _ _ a.2⟩)))
    · exact h5 g ((h4 g).2 (.inr a))
/-- a cell of a row is stored -/
theorem st_put {g cap i : Nat} {u : Value} (h : St w wr (aRow t size (.slice (some ⟨g, 0, none⟩) n cap) n xs :: As)) (hi : i < n * size) : St w (wr.setCell ⟨g, i, none⟩ u) (aRow t size (.slice (some ⟨g, 0, none⟩) n cap) n (xs.set i u) :: As) :=
  h.step fun F ⟨hr, hF⟩ => ⟨F, ⟨by
    obtain ⟨h1, h2⟩ := hr
    refine ⟨by rw [List.length_set]; exact h1, ?_⟩
    rcases h2 with ⟨h2, _⟩ | ⟨g', cap', cur, hv, hb, hh, c1, c2, c3, c4⟩
    · cases h2
    · simp only [Value.slice.injEq, Option.some.injEq, Addr.mk.injEq] at hv
      obtain ⟨⟨rfl, _, _⟩, _, rfl⟩ := hv
      exact .inr ⟨g, cap, cur.setIfInBounds i u, rfl, hb, block_set hh, c1, c2, by rw [Array.size_setIfInBounds]; exact c3, by rw [Array.toList_setIfInBounds, List.take_set, c4]⟩, hF⟩, (Ch.refl _ wr).setCell (.inl fun q => (hF _).2 rfl) u, fun g hg => .inl hg⟩
/-- a row grows: by what wpList_append_mine tells -/
theorem st_grow {w0 w1 : World} {g cap m : Nat} {news : List Value} (h : St w wr (aRow t size v n xs :: As)) (h0 : Ch (fun _ => False) wr w0) (hown : w1.ownsRow 0 t size (.slice (some ⟨g, 0, none⟩) m cap) m (xs ++ news)) (hgr : w0.grownBy w1 v.ownBlock) (hg : v.ownBlock = some g ∨ w0.heap.size ≤ g) :
    St w w1 (aRow t size (.slice (some ⟨g, 0, none⟩) m cap) m (xs ++ news) :: As) :=
  h.step fun F ⟨_, hF⟩ => ⟨fun k => k.1 = g, ⟨hown, fun k => by simp only [Value.ownBlock, Option.some.injEq]; exact eq_comm⟩, (h0.mono fun _ h => h.elim).grown hgr fun k hk => .inl fun q => (hF _).2 hk, fun k hk => by
    have := h0.size
    rcases hg with hg | hg
    · exact .inl ((hF k).2 (by rw [hk]; exact hg))
    · exact .inr (by omega)⟩
theorem st_rowge {g cap : Nat} (h : St w wr (aRow t size (.slice (some ⟨g, 0, none⟩) n cap) n xs :: As)) : w.heap.size ≤ g := by
  obtain ⟨U, ⟨F, V, ⟨_, h1⟩, h2, h3, h4⟩, h5, h6⟩ := h
  exact h5 (g, []) ((h4 _).2 (.inl ((h1 _).2 rfl)))
/-- a row's cells -/
theorem st_at (h : St w wr (aRow t size v n xs :: As)) {g cap : Nat} (hv : v = .slice (some ⟨g, 0, none⟩) n cap) (i : Nat) (hi : i < n * size) : wr.cell? ⟨g, i, none⟩ = xs[i]? := by
  subst hv
  rw [(st_row h).cellAt i hi]
theorem st_unfrozen {g cap : Nat} (h : St w wr (aRow t size (.slice (some ⟨g, 0, none⟩) n cap) n xs :: As)) (i : Nat) : wr.frozen? ⟨g, i, none⟩ = false := by
  rcases (st_row h).2 with ⟨h2, _⟩ | ⟨g', cap', cur, hv, hb, hh, r⟩
  · cases h2
  · simp only [Value.slice.injEq, Option.some.injEq, Addr.mk.injEq] at hv
    obtain ⟨⟨rfl, _, _⟩, _, rfl⟩ := hv
    unfold World.frozen?
    rw [hh]
    simp
/-- a row that is not empty has a block -/
theorem st_form (h : St w wr (aRow t size v n xs :: As)) (hn : 0 < n) : ∃ g cap, v = .slice (some ⟨g, 0, none⟩) n cap ∧ n ≤ cap := by
  rcases (st_row h).2 with ⟨_, h2⟩ | ⟨g, cap, cur, hv, hb, hh, c1, r⟩
  · omega
  · exact ⟨g, cap, hv, c1⟩
theorem st_len (h : St w wr (aRow t size v n xs :: As)) : xs.length = n * size := (st_row h).1
theorem st_shape (h : St w wr (aRow t size v n xs :: As)) : ∃ ao cap, v = .slice ao n cap := by
  rcases (st_row h).2 with ⟨h2, rfl⟩ | ⟨g, cap, cur, hv, r⟩
  · exact ⟨none, 0, h2⟩
  · exact ⟨_, _, hv⟩
end
end Go.Proofs.YtjmjmekmaamclaaDoor.mem
/-
  A kit of a heap's objects: a row is appended to, at a list of operations and in a region that draws.
-/
namespace Go.Proofs.YtjmjmekmaamclaaDoor.mem
open Go.ChangeShapes Go.WideShapes Go.ChangeAt Go.RowKit
set_option linter.unusedVariables false

/-- a slice's type and its element's -/
structure RowOf (T E : TypeId) (z : Value) (size bytes : Nat) : Prop where
  ht : Tryd.prog.underlying T = some (.slice E)
  inf : (Tryd.prog.info? E).map (fun i => (i.zero, i.size, i.bytes)) = some (some z, size, bytes)
  zs : z.cells.size = size
  pos : 0 < size

theorem row_cap {w : World} {b e size n cap : Nat} {ao : Option Addr} {xs : List Value} (h : w.ownsRow b e size (.slice ao n cap) n xs) : n ≤ cap := by
  rcases h.2 with ⟨h1, rfl⟩ | ⟨g, c, cur, hv, _, _, h2, _⟩
  · omega
  · cases hv; exact h2

section
variable {w wr : World} {As : List Ast} {T E : TypeId} {z : Value} {size bytes n : Nat} {v : Value} {xs : List Value}

/-- m elements more -/
theorem lst_append (R : RowOf T E z size bytes) (h : St w wr (aRow E size v n xs :: As)) {ops : Array Oper} {rest : List Oper} {o : Oper} {a : Act} {Q : Exit → Act → World → Prop} (hgd : o.guard = none) (s x : Operand)
    (ho : o.op = .call { callee := .builtin .append, args := #[s, x], argTypes := #[T, T] }) (hs : a.eval s = v)
    (ad : Addr) (m c : Nat) (news : List Value) (hx : a.eval x = .slice (some ad) m c) (hl : news.length = m * size) (hnews : ∀ j u, news[j]? = some u → wr.cell? (ad.add j) = some u) (h1 : ∀ u ∈ news, u.oneCell' = true)
    (hm : 0 < m) (h63 : n + m ≤ maxLen) (hbytes : (n + m) * bytes ≤ 140737488355328)
    (k : ∀ g cap w', St w w' (aRow E size (.slice (some ⟨g, 0, none⟩) (n + m) cap) (n + m) (xs ++ news) :: As) → Ch (fun g => v.ownBlock = some g) wr w' → wpList Tryd.prog ops Q rest (a.put o.dst (.slice (some ⟨g, 0, none⟩) (n + m) cap)) w') : wpList Tryd.prog ops Q (o :: rest) a wr := by
  obtain ⟨i, hi, hz, hsize, hby⟩ := info_parts R.inf
  exact wpList_append_lies wr hgd s x T ho 0 E i z size bytes R.ht hi hz hsize hby R.zs R.pos v n xs hs (st_row h) ad m c news hx hl hnews h1 hm h63 hbytes (Nat.zero_le _) _ rfl fun g cap w' hown hgr hg _ =>
    k g cap w' (st_grow h (Ch.refl _ _) hown hgr (hg.imp id fun e => by omega)) ((Ch.refl _ _).grown hgr fun k hk => .inl hk)
theorem stp_append (R : RowOf T E z size bytes) (h : St w wr (aRow E size v n xs :: As)) {ops : Array Oper} {o : Oper} {a : Act} {K : Act → World → Prop} {Q : Exit → Act → World → Prop} {EE : Prop} (hgd : o.guard = none) (s x : Operand)
    (ho : o.op = .call { callee := .builtin .append, args := #[s, x], argTypes := #[T, T] }) (hs : a.eval s = v)
    (ad : Addr) (m c : Nat) (news : List Value) (hx : a.eval x = .slice (some ad) m c) (hl : news.length = m * size) (hnews : ∀ j u, news[j]? = some u → wr.cell? (ad.add j) = some u) (h1 : ∀ u ∈ news, u.oneCell' = true)
    (hm : 0 < m) (h63 : n + m ≤ maxLen) (hbytes : (n + m) * bytes ≤ 140737488355328)
    (k : ∀ g cap w', St w w' (aRow E size (.slice (some ⟨g, 0, none⟩) (n + m) cap) (n + m) (xs ++ news) :: As) → Ch (fun g => v.ownBlock = some g) wr w' → K (a.put o.dst (.slice (some ⟨g, 0, none⟩) (n + m) cap)) w') : if Region.wanted o (yielded ops a.tmps) = true then Oper.wp Tryd.prog o a wr K Q else EE := by
  obtain ⟨i, hi, hz, hsize, hby⟩ := info_parts R.inf
  exact step_append_lies wr hgd s x T ho 0 E i z size bytes R.ht hi hz hsize hby R.zs R.pos v n xs hs (st_row h) ad m c news hx hl hnews h1 hm h63 hbytes (Nat.zero_le _) _ rfl fun g cap w' hown hgr hg _ =>
    k g cap w' (st_grow h (Ch.refl _ _) hown hgr (hg.imp id fun e => by omega)) ((Ch.refl _ _).grown hgr fun k hk => .inl hk)

/-- none more -/
theorem wp_append0 (R : RowOf T E z size bytes) (h : St w wr (aRow E size v n xs :: As)) {o : Oper} {a : Act} {K : Act → World → Prop} {Q : Exit → Act → World → Prop} (s x : Operand)
    (ho : o.op = .call { callee := .builtin .append, args := #[s, x], argTypes := #[T, T] }) (hs : a.eval s = v) (xo : Option Addr) (xc : Nat) (hx : a.eval x = .slice xo 0 xc) (k : K (a.put o.dst v) wr) : Oper.wp Tryd.prog o a wr K Q := by
  obtain ⟨i, hi, hz, hsize, hby⟩ := info_parts R.inf
  obtain ⟨so, cap, rfl⟩ := st_shape h
  have hr := run_append_nothing (P := Tryd.prog) wr T T o.type E i R.ht hi so n cap (row_cap (st_row h)) (.slice xo 0 xc) ⟨.inl ⟨E, R.ht⟩, fun w' => by simp [Builtin.lenOf], by cases xo <;> simp [Builtin.firstCells, loadCells, loadCellsFrom], by cases xo <;> simp [Builtin.firstCells, loadCells, loadCellsFrom], by simp, by simp⟩
  unfold Oper.wp execOp
  simp only [ho, resolve, invoke, builtin, Sem.run_bind, Sem.run_pure, Result.andThen_ok, List.map_toArray, List.map_cons, List.map_nil, hs, hx, hr]
  exact k
theorem lst_append0 (R : RowOf T E z size bytes) (h : St w wr (aRow E size v n xs :: As)) {ops : Array Oper} {rest : List Oper} {o : Oper} {a : Act} {Q : Exit → Act → World → Prop} (hgd : o.guard = none) (s x : Operand)
    (ho : o.op = .call { callee := .builtin .append, args := #[s, x], argTypes := #[T, T] }) (hs : a.eval s = v) (xo : Option Addr) (xc : Nat) (hx : a.eval x = .slice xo 0 xc) (k : wpList Tryd.prog ops Q rest (a.put o.dst v) wr) : wpList Tryd.prog ops Q (o :: rest) a wr :=
  wpList_plain hgd fun _ hK => wp_append0 R h s x ho hs xo xc hx (hK _ _ k)
theorem stp_append0 (R : RowOf T E z size bytes) (h : St w wr (aRow E size v n xs :: As)) {ops : Array Oper} {o : Oper} {a : Act} {K : Act → World → Prop} {Q : Exit → Act → World → Prop} {EE : Prop} (hgd : o.guard = none) (s x : Operand)
    (ho : o.op = .call { callee := .builtin .append, args := #[s, x], argTypes := #[T, T] }) (hs : a.eval s = v) (xo : Option Addr) (xc : Nat) (hx : a.eval x = .slice xo 0 xc) (k : K (a.put o.dst v) wr) : if Region.wanted o (yielded ops a.tmps) = true then Oper.wp Tryd.prog o a wr K Q else EE := by
  have hw : Region.wanted o (yielded ops a.tmps) = true := by simp [Region.wanted, hgd]
  rw [if_pos hw]
  exact wp_append0 R h s x ho hs xo xc hx k
/-- so many more, or none -/
theorem stp_appendN (R : RowOf T E z size bytes) (h : St w wr (aRow E size v n xs :: As)) {ops : Array Oper} {o : Oper} {a : Act} {K : Act → World → Prop} {Q : Exit → Act → World → Prop} {EE : Prop} (hgd : o.guard = none) (s x : Operand)
    (ho : o.op = .call { callee := .builtin .append, args := #[s, x], argTypes := #[T, T] }) (hs : a.eval s = v)
    (ao : Option Addr) (m c : Nat) (news : List Value) (hx : a.eval x = .slice ao m c) (hl : news.length = m * size) (hnews : 0 < m → ∃ ad, ao = some ad ∧ ∀ j u, news[j]? = some u → wr.cell? (ad.add j) = some u) (h1 : ∀ u ∈ news, u.oneCell' = true)
    (h63 : n + m ≤ maxLen) (hbytes : (n + m) * bytes ≤ 140737488355328)
    (k : ∀ v' w', St w w' (aRow E size v' (n + m) (xs ++ news) :: As) → Ch (fun g => v.ownBlock = some g) wr w' → K (a.put o.dst v') w') : if Region.wanted o (yielded ops a.tmps) = true then Oper.wp Tryd.prog o a wr K Q else EE := by
  by_cases hm : 0 < m
  · obtain ⟨ad, rfl, hc⟩ := hnews hm
    exact stp_append R h hgd s x ho hs ad m c news hx hl hc h1 hm h63 hbytes fun g cap w' h2 h3 => k _ w' h2 h3
  · obtain rfl : m = 0 := by omega
    have : news = [] := List.length_eq_zero_iff.1 (by rw [hl, Nat.zero_mul])
    subst this
    exact stp_append0 R h hgd s x ho hs ao c hx (k v wr (by rw [List.append_nil]; exact h) (Ch.refl _ _))
theorem lst_appendN (R : RowOf T E z size bytes) (h : St w wr (aRow E size v n xs :: As)) {ops : Array Oper} {rest : List Oper} {o : Oper} {a : Act} {Q : Exit → Act → World → Prop} (hgd : o.guard = none) (s x : Operand)
    (ho : o.op = .call { callee := .builtin .append, args := #[s, x], argTypes := #[T, T] }) (hs : a.eval s = v)
    (ao : Option Addr) (m c : Nat) (news : List Value) (hx : a.eval x = .slice ao m c) (hl : news.length = m * size) (hnews : 0 < m → ∃ ad, ao = some ad ∧ ∀ j u, news[j]? = some u → wr.cell? (ad.add j) = some u) (h1 : ∀ u ∈ news, u.oneCell' = true)
    (h63 : n + m ≤ maxLen) (hbytes : (n + m) * bytes ≤ 140737488355328)
    (k : ∀ v' w', St w w' (aRow E size v' (n + m) (xs ++ news) :: As) → Ch (fun g => v.ownBlock = some g) wr w' → wpList Tryd.prog ops Q rest (a.put o.dst v') w') : wpList Tryd.prog ops Q (o :: rest) a wr := by
  by_cases hm : 0 < m
  · obtain ⟨ad, rfl, hc⟩ := hnews hm
    exact lst_append R h hgd s x ho hs ad m c news hx hl hc h1 hm h63 hbytes fun g cap w' h2 h3 => k _ w' h2 h3
  · obtain rfl : m = 0 := by omega
    have : news = [] := List.length_eq_zero_iff.1 (by rw [hl, Nat.zero_mul])
    subst this
    exact lst_append0 R h hgd s x ho hs ao c hx (k v wr (by rw [List.append_nil]; exact h) (Ch.refl _ _))
/-- the cells of a row in a world's objects, as an append's source -/
theorem st_news (h : St w wr (aRow E size v n xs :: As)) : ∃ ao c, v = .slice ao n c ∧ (0 < n → ∃ ad, ao = some ad ∧ ∀ j u, xs[j]? = some u → wr.cell? (ad.add j) = some u) := by
  rcases (st_row h).2 with ⟨h1, h2⟩ | ⟨g, cap, cur, hv, hr⟩
  · exact ⟨none, 0, by rw [h2]; exact h1, fun h => by omega⟩
  · refine ⟨_, cap, hv, fun _ => ⟨⟨g, 0, none⟩, rfl, fun j u hj => ?_⟩⟩
    have hlt := (List.getElem?_eq_some_iff.1 hj).1
    rw [st_len h] at hlt
    rw [Addr.add_mid, Nat.zero_add, st_at h hv j hlt, hj]
/-- an empty row, newly made -/
theorem st_none (h : St w wr As) (E : TypeId) (size : Nat) : St w (wr.alloc (.cells #[] E)) (aRow E size (.slice (some ⟨wr.heap.size, 0, none⟩) 0 0) 0 [] :: As) :=
  h.push ((Ch.refl _ wr).alloc _) (A := aRow E size (.slice (some ⟨wr.heap.size, 0, none⟩) 0 0) 0 []) (F := fun g => g.1 = wr.heap.size)
    ⟨⟨by simp, .inr ⟨_, 0, #[], rfl, Nat.zero_le _, heap_alloc_new wr _, Nat.le_refl _, Nat.zero_le _, by simp, by simp⟩⟩, fun g => by simp only [Value.ownBlock, Option.some.injEq]; exact eq_comm⟩ fun g hg => by omega
end
end Go.Proofs.YtjmjmekmaamclaaDoor.mem
/-
  A kit of a heap's objects: a map keyed by int, whose elements are values of whatever kind; and a range over it.
-/
namespace Go.Proofs.YtjmjmekmaamclaaDoor.mem
open Go.ChangeShapes Go.WideShapes Go.ChangeAt Go.RowKit
set_option linter.unusedVariables false

theorem keyLaw : Go.Maps.Keyed Tryd.prog 3 := Go.Maps.int_keyed Tryd.underlying3
/-- an element reads as itself -/
def raw (v : Value) : Option (DataW Value × List MemPlace) := some (.held v, [])
abbrev ky (n : Nat) : Lit := .int .i64 (n : Int)
theorem ky_key {n : Nat} (h : n ≤ 9223372036854775807) : keyOf Tryd.prog 3 (.int .i64 (n : Int)) = some (ky n) :=
  Go.Maps.keyOf_int_mk Tryd.underlying3 (Go.WalkArith.wf_i64 (by omega))
theorem ky_lit {n : Nat} (h : n ≤ 9223372036854775807) : WideAt.IsKeyLit (ky n) := keyLaw.key (ky_key h)
theorem ky_inj {n m : Nat} (h : ky n = ky m) : n = m := by
  simp only [ky, Lit.int.injEq] at h
  omega

/-- D holds at each number what V says -/
structure MapIs (D : DataW Value) (V : Nat → Option Value) : Prop where
  has : ∀ n, n ≤ 9223372036854775807 → Maps.has D (ky n) = (V n).isSome
  at' : ∀ n x, n ≤ 9223372036854775807 → V n = some x → ∀ z, D.atKey (ky n) z = .held x
  only : ∀ kl, Maps.has D kl = true → ∃ n : Nat, n ≤ 9223372036854775807 ∧ kl = ky n

theorem map_blk {w w' : World} {b c : Nat} {D : DataW Value} (h : w.ownsMap Tryd.prog 3 raw b c D) (e : w'.heap[b]? = w.heap[b]?) : w'.ownsMap Tryd.prog 3 raw b c D := by
  obtain ⟨es, clock, hb, r⟩ := h
  exact ⟨es, clock, e.trans hb, r⟩
/-- block b of the world is such a map -/
def MapAt (w : World) (b c : Nat) (V : Nat → Option Value) : Prop := ∃ D, w.ownsMap Tryd.prog 3 raw b c D ∧ MapIs D V
theorem MapAt.lt {w : World} {b c : Nat} {V : Nat → Option Value} (h : MapAt w b c V) : b < w.heap.size := by obtain ⟨D, h, _⟩ := h; exact h.lt
theorem MapAt.blk {w w' : World} {b c : Nat} {V : Nat → Option Value} (h : MapAt w b c V) (e : w'.heap[b]? = w.heap[b]?) : MapAt w' b c V := by
  obtain ⟨D, h, k⟩ := h
  exact ⟨D, map_blk h e, k⟩
theorem MapAt.ch {w w' : World} {b c : Nat} {V : Nat → Option Value} {G : Nat → Prop} (h : MapAt w b c V) (k : Ch G w w') (hb : ¬ G b) : MapAt w' b c V := h.blk (k.block b h.lt hb)
/-- a map as an object -/
def aMap (b c : Nat) (V : Nat → Option Value) : Ast :=
  ⟨fun w F => MapAt w b c V ∧ ∀ g, F g ↔ g.1 = b, fun ⟨h, hF⟩ hc hd => ⟨h.ch hc (hd (b, []) ((hF _).2 rfl)), hF⟩, fun h g hg => by rw [(h.2 g).1 hg]; exact h.1.lt⟩
def upd (V : Nat → Option Value) (n : Nat) (x : Value) : Nat → Option Value := fun m => if m = n then some x else V m

section
variable {w wr : World} {As : List Ast} {b c : Nat} {V : Nat → Option Value} {T E : TypeId}

theorem st_map (h : St w wr (aMap b c V :: As)) : MapAt wr b c V := by obtain ⟨F, h, _⟩ := h.get; exact h
theorem st_mapnew (h : St w wr As) : St w (wr.alloc (.map #[] 0)) (aMap wr.heap.size 0 (fun _ => none) :: As) :=
  h.push ((Ch.refl _ wr).alloc _) (A := aMap wr.heap.size 0 fun _ => none) (F := fun g => g.1 = wr.heap.size)
    ⟨⟨.map [], World.ownsMap_made wr Tryd.prog 3 raw, ⟨fun n _ => rfl, fun n x _ h => (by cases h), fun kl h => (by cases h)⟩⟩, fun g => Iff.rfl⟩ fun g hg => by omega
theorem MapIs.get {D : DataW Value} (k : MapIs D V) (n : Nat) (hn : n ≤ 9223372036854775807) (z : Value) : D.atKey (ky n) (.held z) = .held ((V n).getD z) := by
  cases e : V n with
  | none => rw [Maps.atKey_of_not_has (by rw [k.has n hn, e]; rfl)]; rfl
  | some x => rw [k.at' n x hn e]; rfl
/-- a look-up -/
theorem map_look (h : MapAt wr b c V) (ht : Tryd.prog.underlying T = some (.map 3 E)) {z : Value} (hz : (zeroValue E).run Tryd.prog wr = .ok z wr) (n : Nat) (hn : n ≤ 9223372036854775807) :
    (Instr.lookup T (.map (some b)) (.int .i64 (n : Int)) false).run Tryd.prog wr = .ok ((V n).getD z) wr := by
  obtain ⟨D, h, k⟩ := h
  obtain ⟨v, ps, hrun, hv⟩ := h.lookup keyLaw ht hz (zd := .held z) rfl (ky_key hn)
  rw [k.get n hn] at hv
  simp only [raw, Option.some.injEq, Prod.mk.injEq, DataW.held.injEq] at hv
  rw [hrun, hv.1]
/-- a look-up that tells whether the key is there -/
theorem map_look_ok (h : MapAt wr b c V) (ht : Tryd.prog.underlying T = some (.map 3 E)) {z : Value} (hz : (zeroValue E).run Tryd.prog wr = .ok z wr) (n : Nat) (hn : n ≤ 9223372036854775807) :
    (Instr.lookup T (.map (some b)) (.int .i64 (n : Int)) true).run Tryd.prog wr = .ok (.tuple #[(V n).getD z, .bool (V n).isSome]) wr := by
  obtain ⟨D, h, k⟩ := h
  obtain ⟨v, ps, hrun, hv⟩ := h.look_ok keyLaw ht hz (zd := .held z) rfl (ky_key hn)
  rw [k.get n hn] at hv
  simp only [raw, Option.some.injEq, Prod.mk.injEq, DataW.held.injEq] at hv
  rw [hrun, hv.1, k.has n hn]
theorem MapIs.put {D : DataW Value} (k : MapIs D V) (hD : Go.Maps.IsMap D) (n : Nat) (hn : n ≤ 9223372036854775807) (x : Value) : MapIs (D.put (ky n) (.held x)) (upd V n x) where
  has := fun m hm => by
    unfold upd
    by_cases e : m = n
    · rw [if_pos e, e, Go.Maps.has_put_same hD (ky_lit hn)]; rfl
    · rw [if_neg e, Go.Maps.has_put_other (fun h => e (ky_inj h)), k.has m hm]
  at' := fun m y hm h z => by
    unfold upd at h
    by_cases e : m = n
    · rw [if_pos e] at h
      cases h
      rw [e, Go.Maps.atKey_put_same hD (ky_lit hn)]
    · rw [if_neg e] at h
      rw [Go.Maps.atKey_put_other (fun h => e (ky_inj h)), k.at' m y hm h]
  only := fun kl h => by
    by_cases e : kl = ky n
    · exact ⟨n, hn, e⟩
    · rw [Go.Maps.has_put_other e] at h
      exact k.only kl h
/-- a store -/
theorem map_put (h : St w wr (aMap b c V :: As)) (ht : Tryd.prog.underlying T = some (.map 3 E)) (n : Nat) (hn : n ≤ 9223372036854775807) (hc : c < maxLen) (x : Value) :
    ∃ w', (Instr.mapUpdate T (.map (some b)) (.int .i64 (n : Int)) x).run Tryd.prog wr = .ok () w' ∧ St w w' (aMap b (c + 1) (upd V n x) :: As) ∧ Ch (fun g => g = b) wr w' := by
  obtain ⟨D, h1, k⟩ := st_map h
  obtain ⟨w', hrun, h2, hg⟩ := h1.update (R := raw) keyLaw ht hc (ky_key hn) (val := x) rfl
  have hch : Ch (fun g => g = b) wr w' := (Ch.refl _ _).grown hg fun k hk => by cases hk; exact .inl rfl
  refine ⟨w', hrun, h.step fun F ⟨_, hF⟩ => ⟨F, ⟨⟨_, h2, k.put h1.isMap n hn x⟩, hF⟩, (Ch.refl _ _).grown hg fun k hk => ?_, fun g hg => .inl hg⟩, hch⟩
  cases hk
  exact .inl fun q => (hF _).2 rfl

theorem wp_mapput (h : St w wr (aMap b c V :: As)) (ht : Tryd.prog.underlying T = some (.map 3 E)) (n : Nat) (hn : n ≤ 9223372036854775807) (hc : c < maxLen) (x : Value)
    {o : Oper} {a : Act} {K : Act → World → Prop} {Q : Exit → Act → World → Prop} (m i v : Operand) (ho : o.op = .mapUpdate T m i v) (hm : a.eval m = .map (some b)) (hi : a.eval i = .int .i64 (n : Int)) (hv : a.eval v = x)
    (k : ∀ w', St w w' (aMap b (c + 1) (upd V n x) :: As) → Ch (fun g => g = b) wr w' → K (a.put o.dst undef) w') : Oper.wp Tryd.prog o a wr K Q := by
  obtain ⟨w', hrun, h1, h2⟩ := map_put h ht n hn hc x
  unfold Oper.wp
  simp [execOp, ho, hm, hi, hv, hrun, Result.andThen]
  exact k w' h1 h2
theorem lst_mapput (h : St w wr (aMap b c V :: As)) (ht : Tryd.prog.underlying T = some (.map 3 E)) (n : Nat) (hn : n ≤ 9223372036854775807) (hc : c < maxLen) (x : Value)
    {ops : Array Oper} {rest : List Oper} {o : Oper} {a : Act} {Q : Exit → Act → World → Prop} (hgd : o.guard = none) (m i v : Operand) (ho : o.op = .mapUpdate T m i v) (hm : a.eval m = .map (some b)) (hi : a.eval i = .int .i64 (n : Int)) (hv : a.eval v = x)
    (k : ∀ w', St w w' (aMap b (c + 1) (upd V n x) :: As) → Ch (fun g => g = b) wr w' → wpList Tryd.prog ops Q rest (a.put o.dst undef) w') : wpList Tryd.prog ops Q (o :: rest) a wr :=
  wpList_plain hgd fun _ hK => wp_mapput h ht n hn hc x m i v ho hm hi hv fun w' h1 h2 => hK _ _ (k w' h1 h2)
theorem stp_mapput (h : St w wr (aMap b c V :: As)) (ht : Tryd.prog.underlying T = some (.map 3 E)) (n : Nat) (hn : n ≤ 9223372036854775807) (hc : c < maxLen) (x : Value)
    {ops : Array Oper} {o : Oper} {a : Act} {K : Act → World → Prop} {Q : Exit → Act → World → Prop} {EE : Prop} (hgd : o.guard = none) (m i v : Operand) (ho : o.op = .mapUpdate T m i v) (hm : a.eval m = .map (some b)) (hi : a.eval i = .int .i64 (n : Int)) (hv : a.eval v = x)
    (k : ∀ w', St w w' (aMap b (c + 1) (upd V n x) :: As) → Ch (fun g => g = b) wr w' → K (a.put o.dst undef) w') : if Region.wanted o (yielded ops a.tmps) = true then Oper.wp Tryd.prog o a wr K Q else EE := by
  have hw : Region.wanted o (yielded ops a.tmps) = true := by simp [Region.wanted, hgd]
  rw [if_pos hw]
  exact wp_mapput h ht n hn hc x m i v ho hm hi hv k

theorem wp_look (h : MapAt wr b c V) (ht : Tryd.prog.underlying T = some (.map 3 E)) {z : Value} (hz : (zeroValue E).run Tryd.prog wr = .ok z wr) (n : Nat) (hn : n ≤ 9223372036854775807)
    {o : Oper} {a : Act} {K : Act → World → Prop} {Q : Exit → Act → World → Prop} (m i : Operand) (ho : o.op = .lookup T m i false) (hm : a.eval m = .map (some b)) (hi : a.eval i = .int .i64 (n : Int)) (x : Value) (hx : (V n).getD z = x)
    (k : K (a.put o.dst x) wr) : Oper.wp Tryd.prog o a wr K Q := by
  have hrun := map_look h ht hz n hn
  rw [hx] at hrun
  unfold Oper.wp
  simp [execOp, ho, hm, hi, hrun, Result.andThen]
  exact k
theorem lst_look (h : MapAt wr b c V) (ht : Tryd.prog.underlying T = some (.map 3 E)) {z : Value} (hz : (zeroValue E).run Tryd.prog wr = .ok z wr) (n : Nat) (hn : n ≤ 9223372036854775807)
    {ops : Array Oper} {rest : List Oper} {o : Oper} {a : Act} {Q : Exit → Act → World → Prop} (hgd : o.guard = none) (m i : Operand) (ho : o.op = .lookup T m i false) (hm : a.eval m = .map (some b)) (hi : a.eval i = .int .i64 (n : Int)) (x : Value) (hx : (V n).getD z = x)
    (k : wpList Tryd.prog ops Q rest (a.put o.dst x) wr) : wpList Tryd.prog ops Q (o :: rest) a wr :=
  wpList_plain hgd fun _ hK => wp_look h ht hz n hn m i ho hm hi x hx (hK _ _ k)
theorem stp_look (h : MapAt wr b c V) (ht : Tryd.prog.underlying T = some (.map 3 E)) {z : Value} (hz : (zeroValue E).run Tryd.prog wr = .ok z wr) (n : Nat) (hn : n ≤ 9223372036854775807)
    {ops : Array Oper} {o : Oper} {a : Act} {K : Act → World → Prop} {Q : Exit → Act → World → Prop} {EE : Prop} (hgd : o.guard = none) (m i : Operand) (ho : o.op = .lookup T m i false) (hm : a.eval m = .map (some b)) (hi : a.eval i = .int .i64 (n : Int)) (x : Value) (hx : (V n).getD z = x)
    (k : K (a.put o.dst x) wr) : if Region.wanted o (yielded ops a.tmps) = true then Oper.wp Tryd.prog o a wr K Q else EE := by
  have hw : Region.wanted o (yielded ops a.tmps) = true := by simp [Region.wanted, hgd]
  rw [if_pos hw]
  exact wp_look h ht hz n hn m i ho hm hi x hx k
theorem lst_look_ok (h : MapAt wr b c V) (ht : Tryd.prog.underlying T = some (.map 3 E)) {z : Value} (hz : (zeroValue E).run Tryd.prog wr = .ok z wr) (n : Nat) (hn : n ≤ 9223372036854775807)
    {ops : Array Oper} {rest : List Oper} {o : Oper} {a : Act} {Q : Exit → Act → World → Prop} (hgd : o.guard = none) (m i : Operand) (ho : o.op = .lookup T m i true) (hm : a.eval m = .map (some b)) (hi : a.eval i = .int .i64 (n : Int)) (x : Value) (hx : (V n).getD z = x) (t : Bool) (ht' : (V n).isSome = t)
    (k : wpList Tryd.prog ops Q rest (a.put o.dst (.tuple #[x, .bool t])) wr) : wpList Tryd.prog ops Q (o :: rest) a wr :=
  wpList_plain hgd fun _ hK => by
    have hrun := map_look_ok h ht hz n hn
    rw [hx, ht'] at hrun
    unfold Oper.wp
    simp [execOp, ho, hm, hi, hrun, Result.andThen]
    exact hK _ _ k
end

/-- a range over a map, under way: L says which keys are still to come -/
def RangeAt (w : World) (b r c : Nat) (V : Nat → Option Value) (L : Nat → Bool) (cnt : Nat) : Prop :=
  ∃ D left, w.ranges Tryd.prog 3 raw b r c D left cnt ∧ MapIs D V ∧ (∀ n, n ≤ 9223372036854775807 → left (ky n) = L n) ∧ (∀ kl, left kl = true → ∃ n : Nat, n ≤ 9223372036854775807 ∧ kl = ky n)
theorem RangeAt.map {w : World} {b r c : Nat} {V : Nat → Option Value} {L : Nat → Bool} {cnt : Nat} (h : RangeAt w b r c V L cnt) : MapAt w b c V := by
  obtain ⟨D, left, h, k, _⟩ := h
  exact ⟨D, h.owns, k⟩
theorem RangeAt.blk {w w' : World} {b r c : Nat} {V : Nat → Option Value} {L : Nat → Bool} {cnt : Nat} (h : RangeAt w b r c V L cnt) (e : w'.heap[b]? = w.heap[b]?) (e' : w'.heap[r]? = w.heap[r]?) : RangeAt w' b r c V L cnt := by
  obtain ⟨D, left, ⟨es, clock, since, seen, c0, hb, F, hs, hD, hr, rest⟩, k⟩ := h
  exact ⟨D, left, ⟨es, clock, since, seen, c0, e.trans hb, F, hs, hD, e'.trans hr, rest⟩, k⟩
def aRange (b r c : Nat) (V : Nat → Option Value) (L : Nat → Bool) (cnt : Nat) : Ast :=
  ⟨fun w F => RangeAt w b r c V L cnt ∧ ∀ g, F g ↔ g.1 = b ∨ g.1 = r,
   fun ⟨h, hF⟩ hc hd => ⟨by
    have hl := h.map.lt
    obtain ⟨D, left, hr, hx⟩ := h
    have h : RangeAt _ b r c V L cnt := ⟨D, left, hr, hx⟩
    have hr := hr.lt
    exact h.blk (hc.block b hl (hd (b, []) ((hF _).2 (.inl rfl)))) (hc.block r hr (hd (r, []) ((hF _).2 (.inr rfl)))), hF⟩,
   fun ⟨h, hF⟩ g hg => by
    rcases (hF g).1 hg with e | e
    · rw [e]; exact h.map.lt
    · rw [e]; obtain ⟨D, left, h, _⟩ := h; exact h.lt⟩

section
variable {w wr : World} {As : List Ast} {b r c cnt : Nat} {V : Nat → Option Value} {L : Nat → Bool} {T E : TypeId}
theorem st_range (h : St w wr (aRange b r c V L cnt :: As)) : RangeAt wr b r c V L cnt := by obtain ⟨F, h, _⟩ := h.get; exact h
theorem st_left (h : St w wr (aRange b r c V L cnt :: As)) : wr.rangeLeft b r = cnt := by
  obtain ⟨D, left, h, _⟩ := st_range h
  exact h.left_eq
/-- the range begins -/
theorem lst_range (h : St w wr (aMap b c V :: As)) (ht : Tryd.prog.underlying T = some (.map 3 E))
    {ops : Array Oper} {rest : List Oper} {o : Oper} {a : Act} {Q : Exit → Act → World → Prop} (hgd : o.guard = none) (m : Operand) (ho : o.op = .range T m) (hm : a.eval m = .map (some b))
    (k : ∀ w' r cnt, St w w' (aRange b r c V (fun n => (V n).isSome) cnt :: As) → Ch (fun _ => False) wr w' → r = wr.heap.size → wpList Tryd.prog ops Q rest (a.put o.dst (.pointer (some ⟨r, 0, none⟩))) w') : wpList Tryd.prog ops Q (o :: rest) a wr := by
  obtain ⟨D, h1, k1⟩ := st_map h
  refine wpList_range_own wr hgd m T ho 3 E keyLaw ht raw b c D hm h1 fun w' hr hg hs => ?_
  have hch : Ch (fun _ => False) wr w' := (Ch.refl _ _).grown hg fun k hk => by cases hk
  refine k w' wr.heap.size _ (h.step fun F ⟨hm, hF⟩ => ⟨fun g => g.1 = b ∨ g.1 = wr.heap.size, ⟨⟨D, _, hr, k1, k1.has, k1.only⟩, fun g => Iff.rfl⟩, hch.mono fun _ h => h.elim, fun g hg => ?_⟩) hch rfl
  rcases hg with e | e
  · exact .inl ((hF g).2 e)
  · exact .inr (by omega)
/-- a step of the range -/
theorem lst_next (h : St w wr (aRange b r c V L cnt :: As))
    {ops : Array Oper} {rest : List Oper} {o : Oper} {a : Act} {Q : Exit → Act → World → Prop} (hgd : o.guard = none) (it : Operand) (ho : o.op = .next it false) (hit : a.eval it = .pointer (some ⟨r, 0, none⟩))
    (kDone : cnt = 0 → (∀ n, n ≤ 9223372036854775807 → L n = false) → wpList Tryd.prog ops Q rest (a.put o.dst (.tuple #[.bool false])) wr)
    (kMore : ∀ (n : Nat) (x : Value) (w' : World) (cnt' : Nat), n ≤ 9223372036854775807 → L n = true → V n = some x → cnt' < cnt → St w w' (aRange b r c V (fun m => L m && !decide (m = n)) cnt' :: As) → Ch (fun g => g = r) wr w' →
      (Instr.entry (.pointer (some ⟨r, 0, none⟩))).run Tryd.prog w' = .ok (.tuple #[.int .i64 (n : Int), x]) w' → wpList Tryd.prog ops Q rest (a.put o.dst (.tuple #[.bool true, .int .i64 (n : Int), x])) w') : wpList Tryd.prog ops Q (o :: rest) a wr := by
  obtain ⟨D, left, hr, k1, k2, k3⟩ := st_range h
  refine wpList_next_ranges (α := Value) (β := Value) wr hgd it ho 3 keyLaw raw id id (fun key kl _ => ⟨key, rfl⟩) (fun v y _ => ⟨v, rfl⟩) b r c D left cnt hit hr (fun h0 hl => kDone h0 fun n hn => by rw [← k2 n hn]; exact hl _) ?_
  intro key v kl y w' cnt' hkey hl hv hat hr' hlt hg hsz hen
  obtain ⟨n, hn, rfl⟩ := k3 kl hl
  obtain ⟨x, ex, ekl, hwf⟩ := Go.Maps.keyOf_int_inv Tryd.underlying3 hkey
  simp only [ky, Lit.int.injEq, true_and] at ekl
  simp only [id_eq] at ex hv hen ⊢
  subst ex
  rw [← ekl] at hen ⊢
  have hhas : Maps.has D (ky n) = true := Go.Maps.has_true_of_atKey hat
  rw [k1.has n hn] at hhas
  obtain ⟨x', hx'⟩ := Option.isSome_iff_exists.1 hhas
  have hy := (k1.at' n x' hn hx' .nil).symm.trans (hat .nil)
  simp only [raw, Option.some.injEq] at hv
  rw [← hv] at hy
  simp only [DataW.held.injEq] at hy
  subst hy
  have hch : Ch (fun g => g = r) wr w' := (Ch.refl _ _).grown hg fun k hk => by cases hk; exact .inl rfl
  refine kMore n x' w' cnt' hn (by rw [← k2 n hn]; exact hl) hx' hlt (h.step fun F ⟨_, hF⟩ => ⟨F, ⟨⟨D, _, hr', k1, fun m hm => ?_, fun kl hkl => ?_⟩, hF⟩, ?_, fun g hg => .inl hg⟩) hch hen
  · show (left (ky m) && !(ky m).sameKey (ky n)) = _
    rw [k2 m hm]
    by_cases e : m = n
    · rw [e, WideAt.sameKey_self (ky_lit hn)]; simp
    · rw [Go.Maps.sameKey_ne (fun h => e (ky_inj h))]; simp [e]
  · simp only [Bool.and_eq_true] at hkl
    exact k3 kl hkl.1
  · exact (Ch.refl _ _).grown hg fun k hk => by cases hk; exact .inl fun q => (hF _).2 (.inr rfl)
/-- the range is over -/
theorem st_ranged (h : St w wr (aRange b r c V L cnt :: As)) : St w wr (aMap b c V :: As) :=
  h.step fun F ⟨hr, hF⟩ => ⟨fun g => g.1 = b, ⟨hr.map, fun g => Iff.rfl⟩, Ch.refl _ _, fun g hg => .inl ((hF g).2 (.inl hg))⟩
end
end Go.Proofs.YtjmjmekmaamclaaDoor.mem
/-
  A kit of a heap's objects: their order, by places.
-/
namespace Go.Proofs.YtjmjmekmaamclaaDoor.mem
open Go.ChangeShapes Go.WideShapes Go.ChangeAt Go.RowKit
set_option linter.unusedVariables false
section
variable {w W : World} {As : List Ast}
theorem Sep.perm {L M : List Ast} (h : L.Perm M) : ∀ {U : Tok → Prop}, Sep W L U → Sep W M U := by
  induction h with
  | nil => intro U h; exact h
  | cons x _ ih => intro U h; exact h.tail fun V k => ih k
  | swap x y l => intro U h; exact h.swap
  | trans _ _ ih1 ih2 => intro U h; exact ih2 (ih1 h)
theorem St.perm {L M : List Ast} (h : L.Perm M) (k : St w W L) : St w W M := by
  obtain ⟨U, h1, h2⟩ := k
  exact ⟨U, h1.perm h, h2⟩
theorem St.dropL : ∀ {L : List Ast}, St w W (L ++ As) → St w W As
  | [], h => h
  | _ :: L, h => St.dropL (L := L) h.drop
def pick (L : List Ast) (is : List Nat) : List Ast := is.map fun i => L.getD i (aMany [])
theorem pick_range (L : List Ast) : pick L (List.range L.length) = L := by
  unfold pick
  apply List.ext_getElem
  · simp
  · intro i h1 h2
    simp [List.getD_eq_getElem?_getD, List.getElem?_eq_getElem h2]
/-- the objects at these places, in this order; the others are let go -/
theorem St.re {L : List Ast} (is js : List Nat) (h : St w W (L ++ As)) (hn : L.length = (js ++ is).length := by rfl) (hp : (js ++ is).isPerm (List.range (js ++ is).length) = true := by decide) : St w W (pick L is ++ As) := by
  rw [← hn] at hp
  have h1 : (pick L (js ++ is)).Perm (pick L (List.range L.length)) := (List.isPerm_iff.1 hp).map _
  rw [pick_range] at h1
  have h2 : St w W (pick L (js ++ is) ++ As) := h.perm (h1.symm.append_right As)
  have e : pick L (js ++ is) = pick L js ++ pick L is := List.map_append
  rw [e, List.append_assoc] at h2
  exact h2.dropL
end
end Go.Proofs.YtjmjmekmaamclaaDoor.mem
