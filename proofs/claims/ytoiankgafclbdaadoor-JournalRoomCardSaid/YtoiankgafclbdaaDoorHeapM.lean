/-
  A kit of a heap's objects: a map keyed by int, whose elements are values of whatever kind; and a range over it.
-/
import Derived.Test.YtoiankgafclbdaaDoorHeapA
import Derived.Maps.RangeWalk
import Derived.Maps.Ext
namespace Go.Proofs.YtoiankgafclbdaaDoor.mem
open Go.ChangeShapes Go.WideShapes Go.ChangeAt Go.RowKit
set_option linter.unusedVariables false

theorem keyLaw : Go.Maps.Keyed Tryd.prog 3 := Go.Maps.int_keyed Tryd.underlying3
/-- an element reads as itself -/
def raw (v : Value) : Option (DataW Value × List MemPlace) := some (.held v, [])
abbrev ky (n : Nat) : Lit := .int .i64 (n : Int)
theorem ky_key {n : Nat} (h : n ≤ 9223372036854775807) : keyOf Tryd.prog 3 (.int .i64 (n : Int)) = some (ky n) :=
  Go.Maps.keyOf_int_mk Tryd.underlying3 (Go.WalkArith.wf_i64 (by omega))
theorem ky_lit {n : Nat} (h : n ≤ 9223372036854775807) : WideAt.IsKeyLit (ky n) := keyLaw.key (ky_key h)
theorem ky_inj {n m : Nat} (h : ky n = ky m) : n = m := by
  simp only [ky, Lit.int.injEq] at h
  omega

/-- D holds at each number what V says -/
structure MapIs (D : DataW Value) (V : Nat → Option Value) : Prop where
  has : ∀ n, n ≤ 9223372036854775807 → Maps.has D (ky n) = (V n).isSome
  at' : ∀ n x, n ≤ 9223372036854775807 → V n = some x → ∀ z, D.atKey (ky n) z = .held x
  only : ∀ kl, Maps.has D kl = true → ∃ n : Nat, n ≤ 9223372036854775807 ∧ kl = ky n

theorem map_blk {w w' : World} {b c : Nat} {D : DataW Value} (h : w.ownsMap Tryd.prog 3 raw b c D) (e : w'.heap[b]? = w.heap[b]?) : w'.ownsMap Tryd.prog 3 raw b c D := by
  obtain ⟨es, clock, hb, r⟩ := h
  exact ⟨es, clock, e.trans hb, r⟩
/-- block b of the world is such a map -/
def MapAt (w : World) (b c : Nat) (V : Nat → Option Value) : Prop := ∃ D, w.ownsMap Tryd.prog 3 raw b c D ∧ MapIs D V
theorem MapAt.lt {w : World} {b c : Nat} {V : Nat → Option Value} (h : MapAt w b c V) : b < w.heap.size := by obtain ⟨D, h, _⟩ := h; exact h.lt
theorem MapAt.blk {w w' : World} {b c : Nat} {V : Nat → Option Value} (h : MapAt w b c V) (e : w'.heap[b]? = w.heap[b]?) : MapAt w' b c V := by
  obtain ⟨D, h, k⟩ := h
  exact ⟨D, map_blk h e, k⟩
theorem MapAt.ch {w w' : World} {b c : Nat} {V : Nat → Option Value} {G : Nat → Prop} (h : MapAt w b c V) (k : Ch G w w') (hb : ¬ G b) : MapAt w' b c V := h.blk (k.block b h.lt hb)
/-- a map as an object -/
def aMap (b c : Nat) (V : Nat → Option Value) : Ast :=
  ⟨fun w F => MapAt w b c V ∧ ∀ g, F g ↔ g.1 = b, fun ⟨h, hF⟩ hc hd => ⟨h.ch hc (hd (b, []) ((hF _).2 rfl)), hF⟩, fun h g hg => by rw [(h.2 g).1 hg]; exact h.1.lt⟩
def upd (V : Nat → Option Value) (n : Nat) (x : Value) : Nat → Option Value := fun m => if m = n then some x else V m

section
variable {w wr : World} {As : List Ast} {b c : Nat} {V : Nat → Option Value} {T E : TypeId}

theorem st_map (h : St w wr (aMap b c V :: As)) : MapAt wr b c V := by obtain ⟨F, h, _⟩ := h.get; exact h
theorem st_mapnew (h : St w wr As) : St w (wr.alloc (.map #[] 0)) (aMap wr.heap.size 0 (fun _ => none) :: As) :=
  h.push ((Ch.refl _ wr).alloc _) (A := aMap wr.heap.size 0 fun _ => none) (F := fun g => g.1 = wr.heap.size)
    ⟨⟨.map [], World.ownsMap_made wr Tryd.prog 3 raw, ⟨fun n _ => rfl, fun n x _ h => (by cases h), fun kl h => (by cases h)⟩⟩, fun g => Iff.rfl⟩ fun g hg => by omega
theorem MapIs.get {D : DataW Value} (k : MapIs D V) (n : Nat) (hn : n ≤ 9223372036854775807) (z : Value) : D.atKey (ky n) (.held z) = .held ((V n).getD z) := by
  cases e : V n with
  | none => rw [Maps.atKey_of_not_has (by rw [k.has n hn, e]; rfl)]; rfl
  | some x => rw [k.at' n x hn e]; rfl
/-- a look-up -/
theorem map_look (h : MapAt wr b c V) (ht : Tryd.prog.underlying T = some (.map 3 E)) {z : Value} (hz : (zeroValue E).run Tryd.prog wr = .ok z wr) (n : Nat) (hn : n ≤ 9223372036854775807) :
    (Instr.lookup T (.map (some b)) (.int .i64 (n : Int)) false).run Tryd.prog wr = .ok ((V n).getD z) wr := by
  obtain ⟨D, h, k⟩ := h
  obtain ⟨v, ps, hrun, hv⟩ := h.lookup keyLaw ht hz (zd := .held z) rfl (ky_key hn)
  rw [k.get n hn] at hv
  simp only [raw, Option.some.injEq, Prod.mk.injEq, DataW.held.injEq] at hv
  rw [hrun, hv.1]
/-- a look-up that tells whether the key is there -/
theorem map_look_ok (h : MapAt wr b c V) (ht : Tryd.prog.underlying T = some (.map 3 E)) {z : Value} (hz : (zeroValue E).run Tryd.prog wr = .ok z wr) (n : Nat) (hn : n ≤ 9223372036854775807) :
    (Instr.lookup T (.map (some b)) (.int .i64 (n : Int)) true).run Tryd.prog wr = .ok (.tuple #[(V n).getD z, .bool (V n).isSome]) wr := by
  obtain ⟨D, h, k⟩ := h
  obtain ⟨v, ps, hrun, hv⟩ := h.look_ok keyLaw ht hz (zd := .held z) rfl (ky_key hn)
  rw [k.get n hn] at hv
  simp only [raw, Option.some.injEq, Prod.mk.injEq, DataW.held.injEq] at hv
  rw [hrun, hv.1, k.has n hn]
theorem MapIs.put {D : DataW Value} (k : MapIs D V) (hD : Go.Maps.IsMap D) (n : Nat) (hn : n ≤ 9223372036854775807) (x : Value) : MapIs (D.put (ky n) (.held x)) (upd V n x) where
  has := fun m hm => by
    unfold upd
    by_cases e : m = n
    · rw [if_pos e, e, Go.Maps.has_put_same hD (ky_lit hn)]; rfl
    · rw [if_neg e, Go.Maps.has_put_other (fun h => e (ky_inj h)), k.has m hm]
  at' := fun m y hm h z => by
    unfold upd at h
    by_cases e : m = n
    · rw [if_pos e] at h
      cases h
      rw [e, Go.Maps.atKey_put_same hD (ky_lit hn)]
    · rw [if_neg e] at h
      rw [Go.Maps.atKey_put_other (fun h => e (ky_inj h)), k.at' m y hm h]
  only := fun kl h => by
    by_cases e : kl = ky n
    · exact ⟨n, hn, e⟩
    · rw [Go.Maps.has_put_other e] at h
      exact k.only kl h
/-- a store -/
theorem map_put (h : St w wr (aMap b c V :: As)) (ht : Tryd.prog.underlying T = some (.map 3 E)) (n : Nat) (hn : n ≤ 9223372036854775807) (hc : c < maxLen) (x : Value) :
    ∃ w', (Instr.mapUpdate T (.map (some b)) (.int .i64 (n : Int)) x).run Tryd.prog wr = .ok () w' ∧ St w w' (aMap b (c + 1) (upd V n x) :: As) ∧ Ch (fun g => g = b) wr w' := by
  obtain ⟨D, h1, k⟩ := st_map h
  obtain ⟨w', hrun, h2, hg⟩ := h1.update (R := raw) keyLaw ht hc (ky_key hn) (val := x) rfl
  have hch : Ch (fun g => g = b) wr w' := (Ch.refl _ _).grown hg fun k hk => by cases hk; exact .inl rfl
  refine ⟨w', hrun, h.step fun F ⟨_, hF⟩ => ⟨F, ⟨⟨_, h2, k.put h1.isMap n hn x⟩, hF⟩, (Ch.refl _ _).grown hg fun k hk => ?_, fun g hg => .inl hg⟩, hch⟩
  cases hk
  exact .inl fun q => (hF _).2 rfl

theorem wp_mapput (h : St w wr (aMap b c V :: As)) (ht : Tryd.prog.underlying T = some (.map 3 E)) (n : Nat) (hn : n ≤ 9223372036854775807) (hc : c < maxLen) (x : Value)
    {o : Oper} {a : Act} {K : Act → World → Prop} {Q : Exit → Act → World → Prop} (m i v : Operand) (ho : o.op = .mapUpdate T m i v) (hm : a.eval m = .map (some b)) (hi : a.eval i = .int .i64 (n : Int)) (hv : a.eval v = x)
    (k : ∀ w', St w w' (aMap b (c + 1) (upd V n x) :: As) → Ch (fun g => g = b) wr w' → K (a.put o.dst undef) w') : Oper.wp Tryd.prog o a wr K Q := by
  obtain ⟨w', hrun, h1, h2⟩ := map_put h ht n hn hc x
  unfold Oper.wp
  simp [execOp, ho, hm, hi, hv, hrun, Result.andThen]
  exact k w' h1 h2
theorem lst_mapput (h : St w wr (aMap b c V :: As)) (ht : Tryd.prog.underlying T = some (.map 3 E)) (n : Nat) (hn : n ≤ 9223372036854775807) (hc : c < maxLen) (x : Value)
    {ops : Array Oper} {rest : List Oper} {o : Oper} {a : Act} {Q : Exit → Act → World → Prop} (hgd : o.guard = none) (m i v : Operand) (ho : o.op = .mapUpdate T m i v) (hm : a.eval m = .map (some b)) (hi : a.eval i = .int .i64 (n : Int)) (hv : a.eval v = x)
    (k : ∀ w', St w w' (aMap b (c + 1) (upd V n x) :: As) → Ch (fun g => g = b) wr w' → wpList Tryd.prog ops Q rest (a.put o.dst undef) w') : wpList Tryd.prog ops Q (o :: rest) a wr :=
  wpList_plain hgd fun _ hK => wp_mapput h ht n hn hc x m i v ho hm hi hv fun w' h1 h2 => hK _ _ (k w' h1 h2)
theorem stp_mapput (h : St w wr (aMap b c V :: As)) (ht : Tryd.prog.underlying T = some (.map 3 E)) (n : Nat) (hn : n ≤ 9223372036854775807) (hc : c < maxLen) (x : Value)
    {ops : Array Oper} {o : Oper} {a : Act} {K : Act → World → Prop} {Q : Exit → Act → World → Prop} {EE : Prop} (hgd : o.guard = none) (m i v : Operand) (ho : o.op = .mapUpdate T m i v) (hm : a.eval m = .map (some b)) (hi : a.eval i = .int .i64 (n : Int)) (hv : a.eval v = x)
    (k : ∀ w', St w w' (aMap b (c + 1) (upd V n x) :: As) → Ch (fun g => g = b) wr w' → K (a.put o.dst undef) w') : if Region.wanted o (yielded ops a.tmps) = true then Oper.wp Tryd.prog o a wr K Q else EE := by
  have hw : Region.wanted o (yielded ops a.tmps) = true := by simp [Region.wanted, hgd]
  rw [if_pos hw]
  exact wp_mapput h ht n hn hc x m i v ho hm hi hv k

theorem wp_look (h : MapAt wr b c V) (ht : Tryd.prog.underlying T = some (.map 3 E)) {z : Value} (hz : (zeroValue E).run Tryd.prog wr = .ok z wr) (n : Nat) (hn : n ≤ 9223372036854775807)
    {o : Oper} {a : Act} {K : Act → World → Prop} {Q : Exit → Act → World → Prop} (m i : Operand) (ho : o.op = .lookup T m i false) (hm : a.eval m = .map (some b)) (hi : a.eval i = .int .i64 (n : Int)) (x : Value) (hx : (V n).getD z = x)
    (k : K (a.put o.dst x) wr) : Oper.wp Tryd.prog o a wr K Q := by
  have hrun := map_look h ht hz n hn
  rw [hx] at hrun
  unfold Oper.wp
  simp [execOp, ho, hm, hi, hrun, Result.andThen]
  exact k
theorem lst_look (h : MapAt wr b c V) (ht : Tryd.prog.underlying T = some (.map 3 E)) {z : Value} (hz : (zeroValue E).run Tryd.prog wr = .ok z wr) (n : Nat) (hn : n ≤ 9223372036854775807)
    {ops : Array Oper} {rest : List Oper} {o : Oper} {a : Act} {Q : Exit → Act → World → Prop} (hgd : o.guard = none) (m i : Operand) (ho : o.op = .lookup T m i false) (hm : a.eval m = .map (some b)) (hi : a.eval i = .int .i64 (n : Int)) (x : Value) (hx : (V n).getD z = x)
    (k : wpList Tryd.prog ops Q rest (a.put o.dst x) wr) : wpList Tryd.prog ops Q (o :: rest) a wr :=
  wpList_plain hgd fun _ hK => wp_look h ht hz n hn m i ho hm hi x hx (hK _ _ k)
theorem stp_look (h : MapAt wr b c V) (ht : Tryd.prog.underlying T = some (.map 3 E)) {z : Value} (hz : (zeroValue E).run Tryd.prog wr = .ok z wr) (n : Nat) (hn : n ≤ 9223372036854775807)
    {ops : Array Oper} {o : Oper} {a : Act} {K : Act → World → Prop} {Q : Exit → Act → World → Prop} {EE : Prop} (hgd : o.guard = none) (m i : Operand) (ho : o.op = .lookup T m i false) (hm : a.eval m = .map (some b)) (hi : a.eval i = .int .i64 (n : Int)) (x : Value) (hx : (V n).getD z = x)
    (k : K (a.put o.dst x) wr) : if Region.wanted o (yielded ops a.tmps) = true then Oper.wp Tryd.prog o a wr K Q else EE := by
  have hw : Region.wanted o (yielded ops a.tmps) = true := by simp [Region.wanted, hgd]
  rw [if_pos hw]
  exact wp_look h ht hz n hn m i ho hm hi x hx k
theorem lst_look_ok (h : MapAt wr b c V) (ht : Tryd.prog.underlying T = some (.map 3 E)) {z : Value} (hz : (zeroValue E).run Tryd.prog wr = .ok z wr) (n : Nat) (hn : n ≤ 9223372036854775807)
    {ops : Array Oper} {rest : List Oper} {o : Oper} {a : Act} {Q : Exit → Act → World → Prop} (hgd : o.guard = none) (m i : Operand) (ho : o.op = .lookup T m i true) (hm : a.eval m = .map (some b)) (hi : a.eval i = .int .i64 (n : Int)) (x : Value) (hx : (V n).getD z = x) (t : Bool) (ht' : (V n).isSome = t)
    (k : wpList Tryd.prog ops Q rest (a.put o.dst (.tuple #[x, .bool t])) wr) : wpList Tryd.prog ops Q (o :: rest) a wr :=
  wpList_plain hgd fun _ hK => by
    have hrun := map_look_ok h ht hz n hn
    rw [hx, ht'] at hrun
    unfold Oper.wp
    simp [execOp, ho, hm, hi, hrun, Result.andThen]
    exact hK _ _ k
end

/-- a range over a map, under way: L says which keys are still to come -/
def RangeAt (w : World) (b r c : Nat) (V : Nat → Option Value) (L : Nat → Bool) (cnt : Nat) : Prop :=
  ∃ D left, w.ranges Tryd.prog 3 raw b r c D left cnt ∧ MapIs D V ∧ (∀ n, n ≤ 9223372036854775807 → left (ky n) = L n) ∧ (∀ kl, left kl = true → ∃ n : Nat, n ≤ 9223372036854775807 ∧ kl = ky n)
theorem RangeAt.map {w : World} {b r c : Nat} {V : Nat → Option Value} {L : Nat → Bool} {cnt : Nat} (h : RangeAt w b r c V L cnt) : MapAt w b c V := by
  obtain ⟨D, left, h, k, _⟩ := h
  exact ⟨D, h.owns, k⟩
theorem RangeAt.blk {w w' : World} {b r c : Nat} {V : Nat → Option Value} {L : Nat → Bool} {cnt : Nat} (h : RangeAt w b r c V L cnt) (e : w'.heap[b]? = w.heap[b]?) (e' : w'.heap[r]? = w.heap[r]?) : RangeAt w' b r c V L cnt := by
  obtain ⟨D, left, ⟨es, clock, since, seen, c0, hb, F, hs, hD, hr, rest⟩, k⟩ := h
  exact ⟨D, left, ⟨es, clock, since, seen, c0, e.trans hb, F, hs, hD, e'.trans hr, rest⟩, k⟩
def aRange (b r c : Nat) (V : Nat → Option Value) (L : Nat → Bool) (cnt : Nat) : Ast :=
  ⟨fun w F => RangeAt w b r c V L cnt ∧ ∀ g, F g ↔ g.1 = b ∨ g.1 = r,
   fun ⟨h, hF⟩ hc hd => ⟨by
    have hl := h.map.lt
    obtain ⟨D, left, hr, hx⟩ := h
    have h : RangeAt _ b r c V L cnt := ⟨D, left, hr, hx⟩
    have hr := hr.lt
    exact h.blk (hc.block b hl (hd (b, []) ((hF _).2 (.inl rfl)))) (hc.block r hr (hd (r, []) ((hF _).2 (.inr rfl)))), hF⟩,
   fun ⟨h, hF⟩ g hg => by
    rcases (hF g).1 hg with e | e
    · rw [e]; exact h.map.lt
    · rw [e]; obtain ⟨D, left, h, _⟩ := h; exact h.lt⟩

section
variable {w wr : World} {As : List Ast} {b r c cnt : Nat} {V : Nat → Option Value} {L : Nat → Bool} {T E : TypeId}
theorem st_range (h : St w wr (aRange b r c V L cnt :: As)) : RangeAt wr b r c V L cnt := by obtain ⟨F, h, _⟩ := h.get; exact h
theorem st_left (h : St w wr (aRange b r c V L cnt :: As)) : wr.rangeLeft b r = cnt := by
  obtain ⟨D, left, h, _⟩ := st_range h
  exact h.left_eq
/-- the range begins -/
theorem lst_range (h : St w wr (aMap b c V :: As)) (ht : Tryd.prog.underlying T = some (.map 3 E))
    {ops : Array Oper} {rest : List Oper} {o : Oper} {a : Act} {Q : Exit → Act → World → Prop} (hgd : o.guard = none) (m : Operand) (ho : o.op = .range T m) (hm : a.eval m = .map (some b))
    (k : ∀ w' r cnt, St w w' (aRange b r c V (fun n => (V n).isSome) cnt :: As) → Ch (fun _ => False) wr w' → r = wr.heap.size → wpList Tryd.prog ops Q rest (a.put o.dst (.pointer (some ⟨r, 0, none⟩))) w') : wpList Tryd.prog ops Q (o :: rest) a wr := by
  obtain ⟨D, h1, k1⟩ := st_map h
  refine wpList_range_own wr hgd m T ho 3 E keyLaw ht raw b c D hm h1 fun w' hr hg hs => ?_
  have hch : Ch (fun _ => False) wr w' := (Ch.refl _ _).grown hg fun k hk => by cases hk
  refine k w' wr.heap.size _ (h.step fun F ⟨hm, hF⟩ => ⟨fun g => g.1 = b ∨ g.1 = wr.heap.size, ⟨⟨D, _, hr, k1, k1.has, k1.only⟩, fun g => Iff.rfl⟩, hch.mono fun _ h => h.elim, fun g hg => ?_⟩) hch rfl
  rcases hg with e | e
  · exact .inl ((hF g).2 e)
  · exact .inr (by omega)
/-- a step of the range -/
theorem lst_next (h : St w wr (aRange b r c V L cnt :: As))
    {ops : Array Oper} {rest : List Oper} {o : Oper} {a : Act} {Q : Exit → Act → World → Prop} (hgd : o.guard = none) (it : Operand) (ho : o.op = .next it false) (hit : a.eval it = .pointer (some ⟨r, 0, none⟩))
    (kDone : cnt = 0 → (∀ n, n ≤ 9223372036854775807 → L n = false) → wpList Tryd.prog ops Q rest (a.put o.dst (.tuple #[.bool false])) wr)
    (kMore : ∀ (n : Nat) (x : Value) (w' : World) (cnt' : Nat), n ≤ 9223372036854775807 → L n = true → V n = some x → cnt' < cnt → St w w' (aRange b r c V (fun m => L m && !decide (m = n)) cnt' :: As) → Ch (fun g => g = r) wr w' →
      (Instr.entry (.pointer (some ⟨r, 0, none⟩))).run Tryd.prog w' = .ok (.tuple #[.int .i64 (n : Int), x]) w' → wpList Tryd.prog ops Q rest (a.put o.dst (.tuple #[.bool true, .int .i64 (n : Int), x])) w') : wpList Tryd.prog ops Q (o :: rest) a wr := by
  obtain ⟨D, left, hr, k1, k2, k3⟩ := st_range h
  refine wpList_next_ranges (α := Value) (β := Value) wr hgd it ho 3 keyLaw raw id id (fun key kl _ => ⟨key, rfl⟩) (fun v y _ => ⟨v, rfl⟩) b r c D left cnt hit hr (fun h0 hl => kDone h0 fun n hn => by rw [← k2 n hn]; exact hl _) ?_
  intro key v kl y w' cnt' hkey hl hv hat hr' hlt hg hsz hen
  obtain ⟨n, hn, rfl⟩ := k3 kl hl
  obtain ⟨x, ex, ekl, hwf⟩ := Go.Maps.keyOf_int_inv Tryd.underlying3 hkey
  simp only [ky, Lit.int.injEq, true_and] at ekl
  simp only [id_eq] at ex hv hen ⊢
  subst ex
  rw [← ekl] at hen ⊢
  have hhas : Maps.has D (ky n) = true := Go.Maps.has_true_of_atKey hat
  rw [k1.has n hn] at hhas
  obtain ⟨x', hx'⟩ := Option.isSome_iff_exists.1 hhas
  have hy := (k1.at' n x' hn hx' .nil).symm.trans (hat .nil)
  simp only [raw, Option.some.injEq] at hv
  rw [← hv] at hy
  simp only [DataW.held.injEq] at hy
  subst hy
  have hch : Ch (fun g => g = r) wr w' := (Ch.refl _ _).grown hg fun k hk => by cases hk; exact .inl rfl
  refine kMore n x' w' cnt' hn (by rw [← k2 n hn]; exact hl) hx' hlt (h.step fun F ⟨_, hF⟩ => ⟨F, ⟨⟨D, _, hr', k1, fun m hm => ?_, fun kl hkl => ?_⟩, hF⟩, ?_, fun g hg => .inl hg⟩) hch hen
  · show (left (ky m) && !(ky m).sameKey (ky n)) = _
    rw [k2 m hm]
    by_cases e : m = n
    · rw [e, WideAt.sameKey_self (ky_lit hn)]; simp
    · rw [Go.Maps.sameKey_ne (fun h => e (ky_inj h))]; simp [e]
  · simp only [Bool.and_eq_true] at hkl
    exact k3 kl hkl.1
  · exact (Ch.refl _ _).grown hg fun k hk => by cases hk; exact .inl fun q => (hF _).2 (.inr rfl)
/-- the range is over -/
theorem st_ranged (h : St w wr (aRange b r c V L cnt :: As)) : St w wr (aMap b c V :: As) :=
  h.step fun F ⟨hr, hF⟩ => ⟨fun g => g.1 = b, ⟨hr.map, fun g => Iff.rfl⟩, Ch.refl _ _, fun g hg => .inl ((hF g).2 (.inl hg))⟩
end
end Go.Proofs.YtoiankgafclbdaaDoor.mem
