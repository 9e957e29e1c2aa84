/-
  A kit of a heap's objects: a row is appended to, at a list of operations and in a region that draws.
-/
import Derived.Test.YtfgcbbbhnnikdaaHeap
import Derived.Deep.Upon
import Derived.Deep.AppendLies
import Derived.Deep.RegionHeld3
import Derived.Deep.RegionHeldLaw
namespace Go.Proofs.Ytfgcbbbhnnikdaa.mem
open Go.ChangeShapes Go.WideShapes Go.ChangeAt Go.RowKit
set_option linter.unusedVariables false

/-- a slice's type and its element's -/
structure RowOf (T E : TypeId) (z : Value) (size bytes : Nat) : Prop where
  ht : Try.prog.underlying T = some (.slice E)
  inf : (Try.prog.info? E).map (fun i => (i.zero, i.size, i.bytes)) = some (some z, size, bytes)
  zs : z.cells.size = size
  pos : 0 < size

theorem row_cap {w : World} {b e size n cap : Nat} {ao : Option Addr} {xs : List Value} (h : w.ownsRow b e size (.slice ao n cap) n xs) : n ≤ cap := by
  rcases h.2 with ⟨h1, rfl⟩ | ⟨g, c, cur, hv, _, _, h2, _⟩
  · omega
  · cases hv; exact h2

section
variable {w wr : World} {As : List Ast} {T E : TypeId} {z : Value} {size bytes n : Nat} {v : Value} {xs : List Value}

/-- m elements more -/
theorem lst_append (R : RowOf T E z size bytes) (h : St w wr (aRow E size v n xs :: As)) {ops : Array Oper} {rest : List Oper} {o : Oper} {a : Act} {Q : Exit → Act → World → Prop} (hgd : o.guard = none) (s x : Operand)
    (ho : o.op = .call { callee := .builtin .append, args := #[s, x], argTypes := #[T, T] }) (hs : a.eval s = v)
    (ad : Addr) (m c : Nat) (news : List Value) (hx : a.eval x = .slice (some ad) m c) (hl : news.length = m * size) (hnews : ∀ j u, news[j]? = some u → wr.cell? (ad.add j) = some u) (h1 : ∀ u ∈ news, u.oneCell' = true)
    (hm : 0 < m) (h63 : n + m ≤ maxLen) (hbytes : (n + m) * bytes ≤ 140737488355328)
    (k : ∀ g cap w', St w w' (aRow E size (.slice (some ⟨g, 0, none⟩) (n + m) cap) (n + m) (xs ++ news) :: As) → Ch (fun g => v.ownBlock = some g) wr w' → wpList Try.prog ops Q rest (a.put o.dst (.slice (some ⟨g, 0, none⟩) (n + m) cap)) w') : wpList Try.prog ops Q (o :: rest) a wr := by
  obtain ⟨i, hi, hz, hsize, hby⟩ := info_parts R.inf
  exact wpList_append_lies wr hgd s x T ho 0 E i z size bytes R.ht hi hz hsize hby R.zs R.pos v n xs hs (st_row h) ad m c news hx hl hnews h1 hm h63 hbytes (Nat.zero_le _) _ rfl fun g cap w' hown hgr hg _ =>
    k g cap w' (st_grow h (Ch.refl _ _) hown hgr (hg.imp id fun e => by omega)) ((Ch.refl _ _).grown hgr fun k hk => .inl hk)
theorem stp_append (R : RowOf T E z size bytes) (h : St w wr (aRow E size v n xs :: As)) {ops : Array Oper} {o : Oper} {a : Act} {K : Act → World → Prop} {Q : Exit → Act → World → Prop} {EE : Prop} (hgd : o.guard = none) (s x : Operand)
    (ho : o.op = .call { callee := .builtin .append, args := #[s, x], argTypes := #[T, T] }) (hs : a.eval s = v)
    (ad : Addr) (m c : Nat) (news : List Value) (hx : a.eval x = .slice (some ad) m c) (hl : news.length = m * size) (hnews : ∀ j u, news[j]? = some u → wr.cell? (ad.add j) = some u) (h1 : ∀ u ∈ news, u.oneCell' = true)
    (hm : 0 < m) (h63 : n + m ≤ maxLen) (hbytes : (n + m) * bytes ≤ 140737488355328)
    (k : ∀ g cap w', St w w' (aRow E size (.slice (some ⟨g, 0, none⟩) (n + m) cap) (n + m) (xs ++ news) :: As) → Ch (fun g => v.ownBlock = some g) wr w' → K (a.put o.dst (.slice (some ⟨g, 0, none⟩) (n + m) cap)) w') : if Region.wanted o (yielded ops a.tmps) = true then Oper.wp Try.prog o a wr K Q else EE := by
  obtain ⟨i, hi, hz, hsize, hby⟩ := info_parts R.inf
  exact step_append_lies wr hgd s x T ho 0 E i z size bytes R.ht hi hz hsize hby R.zs R.pos v n xs hs (st_row h) ad m c news hx hl hnews h1 hm h63 hbytes (Nat.zero_le _) _ rfl fun g cap w' hown hgr hg _ =>
    k g cap w' (st_grow h (Ch.refl _ _) hown hgr (hg.imp id fun e => by omega)) ((Ch.refl _ _).grown hgr fun k hk => .inl hk)

/-- none more -/
theorem wp_append0 (R : RowOf T E z size bytes) (h : St w wr (aRow E size v n xs :: As)) {o : Oper} {a : Act} {K : Act → World → Prop} {Q : Exit → Act → World → Prop} (s x : Operand)
    (ho : o.op = .call { callee := .builtin .append, args := #[s, x], argTypes := #[T, T] }) (hs : a.eval s = v) (xo : Option Addr) (xc : Nat) (hx : a.eval x = .slice xo 0 xc) (k : K (a.put o.dst v) wr) : Oper.wp Try.prog o a wr K Q := by
  obtain ⟨i, hi, hz, hsize, hby⟩ := info_parts R.inf
  obtain ⟨so, cap, rfl⟩ := st_shape h
  have hr := run_append_nothing (P := Try.prog) wr T T o.type E i R.ht hi so n cap (row_cap (st_row h)) (.slice xo 0 xc) ⟨.inl ⟨E, R.ht⟩, fun w' => by simp [Builtin.lenOf], by cases xo <;> simp [Builtin.firstCells, loadCells, loadCellsFrom], by cases xo <;> simp [Builtin.firstCells, loadCells, loadCellsFrom], by simp, by simp⟩
  unfold Oper.wp execOp
  simp only [ho, resolve, invoke, builtin, Sem.run_bind, Sem.run_pure, Result.andThen_ok, List.map_toArray, List.map_cons, List.map_nil, hs, hx, hr]
  exact k
theorem lst_append0 (R : RowOf T E z size bytes) (h : St w wr (aRow E size v n xs :: As)) {ops : Array Oper} {rest : List Oper} {o : Oper} {a : Act} {Q : Exit → Act → World → Prop} (hgd : o.guard = none) (s x : Operand)
    (ho : o.op = .call { callee := .builtin .append, args := #[s, x], argTypes := #[T, T] }) (hs : a.eval s = v) (xo : Option Addr) (xc : Nat) (hx : a.eval x = .slice xo 0 xc) (k : wpList Try.prog ops Q rest (a.put o.dst v) wr) : wpList Try.prog ops Q (o :: rest) a wr :=
  wpList_plain hgd fun _ hK => wp_append0 R h s x ho hs xo xc hx (hK _ _ k)
theorem stp_append0 (R : RowOf T E z size bytes) (h : St w wr (aRow E size v n xs :: As)) {ops : Array Oper} {o : Oper} {a : Act} {K : Act → World → Prop} {Q : Exit → Act → World → Prop} {EE : Prop} (hgd : o.guard = none) (s x : Operand)
    (ho : o.op = .call { callee := .builtin .append, args := #[s, x], argTypes := #[T, T] }) (hs : a.eval s = v) (xo : Option Addr) (xc : Nat) (hx : a.eval x = .slice xo 0 xc) (k : K (a.put o.dst v) wr) : if Region.wanted o (yielded ops a.tmps) = true then Oper.wp Try.prog o a wr K Q else EE := by
  have hw : Region.wanted o (yielded ops a.tmps) = true := by simp [Region.wanted, hgd]
  rw [if_pos hw]
  exact wp_append0 R h s x ho hs xo xc hx k
/-- so many more, or none -/
theorem stp_appendN (R : RowOf T E z size bytes) (h : St w wr (aRow E size v n xs :: As)) {ops : Array Oper} {o : Oper} {a : Act} {K : Act → World → Prop} {Q : Exit → Act → World → Prop} {EE : Prop} (hgd : o.guard = none) (s x : Operand)
    (ho : o.op = .call { callee := .builtin .append, args := #[s, x], argTypes := #[T, T] }) (hs : a.eval s = v)
    (ao : Option Addr) (m c : Nat) (news : List Value) (hx : a.eval x = .slice ao m c) (hl : news.length = m * size) (hnews : 0 < m → ∃ ad, ao = some ad ∧ ∀ j u, news[j]? = some u → wr.cell? (ad.add j) = some u) (h1 : ∀ u ∈ news, u.oneCell' = true)
    (h63 : n + m ≤ maxLen) (hbytes : (n + m) * bytes ≤ 140737488355328)
    (k : ∀ v' w', St w w' (aRow E size v' (n + m) (xs ++ news) :: As) → Ch (fun g => v.ownBlock = some g) wr w' → K (a.put o.dst v') w') : if Region.wanted o (yielded ops a.tmps) = true then Oper.wp Try.prog o a wr K Q else EE := by
  by_cases hm : 0 < m
  · obtain ⟨ad, rfl, hc⟩ := hnews hm
    exact stp_append R h hgd s x ho hs ad m c news hx hl hc h1 hm h63 hbytes fun g cap w' h2 h3 => k _ w' h2 h3
  · obtain rfl : m = 0 := by omega
    have : news = [] := List.length_eq_zero_iff.1 (by rw [hl, Nat.zero_mul])
    subst this
    exact stp_append0 R h hgd s x ho hs ao c hx (k v wr (by rw [List.append_nil]; exact h) (Ch.refl _ _))
theorem lst_appendN (R : RowOf T E z size bytes) (h : St w wr (aRow E size v n xs :: As)) {ops : Array Oper} {rest : List Oper} {o : Oper} {a : Act} {Q : Exit → Act → World → Prop} (hgd : o.guard = none) (s x : Operand)
    (ho : o.op = .call { callee := .builtin .append, args := #[s, x], argTypes := #[T, T] }) (hs : a.eval s = v)
    (ao : Option Addr) (m c : Nat) (news : List Value) (hx : a.eval x = .slice ao m c) (hl : news.length = m * size) (hnews : 0 < m → ∃ ad, ao = some ad ∧ ∀ j u, news[j]? = some u → wr.cell? (ad.add j) = some u) (h1 : ∀ u ∈ news, u.oneCell' = true)
    (h63 : n + m ≤ maxLen) (hbytes : (n + m) * bytes ≤ 140737488355328)
    (k : ∀ v' w', St w w' (aRow E size v' (n + m) (xs ++ news) :: As) → Ch (fun g => v.ownBlock = some g) wr w' → wpList Try.prog ops Q rest (a.put o.dst v') w') : wpList Try.prog ops Q (o :: rest) a wr := by
  by_cases hm : 0 < m
  · obtain ⟨ad, rfl, hc⟩ := hnews hm
    exact lst_append R h hgd s x ho hs ad m c news hx hl hc h1 hm h63 hbytes fun g cap w' h2 h3 => k _ w' h2 h3
  · obtain rfl : m = 0 := by omega
    have : news = [] := List.length_eq_zero_iff.1 (by rw [hl, Nat.zero_mul])
    subst this
    exact lst_append0 R h hgd s x ho hs ao c hx (k v wr (by rw [List.append_nil]; exact h) (Ch.refl _ _))
/-- the cells of a row in a world's objects, as an append's source -/
theorem st_news (h : St w wr (aRow E size v n xs :: As)) : ∃ ao c, v = .slice ao n c ∧ (0 < n → ∃ ad, ao = some ad ∧ ∀ j u, xs[j]? = some u → wr.cell? (ad.add j) = some u) := by
  rcases (st_row h).2 with ⟨h1, h2⟩ | ⟨g, cap, cur, hv, hr⟩
  · exact ⟨none, 0, by rw [h2]; exact h1, fun h => by omega⟩
  · refine ⟨_, cap, hv, fun _ => ⟨⟨g, 0, none⟩, rfl, fun j u hj => ?_⟩⟩
    have hlt := (List.getElem?_eq_some_iff.1 hj).1
    rw [st_len h] at hlt
    rw [Addr.add_mid, Nat.zero_add, st_at h hv j hlt, hj]
/-- an empty row, newly made -/
theorem st_none (h : St w wr As) (E : TypeId) (size : Nat) : St w (wr.alloc (.cells #[] E)) (aRow E size (.slice (some ⟨wr.heap.size, 0, none⟩) 0 0) 0 [] :: As) :=
  h.push ((Ch.refl _ wr).alloc _) (A := aRow E size (.slice (some ⟨wr.heap.size, 0, none⟩) 0 0) 0 []) (F := fun g => g.1 = wr.heap.size)
    ⟨⟨by simp, .inr ⟨_, 0, #[], rfl, Nat.zero_le _, heap_alloc_new wr _, Nat.le_refl _, Nat.zero_le _, by simp, by simp⟩⟩, fun g => by simp only [Value.ownBlock, Option.some.injEq]; exact eq_comm⟩ fun g hg => by omega
end
end Go.Proofs.Ytfgcbbbhnnikdaa.mem
