/-
  Layer 1, the document's writer: Put.
-/
import Derived.Test.YtpedohlglllocaaRefB
import Derived.Deep.RegionHeld3
import Derived.Deep.RegionLaw
import Derived.Deep.AppendLies
import Derived.Outline
namespace Go.Proofs.Ytpedohlglllocaa.bits
open Go.ChangeShapes Go.WideShapes Go.ChangeAt Go.RowKit
set_option linter.unusedVariables false

/-- append of nothing, at a step of a region that draws its order -/
theorem step_append_bare {P : Program} {w : World} {ops : Array Oper} {o : Oper} {a : Act} {K : Act → World → Prop} {Q : Exit → Act → World → Prop} {E : Prop} (hgd : o.guard = none) (s x : Operand) (t : TypeId)
    (ho : o.op = .call { callee := .builtin .append, args := #[s, x], argTypes := #[t, t] })
    (base : Nat) (e : TypeId) (i : TypeInfo) (size : Nat) (ht : P.underlying t = some (.slice e)) (hi : P.info? e = some i)
    (v : Value) (n : Nat) (xs : List Value) (hs : a.eval s = v) (hown : w.ownsRow base e size v n xs) (hx : a.eval x = .slice none 0 0)
    (h : K (a.put o.dst v) w) : if Region.wanted o (yielded ops a.tmps) = true then Oper.wp P o a w K Q else E := by
  have hw : Region.wanted o (yielded ops a.tmps) = true := by simp [Region.wanted, hgd]
  rw [if_pos hw]
  have hr := run_append_owned_none (P := P) w base t o.type e i size ht hi v n xs hown
  unfold Oper.wp execOp
  simp only [ho, resolve, invoke, builtin, Sem.run_bind, Sem.run_pure, Result.andThen_ok, List.map_toArray, List.map_cons, List.map_nil, hs, hx, hr]
  exact h

structure Ww (w : World) (Q : Nat) (F : Nat → Prop) (v : Value) (bs : List Bool) : Prop where
  head : w.heap[Q]? = some (.cells #[v] 28 (0, 0))
  row : w.ownsRow 0 4 1 v bs.length (bools bs)
  mine : F Q
  rowMine : ∀ g, v.ownBlock = some g → F g
  apart : v.ownBlock ≠ some Q
  max : bs.length ≤ 134217728
  live : ∀ g, F g → g < w.heap.size

theorem Ww.kept {w w' : World} {Q : Nat} {F G : Nat → Prop} {v : Value} {bs : List Bool} (h : Ww w Q F v bs) (hc : Ch G w w') (hd : ∀ g, F g → ¬ G g) : Ww w' Q F v bs :=
  ⟨by rw [hc.block Q (h.live Q h.mine) (hd Q h.mine)]; exact h.head, row_kept h.row hc fun g hg => hd g (h.rowMine g hg), h.mine, h.rowMine, h.apart, h.max, fun g hg => Nat.lt_of_lt_of_le (h.live g hg) hc.size⟩

theorem shape_row {w : World} {base : Nat} {e : TypeId} {size : Nat} {v : Value} {n : Nat} {xs : List Value} (h : w.ownsRow base e size v n xs) : ∃ ao cap, v = .slice ao n cap := by
  rcases h.2 with ⟨rfl, rfl⟩ | ⟨g, cap, cur, rfl, _⟩
  · exact ⟨none, 0, rfl⟩
  · exact ⟨some ⟨g, 0, none⟩, cap, rfl⟩

theorem wwput_arg (v : Nat) (n : Int) (Q : Nat) (w : World) (hv : v < 18446744073709551616) (h : n < 0 ∨ 64 < n ∨ 2 ^ n.toNat ≤ v) :
    Calls Try.prog 33 #[.pointer (some ⟨Q, 0, none⟩), .int .u64 v, .int .i64 n] w fun e w' => e = .returned (.int .i64 1) ∧ w = w' := by
  by_cases h1 : n < 0
  · go_enter Try.func33, Try.ntmps33
    go_wp2_with fail
    go_ret
    exact ⟨rfl, rfl⟩
  · by_cases h2 : 64 < n
    · go_enter Try.func33, Try.ntmps33
      go_wp2_with fail
      go_ret
      exact ⟨rfl, rfl⟩
    · have h3 : 0 ≤ n := by omega
      have h4 : n ≤ 64 := by omega
      have hf := rfits_any v n hv h3 h4
      rw [show decide (v < 2 ^ n.toNat) = false from by simp; omega] at hf
      clear h h1 h2
      go_enter Try.func33, Try.ntmps33
      go_wp2_with (go_at_call 40; refine (hf _).mono ?_; rintro e w' ⟨rfl, rfl⟩)
      go_ret
      exact ⟨rfl, rfl⟩

theorem wwput_full {w : World} {Q : Nat} {F : Nat → Prop} {sv : Value} {bs : List Bool} (h : Ww w Q F sv bs) (v n : Nat) (hn : n ≤ 64) (hv : v < 2 ^ n) (hmax : 134217728 < bs.length + n) :
    Calls Try.prog 33 #[.pointer (some ⟨Q, 0, none⟩), .int .u64 v, .int .i64 n] w fun e w' => e = .returned (.int .i64 3) ∧ w = w' := by
  have hf := rfits_any v n (Nat.lt_of_lt_of_le hv (Nat.pow_le_pow_right (n := 2) (by omega) hn)) (by omega) (by omega)
  rw [show decide (v < 2 ^ (n : Int).toNat) = true from by simpa using hv] at hf
  have hc0 := cell_of_one h.head
  obtain ⟨ao, cap, rfl⟩ := shape_row h.row
  have hm := h.max
  obtain ⟨ln, hln⟩ : ∃ ln : Nat, ln = bs.length := ⟨_, rfl⟩
  rw [← hln] at hc0 hm
  have h1 : ((134217728 : Int) - (ln : Int)) < (n : Int) := by omega
  clear hln h hmax
  go_enter Try.func33, Try.ntmps33
  go_wp2_with (go_at_call 40; refine (hf _).mono ?_; rintro e w' ⟨rfl, rfl⟩)
  go_ret
  exact ⟨rfl, rfl⟩

theorem of_zero (v : Int) (w : World) : Calls Try.prog 41 #[.int .u64 v, .int .i64 0] w fun e w' => e = .returned (.slice none 0 0) ∧ w = w' := by
  go_enter Try.func41, Try.ntmps41
  go_wp2_with fail
  refine wp_loop_rounds 1 ?_
  rw [rounds_succ]
  go_wp2_with fail
  go_ret
  exact ⟨rfl, rfl⟩

theorem ww_close {w w3 w4 : World} {Q : Nat} {F : Nat → Prop} {sv : Value} {bs new : List Bool} {g4 m cap4 : Nat} (h : Ww w Q F sv bs) (h3 : Ch (fun _ => False) w w3) (hb4 : w4.heap[Q]? = some (.cells #[sv] 28 (0, 0)))
    (ho : w4.ownsRow 0 4 1 (.slice (some ⟨g4, 0, none⟩) m cap4) m (bools bs ++ bools new)) (hg : w3.grownBy w4 sv.ownBlock) (ha : sv.ownBlock = some g4 ∨ g4 = w3.heap.size) (hm : m = (bs ++ new).length) (hmax : (bs ++ new).length ≤ 134217728) :
    ∃ F' sv', Ww (w4.setCell ⟨Q, 0, none⟩ (.slice (some ⟨g4, 0, none⟩) m cap4)) Q F' sv' (bs ++ new) ∧ Ch F w (w4.setCell ⟨Q, 0, none⟩ (.slice (some ⟨g4, 0, none⟩) m cap4)) ∧ ∀ g, F' g → F g ∨ w.heap.size ≤ g := by
  have hQ := h.live Q h.mine
  have hs3 := h3.size
  have hs4 := hg.size
  have hgQ : g4 ≠ Q := by
    intro e
    rcases ha with ha | ha
    · exact h.apart (by rw [ha, e])
    · omega
  have hg4 : g4 < w4.heap.size := own_lt ho rfl
  have hF : ∀ k, (F k ∨ k = g4) → F k ∨ w.heap.size ≤ k := by
    intro k hk
    rcases hk with hk | rfl
    · exact .inl hk
    · rcases ha with ha | ha
      · exact .inl (h.rowMine _ ha)
      · exact .inr (by omega)
  subst hm
  refine ⟨fun k => F k ∨ k = g4, .slice (some ⟨g4, 0, none⟩) (bs ++ new).length cap4, ⟨?_, ?_, .inl h.mine, fun g hg => .inr (by simpa [Value.ownBlock] using hg.symm), by simp [Value.ownBlock]; exact hgQ, hmax, ?_⟩, ?_, hF⟩
  · exact one_setCell hb4
  · have := ownsRow_setCell_other ho (a := ⟨Q, 0, none⟩) (by simp [Value.ownBlock]; exact hgQ) (.slice (some ⟨g4, 0, none⟩) (bs ++ new).length cap4)
    simpa [bools] using this
  · intro k hk
    rcases hk with hk | rfl
    · have := h.live k hk; simp; omega
    · simpa using hg4
  · exact (Ch.grown (F := F) (h3.mono fun _ h => h.elim) hg fun k hk => .inl (h.rowMine k hk)).setCell (.inl h.mine) _

theorem bools_one (l : List Bool) : ∀ u ∈ bools l, u.oneCell' = true := by
  intro u hu
  simp [bools] at hu
  rcases hu with ⟨_, rfl⟩ | ⟨_, rfl⟩ <;> rfl

/-- the head stored again -/
theorem ww_same {w : World} {Q : Nat} {F : Nat → Prop} {sv : Value} {bs : List Bool} (h : Ww w Q F sv bs) : Ww (w.drew.setCell ⟨Q, 0, none⟩ sv) Q F sv bs ∧ Ch F w (w.drew.setCell ⟨Q, 0, none⟩ sv) :=
  ⟨⟨one_setCell (w := w.drew) h.head, ownsRow_setCell_other (w := w.drew) h.row h.apart _, h.mine, h.rowMine, h.apart, h.max, fun g hg => by have := h.live g hg; simpa using this⟩, ((Ch.refl F w).drew).setCell (.inl h.mine) _⟩

/-- a number in no bits changes nothing -/
theorem wwput_zero {w : World} {Q : Nat} {F : Nat → Prop} {sv : Value} {bs : List Bool} (h : Ww w Q F sv bs) :
    Calls Try.prog 33 #[.pointer (some ⟨Q, 0, none⟩), .int .u64 0, .int .i64 0] w fun e w' => e = .returned (.int .i64 0) ∧ Ww w' Q F sv bs ∧ Ch F w w' := by
  have hf := rfits_any 0 0 (by omega) (by omega) (by omega)
  rw [show decide (0 < 2 ^ (0 : Int).toNat) = true from by decide] at hf
  have hc0 := cell_of_one h.head
  have hf0 := free_of_one h.head
  have HW := Lib.hid h
  have HO := Lib.hid (fun W : World => of_zero 0 W)
  obtain ⟨ao, cap, hsv⟩ := shape_row h.row
  have hm := h.max
  obtain ⟨ln, hln⟩ : ∃ ln : Nat, ln = bs.length := ⟨_, rfl⟩
  have HLN := Lib.hid hln
  rw [← hln] at hsv hm
  have h1 : (0 : Int) ≤ ((134217728 : Int) - (ln : Int)) := by omega
  subst hsv
  have HR0 := Lib.hid h.row
  rw [← hln] at HR0
  clear hln h
  obtain ⟨i0, hi, hz0, hz1, hz2⟩ := info_parts Try.info4
  go_enter Try.func33, Try.ntmps33
  go_wp2_with (go_at_call 40; refine (hf _).mono ?_; rintro e w' ⟨rfl, rfl⟩)
  go_region_law (first
    | (refine step_append_bare (by rfl) _ _ _ (by rfl) 0 4 i0 1 Try.underlying26 hi (.slice ao ln cap) ln (bools bs) (by rfl) (HR0.out.drew) (by rfl) ?_)
    | (go_simp; go_at_call 41; refine (HO.out _).mono ?_; rintro e w3 ⟨rfl, rfl⟩))
  all_goals
    go_wp2_with fail
    go_ret
    exact ⟨rfl, ww_same HW.out⟩

set_option maxHeartbeats 1600000 in
theorem wwput_ok {w : World} {Q : Nat} {F : Nat → Prop} {sv : Value} {bs : List Bool} (h : Ww w Q F sv bs) (v n : Nat) (hn0 : 0 < n) (hn : n ≤ 64) (hv : v < 2 ^ n) (hmax : bs.length + n ≤ 134217728) :
    Calls Try.prog 33 #[.pointer (some ⟨Q, 0, none⟩), .int .u64 v, .int .i64 n] w fun e w' => e = .returned (.int .i64 0) ∧ ∃ F' sv', Ww w' Q F' sv' (bs ++ ofNum v n) ∧ Ch F w w' ∧ ∀ g, F' g → F g ∨ w.heap.size ≤ g := by
  have hv64 : v < 18446744073709551616 := Nat.lt_of_lt_of_le hv (Nat.pow_le_pow_right (n := 2) (by omega) hn)
  have hf := rfits_any v n hv64 (by omega) (by omega)
  rw [show decide (v < 2 ^ (n : Int).toNat) = true from by simpa using hv] at hf
  have hc0 := cell_of_one h.head
  have hf0 := free_of_one h.head
  have HW := Lib.hid h
  have HO := Lib.hid (fun W : World => of_any v n W hv64 hn)
  obtain ⟨ao, cap, hsv⟩ := shape_row h.row
  have hm := h.max
  obtain ⟨ln, hln⟩ : ∃ ln : Nat, ln = bs.length := ⟨_, rfl⟩
  have HLN := Lib.hid hln
  rw [← hln] at hsv hm hmax
  have h1 : (n : Int) ≤ ((134217728 : Int) - (ln : Int)) := by omega
  subst hsv
  clear hln h hv
  obtain ⟨i0, hi, hz0, hz1, hz2⟩ := info_parts Try.info4
  go_enter Try.func33, Try.ntmps33
  go_wp2_with (go_at_call 40; refine (hf _).mono ?_; rintro e w' ⟨rfl, rfl⟩)
  go_region_law (first
    | (refine step_append_lies _ (by rfl) _ _ _ (by rfl) 0 4 i0 _ 1 1 Try.underlying26 hi hz0 hz1 hz2 rfl (by omega) (.slice ao ln cap) ln (bools bs) (by rfl) HR3.out ⟨g3, 0, none⟩ n cap3 (bools (ofNum v n)) (by rfl) (by simp [bools, length_ofNum]) (HN.out.1.cells rfl) (bools_one _) hn0 (by unfold maxLen; omega) (by omega) (by omega) w3.heap.size rfl ?_; intro g4 cap4 w4 hown4 hgr4 hat4 hlt4; have hb4 := (hgr4.block Q (lt_of_block HB3.out) (fun e => HW.out.apart e.symm)).trans HB3.out; have hc4 := cell_of_one hb4; have hf4 := free_of_one hb4; have HB4 := Lib.hid hb4; have HO4 := Lib.hid hown4; have HG4 := Lib.hid hgr4; have HA4 := Lib.hid hat4; have HL4 := Lib.hid hlt4; clear hb4 hown4 hgr4 hat4 hlt4)
    | (go_simp; go_at_call 41; refine (HO.out _).mono ?_; rintro e w3 ⟨v3, rfl, hN⟩; obtain ⟨g3, cap3, rfl, _, hg3⟩ := hN.1.form (by rw [length_ofNum]; exact hn0); rw [length_ofNum] at hN ⊢; have HN := Lib.hid hN; have hc3 := cell_of_one (HW.out.kept (((Ch.refl (fun _ => False) w).drew).trans hN.2.2 fun _ h => h.elim) (fun _ _ h => h)).head; have hr3 := (HW.out.kept (((Ch.refl (fun _ => False) w).drew).trans hN.2.2 fun _ h => h.elim) (fun _ _ h => h)).row; rw [← HLN.out] at hr3; have HR3 := Lib.hid hr3; have HB3 := Lib.hid (HW.out.kept (((Ch.refl (fun _ => False) w).drew).trans hN.2.2 fun _ h => h.elim) (fun _ _ h => h)).head; clear hN hr3))
  all_goals
    go_wp2_with fail
    go_ret
    exact ⟨rfl, ww_close HW.out (((Ch.refl (fun _ => False) w).drew).trans HN.out.2.2 fun _ h => h.elim) HB4.out HO4.out HG4.out HA4.out (by rw [List.length_append, length_ofNum, ← HLN.out]) (by rw [List.length_append, length_ofNum, ← HLN.out]; exact hmax)⟩
end Go.Proofs.Ytpedohlglllocaa.bits
