/-
  Layer 1, the document's writer: Bit and Add.
-/
import Derived.Test.YtpedohlglllocaaRefW
import Derived.Test.YtpedohlglllocaaAddA
import Derived.Deep.Upon
namespace Go.Proofs.Ytpedohlglllocaa.bits
open Go.ChangeShapes Go.WideShapes Go.ChangeAt Go.RowKit
set_option linter.unusedVariables false

/-- append of a slice of no length, at a step of a region that draws its order -/
theorem step_append_zero {P : Program} {w : World} {ops : Array Oper} {o : Oper} {a : Act} {K : Act → World → Prop} {Q : Exit → Act → World → Prop} {E : Prop} (hgd : o.guard = none) (s x : Operand) (t : TypeId)
    (ho : o.op = .call { callee := .builtin .append, args := #[s, x], argTypes := #[t, t] })
    (e : TypeId) (i : TypeInfo) (ht : P.underlying t = some (.slice e)) (hi : P.info? e = some i)
    (so : Option Addr) (n cap : Nat) (hle : n ≤ cap) (hs : a.eval s = .slice so n cap) (xo : Option Addr) (xc : Nat) (hx : a.eval x = .slice xo 0 xc)
    (h : K (a.put o.dst (.slice so n cap)) w) : if Region.wanted o (yielded ops a.tmps) = true then Oper.wp P o a w K Q else E := by
  have hw : Region.wanted o (yielded ops a.tmps) = true := by simp [Region.wanted, hgd]
  rw [if_pos hw]
  have hr := run_append_nothing (P := P) w t t o.type e i ht hi so n cap hle (.slice xo 0 xc) ⟨.inl ⟨e, ht⟩, fun w' => by simp [Builtin.lenOf], by cases xo <;> simp [Builtin.firstCells, loadCells, loadCellsFrom], by cases xo <;> simp [Builtin.firstCells, loadCells, loadCellsFrom], by simp, by simp⟩
  unfold Oper.wp execOp
  simp only [ho, resolve, invoke, builtin, Sem.run_bind, Sem.run_pure, Result.andThen_ok, List.map_toArray, List.map_cons, List.map_nil, hs, hx, hr]
  exact h

theorem wwbit_full {w : World} {Q : Nat} {F : Nat → Prop} {sv : Value} {bs : List Bool} (h : Ww w Q F sv bs) (x : Bool) (hmax : bs.length = 134217728) :
    Calls Try.prog 32 #[.pointer (some ⟨Q, 0, none⟩), .bool x] w fun e w' => e = .returned (.int .i64 3) ∧ w = w' := by
  have hc0 := cell_of_one h.head
  obtain ⟨ao, cap, rfl⟩ := shape_row h.row
  rw [hmax] at hc0
  clear h hmax
  go_enter Try.func32, Try.ntmps32
  go_wp2_with fail
  go_ret
  exact ⟨rfl, rfl⟩

theorem wwbit_ok {w : World} {Q : Nat} {F : Nat → Prop} {sv : Value} {bs : List Bool} (h : Ww w Q F sv bs) (x : Bool) (hmax : bs.length < 134217728) :
    Calls Try.prog 32 #[.pointer (some ⟨Q, 0, none⟩), .bool x] w fun e w' => e = .returned (.int .i64 0) ∧ ∃ F' sv', Ww w' Q F' sv' (bs ++ [x]) ∧ Ch F w w' ∧ ∀ g, F' g → F g ∨ w.heap.size ≤ g := by
  have hc0 := cell_of_one h.head
  have HW := Lib.hid h
  have HQ := Lib.hid (h.live Q h.mine)
  obtain ⟨ao, cap, hsv⟩ := shape_row h.row
  obtain ⟨ln, hln⟩ : ∃ ln : Nat, ln = bs.length := ⟨_, rfl⟩
  have HLN := Lib.hid hln
  rw [← hln] at hsv hmax
  have t1 : decide ((134217728 : Int) ≤ (ln : Int)) = false := by simp; omega
  have hi1 : (ln : Int) ≤ 134217727 := by omega
  have HM := Lib.hid hmax
  clear hmax
  have HR := Lib.hid h.row
  rw [← hln] at HR
  subst hsv
  clear hln h
  have HH : Hid (w.heap.size < (w.alloc (.cells #[.bool x] 4)).heap.size) := Lib.hid (by simp)
  obtain ⟨i0, hi, hz0, hz1, hz2⟩ := info_parts Try.info4
  go_enter Try.func32, Try.ntmps32
  go_wp2_with (at_builtin; refine wpList_append_lies _ (by rfl) _ _ 26 (by rfl) 0 4 i0 (.bool false) 1 1 Try.underlying26 hi hz0 hz1 hz2 rfl (by decide) (.slice ao ln cap) ln (bools bs) (by rfl) (HR.out.alloc _) ⟨w.heap.size, 0, none⟩ 1 1 [.bool x] (by rfl) (by rfl) (lit_cell _ _ _) (lit_oneb _) (by decide) (by have := HM.out; unfold maxLen; omega) (by have := HM.out; omega) (Nat.zero_le _) _ rfl ?_; intro g4 cap4 w4 hown4 hgr4 hat4 hlt4; have hb4 := (hgr4.block Q (Nat.lt_trans HQ.out HH.out) (fun e => HW.out.apart e.symm)).trans (HW.out.kept ((Ch.refl (fun _ => False) w).alloc (.cells #[.bool x] 4)) (fun _ _ h => h)).head; have hc4 := cell_of_one hb4; have hf4 := free_of_one hb4; have HB4 := Lib.hid hb4; have HO4 := Lib.hid hown4; have HG4 := Lib.hid hgr4; have HA4 := Lib.hid hat4; clear hb4 hown4 hgr4 hat4 hlt4)
  go_ret
  exact ⟨rfl, ww_close HW.out ((Ch.refl (fun _ => False) w).alloc _) HB4.out (by simpa [bools] using HO4.out) HG4.out HA4.out (by rw [List.length_append, ← HLN.out]; rfl) (by rw [List.length_append, ← HLN.out]; have := HM.out; simp; omega)⟩

theorem wwadd_arg (s : ByteArray) (n : Int) (Q : Nat) (w : World) (hs : s.size ≤ 1152921504606846975) (h : n < 0 ∨ 8 * (s.size : Int) < n) :
    Calls Try.prog 34 #[.pointer (some ⟨Q, 0, none⟩), .string s, .int .i64 n] w fun e w' => e = .returned (.int .i64 1) ∧ w = w' := by
  by_cases h1 : n < 0
  · go_enter Try.func34, Try.ntmps34
    go_wp2_with fail
    go_ret
    exact ⟨rfl, rfl⟩
  · have h2 : 8 * (s.size : Int) < n := by omega
    clear h
    go_enter Try.func34, Try.ntmps34
    go_wp2_with fail
    go_ret
    exact ⟨rfl, rfl⟩

theorem wwadd_full {w : World} {Q : Nat} {F : Nat → Prop} {sv : Value} {bs : List Bool} (h : Ww w Q F sv bs) (s : ByteArray) (n : Nat) (hs : s.size ≤ 1152921504606846975) (hn : n ≤ 8 * s.size) (hmax : 134217728 < bs.length + n) :
    Calls Try.prog 34 #[.pointer (some ⟨Q, 0, none⟩), .string s, .int .i64 n] w fun e w' => e = .returned (.int .i64 3) ∧ w = w' := by
  have hc0 := cell_of_one h.head
  obtain ⟨ao, cap, rfl⟩ := shape_row h.row
  have hm := h.max
  obtain ⟨ln, hln⟩ : ∃ ln : Nat, ln = bs.length := ⟨_, rfl⟩
  rw [← hln] at hc0 hm
  have h1 : ((134217728 : Int) - (ln : Int)) < (n : Int) := by omega
  have h2 : (n : Int) ≤ 8 * (s.size : Int) := by omega
  clear hln h hmax
  go_enter Try.func34, Try.ntmps34
  go_wp2_with fail
  go_ret
  exact ⟨rfl, rfl⟩

theorem bools_firsts (s : ByteArray) (n : Nat) : ∀ (j : Nat) u, (bools (firsts s n))[j]? = some u → (bools (bitsOf s.data.toList))[j]? = some u := by
  intro (j : Nat) u h
  unfold bools firsts at *
  rw [List.map_take, List.getElem?_take] at h
  by_cases hj : j < n
  · rw [if_pos hj] at h; exact h
  · rw [if_neg hj] at h; cases h

/-- the head stored again, later -/
theorem ww_same3 {w w3 : World} {Q : Nat} {F : Nat → Prop} {sv : Value} {bs : List Bool} (h : Ww w Q F sv bs) (h3 : Ch (fun _ => False) w w3) : Ww (w3.setCell ⟨Q, 0, none⟩ sv) Q F sv bs ∧ Ch F w (w3.setCell ⟨Q, 0, none⟩ sv) := by
  have k := h.kept h3 fun _ _ h => h
  exact ⟨⟨one_setCell (w := w3) k.head, ownsRow_setCell_other (w := w3) k.row k.apart _, k.mine, k.rowMine, k.apart, k.max, fun g hg => by have := k.live g hg; simpa using this⟩, (h3.mono fun _ h => h.elim).setCell (.inl h.mine) _⟩
end Go.Proofs.Ytpedohlglllocaa.bits
