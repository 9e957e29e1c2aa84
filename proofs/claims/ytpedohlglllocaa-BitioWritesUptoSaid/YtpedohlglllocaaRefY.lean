/-
  Layer 1, the document's writer: Add, where it answers 0.
-/
import Derived.Test.YtpedohlglllocaaRefX
import Derived.Deep.RegionHeld3
import Derived.Deep.RegionLaw
namespace Go.Proofs.Ytpedohlglllocaa.bits
open Go.ChangeShapes Go.WideShapes Go.ChangeAt Go.RowKit
set_option linter.unusedVariables false

theorem row_form {w : World} {base : Nat} {e : TypeId} {size : Nat} {v : Value} {n : Nat} {xs : List Value} (h : w.ownsRow base e size v n xs) : (v = .slice none 0 0 ∧ n = 0) ∨ ∃ g cap, v = .slice (some ⟨g, 0, none⟩) n cap ∧ n ≤ cap := by
  rcases h.2 with h | ⟨g, cap, cur, hv, _, _, hc, _⟩
  · exact .inl h
  · exact .inr ⟨g, cap, hv, hc⟩

theorem row_cap {w : World} {base : Nat} {e : TypeId} {size : Nat} {n m cap : Nat} {ao : Option Addr} {xs : List Value} (h : w.ownsRow base e size (.slice ao m cap) n xs) : m ≤ cap := by
  rcases h.2 with ⟨h, _⟩ | ⟨g, cap, cur, hv, _, _, hc, _⟩
  · cases h; omega
  · cases hv; exact hc

set_option maxHeartbeats 1600000 in
theorem wwadd_ok {w : World} {Q : Nat} {F : Nat → Prop} {sv : Value} {bs : List Bool} (h : Ww w Q F sv bs) (s : ByteArray) (n : Nat) (hs : s.size ≤ 17592186044416) (hn0 : 0 < n) (hn : n ≤ 8 * s.size) (hmax : bs.length + n ≤ 134217728) :
    Calls Try.prog 34 #[.pointer (some ⟨Q, 0, none⟩), .string s, .int .i64 n] w fun e w' => e = .returned (.int .i64 0) ∧ ∃ F' sv', Ww w' Q F' sv' (bs ++ firsts s n) ∧ Ch F w w' ∧ ∀ g, F' g → F g ∨ w.heap.size ≤ g := by
  have hc0 := cell_of_one h.head
  have hf0 := free_of_one h.head
  have HW := Lib.hid h
  have HO := Lib.hid (fun W : World => rbits_any s W hs)
  have HLS : Hid ((bitsOf s.data.toList).length = 8 * s.size) := Lib.hid (by rw [length_bitsOf]; simp)
  have HLF := Lib.hid (length_firsts s n hn)
  obtain ⟨ao, cap, hsv⟩ := shape_row h.row
  have hm := h.max
  obtain ⟨ln, hln⟩ : ∃ ln : Nat, ln = bs.length := ⟨_, rfl⟩
  have HLN := Lib.hid hln
  rw [← hln] at hsv hm hmax
  have h1 : (n : Int) ≤ ((134217728 : Int) - (ln : Int)) := by omega
  have h2 : (n : Int) ≤ 8 * (s.size : Int) := by omega
  have hnI : (0 : Int) ≤ (n : Int) := by omega
  subst hsv
  clear hln h
  obtain ⟨i0, hi, hz0, hz1, hz2⟩ := info_parts Try.info4
  go_enter Try.func34, Try.ntmps34
  go_wp2_with fail
  go_region_law (first
    | (refine step_append_lies _ (by rfl) _ _ _ (by rfl) 0 4 i0 _ 1 1 Try.underlying26 hi hz0 hz1 hz2 rfl (by omega) (.slice ao ln cap) ln (bools bs) (by rfl) HR3.out ⟨g3, 0, none⟩ n cap3 (bools (firsts s n)) (by rfl) (by simp [bools, HLF.out]) (fun j u hj => HN.out.1.cells rfl j u (bools_firsts s n j u hj)) (bools_one _) hn0 (by unfold maxLen; omega) (by omega) (by omega) w3.heap.size rfl ?_; intro g4 cap4 w4 hown4 hgr4 hat4 hlt4; have hb4 := (hgr4.block Q (lt_of_block HB3.out) (fun e => HW.out.apart e.symm)).trans HB3.out; have hc4 := cell_of_one hb4; have hf4 := free_of_one hb4; have HB4 := Lib.hid hb4; have HO4 := Lib.hid hown4; have HG4 := Lib.hid hgr4; have HA4 := Lib.hid hat4; have HL4 := Lib.hid hlt4; clear hb4 hown4 hgr4 hat4 hlt4)
    | (go_simp; go_at_call 16; refine (HO.out _).mono ?_; rintro e w3 ⟨v3, rfl, hN⟩; obtain ⟨g3, cap3, rfl, _, hg3⟩ := hN.1.form (by rw [HLS.out]; omega); have hcap3 := row_cap hN.1; rw [HLS.out] at hN hcap3 ⊢; have hcap4 : n ≤ cap3 := (by omega); have hcap5 : (n : Int) ≤ (cap3 : Int) := (by omega); have HN := Lib.hid hN; have hc3 := cell_of_one (HW.out.kept (((Ch.refl (fun _ => False) w).drew).trans hN.2.2 fun _ h => h.elim) (fun _ _ h => h)).head; have hr3 := (HW.out.kept (((Ch.refl (fun _ => False) w).drew).trans hN.2.2 fun _ h => h.elim) (fun _ _ h => h)).row; rw [← HLN.out] at hr3; have HR3 := Lib.hid hr3; have HB3 := Lib.hid (HW.out.kept (((Ch.refl (fun _ => False) w).drew).trans hN.2.2 fun _ h => h.elim) (fun _ _ h => h)).head; clear hN hr3))
  all_goals
    go_wp2_with fail
    go_ret
    exact ⟨rfl, ww_close HW.out (((Ch.refl (fun _ => False) w).drew).trans HN.out.2.2 fun _ h => h.elim) HB4.out HO4.out HG4.out HA4.out (by rw [List.length_append, HLF.out, ← HLN.out]) (by rw [List.length_append, HLF.out, ← HLN.out]; exact hmax)⟩

theorem rbits_none (w : World) : Calls Try.prog 16 #[.string ByteArray.empty] w fun e w' => e = .returned (.slice none 0 0) ∧ w = w' := by
  go_enter Try.func16, Try.ntmps16
  go_wp2_with fail
  refine wp_loop_rounds 1 ?_
  rw [rounds_succ]
  go_wp2_with fail
  go_ret
  exact ⟨rfl, rfl⟩

theorem empty_of_size (s : ByteArray) (h : s.size = 0) : s = ByteArray.empty := by
  cases s with
  | mk d =>
    have : d = #[] := Array.eq_empty_of_size_eq_zero h
    rw [this]; rfl

set_option maxHeartbeats 1600000 in
/-- no bits change nothing -/
theorem wwadd_zero {w : World} {Q : Nat} {F : Nat → Prop} {sv : Value} {bs : List Bool} (h : Ww w Q F sv bs) (s : ByteArray) (hs : s.size ≤ 17592186044416) :
    Calls Try.prog 34 #[.pointer (some ⟨Q, 0, none⟩), .string s, .int .i64 0] w fun e w' => e = .returned (.int .i64 0) ∧ Ww w' Q F sv bs ∧ Ch F w w' := by
  have hc0 := cell_of_one h.head
  have hf0 := free_of_one h.head
  have HW := Lib.hid h
  obtain ⟨ao, cap, hsv⟩ := shape_row h.row
  have hm := h.max
  obtain ⟨ln, hln⟩ : ∃ ln : Nat, ln = bs.length := ⟨_, rfl⟩
  have HLN := Lib.hid hln
  rw [← hln] at hsv hm
  have h1 : (0 : Int) ≤ ((134217728 : Int) - (ln : Int)) := by omega
  have HCP : Hid (ln ≤ cap) := Lib.hid (by have := h.row; rw [hsv] at this; exact row_cap this)
  subst hsv
  clear hln h
  by_cases h0 : s.size = 0
  · have hse := empty_of_size s h0
    subst hse
    clear h0 hs
    obtain ⟨i0, hi, hz0, hz1, hz2⟩ := info_parts Try.info4
    go_enter Try.func34, Try.ntmps34
    go_wp2_with fail
    go_region_law (first
      | (refine step_append_zero (by rfl) _ _ _ (by rfl) 4 i0 Try.underlying26 hi ao ln cap HCP.out (by rfl) _ _ (by rfl) ?_)
      | (go_simp; go_at_call 16; refine (rbits_none _).mono ?_; rintro e w3 ⟨rfl, rfl⟩))
    all_goals
      go_wp2_with fail
      go_ret
      exact ⟨rfl, ww_same3 HW.out ((Ch.refl (fun _ => False) w).drew)⟩
  · have hpos : 0 < 8 * s.size := by omega
    have HPS := Lib.hid hpos
    have HO := Lib.hid (fun W : World => rbits_any s W hs)
    have HLS : Hid ((bitsOf s.data.toList).length = 8 * s.size) := Lib.hid (by rw [length_bitsOf]; simp)
    have h2 : (0 : Int) ≤ 8 * (s.size : Int) := by omega
    clear h0
    obtain ⟨i0, hi, hz0, hz1, hz2⟩ := info_parts Try.info4
    go_enter Try.func34, Try.ntmps34
    go_wp2_with fail
    go_region_law (first
      | (refine step_append_zero (by rfl) _ _ _ (by rfl) 4 i0 Try.underlying26 hi ao ln cap HCP.out (by rfl) _ _ (by rfl) ?_)
      | (go_simp; go_at_call 16; refine (HO.out _).mono ?_; rintro e w3 ⟨v3, rfl, hN⟩; obtain ⟨g3, cap3, rfl, _, hg3⟩ := hN.1.form (by rw [HLS.out]; exact HPS.out); rw [HLS.out] at hN ⊢; have hc3 := cell_of_one (HW.out.kept (((Ch.refl (fun _ => False) w).drew).trans hN.2.2 fun _ h => h.elim) (fun _ _ h => h)).head; have hf3 := free_of_one (HW.out.kept (((Ch.refl (fun _ => False) w).drew).trans hN.2.2 fun _ h => h.elim) (fun _ _ h => h)).head; have HN := Lib.hid hN; clear hN))
    all_goals
      go_wp2_with fail
      go_ret
      exact ⟨rfl, ww_same3 HW.out (((Ch.refl (fun _ => False) w).drew).trans HN.out.2.2 fun _ h => h.elim)⟩
end Go.Proofs.Ytpedohlglllocaa.bits
