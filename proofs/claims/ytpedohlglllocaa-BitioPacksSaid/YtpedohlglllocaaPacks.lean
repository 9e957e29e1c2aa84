/-
  BitioPacks answers true: the walk.
-/
import Derived.Test.YtpedohlglllocaaPacksA
import Derived.Laws.AppendOwnNone
import Derived.Outline
namespace Go.Proofs.Ytpedohlglllocaa.bits
open Go.ChangeShapes Go.WideShapes Go.ChangeAt Go.RowKit
set_option linter.unusedVariables false

theorem row_cap {w : World} {base : Nat} {e : TypeId} {size g n cap : Nat} {xs : List Value} (h : w.ownsRow base e size (.slice (some ⟨g, 0, none⟩) n cap) n xs) : n ≤ cap ∧ cap ≤ 9223372036854775807 := by
  rcases h.2 with ⟨h1, _⟩ | ⟨g', cap', cur, h1, _, _, h2, h3, _⟩
  · simp at h1
  · simp only [Value.slice.injEq] at h1
    rw [h1.2.2]
    unfold maxLen at h3
    exact ⟨h2, h3⟩
theorem u64s_len (zs : List Nat) : (u64s zs).length = zs.length := by simp [u64s]
theorem u64s_one (zs : List Nat) : ∀ u ∈ u64s zs, u.oneCell' = true := by
  intro u hu
  simp only [u64s, List.mem_map] at hu
  obtain ⟨_, _, rfl⟩ := hu
  rfl
theorem add_cells {w w' : World} {a : Addr} {vs : List Value} (h : ∀ j u, vs[j]? = some u → w.cell? (a.add j) = some u) (hc : Ch (fun _ => False) w w') : ∀ j u, vs[j]? = some u → w'.cell? (a.add j) = some u := by
  intro j u hu
  have h1 := h j u hu
  rw [World.cell?_of_block (w := w) (hc.block _ (World.block_lt_of_cell? w _ h1) (fun h => h))]
  exact h1

theorem pout_form {zs : List Nat} {N : Int} {e : Ending} (h : POut zs N e) : ∃ (t : ByteArray) (x : Int), e = .returned (.tuple #[.string t, .int .i64 x]) := by
  rcases h with ⟨L, _, _, he⟩ | ⟨_, he⟩
  · exact ⟨_, _, he⟩
  · exact ⟨_, _, he⟩
theorem pout_size {zs : List Nat} {N : Int} {t : ByteArray} {x : Int} (h : POut zs N (.returned (.tuple #[.string t, .int .i64 x]))) : t.size ≤ 1152921504606846975 := by
  rcases h with ⟨L, hf, hp, he⟩ | ⟨_, he⟩
  · obtain ⟨rfl, _⟩ : t = ⟨L.toArray⟩ ∧ x = 0 := by simpa using he
    have hl := hp.len
    rw [length_flat] at hl
    have := hf.2.2.2
    rw [size_text]
    omega
  · obtain ⟨rfl, _⟩ : t = ByteArray.empty ∧ x = 1 := by simpa using he
    decide
theorem uz_len (s : ByteArray) (N C : Int) : (UZ s N C).length ≤ 134217728 := by
  unfold UZ
  split
  · simp
  · split
    · rename_i hg
      rw [length_nums]
      exact Nat.le_trans hg.1 (Nat.div_le_self _ _)
    · simp
def Stopped (p : Prop) : Prop := p
theorem stop_here {p : Prop} (h : Stopped p) : p := h
theorem size_alloc_le {a : Nat} {w : World} (h : a ≤ w.heap.size) (o : Obj) : a ≤ (w.alloc o).heap.size := by simp; omega

set_option maxRecDepth 100000 in
set_option maxHeartbeats 1600000 in
theorem packs_walk (ao : Option Addr) (cap : Nat) (zs : List Nat) (s : ByteArray) (N C : Int) (w : World) (hr : Reads w ao (u64s zs)) (hz : ∀ z ∈ zs, z < 18446744073709551616) (hl : zs.length * 8 ≤ 140737488351232) (hs : s.size ≤ 140737488351232)
    (hao : ao = none → zs = [] ∧ cap = 0) (hadd : ∀ a, ao = some a → ∀ j u, (u64s zs)[j]? = some u → w.cell? (a.add j) = some u) :
    Calls Try.prog 5 #[.slice ao zs.length cap, .string s, .agg #[.int .i64 N, .int .i64 C]] w fun e w' => e = .returned (.bool true) ∧ Ch (fun _ => False) w w' := by
  obtain ⟨len, hlen⟩ : ∃ len, len = zs.length := ⟨_, rfl⟩
  rw [← hlen] at hl ⊢
  have HLEN := Lib.hid hlen
  clear hlen
  obtain ⟨i0, hi, hz0, hz1, hz2⟩ := info_parts Try.info30
  have HL0 : Hid (((w.alloc (.cells #[.int .i64 N, .int .i64 C] 58)).alloc (.cells #[] 30)).ownsRow w.heap.size 30 1 (.slice (some ⟨w.heap.size + 1, 0, none⟩) 0 0) 0 []) := Lib.hid (by
    have h := World.ownsRow_lit (e := 30) (size := 1) (base := w.heap.size) (w.alloc (.cells #[.int .i64 N, .int .i64 C] 58)) #[] 0 (by simp) (by decide) rfl
    simpa using h)
  have HB0 : Hid (w.heap.size ≤ ((w.alloc (.cells #[.int .i64 N, .int .i64 C] 58)).alloc (.cells #[] 30)).heap.size) := Lib.hid (by simp; omega)
  cases ao with
  | none =>
    obtain ⟨rfl, rfl⟩ := hao rfl
    obtain rfl : len = 0 := by have := HLEN.out; simpa using this
    clear hadd hao
    go_enter Try.func5, Try.ntmps5
    go_wp2_with (first
      | (at_builtin; refine wpList_append_own_none rfl (.tmp 24) (.tmp 25) 56 rfl w.heap.size 30 i0 1 Try.underlying56 hi (.slice (some ⟨w.heap.size + 1, 0, none⟩) 0 0) 0 [] rfl HL0.out rfl ?_)
      | (at_builtin; refine stop_here ?_))
    have hown1 : ((w.alloc (.cells #[.int .i64 N, .int .i64 C] 58)).alloc (.cells #[] 30)).ownsRow w.heap.size 30 1 (Value.slice (some ⟨w.heap.size + 1, 0, none⟩) 0 0) 0 (u64s []) := HL0.out
    have hgr1 : ((w.alloc (.cells #[.int .i64 N, .int .i64 C] 58)).alloc (.cells #[] 30)).grownBy ((w.alloc (.cells #[.int .i64 N, .int .i64 C] 58)).alloc (.cells #[] 30)) (Value.slice (some ⟨w.heap.size + 1, 0, none⟩) 0 0).ownBlock := World.grownBy.refl _ _
    have HLC : Hid (∀ j u, [Value.int .u64 77][j]? = some u → (((w.alloc (.cells #[.int .i64 N, .int .i64 C] 58)).alloc (.cells #[] 30)).alloc (.cells #[.int .u64 77] 30)).cell? ((⟨w.heap.size + 1 + 1, 0, none⟩ : Addr).add j) = some u) := Lib.hid (by
      have h := lit_cell ((w.alloc (.cells #[.int .i64 N, .int .i64 C] 58)).alloc (.cells #[] 30)) (.int .u64 77) 30
      rw [show ((w.alloc (.cells #[.int .i64 N, .int .i64 C] 58)).alloc (.cells #[] 30)).heap.size = w.heap.size + 1 + 1 from by simp] at h
      exact h)
    unfold Stopped
    refine wpList_append_own _ rfl (.tmp 26) (.tmp 27) 56 rfl w.heap.size 30 i0 (.int .u64 0) 1 8 Try.underlying56 hi hz0 hz1 hz2 rfl (by decide) (Value.slice (some ⟨w.heap.size + 1, 0, none⟩) 0 0) 0 (u64s ([] : List Nat)) rfl (hown1.alloc _) ⟨w.heap.size + 1 + 1, 0, none⟩ 1 1 [.int .u64 77] rfl rfl HLC.out (lit_oneu _) ?_ ?_ ?_ ?_
    · unfold maxLen; omega
    · omega
    · exact size_alloc_le (Nat.le_trans HB0.out hgr1.size) _
    intro v2 w2 hown2 hgr2 _
    obtain ⟨g2, cap2, rfl, hg2, hlt2⟩ := hown2.form (Nat.succ_pos _)
    have HO2 := Lib.hid hown2
    have HG1 := Lib.hid hgr1
    have HG2 := Lib.hid hgr2
    have HO1 := Lib.hid hown1
    have hcp := (row_cap hown2).1
    have hcp2 := (row_cap hown2).2
    have hcpi : (0 : Int) ≤ (cap2 : Int) := by omega
    clear hown2 hgr1 hgr2 hown1 hg2 hlt2
    have HC2 : Hid (Ch (fun _ => False) w w2) := Lib.hid (by
      refine Ch.grown (row := (Value.slice (some ⟨w.heap.size + 1, 0, none⟩) 0 0).ownBlock) ((Ch.grown (((Ch.refl (fun _ => False) w).alloc _).alloc _) HG1.out (fun k hk => .inr (by simp [Value.ownBlock] at hk; omega))).alloc _) HG2.out (fun k hk => .inr (HO1.out.lt k hk).1))
    have HRM : Hid (Reads w2 (some ⟨g2, 0, none⟩) (u64s ([] : List Nat))) := Lib.hid (fun i hi => ⟨g2, 0, rfl, by
      rw [Nat.zero_add, HO2.out.cellAt i (by rw [u64s_len] at hi; have := HLEN.out; omega), List.getElem?_append_left hi]⟩)
    have hc77 : w2.cell? ⟨g2, 0, none⟩ = some (.int .u64 77) := by
      rw [HO2.out.cellAt 0 (by omega), List.getElem?_append_right (by rw [u64s_len]; have := HLEN.out; omega), u64s_len, ← HLEN.out, Nat.sub_self]
      rfl
    have HC77 := Lib.hid hc77
    have HRL : Hid (Reads w2 none (u64s ([] : List Nat))) := Lib.hid (hr.kept HC2.out)
    have HP1 := Lib.hid (packP (some ⟨g2, 0, none⟩) cap2 ([] : List Nat) N w2 HRM.out hz)
    rw [← HLEN.out] at HP1
    have hzl : ([] : List Nat).length ≤ 9223372036854775807 := by have := HLEN.out; omega
    have HZL := Lib.hid hzl
    have HZ := Lib.hid hz
    clear HG1 HG2 HO1 HO2 hr hz hc77 hzl HB0 HL0
    go_wp2_with fail
    refine HP1.out.mono ?_
    rintro e w3 ⟨hpo, hc3⟩
    obtain ⟨t, x, rfl⟩ := pout_form hpo
    have HPO := Lib.hid hpo
    have HC3 := Lib.hid hc3
    clear hpo hc3 HP1
    go_wp2_with fail
    have HP2 := Lib.hid (rpackP none 0 ([] : List Nat) N w3 (HRL.out.kept HC3.out) HZ.out HZL.out)
    rw [← HLEN.out] at HP2
    refine HP2.out.mono ?_
    rintro e w4 ⟨hpo, hc4⟩
    obtain rfl := (pout_eq hpo HPO.out)
    have HC4 := Lib.hid (HC3.out.trans hc4 fun _ h => h.elim)
    clear hpo hc4 HP2 HC3
    go_wp2_with fail
    refine (unpackP s N C w4 (by omega)).mono ?_
    rintro e w5 ⟨⟨ao1, cp1, rfl, hR1⟩, hc5⟩
    have HR1 := Lib.hid hR1
    have HC5 := Lib.hid (HC4.out.trans hc5 fun _ h => h.elim)
    clear hR1 hc5 HC4
    go_wp2_with fail
    refine (runpackP s N C w5 (by omega)).mono ?_
    rintro e w6 ⟨⟨ao2, cp2, rfl, hR2⟩, hc6⟩
    have HR2 := Lib.hid hR2
    have HR1' := Lib.hid (HR1.out.kept hc6)
    have HC6 := Lib.hid (HC5.out.trans hc6 fun _ h => h.elim)
    clear hR2 hc6 HC5 HR1
    have HUL := Lib.hid (uz_len s N C)
    obtain ⟨us, hus⟩ : ∃ us, us = UZ s N C := ⟨_, rfl⟩
    obtain ⟨ux, hux⟩ : ∃ ux, ux = UX s N C := ⟨_, rfl⟩
    rw [← hus] at HR1' HR2 HUL ⊢
    rw [← hux]
    clear hus hux
    have hc77 : w6.cell? ⟨g2, 0, none⟩ = some (.int .u64 77) := by
      rw [World.cell?_of_block (w := w2) (HC6.out.block g2 (World.block_lt_of_cell? w2 _ HC77.out) (fun h => h))]
      exact HC77.out
    go_wp2_with fail
    refine (same_eq ao1 ao2 cp1 cp2 us w6 HR1'.out HR2.out (by have := HUL.out; omega)).mono ?_
    rintro e w' ⟨rfl, q1, rfl⟩
    go_wp2_with fail
    have HS2 := Lib.hid (same_eq (some ⟨g2, 0, none⟩) none cap2 0 ([] : List Nat) (w6.drewN q1) ((HRM.out.kept HC6.out).kept ((Ch.refl _ _).drewN _)) ((HRL.out.kept HC6.out).kept ((Ch.refl _ _).drewN _)) HZL.out)
    rw [← HLEN.out] at HS2
    refine HS2.out.mono ?_
    rintro e w' ⟨rfl, q2, rfl⟩
    clear HS2
    go_wp2_with fail
    have HTS := Lib.hid (pout_size HPO.out)
    rcases HPO.out with ⟨L, hfit, hpk, he⟩ | ⟨hnf, he⟩
    · obtain ⟨rfl, rfl⟩ : t = ⟨L.toArray⟩ ∧ x = 0 := by simpa using he
      obtain ⟨hux, huz⟩ := back_good hfit hpk
      rw [← HLEN.out, show ((0 : Nat) : Int) = 0 from rfl] at hux huz
      have HUX := Lib.hid hux
      have HUZ := Lib.hid huz
      clear hux huz he hpk hfit
      refine (unpackP _ N 0 _ HTS.out).mono ?_
      rintro e w7 ⟨⟨ao3, cp3, rfl, hR3⟩, hc7⟩
      rw [HUX.out, HUZ.out, ← HLEN.out]
      rw [HUZ.out] at hR3
      have HR3 := Lib.hid hR3
      have hc67 : Ch (fun _ => False) w6 w7 := ((Ch.refl _ w6).drewN _).trans hc7 fun _ h => h.elim
      have HC7 := Lib.hid (HC6.out.trans hc67 fun _ h => h.elim)
      clear hR3 hc7 hc67
      go_wp2_with fail
      have HS3 := Lib.hid (same_eq ao3 none cp3 0 ([] : List Nat) w7 HR3.out (HRL.out.kept HC7.out) HZL.out)
      rw [← HLEN.out] at HS3
      refine HS3.out.mono ?_
      rintro e w' ⟨rfl, q3, rfl⟩
      clear HS3
      go_wp2_with fail
      refine (awake_any _).mono ?_
      rintro e w9 ⟨rfl, hC9⟩
      have HC9 := Lib.hid (((HC2.out.trans HC7.out fun _ h => h.elim).drewN q3).trans hC9 fun _ h => h.elim)
      clear hC9
      go_wp2_with fail
      go_ret
      exact ⟨rfl, HC9.out⟩
    · obtain ⟨rfl, rfl⟩ : t = ByteArray.empty ∧ x = 1 := by simpa using he
      clear he hnf
      refine (unpackP _ N 0 _ HTS.out).mono ?_
      rintro e w7 ⟨⟨ao3, cp3, rfl, hR3⟩, hc7⟩
      have hc67 : Ch (fun _ => False) w6 w7 := ((Ch.refl _ w6).drewN _).trans hc7 fun _ h => h.elim
      have HC7 := Lib.hid (HC6.out.trans hc67 fun _ h => h.elim)
      clear hR3 hc7 hc67
      go_wp2_with fail
      refine (awake_any _).mono ?_
      rintro e w9 ⟨rfl, hC9⟩
      have HC9 := Lib.hid ((HC2.out.trans HC7.out fun _ h => h.elim).trans hC9 fun _ h => h.elim)
      clear hC9
      go_wp2_with fail
      go_ret
      exact ⟨rfl, HC9.out⟩
  | some a =>
    have HADD := Lib.hid (add_cells (hadd a rfl) (((Ch.refl (fun _ => False) w).alloc (.cells #[.int .i64 N, .int .i64 C] 58)).alloc (.cells #[] 30)))
    clear hadd hao
    go_enter Try.func5, Try.ntmps5
    go_wp2_with (first
      | (at_builtin; (refine wpList_append_own _ rfl (.tmp 24) (.tmp 25) 56 rfl w.heap.size 30 i0 (.int .u64 0) 1 8 Try.underlying56 hi hz0 hz1 hz2 rfl (by decide) (.slice (some ⟨w.heap.size + 1, 0, none⟩) 0 0) 0 [] rfl HL0.out a len cap (u64s zs) rfl (by rw [u64s_len]; have := HLEN.out; omega) HADD.out (u64s_one _) (by unfold maxLen; omega) (by omega) HB0.out ?_; intro v1 W1 hown1 hgr1 _); simp only [Nat.zero_add, List.nil_append] at hown1)
      | (at_builtin; refine stop_here ?_))
    unfold Stopped
    refine wpList_append_own _ rfl (.tmp 26) (.tmp 27) 56 rfl w.heap.size 30 i0 (.int .u64 0) 1 8 Try.underlying56 hi hz0 hz1 hz2 rfl (by decide) v1 len (u64s zs) rfl (hown1.alloc _) ⟨W1.heap.size, 0, none⟩ 1 1 [.int .u64 77] rfl rfl (lit_cell _ _ _) (lit_oneu _) ?_ ?_ ?_ ?_
    · unfold maxLen; omega
    · omega
    · exact size_alloc_le (Nat.le_trans HB0.out hgr1.size) _
    intro v2 w2 hown2 hgr2 _
    obtain ⟨g2, cap2, rfl, hg2, hlt2⟩ := hown2.form (Nat.succ_pos _)
    have HO2 := Lib.hid hown2
    have HG1 := Lib.hid hgr1
    have HG2 := Lib.hid hgr2
    have HO1 := Lib.hid hown1
    have hcp := (row_cap hown2).1
    have hcp2 := (row_cap hown2).2
    have hcpi : (len : Int) ≤ (cap2 : Int) := by omega
    clear hown2 hgr1 hgr2 hown1 hg2 hlt2
    have HC2 : Hid (Ch (fun _ => False) w w2) := Lib.hid (by
      refine Ch.grown (row := v1.ownBlock) ((Ch.grown (((Ch.refl (fun _ => False) w).alloc _).alloc _) HG1.out (fun k hk => .inr (by simp [Value.ownBlock] at hk; omega))).alloc _) HG2.out (fun k hk => .inr (HO1.out.lt k hk).1))
    have HRM : Hid (Reads w2 (some ⟨g2, 0, none⟩) (u64s zs)) := Lib.hid (fun i hi => ⟨g2, 0, rfl, by
      rw [Nat.zero_add, HO2.out.cellAt i (by rw [u64s_len] at hi; have := HLEN.out; omega), List.getElem?_append_left hi]⟩)
    have hc77 : w2.cell? ⟨g2, len, none⟩ = some (.int .u64 77) := by
      rw [HO2.out.cellAt len (by omega), List.getElem?_append_right (by rw [u64s_len]; have := HLEN.out; omega), u64s_len, ← HLEN.out, Nat.sub_self]
      rfl
    have HC77 := Lib.hid hc77
    have HRL : Hid (Reads w2 (some a) (u64s zs)) := Lib.hid (hr.kept HC2.out)
    have HP1 := Lib.hid (packP (some ⟨g2, 0, none⟩) cap2 zs N w2 HRM.out hz)
    rw [← HLEN.out] at HP1
    have hzl : zs.length ≤ 9223372036854775807 := by have := HLEN.out; omega
    have HZL := Lib.hid hzl
    have HZ := Lib.hid hz
    clear HG1 HG2 HO1 HO2 hr hz hc77 hzl HB0 HL0
    go_wp2_with fail
    refine HP1.out.mono ?_
    rintro e w3 ⟨hpo, hc3⟩
    obtain ⟨t, x, rfl⟩ := pout_form hpo
    have HPO := Lib.hid hpo
    have HC3 := Lib.hid hc3
    clear hpo hc3 HP1
    go_wp2_with fail
    have HP2 := Lib.hid (rpackP (some a) cap zs N w3 (HRL.out.kept HC3.out) HZ.out HZL.out)
    rw [← HLEN.out] at HP2
    refine HP2.out.mono ?_
    rintro e w4 ⟨hpo, hc4⟩
    obtain rfl := (pout_eq hpo HPO.out)
    have HC4 := Lib.hid (HC3.out.trans hc4 fun _ h => h.elim)
    clear hpo hc4 HP2 HC3
    go_wp2_with fail
    refine (unpackP s N C w4 (by omega)).mono ?_
    rintro e w5 ⟨⟨ao1, cp1, rfl, hR1⟩, hc5⟩
    have HR1 := Lib.hid hR1
    have HC5 := Lib.hid (HC4.out.trans hc5 fun _ h => h.elim)
    clear hR1 hc5 HC4
    go_wp2_with fail
    refine (runpackP s N C w5 (by omega)).mono ?_
    rintro e w6 ⟨⟨ao2, cp2, rfl, hR2⟩, hc6⟩
    have HR2 := Lib.hid hR2
    have HR1' := Lib.hid (HR1.out.kept hc6)
    have HC6 := Lib.hid (HC5.out.trans hc6 fun _ h => h.elim)
    clear hR2 hc6 HC5 HR1
    have HUL := Lib.hid (uz_len s N C)
    obtain ⟨us, hus⟩ : ∃ us, us = UZ s N C := ⟨_, rfl⟩
    obtain ⟨ux, hux⟩ : ∃ ux, ux = UX s N C := ⟨_, rfl⟩
    rw [← hus] at HR1' HR2 HUL ⊢
    rw [← hux]
    clear hus hux
    have hc77 : w6.cell? ⟨g2, len, none⟩ = some (.int .u64 77) := by
      rw [World.cell?_of_block (w := w2) (HC6.out.block g2 (World.block_lt_of_cell? w2 _ HC77.out) (fun h => h))]
      exact HC77.out
    go_wp2_with fail
    refine (same_eq ao1 ao2 cp1 cp2 us w6 HR1'.out HR2.out (by have := HUL.out; omega)).mono ?_
    rintro e w' ⟨rfl, q1, rfl⟩
    go_wp2_with fail
    have HS2 := Lib.hid (same_eq (some ⟨g2, 0, none⟩) (some a) cap2 cap zs (w6.drewN q1) ((HRM.out.kept HC6.out).kept ((Ch.refl _ _).drewN _)) ((HRL.out.kept HC6.out).kept ((Ch.refl _ _).drewN _)) HZL.out)
    rw [← HLEN.out] at HS2
    refine HS2.out.mono ?_
    rintro e w' ⟨rfl, q2, rfl⟩
    clear HS2
    go_wp2_with fail
    have HTS := Lib.hid (pout_size HPO.out)
    rcases HPO.out with ⟨L, hfit, hpk, he⟩ | ⟨hnf, he⟩
    · obtain ⟨rfl, rfl⟩ : t = ⟨L.toArray⟩ ∧ x = 0 := by simpa using he
      obtain ⟨hux, huz⟩ := back_good hfit hpk
      rw [← HLEN.out] at hux huz
      have HUX := Lib.hid hux
      have HUZ := Lib.hid huz
      clear hux huz he hpk hfit
      refine (unpackP _ N len _ HTS.out).mono ?_
      rintro e w7 ⟨⟨ao3, cp3, rfl, hR3⟩, hc7⟩
      rw [HUX.out, HUZ.out, ← HLEN.out]
      rw [HUZ.out] at hR3
      have HR3 := Lib.hid hR3
      have hc67 : Ch (fun _ => False) w6 w7 := ((Ch.refl _ w6).drewN _).trans hc7 fun _ h => h.elim
      have HC7 := Lib.hid (HC6.out.trans hc67 fun _ h => h.elim)
      clear hR3 hc7 hc67
      go_wp2_with fail
      have HS3 := Lib.hid (same_eq ao3 (some a) cp3 cap zs w7 HR3.out (HRL.out.kept HC7.out) HZL.out)
      rw [← HLEN.out] at HS3
      refine HS3.out.mono ?_
      rintro e w' ⟨rfl, q3, rfl⟩
      clear HS3
      go_wp2_with fail
      refine (awake_any _).mono ?_
      rintro e w9 ⟨rfl, hC9⟩
      have HC9 := Lib.hid (((HC2.out.trans HC7.out fun _ h => h.elim).drewN q3).trans hC9 fun _ h => h.elim)
      clear hC9
      go_wp2_with fail
      go_ret
      exact ⟨rfl, HC9.out⟩
    · obtain ⟨rfl, rfl⟩ : t = ByteArray.empty ∧ x = 1 := by simpa using he
      clear he hnf
      refine (unpackP _ N len _ HTS.out).mono ?_
      rintro e w7 ⟨⟨ao3, cp3, rfl, hR3⟩, hc7⟩
      have hc67 : Ch (fun _ => False) w6 w7 := ((Ch.refl _ w6).drewN _).trans hc7 fun _ h => h.elim
      have HC7 := Lib.hid (HC6.out.trans hc67 fun _ h => h.elim)
      clear hR3 hc7 hc67
      go_wp2_with fail
      refine (awake_any _).mono ?_
      rintro e w9 ⟨rfl, hC9⟩
      have HC9 := Lib.hid ((HC2.out.trans HC7.out fun _ h => h.elim).trans hC9 fun _ h => h.elim)
      clear hC9
      go_wp2_with fail
      go_ret
      exact ⟨rfl, HC9.out⟩
end Go.Proofs.Ytpedohlglllocaa.bits
