/-
  Layer 5, the program: standing.
-/
import Derived.Test.YtjmjmekmaamclaaDoorMC
namespace Go.Proofs.YtjmjmekmaamclaaDoor.jrn
open Go.ChangeShapes Go.WideShapes Go.ChangeAt Go.RowKit mem dev sums
set_option linter.unusedVariables false
section
variable {w wr : World} {As : List Ast} {R : Rg} {X : Nat} {D : DevM} {s : JSt}
open Classical in
set_option maxHeartbeats 4000000 in
set_option maxRecDepth 8000 in
theorem standing_st (a : R.Ok) (g : Halves w) (u : Up R D) (h : St w wr (pDev X D :: As)) (ht : s.h.tail ≤ 4096) (hu : s.used ≤ R.ring) (hn : s.num < 18446744073709551616) (hR : D.Room 200)
    (hrec : let ts := targetsOf (pl R D.safe (s.h.tail + s.used)) s.num R.most; ts ≠ [] → ts.length + 2 ≤ R.ring - s.used → Begins (pl R D.safe (s.h.tail + s.used + 1 + ts.length)) s.num → seg (pl R D.safe (s.h.tail + s.used + 1 + ts.length)) 0 = seg (recB s.num (pl R D.safe (s.h.tail + s.used) :: datasOf R D.safe (s.h.tail + s.used) ts.length) R.z) 0) :
    Calls Tryd.prog 55 #[rgV X R, stV s] wr fun e w' => ∃ v k, k ≤ 200 ∧ e = .returned (.tuple #[v, .int .i64 0]) ∧ St w w' (aWrs v (standM R D.safe (s.h.tail + s.used) s.num s.used) :: pDev X (DevM.more D k) :: As) := by
  have hb := ring_big a
  have h1 := st_new (st_new h (rgCells X R) 63) (stCells s) 69
  rw [World.size_alloc] at h1
  have HX := Lib.hid (h1.third)
  have HG := Lib.hid g
  have HU := Lib.hid u
  have HRM := Lib.hid hR
  have HN := Lib.hid hn
  obtain ⟨p, hp⟩ : ∃ p, p = s.h.tail + s.used := ⟨_, rfl⟩
  obtain ⟨ts, hts⟩ : ∃ ts, ts = targetsOf (pl R D.safe p) s.num R.most := ⟨_, rfl⟩
  have hrd1 := read_row a u HX.out ht (by omega) 1 (by decide) (room_less' hR (by decide))
  rw [← hp] at hrd1 hrec ⊢
  have HSM : Hid (standM R D.safe p s.num s.used = if ts = [] ∨ R.ring - s.used < ts.length + 2 then [] else if NoBad ts (datasOf R D.safe p ts.length) ts.length ∧ MayW R (unL ts (datasOf R D.safe p ts.length)) ∧ Begins (pl R D.safe (p + 1 + ts.length)) s.num then unL ts (datasOf R D.safe p ts.length) else []) := Lib.hid (by rw [hts]; rfl)
  have htl : ts.length ≤ R.most := by rw [hts]; exact targetsOf_len _ _ _
  have htx : ∀ x ∈ ts, x < 4294967296 := by rw [hts]; exact targetsOf_lt _ _ _
  have hrec' : ts ≠ [] → ts.length + 2 ≤ R.ring - s.used → Begins (pl R D.safe (p + 1 + ts.length)) s.num → seg (pl R D.safe (p + 1 + ts.length)) 0 = seg (recB s.num (pl R D.safe p :: datasOf R D.safe p ts.length) R.z) 0 := by rw [hts]; exact hrec
  have e1 : dev.strs (textsOf R D.safe p 1) = [Value.string (pl R D.safe p)] := by simp [textsOf, dev.strs]
  rw [e1] at hrd1
  have HRD1 := Lib.hid hrd1
  have HTX := Lib.hid htx
  have HREC := Lib.hid hrec'
  have HSZ := Lib.hid fun q => pl_size a u q
  have hmo : R.most + 4 = R.ln := by have := a.six; unfold Rg.most; omega
  have hz := z_big a
  have hz2 : R.z ≤ 4096 := by have := a.ns1; unfold Rg.z; omega
  have hf := a.few
  have HT1 : Hid (∀ W Bs, St w W Bs → Calls Tryd.prog 76 #[.string (pl R D.safe p), .int .u64 (s.num : Int), .int .i64 (R.most : Int)] W fun e w' => ∃ v, e = .returned v ∧ St w w' (aTgts v ts :: Bs)) := Lib.hid fun W Bs k => by
    rw [hts]
    exact targetsOf_st g k _ s.num hn R.most (by rw [pl_size a u]; omega) (by rw [pl_size a u]; exact hz2)
  have HMO : Hid (∀ W Bs k, St w W (pDev X (DevM.more D k) :: Bs) → Calls Tryd.prog 37 #[rgV X R] W fun e w' => e = .returned (.int .i64 (R.most : Int)) ∧ St w w' (pDev X (DevM.more D k) :: Bs)) := Lib.hid fun W Bs k h => most_st a h u.ns
  clear h h1 g u hR hrd1 hrec hrec' htx hn hts e1
  go_enter Tryd.func55, Tryd.ntmps55
  go_upto_region 4 with (go_at_call 75; refine HRD1.out.mono ?_; rintro e w2 ⟨v1, rfl, hst⟩; obtain ⟨g1, cp1, rfl, _⟩ := st_form hst (by decide); have H2 := Lib.hid hst; clear hst)
  have hlt : wr.heap.size < wr.heap.size + 1 := by omega
  generalize wr.heap.size + 1 = B2 at HX H2 hlt ⊢
  generalize wr.heap.size = B1 at HX H2 hlt ⊢
  obtain ⟨t0, ht0⟩ : ∃ t0, pl R D.safe p = t0 := ⟨_, rfl⟩
  have HT0 := Lib.hid ht0
  obtain ⟨M, hM⟩ : ∃ M : Int, (R.most : Int) = M := ⟨_, rfl⟩
  have h2 : St w w2 (pDev X (DevM.more D 1) :: aVar B1 (rgCells X R) 63 :: aVar B2 (stCells s) 69 :: aRow 9 1 (.slice (some ⟨g1, 0, none⟩) 1 cp1) 1 [Value.string (pl R D.safe p)] :: As) := H2.out.fourth.fourth.swap.fourth
  have ct1 := HT1.out
  have cmo := HMO.out
  rw [ht0] at h2 ct1
  rw [hM] at ct1 cmo
  have CT1 := Lib.hid ct1
  have CMO := Lib.hid cmo
  have c0 : _ = some (pt X) := st_cell h2.swap 0
  have c1 : _ = some (Value.int .i64 (R.st : Int)) := st_cell h2.swap 1
  have c2 : _ = some (Value.int .i64 (R.ln : Int)) := st_cell h2.swap 2
  have d3 : _ = some (Value.int .u64 (s.num : Int)) := st_cell h2.third 5
  have hy : ∀ W Bs, St w W (aRow 9 1 (.slice (some ⟨g1, 0, none⟩) 1 cp1) 1 [Value.string t0] :: Bs) → W.cell? ⟨g1, 0, none⟩ = some (.string t0) := fun _ _ k => (st_at k rfl 0 (by decide)).trans rfl
  have HY := Lib.hid hy
  have y0 : w2.cell? ⟨g1, 0, none⟩ = some (.string t0) := hy _ _ h2.fourth
  have H3 := Lib.hid h2
  clear h2 H2 HX HRD1 hlt ct1 cmo hy ht0 hM HT1 HMO
  go_region_held3 (fun w' => w'.cell? ⟨B1, 0, none⟩ = some (pt X) ∧ w'.cell? ⟨B1, 1, none⟩ = some (.int .i64 (R.st : Int)) ∧ w'.cell? ⟨B1, 2, none⟩ = some (.int .i64 (R.ln : Int)) ∧ w'.cell? ⟨B2, 5, none⟩ = some (.int .u64 (s.num : Int)) ∧ w'.cell? ⟨g1, 0, none⟩ = some (.string t0)) (go_keep) (first
    | ((go_at_call 37; with_reducible refine (CMO.out _ _ _ (by first | exact H3.out | exact H3.out.drew | exact H3.out.drewN _)).mono ?_; rintro e w3 ⟨rfl, hst⟩; have m0 : _ = some (pt X) := st_cell hst.swap 0; have m1 : _ = some (Value.int .i64 (R.st : Int)) := st_cell hst.swap 1; have m2 : _ = some (Value.int .i64 (R.ln : Int)) := st_cell hst.swap 2; have m3 : _ = some (Value.int .u64 (s.num : Int)) := st_cell hst.third 5; have m4 := HY.out _ _ hst.fourth; have H4 := Lib.hid hst; clear hst))
    | ((go_at_call 76; with_reducible refine (CT1.out _ _ (by first | exact H4.out | exact H4.out.drew | exact H4.out.drewN _)).mono ?_; rintro e w4 ⟨tv, rfl, hst⟩; have m0 : _ = some (pt X) := st_cell hst.third 0; have m1 : _ = some (Value.int .i64 (R.st : Int)) := st_cell hst.third 1; have m2 : _ = some (Value.int .i64 (R.ln : Int)) := st_cell hst.third 2; have m3 : _ = some (Value.int .u64 (s.num : Int)) := st_cell hst.fourth 5; have m4 := HY.out _ _ hst.fifth; have H5 := Lib.hid hst; clear hst)))
  obtain ⟨so, sc, rfl⟩ := st_shape H5.out
  have hL200 : ts.length ≤ 100 := by omega
  have l0 : (ts.length : Int) ≤ 100 := by omega
  have HLn := Lib.hid hL200
  clear HY y0 m0 m1 m2 m3 m4 c0 c1 c2 d3 H3 H4 CT1 CMO
  have q0 : _ = some (pt X) := st_cell H5.out.third 0
  have q1 : _ = some (Value.int .i64 (R.st : Int)) := st_cell H5.out.third 1
  have q2 : _ = some (Value.int .i64 (R.ln : Int)) := st_cell H5.out.third 2
  have q3 : _ = some (Value.int .i64 (s.used : Int)) := st_cell H5.out.fourth 4
  have HR : Hid (∀ W L, St w W L → Calls Tryd.prog 54 #[rgV X R] W fun e w' => e = .returned (.int .i64 (R.ring : Int)) ∧ St w w' L) := Lib.hid fun W L k => ring_st a k X
  by_cases h0 : ts = []
  · go_upto_region 5 with fail
    have hS0 : Hid (standM R D.safe p s.num s.used = []) := Lib.hid (by rw [HSM.out, if_pos (.inl h0)])
    have e0 : ts.length = 0 := by rw [h0]; rfl
    have e0i : (ts.length : Int) = 0 := by omega
    have d1 : ((ts.length : Int) == 0) = true := by rw [beq_iff_eq]; exact e0i
    clear e0i e0
    go_quiet (fail)
    go_wp2_with fail
    go_ret2
    refine ⟨.slice none 0 0, 1, by omega, rfl, ?_⟩
    rw [hS0.out]
    exact st_pushrow (by first | exact H5.out.drop.swap.drop.swap.drop.swap.drop | exact H5.out.drop.swap.drop.swap.drop.swap.drop.drew | exact (H5.out.drop.swap.drop.swap.drop.swap.drop.drewN _))
  · go_upto_region 5 with fail
    have d0 : decide ((ts.length : Int) = 0) = false := decide_eq_false (by intro h; exact h0 (List.eq_nil_of_length_eq_zero (by omega)))
    have d1 : ((ts.length : Int) == 0) = false := by rw [beq_eq_false_iff_ne]; intro h; exact h0 (List.eq_nil_of_length_eq_zero (by omega))
    have w1 : IntKind.i64.wrap ((ts.length : Int) + 2) = (ts.length : Int) + 2 := IntWalk.i64_in _ (by omega)
    have w2' : IntKind.i64.wrap ((R.ring : Int) - s.used) = (R.ring : Int) - s.used := IntWalk.i64_in _ (by omega)
    by_cases hg : R.ring - s.used < ts.length + 2
    · have hS0 : Hid (standM R D.safe p s.num s.used = []) := Lib.hid (by rw [HSM.out, if_pos (.inr hg)])
      have d2 : decide ((R.ring : Int) - s.used < (ts.length : Int) + 2) = true := decide_eq_true (by omega)
      go_region_held3 (fun w' => w'.cell? ⟨B1, 0, none⟩ = some (pt X) ∧ w'.cell? ⟨B1, 1, none⟩ = some (.int .i64 (R.st : Int)) ∧ w'.cell? ⟨B1, 2, none⟩ = some (.int .i64 (R.ln : Int)) ∧ w'.cell? ⟨B2, 4, none⟩ = some (.int .i64 (s.used : Int))) (go_keep) ((go_at_call 54; with_reducible refine (HR.out _ _ (by first | exact H5.out | exact H5.out.drew | exact H5.out.drewN _)).mono ?_; rintro e w5 ⟨rfl, hst⟩; have m0 : _ = some (pt X) := st_cell hst.third 0; have m1 : _ = some (Value.int .i64 (R.st : Int)) := st_cell hst.third 1; have m2 : _ = some (Value.int .i64 (R.ln : Int)) := st_cell hst.third 2; have m3 : _ = some (Value.int .i64 (s.used : Int)) := st_cell hst.fourth 4; have H6 := Lib.hid hst; clear hst))
      all_goals
        go_wp2_with fail
        go_ret2
        refine ⟨.slice none 0 0, 1, by omega, rfl, ?_⟩
        rw [hS0.out]
        exact st_pushrow (by first | exact H6.out.drop.swap.drop.swap.drop.swap.drop | exact H6.out.drop.swap.drop.swap.drop.swap.drop.drew | exact (H6.out.drop.swap.drop.swap.drop.swap.drop.drewN _))
    · have d2 : decide ((R.ring : Int) - s.used < (ts.length : Int) + 2) = false := decide_eq_false (by omega)
      have hgL : ts.length + 2 ≤ R.ring - s.used := by omega
      have HSM2 : Hid (standM R D.safe p s.num s.used = if NoBad ts (datasOf R D.safe p ts.length) ts.length ∧ MayW R (unL ts (datasOf R D.safe p ts.length)) ∧ Begins (pl R D.safe (p + 1 + ts.length)) s.num then unL ts (datasOf R D.safe p ts.length) else []) := Lib.hid (by rw [HSM.out, if_neg (by rintro (h | h); exact h0 h; exact hg h)])
      go_region_held3 (fun w' => w'.cell? ⟨B1, 0, none⟩ = some (pt X) ∧ w'.cell? ⟨B1, 1, none⟩ = some (.int .i64 (R.st : Int)) ∧ w'.cell? ⟨B1, 2, none⟩ = some (.int .i64 (R.ln : Int)) ∧ w'.cell? ⟨B2, 4, none⟩ = some (.int .i64 (s.used : Int))) (go_keep) ((go_at_call 54; with_reducible refine (HR.out _ _ (by first | exact H5.out | exact H5.out.drew | exact H5.out.drewN _)).mono ?_; rintro e w5 ⟨rfl, hst⟩; have m0 : _ = some (pt X) := st_cell hst.third 0; have m1 : _ = some (Value.int .i64 (R.st : Int)) := st_cell hst.third 1; have m2 : _ = some (Value.int .i64 (R.ln : Int)) := st_cell hst.third 2; have m3 : _ = some (Value.int .i64 (s.used : Int)) := st_cell hst.fourth 4; have H6 := Lib.hid hst; clear hst))
      all_goals
        have HRC : Hid (Begins (pl R D.safe (p + 1 + ts.length)) s.num → seg (pl R D.safe (p + 1 + ts.length)) 0 = seg (recB s.num (pl R D.safe p :: datasOf R D.safe p ts.length) R.z) 0) := Lib.hid (HREC.out h0 hgL)
        clear HREC
        clear q0 q1 q2 q3 H5 HSM d0 d1 d2 w2' h0 hg
        have HRD2 : Hid (∀ W Bs, St w W (pDev X (DevM.more D 1) :: Bs) → Calls Tryd.prog 75 #[rgV X R, stV s, .int .i64 ((ts.length : Int) + 2)] W fun e w' => ∃ v, e = .returned (.tuple #[v, .int .i64 0]) ∧ St w w' (aRow 9 1 v (ts.length + 2) (dev.strs (textsOf R D.safe p (ts.length + 2))) :: pDev X (DevM.more D (1 + (ts.length + 2))) :: Bs)) := Lib.hid fun W Bs k => by
          have := read_more a HU.out k ht (by omega) (ts.length + 2) ((ts.length : Int) + 2) (by omega) (by omega) (room_less' HRM.out (by omega))
          rwa [← hp] at this
        have q4 : _ = some (pt X) := st_cell H6.out.third 0
        have q5 : _ = some (Value.int .i64 (R.st : Int)) := st_cell H6.out.third 1
        have q6 : _ = some (Value.int .i64 (R.ln : Int)) := st_cell H6.out.third 2
        have r0 : _ = some (Value.int .u64 (s.h.own : Int)) := st_cell H6.out.fourth 0
        have r1 : _ = some (Value.int .i64 (s.h.tail : Int)) := st_cell H6.out.fourth 1
        have r2 : _ = some (Value.int .u64 (s.h.num : Int)) := st_cell H6.out.fourth 2
        have r3 : _ = some (Value.int .i64 (s.at' : Int)) := st_cell H6.out.fourth 3
        have r4 : _ = some (Value.int .i64 (s.used : Int)) := st_cell H6.out.fourth 4
        have r5 : _ = some (Value.int .u64 (s.num : Int)) := st_cell H6.out.fourth 5
        go_upto_region 10 with (go_at_call 75; refine (HRD2.out _ _ (by first | exact H6.out.swap | exact H6.out.swap.drew | exact (H6.out.swap.drewN _))).mono ?_; rintro e w6 ⟨v2, rfl, hst⟩; obtain ⟨g2, cp2, rfl, hcp2⟩ := st_form hst (by omega); have H7 := Lib.hid hst; clear hst H6)
        obtain ⟨K, hK⟩ : ∃ K, K = ts.length + 1 := ⟨_, rfl⟩
        have w3 : IntKind.i64.wrap (((ts.length + 2 : Nat) : Int) - 1) = (K : Int) := by rw [IntWalk.i64_in _ (by omega)]; omega
        have w4' : IntKind.i64.wrap ((ts.length : Int) + 2 - 1) = (K : Int) := by rw [IntWalk.i64_in _ (by omega)]; omega
        have hsl : ∀ W, (Instr.slice 43 (.slice (some ⟨g2, 0, none⟩) (ts.length + 2) cp2) (some (.int .i64 1)) (some (.int .i64 (K : Int))) none).run Tryd.prog W = .ok (.slice (some ⟨g2, 1, none⟩) ts.length (cp2 - 1)) W := fun W => by
          have := mid_slice g2 (ts.length + 2) (ts.length + 1) cp2 (by omega) (by omega) (K : Int) (by omega) W
          simpa using this
        have HUN : Hid (∀ W, St w W (aRow 9 1 (.slice (some ⟨g2, 0, none⟩) (ts.length + 2) cp2) (ts.length + 2) (dev.strs (textsOf R D.safe p (ts.length + 2))) :: pDev X (DevM.more D (1 + (ts.length + 2))) :: aTgts (.slice so ts.length sc) ts :: aVar B1 (rgCells X R) 63 :: aVar B2 (stCells s) 69 :: aRow 9 1 (.slice (some ⟨g1, 0, none⟩) 1 cp1) 1 [Value.string t0] :: As) → Calls Tryd.prog 77 #[.slice so ts.length sc, .slice (some ⟨g2, 1, none⟩) ts.length (cp2 - 1)] W fun e w' => (NoBad ts (datasOf R D.safe p ts.length) ts.length ∧ ∃ v, e = .returned (.tuple #[v, .bool true]) ∧ St w w' (aWrs v (unL ts (datasOf R D.safe p ts.length)) :: aRow 9 1 (.slice (some ⟨g2, 0, none⟩) (ts.length + 2) cp2) (ts.length + 2) (dev.strs (textsOf R D.safe p (ts.length + 2))) :: pDev X (DevM.more D (1 + (ts.length + 2))) :: aTgts (.slice so ts.length sc) ts :: aVar B1 (rgCells X R) 63 :: aVar B2 (stCells s) 69 :: aRow 9 1 (.slice (some ⟨g1, 0, none⟩) 1 cp1) 1 [Value.string t0] :: As)) ∨ (¬ NoBad ts (datasOf R D.safe p ts.length) ts.length ∧ e = .returned (.tuple #[.slice none 0 0, .bool false]) ∧ St w w' (aRow 9 1 (.slice (some ⟨g2, 0, none⟩) (ts.length + 2) cp2) (ts.length + 2) (dev.strs (textsOf R D.safe p (ts.length + 2))) :: pDev X (DevM.more D (1 + (ts.length + 2))) :: aTgts (.slice so ts.length sc) ts :: aVar B1 (rgCells X R) 63 :: aVar B2 (stCells s) 69 :: aRow 9 1 (.slice (some ⟨g1, 0, none⟩) 1 cp1) 1 [Value.string t0] :: As))) := Lib.hid fun W k => by
          have hdl : (datasOf R D.safe p ts.length).length = ts.length := by simp [datasOf]
          refine unescaped_st k ts (datasOf R D.safe p ts.length) _ _ (fun V Bs k2 => ?_) (fun V Bs k2 => ?_) hdl.symm (by omega) HTX.out (fun d hd => ?_)
          · exact u32_in (St.front (As := Bs ++ [_, _]) (by simpa using k2))
          · have hs2 := strs_in (St.front (As := Bs) k2)
            have el2 : (textsOf R D.safe p (ts.length + 2)).length = ts.length + 2 := by simp [textsOf]
            have := strs_part (ao := some ⟨g2, 0, none⟩) (cap := cp2) (g := g2) (by rw [el2]; exact hs2) 1 ts.length (by omega) (cp2 - 1)
            rwa [texts_mid] at this
          · obtain ⟨i, _, rfl⟩ := List.mem_map.1 hd
            rw [HSZ.out]
            omega
        have s0 : (0 : Int) ≤ K := by omega
        have HK := Lib.hid hK
        clear hK
        go_upto_region 11 with fail
        go_upto_region 12 with (go_at_call 77; with_reducible refine (HUN.out _ (by first | exact H7.out | exact H7.out.drew | exact H7.out.drewN _)).mono ?_; rintro e w7 (⟨hnb, v3, rfl, hst⟩ | ⟨hnb, rfl, hst⟩))
        · have HNB := Lib.hid hnb
          have hK := HK.out
          obtain ⟨l, hl⟩ : ∃ l, l = unL ts (datasOf R D.safe p ts.length) := ⟨_, rfl⟩
          obtain ⟨tl, htl2⟩ : ∃ tl, tl = pl R D.safe (p + 1 + ts.length) := ⟨_, rfl⟩
          have hdl : (datasOf R D.safe p ts.length).length = ts.length := by simp [datasOf]
          have hll : l.length = ts.length := by rw [hl]; exact unL_len hdl.symm
          have hlo : ∀ x ∈ l, x.1 ≤ 4294967296 ∧ x.2.size ≤ 4611686018427387904 := by
            rw [hl]
            exact unL_ok _ _ HTX.out fun d hd => by
              obtain ⟨i, _, rfl⟩ := List.mem_map.1 hd
              rw [HSZ.out]
              omega
          have htls : tl.size = R.z := by rw [htl2]; exact HSZ.out _
          have HSM3 : Hid (standM R D.safe p s.num s.used = if MayW R l ∧ Begins tl s.num then l else []) := Lib.hid (by
            rw [HSM2.out, ← hl, ← htl2]
            by_cases c : MayW R l ∧ Begins tl s.num
            · rw [if_pos ⟨hnb, c⟩, if_pos c]
            · rw [if_neg fun h => c h.2, if_neg c])
          have HRC2 := HRC.out
          rw [← htl2] at HRC2
          have HRC3 := Lib.hid HRC2
          rw [← hl] at hst
          have hst := hst.third
          have HTLC : Hid (∀ V Bs, St w V (aRow 9 1 (.slice (some ⟨g2, 0, none⟩) (ts.length + 2) cp2) (ts.length + 2) (dev.strs (textsOf R D.safe p (ts.length + 2))) :: Bs) → V.cell? ⟨g2, K, none⟩ = some (.string tl)) := Lib.hid fun V Bs k => by
            rw [st_at k rfl K (by omega), htl2, hK]
            simp only [dev.strs, List.getElem?_map, texts_last, Option.map_some]
          have H8 := Lib.hid hst
          obtain ⟨LP, hLP⟩ : ∃ LP, LP = pDev X (DevM.more D (1 + (ts.length + 2))) :: aWrs v3 l :: aRow 9 1 (.slice (some ⟨g2, 0, none⟩) (ts.length + 2) cp2) (ts.length + 2) (dev.strs (textsOf R D.safe p (ts.length + 2))) :: aTgts (.slice so ts.length sc) ts :: aVar B1 (rgCells X R) 63 :: aVar B2 (stCells s) 69 :: aRow 9 1 (.slice (some ⟨g1, 0, none⟩) 1 cp1) 1 [Value.string t0] :: As := ⟨_, rfl⟩
          have HLC : Hid (∀ V, St w V LP → V.cell? ⟨B1, 0, none⟩ = some (pt X) ∧ V.cell? ⟨B1, 1, none⟩ = some (.int .i64 (R.st : Int)) ∧ V.cell? ⟨B1, 2, none⟩ = some (.int .i64 (R.ln : Int)) ∧ V.cell? ⟨B2, 5, none⟩ = some (.int .u64 (s.num : Int)) ∧ V.cell? ⟨g2, K, none⟩ = some (.string tl)) := Lib.hid fun V k => by
            rw [hLP] at k
            exact ⟨st_cell (St.front (As := [_, _, _, _]) k) 0, st_cell (St.front (As := [_, _, _, _]) k) 1, st_cell (St.front (As := [_, _, _, _]) k) 2, st_cell (St.front (As := [_, _, _, _, _]) k) 5, HTLC.out _ _ k.third⟩
          have HFIN : Hid (∀ V, St w V LP → St w V (pDev X (DevM.more D (1 + (ts.length + 2))) :: aWrs v3 l :: As)) := Lib.hid fun V k => by
            rw [hLP] at k
            exact k.third.drop.third.drop.third.drop.third.drop.third.drop
          have hmw : ∀ W, St w W LP → Calls Tryd.prog 36 #[rgV X R, v3] W fun e w' => e = .returned (.bool (decide (MayW R l))) ∧ St w w' LP := fun W k => by
            rw [hLP] at k ⊢
            exact mayWrite_st a k HU.out.nb HU.out.ns l v3 (fun V Bs k2 => wrs_in (St.front (As := Bs ++ [_]) (by simpa using k2))) (by omega) hlo
          have hbg : ∀ W, St w W LP → Calls Tryd.prog 78 #[.string tl, .int .u64 (s.num : Int)] W fun e w' => e = .returned (.bool (decide (Begins tl s.num))) ∧ St w w' LP := fun W k => begins_st k tl s.num HN.out (by omega)
          have HSI : Hid (∀ W, St w W LP → Calls Tryd.prog 19 #[pt X] W fun e w' => e = .returned (.int .i64 (R.z : Int)) ∧ ∃ q, w' = W.drewN q) := Lib.hid fun W k => by
            rw [hLP] at k
            have := psize_any k
            rw [show (DevM.more D (1 + (ts.length + 2))).ns = R.ns from HU.out.ns] at this
            exact this
          have HRD : Hid (∀ W, St w W LP → Calls Tryd.prog 79 #[.int .u64 (s.num : Int), .slice (some ⟨g2, 0, none⟩) K cp2, .int .i64 (R.z : Int)] W fun e w' => e = .returned (.string (recB s.num (pl R D.safe p :: datasOf R D.safe p ts.length) R.z)) ∧ St w w' LP) := Lib.hid fun W k => by
            have k' := k
            rw [hLP] at k'
            have hs2 := strs_in k'.third
            have el2 : (textsOf R D.safe p (ts.length + 2)).length = ts.length + 2 := by simp [textsOf]
            have := strs_part (ao := some ⟨g2, 0, none⟩) (cap := cp2) (g := g2) (by rw [el2]; exact hs2) 0 K (by omega) cp2
            rw [List.drop_zero, hK, texts_fst, ← hK] at this
            refine (record_any W (HG.out.keep k.ch.below) s.num HN.out _ _ this (by rw [List.length_cons, hdl]; omega) (fun t ht => ?_) R.z (by omega) hz2).mono fun e w' q => ⟨q.1, k.same q.2⟩
            rcases List.mem_cons.1 ht with rfl | ht
            · rw [HSZ.out]; exact hz2
            · obtain ⟨i, _, rfl⟩ := List.mem_map.1 ht
              rw [HSZ.out]; exact hz2
          have H9 : Hid (St w w7 LP) := Lib.hid (by rw [hLP]; exact hst)
          obtain ⟨k0, k1, k2, k3, k4⟩ := HLC.out _ H9.out
          have hlen2 : 1 + (ts.length + 2) ≤ 200 := by omega
          have kb1 : (K : Int) < (ts.length : Int) + 2 := by omega
          have kb2 : (K : Int) ≤ 200 := by omega
          have hKc : K + 1 < 200 := by omega
          clear htl2 hK hst H8 HTLC hLP hl hll hlo HUN HRC HRC2 HSM2 H7 HRD2 hnb hdl hsl
          by_cases cm : MayW R l
          · have em : decide (MayW R l) = true := decide_eq_true cm
            rw [em] at hmw
            have HMW := Lib.hid hmw
            clear hmw em
            by_cases cb : Begins tl s.num
            · have eb : decide (Begins tl s.num) = true := decide_eq_true cb
              rw [eb] at hbg
              have HBG := Lib.hid hbg
              have HS9 : Hid (standM R D.safe p s.num s.used = l) := Lib.hid (by rw [HSM3.out, if_pos ⟨cm, cb⟩])
              obtain ⟨rb, hrb⟩ : ∃ rb, rb = recB s.num (pl R D.safe p :: datasOf R D.safe p ts.length) R.z := ⟨_, rfl⟩
              have hrs : rb.size = R.z := by rw [hrb]; exact recB_size _ _ (by omega)
              have hse := HRC3.out cb
              have hrd := HRD.out
              rw [← hrb] at hse hrd
              have HRD2 := Lib.hid hrd
              obtain ⟨x, hx⟩ : ∃ x, x = tl.extract 0 512 := ⟨_, rfl⟩
              have hx2 : rb.extract 0 512 = x := by rw [hx]; simpa [seg] using hse.symm
              have sl1 : ∀ W, (Instr.slice 9 (.string tl) none (some (.int .i64 512)) none).run Tryd.prog W = .ok (.string x) W := fun W => by
                rw [hx]
                exact run_slice_string_h (P := Tryd.prog) (w := W) 9 tl Tryd.underlying9 .i64 512 (by omega) (by omega)
              have sl2 : ∀ W, (Instr.slice 9 (.string rb) none (some (.int .i64 512)) none).run Tryd.prog W = .ok (.string x) W := fun W => by
                rw [← hx2]
                exact run_slice_string_h (P := Tryd.prog) (w := W) 9 rb Tryd.underlying9 .i64 512 (by omega) (by omega)
              have sl3 : ∀ W, (Instr.slice 43 (.slice (some ⟨g2, 0, none⟩) (ts.length + 2) cp2) none (some (.int .i64 (K : Int))) none).run Tryd.prog W = .ok (.slice (some ⟨g2, 0, none⟩) K cp2) W := fun W => fst_slice g2 (ts.length + 2) K cp2 (by have := HK.out; omega) (by have := HK.out; omega) (K : Int) rfl W
              clear hbg eb cb cm hx hx2 hrb hse hrd hrs HRD HRC3 HSM3 htls
              go_region_held3 (fun w' => w'.cell? ⟨B1, 0, none⟩ = some (pt X) ∧ w'.cell? ⟨B1, 1, none⟩ = some (.int .i64 (R.st : Int)) ∧ w'.cell? ⟨B1, 2, none⟩ = some (.int .i64 (R.ln : Int)) ∧ w'.cell? ⟨B2, 5, none⟩ = some (.int .u64 (s.num : Int)) ∧ w'.cell? ⟨g2, K, none⟩ = some (.string tl)) (go_keep) (first
                | ((go_at_call 36; with_reducible refine (HMW.out _ (by first | exact H9.out | exact H9.out.drew | exact H9.out.drewN _)).mono ?_; rintro e w8 ⟨rfl, hst⟩; obtain ⟨m0, m1, m2, m3, m4⟩ := HLC.out _ hst; have H10 := Lib.hid hst; clear hst))
                | ((go_at_call 78; with_reducible refine (HBG.out _ (by first | exact H10.out | exact H10.out.drew | exact H10.out.drewN _)).mono ?_; rintro e w9 ⟨rfl, hst⟩; obtain ⟨m0, m1, m2, m3, m4⟩ := HLC.out _ hst; have H11 := Lib.hid hst; clear hst)))
              go_upto_region 14 with fail
              go_region_held3 (fun w' => w'.cell? ⟨B1, 0, none⟩ = some (pt X) ∧ w'.cell? ⟨B2, 5, none⟩ = some (.int .u64 (s.num : Int)) ∧ w'.cell? ⟨g2, K, none⟩ = some (.string tl)) (go_keep) (first
                | ((go_at_call 19; with_reducible refine (HSI.out _ (by first | exact H12.out | exact H12.out.drew | exact H12.out.drewN _ | exact H11.out | exact H11.out.drew | exact H11.out.drewN _)).mono ?_; rintro e w8 ⟨rfl, q, rfl⟩))
                | ((go_at_call 79; with_reducible refine (HRD2.out _ (by first | exact H11.out | exact H11.out.drew | exact H11.out.drewN _)).mono ?_; rintro e w9 ⟨rfl, hst⟩; obtain ⟨m0, m1, m2, m3, m4⟩ := HLC.out _ hst; have H12 := Lib.hid hst; clear hst)))
              all_goals
                go_wp2_with fail
                go_ret2
                refine ⟨v3, _, hlen2, rfl, ?_⟩
                rw [HS9.out]
                first
                  | exact (HFIN.out _ H12.out).swap
                  | exact (HFIN.out _ (H12.out.drewN _)).swap
            · have eb : decide (Begins tl s.num) = false := decide_eq_false cb
              rw [eb] at hbg
              have HBG := Lib.hid hbg
              have HS9 : Hid (standM R D.safe p s.num s.used = []) := Lib.hid (by rw [HSM3.out, if_neg fun h => cb h.2])
              clear hbg eb cb cm
              go_region_held3 (fun w' => w'.cell? ⟨B1, 0, none⟩ = some (pt X) ∧ w'.cell? ⟨B1, 1, none⟩ = some (.int .i64 (R.st : Int)) ∧ w'.cell? ⟨B1, 2, none⟩ = some (.int .i64 (R.ln : Int)) ∧ w'.cell? ⟨B2, 5, none⟩ = some (.int .u64 (s.num : Int)) ∧ w'.cell? ⟨g2, K, none⟩ = some (.string tl)) (go_keep) (first
                | ((go_at_call 36; with_reducible refine (HMW.out _ (by first | exact H9.out | exact H9.out.drew | exact H9.out.drewN _)).mono ?_; rintro e w8 ⟨rfl, hst⟩; obtain ⟨m0, m1, m2, m3, m4⟩ := HLC.out _ hst; have H10 := Lib.hid hst; clear hst))
                | ((go_at_call 78; with_reducible refine (HBG.out _ (by first | exact H10.out | exact H10.out.drew | exact H10.out.drewN _)).mono ?_; rintro e w9 ⟨rfl, hst⟩; obtain ⟨m0, m1, m2, m3, m4⟩ := HLC.out _ hst; have H11 := Lib.hid hst; clear hst)))
              all_goals
                go_wp2_with fail
                go_ret2
                refine ⟨.slice none 0 0, _, hlen2, rfl, ?_⟩
                rw [HS9.out]
                exact st_pushrow (by first | exact (HFIN.out _ H11.out).swap.drop | exact (HFIN.out _ (H11.out.drewN _)).swap.drop)
          · have em : decide (MayW R l) = false := decide_eq_false cm
            rw [em] at hmw
            have HMW := Lib.hid hmw
            have HS9 : Hid (standM R D.safe p s.num s.used = []) := Lib.hid (by rw [HSM3.out, if_neg fun h => cm h.1])
            clear hmw em cm hbg
            haveI : Nonempty (Kept w LP) := ⟨⟨_, H9.out⟩⟩
            have v0 : ∀ V : Kept w LP, V.V.cell? ⟨B1, 0, none⟩ = some (pt X) := fun V => (HLC.out _ V.h).1
            have v1 : ∀ V : Kept w LP, V.V.cell? ⟨B1, 1, none⟩ = some (.int .i64 (R.st : Int)) := fun V => (HLC.out _ V.h).2.1
            have v2 : ∀ V : Kept w LP, V.V.cell? ⟨B1, 2, none⟩ = some (.int .i64 (R.ln : Int)) := fun V => (HLC.out _ V.h).2.2.1
            clear k0 k1 k2 k3 k4
            refine wp_region_kept H9.out (by kernel_rfl) (by kernel_rfl) ?_
            repeat (go_big_quiet_step ((go_at_call 36; exact kept_call _ (HMW.out _ (Kept.h _)))))
            refine wpQuiet_nil ?_
            rintro _ ⟨⟨w8, hst⟩, rfl⟩
            have H10 := Lib.hid hst
            clear hst
            all_goals
              go_wp2_with fail
              go_ret2
              refine ⟨.slice none 0 0, _, hlen2, rfl, ?_⟩
              rw [HS9.out]
              exact st_pushrow (by first | exact (HFIN.out _ H10.out).swap.drop | exact (HFIN.out _ (H10.out.drewN _)).swap.drop)
        · have HS9 : Hid (standM R D.safe p s.num s.used = []) := Lib.hid (by rw [HSM2.out, if_neg fun h => hnb h.1])
          have H8 := Lib.hid hst
          have hlen2 : 1 + (ts.length + 2) ≤ 200 := by omega
          clear hnb hst HSM2 HRC HUN HRD2 hsl
          go_quiet (fail)
          go_wp2_with fail
          go_ret2
          refine ⟨.slice none 0 0, _, hlen2, rfl, ?_⟩
          rw [HS9.out]
          exact st_pushrow (by first | exact H8.out.drop.swap.drop.swap.drop.swap.drop.swap.drop | exact (H8.out.drop.swap.drop.swap.drop.swap.drop.swap.drop.drewN _))
end
end Go.Proofs.YtjmjmekmaamclaaDoor.jrn
