/-
  Layer 5, the program: commit, walked.
-/
import Derived.Test.YtjmjmekmaamclaaDoorMG
import Derived.Test.YtjmjmekmaamclaaDoorHA
namespace Go.Proofs.YtjmjmekmaamclaaDoor.jrn
open Go.ChangeShapes Go.WideShapes Go.ChangeAt Go.RowKit Go.Shelf mem dev sums
set_option linter.unusedVariables false
attribute [local go_sem] Oper.semAt_some
section
variable {w wr : World} {As : List Ast} {R : Rg} {X : Nat} {D : DevM}
theorem ckJP_ok (a : R.Ok) {s : JSt} {l : List Wr} (ht : s.h.tail ≤ 4096) (hu : s.used ≤ R.ring) (hn : s.num < 18446744073709551616) : (ckJP R s l).h.tail ≤ 4096 ∧ (ckJP R s l).used ≤ R.ring ∧ (ckJP R s l).num = s.num := by
  unfold ckJP
  split
  · have := ring_big a
    have h2 := Nat.mod_lt (s.h.tail + s.used) (ring_pos a)
    exact ⟨by show (s.h.tail + s.used) % R.ring ≤ 4096; omega, Nat.zero_le _, rfl⟩
  · exact ⟨ht, hu, rfl⟩
theorem ringS_len (R : Rg) (p : Nat) (T : List ByteArray) (k : Nat) : (ringS R p T k).length ≤ T.length + 2 := by
  have pl : ∀ (ts : List ByteArray) (p : Nat), (placed R p ts).length = ts.length := fun ts => by
    induction ts with
    | nil => intro p; rfl
    | cons x ts ih => intro p; show (placed R (p + 1) ts).length + 1 = ts.length + 1; rw [ih]
  unfold ringS
  rw [List.length_append, wrs_len, pl, List.length_take]
  split <;> simp <;> omega
theorem steps_shape {W : World} {u : Value} {td : List Stp} {L : List Ast} (h : St w W (aSteps X R u td :: L)) : ∃ ao cap, u = .slice ao td.length cap := by
  obtain ⟨fvs, ha, h5⟩ := steps_open h
  exact st_shape h5
abbrev comL (R : Rg) (D : DevM) (X B3 B4 B7 : Nat) (s1 : JSt) (As : List Ast) : List Ast := aVar B4 (stCells s1) 69 :: aVar B3 (rgCells X R) 63 :: aVar B7 zSt 69 :: pDev X D :: As
set_option maxHeartbeats 4000000 in
set_option maxRecDepth 8000 in
theorem commit_st (a : R.Ok) (g : Halves w) (h : St w wr (pDev X D :: As)) (hnb : D.nb = R.nb) (hns : D.ns = R.ns) (s : JSt) (l : List Wr) (v : Value) (hv : ∀ W Bs, St w W (Bs ++ pDev X D :: As) → WrsIn W v l) (hl : ValidW R l)
    (ho : s.h.own + 1 < 18446744073709551616) (ht : s.h.tail ≤ 4096) (hu : s.used ≤ R.ring) (hn : s.num + 1 < 18446744073709551616) (hat : s.at' ≤ 1) :
    Calls Tryd.prog 39 #[rgV X R, stV s, v] wr fun e w' => ∃ u, e = .returned (.tuple #[u, stV (commitJ R s l)]) ∧ St w w' (aSteps X R u (commitS R s l) :: pDev X D :: As) := by
  obtain ⟨ao, cap, rfl, _⟩ := hv wr [] h
  have hrb := ring_big a
  have hlen := hl.few
  have hln := a.few
  have h1 := st_new (st_new (st_new (st_new h (rgCells X R) 63) (stCells s) 69) zSt 69) [.slice none 0 0] 77
  simp only [World.size_alloc] at h1
  have HX : Hid (St w _ (aVar (wr.heap.size + 1 + 1 + 1) [.slice none 0 0] 77 :: aSteps X R (.slice none 0 0) [] :: aVar (wr.heap.size + 1) (stCells s) 69 :: aVar wr.heap.size (rgCells X R) 63 :: aVar (wr.heap.size + 1 + 1) zSt 69 :: pDev X D :: As)) := Lib.hid
    (St.re (L := [_, _, _, _, _, _]) [1, 0, 3, 4, 2, 5] [] (steps_nil (X := X) (R := R) h1))
  have HV := Lib.hid hv
  have HA := Lib.hid a
  have HG := Lib.hid g
  have HVL := Lib.hid hl
  have HNS := Lib.hid hns
  have HO := Lib.hid ho
  have HT := Lib.hid ht
  have HU := Lib.hid hu
  have HN := Lib.hid hn
  have HAT := Lib.hid hat
  have HJ := Lib.hid (ckJP_ok (l := l) a ht hu (show s.num < 18446744073709551616 by omega))
  have l0 : (l.length : Int) ≤ 100 := by omega
  have u0 : (s.used : Int) ≤ 4096 := by omega
  have r0 : (R.ring : Int) ≤ 4096 := by omega
  have e1 : IntKind.i64.wrap ((R.ring : Int) - s.used) = (R.ring : Int) - s.used := IntWalk.i64_in _ (by omega)
  have e2 : IntKind.i64.wrap ((l.length : Int) + 2) = (l.length : Int) + 2 := IntWalk.i64_in _ (by omega)
  have hcd : decide ((R.ring : Int) - s.used < (l.length : Int) + 2) = decide (R.ring - s.used < l.length + 2) := by
    rw [decide_eq_decide]; omega
  have HCD := Lib.hid hcd
  have HLEN := Lib.hid hlen
  have HLN := Lib.hid hln
  have HRB := Lib.hid hrb
  clear h h1 hv a g hl hns ho ht hu hn hat hrb hlen hln hcd hnb
  refine callsIn_wide.1 (callsIn_of_wp_marks (n := 3) Tryd.func39 rfl trivial (wpIn_wide.2 ?_))
  simp only [Tryd.ntmps39, List.size_toArray, List.length_cons, List.length_nil, Nat.reduceAdd, Nat.reduceSub, Array.replicate_succ, Array.replicate_zero, List.push_toArray, List.append_toArray, List.nil_append, List.cons_append]
  go_upto_region 2 with fail
  generalize wr.heap.size + 1 + 1 + 1 = B8 at HX ⊢
  generalize wr.heap.size + 1 + 1 = B7 at HX ⊢
  generalize wr.heap.size + 1 = B4 at HX ⊢
  generalize wr.heap.size = B3 at HX ⊢
  generalize (((wr.alloc _).alloc _).alloc _).alloc _ = w1 at HX ⊢
  obtain ⟨LP, hLP⟩ : ∃ LP, LP = aVar B8 [.slice none 0 0] 77 :: aSteps X R (.slice none 0 0) [] :: aVar B4 (stCells s) 69 :: aVar B3 (rgCells X R) 63 :: aVar B7 zSt 69 :: pDev X D :: As := ⟨_, rfl⟩
  rw [← hLP] at HX
  have HLP := Lib.hid hLP
  haveI : Nonempty (Kept w LP) := ⟨⟨_, HX.out⟩⟩
  have hk : ∀ V, St w V LP → V.cell? ⟨B3, 0, none⟩ = some (pt X) ∧ V.cell? ⟨B3, 1, none⟩ = some (.int .i64 (R.st : Int)) ∧ V.cell? ⟨B3, 2, none⟩ = some (.int .i64 (R.ln : Int)) ∧ V.cell? ⟨B4, 4, none⟩ = some (.int .i64 (s.used : Int)) := fun V k => by
    rw [hLP] at k
    exact ⟨st_cell k.fourth 0, st_cell k.fourth 1, st_cell k.fourth 2, st_cell k.third 4⟩
  have v0 : ∀ V : Kept w LP, V.V.cell? ⟨B3, 0, none⟩ = some (pt X) := fun V => (hk _ V.h).1
  have v1 : ∀ V : Kept w LP, V.V.cell? ⟨B3, 1, none⟩ = some (.int .i64 (R.st : Int)) := fun V => (hk _ V.h).2.1
  have v2 : ∀ V : Kept w LP, V.V.cell? ⟨B3, 2, none⟩ = some (.int .i64 (R.ln : Int)) := fun V => (hk _ V.h).2.2.1
  have v4 : ∀ V : Kept w LP, V.V.cell? ⟨B4, 4, none⟩ = some (.int .i64 (s.used : Int)) := fun V => (hk _ V.h).2.2.2
  clear hLP hk
  refine wp_region_kept HX.out (by kernel_rfl) (by kernel_rfl) ?_
  repeat (go_big_quiet_step ((go_at_call 54; exact kept_call _ (ring_st HA.out (Kept.h _) X))))
  refine wpQuiet_nil ?_
  rintro w2 ⟨⟨_, hst⟩, rfl⟩
  have hst : St w w2 LP := hst
  have H2 := Lib.hid hst
  clear hst v0 v1 v2 v4 HX
  go_upto_if 20 with fail
  rw [HCD.out]
  have HP : Hid (ckP R s l = if R.ring - s.used < l.length + 2 then ckS R s else []) := Lib.hid rfl
  have HJP : Hid (ckJP R s l = if R.ring - s.used < l.length + 2 then ckJ R s else s) := Lib.hid rfl
  go_cut [] from 12 to 26 (fun W => ∃ u, St w W (aVar B8 [u] 77 :: aSteps X R u (ckP R s l) :: comL R D X B3 B4 B7 (ckJP R s l) As))
  case first =>
    have h2 := H2.out
    rw [HLP.out] at h2
    by_cases c : R.ring - s.used < l.length + 2
    · rw [decide_eq_true c]
      have HP2 : Hid (ckP R s l = ckS R s) := Lib.hid (by rw [HP.out, if_pos c])
      have HJ2 : Hid (ckJP R s l = ckJ R s) := Lib.hid (by rw [HJP.out, if_pos c])
      have HCK := Lib.hid (checkpoint_st HA.out HG.out (St.re (L := [_, _, _, _, _, _]) [5, 0, 1, 2, 3, 4] [] h2) HNS.out s HO.out HT.out (by have := HU.out; have := HRB.out; omega) (by have := HN.out; omega) HAT.out)
      have c0 : _ = some (pt X) := st_cell h2.fourth 0
      have c1 : _ = some (Value.int .i64 (R.st : Int)) := st_cell h2.fourth 1
      have c2 : _ = some (Value.int .i64 (R.ln : Int)) := st_cell h2.fourth 2
      have s0 : _ = some (Value.int .u64 (s.h.own : Int)) := st_cell h2.third 0
      have s1 : _ = some (Value.int .i64 (s.h.tail : Int)) := st_cell h2.third 1
      have s2 : _ = some (Value.int .u64 (s.h.num : Int)) := st_cell h2.third 2
      have s3 : _ = some (Value.int .i64 (s.at' : Int)) := st_cell h2.third 3
      have s4 : _ = some (Value.int .i64 (s.used : Int)) := st_cell h2.third 4
      have s5 : _ = some (Value.int .u64 (s.num : Int)) := st_cell h2.third 5
      have hcall : Calls Tryd.prog 40 #[rgV X R, .agg #[.int .u64 (s.h.own : Int), .int .i64 (s.h.tail : Int), .int .u64 (s.h.num : Int), .int .i64 (s.at' : Int), .int .i64 (s.used : Int), .int .u64 (s.num : Int)]] _ fun e w' => ∃ v, e = .returned (.tuple #[v, stV (ckJ R s)]) ∧ St w w' (aSteps X R v (ckS R s) :: pDev X D :: aVar B8 [.slice none 0 0] 77 :: aSteps X R (.slice none 0 0) [] :: aVar B4 (stCells s) 69 :: aVar B3 (rgCells X R) 63 :: aVar B7 zSt 69 :: As) := HCK.out
      have HCALL := Lib.hid hcall
      clear h2 hcall HCK H2 HP HJP c
      generalize ckJ R s = cj at HCALL HJ2
      generalize ckS R s = cs at HCALL HP2
      go_wp2_with (first
        | ((go_at_call 40; refine HCALL.out.mono ?_; rintro e w3 ⟨u, rfl, hst⟩; obtain ⟨so, sc, rfl⟩ := steps_shape hst; have b0 : _ = some (Value.slice none 0 0) := st_cell hst.third 0; have bf := st_free hst.third 0; have h4 := st_set hst.third 0 (.slice so cs.length sc); have HB4 := Lib.hid (st_blk (St.re (L := [_, _, _, _, _, _, _]) [4, 0, 1, 2, 3, 5, 6] [] h4)); have H4 := Lib.hid (St.re (L := [_, _, _, _, _, _, _]) [4, 0, 1, 2, 3, 5, 6] [] h4); clear hst h4))
        | ((refine wpList_store_row rfl 69 _ _ rfl B4 (stCells cj).toArray rfl rfl 69 _ HB4.out sizeSt rfl (by simp [Value.oneCell']) ?_)))
      go_meet
      rw [HP2.out, HJ2.out]
      exact ⟨_, St.re (L := [_, _, _, _, _, _, _]) [1, 2, 0, 5, 6, 3] [4] (st_setrow (cs := (stCells cj).toArray) H4.out)⟩
    · rw [decide_eq_false c]
      have HP2 : Hid (ckP R s l = []) := Lib.hid (by rw [HP.out, if_neg c])
      have HJ2 : Hid (ckJP R s l = s) := Lib.hid (by rw [HJP.out, if_neg c])
      clear c H2
      have H3 := Lib.hid h2
      clear h2
      go_wp2_with fail
      go_meet
      rw [HP2.out, HJ2.out]
      exact ⟨_, H3.out⟩
  case rest =>
    obtain ⟨u, hst⟩ := hcut
    clear HCD e1 e2 u0 r0 HLP HP HJP H2 HO HT HU HAT
    have HS1 : Hid ((ckJP R s l).h.tail ≤ 4096 ∧ (ckJP R s l).used ≤ R.ring ∧ (ckJP R s l).num + 1 < 18446744073709551616) := Lib.hid ⟨HJ.out.1, HJ.out.2.1, by rw [HJ.out.2.2]; exact HN.out⟩
    have HCP := Lib.hid (commitS_p R s l)
    have HCJ := Lib.hid (commitJ_p R s l)
    clear HJ HN
    generalize ckJP R s l = s1 at HS1 HCP HCJ hst
    have HTDL : Hid ((ckP R s l).length ≤ 3) := Lib.hid (by unfold ckP; split <;> simp [ckS])
    generalize ckP R s l = td at HCP hst HTDL
    have H4 := Lib.hid hst
    clear hst
    have HTL := Lib.hid (texts_len s1.num l R.z)
    have hz := z_big HA.out
    have hz2 : R.z ≤ 4096 := by have := HA.out.ns1; unfold Rg.z; omega
    have HTX : Hid (∀ W Bs, St w W (Bs ++ aVar B8 [u] 77 :: aSteps X R u td :: comL R D X B3 B4 B7 s1 As) → Calls Tryd.prog 62 #[.int .u64 (s1.num : Int), .slice ao l.length cap, .int .i64 (R.z : Int)] W fun e w' => ∃ u2, e = .returned u2 ∧ St w w' (aTexts u2 (texts s1.num l R.z) :: (Bs ++ aVar B8 [u] 77 :: aSteps X R u td :: comL R D X B3 B4 B7 s1 As))) := Lib.hid fun W Bs k =>
      transaction_st HG.out k s1.num (by have := HS1.out.2.2; omega) l _ (fun V Cs k2 => HV.out V (Cs ++ (Bs ++ [_, _, _, _, _])) (by simpa using k2)) (by have := HLEN.out; have := HLN.out; omega) (fun x hx => by
        have h1 := HVL.out.each x hx
        have h2 := HA.out.nb
        exact ⟨by omega, by rw [h1.2.2]; omega, by rw [h1.2.2]; exact hz2⟩) R.z (by have := HLEN.out; have := HLN.out; omega) hz2
    have HSI : Hid (∀ W L, St w W (pDev X D :: L) → Calls Tryd.prog 19 #[pt X] W fun e w' => e = .returned (.int .i64 (R.z : Int)) ∧ ∃ q, w' = W.drewN q) := Lib.hid fun W L k => by
      have := psize_any k
      rw [HNS.out] at this
      exact this
    have HT0 : Hid (∀ W, St w W (aVar B8 [u] 77 :: aSteps X R u td :: comL R D X B3 B4 B7 s1 As) → Calls Tryd.prog 62 #[.int .u64 (s1.num : Int), .slice ao l.length cap, .int .i64 (R.z : Int)] W fun e w' => ∃ u2, e = .returned u2 ∧ St w w' (aTexts u2 (texts s1.num l R.z) :: aVar B8 [u] 77 :: aSteps X R u td :: comL R D X B3 B4 B7 s1 As)) := Lib.hid fun W k => HTX.out W [] k
    have HT1 : Hid (∀ W B, St w W (aVar B [.slice none 0 0] 43 :: aVar B8 [u] 77 :: aSteps X R u td :: comL R D X B3 B4 B7 s1 As) → Calls Tryd.prog 62 #[.int .u64 (s1.num : Int), .slice ao l.length cap, .int .i64 (R.z : Int)] W fun e w' => ∃ u2, e = .returned u2 ∧ St w w' (aTexts u2 (texts s1.num l R.z) :: aVar B [.slice none 0 0] 43 :: aVar B8 [u] 77 :: aSteps X R u td :: comL R D X B3 B4 B7 s1 As)) := Lib.hid fun W B k => HTX.out W [_] k
    clear hz hz2 HTX
    go_upto_region 4 with fail
    go_cut [9] from 9 to 33 (fun x W => ∃ B u2, x = pt B ∧ St w W (aVar B [u2] 43 :: aTexts u2 (texts s1.num l R.z) :: aVar B8 [u] 77 :: aSteps X R u td :: comL R D X B3 B4 B7 s1 As))
    case first =>
      have c0 : _ = some (pt X) := st_cell H4.out.fourth 0
      have n5 : _ = some (Value.int .u64 (s1.num : Int)) := st_cell H4.out.third 5
      have ne0 := World.new_ne wc _ c0
      have ne1 := World.new_ne wc _ n5
      have HDV : Hid (∀ W, St w W (aVar B8 [u] 77 :: aSteps X R u td :: comL R D X B3 B4 B7 s1 As) → St w W (pDev X D :: aVar B8 [u] 77 :: aSteps X R u td :: aVar B4 (stCells s1) 69 :: aVar B3 (rgCells X R) 63 :: aVar B7 zSt 69 :: As)) := Lib.hid fun W k => St.re (L := [_, _, _, _, _, _]) [5, 0, 1, 2, 3, 4] [] k
      have HNW : Hid (∀ q, St w ((wc.drewN q).alloc (.cells #[.slice none 0 0] 43)) (aVar wc.heap.size [.slice none 0 0] 43 :: aVar B8 [u] 77 :: aSteps X R u td :: comL R D X B3 B4 B7 s1 As)) := Lib.hid fun q => st_new (H4.out.drewN q) [.slice none 0 0] 43
      go_region_held3 (fun w' => w'.cell? ⟨B3, 0, none⟩ = some (pt X) ∧ w'.cell? ⟨B4, 5, none⟩ = some (.int .u64 (s1.num : Int))) (go_keep) (first
        | ((go_at_call 19; refine (HSI.out _ _ (HDV.out _ (by first | exact H4.out | exact H4.out.drew | exact H4.out.drewN _ | exact H4.out.drew.alloc _ | exact H4.out.alloc _ | exact (H4.out.drewN _).alloc _ | exact (H4.out.alloc _).drew | exact (H4.out.alloc _).drewN _ | exact (H4.out.drew.alloc _).drewN _))).mono ?_; rintro e w3 ⟨rfl, q, rfl⟩))
        | ((go_at_call 62; first
            | (with_reducible refine (HT0.out _ (by first | exact H4.out | exact H4.out.drew | exact H4.out.drewN _ | exact (H4.out.drew).drewN _)).mono ?_; rintro e w4 ⟨u2, rfl, hst⟩; have m0 : _ = some (pt X) := st_cell hst.fifth 0; have m5 : _ = some (Value.int .u64 (s1.num : Int)) := st_cell hst.fourth 5; obtain ⟨so, sc, rfl⟩ := st_shape hst; have H5 := Lib.hid hst; clear hst)
            | (with_reducible refine (HT1.out _ wc.heap.size (by first | exact HNW.out _ | exact (HNW.out _).drew | exact (HNW.out _).drewN _ | exact st_new H4.out _ _ | exact st_new H4.out.drew _ _ | exact st_new (H4.out.drewN _) _ _ | exact (st_new H4.out _ _).drew | exact (st_new H4.out _ _).drewN _ | exact (st_new H4.out.drew _ _).drew | exact (st_new H4.out.drew _ _).drewN _ | exact (st_new (H4.out.drewN _) _ _).drewN _ | exact (st_new (H4.out.drewN _) _ _).drew)).mono ?_; rintro e w4 ⟨u2, rfl, hst⟩; have m0 : _ = some (pt X) := st_cell (St.drop hst).fifth 0; have m5 : _ = some (Value.int .u64 (s1.num : Int)) := st_cell (St.drop hst).fourth 5; obtain ⟨so, sc, rfl⟩ := st_shape hst; have z0 : _ = some (Value.slice none 0 0) := st_cell hst.swap 0; have zf := st_free hst.swap 0; have H5A := Lib.hid hst; clear hst))))
      all_goals
        go_wp2_with fail
        go_meet
        first
          | exact ⟨_, _, rfl, st_new H5.out [_] 43⟩
          | exact ⟨_, _, rfl, st_set (St.swap H5A.out) 0 _⟩
    case rest =>
      obtain ⟨B9, u2, rfl, hst⟩ := hcut
      clear HT0 HT1 HSI H4
      obtain ⟨T, hT⟩ : ∃ T, T = texts s1.num l R.z := ⟨_, rfl⟩
      rw [← hT] at hst HTL
      have HTT := Lib.hid hT
      have hN : T.length ≤ 1024 := by rw [HTL.out]; have := HLEN.out; have := HLN.out; omega
      obtain ⟨N, hNN⟩ : ∃ N, N = T.length := ⟨_, rfl⟩
      have hst : St w wc (aVar B9 [u2] 43 :: aRow 9 1 u2 N (dev.strs T) :: aVar B8 [u] 77 :: aSteps X R u td :: aVar B4 (stCells s1) 69 :: aVar B3 (rgCells X R) 63 :: aVar B7 zSt 69 :: pDev X D :: As) := by rw [hNN]; exact hst
      rw [← hNN] at HTL hN
      have HNN := Lib.hid hNN
      obtain ⟨g2, cap2, rfl, _⟩ := st_form hst.swap (by rw [HTL.out]; omega)
      have c9 : _ = some (Value.slice (some ⟨g2, 0, none⟩) N cap2) := st_cell hst 0
      have c0 : _ = some (pt X) := st_cell (St.drop hst).fifth 0
      have c1 : _ = some (Value.int .i64 (R.st : Int)) := st_cell (St.drop hst).fifth 1
      have c2 : _ = some (Value.int .i64 (R.ln : Int)) := st_cell (St.drop hst).fifth 2
      have s0 : _ = some (Value.int .u64 (s1.h.own : Int)) := st_cell hst.fifth 0
      have s1' : _ = some (Value.int .i64 (s1.h.tail : Int)) := st_cell hst.fifth 1
      have s2 : _ = some (Value.int .u64 (s1.h.num : Int)) := st_cell hst.fifth 2
      have s3 : _ = some (Value.int .i64 (s1.at' : Int)) := st_cell hst.fifth 3
      have s4 : _ = some (Value.int .i64 (s1.used : Int)) := st_cell hst.fifth 4
      have s5 : _ = some (Value.int .u64 (s1.num : Int)) := st_cell hst.fifth 5
      have H6 := Lib.hid hst
      clear hst hT hNN
      go_wp2_with (go_at_call 63; refine (places_st (s := s1) H6.out N).mono ?_; rintro e w5 ⟨i1, i2, i3, rfl, hst⟩; have H7 := Lib.hid hst; clear hst)
      clear c9 c0 c1 c2 s0 s1' s2 s3 s4 s5 H6
      obtain ⟨p, hp⟩ : ∃ p, p = s1.h.tail + s1.used := ⟨_, rfl⟩
      refine range_places (w := w) (R := R) (X := X) (s := s1) (n := N) (i1 := i1) (i2 := i2) (i3 := i3) (L := fun k => aEx (fun u : Value => aMany [aVar B8 [u] 77, aSteps X R u (td ++ ringS R p T k)]) :: aVar B9 [.slice (some ⟨g2, 0, none⟩) N cap2] 43 :: aRow 9 1 (.slice (some ⟨g2, 0, none⟩) N cap2) N (dev.strs T) :: comL R D X B3 B4 B7 s1 As) (Lx := [aAnd False (aMany [])]) HA.out HS1.out.1 (by have := HS1.out.2.1; have := HRB.out; omega) hN rfl ?start ?a1 ?assign ?body ?done ?stop
      case start =>
        have e : ringS R p T 0 = [] := ringS_zero R p T (by have := HNN.out; have := HTL.out; omega)
        have k1 := St.re (L := [_, _, _, _, _, _, _]) [5, 6, 0, 1, 2, 3, 4] [] H7.out
        have k2 : St w w5 (aMany [aVar B8 [u] 77, aSteps X R u (td ++ ringS R p T 0)] :: (itObj i1 i2 i3 X R s1 N ++ (aVar B9 [.slice (some ⟨g2, 0, none⟩) N cap2] 43 :: aRow 9 1 (.slice (some ⟨g2, 0, none⟩) N cap2) N (dev.strs T) :: comL R D X B3 B4 B7 s1 As))) := by
          rw [e, List.append_nil]
          exact St.gather (As := [_, _]) k1
        exact St.re (L := [_, _, _, _, _, _]) [1, 2, 3, 0, 4, 5] [] (k2.shut (f := fun u : Value => aMany [aVar B8 [u] 77, aSteps X R u (td ++ ringS R p T 0)]) u)
      case assign =>
        intro l' k W K hk hK
        gi_wp2
        exact hK
      case body =>
        intro l' k W T' hk hst
        obtain ⟨u3, hst⟩ := St.open' hst
        have hst : St w W (aVar B8 [u3] 77 :: aSteps X R u3 (td ++ ringS R p T k) :: aVar B9 [.slice (some ⟨g2, 0, none⟩) N cap2] 43 :: aRow 9 1 (.slice (some ⟨g2, 0, none⟩) N cap2) N (dev.strs T) :: (comL R D X B3 B4 B7 s1 As ++ T')) := St.append hst
        obtain ⟨so, sc, rfl⟩ := steps_shape hst.swap
        have hkT : k < T.length := by have := HNN.out; omega
        have c9 : _ = some (Value.slice (some ⟨g2, 0, none⟩) N cap2) := st_cell hst.third 0
        have b8 : _ = some (Value.slice so (td ++ ringS R p T k).length sc) := st_cell hst 0
        have f8 := st_free hst 0
        have hst5 : St w W (aVar B3 (rgCells X R) 63 :: _) := St.re (L := [_, _, _, _, _, _]) [5, 0, 1, 2, 3, 4] [] hst
        have c0 : _ = some (pt X) := st_cell hst5 0
        have c1 : _ = some (Value.int .i64 (R.st : Int)) := st_cell hst5 1
        have c2 : _ = some (Value.int .i64 (R.ln : Int)) := st_cell hst5 2
        have x0 := (st_at hst.fourth rfl k (by omega)).trans (strs_at T k hkT)
        have e3 : IntKind.i64.wrap ((N : Int) - 1) = (N : Int) - 1 := IntWalk.i64_in _ (by omega)
        have k0 : (k : Int) < N := by omega
        obtain ⟨t, ht⟩ : ∃ t, t = T.getD k empty := ⟨_, rfl⟩
        rw [← ht] at x0
        have HTK : Hid (∀ h : k < T.length, T[k] = t) := Lib.hid (fun h => by rw [ht, List.getD_eq_getElem?_getD, List.getElem?_eq_getElem h]; rfl)
        have HKT := Lib.hid hkT
        have HPP := Lib.hid hp
        have HSK : Hid (∀ (V : World) (A1 A2 A3 : Ast), St w V (A1 :: A2 :: A3 :: aVar B9 [.slice (some ⟨g2, 0, none⟩) N cap2] 43 :: aRow 9 1 (.slice (some ⟨g2, 0, none⟩) N cap2) N (dev.strs T) :: (comL R D X B3 B4 B7 s1 As ++ T')) → (V.cell? ⟨B3, 0, none⟩ = some (pt X) ∧ V.cell? ⟨B3, 1, none⟩ = some (.int .i64 (R.st : Int)) ∧ V.cell? ⟨B3, 2, none⟩ = some (.int .i64 (R.ln : Int)) ∧ V.cell? ⟨B9, 0, none⟩ = some (.slice (some ⟨g2, 0, none⟩) N cap2) ∧ V.cell? ⟨g2, k, none⟩ = some (.string t))) := Lib.hid fun V A1 A2 A3 h => by
          have h5 : St w V (aVar B3 (rgCells X R) 63 :: _) := St.re (L := [_, _, _, _, _, _, _]) [6, 0, 1, 2, 3, 4, 5] [] h
          refine ⟨st_cell h5 0, st_cell h5 1, st_cell h5 2, st_cell h.fourth 0, ?_⟩
          rw [ht]
          exact (st_at h.fifth rfl k (by omega)).trans (strs_at T k (by have := HNN.out; omega))
        have H8 := Lib.hid hst
        have HML : Hid ((td ++ ringS R p T k).length ≤ 1200) := Lib.hid (by
          rw [List.length_append]
          have h1 := HTDL.out
          have h2 := ringS_len R p T k
          have h3 := HNN.out
          omega)
        clear hst hst5 hkT ht hp
        have HFIN : Hid (∀ (V : World) (fvs : List Value) (m : List Stp) (y : Value) (v' : Value) (q : Stp) (n : Nat), (fvs.length = m.length ∧ ∀ u ∈ fvs, u.oneCell' = true) → n = m.length + 1 → m ++ [q] = td ++ ringS R p T (k + 1) → St w V (aVar B8 [v'] 77 :: aRow tFn 1 v' n (fvs ++ [y]) :: aStp X R y q :: aMany (List.zipWith (aStp X R) fvs m) :: aVar B9 [.slice (some ⟨g2, 0, none⟩) N cap2] 43 :: aRow 9 1 (.slice (some ⟨g2, 0, none⟩) N cap2) N (dev.strs T) :: (comL R D X B3 B4 B7 s1 As ++ T')) →
            St w V ((aEx (fun u : Value => aMany [aVar B8 [u] 77, aSteps X R u (td ++ ringS R p T (k + 1))]) :: aVar B9 [.slice (some ⟨g2, 0, none⟩) N cap2] 43 :: aRow 9 1 (.slice (some ⟨g2, 0, none⟩) N cap2) N (dev.strs T) :: comL R D X B3 B4 B7 s1 As) ++ T')) := Lib.hid fun V fvs m y v' q n ha hn he h => by
          have h1 := steps_one ha hn (St.re (L := [_, _, _, _]) [1, 2, 3, 0] [] h)
          rw [he] at h1
          exact (St.gather (As := [_, _]) h1.swap).shut (f := fun u : Value => aMany [aVar B8 [u] 77, aSteps X R u (td ++ ringS R p T (k + 1))]) v'
        by_cases hlast : k + 1 = N
        · have e4 : ((k : Int) == (N : Int) - 1) = true := by rw [beq_iff_eq]; omega
          have HE9 : Hid (((td ++ ringS R p T k) ++ [.fl]) ++ [.wr (R.place (s1.h.tail + s1.used + k)) t] = td ++ ringS R p T (k + 1)) := Lib.hid (by
            rw [ringS_last R p T k (by have := HNN.out; omega), HTK.out, HPP.out]
            simp)
          clear hlast
          generalize td ++ ringS R p T k = m0 at H8 HML HE9 b8
          obtain ⟨fvs, ha9, hst9⟩ := steps_open H8.out.swap
          have HA0 := Lib.hid ha9
          have H9 := Lib.hid hst9
          clear ha9 hst9
          gi_step
          gi_step
          gi_step
          gi_step
          refine wpIn_region_plain (id := 8) (by kernel_rfl) (fun ⟨_, _, h⟩ => h) ?_
          go_wp2_with fail
          gi_step
          refine wpIn_region_plain (id := 9) (by kernel_rfl) (fun ⟨_, _, h⟩ => h) ?_
          go_wp2_with ((refine lst_append rowStp (H9.out.alloc (.cells #[.func (Fn.func 27) #[pt X] #[]] tFn)) rfl _ _ rfl rfl ⟨W.heap.size, 0, none⟩ 1 1 [.func (Fn.func 27) #[pt X] #[]] rfl rfl (home_lit W 0 _ _) (by intro u hu; rw [List.mem_singleton.1 hu]; rfl) (by decide) (by have := HML.out; unfold maxLen; omega) (by have := HML.out; omega) ?_; intro g5 cap5 w7 hst _; have b8b : _ = some (Value.slice so m0.length sc) := st_cell hst.third 0; have f8b := st_free hst.third 0; have h8 := st_set hst.third 0 (.slice (some ⟨g5, 0, none⟩) (m0.length + 1) cap5); have H7 := Lib.hid h8; clear hst h8))
          have h7 := H7.out
          obtain ⟨W9, hW9⟩ : ∃ W9, W9 = w7.setCell ⟨B8, 0, none⟩ (.slice (some ⟨g5, 0, none⟩) (m0.length + 1) cap5) := ⟨_, rfl⟩
          rw [← hW9] at h7 ⊢
          have H7 := Lib.hid h7
          clear h7 hW9
          obtain ⟨m, hm⟩ : ∃ m, m = m0 ++ [Stp.fl] := ⟨_, rfl⟩
          have hml : m.length = m0.length + 1 := by rw [hm, List.length_append]; rfl
          have HM : Hid (St w W9 (aVar B8 [.slice (some ⟨g5, 0, none⟩) m.length cap5] 77 :: aSteps X R (.slice (some ⟨g5, 0, none⟩) m.length cap5) m :: aVar B9 [.slice (some ⟨g2, 0, none⟩) N cap2] 43 :: aRow 9 1 (.slice (some ⟨g2, 0, none⟩) N cap2) N (dev.strs T) :: (comL R D X B3 B4 B7 s1 As ++ T'))) := Lib.hid (by
            rw [hml, hm]
            exact (steps_one HA0.out rfl (St.re (L := [_, _, _, _]) [2, 0, 3, 1] [] (stp_fl (X := X) (R := R) H7.out))).swap)
          have HNL : Hid (m.length ≤ 1300) := Lib.hid (by have := HML.out; omega)
          rw [← hm] at HE9
          clear hm hml H7 H9 HA0 b8b f8b HML b8
          gi_wp2_with (refine wpIn_region_held (id := 10) (S := fun w' => w'.cell? ⟨B3, 0, none⟩ = some (pt X) ∧ w'.cell? ⟨B3, 1, none⟩ = some (.int .i64 (R.st : Int)) ∧ w'.cell? ⟨B3, 2, none⟩ = some (.int .i64 (R.ln : Int)) ∧ w'.cell? ⟨B9, 0, none⟩ = some (.slice (some ⟨g2, 0, none⟩) N cap2) ∧ w'.cell? ⟨g2, k, none⟩ = some (.string t)) (by kernel_rfl) (by kernel_rfl) (fun ⟨_, _, h⟩ => h) ?_)
          obtain ⟨fvs, ha9, hst9⟩ := steps_open HM.out.swap
          have HA9 := Lib.hid ha9
          have h9 := hst9.third
          have H9 := Lib.hid h9
          have HSW := Lib.hid (HSK.out _ _ _ _ h9.drew)
          have b80 : _ = some (Value.slice (some ⟨g5, 0, none⟩) m.length cap5) := st_cell h9.drew 0
          clear ha9 hst9 h9
          refine wpAnyH_take (i := 1) (oi := { dst := some 53, op := Op.load 63 (Operand.tmp 3), type := 63, pos := "journal.go:168", after := #[], guard := none }) (v := ?v1b) rfl (by kernel_rfl) (by kernel_rfl) (by kernel_rfl) (fun _ _ _ h => h) (Or.inl ⟨by rfl, ?hy1b⟩) HSW.out ?rest1b
          case hy1b =>
            rintro w9 ⟨q0, q1, q2, q9, qx⟩
            go_simp
            try with_reducible rfl
          try simp only [Act.put, List.setIfInBounds_toArray, List.set_cons_zero, List.set_cons_succ]
          refine wpAnyH_take (i := 2) (oi := { dst := some 54, op := Op.move (Operand.tmp 11), type := 3, pos := "journal.go:168", after := #[], guard := none }) (v := ?v2b) rfl (by kernel_rfl) (by kernel_rfl) (by kernel_rfl) (fun _ _ _ h => h) (Or.inl ⟨by rfl, ?hy2b⟩) HSW.out ?rest2b
          case hy2b =>
            rintro w9 ⟨q0, q1, q2, q9, qx⟩
            go_simp
            try with_reducible rfl
          try simp only [Act.put, List.setIfInBounds_toArray, List.set_cons_zero, List.set_cons_succ]
          refine wpAnyH_take (i := 3) (oi := { dst := some 55, op := Op.load 43 (Operand.tmp 9), type := 43, pos := "journal.go:168", after := #[], guard := none }) (v := ?v3b) rfl (by kernel_rfl) (by kernel_rfl) (by kernel_rfl) (fun _ _ _ h => h) (Or.inl ⟨by rfl, ?hy3b⟩) HSW.out ?rest3b
          case hy3b =>
            rintro w9 ⟨q0, q1, q2, q9, qx⟩
            go_simp
            try with_reducible rfl
          try simp only [Act.put, List.setIfInBounds_toArray, List.set_cons_zero, List.set_cons_succ]
          refine wpAnyH_take (i := 4) (oi := { dst := some 56, op := Op.move (Operand.tmp 10), type := 3, pos := "journal.go:168", after := #[], guard := none }) (v := ?v4b) rfl (by kernel_rfl) (by kernel_rfl) (by kernel_rfl) (fun _ _ _ h => h) (Or.inl ⟨by rfl, ?hy4b⟩) HSW.out ?rest4b
          case hy4b =>
            rintro w9 ⟨q0, q1, q2, q9, qx⟩
            go_simp
            try with_reducible rfl
          try simp only [Act.put, List.setIfInBounds_toArray, List.set_cons_zero, List.set_cons_succ]
          refine wpAnyH_take (i := 5) (oi := { dst := some 57, op := Op.indexAddr 43 (Operand.tmp 55) (Operand.tmp 56), type := 0, pos := "journal.go:168", after := #[{ on := 3, ground := Ground.data }, { on := 4, ground := Ground.data }], guard := none }) (v := ?v5b) rfl (by kernel_rfl) (by kernel_rfl) (by kernel_rfl) (fun _ _ _ h => h) (Or.inl ⟨by rfl, ?hy5b⟩) HSW.out ?rest5b
          case hy5b =>
            rintro w9 ⟨q0, q1, q2, q9, qx⟩
            go_simp
            try with_reducible rfl
          try simp only [Act.put, List.setIfInBounds_toArray, List.set_cons_zero, List.set_cons_succ]
          refine wpAnyH_take (i := 6) (oi := { dst := some 58, op := Op.load 9 (Operand.tmp 57), type := 9, pos := "journal.go:168", after := #[{ on := 5, ground := Ground.data }], guard := none }) (v := ?v6b) rfl (by kernel_rfl) (by kernel_rfl) (by kernel_rfl) (fun _ _ _ h => h) (Or.inl ⟨by rfl, ?hy6b⟩) HSW.out ?rest6b
          case hy6b =>
            rintro w9 ⟨q0, q1, q2, q9, qx⟩
            go_simp
            try with_reducible rfl
          try simp only [Act.put, List.setIfInBounds_toArray, List.set_cons_zero, List.set_cons_succ]
          refine wpAnyH_ready (rs := [0, 7]) (by kernel_rfl) (by simp) ?_
          refine AllReadyH.cons (o := { dst := some 52, op := Op.load 77 (Operand.tmp 8), type := 77, pos := "journal.go:168", after := #[], guard := none }) rfl (fun K hK => ?_) (AllReadyH.cons (o := { dst := some 59, op := Op.call { callee := Callee.value (Operand.func 31), args := #[Operand.tmp 53, Operand.tmp 54, Operand.tmp 58], argTypes := #[63, 3, 9] }, type := 28, pos := "journal.go:168", after := #[{ on := 1, ground := Ground.data }, { on := 2, ground := Ground.data }, { on := 6, ground := Ground.data }], guard := none }) rfl (fun K hK => ?_) AllReadyH.nil)
          · skip
            go_simp
            refine hK.out _ _ (by first | exact HSW.out | exact HS6.out | exact HS7.out) (fun _ => ?_)
            clear hK K
            try simp only [Act.put, List.setIfInBounds_toArray, List.set_cons_zero, List.set_cons_succ]
            refine wpAnyH_ready (rs := [7]) (by kernel_rfl) (by simp) ?_
            refine AllReadyH.cons (o := { dst := some 59, op := Op.call { callee := Callee.value (Operand.func 31), args := #[Operand.tmp 53, Operand.tmp 54, Operand.tmp 58], argTypes := #[63, 3, 9] }, type := 28, pos := "journal.go:168", after := #[{ on := 1, ground := Ground.data }, { on := 2, ground := Ground.data }, { on := 6, ground := Ground.data }], guard := none }) rfl (fun K hK => ?_) AllReadyH.nil
            go_simp
            go_at_call 31
            refine (write_st (X := X) (R := R) (H9.out.drew) _ _).mono ?_
            rintro e w6 ⟨b1, b2, b3, rfl, hst⟩
            have H6 := Lib.hid hst
            have HS6 := Lib.hid (HSK.out _ _ _ _ hst.drop)
            have HS7 := Lib.hid (HSK.out _ _ _ _ (hst.drop.alloc (.cells #[.func (Fn.func 57) #[] #[pt b1, pt b2, pt b3]] tFn)))
            have b8 : _ = some (Value.slice (some ⟨g5, 0, none⟩) m.length cap5) := st_cell hst.swap 0
            have b8a : (w6.alloc (.cells #[.func (Fn.func 57) #[] #[pt b1, pt b2, pt b3]] tFn)).cell? ⟨B8, 0, none⟩ = some (Value.slice (some ⟨g5, 0, none⟩) m.length cap5) := st_cell (hst.swap.alloc _) 0
            clear hst
            try go_wp2_with fail
            refine hK.out _ _ HS6.out (fun _ => ?_)
            clear hK K
            try simp only [Act.put, List.setIfInBounds_toArray, List.set_cons_zero, List.set_cons_succ]
            refine wpAnyH_ready (rs := [8]) (by kernel_rfl) (by simp) ?_
            refine AllReadyH.cons (o := { dst := some 60, op := Op.buildSlice 77 1 #[(0, Operand.tmp 59)], type := 77, pos := "journal.go:168", after := #[{ on := 7, ground := Ground.data }], guard := none }) rfl (fun K hK => ?_) AllReadyH.nil
            go_simp
            refine hK.out _ _ HS7.out (fun _ => ?_)
            clear hK K
            try simp only [Act.put, List.setIfInBounds_toArray, List.set_cons_zero, List.set_cons_succ]
            refine wpAnyH_ready (rs := [9]) (by kernel_rfl) (by simp) ?_
            refine AllReadyH.cons (o := { dst := some 61, op := Op.call { callee := Callee.builtin Builtin.append, args := #[Operand.tmp 52, Operand.tmp 60], argTypes := #[77, 77] }, type := 77, pos := "journal.go:168", after := #[{ on := 0, ground := Ground.data }, { on := 8, ground := Ground.data }, { on := 7, ground := Ground.chain }], guard := none }) rfl (fun K hK => ?_) AllReadyH.nil
            refine stp_append rowStp (St.re (L := [_, _, _]) [2, 0, 1] [] (H6.out.alloc _)) rfl _ _ rfl rfl ⟨w6.heap.size, 0, none⟩ 1 1 [.func (Fn.func 57) #[] #[pt b1, pt b2, pt b3]] rfl rfl (home_lit w6 0 _ _) (by intro u hu; rw [List.mem_singleton.1 hu]; rfl) (by decide) (by have := HNL.out; unfold maxLen; omega) (by have := HNL.out; omega) ?_
            intro g4 cap4 w7 hst _
            have HS8 := Lib.hid (HSK.out _ _ _ _ hst.drop)
            have b8b : _ = some (Value.slice (some ⟨g5, 0, none⟩) m.length cap5) := st_cell hst.third 0
            have f8b := st_free hst.third 0
            have h8 := st_set hst.third 0 (.slice (some ⟨g4, 0, none⟩) (m.length + 1) cap4)
            have HS9 := Lib.hid (HSK.out _ _ _ _ h8.drop)
            have H10 := Lib.hid h8
            clear hst h8
            refine hK.out _ _ HS8.out (fun _ => ?_)
            clear hK K
            try simp only [Act.put, List.setIfInBounds_toArray, List.set_cons_zero, List.set_cons_succ]
            refine wpAnyH_ready (rs := [10]) (by kernel_rfl) (by simp) ?_
            refine AllReadyH.cons (o := { dst := none, op := Op.store 77 (Operand.tmp 8) (Operand.tmp 61), type := 0, pos := "journal.go:168", after := #[{ on := 9, ground := Ground.data }, { on := 9, ground := Ground.chain }, { on := 0, ground := Ground.phase }, { on := 1, ground := Ground.phase }, { on := 2, ground := Ground.phase }, { on := 3, ground := Ground.phase }, { on := 4, ground := Ground.phase }, { on := 5, ground := Ground.phase }, { on := 6, ground := Ground.phase }, { on := 7, ground := Ground.phase }, { on := 8, ground := Ground.phase }, { on := 9, ground := Ground.phase }], guard := none }) rfl (fun K hK => ?_) AllReadyH.nil
            go_simp
            refine hK.out _ _ HS9.out (fun _ => ?_)
            clear hK K
            try simp only [Act.put, List.setIfInBounds_toArray, List.set_cons_zero, List.set_cons_succ]
            refine wpAnyH_done (by kernel_rfl) ?_ _
            gi_wp2
            exact HFIN.out _ _ _ _ _ _ _ HA9.out rfl HE9.out H10.out
          · skip
            go_simp
            go_at_call 31
            refine (write_st (X := X) (R := R) (H9.out.drew) _ _).mono ?_
            rintro e w6 ⟨b1, b2, b3, rfl, hst⟩
            have H6 := Lib.hid hst
            have HS6 := Lib.hid (HSK.out _ _ _ _ hst.drop)
            have HS7 := Lib.hid (HSK.out _ _ _ _ (hst.drop.alloc (.cells #[.func (Fn.func 57) #[] #[pt b1, pt b2, pt b3]] tFn)))
            have b8 : _ = some (Value.slice (some ⟨g5, 0, none⟩) m.length cap5) := st_cell hst.swap 0
            have b8a : (w6.alloc (.cells #[.func (Fn.func 57) #[] #[pt b1, pt b2, pt b3]] tFn)).cell? ⟨B8, 0, none⟩ = some (Value.slice (some ⟨g5, 0, none⟩) m.length cap5) := st_cell (hst.swap.alloc _) 0
            clear hst
            try go_wp2_with fail
            refine hK.out _ _ HS6.out (fun _ => ?_)
            clear hK K
            try simp only [Act.put, List.setIfInBounds_toArray, List.set_cons_zero, List.set_cons_succ]
            refine wpAnyH_ready (rs := [0, 8]) (by kernel_rfl) (by simp) ?_
            refine AllReadyH.cons (o := { dst := some 52, op := Op.load 77 (Operand.tmp 8), type := 77, pos := "journal.go:168", after := #[], guard := none }) rfl (fun K hK => ?_) (AllReadyH.cons (o := { dst := some 60, op := Op.buildSlice 77 1 #[(0, Operand.tmp 59)], type := 77, pos := "journal.go:168", after := #[{ on := 7, ground := Ground.data }], guard := none }) rfl (fun K hK => ?_) AllReadyH.nil)
            · skip
              go_simp
              refine hK.out _ _ (by first | exact HSW.out | exact HS6.out | exact HS7.out) (fun _ => ?_)
              clear hK K
              try simp only [Act.put, List.setIfInBounds_toArray, List.set_cons_zero, List.set_cons_succ]
              refine wpAnyH_ready (rs := [8]) (by kernel_rfl) (by simp) ?_
              refine AllReadyH.cons (o := { dst := some 60, op := Op.buildSlice 77 1 #[(0, Operand.tmp 59)], type := 77, pos := "journal.go:168", after := #[{ on := 7, ground := Ground.data }], guard := none }) rfl (fun K hK => ?_) AllReadyH.nil
              go_simp
              refine hK.out _ _ HS7.out (fun _ => ?_)
              clear hK K
              try simp only [Act.put, List.setIfInBounds_toArray, List.set_cons_zero, List.set_cons_succ]
              refine wpAnyH_ready (rs := [9]) (by kernel_rfl) (by simp) ?_
              refine AllReadyH.cons (o := { dst := some 61, op := Op.call { callee := Callee.builtin Builtin.append, args := #[Operand.tmp 52, Operand.tmp 60], argTypes := #[77, 77] }, type := 77, pos := "journal.go:168", after := #[{ on := 0, ground := Ground.data }, { on := 8, ground := Ground.data }, { on := 7, ground := Ground.chain }], guard := none }) rfl (fun K hK => ?_) AllReadyH.nil
              refine stp_append rowStp (St.re (L := [_, _, _]) [2, 0, 1] [] (H6.out.alloc _)) rfl _ _ rfl rfl ⟨w6.heap.size, 0, none⟩ 1 1 [.func (Fn.func 57) #[] #[pt b1, pt b2, pt b3]] rfl rfl (home_lit w6 0 _ _) (by intro u hu; rw [List.mem_singleton.1 hu]; rfl) (by decide) (by have := HNL.out; unfold maxLen; omega) (by have := HNL.out; omega) ?_
              intro g4 cap4 w7 hst _
              have HS8 := Lib.hid (HSK.out _ _ _ _ hst.drop)
              have b8b : _ = some (Value.slice (some ⟨g5, 0, none⟩) m.length cap5) := st_cell hst.third 0
              have f8b := st_free hst.third 0
              have h8 := st_set hst.third 0 (.slice (some ⟨g4, 0, none⟩) (m.length + 1) cap4)
              have HS9 := Lib.hid (HSK.out _ _ _ _ h8.drop)
              have H10 := Lib.hid h8
              clear hst h8
              refine hK.out _ _ HS8.out (fun _ => ?_)
              clear hK K
              try simp only [Act.put, List.setIfInBounds_toArray, List.set_cons_zero, List.set_cons_succ]
              refine wpAnyH_ready (rs := [10]) (by kernel_rfl) (by simp) ?_
              refine AllReadyH.cons (o := { dst := none, op := Op.store 77 (Operand.tmp 8) (Operand.tmp 61), type := 0, pos := "journal.go:168", after := #[{ on := 9, ground := Ground.data }, { on := 9, ground := Ground.chain }, { on := 0, ground := Ground.phase }, { on := 1, ground := Ground.phase }, { on := 2, ground := Ground.phase }, { on := 3, ground := Ground.phase }, { on := 4, ground := Ground.phase }, { on := 5, ground := Ground.phase }, { on := 6, ground := Ground.phase }, { on := 7, ground := Ground.phase }, { on := 8, ground := Ground.phase }, { on := 9, ground := Ground.phase }], guard := none }) rfl (fun K hK => ?_) AllReadyH.nil
              go_simp
              refine hK.out _ _ HS9.out (fun _ => ?_)
              clear hK K
              try simp only [Act.put, List.setIfInBounds_toArray, List.set_cons_zero, List.set_cons_succ]
              refine wpAnyH_done (by kernel_rfl) ?_ _
              gi_wp2
              exact HFIN.out _ _ _ _ _ _ _ HA9.out rfl HE9.out H10.out
            · skip
              go_simp
              refine hK.out _ _ HS7.out (fun _ => ?_)
              clear hK K
              try simp only [Act.put, List.setIfInBounds_toArray, List.set_cons_zero, List.set_cons_succ]
              refine wpAnyH_ready (rs := [0]) (by kernel_rfl) (by simp) ?_
              refine AllReadyH.cons (o := { dst := some 52, op := Op.load 77 (Operand.tmp 8), type := 77, pos := "journal.go:168", after := #[], guard := none }) rfl (fun K hK => ?_) AllReadyH.nil
              go_simp
              refine hK.out _ _ (by first | exact HSW.out | exact HS6.out | exact HS7.out) (fun _ => ?_)
              clear hK K
              try simp only [Act.put, List.setIfInBounds_toArray, List.set_cons_zero, List.set_cons_succ]
              refine wpAnyH_ready (rs := [9]) (by kernel_rfl) (by simp) ?_
              refine AllReadyH.cons (o := { dst := some 61, op := Op.call { callee := Callee.builtin Builtin.append, args := #[Operand.tmp 52, Operand.tmp 60], argTypes := #[77, 77] }, type := 77, pos := "journal.go:168", after := #[{ on := 0, ground := Ground.data }, { on := 8, ground := Ground.data }, { on := 7, ground := Ground.chain }], guard := none }) rfl (fun K hK => ?_) AllReadyH.nil
              refine stp_append rowStp (St.re (L := [_, _, _]) [2, 0, 1] [] (H6.out.alloc _)) rfl _ _ rfl rfl ⟨w6.heap.size, 0, none⟩ 1 1 [.func (Fn.func 57) #[] #[pt b1, pt b2, pt b3]] rfl rfl (home_lit w6 0 _ _) (by intro u hu; rw [List.mem_singleton.1 hu]; rfl) (by decide) (by have := HNL.out; unfold maxLen; omega) (by have := HNL.out; omega) ?_
              intro g4 cap4 w7 hst _
              have HS8 := Lib.hid (HSK.out _ _ _ _ hst.drop)
              have b8b : _ = some (Value.slice (some ⟨g5, 0, none⟩) m.length cap5) := st_cell hst.third 0
              have f8b := st_free hst.third 0
              have h8 := st_set hst.third 0 (.slice (some ⟨g4, 0, none⟩) (m.length + 1) cap4)
              have HS9 := Lib.hid (HSK.out _ _ _ _ h8.drop)
              have H10 := Lib.hid h8
              clear hst h8
              refine hK.out _ _ HS8.out (fun _ => ?_)
              clear hK K
              try simp only [Act.put, List.setIfInBounds_toArray, List.set_cons_zero, List.set_cons_succ]
              refine wpAnyH_ready (rs := [10]) (by kernel_rfl) (by simp) ?_
              refine AllReadyH.cons (o := { dst := none, op := Op.store 77 (Operand.tmp 8) (Operand.tmp 61), type := 0, pos := "journal.go:168", after := #[{ on := 9, ground := Ground.data }, { on := 9, ground := Ground.chain }, { on := 0, ground := Ground.phase }, { on := 1, ground := Ground.phase }, { on := 2, ground := Ground.phase }, { on := 3, ground := Ground.phase }, { on := 4, ground := Ground.phase }, { on := 5, ground := Ground.phase }, { on := 6, ground := Ground.phase }, { on := 7, ground := Ground.phase }, { on := 8, ground := Ground.phase }, { on := 9, ground := Ground.phase }], guard := none }) rfl (fun K hK => ?_) AllReadyH.nil
              go_simp
              refine hK.out _ _ HS9.out (fun _ => ?_)
              clear hK K
              try simp only [Act.put, List.setIfInBounds_toArray, List.set_cons_zero, List.set_cons_succ]
              refine wpAnyH_done (by kernel_rfl) ?_ _
              gi_wp2
              exact HFIN.out _ _ _ _ _ _ _ HA9.out rfl HE9.out H10.out
        · have e4 : ¬ (k : Int) = (N : Int) - 1 := by omega
          have HE9 : Hid ((td ++ ringS R p T k) ++ [.wr (R.place (s1.h.tail + s1.used + k)) t] = td ++ ringS R p T (k + 1)) := Lib.hid (by
            rw [ringS_more R p T k (by have := HNN.out; omega), HTK.out, HPP.out, List.append_assoc])
          generalize td ++ ringS R p T k = m at H8 HML HE9 b8
          have HM := H8
          have HNL : Hid (m.length ≤ 1300) := Lib.hid (by have := HML.out; omega)
          clear H8
          gi_wp2_with (refine wpIn_region_held (id := 10) (S := fun w' => w'.cell? ⟨B3, 0, none⟩ = some (pt X) ∧ w'.cell? ⟨B3, 1, none⟩ = some (.int .i64 (R.st : Int)) ∧ w'.cell? ⟨B3, 2, none⟩ = some (.int .i64 (R.ln : Int)) ∧ w'.cell? ⟨B9, 0, none⟩ = some (.slice (some ⟨g2, 0, none⟩) N cap2) ∧ w'.cell? ⟨g2, k, none⟩ = some (.string t)) (by kernel_rfl) (by kernel_rfl) (fun ⟨_, _, h⟩ => h) ?_)
          obtain ⟨fvs, ha9, hst9⟩ := steps_open HM.out.swap
          have HA9 := Lib.hid ha9
          have h9 := hst9.third
          have H9 := Lib.hid h9
          have HSW := Lib.hid (HSK.out _ _ _ _ h9.drew)
          have b80 : _ = some (Value.slice so m.length sc) := st_cell h9.drew 0
          clear ha9 hst9 h9
          refine wpAnyH_take (i := 1) (oi := { dst := some 53, op := Op.load 63 (Operand.tmp 3), type := 63, pos := "journal.go:168", after := #[], guard := none }) (v := ?v1a) rfl (by kernel_rfl) (by kernel_rfl) (by kernel_rfl) (fun _ _ _ h => h) (Or.inl ⟨by rfl, ?hy1a⟩) HSW.out ?rest1a
          case hy1a =>
            rintro w9 ⟨q0, q1, q2, q9, qx⟩
            go_simp
            try with_reducible rfl
          try simp only [Act.put, List.setIfInBounds_toArray, List.set_cons_zero, List.set_cons_succ]
          refine wpAnyH_take (i := 2) (oi := { dst := some 54, op := Op.move (Operand.tmp 11), type := 3, pos := "journal.go:168", after := #[], guard := none }) (v := ?v2a) rfl (by kernel_rfl) (by kernel_rfl) (by kernel_rfl) (fun _ _ _ h => h) (Or.inl ⟨by rfl, ?hy2a⟩) HSW.out ?rest2a
          case hy2a =>
            rintro w9 ⟨q0, q1, q2, q9, qx⟩
            go_simp
            try with_reducible rfl
          try simp only [Act.put, List.setIfInBounds_toArray, List.set_cons_zero, List.set_cons_succ]
          refine wpAnyH_take (i := 3) (oi := { dst := some 55, op := Op.load 43 (Operand.tmp 9), type := 43, pos := "journal.go:168", after := #[], guard := none }) (v := ?v3a) rfl (by kernel_rfl) (by kernel_rfl) (by kernel_rfl) (fun _ _ _ h => h) (Or.inl ⟨by rfl, ?hy3a⟩) HSW.out ?rest3a
          case hy3a =>
            rintro w9 ⟨q0, q1, q2, q9, qx⟩
            go_simp
            try with_reducible rfl
          try simp only [Act.put, List.setIfInBounds_toArray, List.set_cons_zero, List.set_cons_succ]
          refine wpAnyH_take (i := 4) (oi := { dst := some 56, op := Op.move (Operand.tmp 10), type := 3, pos := "journal.go:168", after := #[], guard := none }) (v := ?v4a) rfl (by kernel_rfl) (by kernel_rfl) (by kernel_rfl) (fun _ _ _ h => h) (Or.inl ⟨by rfl, ?hy4a⟩) HSW.out ?rest4a
          case hy4a =>
            rintro w9 ⟨q0, q1, q2, q9, qx⟩
            go_simp
            try with_reducible rfl
          try simp only [Act.put, List.setIfInBounds_toArray, List.set_cons_zero, List.set_cons_succ]
          refine wpAnyH_take (i := 5) (oi := { dst := some 57, op := Op.indexAddr 43 (Operand.tmp 55) (Operand.tmp 56), type := 0, pos := "journal.go:168", after := #[{ on := 3, ground := Ground.data }, { on := 4, ground := Ground.data }], guard := none }) (v := ?v5a) rfl (by kernel_rfl) (by kernel_rfl) (by kernel_rfl) (fun _ _ _ h => h) (Or.inl ⟨by rfl, ?hy5a⟩) HSW.out ?rest5a
          case hy5a =>
            rintro w9 ⟨q0, q1, q2, q9, qx⟩
            go_simp
            try with_reducible rfl
          try simp only [Act.put, List.setIfInBounds_toArray, List.set_cons_zero, List.set_cons_succ]
          refine wpAnyH_take (i := 6) (oi := { dst := some 58, op := Op.load 9 (Operand.tmp 57), type := 9, pos := "journal.go:168", after := #[{ on := 5, ground := Ground.data }], guard := none }) (v := ?v6a) rfl (by kernel_rfl) (by kernel_rfl) (by kernel_rfl) (fun _ _ _ h => h) (Or.inl ⟨by rfl, ?hy6a⟩) HSW.out ?rest6a
          case hy6a =>
            rintro w9 ⟨q0, q1, q2, q9, qx⟩
            go_simp
            try with_reducible rfl
          try simp only [Act.put, List.setIfInBounds_toArray, List.set_cons_zero, List.set_cons_succ]
          refine wpAnyH_ready (rs := [0, 7]) (by kernel_rfl) (by simp) ?_
          refine AllReadyH.cons (o := { dst := some 52, op := Op.load 77 (Operand.tmp 8), type := 77, pos := "journal.go:168", after := #[], guard := none }) rfl (fun K hK => ?_) (AllReadyH.cons (o := { dst := some 59, op := Op.call { callee := Callee.value (Operand.func 31), args := #[Operand.tmp 53, Operand.tmp 54, Operand.tmp 58], argTypes := #[63, 3, 9] }, type := 28, pos := "journal.go:168", after := #[{ on := 1, ground := Ground.data }, { on := 2, ground := Ground.data }, { on := 6, ground := Ground.data }], guard := none }) rfl (fun K hK => ?_) AllReadyH.nil)
          · skip
            go_simp
            refine hK.out _ _ (by first | exact HSW.out | exact HS6.out | exact HS7.out) (fun _ => ?_)
            clear hK K
            try simp only [Act.put, List.setIfInBounds_toArray, List.set_cons_zero, List.set_cons_succ]
            refine wpAnyH_ready (rs := [7]) (by kernel_rfl) (by simp) ?_
            refine AllReadyH.cons (o := { dst := some 59, op := Op.call { callee := Callee.value (Operand.func 31), args := #[Operand.tmp 53, Operand.tmp 54, Operand.tmp 58], argTypes := #[63, 3, 9] }, type := 28, pos := "journal.go:168", after := #[{ on := 1, ground := Ground.data }, { on := 2, ground := Ground.data }, { on := 6, ground := Ground.data }], guard := none }) rfl (fun K hK => ?_) AllReadyH.nil
            go_simp
            go_at_call 31
            refine (write_st (X := X) (R := R) (H9.out.drew) _ _).mono ?_
            rintro e w6 ⟨b1, b2, b3, rfl, hst⟩
            have H6 := Lib.hid hst
            have HS6 := Lib.hid (HSK.out _ _ _ _ hst.drop)
            have HS7 := Lib.hid (HSK.out _ _ _ _ (hst.drop.alloc (.cells #[.func (Fn.func 57) #[] #[pt b1, pt b2, pt b3]] tFn)))
            have b8 : _ = some (Value.slice so m.length sc) := st_cell hst.swap 0
            have b8a : (w6.alloc (.cells #[.func (Fn.func 57) #[] #[pt b1, pt b2, pt b3]] tFn)).cell? ⟨B8, 0, none⟩ = some (Value.slice so m.length sc) := st_cell (hst.swap.alloc _) 0
            clear hst
            try go_wp2_with fail
            refine hK.out _ _ HS6.out (fun _ => ?_)
            clear hK K
            try simp only [Act.put, List.setIfInBounds_toArray, List.set_cons_zero, List.set_cons_succ]
            refine wpAnyH_ready (rs := [8]) (by kernel_rfl) (by simp) ?_
            refine AllReadyH.cons (o := { dst := some 60, op := Op.buildSlice 77 1 #[(0, Operand.tmp 59)], type := 77, pos := "journal.go:168", after := #[{ on := 7, ground := Ground.data }], guard := none }) rfl (fun K hK => ?_) AllReadyH.nil
            go_simp
            refine hK.out _ _ HS7.out (fun _ => ?_)
            clear hK K
            try simp only [Act.put, List.setIfInBounds_toArray, List.set_cons_zero, List.set_cons_succ]
            refine wpAnyH_ready (rs := [9]) (by kernel_rfl) (by simp) ?_
            refine AllReadyH.cons (o := { dst := some 61, op := Op.call { callee := Callee.builtin Builtin.append, args := #[Operand.tmp 52, Operand.tmp 60], argTypes := #[77, 77] }, type := 77, pos := "journal.go:168", after := #[{ on := 0, ground := Ground.data }, { on := 8, ground := Ground.data }, { on := 7, ground := Ground.chain }], guard := none }) rfl (fun K hK => ?_) AllReadyH.nil
            refine stp_append rowStp (St.re (L := [_, _, _]) [2, 0, 1] [] (H6.out.alloc _)) rfl _ _ rfl rfl ⟨w6.heap.size, 0, none⟩ 1 1 [.func (Fn.func 57) #[] #[pt b1, pt b2, pt b3]] rfl rfl (home_lit w6 0 _ _) (by intro u hu; rw [List.mem_singleton.1 hu]; rfl) (by decide) (by have := HNL.out; unfold maxLen; omega) (by have := HNL.out; omega) ?_
            intro g4 cap4 w7 hst _
            have HS8 := Lib.hid (HSK.out _ _ _ _ hst.drop)
            have b8b : _ = some (Value.slice so m.length sc) := st_cell hst.third 0
            have f8b := st_free hst.third 0
            have h8 := st_set hst.third 0 (.slice (some ⟨g4, 0, none⟩) (m.length + 1) cap4)
            have HS9 := Lib.hid (HSK.out _ _ _ _ h8.drop)
            have H10 := Lib.hid h8
            clear hst h8
            refine hK.out _ _ HS8.out (fun _ => ?_)
            clear hK K
            try simp only [Act.put, List.setIfInBounds_toArray, List.set_cons_zero, List.set_cons_succ]
            refine wpAnyH_ready (rs := [10]) (by kernel_rfl) (by simp) ?_
            refine AllReadyH.cons (o := { dst := none, op := Op.store 77 (Operand.tmp 8) (Operand.tmp 61), type := 0, pos := "journal.go:168", after := #[{ on := 9, ground := Ground.data }, { on := 9, ground := Ground.chain }, { on := 0, ground := Ground.phase }, { on := 1, ground := Ground.phase }, { on := 2, ground := Ground.phase }, { on := 3, ground := Ground.phase }, { on := 4, ground := Ground.phase }, { on := 5, ground := Ground.phase }, { on := 6, ground := Ground.phase }, { on := 7, ground := Ground.phase }, { on := 8, ground := Ground.phase }, { on := 9, ground := Ground.phase }], guard := none }) rfl (fun K hK => ?_) AllReadyH.nil
            go_simp
            refine hK.out _ _ HS9.out (fun _ => ?_)
            clear hK K
            try simp only [Act.put, List.setIfInBounds_toArray, List.set_cons_zero, List.set_cons_succ]
            refine wpAnyH_done (by kernel_rfl) ?_ _
            gi_wp2
            exact HFIN.out _ _ _ _ _ _ _ HA9.out rfl HE9.out H10.out
          · skip
            go_simp
            go_at_call 31
            refine (write_st (X := X) (R := R) (H9.out.drew) _ _).mono ?_
            rintro e w6 ⟨b1, b2, b3, rfl, hst⟩
            have H6 := Lib.hid hst
            have HS6 := Lib.hid (HSK.out _ _ _ _ hst.drop)
            have HS7 := Lib.hid (HSK.out _ _ _ _ (hst.drop.alloc (.cells #[.func (Fn.func 57) #[] #[pt b1, pt b2, pt b3]] tFn)))
            have b8 : _ = some (Value.slice so m.length sc) := st_cell hst.swap 0
            have b8a : (w6.alloc (.cells #[.func (Fn.func 57) #[] #[pt b1, pt b2, pt b3]] tFn)).cell? ⟨B8, 0, none⟩ = some (Value.slice so m.length sc) := st_cell (hst.swap.alloc _) 0
            clear hst
            try go_wp2_with fail
            refine hK.out _ _ HS6.out (fun _ => ?_)
            clear hK K
            try simp only [Act.put, List.setIfInBounds_toArray, List.set_cons_zero, List.set_cons_succ]
            refine wpAnyH_ready (rs := [0, 8]) (by kernel_rfl) (by simp) ?_
            refine AllReadyH.cons (o := { dst := some 52, op := Op.load 77 (Operand.tmp 8), type := 77, pos := "journal.go:168", after := #[], guard := none }) rfl (fun K hK => ?_) (AllReadyH.cons (o := { dst := some 60, op := Op.buildSlice 77 1 #[(0, Operand.tmp 59)], type := 77, pos := "journal.go:168", after := #[{ on := 7, ground := Ground.data }], guard := none }) rfl (fun K hK => ?_) AllReadyH.nil)
            · skip
              go_simp
              refine hK.out _ _ (by first | exact HSW.out | exact HS6.out | exact HS7.out) (fun _ => ?_)
              clear hK K
              try simp only [Act.put, List.setIfInBounds_toArray, List.set_cons_zero, List.set_cons_succ]
              refine wpAnyH_ready (rs := [8]) (by kernel_rfl) (by simp) ?_
              refine AllReadyH.cons (o := { dst := some 60, op := Op.buildSlice 77 1 #[(0, Operand.tmp 59)], type := 77, pos := "journal.go:168", after := #[{ on := 7, ground := Ground.data }], guard := none }) rfl (fun K hK => ?_) AllReadyH.nil
              go_simp
              refine hK.out _ _ HS7.out (fun _ => ?_)
              clear hK K
              try simp only [Act.put, List.setIfInBounds_toArray, List.set_cons_zero, List.set_cons_succ]
              refine wpAnyH_ready (rs := [9]) (by kernel_rfl) (by simp) ?_
              refine AllReadyH.cons (o := { dst := some 61, op := Op.call { callee := Callee.builtin Builtin.append, args := #[Operand.tmp 52, Operand.tmp 60], argTypes := #[77, 77] }, type := 77, pos := "journal.go:168", after := #[{ on := 0, ground := Ground.data }, { on := 8, ground := Ground.data }, { on := 7, ground := Ground.chain }], guard := none }) rfl (fun K hK => ?_) AllReadyH.nil
              refine stp_append rowStp (St.re (L := [_, _, _]) [2, 0, 1] [] (H6.out.alloc _)) rfl _ _ rfl rfl ⟨w6.heap.size, 0, none⟩ 1 1 [.func (Fn.func 57) #[] #[pt b1, pt b2, pt b3]] rfl rfl (home_lit w6 0 _ _) (by intro u hu; rw [List.mem_singleton.1 hu]; rfl) (by decide) (by have := HNL.out; unfold maxLen; omega) (by have := HNL.out; omega) ?_
              intro g4 cap4 w7 hst _
              have HS8 := Lib.hid (HSK.out _ _ _ _ hst.drop)
              have b8b : _ = some (Value.slice so m.length sc) := st_cell hst.third 0
              have f8b := st_free hst.third 0
              have h8 := st_set hst.third 0 (.slice (some ⟨g4, 0, none⟩) (m.length + 1) cap4)
              have HS9 := Lib.hid (HSK.out _ _ _ _ h8.drop)
              have H10 := Lib.hid h8
              clear hst h8
              refine hK.out _ _ HS8.out (fun _ => ?_)
              clear hK K
              try simp only [Act.put, List.setIfInBounds_toArray, List.set_cons_zero, List.set_cons_succ]
              refine wpAnyH_ready (rs := [10]) (by kernel_rfl) (by simp) ?_
              refine AllReadyH.cons (o := { dst := none, op := Op.store 77 (Operand.tmp 8) (Operand.tmp 61), type := 0, pos := "journal.go:168", after := #[{ on := 9, ground := Ground.data }, { on := 9, ground := Ground.chain }, { on := 0, ground := Ground.phase }, { on := 1, ground := Ground.phase }, { on := 2, ground := Ground.phase }, { on := 3, ground := Ground.phase }, { on := 4, ground := Ground.phase }, { on := 5, ground := Ground.phase }, { on := 6, ground := Ground.phase }, { on := 7, ground := Ground.phase }, { on := 8, ground := Ground.phase }, { on := 9, ground := Ground.phase }], guard := none }) rfl (fun K hK => ?_) AllReadyH.nil
              go_simp
              refine hK.out _ _ HS9.out (fun _ => ?_)
              clear hK K
              try simp only [Act.put, List.setIfInBounds_toArray, List.set_cons_zero, List.set_cons_succ]
              refine wpAnyH_done (by kernel_rfl) ?_ _
              gi_wp2
              exact HFIN.out _ _ _ _ _ _ _ HA9.out rfl HE9.out H10.out
            · skip
              go_simp
              refine hK.out _ _ HS7.out (fun _ => ?_)
              clear hK K
              try simp only [Act.put, List.setIfInBounds_toArray, List.set_cons_zero, List.set_cons_succ]
              refine wpAnyH_ready (rs := [0]) (by kernel_rfl) (by simp) ?_
              refine AllReadyH.cons (o := { dst := some 52, op := Op.load 77 (Operand.tmp 8), type := 77, pos := "journal.go:168", after := #[], guard := none }) rfl (fun K hK => ?_) AllReadyH.nil
              go_simp
              refine hK.out _ _ (by first | exact HSW.out | exact HS6.out | exact HS7.out) (fun _ => ?_)
              clear hK K
              try simp only [Act.put, List.setIfInBounds_toArray, List.set_cons_zero, List.set_cons_succ]
              refine wpAnyH_ready (rs := [9]) (by kernel_rfl) (by simp) ?_
              refine AllReadyH.cons (o := { dst := some 61, op := Op.call { callee := Callee.builtin Builtin.append, args := #[Operand.tmp 52, Operand.tmp 60], argTypes := #[77, 77] }, type := 77, pos := "journal.go:168", after := #[{ on := 0, ground := Ground.data }, { on := 8, ground := Ground.data }, { on := 7, ground := Ground.chain }], guard := none }) rfl (fun K hK => ?_) AllReadyH.nil
              refine stp_append rowStp (St.re (L := [_, _, _]) [2, 0, 1] [] (H6.out.alloc _)) rfl _ _ rfl rfl ⟨w6.heap.size, 0, none⟩ 1 1 [.func (Fn.func 57) #[] #[pt b1, pt b2, pt b3]] rfl rfl (home_lit w6 0 _ _) (by intro u hu; rw [List.mem_singleton.1 hu]; rfl) (by decide) (by have := HNL.out; unfold maxLen; omega) (by have := HNL.out; omega) ?_
              intro g4 cap4 w7 hst _
              have HS8 := Lib.hid (HSK.out _ _ _ _ hst.drop)
              have b8b : _ = some (Value.slice so m.length sc) := st_cell hst.third 0
              have f8b := st_free hst.third 0
              have h8 := st_set hst.third 0 (.slice (some ⟨g4, 0, none⟩) (m.length + 1) cap4)
              have HS9 := Lib.hid (HSK.out _ _ _ _ h8.drop)
              have H10 := Lib.hid h8
              clear hst h8
              refine hK.out _ _ HS8.out (fun _ => ?_)
              clear hK K
              try simp only [Act.put, List.setIfInBounds_toArray, List.set_cons_zero, List.set_cons_succ]
              refine wpAnyH_ready (rs := [10]) (by kernel_rfl) (by simp) ?_
              refine AllReadyH.cons (o := { dst := none, op := Op.store 77 (Operand.tmp 8) (Operand.tmp 61), type := 0, pos := "journal.go:168", after := #[{ on := 9, ground := Ground.data }, { on := 9, ground := Ground.chain }, { on := 0, ground := Ground.phase }, { on := 1, ground := Ground.phase }, { on := 2, ground := Ground.phase }, { on := 3, ground := Ground.phase }, { on := 4, ground := Ground.phase }, { on := 5, ground := Ground.phase }, { on := 6, ground := Ground.phase }, { on := 7, ground := Ground.phase }, { on := 8, ground := Ground.phase }, { on := 9, ground := Ground.phase }], guard := none }) rfl (fun K hK => ?_) AllReadyH.nil
              go_simp
              refine hK.out _ _ HS9.out (fun _ => ?_)
              clear hK K
              try simp only [Act.put, List.setIfInBounds_toArray, List.set_cons_zero, List.set_cons_succ]
              refine wpAnyH_done (by kernel_rfl) ?_ _
              gi_wp2
              exact HFIN.out _ _ _ _ _ _ _ HA9.out rfl HE9.out H10.out
      case done =>
        intro Dq W hst
        have hst : St w W (aEx (fun u : Value => aMany [aVar B8 [u] 77, aSteps X R u (td ++ ringS R p T N)]) :: aVar B9 [.slice (some ⟨g2, 0, none⟩) N cap2] 43 :: aRow 9 1 (.slice (some ⟨g2, 0, none⟩) N cap2) N (dev.strs T) :: (comL R D X B3 B4 B7 s1 As ++ [aBlk Dq (.deferred (some []))])) := hst
        obtain ⟨u3, hst⟩ := St.open' hst
        have hst : St w W (aVar B8 [u3] 77 :: aSteps X R u3 (td ++ ringS R p T N) :: aVar B9 [.slice (some ⟨g2, 0, none⟩) N cap2] 43 :: aRow 9 1 (.slice (some ⟨g2, 0, none⟩) N cap2) N (dev.strs T) :: (comL R D X B3 B4 B7 s1 As ++ [aBlk Dq (.deferred (some []))])) := St.append hst
        have HML : Hid ((td ++ ringS R p T N).length ≤ 1200) := Lib.hid (by
          rw [List.length_append]
          have h1 := HTDL.out
          have h2 := ringS_len R p T N
          have h3 := HNN.out
          omega)
        have HE8 : Hid (commitS R s l = (td ++ ringS R p T N) ++ (Stp.fl :: wrs l)) := Lib.hid (by
          rw [HCP.out, txS_ring, ← HTT.out, ← HNN.out, ← hp, List.append_assoc])
        have HJ8 : Hid (commitJ R s l = ⟨s1.h, s1.at', s1.used + N, s1.num + 1⟩) := Lib.hid (by
          rw [HCJ.out, HTL.out]; rfl)
        generalize td ++ ringS R p T N = m at hst HML HE8
        obtain ⟨so, sc, rfl⟩ := steps_shape hst.swap
        have h0 : St w W (aBlk Dq (.deferred (some [])) :: aVar B8 [.slice so m.length sc] 77 :: aSteps X R (.slice so m.length sc) m :: aVar B9 [.slice (some ⟨g2, 0, none⟩) N cap2] 43 :: aRow 9 1 (.slice (some ⟨g2, 0, none⟩) N cap2) N (dev.strs T) :: comL R D X B3 B4 B7 s1 As) := by
          have := st_swapl (A := aVar B8 [.slice so m.length sc] 77 :: aSteps X R (.slice so m.length sc) m :: aVar B9 [.slice (some ⟨g2, 0, none⟩) N cap2] 43 :: aRow 9 1 (.slice (some ⟨g2, 0, none⟩) N cap2) N (dev.strs T) :: comL R D X B3 B4 B7 s1 As) (B := [aBlk Dq (.deferred (some []))]) (C := []) (by simpa using hst)
          simpa using this
        obtain ⟨fvs, ha9, h9⟩ := steps_open (h0.third)
        have H9 : Hid (St w W (aRow tFn 1 (.slice so m.length sc) m.length fvs :: aMany (List.zipWith (aStp X R) fvs m) :: aBlk Dq (.deferred (some [])) :: aVar B8 [.slice so m.length sc] 77 :: aVar B9 [.slice (some ⟨g2, 0, none⟩) N cap2] 43 :: aRow 9 1 (.slice (some ⟨g2, 0, none⟩) N cap2) N (dev.strs T) :: comL R D X B3 B4 B7 s1 As)) := Lib.hid h9
        have HA9 := Lib.hid ha9
        have b8 : _ = some (Value.slice so m.length sc) := st_cell h9.fourth 0
        have hB3 : St w W (aVar B3 (rgCells X R) 63 :: _) := St.re (L := [_, _, _, _, _, _, _, _]) [7, 0, 1, 2, 3, 4, 5, 6] [] h9
        have c0 : _ = some (pt X) := st_cell hB3 0
        have e5 : IntKind.i64.wrap ((s1.used : Int) + N) = (s1.used : Int) + N := IntWalk.i64_in _ (by have := HS1.out.2.1; have := HRB.out; omega)
        have e6 : IntKind.u64.wrap ((s1.num : Int) + 1) = (s1.num : Int) + 1 := by have := HS1.out.2.2; rw [IntKind.wrap_u64]; omega
        clear hst h0 ha9 h9 hB3
        dsimp only
        go_upto_region 12 with ((refine lst_append rowStp (H9.out.alloc (.cells #[.func (Fn.func 27) #[pt X] #[]] tFn)) rfl _ _ rfl rfl ⟨W.heap.size, 0, none⟩ 1 1 [.func (Fn.func 27) #[pt X] #[]] rfl rfl (home_lit W 0 _ _) (by intro u hu; rw [List.mem_singleton.1 hu]; rfl) (by decide) (by have := HML.out; unfold maxLen; omega) (by have := HML.out; omega) ?_; intro g5 cap5 w7 hst _; have b8b : _ = some (Value.slice so m.length sc) := st_cell hst.fourth 0; have f8b := st_free hst.fourth 0; have h8 := st_set hst.fourth 0 (.slice (some ⟨g5, 0, none⟩) (m.length + 1) cap5); have H8 := Lib.hid h8; clear hst h8))
        obtain ⟨W2, hW2⟩ : ∃ W2, W2 = w7.setCell ⟨B8, 0, none⟩ (.slice (some ⟨g5, 0, none⟩) (m.length + 1) cap5) := ⟨_, rfl⟩
        have h8 := H8.out
        rw [← hW2] at h8 ⊢
        have h4 : St w _ (aVar B4 (stCells s1) 69 :: _) := St.re (L := [_, _, _, _, _, _, _]) [6, 0, 1, 2, 3, 4, 5] [] h8
        have s4 : _ = some (Value.int .i64 (s1.used : Int)) := st_cell h4 4
        have s5 : _ = some (Value.int .u64 (s1.num : Int)) := st_cell h4 5
        have f4 := st_free h4
        have c9 : _ = some (Value.slice (some ⟨g2, 0, none⟩) N cap2) := st_cell h8.fifth 0
        have H9 := Lib.hid (st_set (st_set h4 4 (.int .i64 ((s1.used : Int) + N))) 5 (.int .u64 ((s1.num : Int) + 1)))
        clear H8 hW2 h8 h4 b8b f8b b8 c0
        go_upto_region 14 with fail
        obtain ⟨m2, hm2⟩ : ∃ m2, m2 = m ++ [Stp.fl] := ⟨_, rfl⟩
        have hml : m2.length = m.length + 1 := by rw [hm2, List.length_append]; rfl
        obtain ⟨W3, hW3⟩ : ∃ W3, W3 = (W2.setCell ⟨B4, 4, none⟩ (.int .i64 ((s1.used : Int) + N))).setCell ⟨B4, 5, none⟩ (.int .u64 ((s1.num : Int) + 1)) := ⟨_, rfl⟩
        have h9 := H9.out
        rw [← hW3] at h9 ⊢
        have hM : St w W3 (aSteps X R (.slice (some ⟨g5, 0, none⟩) (m.length + 1) cap5) m2 :: aVar B4 [.int .u64 (s1.h.own : Int), .int .i64 (s1.h.tail : Int), .int .u64 (s1.h.num : Int), .int .i64 (s1.at' : Int), .int .i64 ((s1.used : Int) + N), .int .u64 ((s1.num : Int) + 1)] 69 :: aVar B8 [.slice (some ⟨g5, 0, none⟩) (m.length + 1) cap5] 77 :: aVar B3 (rgCells X R) 63 :: aVar B7 zSt 69 :: aBlk Dq (.deferred (some [])) :: pDev X D :: As) := by
          have k1 := steps_one HA9.out rfl (St.re (L := [_, _, _, _, _, _]) [3, 0, 4, 1, 2, 5] [] (stp_fl (X := X) (R := R) h9))
          rw [hm2]
          exact St.re (L := [_, _, _, _, _, _, _, _, _]) [0, 1, 2, 6, 7, 3, 8] [4, 5] k1
        have HE9 : Hid (commitS R s l = m2 ++ wrs l) := Lib.hid (by rw [HE8.out, hm2, List.append_assoc]; rfl)
        have HML2 : Hid (m2.length ≤ 1300) := Lib.hid (by have := HML.out; omega)
        have HM := Lib.hid hM
        have HHM : Hid (∀ V, St w V (aSteps X R (.slice (some ⟨g5, 0, none⟩) (m.length + 1) cap5) m2 :: aVar B4 [.int .u64 (s1.h.own : Int), .int .i64 (s1.h.tail : Int), .int .u64 (s1.h.num : Int), .int .i64 (s1.at' : Int), .int .i64 ((s1.used : Int) + N), .int .u64 ((s1.num : Int) + 1)] 69 :: aVar B8 [.slice (some ⟨g5, 0, none⟩) (m.length + 1) cap5] 77 :: aVar B3 (rgCells X R) 63 :: aVar B7 zSt 69 :: aBlk Dq (.deferred (some [])) :: pDev X D :: As) → Calls Tryd.prog 56 #[rgV X R, .slice ao l.length cap] V fun e w' => ∃ u, e = .returned u ∧ St w w' (aSteps X R u (wrs l) :: aSteps X R (.slice (some ⟨g5, 0, none⟩) (m.length + 1) cap5) m2 :: aVar B4 [.int .u64 (s1.h.own : Int), .int .i64 (s1.h.tail : Int), .int .u64 (s1.h.num : Int), .int .i64 (s1.at' : Int), .int .i64 ((s1.used : Int) + N), .int .u64 ((s1.num : Int) + 1)] 69 :: aVar B8 [.slice (some ⟨g5, 0, none⟩) (m.length + 1) cap5] 77 :: aVar B3 (rgCells X R) 63 :: aVar B7 zSt 69 :: aBlk Dq (.deferred (some [])) :: pDev X D :: As)) := Lib.hid fun V k =>
          home_st k l _ (fun V2 Cs k2 => HV.out V2 (Cs ++ [_, _, _, _, _, _]) (by simpa using k2)) (by have := HLEN.out; have := HLN.out; omega)
        have HSK : Hid (∀ (V : World) (A : Ast), St w V (A :: aVar B4 [.int .u64 (s1.h.own : Int), .int .i64 (s1.h.tail : Int), .int .u64 (s1.h.num : Int), .int .i64 (s1.at' : Int), .int .i64 ((s1.used : Int) + N), .int .u64 ((s1.num : Int) + 1)] 69 :: aVar B8 [.slice (some ⟨g5, 0, none⟩) (m.length + 1) cap5] 77 :: aVar B3 (rgCells X R) 63 :: aVar B7 zSt 69 :: aBlk Dq (.deferred (some [])) :: pDev X D :: As) → V.cell? ⟨B8, 0, none⟩ = some (.slice (some ⟨g5, 0, none⟩) (m.length + 1) cap5) ∧ V.cell? ⟨B3, 0, none⟩ = some (pt X) ∧ V.cell? ⟨B3, 1, none⟩ = some (.int .i64 (R.st : Int)) ∧ V.cell? ⟨B3, 2, none⟩ = some (.int .i64 (R.ln : Int)) ∧ V.cell? ⟨B4, 0, none⟩ = some (.int .u64 (s1.h.own : Int)) ∧ V.cell? ⟨B4, 1, none⟩ = some (.int .i64 (s1.h.tail : Int)) ∧ V.cell? ⟨B4, 2, none⟩ = some (.int .u64 (s1.h.num : Int)) ∧ V.cell? ⟨B4, 3, none⟩ = some (.int .i64 (s1.at' : Int)) ∧ V.cell? ⟨B4, 4, none⟩ = some (.int .i64 ((s1.used : Int) + N)) ∧ V.cell? ⟨B4, 5, none⟩ = some (.int .u64 ((s1.num : Int) + 1))) := Lib.hid fun V A h => by
          have h8 := h.third
          have h3 := h.fourth
          have h4 := h.swap
          exact ⟨st_cell h8 0, st_cell h3 0, st_cell h3 1, st_cell h3 2, st_cell h4 0, st_cell h4 1, st_cell h4 2, st_cell h4 3, st_cell h4 4, st_cell h4 5⟩
        have a1 : ¬ B7 = B8 := st_apart (St.re (L := [_, _, _, _, _]) [4, 2] [0, 1, 3] hM)
        have a2 : ¬ B7 = B3 := st_apart (St.re (L := [_, _, _, _, _]) [4, 3] [0, 1, 2] hM)
        have a3 : ¬ B7 = B4 := st_apart (St.re (L := [_, _, _, _, _]) [4, 1] [0, 2, 3] hM)
        have b1 : ¬ B8 = B7 := fun e => a1 e.symm
        have b2 : ¬ B3 = B7 := fun e => a2 e.symm
        have b3 : ¬ B4 = B7 := fun e => a3 e.symm
        clear hW3 H9 h9 HA9 hm2 hml s4 s5 f4 c9 HML hM HE8
        obtain ⟨q0, q1, q2, q3, q4, q5, q6, q7, q8, q9⟩ := HSK.out _ _ HM.out
        go_region_held3 (fun w' => w'.cell? ⟨B8, 0, none⟩ = some (.slice (some ⟨g5, 0, none⟩) (m.length + 1) cap5) ∧ w'.cell? ⟨B3, 0, none⟩ = some (pt X) ∧ w'.cell? ⟨B3, 1, none⟩ = some (.int .i64 (R.st : Int)) ∧ w'.cell? ⟨B3, 2, none⟩ = some (.int .i64 (R.ln : Int)) ∧ w'.cell? ⟨B4, 0, none⟩ = some (.int .u64 (s1.h.own : Int)) ∧ w'.cell? ⟨B4, 1, none⟩ = some (.int .i64 (s1.h.tail : Int)) ∧ w'.cell? ⟨B4, 2, none⟩ = some (.int .u64 (s1.h.num : Int)) ∧ w'.cell? ⟨B4, 3, none⟩ = some (.int .i64 (s1.at' : Int)) ∧ w'.cell? ⟨B4, 4, none⟩ = some (.int .i64 ((s1.used : Int) + N)) ∧ w'.cell? ⟨B4, 5, none⟩ = some (.int .u64 ((s1.num : Int) + 1))) (go_keep) (first
          | ((go_at_call 56; with_reducible refine (HHM.out _ (by first | exact HM.out | exact HM.out.drew | exact HM.out.drewN _)).mono ?_; rintro e w8 ⟨u8, rfl, hst⟩; obtain ⟨q0, q1, q2, q3, q4, q5, q6, q7, q8, q9⟩ := HSK.out _ _ hst.drop; obtain ⟨gvs, hb9, h1⟩ := steps_open hst; obtain ⟨ao2, cc2, rfl, hnews⟩ := st_news h1; obtain ⟨fvs2, hc9, h2⟩ := steps_open h1.third; have HN8 := Lib.hid hnews; have HB9 := Lib.hid hb9; have HC9 := Lib.hid hc9; have H10 := Lib.hid h2; clear hst h1 h2 hnews hb9 hc9))
          | ((refine stp_appendN rowStp H10.out rfl _ _ rfl rfl ao2 (wrs l).length cc2 gvs rfl (by rw [HB9.out.1, Nat.mul_one]) (fun h => by obtain ⟨ad, h1, h2⟩ := HN8.out h; exact ⟨ad, h1, h2⟩) HB9.out.2 (by have := HML2.out; have := HLEN.out; have := HLN.out; rw [wrs_len]; unfold maxLen; omega) (by have := HML2.out; have := HLEN.out; have := HLN.out; rw [wrs_len]; omega) ?_; intro v9 w9 hst _; have hf := steps_more HC9.out HB9.out (by rw [List.length_append]) (St.re (L := [_, _, _, _]) [0, 1, 3] [2] hst); obtain ⟨q0, q1, q2, q3, q4, q5, q6, q7, q8, q9⟩ := HSK.out _ _ hf; have hB7 : St w _ (aVar B7 zSt 69 :: _) := St.re (L := [_, _, _, _, _]) [4, 0, 1, 2, 3] [] hf; have z0 : _ = some (Value.int .u64 0) := st_cell hB7 0; have z1 : _ = some (Value.int .i64 0) := st_cell hB7 1; have z2 : _ = some (Value.int .u64 0) := st_cell hB7 2; have z3 : _ = some (Value.int .i64 0) := st_cell hB7 3; have z4 : _ = some (Value.int .i64 0) := st_cell hB7 4; have z5 : _ = some (Value.int .u64 0) := st_cell hB7 5; have zf := st_free hB7; have HF := Lib.hid hB7; clear hst hf hB7)))
        all_goals
          go_wp2_with fail
          have k7 := st_set (st_set (st_set (st_set (st_set (st_set HF.out 0 (.int .u64 (s1.h.own : Int))) 1 (.int .i64 (s1.h.tail : Int))) 2 (.int .u64 (s1.h.num : Int))) 3 (.int .i64 (s1.at' : Int))) 4 (.int .i64 ((s1.used : Int) + N))) 5 (.int .u64 ((s1.num : Int) + 1))
          have k8 := St.re (L := [_, _, _, _, _, _]) [5, 0, 1, 2, 3, 4] [] k7
          have hK := st_blk k8
          have k9 := (st_putobj (.deferred none) k8).drop
          have K9 := Lib.hid k9
          have HK := Lib.hid hK
          clear k7 k8 k9 hK
          refine ⟨by simp, .inl ⟨_, _, rfl, run_takeDeferred HK.out, ?_⟩⟩
          refine ⟨.tuple #[v9, .agg #[.int .u64 (s1.h.own : Int), .int .i64 (s1.h.tail : Int), .int .u64 (s1.h.num : Int), .int .i64 (s1.at' : Int), .int .i64 ((s1.used : Int) + N), .int .u64 ((s1.num : Int) + 1)]], ?_, _, by rw [HJ8.out]; rfl, ?_⟩
          · refine results_tc (fn := Tryd.f39) (p := 7) (q := 6) (ty := 69) rfl _ _ B7 69 _ (0, 0) _ ?_ (st_blk K9.out) Tryd.underlying69 rfl sizeSt
            rfl
          · rw [HE9.out]
            exact St.re (L := [_, _, _, _, _]) [1] [0, 2, 3, 4] K9.out
      case stop =>
        intro Dq W hst
        exact (St.know hst).1.elim
end
end Go.Proofs.YtjmjmekmaamclaaDoor.jrn
