/-
  Layer 5, the program: Format.
-/
import Derived.Test.YtjmjmekmaamclaaDoorMI
namespace Go.Proofs.YtjmjmekmaamclaaDoor.jrn
open Go.ChangeShapes Go.WideShapes Go.ChangeAt Go.RowKit mem dev sums
set_option linter.unusedVariables false
theorem pad_none (z : Nat) : pad ⟨#[]⟩ z = noughts z := (noughts_pad z).symm
theorem lit_any (W : World) (cs : List Value) (ty : TypeId) : ∀ j u, cs[j]? = some u → (W.alloc (.cells cs.toArray ty)).cell? ((⟨W.heap.size, 0, none⟩ : Addr).add j) = some u := by
  intro j u hj
  rw [Addr.add_mid, Nat.zero_add, cell_of_row _ _ _ _ _ _ (heap_alloc_new W _)]
  simpa using hj
theorem one3 (a b c : Value) (h1 : a.oneCell' = true) (h2 : b.oneCell' = true) (h3 : c.oneCell' = true) : ∀ u ∈ [a, b, c], u.oneCell' = true := by
  intro u hu
  simp only [List.mem_cons, List.not_mem_nil, or_false] at hu
  rcases hu with rfl | rfl | rfl <;> assumption
theorem zeros_len (R : Rg) : (zeros R).length = R.ln := by simp [zeros]
theorem zeros_more (R : Rg) (k : Nat) (h : k < R.ln) : (zeros R).take (k + 1) = (zeros R).take k ++ [(R.st + k, noughts R.z)] := by
  rw [List.take_succ_eq_append_getElem (by rw [zeros_len]; exact h)]
  simp [zeros]
theorem formatS_ok {R : Rg} (a : R.Ok) {D : DevM} (hnb : D.nb = R.nb) (hns : D.ns = R.ns) : ∀ x ∈ formatS R, x.Ok D.nb (512 * D.ns) := by
  have h1 := a.six
  have h2 := a.fit
  have hz := z_big a
  have hz2 : 512 * D.ns = R.z := by rw [hns]; rfl
  intro x hx
  unfold formatS at hx
  rcases List.mem_append.1 hx with h | h
  · obtain ⟨y, hy, rfl⟩ := List.mem_map.1 h
    have := zeros_mem hy
    exact ⟨by rw [hnb]; have := this.1.2; omega, by rw [this.2, hz2, noughts_size]⟩
  · simp only [List.mem_cons, List.not_mem_nil, or_false] at h
    rcases h with rfl | rfl | rfl
    · trivial
    · exact ⟨by rw [hnb]; omega, by rw [headB_size _ (by omega), hz2]⟩
    · trivial
theorem formatS_len {R : Rg} (a : R.Ok) : (formatS R).length ≤ 200 := by
  have := a.few
  unfold formatS
  rw [List.length_append, wrs_len, zeros_len]
  simp; omega
section
variable {w wr : World} {As : List Ast} {R : Rg} {X J : Nat} {D : DevM} {s : JSt}
set_option maxHeartbeats 2000000 in
set_option maxRecDepth 8000 in
theorem pformat_st (a : R.Ok) (g : Halves w) (h : St w wr (pDev X D :: As)) (hnb : D.nb = R.nb) (hns : D.ns = R.ns) (hup : D.down = false) (aD : D.Ok) (hR : D.Room 400) :
    Calls Tryd.prog 8 #[pt X, .int .i64 (R.st : Int), .int .i64 (R.ln : Int)] wr fun e w' => e = .returned (.int .i64 (runS D (formatS R)).2) ∧ St w w' (pDev X (runS D (formatS R)).1 :: As) := by
  have HRG := Lib.hid (region_ok a h hnb hup)
  have hz := z_big a
  have hz2 : R.z ≤ 4096 := by have := a.ns1; unfold Rg.z; omega
  have hln := a.few
  have hfit := a.fit
  have hnb2 := a.nb
  have HSI : Hid (∀ W L, St w W (pDev X D :: L) → Calls Tryd.prog 19 #[pt X] W fun e w' => e = .returned (.int .i64 (R.z : Int)) ∧ ∃ q, w' = W.drewN q) := Lib.hid fun W L k => by
    have := psize_any k
    rw [hns] at this
    exact this
  have HFI : Hid (∀ W L, St w W L → Calls Tryd.prog 32 #[.string ⟨#[]⟩, .int .i64 (R.z : Int)] W fun e w' => e = .returned (.string (noughts R.z)) ∧ St w w' L) := Lib.hid fun W L k => by
    have := filled_st k ⟨#[]⟩ R.z (by show 0 ≤ R.z; omega) hz2
    rw [pad_none] at this
    exact this
  have HBL : Hid (∀ W L, St w W L → Calls Tryd.prog 33 #[.agg #[.int .u64 1, .int .i64 0, .int .u64 1], .int .i64 (R.z : Int)] W fun e w' => e = .returned (.string (headB ⟨1, 0, 1⟩ R.z)) ∧ St w w' L) := Lib.hid fun W L k => block_st g k ⟨1, 0, 1⟩ R.z (by decide) (by decide) (by decide) (by omega) hz2
  have HRN : Hid (∀ W y L, St w W (aSteps X R y (formatS R) :: pDev X D :: L) → Calls Tryd.prog 34 #[y] W fun e w' => e = .returned (.int .i64 (runS D (formatS R)).2) ∧ St w w' (pDev X (runS D (formatS R)).1 :: L)) := Lib.hid fun W y L k => run_st k hup (formatS_ok a hnb hns) aD (room_less' hR (by have := formatS_len a; omega)) (by have := formatS_len a; omega)
  have HFS : Hid (formatS R = wrs (zeros R) ++ [.fl, .wr R.st (headB ⟨1, 0, 1⟩ R.z), .fl]) := Lib.hid rfl
  generalize runS D (formatS R) = res at HRN
  generalize headB ⟨1, 0, 1⟩ R.z = hb at HBL HFS
  have HLN := Lib.hid hln
  have HFT := Lib.hid hfit
  have HNB := Lib.hid hnb2
  clear h hnb hup a g hz hz2 hns aD hR hln hfit hnb2
  go_enter Tryd.func8, Tryd.ntmps8
  go_upto_block 0 with ((go_at_call 28; refine HRG.out.mono ?_; rintro e w2 ⟨rfl, hst⟩; have H2 := Lib.hid (steps_nil (X := X) (R := R) (st_new hst (rgCells X R) 63)); clear hst))
  generalize w2.heap.size = B7 at H2 ⊢
  go_cut [9] (fun u W => St w W (aSteps X R u (wrs (zeros R)) :: aVar B7 (rgCells X R) 63 :: pDev X D :: As))
  case first =>
    go_wp2_with fail
    go_loopw [9, 23] (fun u i W => ∃ k : Nat, k ≤ R.ln ∧ i = .int .i64 ↑k ∧ St w W (aSteps X R u (wrs ((zeros R).take k)) :: aVar B7 (rgCells X R) 63 :: pDev X D :: As)) (fun _ i _ => R.ln - (intOf i).toNat)
    case atStart => exact ⟨0, Nat.zero_le _, rfl, H2.out⟩
    case round =>
      obtain ⟨k, hk, rfl, hst⟩ := hrel
      clear H2
      by_cases hlt : k < R.ln
      · obtain ⟨fvs, ha, hst⟩ := steps_open hst
        obtain ⟨so, sc, rfl⟩ := st_shape hst
        have HA := Lib.hid ha
        have HML : Hid ((wrs ((zeros R).take k)).length ≤ 100) := Lib.hid (by rw [wrs_len, List.length_take]; have := HLN.out; omega)
        have HT : Hid (wrs ((zeros R).take (k + 1)) = wrs ((zeros R).take k) ++ [.wr (R.st + k) (noughts R.z)]) := Lib.hid (by rw [zeros_more R k hlt, wrs_append]; rfl)
        generalize wrs ((zeros R).take k) = m at HA HML HT hst
        have hst : St w wr (aRow tFn 1 (.slice so m.length sc) m.length fvs :: aMany (List.zipWith (aStp X R) fvs m) :: aVar B7 (rgCells X R) 63 :: pDev X D :: As) := hst
        have c0 : _ = some (pt X) := st_cell (hst.third) 0; have c1 : _ = some (Value.int .i64 (R.st : Int)) := st_cell (hst.third) 1; have c2 : _ = some (Value.int .i64 (R.ln : Int)) := st_cell (hst.third) 2
        have e1 : IntKind.i64.wrap ((R.st : Int) + k) = ((R.st + k : Nat) : Int) := by rw [IntWalk.i64_in _ (by have := HFT.out; have := HNB.out; omega)]; omega
        have e2 : IntKind.i64.wrap ((k : Int) + 1) = (k : Int) + 1 := IntWalk.i64_in _ (by have := HLN.out; omega)
        have k1 : (k : Int) < R.ln := by omega
        have HLT := Lib.hid hlt
        have H3 := Lib.hid hst
        clear hst ha hlt hk
        go_upto_region 8 with fail
        go_region_held3 (fun w' => w'.cell? ⟨B7, 0, none⟩ = some (pt X) ∧ w'.cell? ⟨B7, 1, none⟩ = some (.int .i64 (R.st : Int)) ∧ w'.cell? ⟨B7, 2, none⟩ = some (.int .i64 (R.ln : Int))) (go_keep) (first
          | ((go_at_call 19; refine (HSI.out _ _ (by first | exact H3.out.fourth | exact H3.out.fourth.drew | exact H3.out.fourth.drewN _)).mono ?_; rintro e w3 ⟨rfl, q, rfl⟩))
          | ((go_at_call 32; refine (HFI.out _ _ (by first | exact H3.out | exact H3.out.drew | exact H3.out.drewN _)).mono ?_; rintro e w4 ⟨rfl, hst⟩; have c0 : _ = some (pt X) := st_cell (hst.third) 0; have c1 : _ = some (Value.int .i64 (R.st : Int)) := st_cell (hst.third) 1; have c2 : _ = some (Value.int .i64 (R.ln : Int)) := st_cell (hst.third) 2; have H4 := Lib.hid hst; clear hst))
          | ((go_at_call 31; refine (write_st (X := X) (R := R) (by first | exact H4.out | exact H4.out.drew | exact H4.out.drewN _) (R.st + k) (noughts R.z)).mono ?_; rintro e w5 ⟨b1, b2, b3, rfl, hst⟩; have c0 : _ = some (pt X) := st_cell (hst.fourth) 0; have c1 : _ = some (Value.int .i64 (R.st : Int)) := st_cell (hst.fourth) 1; have c2 : _ = some (Value.int .i64 (R.ln : Int)) := st_cell (hst.fourth) 2; have H5 := Lib.hid (hst.swap); clear hst))
          | ((refine stp_append rowStp (H5.out.alloc (.cells #[.func (Fn.func 57) #[] #[pt b1, pt b2, pt b3]] tFn)) rfl _ _ rfl rfl ⟨w5.heap.size, 0, none⟩ 1 1 [.func (Fn.func 57) #[] #[pt b1, pt b2, pt b3]] rfl rfl (home_lit w5 0 _ _) (by intro u hu; rw [List.mem_singleton.1 hu]; rfl) (by decide) (by have := HML.out; unfold maxLen; omega) (by have := HML.out; omega) ?_; intro g6 cap6 w6 hst _; have c0 : _ = some (pt X) := st_cell (hst.fourth) 0; have c1 : _ = some (Value.int .i64 (R.st : Int)) := st_cell (hst.fourth) 1; have c2 : _ = some (Value.int .i64 (R.ln : Int)) := st_cell (hst.fourth) 2; have H6 := Lib.hid hst; clear hst)))
        all_goals
          go_wp2_with fail
          go_roundw
          case rel => exact ⟨k + 1, by have := HLT.out; omega, by go_num, by rw [HT.out]; exact steps_one HA.out rfl H6.out⟩
          case measure => simp [intOf] <;> omega
      · obtain rfl : k = R.ln := by omega
        rw [List.take_of_length_le (by rw [zeros_len]; exact Nat.le_refl _)] at hst
        have H3 := Lib.hid hst
        clear hst hlt hk
        go_wp2_with fail
        go_meet
        exact H3.out
  case rest =>
    obtain ⟨fvs, ha, hst⟩ := steps_open hcut
    obtain ⟨so, sc, rfl⟩ := st_shape hst
    have HA := Lib.hid ha
    have HML : Hid ((wrs (zeros R)).length ≤ 100) := Lib.hid (by rw [wrs_len, zeros_len]; exact HLN.out)
    generalize wrs (zeros R) = m at HA HML HFS hst
    have H := Lib.hid hst
    clear hst ha hcut
    go_upto_region 11 with fail
    have h3 := st_new H.out [.int .u64 1, .int .i64 0, .int .u64 1] 67
    generalize wc.heap.size = B11 at h3 ⊢
    have c0 : _ = some (pt X) := st_cell (h3.fourth) 0; have c1 : _ = some (Value.int .i64 (R.st : Int)) := st_cell (h3.fourth) 1; have c2 : _ = some (Value.int .i64 (R.ln : Int)) := st_cell (h3.fourth) 2; have n0 : _ = some (Value.int .u64 1) := st_cell (h3) 0; have n1 : _ = some (Value.int .i64 0) := st_cell (h3) 1; have n2 : _ = some (Value.int .u64 1) := st_cell (h3) 2
    have H3 := Lib.hid h3
    clear h3 H
    go_region_held3 (fun w' => w'.cell? ⟨B7, 0, none⟩ = some (pt X) ∧ w'.cell? ⟨B7, 1, none⟩ = some (.int .i64 (R.st : Int)) ∧ w'.cell? ⟨B7, 2, none⟩ = some (.int .i64 (R.ln : Int)) ∧ w'.cell? ⟨B11, 0, none⟩ = some (.int .u64 1) ∧ w'.cell? ⟨B11, 1, none⟩ = some (.int .i64 0) ∧ w'.cell? ⟨B11, 2, none⟩ = some (.int .u64 1)) (go_keep) (first
      | ((go_at_call 19; refine (HSI.out _ _ (by first | exact H3.out.fifth | exact H3.out.fifth.drew | exact H3.out.fifth.drewN _)).mono ?_; rintro e w3 ⟨rfl, q, rfl⟩))
      | ((go_at_call 33; refine (HBL.out _ _ (by first | exact H3.out | exact H3.out.drew | exact H3.out.drewN _)).mono ?_; rintro e w4 ⟨rfl, hst⟩; have c0 : _ = some (pt X) := st_cell (hst.fourth) 0; have c1 : _ = some (Value.int .i64 (R.st : Int)) := st_cell (hst.fourth) 1; have c2 : _ = some (Value.int .i64 (R.ln : Int)) := st_cell (hst.fourth) 2; have n0 : _ = some (Value.int .u64 1) := st_cell (hst) 0; have n1 : _ = some (Value.int .i64 0) := st_cell (hst) 1; have n2 : _ = some (Value.int .u64 1) := st_cell (hst) 2; have H4 := Lib.hid hst; clear hst))
      | ((go_at_call 31; refine (write_st (X := X) (R := R) (by first | exact H4.out | exact H4.out.drew | exact H4.out.drewN _) R.st hb).mono ?_; rintro e w5 ⟨b1, b2, b3, rfl, hst⟩; have c0 : _ = some (pt X) := st_cell (hst.fifth) 0; have c1 : _ = some (Value.int .i64 (R.st : Int)) := st_cell (hst.fifth) 1; have c2 : _ = some (Value.int .i64 (R.ln : Int)) := st_cell (hst.fifth) 2; have n0 : _ = some (Value.int .u64 1) := st_cell (hst.swap) 0; have n1 : _ = some (Value.int .i64 0) := st_cell (hst.swap) 1; have n2 : _ = some (Value.int .u64 1) := st_cell (hst.swap) 2; have H5 := Lib.hid (St.re (L := [_, _, _, _]) [2, 0, 1, 3] [] hst); clear hst))
      | ((refine stp_append rowStp (H5.out.alloc (.cells (List.toArray [.func (Fn.func 27) #[pt X] #[], .func (Fn.func 57) #[] #[pt b1, pt b2, pt b3], .func (Fn.func 27) #[pt X] #[]]) tFn)) rfl _ _ rfl rfl ⟨w5.heap.size, 0, none⟩ 3 3 [.func (Fn.func 27) #[pt X] #[], .func (Fn.func 57) #[] #[pt b1, pt b2, pt b3], .func (Fn.func 27) #[pt X] #[]] rfl rfl (lit_any w5 _ _) (one3 _ _ _ rfl rfl rfl) (by decide) (by have := HML.out; unfold maxLen; omega) (by have := HML.out; omega) ?_; intro g6 cap6 w6 hst _; have c0 : _ = some (pt X) := st_cell (hst.fifth) 0; have c1 : _ = some (Value.int .i64 (R.st : Int)) := st_cell (hst.fifth) 1; have c2 : _ = some (Value.int .i64 (R.ln : Int)) := st_cell (hst.fifth) 2; have n0 : _ = some (Value.int .u64 1) := st_cell (hst.third) 0; have n1 : _ = some (Value.int .i64 0) := st_cell (hst.third) 1; have n2 : _ = some (Value.int .u64 1) := st_cell (hst.third) 2; have k2 := stp_fl (X := X) (R := R) (stp_fl (X := X) (R := R) hst); have k3 := St.re (L := [_, _, _, _]) [1, 2, 0, 3] [] (St.gather (As := [_, _, _]) (St.re (L := [_, _, _, _, _, _]) [1, 3, 0, 2, 5, 4] [] k2)); have k4 := steps_more (X := X) (R := R) (fvs := fvs) (l := m) (gvs := [.func (Fn.func 27) #[pt X] #[], .func (Fn.func 57) #[] #[pt b1, pt b2, pt b3], .func (Fn.func 27) #[pt X] #[]]) (m := [.fl, .wr R.st hb, .fl]) HA.out ⟨rfl, one3 _ _ _ rfl rfl rfl⟩ (by rw [List.length_append]; rfl) k3; have H6 := Lib.hid (St.re (L := [_, _, _, _]) [0, 3, 1, 2] [] k4); rw [← HFS.out] at H6; clear hst k2 k3 k4))
      | ((go_at_call 34; refine (HRN.out _ _ _ (by first | exact H6.out | exact H6.out.drew | exact H6.out.drewN _)).mono ?_; rintro e w8 ⟨rfl, hst⟩; have c0 : _ = some (pt X) := st_cell (hst.third) 0; have c1 : _ = some (Value.int .i64 (R.st : Int)) := st_cell (hst.third) 1; have c2 : _ = some (Value.int .i64 (R.ln : Int)) := st_cell (hst.third) 2; have n0 : _ = some (Value.int .u64 1) := st_cell (hst.swap) 0; have n1 : _ = some (Value.int .i64 0) := st_cell (hst.swap) 1; have n2 : _ = some (Value.int .u64 1) := st_cell (hst.swap) 2; have H8 := Lib.hid hst; clear hst)))
    all_goals
      go_wp2_with fail
      go_ret
      exact ⟨rfl, H8.out.swap.drop.swap.drop⟩
end
end Go.Proofs.YtjmjmekmaamclaaDoor.jrn
