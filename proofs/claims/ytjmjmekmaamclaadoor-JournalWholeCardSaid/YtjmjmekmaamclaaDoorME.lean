/-
  Layer 5, the program: found.
-/
import Derived.Test.YtjmjmekmaamclaaDoorMF
import Derived.Test.YtjmjmekmaamclaaDoorMC
namespace Go.Proofs.YtjmjmekmaamclaaDoor.jrn
open Go.ChangeShapes Go.WideShapes Go.ChangeAt Go.RowKit mem dev sums
set_option linter.unusedVariables false
section
variable {w wr : World} {As : List Ast} {R : Rg} {X : Nat} {D : DevM}
abbrev fndL (R : Rg) (D : DevM) (X B1 B2 B4 k : Nat) (c : JSt) (As : List Ast) : List Ast := pDev X (DevM.more D k) :: aVar B4 (stCells c) 69 :: aVar B2 (stCells zeroSt) 69 :: aVar B1 (rgCells X R) 63 :: As
set_option maxHeartbeats 1200000 in
set_option maxRecDepth 8000 in
theorem found_st (a : R.Ok) (g : Halves w) (u : Up R D) (h : St w wr (pDev X D :: As)) (hR : D.Room 2) {c : JSt} {th : Bool} (hc : fnd R D.safe 2 = (c, th)) :
    Calls Tryd.prog 29 #[rgV X R] wr fun e w' => e = .returned (if th = true then .tuple #[stV c, .int .i64 0] else .tuple #[.agg #[.int .u64 0, .int .i64 0, .int .u64 0, .int .i64 0, .int .i64 0, .int .u64 0], .int .i64 9]) ∧ St w w' (pDev X (DevM.more D 2) :: As) := by
  have hr := ring_big a
  have h1 := st_new (st_new (st_new h (rgCells X R) 63) (stCells zeroSt) 69) (stCells zeroSt) 69
  simp only [World.size_alloc] at h1
  have HX := Lib.hid h1.fourth
  have HC := Lib.hid hc
  clear hc
  have HU := Lib.hid u
  have HRM := Lib.hid hR
  have HG := Lib.hid g
  clear h h1 u hR g
  go_enter Tryd.func29, Tryd.ntmps29
  go_upto_block 0 with fail
  generalize wr.heap.size + 1 + 1 = B4 at HX ⊢
  generalize wr.heap.size + 1 = B2 at HX ⊢
  generalize wr.heap.size = B1 at HX ⊢
  go_cut [5] (fun x W => x = .bool th ∧ St w W (pDev X (DevM.more D 2) :: aVar B4 (stCells c) 69 :: aVar B2 (stCells zeroSt) 69 :: aVar B1 (rgCells X R) 63 :: As))
  case rest =>
    obtain ⟨rfl, hst⟩ := hcut
    have s0 : _ = some (Value.int .u64 (c.h.own : Int)) := st_cell hst.swap 0
    have s1 : _ = some (Value.int .i64 (c.h.tail : Int)) := st_cell hst.swap 1
    have s2 : _ = some (Value.int .u64 (c.h.num : Int)) := st_cell hst.swap 2
    have s3 : _ = some (Value.int .i64 (c.at' : Int)) := st_cell hst.swap 3
    have s4 : _ = some (Value.int .i64 (c.used : Int)) := st_cell hst.swap 4
    have s5 : _ = some (Value.int .u64 (c.num : Int)) := st_cell hst.swap 5
    have z0 : _ = some (Value.int .u64 0) := st_cell hst.third 0
    have z1 : _ = some (Value.int .i64 0) := st_cell hst.third 1
    have z2 : _ = some (Value.int .u64 0) := st_cell hst.third 2
    have z3 : _ = some (Value.int .i64 0) := st_cell hst.third 3
    have z4 : _ = some (Value.int .i64 0) := st_cell hst.third 4
    have z5 : _ = some (Value.int .u64 0) := st_cell hst.third 5
    have zf := st_free hst.third
    have H3 := Lib.hid hst.third
    clear hst
    rcases th with _ | _
    · have hs6 := st_setrow (cs := #[.int .u64 0, .int .i64 0, .int .u64 0, .int .i64 0, .int .i64 0, .int .u64 0]) H3.out
      have HBK := Lib.hid (st_blk hs6)
      have HS6 := Lib.hid hs6.drop.swap.drop.swap.drop
      have HB3 := Lib.hid (st_blk H3.out)
      clear hs6 s0 s1 s2 s3 s4 s5 z0 z1 z2 z3 z4 z5 zf
      go_upto_region 14 with fail
      refine wp_region_lit (lst_buildz rfl rfl (wpList_store_row rfl 69 _ _ rfl B2 #[.int .u64 0, .int .i64 0, .int .u64 0, .int .i64 0, .int .i64 0, .int .u64 0] rfl rfl 69 _ HB3.out sizeSt rfl (by simp [Value.oneCell']) ?_))
      go_wp2_with fail
      refine bodyPost_ret (results_ct rfl _ _ B2 69 _ (0, 0) _ rfl HBK.out Tryd.underlying69 rfl sizeSt) rfl ?_
      exact ⟨rfl, HS6.out⟩
    · have hs6 := st_set (st_set (st_set (st_set (st_set (st_set H3.out 0 (.int .u64 (c.h.own : Int))) 1 (.int .i64 (c.h.tail : Int))) 2 (.int .u64 (c.h.num : Int))) 3 (.int .i64 (c.at' : Int))) 4 (.int .i64 (c.used : Int))) 5 (.int .u64 (c.num : Int))
      have HS6 : Hid (St w _ (aVar B2 (stCells c) 69 :: pDev X (DevM.more D 2) :: aVar B4 (stCells c) 69 :: aVar B1 (rgCells X R) 63 :: As)) := Lib.hid hs6
      have HBK := Lib.hid (st_blk HS6.out)
      clear hs6
      go_wp2_with fail
      refine bodyPost_ret (results_ct rfl _ _ B2 69 (stCells c).toArray (0, 0) _ rfl HBK.out Tryd.underlying69 rfl sizeSt) rfl ?_
      exact ⟨rfl, HS6.out.drop.swap.drop.swap.drop⟩
  go_upto_block 1 with fail
  go_loopw [5, 11] (fun th i W => ∃ k : Nat, k ≤ 2 ∧ i = .int .i64 ↑k ∧ th = .bool (fnd R D.safe k).2 ∧ St w W (pDev X (DevM.more D k) :: aVar B4 (stCells (fnd R D.safe k).1) 69 :: aVar B2 (stCells zeroSt) 69 :: aVar B1 (rgCells X R) 63 :: As)) (fun _ i _ => 2 - (intOf i).toNat)
  case atStart => exact ⟨0, by omega, rfl, rfl, HX.out⟩
  case round =>
    obtain ⟨k, hk, rfl, rfl, hst⟩ := hrel
    clear HX
    by_cases hlt : k < 2
    · have hin : R.st + k < R.nb := by have := a.six; have := a.fit; omega
      have hnb := a.nb
      have HRD := Lib.hid (up_read a (HU.out.more k) hst (R.st + k) ⟨by omega, by have := a.six; omega⟩ (HU.out.room (room_less' HRM.out (by omega))))
      have ek : ((R.st + k : Nat) : Int) = (R.st : Int) + k := by omega
      have hrd := HRD.out
      rw [ek, more_more, show (DevM.more D k).safe = D.safe from rfl] at hrd
      have HRD2 := Lib.hid hrd
      have e1 : IntKind.i64.wrap ((R.st : Int) + k) = (R.st : Int) + k := IntWalk.i64_in _ (by omega)
      have f0 : _ = some (pt X) := st_cell hst.fourth 0
      have f1 : _ = some (Value.int .i64 (R.st : Int)) := st_cell hst.fourth 1
      have f2 : _ = some (Value.int .i64 (R.ln : Int)) := st_cell hst.fourth 2
      have hts : (D.safe.getD (R.st + k) empty).size = R.z := by
        have u := HU.out
        rw [u.ok.getD (by rw [u.nb]; exact hin), u.ns]
        rfl
      have hz := z_big a
      have hz2 : R.z ≤ 4096 := by have := a.ns1; unfold Rg.z; omega
      have HRG : Hid (∀ W L, St w W L → Calls Tryd.prog 54 #[rgV X R] W fun e w' => e = .returned (.int .i64 (R.ring : Int)) ∧ St w w' L) := Lib.hid fun W L k => ring_st a k X
      have HHD : Hid (∀ W L, St w W L → Calls Tryd.prog 53 #[.string (D.safe.getD (R.st + k) empty), .int .i64 (R.ring : Int)] W fun e w' => e = .returned (.tuple #[hdV (headRes (D.safe.getD (R.st + k) empty) R.ring).1, .bool (headRes (D.safe.getD (R.st + k) empty) R.ring).2]) ∧ St w w' L) := Lib.hid fun W L q => headOf_st HG.out q _ _ hr (by rw [hts]; omega) (by rw [hts]; exact hz2)
      have HSTEP : Hid (fnd R D.safe (k + 1) = if (headRes (D.safe.getD (R.st + k) empty) R.ring).2 = true ∧ ((fnd R D.safe k).2 = false ∨ (fnd R D.safe k).1.h.own < (headRes (D.safe.getD (R.st + k) empty) R.ring).1.own) then (⟨(headRes (D.safe.getD (R.st + k) empty) R.ring).1, k, 0, (headRes (D.safe.getD (R.st + k) empty) R.ring).1.num⟩, true) else fnd R D.safe k) := Lib.hid rfl
      have k1 : (k : Int) < 2 := by omega
      have k0 : (0 : Int) ≤ k := by omega
      have l1 : (R.st : Int) ≤ 4096 := by omega
      generalize headRes (D.safe.getD (R.st + k) empty) R.ring = FO at HHD HSTEP
      obtain ⟨F, ok⟩ := FO
      generalize D.safe.getD (R.st + k) empty = t at HRD2 HHD
      generalize fnd R D.safe k = c at HSTEP hst HRD2 ⊢
      obtain ⟨c, th⟩ := c
      clear hst hrd HRD hts ek hin
      go_upto_region 9 with (go_at_call 44; refine HRD2.out.mono ?_; rintro e w2 ⟨rfl, hst⟩; have m0 : _ = some (pt X) := st_cell hst.fourth 0; have m1 : _ = some (Value.int .i64 (R.st : Int)) := st_cell hst.fourth 1; have m2 : _ = some (Value.int .i64 (R.ln : Int)) := st_cell hst.fourth 2; have H2 := Lib.hid hst; clear hst)
      go_upto_region 10 with (first
        | ((go_at_call 54; refine (HRG.out _ _ H2.out).mono ?_; rintro e w3 ⟨rfl, hst⟩; have H3 := Lib.hid hst; clear hst))
        | ((go_at_call 53; refine (HHD.out _ _ H3.out).mono ?_; rintro e w4 ⟨rfl, hst⟩; have H4 := Lib.hid hst; clear hst)))
      have h5 := st_new H4.out [.int .u64 (F.own : Int), .int .i64 (F.tail : Int), .int .u64 (F.num : Int)] 67
      have hne : ¬ B4 = w4.heap.size := by have := st_lt (H4.out.swap); omega
      have hne2 : ¬ w4.heap.size = B4 := fun e => hne e.symm
      generalize w4.heap.size = B9 at h5 hne hne2 ⊢
      have n0 : _ = some (Value.int .u64 (F.own : Int)) := st_cell h5 0
      have n1 : _ = some (Value.int .i64 (F.tail : Int)) := st_cell h5 1
      have n2 : _ = some (Value.int .u64 (F.num : Int)) := st_cell h5 2
      have s0 : _ = some (Value.int .u64 (c.h.own : Int)) := st_cell h5.third 0
      have s1 : _ = some (Value.int .i64 (c.h.tail : Int)) := st_cell h5.third 1
      have s2 : _ = some (Value.int .u64 (c.h.num : Int)) := st_cell h5.third 2
      have s3 : _ = some (Value.int .i64 (c.at' : Int)) := st_cell h5.third 3
      have s4 : _ = some (Value.int .i64 (c.used : Int)) := st_cell h5.third 4
      have s5 : _ = some (Value.int .u64 (c.num : Int)) := st_cell h5.third 5
      have sf := st_free h5.third
      have H5 := Lib.hid h5
      have hs6 := st_set (st_set (st_set (st_set (st_set (st_set h5.third 0 (.int .u64 (F.own : Int))) 1 (.int .i64 (F.tail : Int))) 2 (.int .u64 (F.num : Int))) 3 (.int .i64 (k : Int))) 4 (.int .i64 0)) 5 (.int .u64 (F.num : Int))
      have H6 := Lib.hid hs6
      have e2 : IntKind.i64.wrap ((k : Int) + 1) = (k : Int) + 1 := IntWalk.i64_in _ (by omega)
      clear h5 hs6 H2 H3 H4
      generalize w4.alloc _ = w5 at H5 H6 n0 n1 n2 s0 s1 s2 s3 s4 s5 sf ⊢
      rcases ok with _ | _
      · have HN : Hid (fnd R D.safe (k + 1) = (c, th)) := Lib.hid (by rw [HSTEP.out, if_neg fun q => Bool.noConfusion q.1])
        go_wp2_with fail
        go_roundw
        case rel => exact ⟨k + 1, by omega, by go_num, by rw [HN.out], by rw [HN.out]; exact H5.out.drop⟩
        case measure => simp [intOf] <;> omega
      · rcases th with _ | _
        · have HN : Hid (fnd R D.safe (k + 1) = (⟨F, k, 0, F.num⟩, true)) := Lib.hid (by rw [HSTEP.out, if_pos ⟨rfl, .inl rfl⟩])
          go_wp2_with fail
          go_roundw
          case rel => exact ⟨k + 1, by omega, by go_num, by rw [HN.out], by rw [HN.out]; exact H6.out.swap.drop.swap⟩
          case measure => simp [intOf] <;> omega
        · by_cases cl : c.h.own < F.own
          · have HN : Hid (fnd R D.safe (k + 1) = (⟨F, k, 0, F.num⟩, true)) := Lib.hid (by rw [HSTEP.out, if_pos ⟨rfl, .inr cl⟩])
            have cl1 : (c.h.own : Int) < F.own := by omega
            clear cl
            go_wp2_with fail
            go_roundw
            case rel => exact ⟨k + 1, by omega, by go_num, by rw [HN.out], by rw [HN.out]; exact H6.out.swap.drop.swap⟩
            case measure => simp [intOf] <;> omega
          · have HN : Hid (fnd R D.safe (k + 1) = (c, true)) := Lib.hid (by rw [HSTEP.out, if_neg]; rintro ⟨_, q | q⟩; exact Bool.noConfusion q; exact cl q)
            have cl1 : ¬ (c.h.own : Int) < F.own := by omega
            have cl2 : (F.own : Int) ≤ c.h.own := by omega
            clear cl
            go_wp2_with fail
            go_roundw
            case rel => exact ⟨k + 1, by omega, by go_num, by rw [HN.out], by rw [HN.out]; exact H5.out.drop⟩
            case measure => simp [intOf] <;> omega
    · obtain rfl : k = 2 := by omega
      rw [HC.out] at hst ⊢
      have H3 := Lib.hid hst
      clear hst
      go_wp2_with fail
      go_meet
      exact ⟨rfl, H3.out⟩
end
end Go.Proofs.YtjmjmekmaamclaaDoor.jrn
/-
  Layer 5, plain: reads change nothing that is written; runs of steps one behind the other; the log's transactions one by one.
-/
namespace Go.Proofs.YtjmjmekmaamclaaDoor.jrn
open dev sums
set_option linter.unusedVariables false

theorem more_nil (D : DevM) : DevM.more D 0 = D := rfl
theorem counted_more (D : DevM) (k : Nat) : (DevM.more D k).counted = (DevM.more D.counted.1 k, D.counted.2) := by
  unfold DevM.counted DevM.more
  cases D.plan with
  | none => rfl
  | some p =>
    simp only []
    split <;> rfl
theorem does_more (s : Stp) (D : DevM) (k : Nat) : s.does (DevM.more D k) = (DevM.more (s.does D).1 k, (s.does D).2) := by
  have hc := counted_more D k
  cases s with
  | wr n t =>
    show (DevM.more D k).write (n : Int) t = (DevM.more (D.write (n : Int) t).1 k, (D.write (n : Int) t).2)
    unfold DevM.write
    rw [hc]
    show (if D.down = true then _ else if isBlock D n ∧ t.size = 512 * D.ns then _ else _) = _
    by_cases h1 : D.down = true
    · rw [if_pos h1, if_pos h1]
    · rw [if_neg h1, if_neg h1]
      by_cases h2 : isBlock D n ∧ t.size = 512 * D.ns
      · rw [if_pos h2, if_pos h2]
        rcases D.counted with ⟨E, _ | p⟩ <;> rfl
      · rw [if_neg h2, if_neg h2]
  | fl =>
    show (DevM.more D k).flush = (DevM.more D.flush.1 k, D.flush.2)
    unfold DevM.flush
    rw [hc]
    show (if D.down = true then _ else _) = _
    by_cases h1 : D.down = true
    · rw [if_pos h1, if_pos h1]
    · rw [if_neg h1, if_neg h1]
      rcases D.counted with ⟨E, _ | p⟩ <;> rfl
theorem runS_more (l : List Stp) : ∀ (D : DevM) (k : Nat), runS (DevM.more D k) l = (DevM.more (runS D l).1 k, (runS D l).2) := by
  induction l with
  | nil => intro D k; rfl
  | cons s l ih =>
    intro D k
    show (if (s.does (DevM.more D k)).2 = 0 then runS (s.does (DevM.more D k)).1 l else s.does (DevM.more D k)) = _
    rw [does_more]
    show (if (s.does D).2 = 0 then runS (DevM.more (s.does D).1 k) l else _) = (DevM.more (if (s.does D).2 = 0 then runS (s.does D).1 l else s.does D).1 k, (if (s.does D).2 = 0 then runS (s.does D).1 l else s.does D).2)
    by_cases h : (s.does D).2 = 0
    · rw [if_pos h, if_pos h, ih]
    · rw [if_neg h, if_neg h]
theorem runS_append (a b : List Stp) : ∀ (D : DevM), runS D (a ++ b) = if (runS D a).2 = 0 then runS (runS D a).1 b else runS D a := by
  induction a with
  | nil => intro D; exact (if_pos rfl).symm
  | cons s a ih =>
    intro D
    show (if (s.does D).2 = 0 then runS (s.does D).1 (a ++ b) else s.does D) = if (if (s.does D).2 = 0 then runS (s.does D).1 a else s.does D).2 = 0 then runS (if (s.does D).2 = 0 then runS (s.does D).1 a else s.does D).1 b else (if (s.does D).2 = 0 then runS (s.does D).1 a else s.does D)
    by_cases h : (s.does D).2 = 0
    · rw [if_pos h, if_pos h, ih]
    · rw [if_neg h, if_neg h, if_neg h]
theorem wrs_append (a b : List Wr) : wrs (a ++ b) = wrs a ++ wrs b := List.map_append

section
variable {R : Rg} {S : List ByteArray}
theorem logAt_at : ∀ {L : List (List Wr)} {p n : Nat}, LogAt R S p n L → ∀ j (hj : j < L.length), ValidW R L[j] ∧ Laid R S (p + total (L.take j)) (n + j) L[j] ∧ total (L.take j) + (L[j].length + 2) ≤ total L
  | [], _, _, _, j, hj => by cases hj
  | x :: L, p, n, ⟨h1, h2, h3⟩, 0, _ => ⟨h1, h2, by show 0 + (x.length + 2) ≤ x.length + 2 + total L; omega⟩
  | x :: L, p, n, ⟨h1, h2, h3⟩, j + 1, hj => by
    have hj' : j < L.length := by simpa using hj
    obtain ⟨k1, k2, k3⟩ := logAt_at h3 j hj'
    refine ⟨k1, ?_, ?_⟩
    · show Laid R S (p + (x.length + 2 + total (L.take j))) (n + (j + 1)) L[j]
      rw [show p + (x.length + 2 + total (L.take j)) = p + (x.length + 2) + total (L.take j) from by omega, show n + (j + 1) = n + 1 + j from by omega]
      exact k2
    · show x.length + 2 + total (L.take j) + (L[j].length + 2) ≤ x.length + 2 + total L
      omega
theorem total_len : ∀ (L : List (List Wr)), 2 * L.length ≤ total L
  | [] => Nat.le_refl _
  | x :: L => by have := total_len L; rw [List.length_cons, total]; omega
theorem flatten_len : ∀ (L : List (List Wr)), L.flatten.length ≤ total L
  | [] => Nat.le_refl _
  | x :: L => by have := flatten_len L; rw [List.flatten_cons, List.length_append, total]; omega
theorem take_snoc (L : List (List Wr)) (j : Nat) (hj : j < L.length) : L.take (j + 1) = L.take j ++ [L[j]] := List.take_succ_eq_append_getElem hj
theorem wrs_ok {R : Rg} {D : DevM} (hnb : D.nb = R.nb) (hns : D.ns = R.ns) {l : List Wr} (h : ∀ w ∈ l, w.1 < R.nb ∧ ¬ R.inR w.1 ∧ w.2.size = R.z) : ∀ s ∈ wrs l, s.Ok D.nb (512 * D.ns) := by
  intro s hs
  obtain ⟨x, hx, rfl⟩ := List.mem_map.1 hs
  have := h x hx
  exact ⟨by rw [hnb]; exact this.1, by rw [hns]; exact this.2.2⟩
/-- a device that is up, behind writes that are outside the region -/
theorem up_went {D E : DevM} {l : List Wr} (u : Up R D) (v : Went D (wrs l) E) (h : ∀ w ∈ l, ¬ R.inR w.1) : Up R E ∧ E.safe = D.safe ∧ E.cache = D.cache ++ l := by
  have hsc := v.sc
  rw [stepsA_wrs] at hsc
  have h1 : E.safe = D.safe := congrArg Prod.fst hsc
  have h2 : E.cache = D.cache ++ l := congrArg Prod.snd hsc
  refine ⟨⟨v.ok, v.nb.trans u.nb, v.ns.trans u.ns, v.up, fun x hx => ?_⟩, h1, h2⟩
  rw [h2] at hx
  rcases List.mem_append.1 hx with k | k
  · exact u.cache x k
  · exact h x k
theorem room_went {D E : DevM} {l : List Stp} {m : Nat} (v : Went D l E) (h : D.Room (l.length + m)) : E.Room m :=
  ⟨by have := h.calls; rw [v.calls]; omega, by have := h.reads; rw [v.reads]; omega, by have := h.cache; have := v.cl; omega⟩
end
end Go.Proofs.YtjmjmekmaamclaaDoor.jrn
