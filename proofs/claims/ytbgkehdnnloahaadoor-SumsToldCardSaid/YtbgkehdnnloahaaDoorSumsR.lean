/-
  Layer 3, the program: Unframe.
-/
import Derived.Test.YtbgkehdnnloahaaDoorSumsQ
namespace Go.Proofs.YtbgkehdnnloahaaDoor.sums
open Go.ChangeShapes Go.WideShapes Go.ChangeAt Go.RowKit
set_option linter.unusedVariables false

theorem numL_cut (s : ByteArray) (i j k l : Nat) (h : 4 ≤ min j (min l s.size - k) - i) (h2 : k + 4 + i ≤ s.size) : numL (((s.extract k l).extract i j).data.toList) = numL (s.extract (k + i) s.size).data.toList := by
  rw [numL_at _ (by rw [ByteArray.size_extract, ByteArray.size_extract]; omega), numL_at _ (by rw [ByteArray.size_extract]; omega)]
  simp only [ByteArray.getElem_extract, Nat.add_assoc]
theorem numL_cut1 (s : ByteArray) (k l : Nat) (h : 4 ≤ min l s.size - k) : numL ((s.extract k l).data.toList) = numL (s.extract k s.size).data.toList := by
  rw [numL_at _ (by rw [ByteArray.size_extract]; omega), numL_at _ (by rw [ByteArray.size_extract]; omega)]
  simp only [ByteArray.getElem_extract]
theorem extract_two (s : ByteArray) (i j k l : Nat) : (s.extract k l).extract i j = s.extract (k + i) (min (k + j) l) := by
  apply ByteArray.ext
  simp [ByteArray.extract_extract]

set_option maxHeartbeats 2000000 in
theorem unframe_prog (s : ByteArray) (hs : s.size ≤ 9223372036854775807) (w : World) (g : Halves w) :
    Calls Tryd.prog 9 #[.string s] w fun e w' => e = uEnd (unframeM s) ∧ Below w.heap.size w w' := by
  by_cases h : s.size < 9
  · rw [unframe_e1 h]
    have c1 : (s.size : Int) < 9 := by omega
    clear g
    go_enter Tryd.func9, Tryd.ntmps9
    go_wp2_with fail
    ((try simp only [Exit.inBlock, Exit.then]); refine bodyPost_ret (results_tmp4 rfl _ _ _) rfl ?_)
    exact ⟨rfl, Below.refl _ _⟩
  · have h0 : (9 : Int) ≤ s.size := by omega
    have hl := lenOf_lt s
    have E2 := Lib.hid fun h2 => unframe_e2 (s := s) h h2
    have E3 := Lib.hid fun h2 h3 => unframe_e3 (s := s) h h2 h3
    have E0 := Lib.hid fun h2 h3 => unframe_e0 (s := s) h h2 h3
    have HG := Lib.hid g
    -- the front and what is behind the head
    have s1 : ∀ wx, (Instr.slice 9 (.string s) none (some (.int .i64 5)) none).run Tryd.prog wx = .ok (.string (s.extract 0 5)) wx := fun wx => by
      rw [run_slice_string_to_if (P := Tryd.prog) wx 9 s .i64 5 Tryd.underlying9, if_pos ⟨by omega, by omega⟩]; rfl
    have s2 : ∀ wx, (Instr.slice 9 (.string s) (some (.int .i64 9)) none none).run Tryd.prog wx = .ok (.string (s.extract 9 s.size)) wx := fun wx => by
      rw [run_slice_string_from_if (P := Tryd.prog) wx 9 s .i64 9 Tryd.underlying9, if_pos ⟨by omega, by omega⟩]; rfl
    have s5 : ∀ wx, (Instr.slice 9 (.string s) (some (.int .i64 5)) (some (.int .i64 9)) none).run Tryd.prog wx = .ok (.string (s.extract 5 9)) wx := fun wx => by
      rw [run_slice_string (P := Tryd.prog) wx 9 s .i64 .i64 5 9 Tryd.underlying9 (by omega) (by omega) (by omega)]; rfl
    have fz : (s.extract 0 5).size = 5 := by rw [ByteArray.size_extract]; omega
    have bz : (s.extract 9 s.size).size = s.size - 9 := by rw [ByteArray.size_extract]; omega
    have s3 : ∀ wx, (Instr.slice 9 (.string (s.extract 0 5)) (some (.int .i64 1)) none none).run Tryd.prog wx = .ok (.string ((s.extract 0 5).extract 1 5)) wx := fun wx => by
      rw [run_slice_string_from_if (P := Tryd.prog) wx 9 _ .i64 1 Tryd.underlying9, if_pos ⟨by omega, by omega⟩, fz]; rfl
    have HN := Lib.hid fun (W : World) => number_prog ((s.extract 0 5).extract 1 5) (by rw [ByteArray.size_extract, fz]; omega) W
    rw [numL_cut s 1 5 0 5 (by omega) (by omega), Nat.zero_add, show numL (s.extract 1 s.size).data.toList = lenOf s from rfl] at HN
    have HM := Lib.hid fun (W : World) => number_prog (s.extract 5 9) (by rw [ByteArray.size_extract]; omega) W
    rw [numL_cut1 s 5 9 (by omega)] at HM
    have s4 : ∀ n : Nat, 9 + n ≤ s.size → ∀ wx, (Instr.slice 9 (.string (s.extract 9 s.size)) none (some (.int .u32 n)) none).run Tryd.prog wx = .ok (.string (s.extract 9 (9 + n))) wx := fun n hn wx => by
      rw [run_slice_string_to_if (P := Tryd.prog) wx 9 _ .u32 n Tryd.underlying9, if_pos ⟨by omega, by omega⟩, extract_two, show min (9 + ((n : Int)).toNat) s.size = 9 + n from by omega]
    have s6 : ∀ n : Nat, 9 + n ≤ s.size → ∀ wx, (Instr.slice 9 (.string (s.extract 9 s.size)) (some (.int .u32 n)) none none).run Tryd.prog wx = .ok (.string (s.extract (9 + n) s.size)) wx := fun n hn wx => by
      rw [run_slice_string_from_if (P := Tryd.prog) wx 9 _ .u32 n Tryd.underlying9, if_pos ⟨by omega, by omega⟩, extract_two, bz, show 9 + ((n : Int)).toNat = 9 + n from by omega, show min (9 + (s.size - 9)) s.size = s.size from by omega]
    have HC := Lib.hid fun (W : World) (gW : Halves W) => frameSum_prog (s.extract 0 5) (s.extract 9 (9 + lenOf s)) (by omega) (by rw [ByteArray.size_extract]; omega) W gW
    have ec : (s.extract 0 5).data.toList ++ (s.extract 9 (9 + lenOf s)).data.toList = (s.extract 0 5 ++ s.extract 9 (9 + lenOf s)).data.toList := by rw [ByteArray.data_append, Array.toList_append]
    rw [ec] at HC
    have HX : Hid (goodSum s ↔ crcM (s.extract 0 5 ++ s.extract 9 (9 + lenOf s)).data.toList = numL (s.extract 5 s.size).data.toList) := Lib.hid Iff.rfl
    obtain ⟨n, hn⟩ : ∃ n, n = lenOf s := ⟨_, rfl⟩
    rw [← hn] at HN HC E2 E3 E0 hl HX
    have bzi : ((s.extract 9 s.size).size : Int) = (s.size : Int) - 9 := by omega
    clear hn ec g fz bz
    generalize s.extract 0 5 = F at s1 s3 HC HN HX
    generalize F.extract 1 5 = F1 at s3 HN
    generalize s.extract 9 s.size = T at s2 s4 s6 bzi
    generalize s.extract 5 9 = N2 at s5 HM
    have n0 : (0 : Int) ≤ n := by omega
    have n2 : (n : Int) ≤ 4294967295 := by omega
    by_cases c1 : 16777216 < n
    · rw [E2.out (Or.inl c1)]
      have c1i : (16777216 : Int) < n := by omega
      clear hl c1 hs h s4 s5 s6
      go_enter Tryd.func9, Tryd.ntmps9
      go_wp2_with fail
      go_quiet (fail)
      go_wp2_with (go_at_call 21; refine (HN.out _).mono ?_; rintro e w' ⟨rfl, q, rfl⟩)
      ((try simp only [Exit.inBlock, Exit.then]); refine bodyPost_ret (results_tmp4 rfl _ _ _) rfl ?_)
      exact ⟨rfl, bl_drewN (Below.refl _ _) _⟩
    · by_cases c2 : s.size < 9 + n
      · rw [E2.out (Or.inr c2)]
        have c1i : (n : Int) ≤ 16777216 := by omega
        have c2i : (T.size : Int) < n := by omega
        have s1i : (s.size : Int) ≤ 9223372036854775807 := by omega
        clear hl c1 c2 hs h s4 s5 s6 bzi
        go_enter Tryd.func9, Tryd.ntmps9
        go_wp2_with fail
        go_quiet (fail)
        go_wp2_with (go_at_call 21; refine (HN.out _).mono ?_; rintro e w' ⟨rfl, q, rfl⟩)
        ((try simp only [Exit.inBlock, Exit.then]); refine bodyPost_ret (results_tmp4 rfl _ _ _) rfl ?_)
        exact ⟨rfl, bl_drewN (Below.refl _ _) _⟩
      · have hx : ¬ (16777216 < n ∨ s.size < 9 + n) := by omega
        have e3 := E3.out hx
        have e0 := E0.out hx
        have c1i : (n : Int) ≤ 16777216 := by omega
        have c2i : (n : Int) ≤ T.size := by omega
        have hp := s4 n (by omega)
        have hr := s6 n (by omega)
        have i0 : (0 : Int) < s.size := by omega
        have i1 : 0 < s.size := by omega
        have HD := Lib.hid (head_at s i1)
        clear s4 s6 hl c1 c2 hx h E2 E3 E0 hs
        generalize s.extract 9 (9 + n) = P at hp HC HX e0
        generalize s.extract (9 + n) s.size = R at hr e0
        by_cases gd : goodSum s
        · rw [e0 gd]
          have t := HX.out.1 gd
          rw [t] at HC
          clear e0 e3 gd HX t
          generalize numL (s.extract 5 s.size).data.toList = y at HC HM
          go_enter Tryd.func9, Tryd.ntmps9
          go_wp2_with fail
          go_quiet (fail)
          go_wp2_with (go_at_call 21; refine (HN.out _).mono ?_; rintro e w1 ⟨rfl, hq⟩; have hbw : Below w.heap.size w w1 := (by obtain ⟨q, rfl⟩ := hq; exact bl_drewN (bl_drewN (Below.refl _ _) _) _); clear hq)
          go_quiet (fail)
          go_wp2_with fail
          go_region_with (first
            | (go_at_call 19; refine (HC.out _ (HG.out.keep (by repeat (first | exact hbw | refine bl_drew ?_ | refine bl_drewN ?_ _)))).mono ?_; rintro e w3 ⟨rfl, b3⟩)
            | (go_at_call 21; refine (HM.out _).mono ?_; rintro e w4 ⟨rfl, q4, rfl⟩))
          all_goals
            have b4 := bl_trans (w := w) (by repeat (first | exact hbw | refine bl_drew ?_ | refine bl_drewN ?_ _)) b3
            clear b3 hbw
            go_wp2_with fail
            ((try simp only [Exit.inBlock, Exit.then]); refine bodyPost_ret (results_tmp4 rfl _ _ _) rfl ?_)
            refine ⟨?_, by repeat (first | exact b4 | refine bl_drew ?_ | refine bl_drewN ?_ _)⟩
            rw [← HD.out]
            rfl
        · rw [e3 gd]
          have t : ¬ _ = _ := fun h => gd (HX.out.2 h)
          clear e0 e3 gd HX HD
          generalize crcM (F ++ P).data.toList = x at HC t
          generalize numL (s.extract 5 s.size).data.toList = y at HM t
          have t1 : ((x : Int) == (y : Int)) = false := by rw [beq_eq_false_iff_ne]; omega
          clear t
          go_enter Tryd.func9, Tryd.ntmps9
          go_wp2_with fail
          go_quiet (fail)
          go_wp2_with (go_at_call 21; refine (HN.out _).mono ?_; rintro e w1 ⟨rfl, hq⟩; have hbw : Below w.heap.size w w1 := (by obtain ⟨q, rfl⟩ := hq; exact bl_drewN (bl_drewN (Below.refl _ _) _) _); clear hq)
          go_quiet (fail)
          go_wp2_with fail
          go_region_with (first
            | (go_at_call 19; refine (HC.out _ (HG.out.keep (by repeat (first | exact hbw | refine bl_drew ?_ | refine bl_drewN ?_ _)))).mono ?_; rintro e w3 ⟨rfl, b3⟩)
            | (go_at_call 21; refine (HM.out _).mono ?_; rintro e w4 ⟨rfl, q4, rfl⟩))
          all_goals
            have b4 := bl_trans (w := w) (by repeat (first | exact hbw | refine bl_drew ?_ | refine bl_drewN ?_ _)) b3
            clear b3 hbw
            go_wp2_with fail
            ((try simp only [Exit.inBlock, Exit.then]); refine bodyPost_ret (results_tmp4 rfl _ _ _) rfl ?_)
            exact ⟨rfl, by repeat (first | exact b4 | refine bl_drew ?_ | refine bl_drewN ?_ _)⟩
end Go.Proofs.YtbgkehdnnloahaaDoor.sums
