/-
  Layer 3, the document's answers: Frame, Unframe.
-/
import Derived.Test.YtbgkehdnnloahaaDoorSumsC
namespace Go.Proofs.YtbgkehdnnloahaaDoor.sums
open Go.ChangeShapes Go.WideShapes Go.ChangeAt Go.RowKit
set_option linter.unusedVariables false

/-- what Frame answers -/
def frameM (kd : Nat) (p : ByteArray) : ByteArray × Int := if 16777216 < p.size then (⟨#[]⟩, 1) else (⟨(laidL kd p.data.toList).toArray⟩, 0)

theorem frame_any (kd : Nat) (p : ByteArray) (hk : kd < 256) (w : World) :
    Calls Tryd.prog 8 #[.int .u8 kd, .string p] w fun e w' => e = .returned (.tuple #[.string (frameM kd p).1, .int .i64 (frameM kd p).2]) ∧ Below w.heap.size w w' := by
  unfold frameM
  by_cases c : 16777216 < p.size
  · rw [if_pos c]
    have c1 : (16777216 : Int) < p.size := by omega
    clear hk
    go_enter Tryd.func8, Tryd.ntmps8
    go_wp2_with fail
    go_ret2
    exact ⟨rfl, Below.refl _ _⟩
  · rw [if_neg c]
    have HL := Lib.hid (laid_any kd p hk (by omega) w)
    have c1 : (p.size : Int) ≤ 16777216 := by omega
    clear hk
    go_enter Tryd.func8, Tryd.ntmps8
    go_wp2_with (go_at_call 20; refine HL.out.mono ?_; rintro e w' ⟨rfl, hb⟩)
    go_ret2
    exact ⟨rfl, hb⟩

theorem results_tmp4 {fn : Func} {t u v x : Tmp} (h : fn.results = #[.tmp t, .tmp u, .tmp v, .tmp x]) (tmps : Array Value) (P : Program) (w : World) :
    (results fn tmps).run P w = .ok (.tuple #[tmps.getD t undef, tmps.getD u undef, tmps.getD v undef, tmps.getD x undef]) w := by
  simp [results, h]


/-- what Unframe answers -/
def formErr : Nat × ByteArray × ByteArray × Int := (0, ⟨#[]⟩, ⟨#[]⟩, 4)
def lenOf (s : ByteArray) : Nat := numL (s.extract 1 s.size).data.toList
def goodSum (s : ByteArray) : Prop := crcM (s.extract 0 5 ++ s.extract 9 (9 + lenOf s)).data.toList = numL (s.extract 5 s.size).data.toList
instance (s : ByteArray) : Decidable (goodSum s) := inferInstanceAs (Decidable (crcM (s.extract 0 5 ++ s.extract 9 (9 + lenOf s)).data.toList = numL (s.extract 5 s.size).data.toList))
def unframeM (s : ByteArray) : Nat × ByteArray × ByteArray × Int :=
  if s.size < 9 then formErr
  else if 16777216 < lenOf s ∨ s.size < 9 + lenOf s then formErr
  else if goodSum s then ((s.data.toList.headD 0).toNat, s.extract 9 (9 + lenOf s), s.extract (9 + lenOf s) s.size, 0)
  else formErr
theorem unframe_e1 {s : ByteArray} (h : s.size < 9) : unframeM s = formErr := by unfold unframeM; rw [if_pos h]
theorem unframe_e2 {s : ByteArray} (h : ¬ s.size < 9) (h2 : 16777216 < lenOf s ∨ s.size < 9 + lenOf s) : unframeM s = formErr := by unfold unframeM; rw [if_neg h, if_pos h2]
theorem unframe_e3 {s : ByteArray} (h : ¬ s.size < 9) (h2 : ¬ (16777216 < lenOf s ∨ s.size < 9 + lenOf s)) (h3 : ¬ goodSum s) : unframeM s = formErr := by unfold unframeM; rw [if_neg h, if_neg h2, if_neg h3]
theorem unframe_e0 {s : ByteArray} (h : ¬ s.size < 9) (h2 : ¬ (16777216 < lenOf s ∨ s.size < 9 + lenOf s)) (h3 : goodSum s) :
    unframeM s = ((s.data.toList.headD 0).toNat, s.extract 9 (9 + lenOf s), s.extract (9 + lenOf s) s.size, 0) := by unfold unframeM; rw [if_neg h, if_neg h2, if_pos h3]
def uEnd (x : Nat × ByteArray × ByteArray × Int) : Ending := .returned (.tuple #[.int .u8 (x.1 : Nat), .string x.2.1, .string x.2.2.1, .int .i64 x.2.2.2])

theorem lenOf_lt (s : ByteArray) : lenOf s < 4294967296 := numL_lt _

theorem slice_mid (s : ByteArray) (n : Nat) (h : 9 + (n : Int) ≤ s.size) (w : World) :
    (Instr.slice 9 (.string s) (some (.int .i64 9)) (some (.int .i64 (9 + (n : Int)))) none).run Tryd.prog w = .ok (.string (s.extract 9 (9 + n))) w := by
  have := run_slice_string (P := Tryd.prog) w 9 s .i64 .i64 9 (9 + (n : Int)) Tryd.underlying9 (by omega) (by omega) h
  rw [this, show (9 + (n : Int)).toNat = 9 + n from by omega]
  rfl
theorem slice_from (s : ByteArray) (n : Nat) (h : 9 + (n : Int) ≤ s.size) (w : World) :
    (Instr.slice 9 (.string s) (some (.int .i64 (9 + (n : Int)))) none none).run Tryd.prog w = .ok (.string (s.extract (9 + n) s.size)) w := by
  have := run_slice_string_from_if (P := Tryd.prog) w 9 s .i64 (9 + (n : Int)) Tryd.underlying9
  rw [this, if_pos ⟨by omega, h⟩, show (9 + (n : Int)).toNat = 9 + n from by omega]

theorem head_at (s : ByteArray) (h : 0 < s.size) : (s[0]'h).toNat = (s.data.toList.headD 0).toNat := by
  have : ∀ (l : List UInt8) (hl : 0 < l.length), (l[0]'hl) = l.headD 0 := fun l hl => by
    match l, hl with
    | a :: l, _ => rfl
  exact congrArg UInt8.toNat (this s.data.toList (by simpa using h))

theorem unframe_any (s : ByteArray) (hs : s.size ≤ 9223372036854775807) (w : World) :
    Calls Tryd.prog 10 #[.string s] w fun e w' => e = uEnd (unframeM s) ∧ Below w.heap.size w w' := by
  by_cases h : s.size < 9
  · rw [unframe_e1 h]
    have c1 : (s.size : Int) < 9 := by omega
    go_enter Tryd.func10, Tryd.ntmps10
    go_wp2_with fail
    ((try simp only [Exit.inBlock, Exit.then]); refine bodyPost_ret (results_tmp4 rfl _ _ _) rfl ?_)
    exact ⟨rfl, Below.refl _ _⟩
  · have h0 : (9 : Int) ≤ s.size := by omega
    have HN := Lib.hid (number_any (s.extract 1 s.size) (by rw [ByteArray.size_extract]; omega) w)
    have hl := lenOf_lt s
    have E2 := Lib.hid fun h2 => unframe_e2 (s := s) h h2
    have E3 := Lib.hid fun h2 h3 => unframe_e3 (s := s) h h2 h3
    have E0 := Lib.hid fun h2 h3 => unframe_e0 (s := s) h h2 h3
    rw [show numL (s.extract 1 s.size).data.toList = lenOf s from rfl] at HN
    have HC := Lib.hid fun (W : World) => crc_any (s.extract 0 5 ++ s.extract 9 (9 + lenOf s)) (by rw [ByteArray.size_append, ByteArray.size_extract, ByteArray.size_extract]; omega) W
    have HM := Lib.hid fun (W : World) => number_any (s.extract 5 s.size) (by rw [ByteArray.size_extract]; omega) W
    have HG : Hid (goodSum s ↔ crcM (s.extract 0 5 ++ s.extract 9 (9 + lenOf s)).data.toList = numL (s.extract 5 s.size).data.toList) := Lib.hid Iff.rfl
    obtain ⟨n, hn⟩ : ∃ n, n = lenOf s := ⟨_, rfl⟩
    rw [← hn] at HN HC E2 E3 E0 hl HG
    clear hn
    have n0 : (0 : Int) ≤ n := by omega
    by_cases c1 : 16777216 < n
    · rw [E2.out (Or.inl c1)]
      have c1i : (16777216 : Int) < n := by omega
      have c2i : (n : Int) ≤ 4294967295 := by omega
      clear hl c1 hs h
      go_enter Tryd.func10, Tryd.ntmps10
      go_wp2_with (go_at_call 22; refine HN.out.mono ?_; rintro e w' ⟨rfl, q, rfl⟩)
      ((try simp only [Exit.inBlock, Exit.then]); refine bodyPost_ret (results_tmp4 rfl _ _ _) rfl ?_)
      exact ⟨rfl, bl_drewN (Below.refl _ _) _⟩
    · by_cases c2 : s.size < 9 + n
      · rw [E2.out (Or.inr c2)]
        have c1i : (n : Int) ≤ 16777216 := by omega
        have c2i : (s.size : Int) - 9 < n := by omega
        have s1 : (s.size : Int) ≤ 9223372036854775807 := by omega
        clear hl c1 c2 hs h
        go_enter Tryd.func10, Tryd.ntmps10
        go_wp2_with (go_at_call 22; refine HN.out.mono ?_; rintro e w' ⟨rfl, q, rfl⟩)
        ((try simp only [Exit.inBlock, Exit.then]); refine bodyPost_ret (results_tmp4 rfl _ _ _) rfl ?_)
        exact ⟨rfl, bl_drewN (Below.refl _ _) _⟩
      · have hx : ¬ (16777216 < n ∨ s.size < 9 + n) := by omega
        have e3 := E3.out hx
        have e0 := E0.out hx
        have c1i : (n : Int) ≤ 16777216 := by omega
        have c2i : (n : Int) ≤ (s.size : Int) - 9 := by omega
        have s1 : (s.size : Int) ≤ 9223372036854775807 := by omega
        have c3i : 9 + (n : Int) ≤ s.size := by omega
        clear hl c1 c2 hx h
        have hsl := fun wx => slice_mid s n (by omega) wx
        have hsf := fun wx => slice_from s n (by omega) wx
        have g1 : ¬ 9223372036854775807 < min 5 s.size + (min (9 + n) s.size - 9) := by omega
        have h5 : (5 : Int) ≤ s.size := by omega
        have i0 : (0 : Int) < s.size := by omega
        have i1 : 0 < s.size := by omega
        have hd : (s[0]'i1).toNat = (s.data.toList.headD 0).toNat := head_at s i1
        have HD := Lib.hid hd
        clear hd
        by_cases g : goodSum s
        · rw [e0 g]
          have t := HG.out.1 g
          rw [t] at HC
          clear e0 e3 g HG t
          generalize numL (s.extract 5 s.size).data.toList = y at HC HM
          go_enter Tryd.func10, Tryd.ntmps10
          go_wp2_with (go_at_call 22; refine HN.out.mono ?_; rintro e w' ⟨rfl, q, rfl⟩)
          have hbw : Below w.heap.size w (w.drewN q) := bl_drewN (Below.refl _ _) _
          generalize w.drewN q = W at hbw ⊢
          go_quiet (first
            | (go_at_call 22; exact Calls.quiet_of (HM.out _))
            | (go_at_call 12; exact Calls.quiet_of_same ((HC.out _).mono fun e w' h => ⟨h.1, h.2.symm⟩)))
          go_wp2_with fail
          go_quiet (fail)
          go_wp2_with fail
          ((try simp only [Exit.inBlock, Exit.then]); refine bodyPost_ret (results_tmp4 rfl _ _ _) rfl ?_)
          refine ⟨?_, bl_drewN (bl_drewN hbw _) _⟩
          rw [← HD.out]
          rfl
        · rw [e3 g]
          have t : ¬ _ = _ := fun h => g (HG.out.2 h)
          clear e0 e3 g HG
          generalize crcM (s.extract 0 5 ++ s.extract 9 (9 + n)).data.toList = x at HC t
          generalize numL (s.extract 5 s.size).data.toList = y at HM t
          have t1 : ((x : Int) == (y : Int)) = false := by rw [beq_eq_false_iff_ne]; omega
          clear t
          go_enter Tryd.func10, Tryd.ntmps10
          go_wp2_with (go_at_call 22; refine HN.out.mono ?_; rintro e w' ⟨rfl, q, rfl⟩)
          have hbw : Below w.heap.size w (w.drewN q) := bl_drewN (Below.refl _ _) _
          generalize w.drewN q = W at hbw ⊢
          go_quiet (first
            | (go_at_call 22; exact Calls.quiet_of (HM.out _))
            | (go_at_call 12; exact Calls.quiet_of_same ((HC.out _).mono fun e w' h => ⟨h.1, h.2.symm⟩)))
          go_wp2_with fail
          ((try simp only [Exit.inBlock, Exit.then]); refine bodyPost_ret (results_tmp4 rfl _ _ _) rfl ?_)
          exact ⟨rfl, bl_drewN hbw _⟩
end Go.Proofs.YtbgkehdnnloahaaDoor.sums
