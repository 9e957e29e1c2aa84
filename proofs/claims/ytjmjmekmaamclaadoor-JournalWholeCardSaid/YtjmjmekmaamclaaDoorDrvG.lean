/-
  Layer 4, the program's Read, Flush, Pull.
-/
import Derived.Test.YtjmjmekmaamclaaDoorDrvF
import Derived.Test.YtjmjmekmaamclaaDoorDevH
namespace Go.Proofs.YtjmjmekmaamclaaDoor.dev
open Go.ChangeShapes Go.WideShapes Go.ChangeAt Go.RowKit mem
set_option linter.unusedVariables false

section
variable {w wr : World} {As : List Ast} {X : Nat} {D : DevM} {r : PRep}

theorem mapAt_of {W : World} {b c : Nat} {V : Nat → Option Value} : ∀ F, (aMap b c V).p W F → MapAt W b c V := fun F h => h.1

set_option maxRecDepth 8000 in
set_option maxHeartbeats 1000000 in
theorem pread_any (h : St w wr (pDev X D :: As)) (n : Int) (hn64 : InI64 n) (hR : D.Room 1) :
    Calls Tryd.prog 44 #[pt X, .int .i64 n] wr fun e w' => e = .returned (.tuple #[.string (D.read n).2.1, .int .i64 (D.read n).2.2]) ∧ St w w' (pDev X (D.read n).1 :: As) := by
  obtain ⟨r, a, h1⟩ := pdev_open h
  have hS := psees a h1
  have HREF := Lib.hid (prefused_any D.down wr hS.c8)
  unfold DevM.read
  by_cases d : D.down = true
  · rw [if_pos d]
    rw [d] at HREF
    have H := Lib.hid h
    clear hS d h h1 a hR hn64
    go_enter Tryd.func44, Tryd.ntmps44
    go_wp2_with (go_at_call 46; refine HREF.out.mono ?_; rintro e w' ⟨rfl, rfl⟩)
    go_ret2
    exact ⟨rfl, H.out⟩
  · rw [if_neg d]
    have d' : D.down = false := by simpa using d
    rw [d'] at HREF
    have c5 := hS.c5
    obtain ⟨g, cap, hv, _⟩ := hS.hs
    rw [hv] at c5
    have HTH := Lib.hid (pthere_any (X := X) n D.nb cap (some ⟨g, 0, none⟩) wr c5)
    by_cases c : isBlock D n
    · rw [if_pos c]
      rw [decide_eq_true (show 0 ≤ n ∧ n < D.nb from c)] at HTH
      obtain ⟨m, rfl⟩ := Int.eq_ofNat_of_zero_le c.1
      have hm : m < D.nb := by have := c.2; omega
      rw [Int.toNat_natCast]
      have h2 := pdev_reads h1 (D.reads + 1)
      have a2 : PKnown { D with reads := D.reads + 1 } r := pknown_like (q := r) a rfl rfl rfl rfl rfl
      have h3 := st_new h2 [pt X] 32
      have hP := st_cell h3 0
      have hcs := csees (M := aMap r.mb r.mc (mapV D r)) (s := D.safe) a2 a2.ok.safe mapAt_of (h3.drop : St w _ (pPartsG X { D with reads := D.reads + 1 } r D.safe (aMap r.mb r.mc (mapV D r)) ++ As))
      have HN := Lib.hid (pnewest1_any hcs a2 hP m hm (by have := hR.cache; show D.cache.length ≤ _; omega))
      rw [show lastOf (DevM.ws { D with reads := D.reads + 1 } m) (D.safe.getD m empty) = D.now m from (now_ws D m).symm] at HN
      have H2 := Lib.hid (pdev_shut r a2 h3.drop)
      have HNEW := Lib.hid (fun W => pnewest_any X W)
      have hr := hR.reads
      have m0 : (0 : Int) ≤ m := by omega
      have m1 : (m : Int) < D.nb := by omega
      have e1 : IntKind.i64.wrap ((D.reads : Int) + 1) = (D.reads : Int) + 1 := by rw [IntKind.wrap_i64]; omega
      have c10 := hS.c10
      have f10 := hS.fr 10
      rw [show ((D.reads + 1 : Nat) : Int) = (D.reads : Int) + 1 from by simp] at HN H2
      simp only [World.size_setCell] at HN
      clear hS h h1 h2 h3 hcs hP a a2 c d d' hR hr hm hn64 c5 hv
      go_enter Tryd.func44, Tryd.ntmps44
      go_wp2_with (first
        | (go_at_call 46; refine HREF.out.mono ?_; rintro e w' ⟨rfl, rfl⟩)
        | (go_at_call 71; refine HTH.out.mono ?_; rintro e w' ⟨rfl, rfl⟩)
        | (go_at_call 51; refine (HNEW.out _).mono ?_; rintro e w' ⟨rfl, rfl⟩)
        | (go_at_call 73; refine HN.out.mono ?_; rintro e w' ⟨rfl, rfl⟩))
      go_ret2
      exact ⟨rfl, H2.out⟩
    · rw [if_neg c]
      rw [decide_eq_false (show ¬ (0 ≤ n ∧ n < D.nb) from c)] at HTH
      have H := Lib.hid h
      clear hS d h h1 a hR hn64 c c5 hv d'
      go_enter Tryd.func44, Tryd.ntmps44
      go_wp2_with (first
        | (go_at_call 46; refine HREF.out.mono ?_; rintro e w' ⟨rfl, rfl⟩)
        | (go_at_call 71; refine HTH.out.mono ?_; rintro e w' ⟨rfl, rfl⟩))
      go_ret2
      exact ⟨rfl, H.out⟩

theorem ppull_any {K : Ast} (h : St w wr (pDev X D :: K :: As)) (kv : Value) (ks : List Int) (torn : Int) (mask : Nat) (hk : ∀ W F, K.p W F → IntsIn W kv ks) (C : CrashOk ks torn mask) (hR : D.Room 0) :
    Calls Tryd.prog 23 #[pt X, .agg #[kv, .int .i64 torn, .int .u8 (mask : Int)]] wr fun e w' => e = .returned (.int .i64 (D.pull ks torn mask).2) ∧ St w w' (pDev X (D.pull ks torn mask).1 :: K :: As) := by
  obtain ⟨r, a, h1⟩ := pdev_open h
  have hints : IntsIn wr kv ks := by obtain ⟨F, hF⟩ := h.drop.get; exact hk _ _ hF
  have h2 := h1.alloc (.cells #[kv, .int .i64 torn, .int .u8 (mask : Int)] 53)
  have H := Lib.hid (h.alloc (.cells #[kv, .int .i64 torn, .int .u8 (mask : Int)] 53))
  have HREF := Lib.hid (prefused_any D.down _ (psees a h2).c8)
  have HG := Lib.hid (pgodown_any h2 a (ints_ch hints ((Ch.refl _ _).alloc _)) C (by have := hR.cache; omega))
  unfold DevM.pull
  by_cases d : D.down = true
  · rw [if_pos d]
    rw [d] at HREF
    clear d h h1 h2 a hR hk hints HG C
    go_enter Tryd.func23, Tryd.ntmps23
    go_wp2_with (go_at_call 46; refine HREF.out.mono ?_; rintro e w' ⟨rfl, rfl⟩)
    go_ret
    exact ⟨rfl, H.out⟩
  · rw [if_neg d]
    have d' : D.down = false := by simpa using d
    rw [d'] at HREF
    clear d h h1 h2 a hR hk hints C d'
    go_enter Tryd.func23, Tryd.ntmps23
    go_wp2_with (first
      | (go_at_call 46; refine HREF.out.mono ?_; rintro e w' ⟨rfl, rfl⟩)
      | (go_at_call 48; refine HG.out.mono ?_; rintro e w' ⟨rfl, r', hk', h'⟩; have HD := Lib.hid (pdev_shut r' hk' h'); clear hk' h'))
    go_ret
    exact ⟨rfl, HD.out⟩

theorem pflush_any (h : St w wr (pDev X D :: As)) (hR : D.Room 1) :
    Calls Tryd.prog 27 #[pt X] wr fun e w' => e = .returned (.int .i64 D.flush.2) ∧ St w w' (pDev X D.flush.1 :: As) := by
  obtain ⟨r, a, h1⟩ := pdev_open h
  have HREF := Lib.hid (prefused_any D.down _ (psees a h1).c8)
  have HCO := Lib.hid (pcounted_any h1 a (by have := hR.calls; omega))
  obtain ⟨s1, s2, s3, s4, s5, s6, s7⟩ := counted_same D
  have HCL := Lib.hid (show D.counted.1.cache.length ≤ 1073741824 by rw [s4]; have := hR.cache; omega)
  have HS4 := Lib.hid s4
  have HNEW := Lib.hid (fun W => pnewest_any X W)
  obtain ⟨R, hRes⟩ : ∃ R, R = D.flush := ⟨_, rfl⟩
  rw [← hRes]
  have HRES := Lib.hid hRes
  by_cases d : D.down = true
  · rw [d] at HREF
    have H := Lib.hid h
    have HD := Lib.hid d
    clear d h h1 a hR hRes HCO s1 s2 s3 s4 s5 s6 s7
    go_enter Tryd.func27, Tryd.ntmps27
    go_wp2_with (go_at_call 46; refine HREF.out.mono ?_; rintro e w' ⟨rfl, rfl⟩)
    go_ret
    have : R = (D, 8) := by rw [HRES.out]; unfold DevM.flush; rw [if_pos HD.out]
    rw [this]
    exact ⟨rfl, H.out⟩
  · have d' : D.down = false := by simpa using d
    rw [d'] at HREF
    have HD := Lib.hid d'
    obtain ⟨E, hE⟩ : ∃ E, E = D.counted.1 := ⟨_, rfl⟩
    obtain ⟨F, hF⟩ : ∃ F, F = D.counted.2 := ⟨_, rfl⟩
    have HEF := Lib.hid (show D.counted = (E, F) by rw [hE, hF])
    have HEE := Lib.hid hE
    have HFF := Lib.hid hF
    rw [← hE] at HCL HS4
    clear d d' h h1 a hR hRes s1 s2 s3 s4 s5 s6 s7 hE hF
    go_enter Tryd.func27, Tryd.ntmps27
    go_wp2_with (go_at_call 46; refine HREF.out.mono ?_; rintro e w' ⟨rfl, rfl⟩)
    refine HCO.out.mono ?_
    rintro e w1 ⟨rfl, q, hC, hst⟩
    rw [← HEE.out] at hst
    rw [← HFF.out]
    have hkn := hC.known
    rw [← HEE.out] at hkn
    have HK := Lib.hid hkn
    have HC := Lib.hid hC
    have HST := Lib.hid hst
    clear HCO HREF hC hkn
    cases F with
    | none =>
      have h3 := st_new hst [pt X] 32
      have HT := Lib.hid (psettle_any (B := aVar w1.heap.size [pt X] 32) h3 HK.out (newest_has (P := w1.heap.size) HK.out HCL.out) (.inl ⟨rfl, _, rfl, rfl⟩))
      clear h3 hst
      go_wp2_with (first
        | (go_at_call 51; refine (HNEW.out _).mono ?_; rintro e w' ⟨rfl, rfl⟩)
        | (go_at_call 50; refine HT.out.mono ?_; rintro e w' ⟨rfl, mb, h'⟩; have HD2 := Lib.hid (pdev_shut _ (settled_known HK.out (fun n t ht => lastOf_size _ _ ht fun x hx => (ws_size HK.out.ok x hx).1) mb) h'); clear h'))
      go_ret
      have : R = ({ E with safe := flushed D.cache D.safe, cache := [] }, 0) := by
        rw [HRES.out]; unfold DevM.flush; rw [if_neg (by rw [HD.out]; decide), HEF.out]
      rw [this]
      refine ⟨rfl, ?_⟩
      have hd := HD2.out
      unfold settled at hd
      rw [flushed_mapped HK.out.ok] at hd
      obtain ⟨s1, s2, s3, s4, s5, s6, s7⟩ := counted_same D
      rw [← HEE.out] at s3 s4
      rw [s3, s4] at hd
      exact hd
    | some p =>
      have hS := psees HK.out hst
      have x1 := hS.c1
      have x2 := hS.c2
      have x3 := hS.c3
      have hsh : IntsIn w1 (pAt r q).kv (pAt r q).ks := share_ints (h := hst.fifth)
      have HG := Lib.hid (pgodown_any hst HK.out hsh HK.out.crash HCL.out)
      have HPL := Lib.hid (HC.out.plan p (by rw [← HFF.out]))
      clear hS hst hsh
      go_wp2_with (go_at_call 48; refine HG.out.mono ?_; rintro e w' ⟨rfl, r', hk', h'⟩; have HD2 := Lib.hid (pdev_shut r' hk' h'); clear hk' h')
      go_ret
      have : R = (E.fall p.keep p.torn p.mask, 8) := by
        rw [HRES.out]; unfold DevM.flush; rw [if_neg (by rw [HD.out]; decide), HEF.out]
      rw [this, HPL.out.1, HPL.out.2.1, HPL.out.2.2]
      exact ⟨rfl, HD2.out⟩
end
end Go.Proofs.YtjmjmekmaamclaaDoor.dev
