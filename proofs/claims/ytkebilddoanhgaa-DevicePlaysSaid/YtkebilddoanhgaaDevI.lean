/-
  Layer 4, the document's device: Write.
-/
import Derived.Test.YtkebilddoanhgaaDevH
namespace Go.Proofs.Ytkebilddoanhgaa.dev
open Go.ChangeShapes Go.WideShapes Go.ChangeAt Go.RowKit mem
set_option linter.unusedVariables false

theorem rowWrote : RowOf 48 96 (.agg #[.int .i64 0, .string ⟨#[]⟩]) 2 24 := ⟨Try.underlying48, by kernel_rfl, rfl, by decide⟩
theorem rowStr : RowOf 47 9 (.string ⟨#[]⟩) 1 16 := ⟨Try.underlying47, by kernel_rfl, rfl, by decide⟩
theorem rowInt : RowOf 38 3 (.int .i64 0) 1 8 := ⟨Try.underlying38, by kernel_rfl, rfl, by decide⟩

section
variable {w wr : World} {As : List Ast} {X : Nat} {D : DevM} {r : RRep}

theorem write_none {E : DevM} {n : Int} {data : ByteArray} (d : D.down = false) (hb : isBlock D n) (hz : data.size = 512 * D.ns) (h : D.counted = (E, none)) : D.write n data = ({ E with cache := D.cache ++ [(n.toNat, data)] }, 0) := by
  unfold DevM.write; rw [if_neg (by rw [d]; decide), if_pos ⟨hb, hz⟩, h]
theorem write_some {E : DevM} {p : Plan} {n : Int} {data : ByteArray} (d : D.down = false) (hb : isBlock D n) (hz : data.size = 512 * D.ns) (h : D.counted = (E, some p)) :
    D.write n data = (({ E with cache := D.cache ++ [(n.toNat, data)] } : DevM).fall p.keep p.torn p.mask, 8) := by
  unfold DevM.write; rw [if_neg (by rw [d]; decide), if_pos ⟨hb, hz⟩, h]
theorem write_down {n : Int} {data : ByteArray} (d : D.down = true) : D.write n data = (D, 8) := by
  unfold DevM.write; rw [if_pos d]
theorem write_arg {n : Int} {data : ByteArray} (d : D.down = false) (h : ¬ (isBlock D n ∧ data.size = 512 * D.ns)) : D.write n data = (D, 1) := by
  unfold DevM.write; rw [if_neg (by rw [d]; decide), if_neg h]

theorem lit2 (w : World) (a b : Value) (t : TypeId) : ∀ j u, [a, b][j]? = some u → (w.alloc (.cells #[a, b] t)).cell? ((⟨w.heap.size, 0, none⟩ : Addr).add j) = some u := by
  intro j u hj
  have hb := heap_alloc_new w (.cells #[a, b] t)
  rw [Addr.add_mid, Nat.zero_add, cell_of_row _ _ _ _ _ _ hb]
  simpa using hj
theorem lit1 (w : World) (a : Value) (t : TypeId) : ∀ j u, [a][j]? = some u → (w.alloc (.cells #[a] t)).cell? ((⟨w.heap.size, 0, none⟩ : Addr).add j) = some u := by
  intro j u hj
  have hb := heap_alloc_new w (.cells #[a] t)
  rw [Addr.add_mid, Nat.zero_add, cell_of_row _ _ _ _ _ _ hb]
  simpa using hj
theorem one2 (a : Int) (b : ByteArray) : ∀ u ∈ [Value.int .i64 a, Value.string b], u.oneCell' = true := by
  intro u hu
  simp at hu
  rcases hu with rfl | rfl <;> rfl

/-- behind the append: the head has the longer row -/
theorem push_end {W : World} {n : Nat} {data : ByteArray} {cv : Value} {Bs : List Ast} (h : St w W (aRow 96 2 cv (D.cache.length + 1) (wcells D.cache ++ [.int .i64 (n : Int), .string data]) :: aVar X (rHead D r) 50 :: aRow 9 1 r.sv D.nb (strs D.safe) :: aRow 3 1 r.kv r.ks.length (intsV r.ks) :: Bs)) :
    St w (W.setCell ⟨X, 3, none⟩ cv) (rParts X { D with cache := D.cache ++ [(n, data)] } { r with cv := cv } ++ Bs) := by
  have h1 := st_set h.swap 3 cv
  have h2 := h1.rest fun V k => k.swap
  have e1 : wcells D.cache ++ [.int .i64 (n : Int), .string data] = wcells (D.cache ++ [(n, data)]) := by rw [wcells_append]; rfl
  have e2 : D.cache.length + 1 = (D.cache ++ [(n, data)]).length := by simp
  rw [e1, e2] at h2
  exact h2

set_option maxRecDepth 8000 in
set_option maxHeartbeats 2000000 in
theorem rwrite_any (h : St w wr (rDev X D :: As)) (n : Int) (data : ByteArray) (hz : data.size ≤ 9223372036854775807) (hR : D.Room 1) :
    Calls Try.prog 22 #[.pointer (some ⟨X, 0, none⟩), .int .i64 n, .string data] wr fun e w' => e = .returned (.int .i64 (D.write n data).2) ∧ St w w' (rDev X (D.write n data).1 :: As) := by
  obtain ⟨r, a, h1⟩ := rdev_open h
  have hS := rsees a h1
  have c8 := hS.c8
  have c0 := hS.c0
  have c1 := hS.c1
  obtain ⟨R, hRes⟩ : ∃ R, R = D.write n data := ⟨_, rfl⟩
  rw [← hRes]
  have HRES := Lib.hid hRes
  clear hRes
  have H := Lib.hid h
  by_cases d : D.down = true
  · rw [d] at c8
    have HD := Lib.hid d
    clear hS d h h1 a hR
    go_enter Try.func22, Try.ntmps22
    go_wp2_with fail
    go_ret
    rw [HRES.out, write_down HD.out]
    exact ⟨rfl, H.out⟩
  · have d' : D.down = false := by simpa using d
    have HD := Lib.hid d'
    rw [d'] at c8
    have HZS := Lib.hid (rsize_any X D.ns wr c1 a.1.ns1)
    have zi : (data.size : Int) ≤ 9223372036854775807 := by omega
    have nsi : (D.ns : Int) ≤ 8 := by have := a.1.ns1; omega
    by_cases b0 : n < 0
    · have HX := Lib.hid (show ¬ (isBlock D n ∧ data.size = 512 * D.ns) from fun h => by have := h.1.1; omega)
      clear hS d d' h h1 a hR hz
      go_enter Try.func22, Try.ntmps22
      go_wp2_with (go_at_call 13; refine HZS.out.mono ?_; rintro e w' ⟨rfl, rfl⟩)
      go_ret
      rw [HRES.out, write_arg HD.out HX.out]
      exact ⟨rfl, H.out⟩
    · by_cases b1 : (D.nb : Int) ≤ n
      · have b2 : 0 ≤ n := by omega
        have HX := Lib.hid (show ¬ (isBlock D n ∧ data.size = 512 * D.ns) from fun h => by have := h.1.2; omega)
        clear hS d d' h h1 a hR hz b0
        go_enter Try.func22, Try.ntmps22
        go_wp2_with (go_at_call 13; refine HZS.out.mono ?_; rintro e w' ⟨rfl, rfl⟩)
        go_ret
        rw [HRES.out, write_arg HD.out HX.out]
        exact ⟨rfl, H.out⟩
      · obtain ⟨m, rfl⟩ := Int.eq_ofNat_of_zero_le (show 0 ≤ n from by omega)
        have m1 : (m : Int) < D.nb := by omega
        have m0 : (0 : Int) ≤ m := by omega
        by_cases b3 : data.size = 512 * D.ns
        · have t : ((data.size : Int) != 512 * (D.ns : Int)) = false := by rw [bne_eq_false_iff_eq]; omega
          have HB := Lib.hid (show isBlock D (m : Int) from ⟨m0, m1⟩)
          have HZ3 := Lib.hid b3
          have HCO := Lib.hid (rcounted_any h1 a (by have := hR.calls; omega))
          obtain ⟨s1, s2, s3, s4, s5, s6, s7⟩ := counted_same D
          have HLEN := Lib.hid (show D.cache.length ≤ 1073741823 from by have := hR.cache; omega)
          obtain ⟨E, hE⟩ : ∃ E, E = D.counted.1 := ⟨_, rfl⟩
          obtain ⟨F, hF⟩ : ∃ F, F = D.counted.2 := ⟨_, rfl⟩
          have HEF := Lib.hid (show D.counted = (E, F) by rw [hE, hF])
          have HEE := Lib.hid hE
          have HFF := Lib.hid hF
          rw [← hE] at s1 s2 s4
          have HS1 := Lib.hid s1
          have HS2 := Lib.hid s2
          have HS4 := Lib.hid s4
          clear hS d d' h h1 a hR hz b0 b1 s1 s2 s3 s4 s5 s6 s7 hE hF b3
          go_enter Try.func22, Try.ntmps22
          go_wp2_with (go_at_call 13; refine HZS.out.mono ?_; rintro e w' ⟨rfl, rfl⟩)
          refine HCO.out.mono ?_
          rintro e w1 ⟨rfl, q, hC, hst⟩
          rw [← HEE.out] at hst
          rw [← HFF.out]
          have HC := Lib.hid hC
          have HST := Lib.hid hst
          have HK := Lib.hid (HC.out.known)
          rw [← HEE.out] at HK
          have hS := rsees HK.out hst
          have c3 := hS.c3
          have HAL := Lib.hid (HST.out.third.alloc (.cells #[.int .i64 (m : Int), .string data] 96))
          have HBD := Lib.hid (show E.cache.length + 1 ≤ maxLen ∧ (E.cache.length + 1) * 24 ≤ 140737488355328 by rw [HS4.out]; have := HLEN.out; unfold maxLen; omega)
          clear hS hC hst HCO HZS c0 c1 c8 zi nsi
          have HKP : Hid (∀ cv, RKnown ({ E with cache := E.cache ++ [(m, data)] } : DevM) { rAt r q with cv := cv }) := Lib.hid fun cv => ⟨HK.out.1.push (by have := HB.out.2; rw [HS1.out]; omega) (by rw [HS2.out]; exact HZ3.out), HK.out.2⟩
          cases F with
          | none =>
            go_wp2_with (at_builtin; refine lst_append rowWrote HAL.out rfl _ _ rfl rfl ⟨w1.heap.size, 0, none⟩ 1 1 [.int .i64 (m : Int), .string data] rfl rfl (lit2 _ _ _ _) (one2 _ _) (by decide) HBD.out.1 HBD.out.2 ?_; intro g cap w3 hst3 hch3; have HST3 := Lib.hid hst3; have f3 := st_free hst3.swap 3; have e3 := st_cell hst3.swap 3; have HP := Lib.hid (push_end hst3); clear hst3 hch3)
            go_ret
            rw [HRES.out, write_none HD.out HB.out HZ3.out HEF.out, Int.toNat_natCast, ← HS4.out]
            exact ⟨rfl, rdev_shut _ (HKP.out _) HP.out⟩
          | some p =>
            go_wp2_with (at_builtin; refine lst_append rowWrote HAL.out rfl _ _ rfl rfl ⟨w1.heap.size, 0, none⟩ 1 1 [.int .i64 (m : Int), .string data] rfl rfl (lit2 _ _ _ _) (one2 _ _) (by decide) HBD.out.1 HBD.out.2 ?_; intro g cap w3 hst3 hch3; have HST3 := Lib.hid hst3; have f3 := st_free hst3.swap 3; have e3 := st_cell hst3.swap 3; have HP := Lib.hid (push_end hst3); clear hst3 hch3; have hS4 := rsees (HKP.out _) HP.out; have y5 := hS4.c5; have y6 := hS4.c6; have y7 := hS4.c7; clear hS4)
            have HPL := Lib.hid (HC.out.plan p HFF.out.symm)
            refine (rfall_any HP.out (HKP.out _) r.kv r.ks r.torn r.mask HK.out.2.2.1 (own_keep HP.out) (by simp only [List.length_append, List.length_singleton]; rw [HS4.out]; have := HLEN.out; omega)).mono ?_
            rintro e w5 ⟨rfl, r', ha, hst⟩
            go_wp2_with fail
            go_ret
            rw [HRES.out, write_some HD.out HB.out HZ3.out HEF.out, Int.toNat_natCast, ← HS4.out, HPL.out.1, HPL.out.2.1, HPL.out.2.2]
            exact ⟨rfl, rdev_shut r' ha hst⟩
        · have t : ((data.size : Int) != 512 * (D.ns : Int)) = true := by rw [bne_iff_ne]; omega
          have HX := Lib.hid (show ¬ (isBlock D (m : Int) ∧ data.size = 512 * D.ns) from fun h => b3 h.2)
          clear hS d d' h h1 a hR hz b0 b1 b3
          go_enter Try.func22, Try.ntmps22
          go_wp2_with (go_at_call 13; refine HZS.out.mono ?_; rintro e w' ⟨rfl, rfl⟩)
          go_ret
          rw [HRES.out, write_arg HD.out HX.out]
          exact ⟨rfl, H.out⟩
end
end Go.Proofs.Ytkebilddoanhgaa.dev
