/-
  Layer 4, the program's Write.
-/
import Derived.Test.YtjmjmekmaamclaaDoorDrvG
import Derived.Test.YtjmjmekmaamclaaDoorDevI
namespace Go.Proofs.YtjmjmekmaamclaaDoor.dev
open Go.ChangeShapes Go.WideShapes Go.ChangeAt Go.RowKit mem
set_option linter.unusedVariables false

theorem rowWr : RowOf 130 132 (.agg #[.int .i64 0, .string ⟨#[]⟩]) 2 24 := ⟨Tryd.underlying130, by kernel_rfl, rfl, by decide⟩

/-- all but one -/
def butOne (f : Nat → Ast) (nb m : Nat) : List Ast := (List.range m).map f ++ (List.range' (m + 1) (nb - m - 1)).map f
theorem range_split (nb m : Nat) (h : m < nb) : List.range nb = List.range m ++ m :: List.range' (m + 1) (nb - m - 1) := by
  obtain ⟨k, rfl⟩ : ∃ k, nb = m + (k + 1) := ⟨nb - m - 1, by omega⟩
  rw [show m + (k + 1) - m - 1 = k from by omega, List.range_eq_range', List.range_eq_range', ← List.range'_append_1, Nat.zero_add, List.range'_succ]
theorem butOne_congr {f g : Nat → Ast} {nb m : Nat} (h : ∀ n, n ≠ m → f n = g n) : butOne f nb m = butOne g nb m := by
  unfold butOne
  congr 1
  · refine List.map_congr_left fun n hn => h n ?_
    have := List.mem_range.1 hn
    omega
  · refine List.map_congr_left fun n hn => h n ?_
    have := List.mem_range'_1.1 hn
    omega
theorem one_open {w W : World} {As : List Ast} {f : Nat → Ast} {nb m : Nat} (hm : m < nb) (h : St w W (aMany ((List.range nb).map f) :: As)) : St w W (f m :: aMany (butOne f nb m) :: As) := by
  have h1 := h.append
  rw [range_split nb m hm, List.map_append, List.map_cons, List.append_assoc, List.cons_append] at h1
  have h2 := h1.front
  rw [← List.append_assoc] at h2
  exact h2.rest fun V k => k.gather
theorem one_shut {w W : World} {As : List Ast} {f : Nat → Ast} {nb m : Nat} (hm : m < nb) (h : St w W (f m :: aMany (butOne f nb m) :: As)) : St w W (aMany ((List.range nb).map f) :: As) := by
  have h1 := h.rest fun V k => k.ungather
  unfold butOne at h1
  rw [List.append_assoc] at h1
  have h2 := h1.behind
  refine St.gather ?_
  rw [range_split nb m hm, List.map_append, List.map_cons, List.append_assoc, List.cons_append]
  exact h2

section
variable {w wr : World} {As : List Ast} {X : Nat} {D : DevM} {r : PRep}
/-- a write more -/
def wrote (D : DevM) (m : Nat) (d : ByteArray) : DevM := { D with cache := D.cache ++ [(m, d)] }
def wroteR (r : PRep) (m : Nat) (v : Value) : PRep := { r with mc := r.mc + 1, rv := fun n => if n = m then v else r.rv n }
theorem ws_wrote (D : DevM) (m n : Nat) (d : ByteArray) : (wrote D m d).ws n = D.ws n ++ if m = n then [(D.cache.length, d)] else [] := by
  unfold DevM.ws wrote
  rw [ws_snoc, Nat.zero_add]
theorem wrote_known (a : PKnown D r) {m : Nat} {d : ByteArray} (hm : m < D.nb) (hd : d.size = 512 * D.ns) (v : Value) : PKnown (wrote D m d) (wroteR r m v) :=
  ⟨a.ok.push hm hd, a.plan, a.crash, a.left, by show r.mc + 1 ≤ (D.cache ++ [(m, d)]).length; rw [List.length_append]; have := a.mc; simp; omega, fun n h => by
    rw [ws_wrote] at h
    simp only [List.append_eq_nil_iff] at h
    obtain ⟨h1, h2⟩ := h
    by_cases e : m = n
    · rw [if_pos e] at h2; cases h2
    · show (if n = m then v else r.rv n) = _
      rw [if_neg fun h => e h.symm]
      exact a.none n h1⟩
theorem wrote_mapV (m : Nat) (d : ByteArray) (v : Value) : upd (mapV D r) m v = mapV (wrote D m d) (wroteR r m v) := by
  funext n
  unfold upd mapV
  rw [ws_wrote]
  by_cases e : n = m
  · subst e; simp [wroteR]
  · have e' : ¬ m = n := fun h => e h.symm
    simp [e, e', wroteR]
theorem wrote_row (m : Nat) (d : ByteArray) (v : Value) (n : Nat) (h : n ≠ m) : pRow D r n = pRow (wrote D m d) (wroteR r m v) n := by
  have e' : ¬ m = n := fun h' => h h'.symm
  unfold pRow
  rw [ws_wrote, if_neg e', List.append_nil]
  simp [wroteR, h]
theorem counted_cache (D : DevM) (c : List (Nat × ByteArray)) : ({ D with cache := c } : DevM).counted = ({ D.counted.1 with cache := c }, D.counted.2) := by
  unfold DevM.counted
  simp only
  split
  · rfl
  · split <;> rfl

/-- the parts in the order of a write: the row of block m ahead -/
theorem write_order {m : Nat} (hm : m < D.nb) (h : St w wr (pParts X D r ++ As)) :
    St w wr (pRow D r m :: aMany (butOne (pRow D r) D.nb m) :: aVar X (pHead D r) 90 :: aMap r.mb r.mc (mapV D r) :: aRow 9 1 r.sv D.nb (strs D.safe) :: aShare 3 1 r.kv r.ks.length (intsV r.ks) r.q :: As) := by
  have h1 := (one_open hm (h.fourth : St w wr (aMany ((List.range D.nb).map (pRow D r)) :: _)))
  exact h1.rest fun V k => k.tail fun V k => k.tail fun V k => k.swap
theorem wrote_end {W : World} {m g cap : Nat} {d : ByteArray} (hm : m < D.nb)
    (h : St w W (aMap r.mb (r.mc + 1) (upd (mapV D r) m (.slice (some ⟨g, 0, none⟩) ((D.ws m).length + 1) cap)) :: aRow 132 2 (.slice (some ⟨g, 0, none⟩) ((D.ws m).length + 1) cap) ((D.ws m).length + 1) (wcells (D.ws m) ++ [.int .i64 (D.cache.length : Int), .string d]) :: aMany (butOne (pRow D r) D.nb m) :: aVar X (pHead D r) 90 :: aRow 9 1 r.sv D.nb (strs D.safe) :: aShare 3 1 r.kv r.ks.length (intsV r.ks) r.q :: As)) :
    St w (W.setCell ⟨X, 7, none⟩ (.int .i64 ((D.cache.length : Int) + 1))) (pParts X (wrote D m d) (wroteR r m (.slice (some ⟨g, 0, none⟩) ((D.ws m).length + 1) cap)) ++ As) := by
  rw [wrote_mapV m d, butOne_congr (wrote_row (D := D) (r := r) m d (.slice (some ⟨g, 0, none⟩) ((D.ws m).length + 1) cap))] at h
  have e1 : aRow 132 2 (.slice (some ⟨g, 0, none⟩) ((D.ws m).length + 1) cap) ((D.ws m).length + 1) (wcells (D.ws m) ++ [.int .i64 (D.cache.length : Int), .string d]) = pRow (wrote D m d) (wroteR r m (.slice (some ⟨g, 0, none⟩) ((D.ws m).length + 1) cap)) m := by
    unfold pRow
    rw [ws_wrote, if_pos rfl, wcells_append, List.length_append]
    simp [wroteR, wcells]
  rw [e1] at h
  have h1 := one_shut hm (h.swap.rest fun V k => k.swap)
  have h2 := h1.third.rest fun V k => ((k.tail fun V k => k.swap).swap).tail fun V k => k.swap
  have h3 := st_set h2 7 (.int .i64 ((D.cache.length : Int) + 1))
  have e2 : ((D.cache.length : Int) + 1) = ((wrote D m d).cache.length : Int) := by simp [wrote]
  rw [e2] at h3 ⊢
  exact h3

set_option maxRecDepth 8000 in
set_option maxHeartbeats 4000000 in
theorem pwrite_any (h : St w wr (pDev X D :: As)) (n : Int) (d : ByteArray) (hn64 : InI64 n) (hd64 : d.size ≤ 9223372036854775807) (hR : D.Room 1) :
    Calls Tryd.prog 58 #[pt X, .int .i64 n, .string d] wr fun e w' => e = .returned (.int .i64 (D.write n d).2) ∧ St w w' (pDev X (D.write n d).1 :: As) := by
  obtain ⟨r, a, h1⟩ := pdev_open h
  have hS := psees a h1
  have HREF := Lib.hid (prefused_any D.down wr hS.c8)
  obtain ⟨R, hRes⟩ : ∃ R, R = D.write n d := ⟨_, rfl⟩
  rw [← hRes]
  have HRES := Lib.hid hRes
  have H := Lib.hid h
  by_cases dn : D.down = true
  · rw [dn] at HREF
    have HD := Lib.hid dn
    clear hS dn h h1 a hR hn64 hRes hd64
    go_enter Tryd.func58, Tryd.ntmps58
    go_wp2_with (go_at_call 46; refine HREF.out.mono ?_; rintro e w' ⟨rfl, rfl⟩)
    go_ret
    rw [HRES.out, write_down HD.out]
    exact ⟨rfl, H.out⟩
  · have d' : D.down = false := by simpa using dn
    rw [d'] at HREF
    have HD := Lib.hid d'
    have c5 := hS.c5
    have c4 := hS.c4
    obtain ⟨g0, cap0, hv, _⟩ := hS.hs
    rw [hv] at c5
    have HTH := Lib.hid (pthere_any (X := X) n D.nb cap0 (some ⟨g0, 0, none⟩) wr c5)
    have zi : (d.size : Int) ≤ 9223372036854775807 := by omega
    by_cases c : isBlock D n
    · rw [decide_eq_true (show 0 ≤ n ∧ n < D.nb from c)] at HTH
      have HB := Lib.hid c
      by_cases b3 : d.size = 512 * D.ns
      · have t : ((d.size : Int) != 512 * (D.ns : Int)) = false := by rw [bne_eq_false_iff_eq]; omega
        obtain ⟨m, rfl⟩ := Int.eq_ofNat_of_zero_le c.1
        have hm : m < D.nb := by have := c.2; omega
        have HM := Lib.hid (show m < D.nb ∧ m ≤ 9223372036854775807 by have := a.ok.nb1; omega)
        have HZ3 := Lib.hid b3
        have HORD := Lib.hid (write_order hm h1)
        have c6 := hS.c6
        have c7 := hS.c7
        have hmc : r.mc < maxLen := by have := a.mc; have := hR.cache; unfold maxLen; omega
        have HMC := Lib.hid hmc
        have HGET := Lib.hid (mapV_get a m)
        have HLEN := Lib.hid (show (D.ws m).length + 1 ≤ maxLen ∧ ((D.ws m).length + 1) * 24 ≤ 140737488355328 by
          have := ws_len m D.cache 0
          have := hR.cache
          have : (D.ws m).length ≤ 1073741823 := by show (wsFrom m 0 D.cache).length ≤ _; omega
          unfold maxLen; omega)
        have HKN := Lib.hid (fun v => wrote_known a hm b3 v)
        have hcl : (D.cache.length : Int) ≤ 1073741823 := by have := hR.cache; omega
        have HR := Lib.hid hR
        clear hS dn d' h h1 a hR hn64 hRes hd64 c hm b3 hmc hv
        go_enter Tryd.func58, Tryd.ntmps58
        go_wp2_with (first
          | (go_at_call 46; refine HREF.out.mono ?_; rintro e w' ⟨rfl, rfl⟩)
          | (go_at_call 71; refine HTH.out.mono ?_; rintro e w' ⟨rfl, rfl⟩))
        have HAL := Lib.hid ((HORD.out.alloc (.cells #[.int .i64 (D.cache.length : Int), .string d] 132)).drew)
        have hl1 := map_look (st_map HORD.out.drew.fourth) Tryd.underlying86 (Tryd.zeroValue130 _) m HM.out.2
        have hl2 := map_look (st_map HAL.out.fourth) Tryd.underlying86 (Tryd.zeroValue130 _) m HM.out.2
        rw [HGET.out] at hl1 hl2
        go_region_held3 (fun W => W.cell? ⟨X, 6, none⟩ = some (.map (some r.mb)) ∧ W.cell? ⟨X, 7, none⟩ = some (.int .i64 (D.cache.length : Int))) (go_keep) (first
          | ((refine stp_append rowWr HAL.out (by rfl) _ _ (by rfl) (by rfl) ⟨wr.heap.size, 0, none⟩ 1 1 [.int .i64 (D.cache.length : Int), .string d] (by rfl) (by rfl) (lit2 _ _ _ _) (one2 _ _) (by decide) HLEN.out.1 HLEN.out.2 ?_; intro g cap w3 hst3 hch3; obtain ⟨w4, hrun4, hst4, hch4⟩ := map_put hst3.fourth Tryd.underlying86 m HM.out.2 HMC.out (.slice (some ⟨g, 0, none⟩) ((D.ws m).length + 1) cap); have HST4 := Lib.hid hst4; have x6 : _ = some (Value.map (some r.mb)) := st_cell hst3.third 6; have x7 : _ = some (Value.int .i64 (D.cache.length : Int)) := st_cell hst3.third 7; have y6 : _ = some (Value.map (some r.mb)) := st_cell hst4.fourth 6; have y7 : _ = some (Value.int .i64 (D.cache.length : Int)) := st_cell hst4.fourth 7; have z7 := st_free hst4.fourth 7; clear hst3 hch3 hst4 hch4)))
        all_goals
          have HW := Lib.hid (wrote_end HM.out.1 HST4.out)
          have HKW := Lib.hid (HKN.out (.slice (some ⟨g, 0, none⟩) ((D.ws m).length + 1) cap))
          have HCO := Lib.hid (pcounted_any HW.out HKW.out (by have := HR.out.calls; exact this))
          have HCC := Lib.hid (counted_cache D (D.cache ++ [(m, d)]))
          clear HST4 HAL HORD hl1 hl2 hrun4 x6 x7 y6
          go_wp2_with fail
          refine HCO.out.mono ?_
          rintro e w5 ⟨rfl, q, hC, hst⟩
          obtain ⟨E, hE⟩ : ∃ E, E = D.counted.1 := ⟨_, rfl⟩
          obtain ⟨F, hF⟩ : ∃ F, F = D.counted.2 := ⟨_, rfl⟩
          have HEF := Lib.hid (show D.counted = (E, F) by rw [hE, hF])
          have e5 : (wrote D m d).counted = ({ E with cache := D.cache ++ [(m, d)] }, F) := by rw [hE, hF]; exact HCC.out
          have HE5 := Lib.hid e5
          rw [e5] at hst ⊢
          have hkn := hC.known
          rw [e5] at hkn
          have HK := Lib.hid hkn
          have HC := Lib.hid hC
          have HST := Lib.hid hst
          clear HCO hC hkn HCC e5 hE hF
          cases F with
          | none =>
            go_wp2_with fail
            go_ret
            rw [HRES.out, write_none HD.out HB.out HZ3.out HEF.out, Int.toNat_natCast]
            exact ⟨rfl, pdev_shut _ HK.out HST.out⟩
          | some p =>
            have hS := psees HK.out hst
            have u1 := hS.c1
            have u2 := hS.c2
            have u3 := hS.c3
            have hsh : IntsIn w5 (pAt (wroteR r m (.slice (some ⟨g, 0, none⟩) ((D.ws m).length + 1) cap)) q).kv (pAt (wroteR r m (.slice (some ⟨g, 0, none⟩) ((D.ws m).length + 1) cap)) q).ks := share_ints (h := hst.fifth)
            have HG := Lib.hid (pgodown_any hst HK.out hsh HK.out.crash (by show (D.cache ++ [(m, d)]).length ≤ _; rw [List.length_append]; have := HR.out.cache; simp; omega))
            have HPL := Lib.hid (HC.out.plan p (by rw [HE5.out]))
            clear hS hst hsh
            go_wp2_with (go_at_call 48; refine HG.out.mono ?_; rintro e w' ⟨rfl, r', hk', h'⟩; have HD2 := Lib.hid (pdev_shut r' hk' h'); clear hk' h')
            go_ret
            rw [HRES.out, write_some HD.out HB.out HZ3.out HEF.out, Int.toNat_natCast, HPL.out.1, HPL.out.2.1, HPL.out.2.2]
            exact ⟨rfl, HD2.out⟩
      · have t : ((d.size : Int) != 512 * (D.ns : Int)) = true := by rw [bne_iff_ne]; omega
        have HX := Lib.hid (show ¬ (isBlock D n ∧ d.size = 512 * D.ns) from fun h => b3 h.2)
        clear hS dn d' h h1 a hR hn64 hRes hd64 c b3 hv
        go_enter Tryd.func58, Tryd.ntmps58
        go_wp2_with (first
          | (go_at_call 46; refine HREF.out.mono ?_; rintro e w' ⟨rfl, rfl⟩)
          | (go_at_call 71; refine HTH.out.mono ?_; rintro e w' ⟨rfl, rfl⟩))
        go_ret
        rw [HRES.out, write_arg HD.out HX.out]
        exact ⟨rfl, H.out⟩
    · rw [decide_eq_false (show ¬ (0 ≤ n ∧ n < D.nb) from c)] at HTH
      have HX := Lib.hid (show ¬ (isBlock D n ∧ d.size = 512 * D.ns) from fun h => c h.1)
      clear hS dn d' h h1 a hR hn64 hRes hd64 c hv
      go_enter Tryd.func58, Tryd.ntmps58
      go_wp2_with (first
        | (go_at_call 46; refine HREF.out.mono ?_; rintro e w' ⟨rfl, rfl⟩)
        | (go_at_call 71; refine HTH.out.mono ?_; rintro e w' ⟨rfl, rfl⟩))
      go_ret
      rw [HRES.out, write_arg HD.out HX.out]
      exact ⟨rfl, H.out⟩
end
end Go.Proofs.YtjmjmekmaamclaaDoor.dev
