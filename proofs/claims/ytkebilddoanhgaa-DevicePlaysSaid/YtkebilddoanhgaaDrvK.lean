/-
  Layer 4, the program's Corrupt: the walk.
-/
import Derived.Test.YtkebilddoanhgaaDrvJ
namespace Go.Proofs.Ytkebilddoanhgaa.dev
open Go.ChangeShapes Go.WideShapes Go.ChangeAt Go.RowKit mem
set_option linter.unusedVariables false

section
variable {w wr : World} {As : List Ast} {X : Nat} {D : DevM} {r : PRep}

abbrev corTail (X : Nat) (D : DevM) (r : PRep) (m : Nat) (sv : Value) (s' : List ByteArray) (P k : Nat) (d : ByteArray) (As : List Ast) : List Ast :=
  aMany (butOne (pRow D r) D.nb m) :: aVar X (pHead D r) 60 :: aMap r.mb r.mc (mapV D r) :: aRow 9 1 sv D.nb (strs s') :: aShare 3 1 r.kv r.ks.length (intsV r.ks) r.q :: aVar (P + 1) [.string d] 9 :: aVar P [.int .i64 (k : Int)] 3 :: As
set_option maxRecDepth 8000 in
set_option maxHeartbeats 2000000 in
theorem pcorrupt_any (h : St w wr (pDev X D :: As)) (n at' : Int) (d : ByteArray) (hn : InI64 n) (ha : InI64 at') (hd : d.size ≤ 9223372036854775807) (hR : D.Room 0) :
    Calls Try.prog 33 #[pt X, .int .i64 n, .int .i64 at', .string d] wr fun e w' => e = .returned (.int .i64 (D.corrupt n at' d).2) ∧ St w w' (pDev X (D.corrupt n at' d).1 :: As) := by
  have hA := (st_new ((st_new h [.int .i64 at'] 3).swap) [.string d] 9).swap
  simp only [World.size_alloc] at hA
  obtain ⟨r, a, h1⟩ := pdev_open hA
  have hS := psees a h1
  have c4 := hS.c4
  have c5 := hS.c5
  obtain ⟨g, cap, hsv, hss⟩ := hS.hs
  rw [hsv] at c5
  obtain ⟨R, hRes⟩ : ∃ R, R = D.corrupt n at' d := ⟨_, rfl⟩
  rw [← hRes]
  have HRES := Lib.hid hRes
  have H := Lib.hid ((h.alloc (.cells #[.int .i64 at'] 3)).alloc (.cells #[.string d] 9))
  have nsi : (D.ns : Int) ≤ 8 := by have := a.ok.ns1; omega
  have ns0 : (1 : Int) ≤ D.ns := by have := a.ok.ns0; omega
  have nbi : (D.nb : Int) ≤ 4096 := by have := a.ok.nb1; omega
  have di : (d.size : Int) ≤ 9223372036854775807 := by omega
  obtain ⟨ha1, ha2⟩ := ha
  have HTH := Lib.hid (fun q => (pthere_any (X := X) n D.nb cap (some ⟨g, 0, none⟩) (((wr.alloc (.cells #[.int .i64 at'] 3)).alloc (.cells #[.string d] 9)).drewN q) c5).mono fun e w' h => (show e = _ ∧ w' = _ from ⟨h.1, h.2.symm⟩))
  by_cases b0 : isBlock D n
  · rw [decide_eq_true (show 0 ≤ n ∧ n < D.nb from b0)] at HTH
    obtain ⟨m, rfl⟩ := Int.eq_ofNat_of_zero_le b0.1
    have m1 : (m : Int) < D.nb := b0.2
    have m0 : (0 : Int) ≤ m := by omega
    by_cases b2 : at' < 0
    · have t1 : decide (at' < 0) = true := decide_eq_true b2
      have HX := Lib.hid (show ¬ corruptOk D m at' d from fun h => by have := h.2.1; omega)
      clear hS h h1 hA a hR hss hRes hsv b0 hd hn b2 ha1 ha2 nsi ns0 nbi m1 m0
      go_enter Try.func33, Try.ntmps33
      go_wp2_with fail
      go_quiet (first
        | (go_at_call 50; exact Calls.quiet_of_same (HTH.out _)))
      go_wp2_with fail
      go_ret
      rw [HRES.out, corrupt_arg HX.out]
      exact ⟨rfl, H.out.drewN _⟩
    · obtain ⟨k, rfl⟩ := Int.eq_ofNat_of_zero_le (show 0 ≤ at' from by omega)
      have k0 : (0 : Int) ≤ k := by omega
      have t1 : decide ((k : Int) < 0) = false := decide_eq_false b2
      by_cases b3 : 512 * (D.ns : Int) < k
      · have t2 : decide (512 * (D.ns : Int) < k) = true := decide_eq_true b3
        have HX := Lib.hid (show ¬ corruptOk D m k d from fun h => by have := h.2.2.1; omega)
        clear hS h h1 hA a hR hss hRes hsv b0 b2 b3 hd hn ha1 ha2 nsi ns0 nbi m1 m0 k0
        go_enter Try.func33, Try.ntmps33
        go_wp2_with fail
        go_quiet (first
          | (go_at_call 50; exact Calls.quiet_of_same (HTH.out _)))
        go_wp2_with fail
        go_ret
        rw [HRES.out, corrupt_arg HX.out]
        exact ⟨rfl, H.out.drewN _⟩
      · have b3' : (k : Int) ≤ 512 * (D.ns : Int) := by omega
        have t2 : decide (512 * (D.ns : Int) < k) = false := decide_eq_false b3
        by_cases b4 : 512 * (D.ns : Int) - k < d.size
        · have t3 : decide (512 * (D.ns : Int) - k < d.size) = true := decide_eq_true b4
          have e3 : IntKind.i64.wrap (512 * (D.ns : Int) - k) = 512 * (D.ns : Int) - k := IntWalk.i64_in _ (by omega)
          have HX := Lib.hid (show ¬ corruptOk D m k d from fun h => by have := h.2.2.2; omega)
          clear hS h h1 hA a hR hss hRes hsv b0 b2 b3 hd hn ha1 ha2 nbi m1 m0 b4
          go_enter Try.func33, Try.ntmps33
          go_wp2_with fail
          go_quiet (first
            | (go_at_call 50; exact Calls.quiet_of_same (HTH.out _)))
          go_wp2_with fail
          go_ret
          rw [HRES.out, corrupt_arg HX.out]
          exact ⟨rfl, H.out.drewN _⟩
        · have b4' : (d.size : Int) ≤ 512 * (D.ns : Int) - k := by omega
          have t3 : decide (512 * (D.ns : Int) - k < d.size) = false := decide_eq_false b4
          have e3 : IntKind.i64.wrap (512 * (D.ns : Int) - k) = 512 * (D.ns : Int) - k := IntWalk.i64_in _ (by omega)
          have HX := Lib.hid (show corruptOk D m k d from ⟨b0, k0, b3', by omega⟩)
          have hm : m < D.nb := by omega
          have hkd : k + d.size ≤ 512 * D.ns := by omega
          have hgs := hss m hm
          have HORD := Lib.hid (write_order hm h1)
          have HGET := Lib.hid (mapV_get a m)
          have HM := Lib.hid (show m < D.nb ∧ m ≤ 9223372036854775807 by have := a.ok.nb1; omega)
          have hz0 := a.ok.getD hm
          have HOV := Lib.hid (fun (s : ByteArray) (hs : s.size = 512 * D.ns) (W : World) (h1 : W.cell? ⟨wr.heap.size, 0, none⟩ = some (.int .i64 (k : Int))) (h2 : W.cell? ⟨wr.heap.size + 1, 0, none⟩ = some (.string d)) => pover_any s k d wr.heap.size (wr.heap.size + 1) (by omega) (by have := a.ok.ns1; omega) W h1 h2)
          have hb2 : _ = some (Value.string d) := st_cell (h1.drop.drop.drop.drop.drop) 0
          have hb1 : _ = some (Value.int .i64 (k : Int)) := st_cell (h1.drop.drop.drop.drop.drop.drop) 0
          have HKN := Lib.hid (corrupted_known (k := k) (d := d) a hm hkd)
          have HZW := Lib.hid (fun x (hx : x ∈ D.ws m) => (ws_size a.ok x hx).1)
          have HSAFE := Lib.hid a.ok.safe
          have c6 := hS.c6
          have hxg : ¬ X = g := by
            have h4 := h1
            unfold pParts at h4
            rw [hsv] at h4
            exact st_ne h4
          have hgx : ¬ g = X := fun e => hxg e.symm
          have HSV := Lib.hid hsv
          have hwl : ((D.ws m).length : Int) ≤ 1073741824 := by
            have := ws_len m D.cache 0
            have := hR.cache
            have : (D.ws m).length ≤ 1073741824 := by show (wsFrom m 0 D.cache).length ≤ _; omega
            omega
          have HS0 := Lib.hid (show D.safe.getD m empty = D.safe.getD m empty from rfl)
          obtain ⟨s0, hs0⟩ : ∃ s0, s0 = D.safe.getD m empty := ⟨_, rfl⟩
          rw [← hs0] at hgs hz0
          have HSM := Lib.hid hs0
          have HZ0 := Lib.hid hz0
          have hgf := (by have h4 := h1.swap; rw [hsv] at h4; exact st_unfrozen h4 m : (((wr.alloc (.cells #[.int .i64 (k : Int)] 3)).alloc (.cells #[.string d] 9))).frozen? ⟨g, m, none⟩ = false)
          clear hS h h1 hA a hR hss hRes hsv hd hn b0 b2 b3 b4 hm hkd HS0 hz0 hs0
          go_enter Try.func33, Try.ntmps33
          go_wp2_with fail
          go_quiet (first
            | (go_at_call 50; exact Calls.quiet_of_same (HTH.out _)))
          go_wp2_with fail
          have H1 := Lib.hid (HORD.out.drewN nq)
          clear HORD c4 c5 c6 hb1 hb2 hgf hgs HTH t1 t2 t3 e3 H
          generalize ((wr.alloc (.cells #[.int .i64 (k : Int)] 3)).alloc (.cells #[.string d] 9)).drewN nq = W1 at H1 ⊢
          generalize wr.heap.size = P0 at H1 HOV ⊢
          have hb2 : _ = some (Value.string d) := st_cell (H1.out.drop.drop.drop.drop.drop.drop) 0
          have hb1 : _ = some (Value.int .i64 (k : Int)) := st_cell (H1.out.drop.drop.drop.drop.drop.drop.drop) 0
          have c5 : _ = some r.sv := st_cell H1.out.third 5
          rw [HSV.out] at c5
          have hsafe := H1.out.fifth
          rw [HSV.out] at hsafe
          have hgs : W1.cell? ⟨g, m, none⟩ = some (.string s0) := by
            rw [st_at hsafe rfl m (by omega), strs_at _ _ (by rw [HSAFE.out]; exact HM.out.1), HSM.out]
          have hgf := st_unfrozen hsafe m
          have HPUT := Lib.hid (fun (W : World) (x : ByteArray) (h : Ch (fun _ => False) W1 W) => by
            have h4 := hsafe.same h
            have h5 := st_put (u := .string x) h4 (show m < D.nb * 1 by omega)
            rw [← strs_set] at h5
            exact (St.behind (As := [_, _, _, _]) h5 : St w _ (pRow D r m :: aMany (butOne (pRow D r) D.nb m) :: aVar X (pHead D r) 60 :: aMap r.mb r.mc (mapV D r) :: aRow 9 1 (.slice (some ⟨g, 0, none⟩) D.nb cap) D.nb (strs (D.safe.set m x)) :: _)))
          clear hsafe
          obtain ⟨aor, capr, hrv⟩ := st_shape (show St w W1 (aRow 66 2 (r.rv m) (D.ws m).length (wcells (D.ws m)) :: _) from H1.out)
          have HRV := Lib.hid (HGET.out.trans hrv)
          have HR2 := Lib.hid hrv
          clear hrv HGET
          have HEND := Lib.hid (fun W (h : St w W _) => corrupted_end (k := k) (d := d) (As := aVar (P0 + 1) [.string d] 9 :: aVar P0 [.int .i64 (k : Int)] 3 :: As) (r := r) (X := X) HM.out.1 h)
          go_region_with (go_at_call 59; refine (HOV.out s0 HZ0.out _ (by exact hb1) (by exact hb2)).mono ?_; rintro e w4 ⟨rfl, q, rfl⟩)
          all_goals
            have HP := Lib.hid (HPUT.out W1 (over s0 k d) (Ch.refl _ _))
            have x6 : _ = some (Value.map (some r.mb)) := st_cell H1.out.third 6
            clear HPUT hb1 hb2 c5 hgs hgf
            go_wp2_with (at_lookup; refine lst_look (by exact (st_map HP.out.fourth).blk rfl) Try.underlying55 (Try.zeroValue63 _) m HM.out.2 rfl _ _ rfl rfl rfl _ HRV.out ?_)
            go_loopw [64, 10] (fun i _ W => ∃ j : Nat, j ≤ (D.ws m).length ∧ i = .int .i64 ↑j ∧ St w W (rowJ D r m k d j :: aMany (butOne (pRow D r) D.nb m) :: aVar X (pHead D r) 60 :: aMap r.mb r.mc (mapV D r) :: aRow 9 1 (.slice (some ⟨g, 0, none⟩) D.nb cap) D.nb (strs (D.safe.set m (over s0 k d))) :: aShare 3 1 r.kv r.ks.length (intsV r.ks) r.q :: aVar (P0 + 1) [.string d] 9 :: aVar P0 [.int .i64 (k : Int)] 3 :: As)) (fun i _ _ => (D.ws m).length - (intOf i).toNat)
            case atStart =>
              refine ⟨0, Nat.zero_le _, rfl, ?_⟩
              unfold rowJ
              rw [mapK_zero]
              exact HP.out.same ⟨rfl, rfl, rfl, Nat.le_refl _, fun _ _ _ => rfl⟩
            case round =>
              obtain ⟨j, hj, rfl, h2⟩ := hrel
              have H2 := Lib.hid h2
              have HJ := Lib.hid hj
              clear h2 HP x6 H1
              by_cases hlt : j < (D.ws m).length
              · obtain ⟨gr, cr, hrv2, _⟩ := st_form (show St w wr (aRow 66 2 (r.rv m) (D.ws m).length (wcells (mapK (mendW k d) (D.ws m) j)) :: corTail X D r m (.slice (some ⟨g, 0, none⟩) D.nb cap) (D.safe.set m (over s0 k d)) P0 k d As) from H2.out) (by omega)
                rw [HR2.out] at hrv2
                simp only [Value.slice.injEq, true_and] at hrv2
                obtain ⟨rfl, rfl⟩ := hrv2
                have hrow : St w wr (aRow 66 2 (.slice (some ⟨gr, 0, none⟩) (D.ws m).length capr) (D.ws m).length (wcells (mapK (mendW k d) (D.ws m) j)) :: corTail X D r m (.slice (some ⟨g, 0, none⟩) D.nb cap) (D.safe.set m (over s0 k d)) P0 k d As) := by
                  have := H2.out
                  unfold rowJ at this
                  rw [HR2.out] at this
                  exact this
                obtain ⟨e0, e1⟩ := wcells_at (mapK (mendW k d) (D.ws m) j) j (by rw [mapK_len]; exact hlt)
                rw [mapK_at _ _ _ hlt] at e0 e1
                have x0 := (st_at hrow rfl (j * 2) (by omega)).trans e0
                have x1 := (st_at hrow rfl (j * 2 + 1) (by omega)).trans e1
                have HSET := Lib.hid (mapK_set (mendW k d) (D.ws m) j hlt)
                have HWC := Lib.hid (fun y => wcells_set (mapK (mendW k d) (D.ws m) j) j (by rw [mapK_len]; exact hlt) y)
                rw [mapK_at _ _ _ hlt] at HWC
                have hz := HZW.out _ (List.getElem_mem hlt)
                generalize (D.ws m)[j] = x at x0 x1 HSET HWC hz
                obtain ⟨num, dt⟩ := x
                simp only at x0 x1 HWC hz
                have HZ := Lib.hid hz
                have hal := hrow.alloc (.cells #[.int .i64 (num : Int), .string dt] 66)
                have HAL := Lib.hid hal
                have c6 : _ = some (Value.map (some r.mb)) := st_cell hal.third 6
                have hb2 : _ = some (Value.string d) := st_cell (hal.drop.drop.drop.drop.drop.drop) 0
                have hb1 : _ = some (Value.int .i64 (k : Int)) := st_cell (hal.drop.drop.drop.drop.drop.drop.drop) 0
                have nb1 : _ = some (Value.string dt) := st_cell (st_new hrow [.int .i64 (num : Int), .string dt] 66) 1
                have hxr : ¬ X = gr := st_ne hrow.third
                have hrx : ¬ gr = X := fun e => hxr e.symm
                have hgl : gr < wr.heap.size := own_lt (st_row hrow) rfl
                have hbr : ¬ wr.heap.size = gr := by omega
                have hrb : ¬ gr = wr.heap.size := by omega
                have j0 : (0 : Int) ≤ j := by omega
                have j1 : (j : Int) < (D.ws m).length := by omega
                have hl1 := map_look (st_map hal.drew.fourth) Try.underlying55 (Try.zeroValue63 _) m HM.out.2
                rw [HRV.out] at hl1
                have y1 := (st_at hal rfl (j * 2 + 1) (by omega)).trans ((st_at hrow rfl (j * 2 + 1) (by omega)).symm.trans x1)
                have y2 := st_unfrozen hal (j * 2 + 1)
                clear hrow e0 e1 hz hal hgl hj hlt
                go_wp2_with fail
                go_region_held3 (fun W => W.cell? ⟨X, 6, none⟩ = some (.map (some r.mb)) ∧ W.cell? ⟨wr.heap.size, 1, none⟩ = some (.string dt)) (go_keep)
                  (first
                    | (go_at_call 59; refine (HOV.out dt HZ.out (World.drew _) (by exact hb1) (by exact hb2)).mono ?_; rintro e w4 ⟨rfl, q, hq⟩; have h5 : St w w4 _ := HAL.out.same (by { rw [hq]; exact ⟨rfl, rfl, rfl, Nat.le_refl _, fun _ _ _ => rfl⟩ }); have H5 := Lib.hid h5; have z6 : _ = some (Value.map (some r.mb)) := st_cell h5.third 6; have hl2 := map_look (st_map h5.fourth) Try.underlying55 (Try.zeroValue63 _) m HM.out.2; rw [HRV.out] at hl2; have u1 : w4.cell? ⟨gr, j * 2 + 1, none⟩ = some (.string dt) := (by { rw [hq]; exact y1 }); have u2 : w4.frozen? ⟨gr, j * 2 + 1, none⟩ = false := (by { rw [hq]; exact y2 }); have u3 : w4.cell? ⟨wr.heap.size, 1, none⟩ = some (.string dt) := (by { rw [hq]; exact nb1 }); clear h5 hq))
                all_goals
                  have h6 := st_put (u := .string (over dt k d)) H5.out (show j * 2 + 1 < (D.ws m).length * 2 by omega)
                  rw [HWC.out, show ((num, over dt k d) : Nat × ByteArray) = mendW k d (num, dt) from rfl, HSET.out] at h6
                  have h7 : St w (w4.setCell ⟨gr, j * 2 + 1, none⟩ (.string (over dt k d))) (rowJ D r m k d (j + 1) :: corTail X D r m (.slice (some ⟨g, 0, none⟩) D.nb cap) (D.safe.set m (over s0 k d)) P0 k d As) := by
                    unfold rowJ
                    rw [HR2.out]
                    exact h6
                  have H7 := Lib.hid h7
                  have JL : j < (D.ws m).length := by omega
                  clear h6 h7 H5 HAL HWC HSET x0 x1 y1 y2 nb1 u1 u2 u3 z6 hl1 hl2 c6 hb1 hb2
                  go_wp2_with fail
                  go_roundw
                  case rel => exact ⟨j + 1, by omega, by go_num, H7.out⟩
                  case measure => simp [intOf] <;> omega
              · obtain rfl : j = (D.ws m).length := by omega
                clear hlt hj
                go_wp2_with fail
                go_ret
                rw [HRES.out, corrupt_ok HX.out]
                refine ⟨rfl, ?_⟩
                have h3 := H2.out
                rw [HSM.out, ← HSV.out] at h3
                have h4 := pdev_shut r HKN.out (HEND.out wr h3)
                exact h4.swap.drop.swap.drop
  · rw [decide_eq_false (show ¬ (0 ≤ n ∧ n < D.nb) from b0)] at HTH
    have HX := Lib.hid (show ¬ corruptOk D n at' d from fun h => by exact b0 h.1)
    clear hS h h1 hA a hR hss hRes hsv b0 hd hn ha1 ha2 nsi ns0 nbi
    go_enter Try.func33, Try.ntmps33
    go_wp2_with fail
    go_quiet (first
      | (go_at_call 50; exact Calls.quiet_of_same (HTH.out _)))
    go_wp2_with fail
    go_ret
    rw [HRES.out, corrupt_arg HX.out]
    exact ⟨rfl, H.out.drewN _⟩
end
end Go.Proofs.Ytkebilddoanhgaa.dev
