/-
  Layer 7, the law: PageRoom, walked.
-/
import Derived.Test.YtfgcbbbhnnikdaaPgS
import Derived.Laws.Cover1
import Derived.Deep.RegionHeldLaw
namespace Go.Proofs.Ytfgcbbbhnnikdaa.pg
open Go.ChangeShapes Go.WideShapes Go.ChangeAt Go.RowKit mem
set_option linter.unusedVariables false

theorem fold8 (z : Int) (h0 : -9223372036854775808 ≤ z) (h1 : z ≤ 9223372036854775807) : ∃ (u : Int) (m : Nat), z.tmod 8 = u ∧ -8 < u ∧ u < 8 ∧ (u + 8) % 8 = (m : Int) ∧ m ≤ 7 := by
  have h1 : z.tmod 8 < 8 := Int.tmod_lt_of_pos z (by omega)
  have h2 := Int.tmod_lt_of_pos (-z) (show (0 : Int) < 8 by omega)
  rw [Int.neg_tmod] at h2
  exact ⟨z.tmod 8, ((z.tmod 8 + 8) % 8).toNat, rfl, by omega, h1, by omega, by omega⟩
theorem okSz_of {m : Nat} (h : m ≤ 7) : okSz ((512 * (1 + m) : Nat) : Int) := by
  refine ⟨by omega, by omega, ?_⟩
  rw [Int.tmod_eq_emod_of_nonneg (by omega)]
  omega

theorem grown {W wr : World} {B : Nat} {keys : List ByteArray} {kids : List Nat} {x : ByteArray} {k : Nat} {kv iv : Value} (h : St W wr [aVar B [.bool false, kv, .slice none 0 0, iv] 66, aRow 84 1 iv (kids.length + 1) (kidsV kids ++ [.int .u32 ((k : Int) + 2)]), aRow 9 1 kv (keys.length + 1) (strsV keys ++ [.string x])]) :
    St W wr [aVar B [.bool false, kv, .slice none 0 0, iv] 66, aRow 9 1 kv (keys ++ [x]).length (strsV (keys ++ [x])), aRow 84 1 iv (kids ++ [k + 2]).length (kidsV (kids ++ [k + 2]))] := by
  rw [strsV_snoc, show (.int .u32 ((k : Int) + 2) : Value) = .int .u32 (((k + 2 : Nat)) : Int) from rfl, kidsV_snoc] at h
  have e1 : keys.length + 1 = (keys ++ [x]).length := by simp
  have e2 : kids.length + 1 = (kids ++ [k + 2]).length := by simp
  rw [e1, e2] at h
  exact h.rest fun V k => k.swap

theorem makeB (n : Nat) (hn : n ≤ 4096) (W : World) : (Instr.makeSlice 90 (.int .i64 (n : Int)) (.int .i64 (n : Int))).run Try.prog W = .ok (.slice (some ⟨W.heap.size, 0, none⟩) n n) (W.alloc (.cells (madeCells #[.int .u8 0] n) 5)) := by
  have := make_run rowByte n (by omega) (by omega) .i64 .i64 W
  rw [Nat.mul_one] at this
  exact this
theorem textB (n b : Nat) (W : World) (h : W.heap[b]? = some (.cells (madeCells #[.int .u8 0] n) 5 (0, 0))) : (convert 90 9 (.slice (some ⟨b, 0, none⟩) n n)).run Try.prog W = .ok (.string (zb n)) W := by
  have := run_convert_bytes_back (P := Try.prog) W 90 9 5 ⟨b, 0, none⟩ n (List.replicate n (0 : UInt8)) Try.underlying90 Try.underlying5 Try.underlying9 (fun j hj => by
    have e : (madeCells #[Value.int .u8 0] n).toList = List.replicate n (.int .u8 0) := toList_madeCells_one _ n
    have hj' : j < n := by simpa using hj
    rw [Addr.add_mid, Nat.zero_add, cell_of_row _ _ _ _ _ _ h, ← Array.getElem?_toList, e]
    simp [hj'])
  rw [List.length_replicate] at this
  exact this
theorem textK (k : Nat) (hk : k < 3) (W : World) : (convert 90 9 (.slice (some ⟨W.heap.size, 0, none⟩) 1 1)).run Try.prog (W.alloc (.cells #[.int .u8 (97 + (k : Int))] 5)) = .ok (.string (kc k)) (W.alloc (.cells #[.int .u8 (97 + (k : Int))] 5)) := by
  have := run_convert_bytes_back (P := Try.prog) (W.alloc (.cells #[.int .u8 (97 + (k : Int))] 5)) 90 9 5 ⟨W.heap.size, 0, none⟩ 1 [UInt8.ofNat (97 + k)] Try.underlying90 Try.underlying5 Try.underlying9 (fun j hj => by
    obtain rfl : j = 0 := by simpa using hj
    have hb := heap_alloc_new W (.cells #[.int .u8 (97 + (k : Int))] 5)
    rw [Addr.add_mid, Nat.zero_add, cell_of_row _ _ _ _ _ _ hb]
    simp
    omega)
  exact this
theorem litB (W : World) (o : Obj) (z : Value) (t : TypeId) : ∀ j u, [z][j]? = some u → ((W.alloc o).alloc (.cells #[z] t)).drew.cell? ((⟨W.heap.size + 1, 0, none⟩ : Addr).add j) = some u := by
  intro j u hj
  have hb := heap_alloc_new (W.alloc o) (.cells #[z] t)
  rw [show (W.alloc o).heap.size = W.heap.size + 1 from by simp] at hb
  rw [Addr.add_mid, Nat.zero_add]
  show ((W.alloc o).alloc (.cells #[z] t)).cell? _ = _
  rw [cell_of_row _ _ _ _ _ _ hb]
  simpa using hj

set_option maxHeartbeats 4000000 in
set_option maxRecDepth 8000 in
theorem room_walk {W : World} {lv : Value} {xs : List ByteArray} (hl : StrsIn W lv xs) (hlen : xs.length ≤ 1048576) (hsz : ∀ x ∈ xs, x.size ≤ 1048576) (f : Nat) (hf : f < 256) (z : Int) (hz0 : -9223372036854775808 ≤ z) (hz1 : z ≤ 9223372036854775807) :
    Calls Try.prog 12 #[lv, .int .u8 (f : Int), .int .i64 z] W fun e w' => e = .returned (.bool true) ∧ Ch0 W w' := by
  obtain ⟨u, m, hu, u0, u1, hm, hm7⟩ := fold8 z hz0 hz1
  obtain ⟨Z, hZ⟩ : ∃ Z, Z = 512 * (1 + m) := ⟨_, rfl⟩
  have hok : okSz (Z : Int) := by rw [hZ]; exact okSz_of hm7
  have HO := Lib.hid (porder_any (Z : Int) W)
  have HM := Lib.hid (pmost_any (Z : Int) W)
  rw [show orderI (Z : Int) = ((orderM Z : Nat) : Int) from by unfold orderI; rw [if_pos hok, Int.toNat_natCast], show sizeE (Z : Int) = 0 from if_pos hok] at HO
  rw [show mostI (Z : Int) = ((mostM Z : Nat) : Int) from by unfold mostI; rw [if_pos hok, Int.toNat_natCast], show sizeE (Z : Int) = 0 from if_pos hok] at HM
  have hZ9 : Z ≤ 4096 ∧ 512 ≤ Z := by omega
  have hM1 : 127 ≤ mostM Z ∧ mostM Z ≤ 1023 := by unfold mostM; omega
  have hO1 : 1 ≤ orderM Z ∧ orderM Z ≤ 61 := by unfold orderM; omega
  have HOK := Lib.hid hok
  have HLV := Lib.hid hl
  have HSZ := Lib.hid hsz
  obtain ⟨la, lc, rfl⟩ : ∃ a c, lv = .slice a xs.length c := by obtain ⟨a, c, e, _⟩ := hl; exact ⟨a, c, e⟩
  obtain ⟨Ml, hMl⟩ : ∃ Ml, Ml = mostM Z := ⟨_, rfl⟩
  obtain ⟨Or, hOr⟩ : ∃ Or, Or = orderM Z := ⟨_, rfl⟩
  rw [← hMl] at HM hM1
  rw [← hOr] at HO hO1
  have HML := Lib.hid hMl
  have HOR := Lib.hid hOr
  have em : IntKind.i64.wrap (u + 8) = u + 8 := IntWalk.i64_in _ (by omega)
  have em2 : IntKind.i64.wrap (m : Int) = (m : Int) := IntWalk.i64_in _ (by omega)
  have em3 : IntKind.i64.wrap (1 + (m : Int)) = 1 + (m : Int) := IntWalk.i64_in _ (by omega)
  have em4 : IntKind.i64.wrap (512 * (1 + (m : Int))) = (Z : Int) := by rw [IntWalk.i64_in _ (by omega)]; omega
  have em5 : (u + 8).tmod 8 = (m : Int) := by rw [Int.tmod_eq_emod_of_nonneg (by omega)]; exact hm
  have em6 : IntKind.i64.wrap u = u := IntWalk.i64_in _ (by omega)
  have ML110 : ¬ (Ml : Int) < 110 := by omega
  clear hZ hok hl hsz hMl hOr hm
  go_enter Try.func12, Try.ntmps12
  go_upto_region 6 with (first
    | ((go_at_call 43; with_reducible refine HO.out.mono ?_; rintro e w2 ⟨rfl, rfl⟩))
    | ((go_at_call 41; with_reducible refine HM.out.mono ?_; rintro e w2 ⟨rfl, rfl⟩)))
  have HST0 : Hid (St W ((W.alloc (.cells #[.int .u32 1] 84)).alloc (.cells #[.bool false, .slice none 0 0, .slice none 0 0, .slice (some ⟨W.heap.size, 0, none⟩) 1 1] 66)) [aVar (W.heap.size + 1) [.bool false, .slice none 0 0, .slice none 0 0, .slice (some ⟨W.heap.size, 0, none⟩) 1 1] 66, aRow 9 1 (.slice none 0 0) 0 (strsV []), aRow 84 1 (.slice (some ⟨W.heap.size, 0, none⟩) 1 1) 1 (kidsV [1])]) := Lib.hid (by
    have h1 := st_lit (St.nil (w := W) (Ch.refl _ W)) 84 (.int .u32 1)
    have h2 := st_new h1 [.bool false, .slice none 0 0, .slice none 0 0, .slice (some ⟨W.heap.size, 0, none⟩) 1 1] 66
    simp only [World.size_alloc] at h2
    exact (st_pushrow (t := 9) (size := 1) h2).swap)
  go_upto_block 0 with fail
  generalize hB : W.heap.size + 1 = B at *
  generalize (W.alloc (.cells #[.int .u32 1] 84)).alloc _ = W0 at HST0 ⊢
  go_cut [12, 13] from 46 to 102 (fun i x wr => ∃ keys kids kv iv, Grow Z keys kids ∧ St W wr [aVar B [.bool false, kv, .slice none 0 0, iv] 66, aRow 9 1 kv keys.length (strsV keys), aRow 84 1 iv kids.length (kidsV kids)])
  case first =>
    go_wp2_with fail
    go_loopw [12, 13] (fun i x wr => ∃ k : Nat, k ≤ xs.length ∧ i = .int .i64 ↑k ∧ ∃ keys kids kv iv, Grow Z keys kids ∧ St W wr [aVar B [.bool false, kv, .slice none 0 0, iv] 66, aRow 9 1 kv keys.length (strsV keys), aRow 84 1 iv kids.length (kidsV kids)]) (fun i _ _ => xs.length - (intOf i).toNat)
    case atStart => exact ⟨0, Nat.zero_le _, rfl, [], [1], _, _, Grow.start Z, HST0.out⟩
    case round =>
      obtain ⟨k, hk, rfl, keys, kids, kv, iv, hg, hst⟩ := hrel
      obtain ⟨ka, kc, rfl⟩ := st_shape hst.swap
      obtain ⟨ia, ic, rfl⟩ := st_shape hst.third
      have HG := Lib.hid hg
      have HS := Lib.hid hst
      have d1 : _ = some (Value.slice ka keys.length kc) := st_cell hst 1
      have d3 : _ = some (Value.slice ia kids.length ic) := st_cell hst 3
      have kl : kids.length = keys.length + 1 ∧ kids.length ≤ 61 := ⟨hg.len, by have := hg.top; have := HOR.out; omega⟩
      have HKI := Lib.hid (strs_in hst.swap rfl)
      clear hg hst HST0 HO HM em em2 em3 em4 em5 em6 hu hm7 hz0 hz1 u0 u1
      by_cases hlt : k < xs.length
      · have kk : (k : Int) < xs.length := by omega
        have HLT := Lib.hid hlt
        have e1 : IntKind.i64.wrap ((k : Int) + 1) = (k : Int) + 1 := IntWalk.i64_in _ (by omega)
        by_cases ho : kids.length < Or
        · have oo : (kids.length : Int) < Or := by omega
          obtain ⟨b, o, cap', e, hc⟩ := (HLV.out.kept HS.out.ch).at' hlt
          cases e
          have HXS : Hid ((xs.getD k emp).size ≤ 1048576) := Lib.hid (HSZ.out _ (by rw [List.getD_eq_getElem?_getD, List.getElem?_eq_getElem hlt]; exact List.getElem_mem hlt))
          generalize xs.getD k emp = x at hc HXS
          have x0 : x.size ≤ 1048576 := HXS.out
          by_cases c1 : x.size < 1
          · have s1 : (x.size : Int) < 1 := by omega
            clear c1 hk hlt ho
            go_wp2_with fail
            go_roundw
            case rel => exact ⟨k + 1, by have := HLT.out; omega, by go_num, _, _, _, _, HG.out, HS.out⟩
            case measure => simp [intOf] <;> omega
          · by_cases c2 : 64 < x.size
            · have s1 : ¬ (x.size : Int) < 1 := by omega
              have s2 : (64 : Int) < (x.size : Int) := by omega
              clear c1 c2 hk hlt ho
              go_wp2_with fail
              go_roundw
              case rel => exact ⟨k + 1, by have := HLT.out; omega, by go_num, _, _, _, _, HG.out, HS.out⟩
              case measure => simp [intOf] <;> omega
            · have s1 : ¬ (x.size : Int) < 1 := by omega
              have s2 : ¬ (64 : Int) < (x.size : Int) := by omega
              have w1 : IntKind.u32.wrap (k : Int) = (k : Int) := IntWalk.u32_in _ (by omega)
              have w2 : IntKind.u32.wrap ((k : Int) + 2) = (k : Int) + 2 := IntWalk.u32_in _ (by omega)
              have HKL := Lib.hid kl
              by_cases c3 : keys.length = 0
              · have HGM := Lib.hid (HG.out.more (k := x) (c := k + 2) (by rw [← HOR.out]; exact ho) (by omega) (by omega) (.inl c3) (by omega) (by omega))
                have s3 : ¬ (0 : Int) < (keys.length : Int) := by omega
                clear c1 c2 c3 hk hlt ho kl
                go_upto_region 12 with fail
                have HA := Lib.hid (HS.out.swap.alloc (.cells #[.string x] 9))
                go_upto_region 13 with (at_builtin; refine lst_append rowS HA.out rfl _ _ rfl rfl ⟨wr.heap.size, 0, none⟩ 1 1 [.string x] rfl rfl (litS _ _ _) (oneS _) (by decide) (by have := HKL.out; unfold maxLen; omega) (by have := HKL.out; omega) ?_; intro g cap w3 hst3 hch3; have f1 := st_free hst3.swap 1; have y1 : _ = some _ := st_cell hst3.swap 1; have HN3 := Lib.hid (st_set hst3.swap 1 (.slice (some ⟨g, 0, none⟩) (keys.length + 1) cap)); clear hst3 hch3)
                generalize w3.setCell _ _ = w4 at HN3 ⊢
                clear f1 y1 d1 d3 HA HS HKI
                have d3 : _ = some (Value.slice ia kids.length ic) := st_cell HN3.out 3
                have HA := Lib.hid (HN3.out.third.alloc (.cells #[.int .u32 ((k : Int) + 2)] 84))
                go_upto_region 9 with (at_builtin; refine lst_append rowU HA.out rfl _ _ rfl rfl ⟨w4.heap.size, 0, none⟩ 1 1 [.int .u32 ((k : Int) + 2)] rfl rfl (litS _ _ _) (oneU _) (by decide) (by have := HKL.out; unfold maxLen; omega) (by have := HKL.out; omega) ?_; intro g2 cap2 w5 hst5 hch5; have f3 := st_free hst5.swap 3; have y3 : _ = some (Value.slice ia kids.length ic) := st_cell hst5.swap 3; have HN5 := Lib.hid (st_set hst5.swap 3 (.slice (some ⟨g2, 0, none⟩) (kids.length + 1) cap2)); clear hst5 hch5)
                generalize w5.setCell _ _ = w6 at HN5 ⊢
                go_wp2_with fail
                go_roundw
                case rel => exact ⟨k + 1, by have := HLT.out; omega, by go_num, _, _, _, _, HGM.out, grown HN5.out⟩
                case measure => simp [intOf] <;> omega
              · have c4 : keys.length - 1 < keys.length := by omega
                obtain ⟨b2, o2, cap2', e, hd⟩ := HKI.out.at' c4
                cases e
                have s3 : (0 : Int) < (keys.length : Int) := by omega
                have e2 : IntKind.i64.wrap ((keys.length : Int) - 1) = ((keys.length - 1 : Nat) : Int) := by rw [IntWalk.i64_in _ (by omega)]; omega
                have k2 : ((keys.length - 1 : Nat) : Int) < keys.length := by omega
                by_cases c5 : lessB (keys.getD (keys.length - 1) emp) x = true
                · have HGM := Lib.hid (HG.out.more (k := x) (c := k + 2) (by rw [← HOR.out]; exact ho) (by omega) (by omega) (.inr c5) (by omega) (by omega))
                  have hop : ∀ t, binOp .geq t (.string (keys.getD (keys.length - 1) emp)) (.string x) = pure (.bool false) := fun t => by rw [binOp_string_geq]; unfold lessB at c5; rw [c5]; rfl
                  generalize keys.getD (keys.length - 1) emp = y at hd hop
                  generalize keys.length - 1 = k' at hd e2 k2
                  clear c1 c2 c3 c4 c5 hk hlt ho kl
                  go_upto_region 12 with fail
                  have HA := Lib.hid (HS.out.swap.alloc (.cells #[.string x] 9))
                  go_upto_region 13 with (at_builtin; refine lst_append rowS HA.out rfl _ _ rfl rfl ⟨wr.heap.size, 0, none⟩ 1 1 [.string x] rfl rfl (litS _ _ _) (oneS _) (by decide) (by have := HKL.out; unfold maxLen; omega) (by have := HKL.out; omega) ?_; intro g cap w3 hst3 hch3; have f1 := st_free hst3.swap 1; have y1 : _ = some _ := st_cell hst3.swap 1; have HN3 := Lib.hid (st_set hst3.swap 1 (.slice (some ⟨g, 0, none⟩) (keys.length + 1) cap)); clear hst3 hch3)
                  generalize w3.setCell _ _ = w4 at HN3 ⊢
                  clear f1 y1 d1 d3 HA HS HKI
                  have d3 : _ = some (Value.slice ia kids.length ic) := st_cell HN3.out 3
                  have HA := Lib.hid (HN3.out.third.alloc (.cells #[.int .u32 ((k : Int) + 2)] 84))
                  go_upto_region 9 with (at_builtin; refine lst_append rowU HA.out rfl _ _ rfl rfl ⟨w4.heap.size, 0, none⟩ 1 1 [.int .u32 ((k : Int) + 2)] rfl rfl (litS _ _ _) (oneU _) (by decide) (by have := HKL.out; unfold maxLen; omega) (by have := HKL.out; omega) ?_; intro g2 cap2 w5 hst5 hch5; have f3 := st_free hst5.swap 3; have y3 : _ = some (Value.slice ia kids.length ic) := st_cell hst5.swap 3; have HN5 := Lib.hid (st_set hst5.swap 3 (.slice (some ⟨g2, 0, none⟩) (kids.length + 1) cap2)); clear hst5 hch5)
                  generalize w5.setCell _ _ = w6 at HN5 ⊢
                  go_wp2_with fail
                  go_roundw
                  case rel => exact ⟨k + 1, by have := HLT.out; omega, by go_num, _, _, _, _, HGM.out, grown HN5.out⟩
                  case measure => simp [intOf] <;> omega
                · have hop : ∀ t, binOp .geq t (.string (keys.getD (keys.length - 1) emp)) (.string x) = pure (.bool true) := fun t => by rw [binOp_string_geq]; unfold lessB at c5; rw [Bool.eq_false_iff.2 c5]; rfl
                  generalize keys.getD (keys.length - 1) emp = y at hd hop
                  generalize keys.length - 1 = k' at hd e2 k2
                  clear c1 c2 c3 c4 c5 hk hlt ho kl
                  go_wp2_with fail
                  go_roundw
                  case rel => exact ⟨k + 1, by have := HLT.out; omega, by go_num, _, _, _, _, HG.out, HS.out⟩
                  case measure => simp [intOf] <;> omega
        · have oo : ¬ (kids.length : Int) < Or := by omega
          clear hk hlt ho
          go_wp2_with fail
          go_meet
          exact ⟨_, _, _, _, HG.out, HS.out⟩
      · obtain rfl : k = xs.length := by omega
        clear hk hlt
        go_wp2_with fail
        go_meet
        exact ⟨_, _, _, _, HG.out, HS.out⟩
  case rest =>
    obtain ⟨keys, kids, kv, iv, hg, hst⟩ := hcut
    obtain ⟨ka, kc', rfl⟩ := st_shape hst.swap
    obtain ⟨ia, ic, rfl⟩ := st_shape hst.third
    have HG := Lib.hid hg
    have HSA := Lib.hid (st_pushrow (t := 9) (size := 1) (st_pushrow (t := 9) (size := 1) (st_new hst [.bool true, .slice none 0 0, .slice none 0 0, .slice none 0 0] 66))).third
    obtain ⟨q, hq⟩ : ∃ q, q = Ml - 4 - f % 100 := ⟨_, rfl⟩
    have q1 : q ≤ 1023 := by omega
    have q2 : q + 4 ≤ mostM Z := by have := HML.out; omega
    have m1 : IntKind.i64.wrap ((Ml : Int) - 3) = (Ml : Int) - 3 := IntWalk.i64_in _ (by omega)
    have m2 : IntKind.i64.wrap ((Ml : Int) - 3 - 1) = (Ml : Int) - 3 - 1 := IntWalk.i64_in _ (by omega)
    have m3 : IntKind.i64.wrap ((f : Int) % 100) = (f : Int) % 100 := IntWalk.i64_in _ (by omega)
    have m4 : IntKind.i64.wrap ((Ml : Int) - 3 - 1 - (f : Int) % 100) = (q : Int) := by rw [IntWalk.i64_in _ (by omega)]; omega
    have m5 : (f : Int).tmod 100 = (f : Int) % 100 := Int.tmod_eq_emod_of_nonneg (by omega)
    have m6 : IntKind.i64.wrap (f : Int) = (f : Int) := IntWalk.i64_in _ (by omega)
    have Q := Lib.hid (And.intro q1 q2)
    clear HST0 HO HM em em2 em3 em4 em5 em6 hu hm7 hz0 hz1 u0 u1 hst hg q2 hq
    go_upto_block 2 with fail
    generalize wc.alloc (.cells #[.bool true, .slice none 0 0, .slice none 0 0, .slice none 0 0] 66) = W2 at HSA ⊢
    generalize wc.heap.size = C at *
    obtain ⟨Bs, hBs⟩ : ∃ Bs, Bs = [aVar B [.bool false, .slice ka keys.length kc', .slice none 0 0, .slice ia kids.length ic] 66, aRow 9 1 (.slice ka keys.length kc') keys.length (strsV keys), aRow 84 1 (.slice ia kids.length ic) kids.length (kidsV kids)] := ⟨_, rfl⟩
    have HBS := Lib.hid hBs
    rw [← hBs] at HSA
    clear hBs
    go_cut [15, 16] from 104 to 132 (fun i x wr => ∃ kv vv, St W wr (aVar C [.bool true, kv, vv, .slice none 0 0] 66 :: aRow 9 1 kv 3 (strsV (lkeys 3)) :: aRow 9 1 vv 3 (strsV (lvals q 3)) :: Bs))
    case first =>
      go_wp2_with fail
      go_loopw [15, 16] (fun i x wr => ∃ k : Nat, k ≤ 3 ∧ i = .int .i64 ↑k ∧ ∃ kv vv, St W wr (aVar C [.bool true, kv, vv, .slice none 0 0] 66 :: aRow 9 1 kv k (strsV (lkeys k)) :: aRow 9 1 vv k (strsV (lvals q k)) :: Bs)) (fun i _ _ => 3 - (intOf i).toNat)
      case atStart => exact ⟨0, Nat.zero_le _, rfl, _, _, HSA.out⟩
      case round =>
        obtain ⟨k, hk, rfl, kv, vv, hst⟩ := hrel
        by_cases hlt : k < 3
        · have HLT := Lib.hid hlt
          have kk : (k : Int) < 3 := by omega
          have k0 : (0 : Int) ≤ k := by omega
          have t1 := textK k hlt wr
          have a1 : IntKind.i64.wrap (97 + (k : Int)) = 97 + (k : Int) := IntWalk.i64_in _ (by omega)
          have a2 : IntKind.u8.wrap (97 + (k : Int)) = 97 + (k : Int) := IntWalk.u8_in _ (by omega)
          have a3 : IntKind.i64.wrap ((k : Int) + 1) = (k : Int) + 1 := IntWalk.i64_in _ (by omega)
          have HS := Lib.hid (hst.alloc (.cells #[.int .u8 (97 + (k : Int))] 5))
          clear hst HSA hk hlt
          go_upto_region 19 with fail
          generalize wr.alloc _ = w1 at HS ⊢
          have d1 : _ = some kv := st_cell HS.out 1
          have HA := Lib.hid (HS.out.swap.alloc (.cells #[.string (kc k)] 9))
          clear t1
          go_upto_region 20 with (at_builtin; refine lst_append rowS HA.out rfl _ _ rfl rfl ⟨w1.heap.size, 0, none⟩ 1 1 [.string (kc k)] rfl rfl (litS _ _ _) (oneS _) (by decide) (by have := HLT.out; unfold maxLen; omega) (by have := HLT.out; omega) ?_; intro g cap w3 hst3 hch3; rw [strsV_snoc, lkeys_snoc] at hst3; have f1 := st_free hst3.swap 1; have y1 : _ = some _ := st_cell hst3.swap 1; have HN3 := Lib.hid (st_set hst3.swap 1 (.slice (some ⟨g, 0, none⟩) (k + 1) cap)); clear hst3 hch3)
          generalize w3.setCell _ _ = w4 at HN3 ⊢
          clear f1 y1 HA HS d1
          have d2 : _ = some vv := st_cell HN3.out 2
          have mk := makeB q (by have := Q.out.1; omega)
          have tx := textB q w4.heap.size (w4.alloc (.cells (madeCells #[.int .u8 0] q) 5)).drew (heap_alloc_new w4 _)
          have x2a := ((Ch.refl (fun _ => False) w4).alloc (.cells (madeCells #[.int .u8 0] q) 5)).cell d2
          have x2b := (((Ch.refl (fun _ => False) w4).alloc (.cells (madeCells #[.int .u8 0] q) 5)).alloc (.cells #[.string (zb q)] 9)).cell d2
          have q0 : (0 : Int) ≤ (q : Int) := by omega
          go_region_law ((refine stp_append rowS (((HN3.out.third.alloc (.cells (madeCells #[.int .u8 0] q) 5)).alloc (.cells #[.string (zb q)] 9)).drew) (by rfl) _ _ (by rfl) (by rfl) ⟨w4.heap.size + 1, 0, none⟩ 1 1 [.string (zb q)] (by rfl) rfl (litB w4 _ _ _) (oneS _) (by decide) (by have := HLT.out; unfold maxLen; omega) (by have := HLT.out; omega) ?_); intro g2 cap2 w5 hst hch; rw [strsV_snoc, lvals_snoc] at hst; have f2 := st_free hst.swap 2; have y2 : _ = some _ := st_cell hst.swap 2; have HN5 := Lib.hid (st_set hst.swap 2 (.slice (some ⟨g2, 0, none⟩) (k + 1) cap2)); clear hst hch)
          all_goals
            go_wp2_with fail
            go_roundw
            case rel => exact ⟨k + 1, by have := HLT.out; omega, by go_num, _, _, HN5.out.rest fun V K => K.swap⟩
            case measure => simp [intOf] <;> omega
        · obtain rfl : k = 3 := by omega
          have HS := Lib.hid hst
          clear hk hlt hst
          go_wp2_with fail
          go_meet
          exact ⟨_, _, HS.out⟩
    case rest =>
      obtain ⟨kv, vv, hst⟩ := hcut
      obtain ⟨p, hp⟩ : ∃ p, p = Ml - 3 := ⟨_, rfl⟩
      have p0 : IntKind.i64.wrap ((Ml : Int) - 3) = (p : Int) := by rw [IntWalk.i64_in _ (by omega)]; omega
      have pp : (0 : Int) ≤ (p : Int) := by omega
      have HPZ : Hid (p = mostM Z - 3) := Lib.hid (by rw [hp, HML.out])
      have HP1 : Hid (p ≤ 1020) := Lib.hid (by omega)
      have hpz : p ≤ 4096 := by omega
      have mk := makeB p hpz
      have h1 := (st_lit hst 9 (.string ⟨#[97]⟩)).alloc (.cells (madeCells #[.int .u8 0] p) 5)
      have tx := textB p (wc.heap.size + 1) ((wc.alloc (.cells #[.string ⟨#[97]⟩] 9)).alloc (.cells (madeCells #[.int .u8 0] p) 5)) (by
        have := heap_alloc_new (wc.alloc (.cells #[.string ⟨#[97]⟩] 9)) (.cells (madeCells #[.int .u8 0] p) 5)
        simp only [World.size_alloc] at this
        exact this)
      have h2 := st_lit h1 9 (.string (zb p))
      simp only [World.size_alloc] at h2
      have h3 := st_new h2 [.bool true, .slice (some ⟨wc.heap.size, 0, none⟩) 1 1, .slice (some ⟨wc.heap.size + 1 + 1, 0, none⟩) 1 1, .slice none 0 0] 66
      simp only [World.size_alloc] at h3
      have HS := Lib.hid h3
      clear m1 m2 m3 m4 m5 m6 h1 h2 h3 hst HSA hp
      go_upto_region 22 with fail
      generalize (((wc.alloc _).alloc _).alloc _).alloc _ = w5 at HS ⊢
      generalize wc.heap.size = D at HS ⊢
      clear tx mk
      have HCH := Lib.hid HS.out.ch
      have hbs := HS.out.drop.drop.drop.drop.drop.drop
      rw [HBS.out] at hbs
      have n1 : NodeIn w5 (.slice ka keys.length kc') (.slice none 0 0) (.slice ia kids.length ic) ⟨false, keys, [], kids⟩ := ⟨strs_in hbs.drop rfl, strs_nil _, kids_in hbs.drop.drop rfl⟩
      have n2 : NodeIn w5 kv vv (.slice none 0 0) ⟨true, lkeys 3, lvals q 3, []⟩ := ⟨strs_in HS.out.drop.drop.drop.drop rfl, strs_in HS.out.drop.drop.drop.drop.drop rfl, kids_nil _⟩
      have n3 : NodeIn w5 (.slice (some ⟨D, 0, none⟩) 1 1) (.slice (some ⟨D + 1 + 1, 0, none⟩) 1 1) (.slice none 0 0) ⟨true, [kc 0], [zb p], []⟩ := ⟨strs_in (xs := [kc 0]) HS.out.drop.drop rfl, strs_in (xs := [zb p]) HS.out.drop rfl, kids_nil _⟩
      have C1 : Hid (∀ w, Ch0 w5 w → Calls Try.prog 45 #[.agg #[.bool false, .slice ka keys.length kc', .slice none 0 0, .slice ia kids.length ic], .int .i64 (Z : Int)] w fun e w' => e = .returned (.int .i64 0) ∧ Ch0 w w') := Lib.hid fun w hc => by
        have := pcheck_any (n1.kept hc) (HG.out.ok HOK.out) Z
        rwa [check_ok HOK.out (by rw [Int.toNat_natCast]; exact HG.out.check HOK.out)] at this
      have C2 : Hid (∀ w, Ch0 w5 w → Calls Try.prog 45 #[.agg #[.bool true, kv, vv, .slice none 0 0], .int .i64 (Z : Int)] w fun e w' => e = .returned (.int .i64 0) ∧ Ch0 w w') := Lib.hid fun w hc => by
        have := pcheck_any (n2.kept hc) (three_ok (by omega)) Z
        rwa [check_ok HOK.out (by rw [Int.toNat_natCast]; exact three_check HOK.out Q.out.2)] at this
      have C3 : Hid (∀ w, Ch0 w5 w → Calls Try.prog 45 #[.agg #[.bool true, .slice (some ⟨D, 0, none⟩) 1 1, .slice (some ⟨D + 1 + 1, 0, none⟩) 1 1, .slice none 0 0], .int .i64 (Z : Int)] w fun e w' => e = .returned (.int .i64 1) ∧ Ch0 w w') := Lib.hid fun w hc => by
        have := pcheck_any (n3.kept hc) (big_ok (by omega)) Z
        rwa [check_bad (by rw [HPZ.out]; exact big_bad HOK.out)] at this
      have b0 : _ = some _ := st_cell hbs 0
      have b1 : _ = some _ := st_cell hbs 1
      have b2 : _ = some _ := st_cell hbs 2
      have b3 : _ = some _ := st_cell hbs 3
      have g0 : _ = some _ := st_cell HS.out.drop.drop.drop 0
      have g1 : _ = some _ := st_cell HS.out.drop.drop.drop 1
      have g2 : _ = some _ := st_cell HS.out.drop.drop.drop 2
      have g3 : _ = some _ := st_cell HS.out.drop.drop.drop 3
      have d0 : _ = some _ := st_cell HS.out 0
      have d1 : _ = some _ := st_cell HS.out 1
      have d2 : _ = some _ := st_cell HS.out 2
      have d3 : _ = some _ := st_cell HS.out 3
      have HB0 := Lib.hid (And.intro g0 (And.intro g1 (And.intro g2 g3)))
      have HD0 := Lib.hid (And.intro d0 (And.intro d1 (And.intro d2 d3)))
      have HAW := Lib.hid awake_any
      clear hbs n1 n2 n3 HS g0 g1 g2 g3 d0 d1 d2 d3 q1 p0 pp hpz hZ9 hM1 hO1 hf hlen
      go_wp2_with (first
        | ((go_at_call 45; with_reducible refine (C3.out _ K2.out).mono ?_; rintro e w8 ⟨rfl, hc⟩; have K3 := Lib.hid (K2.out.trans hc fun _ h => h.elim); clear hc))
        | ((go_at_call 45; with_reducible refine (C2.out _ K1.out).mono ?_; rintro e w7 ⟨rfl, hc⟩; have K2 := Lib.hid (K1.out.trans hc fun _ h => h.elim); have d0 := K2.out.cell HD0.out.1; have d1 := K2.out.cell HD0.out.2.1; have d2 := K2.out.cell HD0.out.2.2.1; have d3 := K2.out.cell HD0.out.2.2.2; clear hc))
        | ((go_at_call 45; with_reducible refine (C1.out _ (Ch.refl _ _)).mono ?_; rintro e w6 ⟨rfl, hc⟩; have K1 := Lib.hid hc; have g0 := hc.cell HB0.out.1; have g1 := hc.cell HB0.out.2.1; have g2 := hc.cell HB0.out.2.2.1; have g3 := hc.cell HB0.out.2.2.2; clear hc))
        | ((go_at_call 52; with_reducible refine (HAW.out _).mono ?_; rintro e w9 ⟨rfl, hc⟩; have K4 := Lib.hid (K3.out.trans hc fun _ h => h.elim); clear hc)))
      go_ret
      exact ⟨rfl, HCH.out.trans K4.out fun _ h => h.elim⟩
end Go.Proofs.Ytfgcbbbhnnikdaa.pg
