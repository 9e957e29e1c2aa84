/-
  Layer 4: DeviceSafe over the contracts.
-/
import Derived.Test.YtlhhkoaacjakcaaDevSf
namespace Go.Proofs.Ytlhhkoaacjakcaa.dev
open Go.ChangeShapes Go.WideShapes Go.ChangeAt Go.RowKit mem
set_option linter.unusedVariables false

section
variable {w wr : World} {As : List Ast} {dev : Nat → DevM → Ast}
set_option maxHeartbeats 4000000 in
set_option maxRecDepth 8000 in
theorem safe_any (ok : DevOk dev) (h : St w wr As) (b s : Int) (hb : InI64 b) (hs : InI64 s) (v1 v2 : Value) (safe more : List (Int × ByteArray)) (h1 : PutsIn w v1 safe) (h2 : PutsIn w v2 more) (C1 : PutsOk safe) (C2 : PutsOk more)
    (kv : Value) (ks : List Int) (torn : Int) (mask : Nat) (hk : IntsIn w kv ks) (CO : CrashOk ks torn mask) :
    Calls Try.prog 5 #[.int .i64 b, .int .i64 s, v1, v2, .agg #[kv, .int .i64 torn, .int .u8 (mask : Int)]] wr fun e w' => e = .returned (.bool true) ∧ St w w' [] := by
  have eb := eight_in b
  have es := eight_in s
  obtain ⟨nb, hnb⟩ := Int.eq_ofNat_of_zero_le (show 0 ≤ 16 + eight b by omega)
  obtain ⟨ns, hns⟩ := Int.eq_ofNat_of_zero_le (show 0 ≤ 1 + eight s by omega)
  obtain ⟨S, hS⟩ : ∃ S, S = (wroteM (DevM.new nb ns) safe (min 60 safe.length)).flush.1 := ⟨_, rfl⟩
  obtain ⟨D, hD⟩ : ∃ D, D = wroteM S more (min 60 more.length) := ⟨_, rfl⟩
  have hbox := st_new (St.nil h.ch) [kv, .int .i64 torn, .int .u8 (mask : Int)] 40
  have hwri := written_any ok hbox b s hb hs v1 v2 safe more h1 h2 C1 C2 nb ns hnb.symm hns.symm S D hS hD
  have g : geoOk nb ns := ⟨by omega, by omega, by omega, by omega⟩
  obtain ⟨hwf, hsi⟩ := written_facts g safe more S D hS hD
  rw [hsi] at hwri
  obtain ⟨C, hC⟩ : ∃ C, C = (more.take 60).map (putM nb ns) := ⟨_, rfl⟩
  rw [← hC] at hwri hwf
  have enb := hwf.enb
  subst enb
  have HWRI := Lib.hid hwri
  have HWF := Lib.hid hwf
  have HAW : Hid (∀ W L, St w W L → Calls Try.prog 33 #[] W fun e w' => e = .returned (.bool true) ∧ St w w' L) := Lib.hid fun W L h => awake_any ok h
  have HK := Lib.hid hk
  have HCO := Lib.hid CO
  have hnb1 : 16 ≤ D.nb ∧ D.nb ≤ 23 := by omega
  have HNB := Lib.hid hnb1
  have hcl := hwf.len
  have HCL := Lib.hid hcl
  clear hwri hwf hsi hC hS hD hbox h h1 h2 C1 C2 hk CO hb hs hnb hns eb es g hnb1
  go_enter Try.func5, Try.ntmps5
  go_upto_block 0 with (first
    | ((go_at_call 32; refine HWRI.out.mono ?_; rintro e w1 ⟨X, vi, vl, rfl, hst⟩; obtain ⟨gi, ci, rfl, _⟩ := st_form hst (by have := HNB.out; omega); obtain ⟨ao, cl, rfl⟩ := st_shape hst.third; have HA := Lib.hid hst; clear hst HWRI))
    | ((go_at_call 33; refine (HAW.out _ _ HA.out).mono ?_; rintro e w2 ⟨rfl, hst⟩; have HB := Lib.hid hst.swap; clear hst HAW HA))
    | ((go_at_call 12; refine (ok.twin HB.out (room_less HWF.out.room (by omega))).mono ?_; rintro e w3 ⟨Y, rfl, hst⟩; have HA := Lib.hid hst.swap; clear hst HB))
    | ((go_at_call 30; refine (ok.image HA.out (room_less HWF.out.room (by omega))).mono ?_; rintro e w4 ⟨vn, rfl, hst⟩; obtain ⟨an, cn, rfl⟩ := st_shape hst; have HB := Lib.hid hst; clear hst HA)))
  have HA := Lib.hid (st_pushrow (t := 3) (size := 1) (st_sixth HB.out))
  have e0 : IntKind.i64.wrap ((C.length : Int) - 1) = (C.length : Int) - 1 := IntWalk.i64_in _ (by omega)
  generalize wr.heap.size = P at HA ⊢
  clear HB
  go_cut [16, 17] (fun l u wc => St w wc (aInts l (evs C.length C.length) :: aCrash P kv torn mask :: aStrs (.slice an D.nb cn) D.nb D.image :: dev X D :: dev Y D :: aStrs (.slice (some ⟨gi, 0, none⟩) D.nb ci) D.nb D.safe :: aPuts (.slice ao C.length cl) C :: []))
  case first =>
    go_wp2_with fail
    go_loopw [16, 17] (fun l i W => ∃ k : Nat, k ≤ C.length ∧ i = .int .i64 ((C.length : Int) - 1 - (k : Int)) ∧ St w W (aInts l (evs C.length k) :: aCrash P kv torn mask :: aStrs (.slice an D.nb cn) D.nb D.image :: dev X D :: dev Y D :: aStrs (.slice (some ⟨gi, 0, none⟩) D.nb ci) D.nb D.safe :: aPuts (.slice ao C.length cl) C :: [])) (fun _ i _ => (intOf i + 1).toNat)
    case atStart => exact ⟨0, Nat.zero_le _, by go_num, HA.out⟩
    case round =>
      obtain ⟨k, hk, rfl, hst⟩ := hrel
      obtain ⟨ae, ce, rfl⟩ := st_shape hst
      generalize hi : (C.length : Int) - 1 - (k : Int) = i
      by_cases hlt : k < C.length
      · have q0 : 0 ≤ i := by omega
        have q1 : i ≤ 60 := by omega
        have HP := Lib.hid (hst.alloc (.cells #[.int .i64 i, .int .i64 i] 3))
        have HLN := Lib.hid (evs_len C.length k)
        have HEV : Hid (evs C.length (k + 1) = evs C.length k ++ [i, i]) := Lib.hid (by rw [← hi]; rfl)
        have HI := Lib.hid hi
        have e5 : IntKind.i64.wrap (i - 1) = i - 1 := IntWalk.i64_in _ (by omega)
        clear hst
        go_wp2_with (refine lst_append rowInt HP.out rfl _ _ rfl rfl ⟨wr.heap.size, 0, none⟩ 2 2 [.int .i64 i, .int .i64 i] rfl rfl (lit2 wr _ _ _) (one2i _ _) (by decide) (by rw [HLN.out]; unfold maxLen; omega) (by rw [HLN.out]; omega) ?_; intro g4 cap4 w4 hst4 _; have HN := Lib.hid (ints_push hst4); clear hst4)
        go_roundw
        case rel => exact ⟨k + 1, by omega, by rw [← HI.out]; go_num, by rw [HEV.out]; exact HN.out⟩
        case measure => simp [intOf] <;> omega
      · obtain rfl : k = C.length := by omega
        have HN := Lib.hid hst
        have q0 : i < 0 := by omega
        clear hst hk hlt hi
        go_wp2_with fail
        go_meet
        exact HN.out
  case rest =>
    have hmm := @run_makeMap Try.prog
    obtain ⟨ae, ce, rfl⟩ := st_shape hcut
    have HA := Lib.hid hcut
    clear hcut
    go_upto_block 2 with (first
      | ((go_at_call 29; with_reducible refine (s_unfl ok HWF.out HA.out.fourth).mono ?_; rintro e w5 ⟨rfl, q, rfl⟩; have hst := HA.out.drewN q; have c0 : _ = some kv := st_cell hst.swap 0; have c1 : _ = some (Value.int .i64 torn) := st_cell hst.swap 1; have c2 : _ = some (Value.int .u8 (mask : Int)) := st_cell hst.swap 2; have HB := Lib.hid hst; clear hst HA))
      | ((go_at_call 34; refine (in_any HB.out kv ks torn mask HK.out HCO.out).mono ?_; rintro e w6 ⟨g, cap, rfl, hcap, hst⟩; have HA := Lib.hid hst.fifth; clear hst hcap HB c0 c1 c2))
      | ((go_at_call 23; with_reducible refine (s_pull ok HWF.out HCO.out HA.out).mono ?_; rintro e w7 ⟨rfl, hst⟩; have HB := Lib.hid hst; clear hst HA))
      | ((go_at_call 25; with_reducible refine (s_restart ok HB.out).mono ?_; rintro e w8 ⟨rfl, hst⟩; have HA := Lib.hid hst; clear hst HB))
      | ((go_at_call 23; with_reducible refine (s_pull2 ok HWF.out HA.out.fifth.third.swap).mono ?_; rintro e w7 ⟨rfl, hst⟩; have HB := Lib.hid hst; clear hst HA)))
    have hM := st_mapnew HA.out.third.drop
    rw [← tch_zero C] at hM
    generalize w8.heap.size = mb at hM ⊢
    have HM := Lib.hid hM
    clear hM HA hmm
    go_cut [19] (fun u wc => St w wc (aMap mb C.length (tch C C.length) :: dev Y (fell D (evs C.length C.length) (-1) 0) :: dev X (fell D ks torn mask) :: aStrs (.slice an D.nb cn) D.nb D.image :: aStrs (.slice (some ⟨gi, 0, none⟩) D.nb ci) D.nb D.safe :: aPuts (.slice ao C.length cl) C :: []))
    case first =>
      go_wp2_with fail
      go_loopw [19] (fun i W => ∃ k : Nat, k ≤ C.length ∧ i = .int .i64 ↑k ∧ St w W (aMap mb k (tch C k) :: dev Y (fell D (evs C.length C.length) (-1) 0) :: dev X (fell D ks torn mask) :: aStrs (.slice an D.nb cn) D.nb D.image :: aStrs (.slice (some ⟨gi, 0, none⟩) D.nb ci) D.nb D.safe :: aPuts (.slice ao C.length cl) C :: [])) (fun i _ => C.length - (intOf i).toNat)
      case atStart => exact ⟨0, Nat.zero_le _, rfl, HM.out⟩
      case round =>
        obtain ⟨k, hk, rfl, hst⟩ := hrel
        by_cases hlt : k < C.length
        · obtain ⟨gl, cl2, hv, _⟩ := st_form (st_sixth hst) (by omega)
          cases hv
          have hcell := (st_at (st_sixth hst) rfl (k * 2) (by omega)).trans (wcells_at C k hlt).1
          have HN := Lib.hid (HWF.out.num _ (List.getElem_mem hlt))
          have HT := Lib.hid (tch_more C k hlt)
          have HS := Lib.hid hst
          generalize C[k] = x at hcell HN HT
          have HB := Lib.hid (show x.1 ≤ 9223372036854775807 ∧ k < maxLen by have := HN.out.1; have := HNB.out; unfold maxLen; omega)
          have n1 : (k : Int) < C.length := by omega
          clear hst
          go_wp2_with (at_mapUpdate; refine lst_mapput HS.out Try.underlying68 x.1 HB.out.1 HB.out.2 (.int .i64 1) rfl _ _ _ rfl rfl rfl rfl ?_; intro w3 h3 hch3; have H3 := Lib.hid h3; clear h3 hch3)
          go_roundw
          case rel => exact ⟨k + 1, by omega, by go_num, by rw [← HT.out]; exact H3.out⟩
          case measure => simp [intOf] <;> omega
        · obtain rfl : k = C.length := by omega
          have HN := Lib.hid hst
          clear hst hk hlt
          go_wp2_with fail
          go_meet
          exact HN.out
    case rest =>
      have HA := Lib.hid hcut
      clear hcut
      go_upto_block 4 with (first
        | ((go_at_call 30; with_reducible refine (s_image ok HWF.out HA.out.third).mono ?_; rintro e w9 ⟨vg, rfl, hst⟩; obtain ⟨gg, cg, rfl, _⟩ := st_form hst (by have := HNB.out; omega); have HB := Lib.hid hst; clear hst HA)))
      have HFL : Hid ((fallen ks torn mask 0 C D.safe).length = D.nb ∧ D.safe.length = D.nb) := Lib.hid ⟨by rw [fallen_len]; exact HWF.out.ok.safe, HWF.out.ok.safe⟩
      have HUT := Lib.hid (fun n => fallen_untouched ks torn mask n C 0 D.safe)
      have HLEN : Hid (D.image.length ≤ 1073741824) := Lib.hid (by rw [image_len]; have := HNB.out; omega)
      generalize fallen ks torn mask 0 C D.safe = F at HB HFL HUT
      have nbi : (D.nb : Int) ≤ 23 := by have := HNB.out; omega
      go_cut [21] (fun u wc => St w wc (aStrs (.slice (some ⟨gg, 0, none⟩) D.nb cg) D.nb F :: dev X (fell D ks torn mask) :: aMap mb C.length (tch C C.length) :: dev Y (fell D (evs C.length C.length) (-1) 0) :: aStrs (.slice an D.nb cn) D.nb D.image :: aStrs (.slice (some ⟨gi, 0, none⟩) D.nb ci) D.nb D.safe :: aPuts (.slice ao C.length cl) C :: []))
      case first =>
        go_wp2_with fail
        go_loopw [21] (fun i W => ∃ k : Nat, k ≤ D.nb ∧ i = .int .i64 ↑k ∧ St w W (aStrs (.slice (some ⟨gg, 0, none⟩) D.nb cg) D.nb F :: dev X (fell D ks torn mask) :: aMap mb C.length (tch C C.length) :: dev Y (fell D (evs C.length C.length) (-1) 0) :: aStrs (.slice an D.nb cn) D.nb D.image :: aStrs (.slice (some ⟨gi, 0, none⟩) D.nb ci) D.nb D.safe :: aPuts (.slice ao C.length cl) C :: [])) (fun i _ => D.nb - (intOf i).toNat)
        case atStart => exact ⟨0, Nat.zero_le _, rfl, HB.out⟩
        case round =>
          obtain ⟨k, hk, rfl, hst⟩ := hrel
          by_cases hlt : k < D.nb
          · have hl := fun q => map_look (st_map (hst.drewN q).third) Try.underlying68 (Try.zeroValue3 (wr.drewN q)) k (by omega)
            have hg := (st_at hst rfl k (by omega)).trans (strs_at F k (by have := HFL.out.1; omega))
            have hw := (st_at (st_sixth hst) rfl k (by omega)).trans (strs_at D.safe k (by have := HFL.out.2; omega))
            have n1 : (k : Int) < D.nb := by omega
            have t : ((D.nb : Int) != D.nb) = false := by simp
            have HS := Lib.hid hst
            clear hst
            rcases tch_all C k with ht | ⟨ht, hu⟩
            · simp only [ht] at hl
              clear hg hw
              go_wp2_with fail
              go_quiet (fail)
              go_wp2_with fail
              go_roundw
              case rel => exact ⟨k + 1, by omega, by go_num, HS.out.drewN _⟩
              case measure => simp [intOf] <;> omega
            · simp only [ht] at hl
              rw [HUT.out k hu] at hg
              generalize D.safe.getD k empty = x at hg hw
              have tb := bytes_beq x x
              rw [decide_eq_true rfl] at tb
              clear hu ht
              go_wp2_with fail
              go_quiet (fail)
              go_wp2_with fail
              go_roundw
              case rel => exact ⟨k + 1, by omega, by go_num, HS.out.drewN _⟩
              case measure => simp [intOf] <;> omega
          · obtain rfl : k = D.nb := by omega
            have HN := Lib.hid hst
            clear hst hk hlt
            go_wp2_with fail
            go_meet
            exact HN.out
      case rest =>
        have HA := Lib.hid hcut
        clear hcut HB
        go_wp2_with (first
          | ((go_at_call 30; with_reducible refine (s_image2 ok HWF.out HA.out.fourth).mono ?_; rintro e w10 ⟨v10, rfl, hst⟩; have HC := Lib.hid hst; clear hst HA))
          | ((go_at_call 35; refine (rsame_eq _ _ D.image _ (strs_in HC.out) (strs_in (st_sixth HC.out)) HLEN.out).mono ?_; rintro e w11 ⟨rfl, q, rfl⟩; have HD := Lib.hid (HC.out.drewN q); clear HC))
          | ((go_at_call 29; with_reducible refine (s_unfl0 ok HWF.out HD.out.fourth).mono ?_; rintro e w12 ⟨rfl, q2, rfl⟩)))
        go_ret
        exact ⟨rfl, St.nil (by have := HD.out.ch.drewN q2; rwa [World.drewN_drewN] at this)⟩
end
end Go.Proofs.Ytlhhkoaacjakcaa.dev
