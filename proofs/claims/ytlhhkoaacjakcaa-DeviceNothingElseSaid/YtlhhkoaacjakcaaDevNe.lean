/-
  Layer 4: DeviceNothingElse over the contracts.
-/
import Derived.Test.YtlhhkoaacjakcaaDevSf
import Derived.Test.YtlhhkoaacjakcaaDevNm
namespace Go.Proofs.Ytlhhkoaacjakcaa.dev
open Go.ChangeShapes Go.WideShapes Go.ChangeAt Go.RowKit mem
set_option linter.unusedVariables false

section
variable {w wr : World} {As : List Ast} {dev : Nat → DevM → Ast}
set_option maxHeartbeats 4000000 in
set_option maxRecDepth 8000 in
theorem nothing_any (ok : DevOk dev) (h : St w wr As) (b s : Int) (hb : InI64 b) (hs : InI64 s) (v1 v2 : Value) (safe more : List (Int × ByteArray)) (h1 : PutsIn w v1 safe) (h2 : PutsIn w v2 more) (C1 : PutsOk safe) (C2 : PutsOk more)
    (kv : Value) (ks : List Int) (torn : Int) (mask : Nat) (hk : IntsIn w kv ks) (CO : CrashOk ks torn mask) :
    Calls Try.prog 6 #[.int .i64 b, .int .i64 s, v1, v2, .agg #[kv, .int .i64 torn, .int .u8 (mask : Int)]] wr fun e w' => e = .returned (.bool true) ∧ St w w' [] := by
  have eb := eight_in b
  have es := eight_in s
  obtain ⟨nb, hnb⟩ := Int.eq_ofNat_of_zero_le (show 0 ≤ 16 + eight b by omega)
  obtain ⟨ns, hns⟩ := Int.eq_ofNat_of_zero_le (show 0 ≤ 1 + eight s by omega)
  obtain ⟨S, hS⟩ : ∃ S, S = (wroteM (DevM.new nb ns) safe (min 60 safe.length)).flush.1 := ⟨_, rfl⟩
  obtain ⟨D, hD⟩ : ∃ D, D = wroteM S more (min 60 more.length) := ⟨_, rfl⟩
  have hbox := st_new (St.nil h.ch) [kv, .int .i64 torn, .int .u8 (mask : Int)] 40
  have hwri := written_any ok hbox b s hb hs v1 v2 safe more h1 h2 C1 C2 nb ns hnb.symm hns.symm S D hS hD
  have g : geoOk nb ns := ⟨by omega, by omega, by omega, by omega⟩
  obtain ⟨hwf, hsi⟩ := written_facts g safe more S D hS hD
  rw [hsi] at hwri
  obtain ⟨C, hC⟩ : ∃ C, C = (more.take 60).map (putM nb ns) := ⟨_, rfl⟩
  rw [← hC] at hwri hwf
  have enb := hwf.enb
  subst enb
  obtain ⟨n0, hso⟩ := fell_so hwf ks torn mask
  have HWRI := Lib.hid hwri
  have HWF := Lib.hid hwf
  have HAW : Hid (∀ W L, St w W L → Calls Try.prog 33 #[] W fun e w' => e = .returned (.bool true) ∧ St w w' L) := Lib.hid fun W L h => awake_any ok h
  have HK := Lib.hid hk
  have HCO := Lib.hid CO
  have hnb1 : 16 ≤ D.nb ∧ D.nb ≤ 23 := by omega
  have HNB := Lib.hid hnb1
  have hcl := hwf.len
  have HCL := Lib.hid hcl
  have HSO := Lib.hid hso
  clear hso hwri hwf hsi hC hS hD hbox h h1 h2 C1 C2 hk CO hb hs hnb hns eb es g hnb1
  go_enter Try.func6, Try.ntmps6
  go_upto_block 0 with (first
    | ((go_at_call 32; refine HWRI.out.mono ?_; rintro e w1 ⟨X, vi, vl, rfl, hst⟩; obtain ⟨gi, ci, rfl, _⟩ := st_form hst (by have := HNB.out; omega); obtain ⟨ao, cl, rfl⟩ := st_shape hst.third; have HA := Lib.hid hst; clear hst HWRI))
    | ((go_at_call 33; refine (HAW.out _ _ HA.out).mono ?_; rintro e w2 ⟨rfl, hst⟩; have HB := Lib.hid hst.swap; have c0 : _ = some kv := st_cell hst.fourth 0; have c1 : _ = some (Value.int .i64 torn) := st_cell hst.fourth 1; have c2 : _ = some (Value.int .u8 (mask : Int)) := st_cell hst.fourth 2; clear hst HAW HA))
    | ((go_at_call 34; refine (in_any HB.out kv ks torn mask HK.out HCO.out).mono ?_; rintro e w6 ⟨g, cap, rfl, hcap, hst⟩; have HA := Lib.hid hst.swap; clear hst hcap HB c0 c1 c2))
    | ((go_at_call 23; with_reducible refine (s_pull ok HWF.out HCO.out HA.out).mono ?_; rintro e w7 ⟨rfl, hst⟩; have HB := Lib.hid hst; clear hst HA))
    | ((go_at_call 25; with_reducible refine (s_restart ok HB.out).mono ?_; rintro e w8 ⟨rfl, hst⟩; have HA := Lib.hid hst; clear hst HB))
    | ((go_at_call 30; with_reducible refine (s_image ok HWF.out HA.out).mono ?_; rintro e w9 ⟨vg, rfl, hst⟩; obtain ⟨gg, cg, rfl, _⟩ := st_form hst (by have := HNB.out; omega); have HB := Lib.hid (hst.fifth.drop); clear hst HA)))
  generalize wr.heap.size = P
  generalize fallen ks torn mask 0 C D.safe = F at HB HSO
  obtain ⟨wb, hwb⟩ : ∃ wb : Nat → Bool, wb = fun n => wholeB C (F.getD n empty) (D.safe.getD n empty) n C.length := ⟨_, rfl⟩
  have HWB : Hid (∀ n, wholeB C (F.getD n empty) (D.safe.getD n empty) n C.length = wb n) := Lib.hid fun n => by rw [hwb]
  have HWN : Hid (∀ n, ¬ n = n0 → wb n = true) := Lib.hid fun n hn => by rw [hwb]; exact HSO.out.whole n hn
  clear hwb
  have nbi : (D.nb : Int) ≤ 23 := by have := HNB.out; omega
  have t0 : ((D.nb : Int) == D.nb) = true := by simp
  go_cut [15, 16] (fun t u wc => t = .int .i64 (tornB n0 (wb n0) D.nb : Nat) ∧ St w wc (aStrs (.slice (some ⟨gg, 0, none⟩) D.nb cg) D.nb F :: dev X (fell D ks torn mask) :: aStrs (.slice (some ⟨gi, 0, none⟩) D.nb ci) D.nb D.safe :: aPuts (.slice ao C.length cl) C :: []))
  case first =>
    go_wp2_with fail
    go_loopw [15, 16] (fun t i W => ∃ k : Nat, k ≤ D.nb ∧ t = .int .i64 (tornB n0 (wb n0) k : Nat) ∧ i = .int .i64 ↑k ∧ St w W (aStrs (.slice (some ⟨gg, 0, none⟩) D.nb cg) D.nb F :: dev X (fell D ks torn mask) :: aStrs (.slice (some ⟨gi, 0, none⟩) D.nb ci) D.nb D.safe :: aPuts (.slice ao C.length cl) C :: [])) (fun _ i _ => D.nb - (intOf i).toNat)
    case atStart => exact ⟨0, Nat.zero_le _, by rw [torn_zero]; rfl, rfl, HB.out⟩
    case round =>
      obtain ⟨k, hk, rfl, rfl, hst⟩ := hrel
      by_cases hlt : k < D.nb
      · have hg := (st_at hst rfl k (by omega)).trans (strs_at F k (by rw [HSO.out.lenF]; exact hlt))
        have hw := (st_at hst.third rfl k (by omega)).trans (strs_at D.safe k (by rw [HSO.out.lenS]; exact hlt))
        have HS := Lib.hid hst
        have HWK := Lib.hid (HWB.out k)
        have HZF := Lib.hid (HSO.out.szF k hlt)
        have HZS := Lib.hid (HSO.out.szS k hlt)
        have HSE := Lib.hid (fun j => HSO.out.sect k j hlt)
        have HTM := Lib.hid (torn_more n0 wb k HWN.out)
        have tl := torn_le n0 (wb n0) k
        have hg2 := Lib.hid (strs_at F k (by rw [HSO.out.lenF]; exact hlt))
        have hw2 := Lib.hid (strs_at D.safe k (by rw [HSO.out.lenS]; exact hlt))
        generalize F.getD k empty = f at hg hg2 HWK HZF HSE
        generalize D.safe.getD k empty = s at hw hw2 HWK HZS HSE
        generalize tornB n0 (wb n0) k = T at tl HTM ⊢
        have tl2 : (T : Int) ≤ 1 := by omega
        have n1 : (k : Int) < D.nb := by omega
        have tb := bytes_beq f s
        clear hst
        go_wp2_with fail
        go_quiet (fail)
        go_upto_block 2 with fail
        go_cut [17] (fun b wc => b = .bool (wb k) ∧ St w wc (aStrs (.slice (some ⟨gg, 0, none⟩) D.nb cg) D.nb F :: dev X (fell D ks torn mask) :: aStrs (.slice (some ⟨gi, 0, none⟩) D.nb ci) D.nb D.safe :: aPuts (.slice ao C.length cl) C :: []))
        case first =>
          go_wp2_with fail
          go_loopw [17, 18] (fun b i W => ∃ m : Nat, m ≤ C.length ∧ b = .bool (wholeB C f s k m) ∧ i = .int .i64 ↑m ∧ St w W (aStrs (.slice (some ⟨gg, 0, none⟩) D.nb cg) D.nb F :: dev X (fell D ks torn mask) :: aStrs (.slice (some ⟨gi, 0, none⟩) D.nb ci) D.nb D.safe :: aPuts (.slice ao C.length cl) C :: [])) (fun _ i _ => C.length - (intOf i).toNat)
          case atStart => exact ⟨0, Nat.zero_le _, by rw [whole_zero], rfl, HS.out.drewN _⟩
          case round =>
            obtain ⟨m, hm, rfl, rfl, hst⟩ := hrel
            have HS := Lib.hid hst
            clear tb
            by_cases hmt : m < C.length
            · obtain ⟨gl, cl2, hv, _⟩ := st_form hst.fourth (by omega)
              cases hv
              have hN := (st_at hst.fourth rfl (m * 2) (by omega)).trans (wcells_at C m hmt).1
              have hD := (st_at hst.fourth rfl (m * 2 + 1) (by omega)).trans (wcells_at C m hmt).2
              have hG := (st_at hst rfl k (by omega)).trans hg2.out
              have HT := Lib.hid (whole_more C f s k m hmt)
              generalize C[m] = x at hN hD HT
              have m1 : (m : Int) < C.length := by omega
              clear hst
              generalize wholeB C f s k m = b at HT ⊢
              cases b with
              | true =>
                go_wp2_with fail
                go_quiet (fail)
                go_wp2_with fail
                go_roundw
                case rel => exact ⟨m + 1, by omega, by rw [HT.out]; rfl, by go_num, HS.out.drewN _⟩
                case measure => simp [intOf] <;> omega
              | false =>
                by_cases e : x.1 = k
                · rw [e] at hN
                  have HE := Lib.hid e
                  have tb := bytes_beq f x.2
                  have t1 : ((k : Int) == k) = true := by simp
                  clear e
                  go_wp2_with fail
                  go_quiet (fail)
                  go_wp2_with fail
                  go_roundw
                  case rel => exact ⟨m + 1, by omega, by rw [HT.out, decide_eq_true HE.out]; rfl, by go_num, HS.out.drewN _⟩
                  case measure => simp [intOf] <;> omega
                · have HE := Lib.hid e
                  have t1 : ((x.1 : Int) == k) = false := by rw [beq_eq_false_iff_ne]; omega
                  clear e
                  go_wp2_with fail
                  go_quiet (fail)
                  go_wp2_with fail
                  go_roundw
                  case rel => exact ⟨m + 1, by omega, by rw [HT.out, decide_eq_false HE.out]; rfl, by go_num, HS.out.drewN _⟩
                  case measure => simp [intOf] <;> omega
            · obtain rfl : m = C.length := by omega
              clear hst hm hmt
              go_wp2_with fail
              go_meet
              exact ⟨by rw [HWK.out], HS.out⟩
        case rest =>
          obtain ⟨rfl, hst⟩ := hcut
          have HS := Lib.hid hst
          clear hst tb hw hg
          go_upto_if 100 with fail
          generalize wb k = bq at HTM ⊢
          go_cut [15] (fun t wc => t = .int .i64 (tornB n0 (wb n0) (k + 1) : Nat) ∧ St w wc (aStrs (.slice (some ⟨gg, 0, none⟩) D.nb cg) D.nb F :: dev X (fell D ks torn mask) :: aStrs (.slice (some ⟨gi, 0, none⟩) D.nb ci) D.nb D.safe :: aPuts (.slice ao C.length cl) C :: []))
          case first =>
            have e9 : IntKind.i64.wrap ((T : Int) + 1) = (T : Int) + 1 := IntWalk.i64_in _ (by omega)
            cases bq with
            | true =>
              go_wp2_with fail
              go_meet
              exact ⟨by rw [HTM.out]; rfl, HS.out⟩
            | false =>
              go_wp2_with fail
              go_meet
              exact ⟨by rw [HTM.out]; go_num, HS.out⟩
          case rest =>
            obtain ⟨rfl, hst⟩ := hcut
            have HS := Lib.hid hst
            clear hst tl tl2 HTM HWK
            go_wp2_with fail
            go_loopw [19] (fun i W => ∃ j : Nat, j ≤ ns ∧ i = .int .i64 ((512 * j : Nat) : Int) ∧ St w W (aStrs (.slice (some ⟨gg, 0, none⟩) D.nb cg) D.nb F :: dev X (fell D ks torn mask) :: aStrs (.slice (some ⟨gi, 0, none⟩) D.nb ci) D.nb D.safe :: aPuts (.slice ao C.length cl) C :: [])) (fun i _ => 512 * ns - (intOf i).toNat)
            case atStart => exact ⟨0, Nat.zero_le _, rfl, HS.out⟩
            case round =>
              obtain ⟨j, hj, rfl, hst⟩ := hrel
              have hg := (st_at hst rfl k (by omega)).trans hg2.out
              have hw := (st_at hst.third rfl k (by omega)).trans hw2.out
              have HS := Lib.hid hst
              have zs : (s.size : Int) = 512 * ns := by have := HZS.out; omega
              have t2 : ((f.size : Int) == (s.size : Int)) = true := by rw [beq_iff_eq]; have := HZF.out; have := HZS.out; omega
              have nsi : (ns : Int) ≤ 8 := by have := HWF.out.ok.ns1; have := HWF.out.ens; omega
              by_cases hjn : j < ns
              · have HSJ := Lib.hid (HSE.out j hjn)
                obtain ⟨a, ha⟩ : ∃ a, a = 512 * j := ⟨_, rfl⟩
                rw [← ha] at HSJ ⊢
                have c1 : (a : Int) + 512 ≤ s.size := by omega
                have a8 : (a : Int) ≤ 4096 := by omega
                have hs1 := fun W => slice_ex f a (by have := HZF.out; have := HZS.out; omega) W
                have hs2 := fun W => slice_ex s a (by omega) W
                have tb := bytes_beq (ex f a) (ex s a)
                have HAJ := Lib.hid ha
                have HSX := Lib.hid (sect_zero C f s k a)
                clear hst zs ha hj hjn
                go_wp2_with fail
                go_quiet (fail)
                go_wp2_with fail
                go_quiet (fail)
                go_upto_block 6 with fail
                go_cut [20] (fun b wc => b = .bool true ∧ St w wc (aStrs (.slice (some ⟨gg, 0, none⟩) D.nb cg) D.nb F :: dev X (fell D ks torn mask) :: aStrs (.slice (some ⟨gi, 0, none⟩) D.nb ci) D.nb D.safe :: aPuts (.slice ao C.length cl) C :: []))
                case first =>
                  go_wp2_with fail
                  go_loopw [20, 21] (fun b i W => ∃ m : Nat, m ≤ C.length ∧ b = .bool (sectB C f s k a m) ∧ i = .int .i64 ↑m ∧ St w W (aStrs (.slice (some ⟨gg, 0, none⟩) D.nb cg) D.nb F :: dev X (fell D ks torn mask) :: aStrs (.slice (some ⟨gi, 0, none⟩) D.nb ci) D.nb D.safe :: aPuts (.slice ao C.length cl) C :: [])) (fun _ i _ => C.length - (intOf i).toNat)
                  case atStart => exact ⟨0, Nat.zero_le _, by rw [HSX.out], rfl, by first | exact HS.out.drewN _ | exact (HS.out.drewN _).drewN _⟩
                  case round =>
                    obtain ⟨m, hm, rfl, rfl, hst⟩ := hrel
                    have HS := Lib.hid hst
                    clear tb hg hw hs2
                    by_cases hmt : m < C.length
                    · obtain ⟨gl, cl2, hv, _⟩ := st_form hst.fourth (by omega)
                      cases hv
                      have hN := (st_at hst.fourth rfl (m * 2) (by omega)).trans (wcells_at C m hmt).1
                      have hD := (st_at hst.fourth rfl (m * 2 + 1) (by omega)).trans (wcells_at C m hmt).2
                      have hG := (st_at hst rfl k (by omega)).trans hg2.out
                      have HT := Lib.hid (sect_more C f s k a m hmt)
                      have HZ := Lib.hid (HSO.out.szC _ (List.getElem_mem hmt)).2
                      generalize C[m] = x at hN hD HT HZ
                      have m1 : (m : Int) < C.length := by omega
                      clear hst
                      generalize sectB C f s k a m = b at HT ⊢
                      cases b with
                      | true =>
                        clear hD hs1
                        go_wp2_with fail
                        go_quiet (fail)
                        go_wp2_with fail
                        go_roundw
                        case rel => exact ⟨m + 1, by omega, by rw [HT.out]; rfl, by go_num, HS.out.drewN _⟩
                        case measure => simp [intOf] <;> omega
                      | false =>
                        by_cases e : x.1 = k
                        · rw [e] at hN
                          have HE := Lib.hid e
                          have tb := bytes_beq (ex f a) (ex x.2 a)
                          have t1 : ((k : Int) == k) = true := by simp
                          have hs2 := fun W => slice_ex x.2 a (by have := HZ.out; have := HZS.out; omega) W
                          clear e
                          go_wp2_with fail
                          go_quiet (fail)
                          go_wp2_with fail
                          go_roundw
                          case rel => exact ⟨m + 1, by omega, by rw [HT.out, decide_eq_true HE.out]; rfl, by go_num, HS.out.drewN _⟩
                          case measure => simp [intOf] <;> omega
                        · have HE := Lib.hid e
                          have t1 : ((x.1 : Int) == k) = false := by rw [beq_eq_false_iff_ne]; omega
                          clear e
                          go_wp2_with fail
                          go_quiet (fail)
                          go_wp2_with fail
                          go_roundw
                          case rel => exact ⟨m + 1, by omega, by rw [HT.out, decide_eq_false HE.out]; rfl, by go_num, HS.out.drewN _⟩
                          case measure => simp [intOf] <;> omega
                    · obtain rfl : m = C.length := by omega
                      clear hst hm hmt
                      go_wp2_with fail
                      go_meet
                      exact ⟨by rw [HSJ.out], HS.out⟩
                case rest =>
                  obtain ⟨rfl, hst⟩ := hcut
                  have HS := Lib.hid hst
                  clear hst tb hg hw hs1 hs2
                  have c3 := c1
                  go_wp2_with fail
                  go_roundw
                  case rel => exact ⟨j + 1, by have := HAJ.out; have := HZS.out; omega, by rw [show ((512 * (j + 1) : Nat) : Int) = (a : Int) + 512 from by have := HAJ.out; omega], HS.out⟩
                  case measure => have := HAJ.out; have := HZS.out; simp [intOf] <;> omega
              · obtain rfl : j = ns := by omega
                obtain ⟨a, ha⟩ : ∃ a, a = 512 * j := ⟨_, rfl⟩
                rw [← ha]
                have c2 : ¬ (a : Int) + 512 ≤ (s.size : Int) := by omega
                have c4 : decide ((a : Int) + 512 ≤ (s.size : Int)) = false := decide_eq_false c2
                have a8 : (a : Int) ≤ 4096 := by omega
                clear hst zs hj hjn ha
                go_wp2_with fail
                go_quiet (fail)
                go_wp2_with fail
                go_roundw
                case rel => exact ⟨k + 1, by omega, rfl, by go_num, HS.out.drewN _⟩
                case measure => simp [intOf] <;> omega
      · obtain rfl : k = D.nb := by omega
        have HN := Lib.hid hst
        clear hst hk hlt
        go_wp2_with fail
        go_meet
        exact ⟨rfl, HN.out⟩
  case rest =>
    obtain ⟨rfl, hst⟩ := hcut
    have HN := Lib.hid hst
    have tl := torn_le n0 (wb n0) D.nb
    clear hst
    generalize tornB n0 (wb n0) D.nb = T at tl ⊢
    have tl2 : (T : Int) ≤ 1 := by omega
    go_wp2_with fail
    go_ret
    exact ⟨rfl, St.nil HN.out.ch⟩
end
end Go.Proofs.Ytlhhkoaacjakcaa.dev
