/-
  Layer 5, the law JournalWhole, walked.
-/
import Derived.Test.YtjmjmekmaamclaaDoorJyA
namespace Go.Proofs.YtjmjmekmaamclaaDoor.jrn
open Go.ChangeShapes Go.WideShapes Go.ChangeAt Go.RowKit mem dev sums
set_option linter.unusedVariables false
/-- a day as it comes in -/
structure DyM where
  L : List (Int × ByteArray)
  lv : Value
  check : Bool
  fall : Int
  kv : Value
  ks : List Int
  torn : Int
  mask : Nat
  zv : Value
  zs : List Int
structure DayAt (W : World) (b o : Nat) (d : DyM) : Prop where
  c0 : W.cell? ⟨b, o, none⟩ = some d.lv
  c1 : W.cell? ⟨b, o + 1, none⟩ = some (.bool d.check)
  c2 : W.cell? ⟨b, o + 2, none⟩ = some (.int .i64 d.fall)
  c3 : W.cell? ⟨b, o + 3, none⟩ = some d.kv
  c4 : W.cell? ⟨b, o + 4, none⟩ = some (.int .i64 d.torn)
  c5 : W.cell? ⟨b, o + 5, none⟩ = some (.int .u8 ((d.mask : Nat) : Int))
  c6 : W.cell? ⟨b, o + 6, none⟩ = some d.zv
  ps : PutsIn W d.lv d.L
  ki : IntsIn W d.kv d.ks
  zi : IntsIn W d.zv d.zs
structure DyOk (d : DyM) : Prop where
  puts : PutsOk d.L
  fall : InI64 d.fall
  crash : CrashOk d.ks d.torn d.mask
  zs : ∀ z ∈ d.zs, InI64 z
  zl : d.zs.length ≤ 17592186043904
def DaysIn (W : World) (v : Value) (l : List DyM) : Prop :=
  ∃ ao cap, v = .slice ao l.length cap ∧ ∀ i (hi : i < l.length), ∃ b o, ao = some ⟨b, o, none⟩ ∧ DayAt W b (o + i * 7) l[i]
section
variable {w wr : World} {As : List Ast} {X J : Nat} {D : DevM}
theorem same_law {v v' : Value} {xs ys : List ByteArray} (h : St w wr (aRow 9 1 v 24 (dev.strs xs) :: aRow 9 1 v' 24 (dev.strs ys) :: As)) (hx : xs.length = 24) (hy : ys.length = 24) :
    Calls Tryd.prog 25 #[v, v'] wr fun e w' => e = .returned (.bool (decide (xs = ys))) ∧ St w w' (aRow 9 1 v 24 (dev.strs xs) :: aRow 9 1 v' 24 (dev.strs ys) :: As) :=
  (rsame_any v v' _ _ wr (strs_in h) (strs_in h.swap) (by rw [hx]; decide) (by rw [hy]; decide)).mono fun e w' q => by
    obtain ⟨he, q, rfl⟩ := q
    exact ⟨he, h.drewN q⟩
set_option maxHeartbeats 6000000 in
set_option maxRecDepth 16000 in
theorem whole_law (g : Halves w) (n : Int) (hn : InI64 n) (n2 : Int) (hn2 : InI64 n2) (v : Value) (l : List DyM) (hv : DaysIn w v l) (hl : l.length ≤ 17592186043904) (ok : ∀ d ∈ l, DyOk d) :
    Calls Tryd.prog 4 #[.int .i64 n, .int .i64 n2, v] w fun e w' => e = .returned (.bool true) ∧ St w w' [] := by
  obtain ⟨f1, f2, f3, f4⟩ := tmod_facts 9 (by omega) n
  have f1 : -9 < n.tmod 9 := f1
  have f2 : n.tmod 9 < 9 := f2
  have f3 : 0 ≤ (n.tmod 9 + 9).tmod 9 := f3
  have f4 : (n.tmod 9 + 9).tmod 9 < 9 := f4
  obtain ⟨q, hq⟩ : ∃ q : Nat, (n.tmod 9 + 9).tmod 9 = (q : Int) := ⟨_, (Int.toNat_of_nonneg f3).symm⟩
  obtain ⟨ln, hln⟩ : ∃ ln : Nat, ln = 6 + q := ⟨_, rfl⟩
  obtain ⟨g1, g2, g3, g4⟩ := tmod_facts 3 (by omega) n2
  have g1 : -3 < n2.tmod 3 := g1
  have g2 : n2.tmod 3 < 3 := g2
  have g3 : 0 ≤ (n2.tmod 3 + 3).tmod 3 := g3
  have g4 : (n2.tmod 3 + 3).tmod 3 < 3 := g4
  obtain ⟨r, hr⟩ : ∃ r : Nat, (n2.tmod 3 + 3).tmod 3 = (r : Int) := ⟨_, (Int.toNat_of_nonneg g3).symm⟩
  obtain ⟨ns, hns⟩ : ∃ ns : Nat, ns = 1 + r := ⟨_, rfl⟩
  have h6 : 6 ≤ ln := by omega
  have h14 : ln ≤ 14 := by omega
  have hs1 : 1 ≤ ns := by omega
  have hs3 : ns ≤ 3 := by omega
  obtain ⟨N, D1, P0, P, Q, R, S, Fl, T, Fe, Ge, He, Te, K, KD, A⟩ := whole_calls g ln ns h6 h14 hs1 hs3
  have e1 : IntKind.i64.wrap (n.tmod 9) = n.tmod 9 := IntWalk.i64_in _ (by omega)
  have e2 : IntKind.i64.wrap (n.tmod 9 + 9) = n.tmod 9 + 9 := IntWalk.i64_in _ (by omega)
  have e3 : IntKind.i64.wrap (q : Int) = (q : Int) := IntWalk.i64_in _ (by omega)
  have e4 : IntKind.i64.wrap (6 + (q : Int)) = (ln : Int) := by rw [IntWalk.i64_in _ (by omega)]; omega
  have k1 : IntKind.i64.wrap (n2.tmod 3) = n2.tmod 3 := IntWalk.i64_in _ (by omega)
  have k2 : IntKind.i64.wrap (n2.tmod 3 + 3) = n2.tmod 3 + 3 := IntWalk.i64_in _ (by omega)
  have k3 : IntKind.i64.wrap (r : Int) = (r : Int) := IntWalk.i64_in _ (by omega)
  have k4 : IntKind.i64.wrap (1 + (r : Int)) = (ns : Int) := by rw [IntWalk.i64_in _ (by omega)]; omega
  obtain ⟨ao, cap, rfl, hc⟩ := hv
  have HC := Lib.hid hc
  have HOK := Lib.hid ok
  have H6 := Lib.hid h6
  have H14 := Lib.hid h14
  have HS1 := Lib.hid hs1
  have HS3 := Lib.hid hs3
  have HL := Lib.hid hl
  have H0 := Lib.hid (St.nil (Ch.refl _ w))
  clear hn hn2 hc ok f1 f2 f3 f4 g1 g2 g3 g4 hln hns h6 h14 hs1 hs3 g hl
  go_enter Tryd.func4, Tryd.ntmps4
  go_upto_region 5 with (first
    | ((go_at_call 14; refine (A.new _ _ H0.out).mono ?_; rintro e w2 ⟨X, rfl, hst⟩; have H1 := Lib.hid hst; clear hst))
    | ((go_at_call 8; refine (A.fmt _ _ _ H1.out).mono ?_; rintro e w3 ⟨rfl, hst⟩; have H2 := Lib.hid hst; clear hst H1))
    | ((go_at_call 16; refine (A.awk _ _ H2.out).mono ?_; rintro e w4 ⟨rfl, hst⟩; have H3 := Lib.hid hst; clear hst H2)))
  clear e1 e2 e3 e4 k1 k2 k3 k4 hq hr
  go_upto_block 0 with (first
    | ((go_at_call 7; refine (A.open1 _ _ _ H3.out).mono ?_; rintro e w5 ⟨J, D2, s0, rfl, hh, hst⟩; have HP0 := Lib.hid hh; have H4 := Lib.hid hst; clear hst hh H3))
    | ((go_at_call 17; refine (A.model0 _ _ _ _ _ _ HP0.out H4.out).mono ?_; rintro e w7 ⟨v0, was1, rfl, hh, hst⟩; obtain ⟨g0, cap0, rfl, _⟩ := st_form hst (by decide); have HP := Lib.hid hh; have H8 := Lib.hid hst; clear hst hh H4)))
  go_cut [12] from 64 to 205 (fun x W => ∃ (k : Nat) (D : DevM) (s : JSt) (was : List ByteArray) (J g cap : Nat), k ≤ 12 ∧ x = .slice (some ⟨g, 0, none⟩) 24 cap ∧ P k D s was ∧ St w W [aRow 9 1 (.slice (some ⟨g, 0, none⟩) 24 cap) 24 (dev.strs was), pDev X D, K s J X])
  case first =>
    go_wp2_with fail
    go_loopw [9, 12, 13] (fun j v i W => ∃ (k : Nat) (D : DevM) (s : JSt) (was : List ByteArray) (J g cap : Nat), k ≤ l.length ∧ k ≤ 12 ∧ j = pt J ∧ v = .slice (some ⟨g, 0, none⟩) 24 cap ∧ i = .int .i64 ↑k ∧ P k D s was ∧ St w W [aRow 9 1 (.slice (some ⟨g, 0, none⟩) 24 cap) 24 (dev.strs was), pDev X D, K s J X]) (fun _ _ i _ => l.length - (intOf i).toNat)
    case atStart => exact ⟨0, _, _, _, _, _, _, Nat.zero_le _, Nat.zero_le _, rfl, rfl, rfl, HP.out, H8.out⟩
    case round =>
      obtain ⟨k, D, s, was, J, g0, cap0, hk, hk12, rfl, rfl, rfl, hp, hst⟩ := hrel
      clear H8 HP HP0
      have HST := Lib.hid hst
      have HP := Lib.hid hp
      have HK12 := Lib.hid hk12
      have k3 : (k : Int) ≤ l.length := by omega
      have k4 : (l.length : Int) ≤ 17592186043904 := by have := HL.out; omega
      by_cases hgo : k < l.length ∧ k < 12
      · obtain ⟨hlt, h12⟩ := hgo
        have k1 : (k : Int) < l.length := by omega
        have k2 : (k : Int) < 12 := by omega
        obtain ⟨b, o, rfl, hd⟩ := HC.out k hlt
        have HD := Lib.hid hd
        have HDO := Lib.hid (HOK.out _ (List.getElem_mem hlt))
        have HLT := Lib.hid hlt
        have H12 := Lib.hid h12
        have e1 : IntKind.i64.wrap ((k : Int) + 1) = (k : Int) + 1 := IntWalk.i64_in _ (by omega)
        have HWL := Lib.hid (A.len _ _ _ _ HP.out)
        have z1 := hst.ch.cell hd.c1
        generalize l[k] = d at HD HDO z1
        clear hst hlt h12 hd hk hk12 hp
        go_upto_region 12 with fail
        go_cut [83] from 74 to 83 (fun x W => x = .bool false ∧ ∃ (D : DevM) (s : JSt), Q k D s was ∧ St w W [aRow 9 1 (.slice (some ⟨g0, 0, none⟩) 24 cap0) 24 (dev.strs was), pDev X D, K s J X])
        case first =>
          cases hck : d.check with
          | true =>
            rw [hck] at z1
            clear hck
            go_wp2_with ((go_at_call 10; refine (A.check _ _ _ _ _ _ _ _ H12.out HP.out (St.re (L := [_, _, _]) [1, 2, 0] [] HST.out)).mono ?_; rintro e w8 ⟨D', s', rfl, hq, hst⟩; have HQ := Lib.hid hq; have H9 := Lib.hid hst; clear hst hq))
            go_meet
            exact ⟨rfl, D', s', HQ.out, St.re (L := [_, _, _]) [2, 0, 1] [] H9.out⟩
          | false =>
            rw [hck] at z1
            clear hck
            go_wp2_with fail
            go_meet
            exact ⟨rfl, D, s, A.skip _ _ _ _ HP.out, HST.out⟩
        case rest =>
          obtain ⟨rfl, D3, s3, hq, hst⟩ := hcut
          clear HST HP z1
          have HQ := Lib.hid hq
          have z0 := hst.ch.cell HD.out.c0
          have HST := Lib.hid (St.re (L := [_, _, _]) [1, 0, 2] [] hst)
          have HGD := Lib.hid (putsM_good (z := 512 * ns) H6.out (by have := H14.out; omega) d.L (putsGood_nil ln (512 * ns)))
          clear hst hq
          go_upto_region 14 with fail
          go_cut [14] from 84 to 92 (fun x W => ∃ uo uc, x = .slice uo (putsM ln (512 * ns) d.L []).length uc ∧ St w W [aWrs x (putsM ln (512 * ns) d.L []), aRow 9 1 (.slice (some ⟨g0, 0, none⟩) 24 cap0) 24 (dev.strs was), pDev X D3, K s3 J X])
          case first =>
            go_region_held3 (fun w' => w'.cell? ⟨b, o + k * 7, none⟩ = some d.lv) (go_keep) (first
              | ((go_at_call 19; refine (A.size _ _ _ _ _ _ _ HQ.out (by first | exact HST.out | exact HST.out.drew | exact HST.out.drewN _)).mono ?_; rintro e w9 ⟨rfl, hst⟩; have zz := hst.ch.cell HD.out.c0; have H9 := Lib.hid hst; clear hst))
              | ((go_at_call 18; refine (lputs_st (by first | exact H9.out | exact H9.out.drew | exact H9.out.drewN _) d.L d.lv HD.out.ps HDO.out.puts ln (512 * ns) H6.out H14.out (by have := HS1.out; omega) (by have := HS3.out; omega)).mono ?_; rintro e w10 ⟨u2, rfl, hst⟩; have zy := hst.ch.cell HD.out.c0; have H10 := Lib.hid hst; clear hst)))
            all_goals
              go_wp2_with fail
              go_meet
              have hst := St.re (L := [_, _, _, _]) [0, 2, 1, 3] [] H10.out
              obtain ⟨uo, uc, hu⟩ := st_shape hst
              exact ⟨uo, uc, hu, hst⟩
          case rest =>
            obtain ⟨uo, uc, rfl, hst⟩ := hcut
            clear HST z0
            generalize putsM ln (512 * ns) d.L [] = out at HGD hst
            have HO14 : Hid (out.length ≤ 14) := Lib.hid (by have := HGD.out.len; have := H14.out; omega)
            have HST := Lib.hid hst
            have hE := st_none hst 9 1
            have hW := St.re (L := [_, _, _, _, _]) [2, 0, 1, 3, 4] [] hE
            have HNEWS := Lib.hid fun j u (hj : (dev.strs was)[j]? = some u) => (show (wc.alloc (.cells #[] 9)).cell? ((⟨g0, 0, none⟩ : Addr).add j) = some u from by
              have hlt := (List.getElem?_eq_some_iff.1 hj).1
              have hlt2 : j < 24 := by rw [strs_len, HWL.out] at hlt; exact hlt
              rw [Addr.add_mid, Nat.zero_add, st_at hW rfl j (by omega), hj])
            have HE := Lib.hid hE
            clear hst hE hW
            go_upto_block 2 with ((refine lst_append rowStr HE.out rfl _ _ rfl rfl ⟨g0, 0, none⟩ 24 cap0 (dev.strs was) rfl (by rw [strs_len, HWL.out]) HNEWS.out (strs_one _) (by decide) (by decide) (by decide) ?_; intro ga ca w11 hst _; rw [List.nil_append] at hst; have HA := Lib.hid hst; clear hst))
            clear HE HNEWS HST
            have HS0 : Hid (St w _ [aRow 9 1 (.slice (some ⟨ga, 0, none⟩) 24 ca) 24 (dev.strs (app (out.take 0) was)), aWrs (.slice uo out.length uc) out, aRow 9 1 (.slice (some ⟨g0, 0, none⟩) 24 cap0) 24 (dev.strs was), pDev X D3, K s3 J X]) := Lib.hid HA.out
            go_cut [16] from 96 to 113 (fun x W => St w W [aRow 9 1 (.slice (some ⟨ga, 0, none⟩) 24 ca) 24 (dev.strs (app out was)), aWrs (.slice uo out.length uc) out, aRow 9 1 (.slice (some ⟨g0, 0, none⟩) 24 cap0) 24 (dev.strs was), pDev X D3, K s3 J X])
            case first =>
              go_wp2_with fail
              go_loopw [16] (fun i W => ∃ j : Nat, j ≤ out.length ∧ i = .int .i64 ↑j ∧ St w W [aRow 9 1 (.slice (some ⟨ga, 0, none⟩) 24 ca) 24 (dev.strs (app (out.take j) was)), aWrs (.slice uo out.length uc) out, aRow 9 1 (.slice (some ⟨g0, 0, none⟩) 24 cap0) 24 (dev.strs was), pDev X D3, K s3 J X]) (fun i _ => out.length - (intOf i).toNat)
              case atStart => exact ⟨0, Nat.zero_le _, rfl, HS0.out⟩
              case round =>
                obtain ⟨j, hj, rfl, hst⟩ := hrel
                clear HS0
                have j3 : (j : Int) ≤ out.length := by omega
                have j4 : (out.length : Int) ≤ 14 := by have := HO14.out; omega
                by_cases hjl : j < out.length
                · obtain ⟨go, co, hv', _⟩ := st_form hst.swap (by omega)
                  cases hv'
                  have hat := wcells_at2 out j hjl
                  have c0 := (st_at hst.swap rfl (j * 2) (by omega)).trans hat.1
                  have c1 := (st_at hst.swap rfl (j * 2 + 1) (by omega)).trans hat.2
                  have hn24 := (HGD.out.each _ (List.getElem_mem hjl)).1
                  have HTK : Hid (app (out.take (j + 1)) was = (app (out.take j) was).set (out[j]).1 (out[j]).2) := Lib.hid (flushed_take out was j hjl)
                  have HLA : Hid ((app (out.take j) was).length = 24) := Lib.hid (by rw [app_len2]; exact HWL.out)
                  have hat0 : (wcells out)[j * 2]? = some (.int .i64 ((out[j]).1 : Int)) := hat.1
                  have hat1 : (wcells out)[j * 2 + 1]? = some (.string (out[j]).2) := hat.2
                  clear hat
                  generalize out[j] = x at c0 c1 hn24 HTK hat0 hat1
                  obtain ⟨n1, d1⟩ := x
                  have c0 : _ = some (Value.int .i64 (n1 : Int)) := c0
                  have c1 : _ = some (Value.string d1) := c1
                  have n0 : (n1 : Int) < 24 := by have : n1 < 24 := hn24; omega
                  have x0 := (st_at hst rfl n1 (by omega)).trans (strs_at (app (out.take j) was) n1 (by rw [HLA.out]; omega))
                  have xf := st_unfrozen hst n1
                  have HPT : Hid (St w _ [aRow 9 1 (.slice (some ⟨ga, 0, none⟩) 24 ca) 24 (dev.strs (app (out.take (j + 1)) was)), aWrs (.slice (some ⟨go, 0, none⟩) out.length uc) out, aRow 9 1 (.slice (some ⟨g0, 0, none⟩) 24 cap0) 24 (dev.strs was), pDev X D3, K s3 J X]) := Lib.hid (by
                    have := st_put (u := .string d1) (i := n1) hst (by omega)
                    rw [strs_set2] at this
                    rw [HTK.out]
                    exact this)
                  have p0 : _ = some (Value.int .i64 (n1 : Int)) := (st_at HPT.out.swap rfl (j * 2) (by omega)).trans hat0
                  have p1 : _ = some (Value.string d1) := (st_at HPT.out.swap rfl (j * 2 + 1) (by omega)).trans hat1
                  have HJL := Lib.hid hjl
                  have j1 : (j : Int) < out.length := by omega
                  have e9 : IntKind.i64.wrap ((j : Int) + 1) = (j : Int) + 1 := IntWalk.i64_in _ (by omega)
                  generalize (app (out.take j) was)[n1]'_ = y0 at x0
                  clear hst hjl hj hat0 hat1 hn24 HTK HLA
                  go_upto_region 19 with fail
                  go_region_held3 (fun w' => w'.cell? ⟨go, j * 2, none⟩ = some (.int .i64 (n1 : Int)) ∧ w'.cell? ⟨go, j * 2 + 1, none⟩ = some (.string d1)) (go_keep) (fail)
                  go_wp2_with fail
                  go_roundw
                  case rel => exact ⟨j + 1, by have := HJL.out; omega, by go_num, HPT.out.drew⟩
                  case measure => simp [intOf] <;> omega
                · obtain rfl : j = out.length := by omega
                  have HE : Hid (app (out.take out.length) was = app out was) := Lib.hid (by rw [List.take_length])
                  have HST := Lib.hid hst
                  clear hst hjl hj
                  go_wp2_with fail
                  go_meet
                  rw [← HE.out]
                  exact HST.out
            case rest =>
              have hst := hcut
              have z2 := hst.ch.cell HD.out.c2
              have HST := Lib.hid (St.re (L := [_, _, _, _, _]) [3, 0, 1, 2, 4] [] hst)
              clear hcut hst HS0 HA
              obtain ⟨pl, hpl⟩ : ∃ pl, pl = decide (0 < d.fall) := ⟨_, rfl⟩
              have HPL := Lib.hid hpl
              clear hpl
              go_upto_if 119 with fail
              go_cut [120] from 119 to 135 (fun x W => ∃ D : DevM, R k pl D s3 was ∧ St w W [pDev X D, aRow 9 1 (.slice (some ⟨ga, 0, none⟩) 24 ca) 24 (dev.strs (app out was)), aWrs (.slice uo out.length uc) out, aRow 9 1 (.slice (some ⟨g0, 0, none⟩) 24 cap0) 24 (dev.strs was), K s3 J X])
              case first =>
                have hmf := HDO.out.fall
                by_cases hf0 : 0 < d.fall
                · have r0 : 0 ≤ (d.fall - 1).tmod 40 := Int.tmod_nonneg _ (by omega)
                  have r1 : (d.fall - 1).tmod 40 < 40 := Int.tmod_lt_of_pos _ (by omega)
                  obtain ⟨t, ht⟩ : ∃ t : Nat, (d.fall - 1).tmod 40 = (t : Int) := ⟨_, (Int.toNat_of_nonneg r0).symm⟩
                  have ht2 : (d.fall - 1) % 40 = (t : Int) := by rw [← ht]; exact (Int.tmod_eq_emod_of_nonneg (by omega)).symm
                  have e1 : IntKind.i64.wrap (d.fall - 1) = d.fall - 1 := IntWalk.i64_in _ (by have := hmf.2; omega)
                  have e4 : IntKind.i64.wrap (t : Int) = (t : Int) := IntWalk.i64_in _ (by omega)
                  have e5 : IntKind.i64.wrap (1 + (t : Int)) = 1 + (t : Int) := IntWalk.i64_in _ (by omega)
                  have HR0 : Hid (0 ≤ 1 + (t : Int) ∧ 1 + (t : Int) ≤ 9223372036854775807) := Lib.hid ⟨by omega, by omega⟩
                  have HPT : Hid (pl = true) := Lib.hid (by rw [HPL.out]; exact decide_eq_true hf0)
                  have y2 := HST.out.ch.cell HD.out.c2
                  have y3 := HST.out.ch.cell HD.out.c3
                  have y4 := HST.out.ch.cell HD.out.c4
                  have y5 := HST.out.ch.cell HD.out.c5
                  clear hmf r0 r1 z2
                  go_upto_region 21 with fail
                  go_region_held3 (fun w' => w'.cell? ⟨b, o + k * 7 + 2, none⟩ = some (.int .i64 d.fall) ∧ w'.cell? ⟨b, o + k * 7 + 3, none⟩ = some d.kv ∧ w'.cell? ⟨b, o + k * 7 + 4, none⟩ = some (.int .i64 d.torn) ∧ w'.cell? ⟨b, o + k * 7 + 5, none⟩ = some (.int .u8 ((d.mask : Nat) : Int))) (go_keep) (first
                    | ((go_at_call 21; refine (lcrash_any (by first | exact HST.out | exact HST.out.drew | exact HST.out.drewN _) d.kv d.ks d.torn d.mask HD.out.ki HDO.out.crash).mono ?_; rintro e w12 ⟨cv, rfl, hst⟩; have v2 := hst.ch.cell HD.out.c2; have v3 := hst.ch.cell HD.out.c3; have v4 := hst.ch.cell HD.out.c4; have v5 := hst.ch.cell HD.out.c5; have H9 := Lib.hid hst.swap; clear hst))
                    | ((go_at_call 20; refine (A.plan _ k _ _ _ was _ cv _ _ _ _ HR0.out.1 HR0.out.2 HDO.out.crash HQ.out (by first | exact H9.out | exact H9.out.drew | exact H9.out.drewN _)).mono ?_; rintro e w13 ⟨D4, rfl, hr4, hst⟩; have t2 := hst.ch.cell HD.out.c2; have t3 := hst.ch.cell HD.out.c3; have t4 := hst.ch.cell HD.out.c4; have t5 := hst.ch.cell HD.out.c5; have HR4 := Lib.hid hr4; have H10 := Lib.hid hst; clear hst hr4)))
                  go_wp2_with fail
                  go_meet
                  exact ⟨D4, by rw [HPT.out]; exact HR4.out, H10.out⟩
                · have HPT : Hid (pl = false) := Lib.hid (by rw [HPL.out]; exact decide_eq_false hf0)
                  clear hmf
                  go_wp2_with fail
                  go_meet
                  exact ⟨D3, by rw [HPT.out]; exact A.noplan _ _ _ _ HQ.out, HST.out⟩
              case rest =>
                obtain ⟨D4, hr4, hst⟩ := hcut
                clear z2 HST HQ
                have HR4 := Lib.hid hr4
                have HST := Lib.hid (St.re (L := [_, _, _, _, _]) [2, 0, 4, 1, 3] [] hst)
                clear hst hr4
                have HAL : Hid ((app out was).length = 24) := Lib.hid (by rw [app_len2]; exact HWL.out)
                go_upto_region 23 with ((go_at_call 9; refine (A.commit _ _ _ _ _ _ _ _ _ _ _ H12.out HR4.out HGD.out HST.out).mono ?_; rintro e w14 ⟨x, D5, rfl, hcase⟩; have HCS := Lib.hid hcase; clear hcase))
                rcases HCS.out with ⟨rfl, hdn, s5, hS, hst⟩ | ⟨rfl, hpl, hdn, ⟨was2, hw2, hF⟩, hst⟩
                · have HS := Lib.hid hS
                  have HST := Lib.hid (St.re (L := [_, _, _, _, _]) [1, 0, 2, 3, 4] [] hst)
                  have HDN : Hid (∀ W As, St w W (pDev X D5 :: As) → Calls Tryd.prog 22 #[pt X] W fun e w' => e = .returned (.bool false) ∧ St w w' (pDev X D5 :: As)) := Lib.hid fun W As h => by
                    have := A.down W X D5 As h
                    rw [hdn] at this
                    exact this
                  clear hS hst hdn HCS
                  have z2 := HST.out.ch.cell HD.out.c2
                  by_cases hf0 : 0 < d.fall
                  · have f0 : (0 : Int) < d.fall := hf0
                    clear hf0
                    go_upto_region 27 with (first
                      | ((go_at_call 22; refine (HDN.out _ _ HST.out).mono ?_; rintro e w17 ⟨rfl, hst⟩; have p2 := hst.ch.cell HD.out.c2; have p3 := hst.ch.cell HD.out.c3; have p4 := hst.ch.cell HD.out.c4; have p5 := hst.ch.cell HD.out.c5; have p6 := hst.ch.cell HD.out.c6; have HST := Lib.hid hst; clear hst))
                      | ((go_at_call 21; refine (lcrash_any HST.out d.kv d.ks d.torn d.mask HD.out.ki HDO.out.crash).mono ?_; rintro e w15 ⟨cv, rfl, hst⟩; have H15 := Lib.hid hst.swap; clear hst))
                      | ((go_at_call 23; refine (A.pull _ _ _ _ _ _ _ _ _ _ _ _ HDO.out.crash HS.out H15.out).mono ?_; rintro e w16 ⟨D6, rfl, hdn6, hF, hst⟩; have HF := Lib.hid hF; have HDN6 := Lib.hid hdn6; have q3 := hst.ch.cell HD.out.c3; have q4 := hst.ch.cell HD.out.c4; have q5 := hst.ch.cell HD.out.c5; have q6 := hst.ch.cell HD.out.c6; have H16 := Lib.hid hst; clear hst hF hdn6)))
                    go_upto_region 30 with ((go_at_call 22; refine (A.down _ _ _ _ H16.out).mono ?_; rintro e w18 ⟨rfl, hst⟩; have d6 := HDN6.out; have o3 := hst.ch.cell HD.out.c3; have o4 := hst.ch.cell HD.out.c4; have o5 := hst.ch.cell HD.out.c5; have o6 := hst.ch.cell HD.out.c6; have H18 := Lib.hid hst; clear hst))
                    go_region_held3 (fun w' => w'.cell? ⟨b, o + k * 7 + 3, none⟩ = some d.kv ∧ w'.cell? ⟨b, o + k * 7 + 4, none⟩ = some (.int .i64 d.torn) ∧ w'.cell? ⟨b, o + k * 7 + 5, none⟩ = some (.int .u8 ((d.mask : Nat) : Int)) ∧ w'.cell? ⟨b, o + k * 7 + 6, none⟩ = some d.zv) (go_keep) ((go_at_call 24; refine (A.opened _ _ _ _ _ _ _ _ _ _ d.zs _ H12.out HD.out.ki HDO.out.crash HD.out.zi HDO.out.zs HDO.out.zl HF.out (by first | exact H18.out | exact H18.out.drew | exact H18.out.drewN _)).mono ?_; rintro e w19 ⟨J9, D9, s9, rfl, hT, hst⟩; have r3 := hst.ch.cell HD.out.c3; have r4 := hst.ch.cell HD.out.c4; have r5 := hst.ch.cell HD.out.c5; have r6 := hst.ch.cell HD.out.c6; have HT := Lib.hid hT; have H19 := Lib.hid hst; clear hst hT))
                    have HAP : Hid (decide (app out was = app out was) = true) := Lib.hid (decide_eq_true rfl)
                    have HSM : Hid (∀ W v2 As, St w W (aRow 9 1 v2 24 (dev.strs (app out was)) :: aRow 9 1 (.slice (some ⟨ga, 0, none⟩) 24 ca) 24 (dev.strs (app out was)) :: As) → Calls Tryd.prog 25 #[v2, .slice (some ⟨ga, 0, none⟩) 24 ca] W fun e w' => e = .returned (.bool true) ∧ St w w' (aRow 9 1 v2 24 (dev.strs (app out was)) :: aRow 9 1 (.slice (some ⟨ga, 0, none⟩) 24 ca) 24 (dev.strs (app out was)) :: As)) := Lib.hid fun W v2 As h => by
                      have := same_law h HAL.out HAL.out
                      rw [HAP.out] at this
                      exact this
                    have H20 := Lib.hid (St.re (L := [_, _, _, _, _, _]) [0, 1, 3, 2, 4, 5] [] H19.out)
                    go_wp2_with (first
                      | ((go_at_call 17; refine (A.model _ _ _ _ _ _ _ H12.out HT.out H20.out).mono ?_; rintro e w30 ⟨v9, rfl, hst⟩; have H21 := Lib.hid (St.re (L := [_, _, _, _, _, _, _]) [0, 5, 6, 1, 2, 3, 4] [] hst); clear hst))
                      | ((go_at_call 25; with_reducible refine (HSM.out _ _ _ H21.out).mono ?_; rintro e w31 ⟨rfl, hst⟩; have H22 := Lib.hid hst; clear hst)))
                    go_roundw
                    case rel => exact ⟨k + 1, D9, s9, app out was, J9, ga, ca, by have := HLT.out; omega, by have := H12.out; omega, rfl, rfl, by go_num, A.next _ _ _ _ H12.out HT.out, St.re (L := [_, _, _, _, _, _, _]) [1, 3, 4] [0, 2, 5, 6] H22.out⟩
                    case measure => simp [intOf] <;> omega
                  · have f0 : ¬ (0 : Int) < d.fall := hf0
                    have HPF : Hid (pl = false) := Lib.hid (by rw [HPL.out]; exact decide_eq_false hf0)
                    have HT := Lib.hid (A.stay _ _ _ _ (by have := HS.out; rw [HPF.out] at this; exact this))
                    clear hf0
                    have HAP : Hid (decide (app out was = app out was) = true) := Lib.hid (decide_eq_true rfl)
                    have HSM : Hid (∀ W v2 As, St w W (aRow 9 1 v2 24 (dev.strs (app out was)) :: aRow 9 1 (.slice (some ⟨ga, 0, none⟩) 24 ca) 24 (dev.strs (app out was)) :: As) → Calls Tryd.prog 25 #[v2, .slice (some ⟨ga, 0, none⟩) 24 ca] W fun e w' => e = .returned (.bool true) ∧ St w w' (aRow 9 1 v2 24 (dev.strs (app out was)) :: aRow 9 1 (.slice (some ⟨ga, 0, none⟩) 24 ca) 24 (dev.strs (app out was)) :: As)) := Lib.hid fun W v2 As h => by
                      have := same_law h HAL.out HAL.out
                      rw [HAP.out] at this
                      exact this
                    go_upto_region 27 with ((go_at_call 22; refine (HDN.out _ _ HST.out).mono ?_; rintro e w17 ⟨rfl, hst⟩; have p2 := hst.ch.cell HD.out.c2; have p3 := hst.ch.cell HD.out.c3; have p4 := hst.ch.cell HD.out.c4; have p5 := hst.ch.cell HD.out.c5; have p6 := hst.ch.cell HD.out.c6; have HST := Lib.hid hst; clear hst))
                    go_wp2_with (first
                      | ((go_at_call 22; refine (HDN.out _ _ HST.out).mono ?_; rintro e w17 ⟨rfl, hst⟩; have p2 := hst.ch.cell HD.out.c2; have p3 := hst.ch.cell HD.out.c3; have p4 := hst.ch.cell HD.out.c4; have p5 := hst.ch.cell HD.out.c5; have p6 := hst.ch.cell HD.out.c6; have HST := Lib.hid hst; clear hst))
                      | ((go_at_call 17; refine (A.model _ _ _ _ _ _ _ H12.out HT.out HST.out).mono ?_; rintro e w30 ⟨v9, rfl, hst⟩; have H21 := Lib.hid (St.re (L := [_, _, _, _, _, _]) [0, 4, 5, 1, 3, 2] [] hst); clear hst))
                      | ((go_at_call 25; with_reducible refine (HSM.out _ _ _ H21.out).mono ?_; rintro e w31 ⟨rfl, hst⟩; have H22 := Lib.hid hst; clear hst)))
                    go_roundw
                    case rel => exact ⟨k + 1, D5, s5, app out was, J, ga, ca, by have := HLT.out; omega, by have := H12.out; omega, rfl, rfl, by go_num, A.next _ _ _ _ H12.out HT.out, St.re (L := [_, _, _, _, _, _]) [1, 3, 4] [0, 2, 5] H22.out⟩
                    case measure => simp [intOf] <;> omega
                · have HF := Lib.hid hF
                  have HW2 := Lib.hid hw2
                  have HST := Lib.hid (St.re (L := [_, _, _, _, _]) [2, 0, 1, 3, 4] [] hst)
                  have f0 : (0 : Int) < d.fall := by
                    have := HPL.out
                    rw [hpl] at this
                    exact of_decide_eq_true this.symm
                  have HDN : Hid (∀ W As, St w W (pDev X D5 :: As) → Calls Tryd.prog 22 #[pt X] W fun e w' => e = .returned (.bool true) ∧ St w w' (pDev X D5 :: As)) := Lib.hid fun W As h => by
                    have := A.down W X D5 As h
                    rw [hdn] at this
                    exact this
                  clear hF hw2 hst hdn HCS hpl
                  go_upto_region 30 with (first
                    | ((go_at_call 22; refine (HDN.out _ _ (St.re (L := [_, _, _, _, _]) [2, 0, 1, 3, 4] [] HST.out)).mono ?_; rintro e w17 ⟨rfl, hst⟩; have p2 := hst.ch.cell HD.out.c2; have HST := Lib.hid (St.re (L := [_, _, _, _, _]) [1, 2, 0, 3, 4] [] hst); clear hst))
                    | ((go_at_call 9; refine (A.dead _ _ _ _ _ _ HST.out).mono ?_; rintro e w18 ⟨rfl, hst⟩; have o3 := hst.ch.cell HD.out.c3; have o4 := hst.ch.cell HD.out.c4; have o5 := hst.ch.cell HD.out.c5; have o6 := hst.ch.cell HD.out.c6; have H18 := Lib.hid (St.re (L := [_, _, _, _, _]) [2, 0, 1, 3, 4] [] hst); clear hst)))
                  go_region_held3 (fun w' => w'.cell? ⟨b, o + k * 7 + 3, none⟩ = some d.kv ∧ w'.cell? ⟨b, o + k * 7 + 4, none⟩ = some (.int .i64 d.torn) ∧ w'.cell? ⟨b, o + k * 7 + 5, none⟩ = some (.int .u8 ((d.mask : Nat) : Int)) ∧ w'.cell? ⟨b, o + k * 7 + 6, none⟩ = some d.zv) (go_keep) ((go_at_call 24; refine (A.opened _ _ _ _ _ _ _ _ _ _ d.zs _ H12.out HD.out.ki HDO.out.crash HD.out.zi HDO.out.zs HDO.out.zl HF.out (by first | exact H18.out | exact H18.out.drew | exact H18.out.drewN _)).mono ?_; rintro e w19 ⟨J9, D9, s9, rfl, hT, hst⟩; have r3 := hst.ch.cell HD.out.c3; have r4 := hst.ch.cell HD.out.c4; have r5 := hst.ch.cell HD.out.c5; have r6 := hst.ch.cell HD.out.c6; have HT := Lib.hid hT; have H19 := Lib.hid hst; clear hst hT))
                  have HLW : Hid (was2.length = 24) := Lib.hid (A.lenT _ _ _ _ HT.out)
                  have H20 := Lib.hid (St.re (L := [_, _, _, _, _, _]) [0, 1, 4, 3, 5, 2] [] H19.out)
                  by_cases heq : was2 = app out was
                  · have HEQ := Lib.hid heq
                    have HAP : Hid (decide (was2 = app out was) = true) := Lib.hid (decide_eq_true heq)
                    clear heq
                    have HSM : Hid (∀ W v2 As, St w W (aRow 9 1 v2 24 (dev.strs was2) :: aRow 9 1 (.slice (some ⟨ga, 0, none⟩) 24 ca) 24 (dev.strs (app out was)) :: As) → Calls Tryd.prog 25 #[v2, .slice (some ⟨ga, 0, none⟩) 24 ca] W fun e w' => e = .returned (.bool true) ∧ St w w' (aRow 9 1 v2 24 (dev.strs was2) :: aRow 9 1 (.slice (some ⟨ga, 0, none⟩) 24 ca) 24 (dev.strs (app out was)) :: As)) := Lib.hid fun W v2 As h => by
                      have := same_law h HLW.out HAL.out
                      rw [HAP.out] at this
                      exact this
                    go_wp2_with (first
                      | ((go_at_call 17; refine (A.model _ _ _ _ _ _ _ H12.out HT.out H20.out).mono ?_; rintro e w30 ⟨v9, rfl, hst⟩; have H21 := Lib.hid (St.re (L := [_, _, _, _, _, _, _]) [0, 3, 5, 1, 2, 4, 6] [] hst); clear hst))
                      | ((go_at_call 25; with_reducible refine (HSM.out _ _ _ H21.out).mono ?_; rintro e w31 ⟨rfl, hst⟩; have H22 := Lib.hid hst; clear hst)))
                    go_roundw
                    case rel => exact ⟨k + 1, D9, s9, app out was, J9, ga, ca, by have := HLT.out; omega, by have := H12.out; omega, rfl, rfl, by go_num, by have := A.next _ _ _ _ H12.out HT.out; rw [HEQ.out] at this; exact this, St.re (L := [_, _, _, _, _, _, _]) [1, 3, 4] [0, 2, 5, 6] H22.out⟩
                    case measure => simp [intOf] <;> omega
                  · have HEQ : Hid (was2 = was) := Lib.hid (HW2.out.resolve_right heq)
                    have HAP : Hid (decide (was2 = app out was) = false) := Lib.hid (decide_eq_false heq)
                    have HBP : Hid (decide (was2 = was) = true) := Lib.hid (decide_eq_true HEQ.out)
                    clear heq
                    have HSM : Hid (∀ W v2 As, St w W (aRow 9 1 v2 24 (dev.strs was2) :: aRow 9 1 (.slice (some ⟨ga, 0, none⟩) 24 ca) 24 (dev.strs (app out was)) :: As) → Calls Tryd.prog 25 #[v2, .slice (some ⟨ga, 0, none⟩) 24 ca] W fun e w' => e = .returned (.bool false) ∧ St w w' (aRow 9 1 v2 24 (dev.strs was2) :: aRow 9 1 (.slice (some ⟨ga, 0, none⟩) 24 ca) 24 (dev.strs (app out was)) :: As)) := Lib.hid fun W v2 As h => by
                      have := same_law h HLW.out HAL.out
                      rw [HAP.out] at this
                      exact this
                    have HSB : Hid (∀ W v2 B As, St w W (aRow 9 1 v2 24 (dev.strs was2) :: B :: aRow 9 1 (.slice (some ⟨g0, 0, none⟩) 24 cap0) 24 (dev.strs was) :: As) → Calls Tryd.prog 25 #[v2, .slice (some ⟨g0, 0, none⟩) 24 cap0] W fun e w' => e = .returned (.bool true) ∧ St w w' (aRow 9 1 v2 24 (dev.strs was2) :: B :: aRow 9 1 (.slice (some ⟨g0, 0, none⟩) 24 cap0) 24 (dev.strs was) :: As)) := Lib.hid fun W v2 B As h => by
                      have := same_law (h.rest fun V k => k.swap) HLW.out HWL.out
                      rw [HBP.out] at this
                      exact this.mono fun e w' q => ⟨q.1, q.2.rest fun V k => k.swap⟩
                    go_wp2_with (first
                      | ((go_at_call 17; refine (A.model _ _ _ _ _ _ _ H12.out HT.out H20.out).mono ?_; rintro e w30 ⟨v9, rfl, hst⟩; have H21 := Lib.hid (St.re (L := [_, _, _, _, _, _, _]) [0, 3, 5, 1, 2, 4, 6] [] hst); clear hst))
                      | ((go_at_call 25; with_reducible refine (HSM.out _ _ _ H21.out).mono ?_; rintro e w31 ⟨rfl, hst⟩; have H22 := Lib.hid hst; clear hst))
                      | ((go_at_call 25; with_reducible refine (HSB.out _ _ _ _ H22.out).mono ?_; rintro e w32 ⟨rfl, hst⟩; have H23 := Lib.hid hst; clear hst)))
                    go_roundw
                    case rel => exact ⟨k + 1, D9, s9, was, J9, g0, cap0, by have := HLT.out; omega, by have := H12.out; omega, rfl, rfl, by go_num, by have := A.next _ _ _ _ H12.out HT.out; rw [HEQ.out] at this; exact this, St.re (L := [_, _, _, _, _, _, _]) [2, 3, 4] [0, 1, 5, 6] H23.out⟩
                    case measure => simp [intOf] <;> omega
      · have HX : Hid ((k : Int) < l.length → ¬ (k : Int) < 12) := Lib.hid (by intro h1 h2; exact hgo ⟨by omega, by omega⟩)
        clear hst hgo hk hk12 hp
        by_cases hlt : (k : Int) < l.length
        · have k2 : ¬ (k : Int) < 12 := HX.out hlt
          go_wp2_with fail
          go_meet
          exact ⟨k, D, s, was, J, g0, cap0, HK12.out, rfl, HP.out, HST.out⟩
        · go_wp2_with fail
          go_meet
          exact ⟨k, D, s, was, J, g0, cap0, HK12.out, rfl, HP.out, HST.out⟩
  case rest =>
    obtain ⟨k, D, s, was, J, g0, cap0, hk12, rfl, hp, hst⟩ := hcut
    have HK12 := Lib.hid hk12
    have HP := Lib.hid hp
    have HWL := Lib.hid (A.len _ _ _ _ hp)
    have HST := Lib.hid (St.re (L := [_, _, _]) [1, 0, 2] [] hst)
    clear hk12 hp hst H8 HP0
    go_wp2_with (first
      | ((go_at_call 23; refine (A.pull2 _ _ _ _ _ _ _ HK12.out HP.out HST.out).mono ?_; rintro e w20 ⟨D2, rfl, hf, hst⟩; have HFE := Lib.hid hf; have G1 := Lib.hid hst; clear hst hf))
      | ((go_at_call 26; refine (A.rest2 _ _ _ _ _ HFE.out G1.out).mono ?_; rintro e w21 ⟨D3, rfl, hf, hst⟩; have HGE := Lib.hid hf; have G2 := Lib.hid hst; clear hst hf G1))
      | ((go_at_call 7; refine (A.open2 _ _ _ _ _ HGE.out G2.out).mono ?_; rintro e w22 ⟨J2, nn, D4, rfl, hf, hst⟩; have HHE := Lib.hid hf; have G3 := Lib.hid hst; clear hst hf G2))
      | ((go_at_call 7; refine (A.open3 _ _ _ _ _ HHE.out G3.out).mono ?_; rintro e w23 ⟨J3, D5, s5, rfl, hf, hst⟩; have HTE := Lib.hid hf; have G4 := Lib.hid hst; clear hst hf G3))
      | ((go_at_call 17; refine (A.model2 _ _ _ _ _ _ HTE.out G4.out).mono ?_; rintro e w24 ⟨v5, rfl, hst⟩; have G5 := Lib.hid (St.re (L := [_, _, _]) [0, 2, 1] [] hst); clear hst))
      | ((go_at_call 25; refine (same_law G5.out HWL.out HWL.out).mono ?_; rintro e w25 ⟨rfl, hst⟩; have G6 := Lib.hid hst; clear hst)))
    go_ret
    exact ⟨by simp, St.re (L := [_, _, _, _]) [] [0, 1, 2, 3] G6.out⟩
end
end Go.Proofs.YtjmjmekmaamclaaDoor.jrn
