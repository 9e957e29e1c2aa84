/-
  JournalAnew answers true for any length, any lists of puts, any place of a fall and any crash, whatever the world and the tape: a region that is formatted anew tells nothing of what stood there, even if the formatting fell, as chapter 5 says. Conditions: the two tables of package sums stand, when the call begins, as the program's own text lays them; the card ties that to the text.
-/
import Derived.Test.YtoiankgafclbdaaDoorMK
import Derived.Test.YtoiankgafclbdaaDoorDrvI
import Derived.Test.YtoiankgafclbdaaDoorDrvG
import Derived.Test.YtoiankgafclbdaaDoorDrvN
import Derived.Deep.Slices
import Derived.Deep.Fields
import Derived.ChangeSame
import Derived.ChangeSlices
import Derived.SizedLaws
import Derived.Test.YtoiankgafclbdaaDoorRows
import Derived.Test.YtoiankgafclbdaaDoorTie
import Derived.Test.YtoiankgafclbdaaDoorMC
import Derived.ProofKit
import Derived.LaidMore
import Derived.Stop.Joined
import Derived.Stop.LaidErr
import Derived.Lib.LaidTab
import Derived.Test.YtoiankgafclbdaaDoorDevT
import Derived.Test.YtoiankgafclbdaaDoorCards
import Derived.SevenTiedAt
import Derived.OpenShut
import Derived.Carry
namespace Go.Proofs.YtoiankgafclbdaaDoor.jrn
open Go.ChangeShapes Go.WideShapes Go.ChangeAt Go.RowKit mem dev sums
set_option linter.unusedVariables false
def PutssIn (W : World) (v : Value) (l : List (List (Int × ByteArray))) : Prop :=
  ∃ ao cap, v = .slice ao l.length cap ∧ ∀ i (hi : i < l.length), ∃ b o u, ao = some ⟨b, o, none⟩ ∧ W.cell? ⟨b, o + i, none⟩ = some u ∧ PutsIn W u l[i]
section
variable {w wr : World} {As : List Ast} {X J : Nat} {D : DevM}
set_option maxHeartbeats 4000000 in
set_option maxRecDepth 8000 in
theorem room_law (g : Halves w) (n : Int) (hn : InI64 n) (v : Value) (l : List (List (Int × ByteArray))) (hv : PutssIn w v l) (hl : l.length ≤ 17592186043904) (ok : ∀ ps ∈ l, PutsOk ps) :
    Calls Tryd.prog 5 #[.int .i64 n, v] w fun e w' => e = .returned (.bool true) ∧ St w w' [] := by
  obtain ⟨f1, f2, f3, f4⟩ := tmod_facts 9 (by omega) n
  have f1 : -9 < n.tmod 9 := f1
  have f2 : n.tmod 9 < 9 := f2
  have f3 : 0 ≤ (n.tmod 9 + 9).tmod 9 := f3
  have f4 : (n.tmod 9 + 9).tmod 9 < 9 := f4
  obtain ⟨q, hq⟩ : ∃ q : Nat, (n.tmod 9 + 9).tmod 9 = (q : Int) := ⟨_, (Int.toNat_of_nonneg f3).symm⟩
  obtain ⟨ln, hln⟩ : ∃ ln : Nat, ln = 6 + q := ⟨_, rfl⟩
  have h6 : 6 ≤ ln := by omega
  have h14 : ln ≤ 14 := by omega
  obtain ⟨N, D1, P0, P, K, A⟩ := room_calls g ln h6 h14
  have e1 : IntKind.i64.wrap (n.tmod 9) = n.tmod 9 := IntWalk.i64_in _ (by omega)
  have e2 : IntKind.i64.wrap (n.tmod 9 + 9) = n.tmod 9 + 9 := IntWalk.i64_in _ (by omega)
  have e3 : IntKind.i64.wrap (q : Int) = (q : Int) := IntWalk.i64_in _ (by omega)
  have e4 : IntKind.i64.wrap (6 + (q : Int)) = (ln : Int) := by rw [IntWalk.i64_in _ (by omega)]; omega
  have e5 : IntKind.i64.wrap ((ln : Int) - 4) = (ln : Int) - 4 := IntWalk.i64_in _ (by omega)
  obtain ⟨ao, cap, rfl, hc⟩ := hv
  have HC := Lib.hid hc
  have HOK := Lib.hid ok
  have H6 := Lib.hid h6
  have H14 := Lib.hid h14
  have HL := Lib.hid hl
  clear hn hc ok f1 f2 f3 f4 hln h6 h14 g hl
  go_enter Tryd.func5, Tryd.ntmps5
  go_upto_region 5 with (first
    | ((go_at_call 14; refine A.new.mono ?_; rintro e w2 ⟨X, rfl, hst⟩; have H1 := Lib.hid hst; clear hst))
    | ((go_at_call 8; refine (A.fmt _ _ H1.out).mono ?_; rintro e w3 ⟨rfl, hst⟩; have H2 := Lib.hid hst; clear hst H1))
    | ((go_at_call 16; refine (A.awk _ _ H2.out).mono ?_; rintro e w4 ⟨rfl, hst⟩; have H3 := Lib.hid hst; clear hst H2)))
  go_upto_region 8 with (first
    | ((go_at_call 7; refine (A.open1 _ _ H3.out).mono ?_; rintro e w5 ⟨J, D2, s0, rfl, hh, hst⟩; have HP0 := Lib.hid hh; have H4 := Lib.hid hst; clear hst hh H3))
    | ((go_at_call 11; refine (A.most _ _ _ _ _ HP0.out H4.out).mono ?_; rintro e w6 ⟨rfl, hst⟩; have H5 := Lib.hid hst; clear hst H4)))
  clear e1 e2 e3 e4 e5 hq
  go_wp2_with ((go_at_call 17; refine (A.model0 _ _ _ _ _ HP0.out H5.out).mono ?_; rintro e w7 ⟨v0, was1, rfl, hh, hst⟩; obtain ⟨g0, cap0, rfl, _⟩ := st_form hst (by decide); have HP := Lib.hid hh; have H8 := Lib.hid hst; clear hst hh H5))
  go_loopw [11] (fun i W => ∃ (k : Nat) (D : DevM) (s : JSt) (was : List ByteArray), k ≤ l.length ∧ k ≤ 40 ∧ i = .int .i64 ↑k ∧ P k D s was ∧ St w W [aRow 9 1 (.slice (some ⟨g0, 0, none⟩) 24 cap0) 24 (dev.strs was), pDev X D, K s J X]) (fun i _ => l.length - (intOf i).toNat)
  case atStart => exact ⟨0, _, _, _, Nat.zero_le _, Nat.zero_le _, rfl, HP.out, H8.out⟩
  case round =>
    obtain ⟨k, D, s, was, hk, hk40, rfl, hp, hst⟩ := hrel
    clear H8 HP HP0
    have HST := Lib.hid hst
    have HP := Lib.hid hp
    have k3 : (k : Int) ≤ l.length := by omega
    have k4 : (l.length : Int) ≤ 17592186043904 := by have := HL.out; omega
    by_cases hlt : k < l.length
    · have k1 : (k : Int) < l.length := by omega
      by_cases h40 : k < 40
      · have k2 : (k : Int) < 40 := by omega
        obtain ⟨b, o, u, rfl, hc0, hps⟩ := HC.out k hlt
        have c0 := hst.ch.cell hc0
        have HPS := Lib.hid hps
        have HPO := Lib.hid (HOK.out _ (List.getElem_mem hlt))
        have HG := Lib.hid (putsM_good (z := 512) H6.out (by have := H14.out; omega) l[k] (putsGood_nil ln 512))
        have HPT : Hid (Calls Tryd.prog 18 #[u, .int .i64 (ln : Int), .int .i64 512] _ fun e w' => ∃ u', e = .returned u' ∧ St w w' (aWrs u' (putsM ln 512 l[k] []) :: _)) := Lib.hid (lputs_st hst l[k] u hps (HOK.out _ (List.getElem_mem hlt)) ln 512 H6.out H14.out (by omega) (by omega))
        generalize putsM ln 512 l[k] [] = out at HPT HG
        have HLT := Lib.hid hlt
        have H40 := Lib.hid h40
        have e1 : IntKind.i64.wrap ((k : Int) + 1) = (k : Int) + 1 := IntWalk.i64_in _ (by omega)
        have e2 : IntKind.i64.wrap ((ln : Int) - 2) = (ln : Int) - 2 := IntWalk.i64_in _ (by have := H14.out; have := H6.out; omega)
        clear hst hlt h40 hc0 hps hk hk40 hp HPS HPO
        go_upto_region 14 with (first
          | ((go_at_call 18; refine HPT.out.mono ?_; rintro e w8 ⟨u2, rfl, hst⟩; obtain ⟨uo, uc, rfl⟩ := st_shape hst; have H9 := Lib.hid hst; clear hst HPT))
          | ((go_at_call 13; refine (A.number _ _ _ _ _ _ _ _ _ H9.out).mono ?_; rintro e w9 ⟨rfl, hst⟩; have H10 := Lib.hid hst; clear hst)))
        clear H9 c0
        go_upto_region 16 with (first
          | ((go_at_call 9; refine (A.commit _ _ _ _ _ _ _ _ _ _ H40.out HP.out HG.out H10.out).mono ?_; rintro e w10 ⟨D', s', rfl, hp2, hnum, hused, hsn, hst⟩; have H11 := Lib.hid hst; have HP2 := Lib.hid hp2; have HNUM := Lib.hid hnum; have u0 : ¬ (s'.used : Int) < 0 := (by omega); have u1 : ¬ (ln : Int) - 2 < (s'.used : Int) := (by have := H6.out; omega); have u3 : ((s'.num : Int) != (s.num : Int) + min (out.length : Int) 1) = false := (by rw [bne_eq_false_iff_eq, hnum]; omega); clear hst hnum hused hp2 H10))
          | ((go_at_call 12; refine (A.used _ _ _ _ _ _ _ _ _ H11.out).mono ?_; rintro e w11 ⟨rfl, hst⟩; have H11 := Lib.hid hst; clear hst))
          | ((go_at_call 13; refine (A.number _ _ _ _ _ _ _ _ _ H11.out).mono ?_; rintro e w11 ⟨rfl, hst⟩; have H12 := Lib.hid hst; clear hst)))
        have HWL := Lib.hid (A.len _ _ _ _ HP.out)
        have HO14 : Hid (out.length ≤ 14) := Lib.hid (by have := HG.out.len; have := H14.out; omega)
        clear u0 u1 u3 H11
        have HS0 : Hid (St w _ [aRow 9 1 (.slice (some ⟨g0, 0, none⟩) 24 cap0) 24 (dev.strs (app (out.take 0) was)), aWrs (.slice uo out.length uc) out, pDev X D', K s' J X]) := Lib.hid (St.re (L := [_, _, _, _]) [1, 0, 2, 3] [] H12.out)
        go_upto_block 2 with fail
        go_cut [14] from 101 to 118 (fun x W => St w W [aRow 9 1 (.slice (some ⟨g0, 0, none⟩) 24 cap0) 24 (dev.strs (app out was)), aWrs (.slice uo out.length uc) out, pDev X D', K s' J X])
        case first =>
          go_wp2_with fail
          go_loopw [14] (fun i W => ∃ j : Nat, j ≤ out.length ∧ i = .int .i64 ↑j ∧ St w W [aRow 9 1 (.slice (some ⟨g0, 0, none⟩) 24 cap0) 24 (dev.strs (app (out.take j) was)), aWrs (.slice uo out.length uc) out, pDev X D', K s' J X]) (fun i _ => out.length - (intOf i).toNat)
          case atStart => exact ⟨0, Nat.zero_le _, rfl, HS0.out⟩
          case round =>
            obtain ⟨j, hj, rfl, hst⟩ := hrel
            clear HS0
            have j3 : (j : Int) ≤ out.length := by omega
            have j4 : (out.length : Int) ≤ 14 := by have := HO14.out; omega
            by_cases hjl : j < out.length
            · obtain ⟨go, co, hv', _⟩ := st_form hst.swap (by omega)
              cases hv'
              have hat := wcells_at2 out j hjl
              have c0 := (st_at hst.swap rfl (j * 2) (by omega)).trans hat.1
              have c1 := (st_at hst.swap rfl (j * 2 + 1) (by omega)).trans hat.2
              have hn24 := (HG.out.each _ (List.getElem_mem hjl)).1
              have HTK : Hid (app (out.take (j + 1)) was = (app (out.take j) was).set (out[j]).1 (out[j]).2) := Lib.hid (flushed_take out was j hjl)
              have HLA : Hid ((app (out.take j) was).length = 24) := Lib.hid (by rw [app_len2]; exact HWL.out)
              have hat0 : (wcells out)[j * 2]? = some (.int .i64 ((out[j]).1 : Int)) := hat.1
              have hat1 : (wcells out)[j * 2 + 1]? = some (.string (out[j]).2) := hat.2
              clear hat
              generalize out[j] = x at c0 c1 hn24 HTK hat0 hat1
              obtain ⟨n1, d1⟩ := x
              have c0 : _ = some (Value.int .i64 (n1 : Int)) := c0
              have c1 : _ = some (Value.string d1) := c1
              have n0 : (n1 : Int) < 24 := by have : n1 < 24 := hn24; omega
              have x0 := (st_at hst rfl n1 (by omega)).trans (strs_at (app (out.take j) was) n1 (by rw [HLA.out]; omega))
              have xf := st_unfrozen hst n1
              have HPT : Hid (St w _ [aRow 9 1 (.slice (some ⟨g0, 0, none⟩) 24 cap0) 24 (dev.strs (app (out.take (j + 1)) was)), aWrs (.slice (some ⟨go, 0, none⟩) out.length uc) out, pDev X D', K s' J X]) := Lib.hid (by
                have := st_put (u := .string d1) (i := n1) hst (by omega)
                rw [strs_set2] at this
                rw [HTK.out]
                exact this)
              have p0 : _ = some (Value.int .i64 (n1 : Int)) := (st_at HPT.out.swap rfl (j * 2) (by omega)).trans hat0
              have p1 : _ = some (Value.string d1) := (st_at HPT.out.swap rfl (j * 2 + 1) (by omega)).trans hat1
              have HJL := Lib.hid hjl
              have j1 : (j : Int) < out.length := by omega
              have e9 : IntKind.i64.wrap ((j : Int) + 1) = (j : Int) + 1 := IntWalk.i64_in _ (by omega)
              generalize (app (out.take j) was)[n1]'_ = y0 at x0
              clear hst hjl hj hat0 hat1 hn24 HTK HLA
              go_upto_region 19 with fail
              go_region_held3 (fun w' => w'.cell? ⟨go, j * 2, none⟩ = some (.int .i64 (n1 : Int)) ∧ w'.cell? ⟨go, j * 2 + 1, none⟩ = some (.string d1)) (go_keep) (fail)
              go_wp2_with fail
              go_roundw
              case rel => exact ⟨j + 1, by have := HJL.out; omega, by go_num, HPT.out.drew⟩
              case measure => simp [intOf] <;> omega
            · obtain rfl : j = out.length := by omega
              have HE : Hid (app (out.take out.length) was = app out was) := Lib.hid (by rw [List.take_length])
              have HST := Lib.hid hst
              clear hst hjl hj
              go_wp2_with fail
              go_meet
              rw [← HE.out]
              exact HST.out
        case rest =>
          have HST := Lib.hid hcut
          clear hcut H12
          have HSM : Hid (∀ W v2, St w W [aRow 9 1 v2 24 (dev.strs (app out was)), aRow 9 1 (.slice (some ⟨g0, 0, none⟩) 24 cap0) 24 (dev.strs (app out was)), pDev X D', K s' J X] → Calls Tryd.prog 25 #[v2, .slice (some ⟨g0, 0, none⟩) 24 cap0] W fun e w' => e = .returned (.bool true) ∧ St w w' [aRow 9 1 (.slice (some ⟨g0, 0, none⟩) 24 cap0) 24 (dev.strs (app out was)), pDev X D', K s' J X]) := Lib.hid fun W v2 h =>
            (rsame_any v2 _ _ _ W (strs_in h) (strs_in h.swap) (by rw [app_len2, HWL.out]; decide) (by rw [app_len2, HWL.out]; decide)).mono fun e w' q => by
              obtain ⟨he, q, rfl⟩ := q
              exact ⟨by rw [he, decide_eq_true rfl], St.re (L := [_, _, _, _]) [1, 2, 3] [0] (h.drewN q)⟩
          have HST := Lib.hid (St.re (L := [_, _, _, _]) [0, 2, 3] [1] HST.out)
          go_wp2_with (first
            | ((go_at_call 17; refine (A.model _ _ _ _ _ _ _ _ H40.out HP2.out HST.out).mono ?_; rintro e w20 ⟨v2, rfl, hst⟩; have H20 := Lib.hid hst; clear hst))
            | ((go_at_call 25; refine (HSM.out _ _ H20.out).mono ?_; rintro e w21 ⟨rfl, hst⟩; have H21 := Lib.hid hst; clear hst)))
          go_roundw
          case rel => exact ⟨k + 1, D', s', app out was, by have := HLT.out; omega, by have := H40.out; omega, by go_num, HP2.out, H21.out⟩
          case measure => simp [intOf] <;> omega
      · have k2 : ¬ (k : Int) < 40 := by omega
        clear hst hlt h40 hk hk40 hp
        go_wp2_with fail
        go_ret
        exact ⟨rfl, St.re (L := [_, _, _]) [] [0, 1, 2] HST.out⟩
    · have k1 : ¬ (k : Int) < l.length := by omega
      clear hst hlt hk hk40 hp
      go_wp2_with fail
      go_ret
      exact ⟨rfl, St.re (L := [_, _, _]) [] [0, 1, 2] HST.out⟩
end
end Go.Proofs.YtoiankgafclbdaaDoor.jrn
/-
  Layer 5: what comes in: slices of puts, slices of such slices, a crash.
-/
namespace Go.Proofs.YtoiankgafclbdaaDoor.jrn
open Go.ChangeShapes Go.WideShapes Go.ChangeAt Go.RowKit Go.Deep mem dev
set_option linter.unusedVariables false

theorem cells70 : Tryd.prog.cellsOf 94 = 2 := by kernel_rfl
theorem bytes70 : 8 ≤ Tryd.prog.bytesOf 94 := of_decide_eq_true (by kernel_rfl)
theorem cells45 : Tryd.prog.cellsOf 45 = 1 := by kernel_rfl
theorem bytes45 : 8 ≤ Tryd.prog.bytesOf 45 := of_decide_eq_true (by kernel_rfl)
theorem laidOut : laidOutB Tryd.prog = true := by kernel_rfl
theorem cells3 : Tryd.prog.cellsOf 3 = 1 := by kernel_rfl
theorem bytes3 : Tryd.prog.bytesOf 3 = 8 := by kernel_rfl
theorem cells40 : Tryd.prog.cellsOf 48 = 3 := by kernel_rfl

/-- nothing in it is greater than memory -/
def Fits {H : Type} (t : TypeId) (d : DataW H) : Prop := ∀ n ∈ d.weights Tryd.prog t, n ≤ 140737488351232
theorem fits_of {H : Type} {ts : List TypeId} {ds : List (DataW H)} (h : (DataW.weightsEach Tryd.prog ts ds).all (· ≤ reachBytes) = true) {j : Nat} {t : TypeId} {d : DataW H} (ht : ts[j]? = some t) (hd : ds[j]? = some d) : Fits t d := fun n hn => by
  have := List.all_eq_true.1 h n (DataW.weights_mem_each ht hd n hn)
  exact of_decide_eq_true this
theorem fits_part {H : Type} {t t' : TypeId} {fs : Array Field} {parts : List (DataW H)} {d : DataW H} (hu : Tryd.prog.underlying t = some (.struct fs)) (h : Fits t (.agg parts)) {j : Nat} (ht : (fs.toList.map (·.type))[j]? = some t') (hd : parts[j]? = some d) : Fits t' d := fun n hn => h n (by
  simp only [DataW.weights, hu]
  exact DataW.weights_mem_each ht hd n hn)
theorem weights_all {H : Type} {e : TypeId} {d : DataW H} {n : Nat} : ∀ {l : List (DataW H)}, d ∈ l → n ∈ d.weights Tryd.prog e → n ∈ DataW.weightsAll Tryd.prog e l
  | x :: l, h, hn => by
    simp only [DataW.weightsAll, List.mem_append]
    rcases List.mem_cons.1 h with rfl | h
    · exact .inl hn
    · exact .inr (weights_all h hn)
theorem fits_elem {H : Type} {t e : TypeId} {elems spare : List (DataW H)} {d : DataW H} (hu : Tryd.prog.underlying t = some (.slice e)) (h : Fits t (.slice elems spare)) (hd : d ∈ elems) : Fits e d := fun n hn => h n (by
  simp only [DataW.weights, hu, List.mem_cons, List.mem_append]
  exact .inr (.inl (weights_all hd hn)))
theorem fits_len {H : Type} {t e : TypeId} {elems spare : List (DataW H)} (hu : Tryd.prog.underlying t = some (.slice e)) (h : Fits t (.slice elems spare)) (hb : 8 ≤ Tryd.prog.bytesOf e) : elems.length ≤ 17592186043904 := by
  have := h ((elems.length + spare.length) * Tryd.prog.bytesOf e) (by simp [DataW.weights, hu])
  have h2 : (elems.length + spare.length) * 8 ≤ (elems.length + spare.length) * Tryd.prog.bytesOf e := Nat.mul_le_mul_left _ hb
  omega

theorem wf64 {n : Int} (h : (Lit.int .i64 n).wf = true) : InI64 n := by
  have : -9223372036854775808 ≤ n ∧ n ≤ 9223372036854775807 := by simpa [Lit.wf, IntKind.min, IntKind.max, IntKind.signed, IntKind.bits] using h
  exact this
theorem wf8 {n : Int} (h : (Lit.int .u8 n).wf = true) : 0 ≤ n ∧ n ≤ 255 := by
  simpa [Lit.wf, IntKind.min, IntKind.max, IntKind.signed, IntKind.bits] using h
theorem no_spot {W : World} {a : Addr} {u : Value} (h : W.cell? (a.add 0) = some u) : a.spot = none := by
  rw [show a.add 0 = a from rfl] at h
  cases hs : a.spot with
  | none => rfl
  | some s => unfold World.cell? at h; split at h <;> simp [hs] at h
theorem addp (b o n : Nat) : (⟨b, o, none⟩ : Addr).add n = ⟨b, o + n, none⟩ := by unfold Addr.add; split <;> simp_all

section
variable {H : Type} {enc : TypeId × Value → H} {W : World} {fuel : Nat} {cs : List Value} {x : DataW H × List MemPlace}

theorem ints_open (h : DataW.trod enc Tryd.prog W 0 (fun _ => true) true fuel 46 cs = some x) (hf : Fits 46 x.1) :
    ∃ v ks, cs = [v] ∧ IntsIn W v ks ∧ ks.length ≤ 17592186043904 ∧ ∀ k ∈ ks, InI64 k := by
  rcases open_ints Tryd.underlying46 Tryd.underlying3 cells3 h with ⟨hcs, hx⟩ | ⟨a, len, cap, zs, hcs, _, hl, hm, hzl, hx, hcell, hwf⟩
  · exact ⟨_, [], hcs, ⟨none, 0, rfl, fun i hi => absurd hi (by simp)⟩, by simp, fun k hk => by cases hk⟩
  · have hzc : zs.length = cap := hzl
    have hlen : (zs.take len).length = len := by rw [List.length_take]; omega
    refine ⟨_, zs.take len, hcs, ⟨some a, cap, by rw [hlen], fun i hi => ?_⟩, ?_, fun k hk => wf64 (hwf k (List.mem_of_mem_take hk))⟩
    · rw [hlen] at hi
      have hsp := no_spot (hcell 0 (by omega))
      obtain ⟨ab, ao, asp⟩ := a
      simp only at hsp
      subst hsp
      refine ⟨ab, ao, rfl, ?_⟩
      have := hcell i (by omega)
      rw [addp] at this
      rw [this, List.getElem_take, List.getD_eq_getElem?_getD, List.getElem?_eq_getElem (by omega)]
      rfl
    · rw [hx] at hf
      have := fits_len Tryd.underlying46 hf (by rw [bytes3]; exact Nat.le_refl _)
      simp only [lits, List.length_map] at this
      exact this

set_option maxRecDepth 16000 in
theorem crash_open (h : DataW.trod enc Tryd.prog W 0 (fun _ => true) true fuel 48 cs = some x) (hf : Fits 48 x.1) :
    ∃ kv ks torn, ∃ mask : Nat, cs = [kv, .int .i64 torn, .int .u8 (mask : Int)] ∧ IntsIn W kv ks ∧ CrashOk ks torn mask := by
  obtain ⟨xs, m, _, hx, hl, hxl, hfld⟩ := DataW.trod_struct Tryd.underlying48 h
  rw [cells40] at hl
  match cs, hl with
  | [c0, c1, c2], _ =>
    match xs, hxl with
    | [y0, y1, y2], _ =>
      have g0 : DataW.trod enc Tryd.prog W 0 (fun _ => true) true m 46 [c0] = some y0 := hfld 0 _ rfl
      have g1 : DataW.trod enc Tryd.prog W 0 (fun _ => true) true m 3 [c1] = some y1 := hfld 1 _ rfl
      have g2 : DataW.trod enc Tryd.prog W 0 (fun _ => true) true m 5 [c2] = some y2 := hfld 2 _ rfl
      rw [hx] at hf
      have f0 : Fits 46 y0.1 := fits_part (j := 0) Tryd.underlying48 hf rfl rfl
      obtain ⟨v, ks, e0, hi, hk1, hk2⟩ := ints_open g0 f0
      obtain ⟨k1, e1, _, w1⟩ := DataW.trod_int Tryd.underlying3 g1
      obtain ⟨k2, e2, _, w2⟩ := DataW.trod_int Tryd.underlying5 g2
      simp only [List.cons.injEq, and_true] at e0 e1 e2
      subst e0 e1 e2
      have b2 := wf8 w2
      exact ⟨c0, ks, k1, k2.toNat, by rw [show ((k2.toNat : Nat) : Int) = k2 from by omega], hi, ⟨hk2, hk1, wf64 w1, by omega⟩⟩

set_option maxRecDepth 16000 in
theorem put_open (h : DataW.trod enc Tryd.prog W 0 (fun _ => true) true fuel 94 cs = some x) :
    ∃ p : Int × ByteArray, cs = [.int .i64 p.1, .string p.2] ∧ InI64 p.1 ∧ p.2.size ≤ 9223372036854775807 := by
  obtain ⟨xs, m, _, hx, hl, hxl, hfld⟩ := DataW.trod_struct Tryd.underlying94 h
  rw [cells70] at hl
  match cs, hl with
  | [c0, c1], _ =>
    match xs, hxl with
    | [y0, y1], _ =>
      have g0 : DataW.trod enc Tryd.prog W 0 (fun _ => true) true m 3 [c0] = some y0 := hfld 0 _ rfl
      have g1 : DataW.trod enc Tryd.prog W 0 (fun _ => true) true m 9 [c1] = some y1 := hfld 1 _ rfl
      obtain ⟨k0, e0, _, w0⟩ := DataW.trod_int Tryd.underlying3 g0
      obtain ⟨s1, e1, _, w1⟩ := DataW.trod_string Tryd.underlying9 g1
      simp only [List.cons.injEq, and_true] at e0 e1
      subst e0 e1
      exact ⟨(k0, s1), rfl, wf64 w0, by unfold maxLen at w1; exact w1⟩

theorem puts_open (h : DataW.trod enc Tryd.prog W 0 (fun _ => true) true fuel 45 cs = some x) (hf : Fits 45 x.1) :
    ∃ v l, cs = [v] ∧ PutsIn W v l ∧ PutsOk l := by
  rcases open_slice Tryd.underlying45 h with ⟨hcs, hx⟩ | ⟨a, len, cap, m, n, D, Pl, hcs, _, hl, hm, hmm, hx, hi⟩
  · exact ⟨_, [], hcs, ⟨none, 0, rfl, fun i hi => absurd hi (by simp)⟩, ⟨by simp, fun x hx => by cases hx⟩⟩
  · have hmc : m = cap := hmm
    rw [hx] at hf
    rw [cells70] at hi
    have each : ∀ i, i < len → ∃ p : Int × ByteArray, (InI64 p.1 ∧ p.2.size ≤ 9223372036854775807) ∧ W.cell? (a.add (i * 2 + 0)) = some (.int .i64 p.1) ∧ W.cell? (a.add (i * 2 + 1)) = some (.string p.2) := by
      intro i hil
      obtain ⟨cs', hc, ht⟩ := hi i (by omega)
      obtain ⟨p, e, ho⟩ := put_open ht
      obtain ⟨_, hlc, hcell⟩ := World.cells?_some hc
      subst e
      have h0 := hcell 0 (by omega)
      have h1 := hcell 1 (by omega)
      rw [add_add] at h0 h1
      exact ⟨p, ho, h0, h1⟩
    let f : Nat → Int × ByteArray := fun i => if hil : i < len then Classical.choose (each i hil) else (0, empty)
    have hf2 : ∀ i, i < len → (InI64 (f i).1 ∧ (f i).2.size ≤ 9223372036854775807) ∧ W.cell? (a.add (i * 2 + 0)) = some (.int .i64 (f i).1) ∧ W.cell? (a.add (i * 2 + 1)) = some (.string (f i).2) := fun i hil => by
      show (InI64 (dite _ _ _ : Int × ByteArray).1 ∧ (dite _ _ _ : Int × ByteArray).2.size ≤ _) ∧ _
      simp only [f, dif_pos hil]
      exact Classical.choose_spec (each i hil)
    clear_value f
    have hll : ((List.range len).map f).length = len := by simp
    refine ⟨_, (List.range len).map f, hcs, ⟨some a, cap, by rw [hll], fun i hi2 => ?_⟩, ⟨?_, fun o ho => ?_⟩⟩
    · rw [hll] at hi2
      have h0 := (hf2 0 (by omega)).2.1
      have hsp := no_spot h0
      obtain ⟨ab, ao, asp⟩ := a
      simp only at hsp
      subst hsp
      obtain ⟨h1, h2, h3⟩ := hf2 i hi2
      have ei : ((List.range len).map f)[i]'(by rw [hll]; exact hi2) = f i := by simp
      rw [ei]
      rw [addp] at h2 h3
      exact ⟨ab, ao, rfl, h2, h3⟩
    · have := fits_len Tryd.underlying45 hf bytes70
      simpa using this
    · obtain ⟨i, hi2, rfl⟩ := List.mem_map.1 ho
      exact (hf2 i (List.mem_range.1 hi2)).1

theorem putss_open (h : DataW.trod enc Tryd.prog W 0 (fun _ => true) true fuel 59 cs = some x) (hf : Fits 59 x.1) :
    ∃ v l, cs = [v] ∧ PutssIn W v l ∧ l.length ≤ 17592186043904 ∧ ∀ ps ∈ l, PutsOk ps := by
  rcases open_slice Tryd.underlying59 h with ⟨hcs, hx⟩ | ⟨a, len, cap, m, n, D, Pl, hcs, _, hl, hm, hmm, hx, hi⟩
  · exact ⟨_, [], hcs, ⟨none, 0, rfl, fun i hi => absurd hi (by simp)⟩, by simp, fun x hx => by cases hx⟩
  · have hmc : m = cap := hmm
    rw [hx] at hf
    rw [cells45] at hi
    have each : ∀ i, i < len → ∃ q : List (Int × ByteArray) × Value, PutsOk q.1 ∧ PutsIn W q.2 q.1 ∧ W.cell? (a.add i) = some q.2 := by
      intro i hil
      obtain ⟨cs', hc, ht⟩ := hi i (by omega)
      obtain ⟨v, l, e, hk, ho⟩ := puts_open ht (fits_elem Tryd.underlying59 hf (List.mem_map.2 ⟨i, List.mem_range.2 hil, rfl⟩))
      obtain ⟨_, hlc, hcell⟩ := World.cells?_some hc
      subst e
      have h0 := hcell 0 (by omega)
      rw [add_add] at h0
      simp only [Nat.mul_one, Nat.add_zero] at h0
      exact ⟨(l, v), ho, hk, h0⟩
    let f : Nat → List (Int × ByteArray) × Value := fun i => if hil : i < len then Classical.choose (each i hil) else ([], .slice none 0 0)
    have hf2 : ∀ i, i < len → PutsOk (f i).1 ∧ PutsIn W (f i).2 (f i).1 ∧ W.cell? (a.add i) = some (f i).2 := fun i hil => by
      show PutsOk (dite _ _ _ : List (Int × ByteArray) × Value).1 ∧ PutsIn W (dite _ _ _ : List (Int × ByteArray) × Value).2 (dite _ _ _ : List (Int × ByteArray) × Value).1 ∧ _
      simp only [f, dif_pos hil]
      exact Classical.choose_spec (each i hil)
    clear_value f
    have hll : ((List.range len).map fun i => (f i).1).length = len := by simp
    refine ⟨_, (List.range len).map fun i => (f i).1, hcs, ⟨some a, cap, by rw [hll], fun i hi2 => ?_⟩, ?_, fun o ho => ?_⟩
    · rw [hll] at hi2
      have h0 := (hf2 0 (by omega)).2.2
      have hsp := no_spot h0
      obtain ⟨ab, ao, asp⟩ := a
      simp only at hsp
      subst hsp
      obtain ⟨h1, h2, h3⟩ := hf2 i hi2
      have ei : ((List.range len).map fun i => (f i).1)[i]'(by rw [hll]; exact hi2) = (f i).1 := by simp
      rw [ei]
      rw [addp] at h3
      exact ⟨ab, ao, (f i).2, rfl, h3, h2⟩
    · have := fits_len Tryd.underlying59 hf bytes45
      simpa using this
    · obtain ⟨i, hi2, rfl⟩ := List.mem_map.1 ho
      exact (hf2 i (List.mem_range.1 hi2)).1
end
end Go.Proofs.YtoiankgafclbdaaDoor.jrn
/-
  Layer 3: what the rows' listed tables give the walks; that the program's own start lays them.
-/
namespace Go.Proofs.YtoiankgafclbdaaDoor.sums
open Go.ChangeShapes Go.WideShapes Go.ChangeAt Go.RowKit
set_option linter.unusedVariables false

theorem gL : Tryd.prog.globalNamed "wattle/sums.lowerHalf" = some 0 := by kernel_rfl
theorem gU : Tryd.prog.globalNamed "wattle/sums.upperHalf" = some 1 := by kernel_rfl
theorem tL : (Tryd.prog.globals[0]?).map (·.type) = some 161 := by kernel_rfl
theorem tU : (Tryd.prog.globals[1]?).map (·.type) = some 161 := by kernel_rfl

abbrev laid2 : List (String × DataW Unit) := [("wattle/sums.lowerHalf", Rows.laid_wattle_sums_lowerHalf), ("wattle/sums.upperHalf", Rows.laid_wattle_sums_upperHalf)]

theorem tab_of {P : Program} {W : World} {name : String} {k : IntKind} {ns : List Nat} {D : DataW Unit} {rest : List (String × DataW Unit)} {g : Nat} {t e : TypeId} {n : Nat}
    (hD : D = Lib.tabData k (ns.map fun (z : Nat) => (z : Int)))
    (hg : P.globalNamed name = some g) (hty : (P.globals[g]?).map (·.type) = some t) (ht : P.underlying t = some (.array n e)) (he : P.underlying e = some (.int k)) (hce : P.cellsOf e = 1) (hct : P.cellsOf t = n)
    (h : laidMet P ((name, D) :: rest) W) (i : Nat) (hi : i < ns.length) : W.cell? ⟨g, i, none⟩ = some (.int k (ns.getD i 0 : Nat)) := by
  subst hD
  have := (Lib.tabIs_of_head hg hty ht he hce hct h).cell hg i (by simpa using hi)
  rw [this]
  simp [List.getD, hi]

theorem of_laid2 {W : World} (h : laidMet Tryd.prog laid2 W) : Halves W where
  low := fun k hk => tab_of (ns := lowT) rfl gL tL Tryd.underlying161 Tryd.underlying142 (by kernel_rfl) (by kernel_rfl) h k hk
  up := fun k hk => tab_of (ns := upT) rfl gU tU Tryd.underlying161 Tryd.underlying142 (by kernel_rfl) (by kernel_rfl) h.tail k hk
theorem of_laidH2 {W : World} (h : laidMetH Tryd.prog laid2 W) : Halves W := by
  rw [MakeChecks.laidMetH_plain _ _ _ (by kernel_rfl)] at h
  exact of_laid2 h

theorem door_met2 (os : Os) (args : Array Value) : laidMetH Tryd.prog laid2 ((World.doorLaid Tryd.prog 400 os).forCall (fun _ _ => 0) ⟨#[], args, []⟩).memory :=
  laidMetH_of_parts3 (fuel := 8) (laidMet_of_run' 8 (by kernel_rfl) (by kernel_rfl)) (by kernel_rfl) (by kernel_rfl)
end Go.Proofs.YtoiankgafclbdaaDoor.sums
/-
  Layer 5, the law: crash (what a crash keeps, copied).
-/
namespace Go.Proofs.YtoiankgafclbdaaDoor.jrn
open Go.ChangeShapes Go.WideShapes Go.ChangeAt Go.RowKit mem dev sums
set_option linter.unusedVariables false
section
variable {w wr : World} {As : List Ast}
/-- the ints that were handed in, in a row of their own -/
abbrev aKept (v : Value) (ks : List Int) : Ast := aRow 3 1 v ks.length (intsV ks)
set_option maxHeartbeats 2000000 in
theorem lcrash_any (h : St w wr As) (kv : Value) (ks : List Int) (torn : Int) (mask : Nat) (hk : IntsIn w kv ks) (C : CrashOk ks torn mask) :
    Calls Tryd.prog 21 #[.agg #[kv, .int .i64 torn, .int .u8 (mask : Int)]] wr fun e w' => ∃ v, e = .returned (.agg #[v, .int .i64 torn, .int .u8 (mask : Int)]) ∧ St w w' (aKept v ks :: As) := by
  have h0 := st_new h [kv, .int .i64 torn, .int .u8 (mask : Int)] 48
  have h1 := st_new h0 [.slice none 0 0, .int .i64 0, .int .u8 0] 53
  have z0 : _ = some kv := st_cell h1.swap 0
  have z1 : _ = some (Value.int .i64 torn) := st_cell h1.swap 1
  have z2 : _ = some (Value.int .u8 (mask : Int)) := st_cell h1.swap 2
  have H1 := Lib.hid h1
  have HT := Lib.hid (st_lt h1.swap)
  have HT2 := Lib.hid (st_lt h1)
  have HCL := Lib.hid C.len
  have HK := Lib.hid hk
  obtain ⟨ao, cap0, rfl, hc⟩ := hk
  clear hc C h0 h1 h
  go_enter Tryd.func21, Tryd.ntmps21
  go_upto_region 1 with fail
  generalize ((wr.alloc (.cells #[.slice ao ks.length cap0, .int .i64 torn, .int .u8 (mask : Int)] 48)).alloc (.cells #[.slice none 0 0, .int .i64 0, .int .u8 0] 53)) = W at H1 z0 z1 z2 HT HT2 ⊢
  have e2 : (wr.alloc (.cells #[.slice ao ks.length cap0, .int .i64 torn, .int .u8 (mask : Int)] 48)).heap.size = wr.heap.size + 1 := by simp
  rw [e2] at H1 HT2
  clear e2
  generalize wr.heap.size = T at H1 z0 z1 z2 HT HT2 ⊢
  have hA := st_none H1.out 3 1
  have HNEWS := Lib.hid fun (wx : World) (hx : IntsIn wx (.slice ao ks.length cap0) ks) (hp : 0 < ks.length) => (show ∃ ad, ao = some ad ∧ ∀ j u, (intsV ks)[j]? = some u → wx.cell? (ad.add j) = some u from by
    obtain ⟨a1, c1, e1, hc1⟩ := id hx
    cases e1
    obtain ⟨b, o, rfl, _⟩ := hc1 0 hp
    exact ⟨_, rfl, ints_news hx⟩)
  have HNA := Lib.hid (HNEWS.out _ (HK.out.kept (hA.drew).ch))
  have HA := Lib.hid hA.drew
  have k0 : _ = some (Value.slice ao ks.length cap0) := st_cell hA.third 0
  have k1 : _ = some (Value.int .i64 torn) := st_cell hA.third 1
  have k2 : _ = some (Value.int .u8 (mask : Int)) := st_cell hA.third 2
  clear hA
  go_region_held3 (fun w' => w'.cell? ⟨T, 0, none⟩ = some (.slice ao ks.length cap0) ∧ w'.cell? ⟨T, 1, none⟩ = some (.int .i64 torn) ∧ w'.cell? ⟨T, 2, none⟩ = some (.int .u8 (mask : Int))) (go_keep)
    ((refine stp_appendN rowInt HA.out (by rfl) _ _ (by rfl) (by rfl) ao ks.length cap0 (intsV ks) (by rfl) (by rw [intsV_len, Nat.mul_one]) HNA.out (ints_one ks) (by have := HCL.out; unfold maxLen; omega) (by have := HCL.out; omega) ?_; intro v3 w3 hst hch; have u0 : _ = some (Value.slice ao ks.length cap0) := st_cell hst.third 0; have u1 : _ = some (Value.int .i64 torn) := st_cell hst.third 1; have u2 : _ = some (Value.int .u8 (mask : Int)) := st_cell hst.third 2; have y0 : _ = some (Value.slice none 0 0) := st_cell hst.swap 0; have y1 : _ = some (Value.int .i64 0) := st_cell hst.swap 1; have y2 : _ = some (Value.int .u8 0) := st_cell hst.swap 2; have yf := st_free hst.swap; rw [Nat.zero_add, List.nil_append] at hst; obtain ⟨ao3, c3, rfl⟩ := st_shape hst; have HB := Lib.hid hst; clear hst hch))
  all_goals
    have hs := st_set (st_set (st_set HB.out.swap 0 (.slice ao3 ks.length c3)) 1 (.int .i64 torn)) 2 (.int .u8 (mask : Int))
    have HBK := Lib.hid (st_blk hs)
    have HS := Lib.hid hs.drop
    clear hs
    go_wp2_with fail
    refine bodyPost_ret (results_cell_row rfl _ _ (T + 1) 53 #[.slice ao3 ks.length c3, .int .i64 torn, .int .u8 (mask : Int)] (0, 0) _ rfl HBK.out Tryd.underlying53 rfl size57) rfl ?_
    exact ⟨_, rfl, HS.out.swap.drop⟩
end
end Go.Proofs.YtoiankgafclbdaaDoor.jrn
/-
  Layer 5, the law JournalAnew, plain: a formatting that may fall; what is flushed; a fresh journal opened.
-/
namespace Go.Proofs.YtoiankgafclbdaaDoor.jrn
open Go.ChangeShapes Go.WideShapes Go.ChangeAt Go.RowKit mem dev sums
set_option linter.unusedVariables false
/-- outside the region the device's safe blocks are was -/
def OutIs (R : Rg) (S was : List ByteArray) : Prop := ∀ n, n < R.nb → ¬ R.inR n → S.getD n empty = was.getD n empty
section
variable {w wr : World} {As : List Ast} {R : Rg} {X J : Nat} {D : DevM} {s : JSt} {was : List ByteArray} {k m : Nat} {l : List Wr}
theorem live_szd (lv : Live R D m) : Szd R.nb R.ns D.safe := ⟨by rw [lv.ok.safe, lv.nb], fun y hy => by rw [lv.ok.ssz y hy, lv.ns]⟩
theorem format_law (a : R.Ok) (g : Halves w) (h : St w wr (pDev X D :: As)) (lv : Live R D (m + 400)) (hc : D.cache = []) (hv : OutIs R D.safe was) :
    Calls Tryd.prog 8 #[pt X, .int .i64 (R.st : Int), .int .i64 (R.ln : Int)] wr fun e w' => ∃ D' x, e = .returned (.int .i64 x) ∧ St w w' (pDev X D' :: As) ∧
      ((x = 0 ∧ Live R D' m ∧ D'.cache = [] ∧ Dur R D'.safe ⟨1, 0, 1⟩ 0 [] was ∧ (D.plan = none → D'.plan = none)) ∨
       (x = 8 ∧ D.plan ≠ none ∧ Down R D' m ∧ OutIs R D'.safe was)) := by
  have hlen := formatS_len a
  obtain ⟨q1, q2, q3⟩ := quiet_format (was := was) a (live_szd lv) hv
  have hlive : Live R D ((formatS R).length + m) := lv.less (by omega)
  refine (pformat_st a g h lv.nb lv.ns lv.up lv.ok (room_less' lv.room (by omega))).mono fun e w' q => ⟨_, _, q.1, q.2, ?_⟩
  rcases run_cases (formatS R) D lv.up (formatS_ok a lv.nb lv.ns) lv.ok with ⟨h0, t⟩ | ⟨h8, t⟩
  · have sc := t.sc
    rw [hc] at sc
    rw [← sc] at q2 q3
    exact .inl ⟨h0, live_went hlive t, q3, q2, t.plan⟩
  · obtain ⟨l1, l2, el, hcr⟩ := t.left
    rw [hc] at hcr
    exact .inr ⟨h8, t.had, down_fell hlive t, (q1 l1 l2 el _ hcr).2⟩
theorem flush_law (a : R.Ok) (h : St w wr (pDev X D :: As)) (H : Holds R D s was k (m + 400)) (hp : D.plan = none) :
    Calls Tryd.prog 27 #[pt X] wr fun e w' => ∃ D', e = .returned (.int .i64 0) ∧ St w w' (pDev X D' :: As) ∧ Live R D' m ∧ D'.cache = [] ∧ D'.plan = none := by
  have lv := H.live
  have e : D.flush = ({ D with calls := D.calls + 1, safe := flushed D.cache D.safe, cache := [] }, 0) := by
    unfold DevM.flush
    rw [if_neg (by rw [lv.up]; decide), counted_plan D hp]
  have hf := pflush_any h (room_less' lv.room (by omega))
  obtain ⟨_, t, lv2, pl⟩ := run_none (l := [.fl]) (m := m) (lv.less (by show 1 + m ≤ _; omega)) (fun x hx => by rw [List.mem_singleton] at hx; subst hx; trivial) hp
  have er : (runS D [.fl]).1 = D.flush.1 := by
    show (if D.flush.2 = 0 then (D.flush.1, (0 : Int)) else D.flush).1 = _
    split <;> rfl
  rw [er] at lv2 pl
  refine hf.mono fun e' w' q => ⟨_, by rw [q.1, e], q.2, lv2, ?_, pl⟩
  rw [e]
theorem out_image {ln ns : Nat} {D : DevM} {m : Nat} (hln : ln ≤ 14) (lv : Live (lawR ln ns) D m) (hc : D.cache = []) : OutIs (lawR ln ns) D.safe (modK ln D.image) ∧ Outs ln (modK ln D.image) := by
  have hnb : D.nb = 24 := lv.nb
  have hI : D.image.length = 24 := by rw [image_len, hnb]
  refine ⟨fun n hn hr => ?_, modK_outs ln _ hI (by omega)⟩
  have hn : n < 24 := hn
  have hr : ¬ (3 ≤ n ∧ n < 3 + ln) := hr
  have e : (modK ln D.image).getD n empty = D.image.getD n empty := by
    unfold modK
    rw [List.getD_eq_getElem?_getD, List.getElem?_map, List.getElem?_range (by rw [hI]; exact hn)]
    simp only [Option.map_some, Option.getD_some]
    rw [if_neg hr]
  rw [e, image_get D (by rw [hnb]; exact hn)]
  unfold DevM.now
  rw [hc]
  rfl
/-- a fresh journal is opened: nothing is done again -/
theorem open_fresh (a : R.Ok) (g : Halves w) (h : St w wr (pDev X D :: As)) (d : Dur R D.safe ⟨1, 0, 1⟩ 0 [] was) (hc : D.cache = []) (hw : was.length = R.nb) (lv : Live R D (m + 300000)) :
    Calls Tryd.prog 7 #[pt X, .int .i64 (R.st : Int), .int .i64 (R.ln : Int)] wr fun e w' => ∃ J D' s', e = .returned (.tuple #[pt J, .int .i64 0, .int .i64 0]) ∧ Holds R D' s' was 2 m ∧ St w w' (pDev X D' :: aJrn J X R s' false :: As) := by
  have hop := holds_open (D := D) (k := 1) (m := m + 50000) a d hc hw (lv.less (by omega)) (by show 1 ≤ 1; omega) (by show 1 + 0 ≤ 1; omega) (by omega)
  refine (popen_st a g (lv.upR (by rw [hc]; intro x hx; cases hx)) h d (room_less' lv.room (by omega)) (by show 1 + 1 < _; omega) (by show 1 + 0 < _; omega)).mono fun e w' q => ?_
  obtain ⟨q, hq, ⟨h0, J, he, hst⟩ | ⟨h8, he, hst⟩⟩ := q
  · rcases hop with ⟨_, H, hc2, hp2⟩ | ⟨k8, _⟩
    · exact ⟨J, _, _, he, (H.less (show m + q ≤ m + 50000 by omega)).more, hst⟩
    · rw [h0] at k8; exact absurd k8 (by decide)
  · exact absurd h8 (by show ¬ ((0 : Int) = 8); decide)
end
end Go.Proofs.YtoiankgafclbdaaDoor.jrn
/-
  Layer 5, the law JournalAnew: its calls.
-/
namespace Go.Proofs.YtoiankgafclbdaaDoor.jrn
open Go.ChangeShapes Go.WideShapes Go.ChangeAt Go.RowKit mem dev sums
set_option linter.unusedVariables false
/-- what a device is in JournalAnew between its formattings: up, flushed, outside as it was -/
structure Flat (ln : Nat) (D : DevM) (was : List ByteArray) (m : Nat) : Prop where
  live : Live (lawR ln 2) D m
  cache : D.cache = []
  out : OutIs (lawR ln 2) D.safe was
  outs : Outs ln was
/-- formatted -/
structure Fresh2 (ln : Nat) (D : DevM) (was : List ByteArray) (m : Nat) : Prop where
  live : Live (lawR ln 2) D m
  cache : D.cache = []
  dur : Dur (lawR ln 2) D.safe ⟨1, 0, 1⟩ 0 [] was
  outs : Outs ln was
/-- fallen within a formatting -/
structure Fallen (ln : Nat) (D : DevM) (was : List ByteArray) (m : Nat) : Prop where
  down : Down (lawR ln 2) D m
  out : OutIs (lawR ln 2) D.safe was
  outs : Outs ln was
theorem Flat.less0 {ln : Nat} {D : DevM} {was : List ByteArray} {m k : Nat} (F : Flat ln D was m) (h : k ≤ m := by omega) : Flat ln D was k := ⟨F.live.less h, F.cache, F.out, F.outs⟩
theorem Fresh2.less0 {ln : Nat} {D : DevM} {was : List ByteArray} {m k : Nat} (F : Fresh2 ln D was m) (h : k ≤ m := by omega) : Fresh2 ln D was k := ⟨F.live.less h, F.cache, F.dur, F.outs⟩
theorem Fallen.less0 {ln : Nat} {D : DevM} {was : List ByteArray} {m k : Nat} (F : Fallen ln D was m) (h : k ≤ m := by omega) : Fallen ln D was k := ⟨⟨F.down.ok, F.down.nb, F.down.ns, F.down.down, F.down.cache, F.down.plan, room_less' F.down.room h⟩, F.out, F.outs⟩
section
variable {w wr : World} {As : List Ast} {X J : Nat} {D : DevM} {ln : Nat} {was : List ByteArray} {m : Nat}
theorem flat_format (g : Halves w) (h6 : 6 ≤ ln) (h14 : ln ≤ 14) (h : St w wr (pDev X D :: As)) (F : Flat ln D was (m + 400)) :
    Calls Tryd.prog 8 #[pt X, .int .i64 3, .int .i64 (ln : Int)] wr fun e w' => ∃ D' x, e = .returned (.int .i64 x) ∧ St w w' (pDev X D' :: As) ∧
      ((x = 0 ∧ D'.down = false ∧ Fresh2 ln D' was m) ∨ (x = 8 ∧ D'.down = true ∧ D.plan ≠ none ∧ Fallen ln D' was m)) := by
  have a := lawR_ok ln 2 h6 h14 (by omega) (by omega)
  refine (format_law a g h F.live F.cache F.out).mono fun e w' q => ?_
  obtain ⟨D', x, he, hst, ⟨hx, lv, hc, hd, _⟩ | ⟨hx, hp, dn, ho⟩⟩ := q
  · exact ⟨D', x, he, hst, .inl ⟨hx, lv.up, lv, hc, hd, F.outs⟩⟩
  · exact ⟨D', x, he, hst, .inr ⟨hx, dn.down, hp, dn, ho, F.outs⟩⟩
theorem fallen_restart (h : St w wr (pDev X D :: As)) (F : Fallen ln D was m) :
    Calls Tryd.prog 26 #[pt X] wr fun e w' => ∃ D', e = .returned (.int .i64 0) ∧ Flat ln D' was m ∧ St w w' (pDev X D' :: As) := by
  obtain ⟨s1, s2, s3, s4, s5⟩ := down_restart F.down
  have := prestart_any h
  rw [s1] at this
  exact this.mono fun e w' t => ⟨_, t.1, ⟨s2, s4, by rw [s3]; exact F.out, F.outs⟩, t.2⟩
theorem flat_plan {K : Ast} (h : St w wr (pDev X D :: K :: As)) (F : Flat ln D was m) (n : Int) (hn : 0 ≤ n) (hn2 : n ≤ 9223372036854775807) (kv : Value) (ks : List Int) (torn : Int) (mask : Nat) (hk : ∀ W F, K.p W F → IntsIn W kv ks) (C : CrashOk ks torn mask) :
    Calls Tryd.prog 20 #[pt X, .int .i64 n, .agg #[kv, .int .i64 torn, .int .u8 (mask : Int)]] wr fun e w' => ∃ D', e = .returned (.int .i64 0) ∧ Flat ln D' was m ∧ (n = 0 → D'.plan = none) ∧ St w w' (pDev X D' :: K :: As) := by
  obtain ⟨p1, p2, p3, p4, p5⟩ := live_plan F.live hn hn2 C
  have := pplan_any h n kv ks torn mask ⟨by omega, by omega⟩ hk C
  rw [p2] at this
  exact this.mono fun e w' t => ⟨_, t.1, ⟨p1, by rw [p4]; exact F.cache, by rw [p5]; exact F.out, F.outs⟩, fun h0 => by rw [p3, if_pos h0], t.2⟩
theorem fresh_open (g : Halves w) (h6 : 6 ≤ ln) (h14 : ln ≤ 14) (h : St w wr (pDev X D :: As)) (F : Fresh2 ln D was (m + 300000)) :
    Calls Tryd.prog 7 #[pt X, .int .i64 3, .int .i64 (ln : Int)] wr fun e w' => ∃ J D' s', e = .returned (.tuple #[pt J, .int .i64 0, .int .i64 0]) ∧ (Holds (lawR ln 2) D' s' was 2 m ∧ Outs ln was) ∧ St w w' (pDev X D' :: aJrn J X (lawR ln 2) s' false :: As) := by
  have a := lawR_ok ln 2 h6 h14 (by omega) (by omega)
  refine (open_fresh a g h F.dur F.cache F.outs.len F.live).mono fun e w' q => ?_
  obtain ⟨J, D', s', he, H, hst⟩ := q
  exact ⟨J, D', s', he, ⟨H, F.outs⟩, hst⟩
theorem kept_in (v : Value) (ks : List Int) : ∀ (W : World) F, (aKept v ks).p W F → IntsIn W v ks := fun W F h => ints_of_row h.1
/-- JournalAnew's calls up to its flush, over things that say no more of themselves -/
structure AnewCalls (w : World) (ln : Nat) (N D1 : DevM) (P : Nat → DevM → JSt → Prop) (Q : DevM → Prop) (K : JSt → Nat → Nat → Ast) : Prop where
  new : ∀ W As, St w W As → Calls Tryd.prog 14 #[.agg #[.int .i64 24, .int .i64 2]] W fun e w' => ∃ X, e = .returned (.tuple #[pt X, .int .i64 0]) ∧ St w w' (pDev X N :: As)
  fmt : ∀ W X As, St w W (pDev X N :: As) → Calls Tryd.prog 8 #[pt X, .int .i64 3, .int .i64 (ln : Int)] W fun e w' => e = .returned (.int .i64 0) ∧ St w w' (pDev X D1 :: As)
  awk : ∀ W As, St w W As → Calls Tryd.prog 16 #[] W fun e w' => e = .returned (.bool true) ∧ St w w' As
  open1 : ∀ W X As, St w W (pDev X D1 :: As) → Calls Tryd.prog 7 #[pt X, .int .i64 3, .int .i64 (ln : Int)] W fun e w' => ∃ J D2 s, e = .returned (.tuple #[pt J, .int .i64 0, .int .i64 0]) ∧ P 0 D2 s ∧ St w w' (pDev X D2 :: K s J X :: As)
  commit : ∀ W u out X J D s k As, k < 20 → P k D s → PutsGood ln 1024 out → St w W (aWrs u out :: pDev X D :: K s J X :: As) → Calls Tryd.prog 9 #[pt J, u] W fun e w' => ∃ D' s', e = .returned (.int .i64 0) ∧ P (k + 1) D' s' ∧ St w w' (pDev X D' :: K s' J X :: As)
  flush : ∀ W X J D s k As, k ≤ 20 → P k D s → St w W (pDev X D :: K s J X :: As) → Calls Tryd.prog 27 #[pt X] W fun e w' => ∃ D', e = .returned (.int .i64 0) ∧ Q D' ∧ St w w' (pDev X D' :: As)
  model0 : ∀ W X D As, Q D → St w W (pDev X D :: As) → Calls Tryd.prog 17 #[pt X, .int .i64 (ln : Int)] W fun e w' => ∃ v was, e = .returned v ∧ (Flat ln D was 600000000 ∧ D.plan = none) ∧ St w w' (aRow 9 1 v 24 (dev.strs was) :: pDev X D :: As)
theorem anew_calls (g : Halves w) (ln : Nat) (h6 : 6 ≤ ln) (h14 : ln ≤ 14) : ∃ N D1 P Q K, AnewCalls w ln N D1 P Q K := by
  have a := lawR_ok ln 2 (by omega) (by omega) (by omega) (by omega)
  obtain ⟨f0, f1, f2, f3, f4⟩ := new_format ln 2 h6 h14 (by omega) (by omega)
  refine ⟨DevM.new 24 2, (runS (DevM.new 24 2) (formatS (lawR ln 2))).1,
    fun k D s => (∃ was, Holds (lawR ln 2) D s was (k + 2) (700000000 - 1000 * k)) ∧ D.plan = none,
    fun D => Live (lawR ln 2) D 600000000 ∧ D.cache = [] ∧ D.plan = none,
    fun s J X => aJrn J X (lawR ln 2) s false, ?_⟩
  refine { new := fun W As k => pnew_ok k 24 2 ⟨by omega, by omega, by omega, by omega⟩, fmt := fun W X As k => ?_, awk := fun W As k => lawake_st g k, open1 := fun W X As k => ?_, commit := fun W u out X J D s k As hk q hg st => ?_, flush := fun W X J D s k As hk q st => ?_, model0 := fun W X D As q st => ?_ }
  · have lv := new_live ln 2 (by omega) (by omega)
    have := pformat_st a g k rfl rfl rfl lv.ok (room_less' lv.room (by omega))
    rw [f0] at this
    exact this
  · refine (open_law (k := 1) (m := 700000000) a g k f4 f3 (was0_len _ _) (f1.less (by omega)) (by show 1 ≤ 1; omega) (by show 1 + 0 ≤ 1; omega) (by omega)).mono fun e w' q => ?_
    obtain ⟨D2, ⟨J, he, H, _, hp, hst⟩ | ⟨_, hp, _⟩⟩ := q
    · exact ⟨J, D2, _, he, ⟨⟨_, H⟩, hp f2⟩, hst⟩
    · exact absurd f2 hp
  · obtain ⟨⟨was, H⟩, hp⟩ := q
    have hv := puts_valid (ns := 2) h6 hg
    refine (commit_law (l := out) (m := 700000000 - 1000 * (k + 1)) a g (St.re (L := [_, _, _]) [1, 2, 0] [] st) (H.less (by omega)) (by omega) u (l0_in (W := W)) hv).mono fun e w' q => ?_
    obtain ⟨x, D3, he, ⟨hx, H3, hp3, hn3, hst⟩ | ⟨_, hp3, _⟩⟩ := q
    · subst hx
      exact ⟨D3, _, he, ⟨⟨_, H3⟩, hp3 hp⟩, St.re (L := [_, _, _]) [0, 1] [2] hst⟩
    · exact absurd hp hp3
  · obtain ⟨⟨was, H⟩, hp⟩ := q
    refine (flush_law (m := 600000000) a st (H.less (by omega)) hp).mono fun e w' q => ?_
    obtain ⟨D', he, hst, lv, hc, pl⟩ := q
    exact ⟨D', he, ⟨lv, hc, pl⟩, St.re (L := [_, _]) [0] [1] hst⟩
  · obtain ⟨lv, hc, pl⟩ := q
    obtain ⟨o1, o2⟩ := out_image h14 lv hc
    refine (lmodel_st st lv.nb (room_less' lv.room (by omega)) ln (by omega)).mono fun e w' t => ?_
    obtain ⟨v, he, hst⟩ := t
    exact ⟨v, _, he, ⟨⟨lv, hc, o1, o2⟩, pl⟩, hst⟩
/-- the model of a journal that is open is what was -/
theorem end_model {s : JSt} {v : Value} {K : Ast} (h14 : ln ≤ 14) (H : Holds (lawR ln 2) D s was 2 m ∧ Outs ln was) (st : St w wr (aRow 9 1 v 24 (dev.strs was) :: pDev X D :: K :: As)) :
    Calls Tryd.prog 17 #[pt X, .int .i64 (ln : Int)] wr fun e w' => ∃ v2, e = .returned v2 ∧ St w w' (aRow 9 1 v2 24 (dev.strs was) :: aRow 9 1 v 24 (dev.strs was) :: As) := by
  have hm := holds_model H.1 H.2
  have := lmodel_st st.swap H.1.live.nb (room_less' H.1.live.room (by omega)) ln (by omega)
  rw [hm] at this
  exact this.mono fun e w' t => by
    obtain ⟨v2, he, hst⟩ := t
    exact ⟨v2, he, St.re (L := [_, _, _, _]) [0, 2] [1, 3] hst⟩
end
end Go.Proofs.YtoiankgafclbdaaDoor.jrn
/-
  Layer 5, the law JournalAnew, walked.
-/
namespace Go.Proofs.YtoiankgafclbdaaDoor.jrn
open Go.ChangeShapes Go.WideShapes Go.ChangeAt Go.RowKit mem dev sums
set_option linter.unusedVariables false
section
variable {w wr : World} {As : List Ast} {X J : Nat} {D : DevM}
set_option maxHeartbeats 4000000 in
set_option maxRecDepth 8000 in
theorem anew_law (g : Halves w) (n : Int) (hn : InI64 n) (v : Value) (l : List (List (Int × ByteArray))) (hv : PutssIn w v l) (hl : l.length ≤ 17592186043904) (ok : ∀ ps ∈ l, PutsOk ps) (fall : Int) (hf : InI64 fall) (kv : Value) (ks : List Int) (torn : Int) (mask : Nat) (hk : IntsIn w kv ks) (C : CrashOk ks torn mask) :
    Calls Tryd.prog 6 #[.int .i64 n, v, .int .i64 fall, .agg #[kv, .int .i64 torn, .int .u8 (mask : Int)]] w fun e w' => e = .returned (.bool true) ∧ St w w' [] := by
  obtain ⟨f1, f2, f3, f4⟩ := tmod_facts 9 (by omega) n
  have f1 : -9 < n.tmod 9 := f1
  have f2 : n.tmod 9 < 9 := f2
  have f3 : 0 ≤ (n.tmod 9 + 9).tmod 9 := f3
  have f4 : (n.tmod 9 + 9).tmod 9 < 9 := f4
  obtain ⟨q, hq⟩ : ∃ q : Nat, (n.tmod 9 + 9).tmod 9 = (q : Int) := ⟨_, (Int.toNat_of_nonneg f3).symm⟩
  obtain ⟨ln, hln⟩ : ∃ ln : Nat, ln = 6 + q := ⟨_, rfl⟩
  have h6 : 6 ≤ ln := by omega
  have h14 : ln ≤ 14 := by omega
  obtain ⟨N, D1, P, Q, K, A⟩ := anew_calls g ln h6 h14
  have e1 : IntKind.i64.wrap (n.tmod 9) = n.tmod 9 := IntWalk.i64_in _ (by omega)
  have e2 : IntKind.i64.wrap (n.tmod 9 + 9) = n.tmod 9 + 9 := IntWalk.i64_in _ (by omega)
  have e3 : IntKind.i64.wrap (q : Int) = (q : Int) := IntWalk.i64_in _ (by omega)
  have e4 : IntKind.i64.wrap (6 + (q : Int)) = (ln : Int) := by rw [IntWalk.i64_in _ (by omega)]; omega
  obtain ⟨ao, cap, rfl, hc⟩ := hv
  have HC := Lib.hid hc
  have HOK := Lib.hid ok
  have H6 := Lib.hid h6
  have H14 := Lib.hid h14
  have HL := Lib.hid hl
  have HG := Lib.hid g
  have HK := Lib.hid hk
  have HCR := Lib.hid C
  have HF := Lib.hid hf
  have HB := Lib.hid (st_new (St.nil (Ch.refl _ w)) [kv, .int .i64 torn, .int .u8 (mask : Int)] 48)
  clear hn hc ok f1 f2 f3 f4 hln h6 h14 g hl hk C hf
  go_enter Tryd.func6, Tryd.ntmps6
  go_upto_region 5 with (first
    | ((go_at_call 14; refine (A.new _ _ HB.out).mono ?_; rintro e w2 ⟨X, rfl, hst⟩; have H1 := Lib.hid hst; clear hst))
    | ((go_at_call 8; refine (A.fmt _ _ _ H1.out).mono ?_; rintro e w3 ⟨rfl, hst⟩; have H2 := Lib.hid hst; clear hst H1))
    | ((go_at_call 16; refine (A.awk _ _ H2.out).mono ?_; rintro e w4 ⟨rfl, hst⟩; have H3 := Lib.hid hst; clear hst H2)))
  clear e1 e2 e3 e4 hq
  go_upto_block 0 with ((go_at_call 7; refine (A.open1 _ _ _ H3.out).mono ?_; rintro e w5 ⟨J, D2, s0, rfl, hh, hst⟩; have HP0 := Lib.hid hh; have H4 := Lib.hid hst; clear hst hh H3))
  generalize w.heap.size = T at H4 ⊢
  go_cut [14] from 51 to 69 (fun x W => ∃ (k : Nat) (D : DevM) (s : JSt), k ≤ 20 ∧ P k D s ∧ St w W [pDev X D, K s J X, aVar T [kv, .int .i64 torn, .int .u8 (mask : Int)] 48])
  case first =>
    go_wp2_with fail
    go_loopw [14] (fun i W => ∃ (k : Nat) (D : DevM) (s : JSt), k ≤ l.length ∧ k ≤ 20 ∧ i = .int .i64 ↑k ∧ P k D s ∧ St w W [pDev X D, K s J X, aVar T [kv, .int .i64 torn, .int .u8 (mask : Int)] 48]) (fun i _ => l.length - (intOf i).toNat)
    case atStart => exact ⟨0, _, _, Nat.zero_le _, Nat.zero_le _, rfl, HP0.out, H4.out⟩
    case round =>
      obtain ⟨k, D, s, hk, hk20, rfl, hp, hst⟩ := hrel
      clear H4 HP0
      have HST := Lib.hid hst
      have HP := Lib.hid hp
      have HK20 := Lib.hid hk20
      have k3 : (k : Int) ≤ l.length := by omega
      have k4 : (l.length : Int) ≤ 17592186043904 := by have := HL.out; omega
      by_cases hgo : k < l.length ∧ k < 20
      · obtain ⟨hlt, h20⟩ := hgo
        have k1 : (k : Int) < l.length := by omega
        have k2 : (k : Int) < 20 := by omega
        obtain ⟨b, o, u, rfl, hc0, hps⟩ := HC.out k hlt
        have c0 := hst.ch.cell hc0
        have HGD := Lib.hid (putsM_good (z := 1024) H6.out (by have := H14.out; omega) l[k] (putsGood_nil ln 1024))
        have HPT : Hid (Calls Tryd.prog 18 #[u, .int .i64 (ln : Int), .int .i64 1024] _ fun e w' => ∃ u', e = .returned u' ∧ St w w' (aWrs u' (putsM ln 1024 l[k] []) :: _)) := Lib.hid (lputs_st hst l[k] u hps (HOK.out _ (List.getElem_mem hlt)) ln 1024 H6.out H14.out (by omega) (by omega))
        generalize putsM ln 1024 l[k] [] = out at HPT HGD
        have HLT := Lib.hid hlt
        have H20 := Lib.hid h20
        have e1 : IntKind.i64.wrap ((k : Int) + 1) = (k : Int) + 1 := IntWalk.i64_in _ (by omega)
        clear hst hlt h20 hc0 hps hk hk20 hp
        go_wp2_with (first
          | ((go_at_call 18; refine HPT.out.mono ?_; rintro e w8 ⟨u2, rfl, hst⟩; have H9 := Lib.hid hst; clear hst HPT))
          | ((go_at_call 9; refine (A.commit _ _ _ _ _ _ _ _ _ H20.out HP.out HGD.out H9.out).mono ?_; rintro e w10 ⟨D', s', rfl, hp2, hst⟩; have H11 := Lib.hid hst; have HP2 := Lib.hid hp2; clear hst hp2)))
        go_roundw
        case rel => exact ⟨k + 1, D', s', by have := HLT.out; omega, by have := H20.out; omega, by go_num, HP2.out, H11.out⟩
        case measure => simp [intOf] <;> omega
      · have HX : Hid ((k : Int) < l.length → ¬ (k : Int) < 20) := Lib.hid (by intro h1 h2; exact hgo ⟨by omega, by omega⟩)
        clear hst hgo hk hk20 hp
        by_cases hlt : (k : Int) < l.length
        · have k2 : ¬ (k : Int) < 20 := HX.out hlt
          go_wp2_with fail
          go_meet
          exact ⟨k, D, s, HK20.out, HP.out, HST.out⟩
        · go_wp2_with fail
          go_meet
          exact ⟨k, D, s, HK20.out, HP.out, HST.out⟩
  case rest =>
    obtain ⟨k, D, s, hk20, hp, hst⟩ := hcut
    have HK20 := Lib.hid hk20
    have HP := Lib.hid hp
    have HST := Lib.hid hst
    clear hk20 hp hst H4 HP0
    go_upto_region 16 with (first
      | ((go_at_call 27; refine (A.flush _ _ _ _ _ _ _ HK20.out HP.out HST.out).mono ?_; rintro e w6 ⟨D3, rfl, hq3, hst⟩; have HQ := Lib.hid hq3; have H5 := Lib.hid hst; clear hst hq3))
      | ((go_at_call 17; refine (A.model0 _ _ _ _ HQ.out H5.out).mono ?_; rintro e w7 ⟨v0, was, rfl, ⟨hflat, hpl⟩, hst⟩; obtain ⟨g0, cap0, rfl, _⟩ := st_form hst (by decide); have HFL := Lib.hid hflat; have HPL := Lib.hid hpl; have H7 := Lib.hid hst; clear hst hflat hpl H5)))
    clear HST HP HK20 HQ
    go_upto_if 77 with fail
    go_cut [78] from 77 to 87 (fun x W => ∃ D : DevM, Flat ln D was 600000000 ∧ St w W [pDev X D, aRow 9 1 (.slice (some ⟨g0, 0, none⟩) 24 cap0) 24 (dev.strs was)])
    case first =>
      have hmf := HF.out
      have ln0 : (6 : Int) ≤ ln := by have := H6.out; omega
      have ln1 : (ln : Int) ≤ 14 := by have := H14.out; omega
      by_cases hf0 : 0 < fall
      · have r0 : 0 ≤ (fall - 1).tmod ((ln : Int) + 4) := Int.tmod_nonneg _ (by omega)
        have r1 : (fall - 1).tmod ((ln : Int) + 4) < (ln : Int) + 4 := Int.tmod_lt_of_pos _ (by omega)
        have e1 : IntKind.i64.wrap (fall - 1) = fall - 1 := IntWalk.i64_in _ (by have := hmf.2; omega)
        have e2 : IntKind.i64.wrap ((ln : Int) + 4) = (ln : Int) + 4 := IntWalk.i64_in _ (by omega)
        have e3 : ¬ (ln : Int) + 4 = 0 := by omega
        have e4 : IntKind.i64.wrap ((fall - 1).tmod ((ln : Int) + 4)) = (fall - 1).tmod ((ln : Int) + 4) := IntWalk.i64_in _ (by omega)
        have e5 : IntKind.i64.wrap (1 + (fall - 1).tmod ((ln : Int) + 4)) = 1 + (fall - 1).tmod ((ln : Int) + 4) := IntWalk.i64_in _ (by omega)
        have HR0 : Hid (0 ≤ 1 + (fall - 1).tmod ((ln : Int) + 4) ∧ 1 + (fall - 1).tmod ((ln : Int) + 4) ≤ 9223372036854775807) := Lib.hid ⟨by omega, by omega⟩
        have hB := St.re (L := [_, _, _]) [2, 0, 1] [] H7.out
        have z0 : _ = some kv := st_cell hB 0
        have z1 : _ = some (Value.int .i64 torn) := st_cell hB 1
        have z2 : _ = some (Value.int .u8 (mask : Int)) := st_cell hB 2
        have H8 := Lib.hid hB
        clear hB hmf ln0 ln1 r0 r1
        go_upto_region 17 with fail
        go_region_held3 (fun w' => w'.cell? ⟨T, 0, none⟩ = some kv ∧ w'.cell? ⟨T, 1, none⟩ = some (.int .i64 torn) ∧ w'.cell? ⟨T, 2, none⟩ = some (.int .u8 (mask : Int))) (go_keep) (first
          | ((go_at_call 21; refine (lcrash_any (by first | exact H8.out | exact H8.out.drew | exact H8.out.drewN _) kv ks torn mask HK.out HCR.out).mono ?_; rintro e w8 ⟨cv, rfl, hst⟩; have u0 : _ = some kv := st_cell hst.swap 0; have u1 : _ = some (Value.int .i64 torn) := st_cell hst.swap 1; have u2 : _ = some (Value.int .u8 (mask : Int)) := st_cell hst.swap 2; have H9 := Lib.hid (St.re (L := [_, _, _, _]) [3, 0, 1, 2] [] hst); clear hst))
          | ((go_at_call 20; refine (flat_plan (by first | exact H9.out | exact H9.out.drew | exact H9.out.drewN _) HFL.out _ HR0.out.1 HR0.out.2 cv ks torn mask (kept_in cv ks) HCR.out).mono ?_; rintro e w9 ⟨D4, rfl, hfl4, _, hst⟩; have hq4 := St.re (L := [_, _, _, _]) [2, 0, 1, 3] [] hst; have y0 : _ = some kv := st_cell hq4 0; have y1 : _ = some (Value.int .i64 torn) := st_cell hq4 1; have y2 : _ = some (Value.int .u8 (mask : Int)) := st_cell hq4 2; have HF4 := Lib.hid hfl4; have H10 := Lib.hid hst; clear hst hfl4 hq4)))
        go_wp2_with fail
        go_meet
        exact ⟨D4, HF4.out, St.re (L := [_, _, _, _]) [0, 3] [1, 2] H10.out⟩
      · have H8 := Lib.hid (St.re (L := [_, _, _]) [1, 0] [2] H7.out)
        clear hmf ln0 ln1
        go_wp2_with fail
        go_meet
        exact ⟨D3, HFL.out, H8.out⟩
    case rest =>
      obtain ⟨D4, hflat, hst⟩ := hcut
      have HF4 := Lib.hid hflat
      have HST := Lib.hid hst
      have HLW : Hid (was.length = 24) := Lib.hid hflat.outs.len
      clear hflat hst H7 HFL HPL HK HCR HF
      have HSM : Hid (∀ W v2, St w W [aRow 9 1 v2 24 (dev.strs was), aRow 9 1 (.slice (some ⟨g0, 0, none⟩) 24 cap0) 24 (dev.strs was)] → Calls Tryd.prog 25 #[v2, .slice (some ⟨g0, 0, none⟩) 24 cap0] W fun e w' => e = .returned (.bool true) ∧ St w w' []) := Lib.hid fun W v2 h =>
        (rsame_any v2 _ _ _ W (strs_in h) (strs_in h.swap) (by rw [HLW.out]; decide) (by rw [HLW.out]; decide)).mono fun e w' q => by
          obtain ⟨he, q, rfl⟩ := q
          exact ⟨by rw [he, decide_eq_true rfl], St.re (L := [_, _]) [] [0, 1] (h.drewN q)⟩
      have HDN : Hid (∀ W D As, St w W (pDev X D :: As) → Calls Tryd.prog 22 #[pt X] W fun e w' => e = .returned (.bool D.down) ∧ St w w' (pDev X D :: As)) := Lib.hid fun W D As h =>
        (pdown_any h).mono fun e w' q => by
          obtain ⟨he, q, rfl⟩ := q
          exact ⟨he, h.drewN q⟩
      go_upto_region 19 with ((go_at_call 8; refine (flat_format (m := 500000000) HG.out H6.out H14.out HST.out HF4.out.less0).mono ?_; rintro e w10 ⟨D5, x, rfl, hst, hcase⟩; have H11 := Lib.hid hst; have HCS := Lib.hid hcase; clear hst hcase))
      rcases HCS.out with ⟨rfl, hdn, hfr⟩ | ⟨rfl, hdn, hpl, hfa⟩
      · have HDN2 : Hid (∀ W As, St w W (pDev X D5 :: As) → Calls Tryd.prog 22 #[pt X] W fun e w' => e = .returned (.bool false) ∧ St w w' (pDev X D5 :: As)) := Lib.hid fun W As h => by
          have := HDN.out W D5 As h
          rw [hdn] at this
          exact this
        have HFR := Lib.hid hfr
        clear hdn hfr HCS HST HF4
        go_wp2_with (first
          | ((go_at_call 22; refine (HDN2.out _ _ H11.out).mono ?_; rintro e w11 ⟨rfl, hst⟩; have H12 := Lib.hid hst; clear hst H11))
          | ((go_at_call 7; refine (fresh_open (m := 100000000) HG.out H6.out H14.out H12.out HFR.out.less0).mono ?_; rintro e w12 ⟨J2, D6, s6, rfl, hh, hst⟩; have HH := Lib.hid hh; have H13 := Lib.hid (St.re (L := [_, _, _]) [2, 0, 1] [] hst); clear hst hh H12))
          | ((go_at_call 17; refine (end_model H14.out HH.out H13.out).mono ?_; rintro e w13 ⟨v2, rfl, hst⟩; have H14x := Lib.hid hst; clear hst))
          | ((go_at_call 25; refine (HSM.out _ _ H14x.out).mono ?_; rintro e w14 ⟨rfl, hst⟩; have H15 := Lib.hid hst; clear hst)))
        go_ret
        exact ⟨rfl, H15.out⟩
      · have HDN2 : Hid (∀ W As, St w W (pDev X D5 :: As) → Calls Tryd.prog 22 #[pt X] W fun e w' => e = .returned (.bool true) ∧ St w w' (pDev X D5 :: As)) := Lib.hid fun W As h => by
          have := HDN.out W D5 As h
          rw [hdn] at this
          exact this
        have HFA := Lib.hid hfa
        have HF2 : Hid (∀ W D6 As, Flat ln D6 was 500000000 → D6.plan = none → St w W (pDev X D6 :: As) → Calls Tryd.prog 8 #[pt X, .int .i64 3, .int .i64 (ln : Int)] W fun e w' => ∃ D', e = .returned (.int .i64 0) ∧ Fresh2 ln D' was 400000000 ∧ St w w' (pDev X D' :: As)) := Lib.hid fun W D6 As F hp h =>
          (flat_format (m := 400000000) HG.out H6.out H14.out h F.less0).mono fun e w' q => by
            obtain ⟨D', x, he, hst, ⟨hx, _, hfr⟩ | ⟨_, _, hp2, _⟩⟩ := q
            · subst hx; exact ⟨D', he, hfr, hst⟩
            · exact absurd hp hp2
        clear hdn hpl hfa HCS HST HF4
        go_wp2_with (first
          | ((go_at_call 22; refine (HDN2.out _ _ H11.out).mono ?_; rintro e w11 ⟨rfl, hst⟩; have H12 := Lib.hid hst; clear hst H11))
          | ((go_at_call 26; refine (fallen_restart H12.out HFA.out).mono ?_; rintro e w12 ⟨D6, rfl, hh, hst⟩; have HF6 := Lib.hid hh; have H13 := Lib.hid hst; clear hst hh H12))
          | ((go_at_call 20; refine (flat_plan H13.out HF6.out 0 (by omega) (by omega) (.slice none 0 0) [] 0 0 ints_none crash_zero).mono ?_; rintro e w13 ⟨D7, rfl, hh, hp, hst⟩; have HF7 := Lib.hid hh; have HP7 := Lib.hid (hp rfl); have H14y := Lib.hid hst; clear hst hh hp H13))
          | ((go_at_call 8; refine (HF2.out _ _ _ HF7.out HP7.out H14y.out).mono ?_; rintro e w14 ⟨D8, rfl, hh, hst⟩; have HFR := Lib.hid hh; have H15 := Lib.hid hst; clear hst hh H14y))
          | ((go_at_call 7; refine (fresh_open (m := 100000000) HG.out H6.out H14.out H15.out HFR.out.less0).mono ?_; rintro e w15 ⟨J2, D9, s9, rfl, hh, hst⟩; have HH := Lib.hid hh; have H16 := Lib.hid (St.re (L := [_, _, _]) [2, 0, 1] [] hst); clear hst hh H15))
          | ((go_at_call 17; refine (end_model H14.out HH.out H16.out).mono ?_; rintro e w16 ⟨v2, rfl, hst⟩; have H17 := Lib.hid hst; clear hst))
          | ((go_at_call 25; refine (HSM.out _ _ H17.out).mono ?_; rintro e w17 ⟨rfl, hst⟩; have H18 := Lib.hid hst; clear hst)))
        go_ret
        exact ⟨rfl, H18.out⟩
end
end Go.Proofs.YtoiankgafclbdaaDoor.jrn
/-
  JournalAnew answers true for any length, any lists of puts, any place of a fall and any crash, whatever the world and the tape: a region that is formatted anew tells nothing of what stood there, even if the formatting fell, as chapter 5 says. Conditions: the two tables of package sums stand, when the call begins, as the program's own text lays them; the card ties that to the text.
-/
namespace Go.Proofs.YtoiankgafclbdaaDoor.journalAnew
open Go.ChangeShapes Go.WideShapes Go.ChangeAt Go.RowKit mem dev

theorem agg_of {v : Value} {l : List Value} (h : v.cells.toList = l) (hl : 1 < l.length) : v = .agg l.toArray := by
  cases v with
  | agg cs =>
    have : cs.toList = l := h
    rw [← this]
  | _ => subst h; simp [Value.cells] at hl

theorem own : ownKnob Tryd.prog.godebug = none := by kernel_rfl

set_option maxRecDepth 100000 in
theorem lifted (os : Os) (started : os.Started) (H : Type) (enc : TypeId × Value → H) :
    ReturnsInHanded {} Tryd.checked os 6 .any (fun w args => (Rows.journalAnewSpec.pre enc Tryd.prog Tryd.f6 [] false w args ∧ laidMetH Tryd.prog sums.laid2 w) ∧ sizedMet enc Tryd.prog Tryd.f6 (OpenSpec.ofChange Rows.journalAnewSpec) false w args) (Rows.journalAnewSpec.post enc Tryd.prog Tryd.f6 false true false false) := by
  refine returnsInHanded_of_change_and (C := Tryd.checked) (X := fun w _ => laidMetH Tryd.prog sums.laid2 w) (fun _ _ _ hh h => h.of_heap hh) own started (by kernel_rfl) Tryd.func6
    (ChangeSpec.witness_shaped (enc := enc) (C := Tryd.checked) (os := os) (X := fun w _ => laidMetH Tryd.prog sums.laid2 w) false (World.doorLaid Tryd.prog 400 os) #[.int .i64 0, .slice none 0 0, .int .i64 0, .agg #[.slice none 0 0, .int .i64 0, .int .u8 0]] 8 rfl (World.shaped_of_RefB (by kernel_rfl) (by kernel_rfl)) (by kernel_rfl) (by kernel_rfl) (by kernel_rfl) (sums.door_met2 os _)) ?_
  intro W base args ds gs before hval0 hW hcnd hsz0 hL _
  have hsz : (DataW.weightsEach Tryd.prog (Tryd.f6.params.toList ++ Rows.journalAnewSpec.plain.varTypes Tryd.prog) (ds ++ gs)).all (· ≤ reachBytes) = true := hsz0
  clear hsz0
  have hval : ∀ (j : Nat) t v, Tryd.f6.params[j]? = some t → args[j]? = some v → Value.okWide Tryd.prog W .any base t v := hval0
  have hW' := hW
  obtain ⟨p, q, hA0, hV, rfl, hfz, hnd⟩ := hW
  have hA : DataW.TrodAll enc Tryd.prog W 0 (fun _ => true) true Tryd.f6.params.toList args.toList ds p := hA0
  rw [Tryd.params6] at hA hval hsz
  obtain ⟨v0, v1, v2, v3, d0, d1, d2, d3, p0, p1, p2, p3, rfl, rfl, rfl, h0, h1, h2, h3⟩ := trodAll_four hA
  obtain ⟨rfl, rfl⟩ := trodVars_none hV
  have h0k := h0
  have h1k := h1
  have h2k := h2
  have h3k := h3
  have F1 : jrn.Fits 59 d1 := jrn.fits_of (j := 1) hsz rfl rfl
  have F3 : jrn.Fits 48 d3 := jrn.fits_of (j := 3) hsz rfl rfl
  obtain ⟨fuel0, g0⟩ := h0
  obtain ⟨a1, n1, c1, rfl⟩ := okWide_slice Tryd.underlying59 (hval 1 59 v1 rfl rfl)
  obtain ⟨fuel1, g1⟩ := h1
  obtain ⟨fuel2, g2⟩ := h2
  obtain ⟨fuel3, g3⟩ := h3
  obtain ⟨u1, l, e1, o1, hl, k1⟩ := jrn.putss_open g1 F1
  obtain ⟨n, e0, _, w0⟩ := DataW.trod_int Tryd.underlying3 g0
  obtain ⟨fl, e2, _, w2⟩ := DataW.trod_int Tryd.underlying3 g2
  obtain ⟨kv, ks, torn, mask, e3, o3, k3⟩ := jrn.crash_open g3 F3
  obtain rfl : u1 = .slice a1 n1 c1 := by simpa [Value.cells] using e1.symm
  obtain ⟨b', rfl⟩ := okWide_int Tryd.underlying3 (hval 0 3 v0 rfl rfl)
  obtain rfl : b' = n := by simpa [Value.cells] using e0
  obtain ⟨b2, rfl⟩ := okWide_int Tryd.underlying3 (hval 2 3 v2 rfl rfl)
  obtain rfl : b2 = fl := by simpa [Value.cells] using e2
  obtain rfl : v3 = .agg #[kv, .int .i64 torn, .int .u8 (mask : Int)] := agg_of e3 (by show 1 < 3; omega)
  have hlt : ∀ x ∈ p0 ++ (p1 ++ (p2 ++ (p3 ++ []))), x.block < W.heap.size := fun x hx => by simpa using hW'.lt x (by simpa using hx)
  refine (jrn.anew_law (sums.of_laidH2 hL) b' (jrn.wf64 w0) (.slice a1 n1 c1) l o1 hl k1 b2 (jrn.wf64 w2) kv ks torn mask o3 k3).mono fun e W' ⟨he, hst⟩ => ?_
  subst he
  have hb : Below W.heap.size W W' := hst.ch.below
  exact ⟨_, rfl, _, _, _, [], _, [], hW', trodAll_cons_mk (shut_bool Tryd.underlying4 _) trodAll_mk0,
    trodAll_cons_mk (Below.trod jrn.laidOut (by kernel_rfl) (of_decide_eq_true (by kernel_rfl)) h0k hb fun x hx => hlt x (by simp [hx]))
      (trodAll_cons_mk (Below.trod jrn.laidOut (by kernel_rfl) (of_decide_eq_true (by kernel_rfl)) h1k hb fun x hx => hlt x (by simp [hx]))
        (trodAll_cons_mk (Below.trod jrn.laidOut (by kernel_rfl) (of_decide_eq_true (by kernel_rfl)) h2k hb fun x hx => hlt x (by simp [hx]))
          (trodAll_cons_mk (Below.trod jrn.laidOut (by kernel_rfl) (of_decide_eq_true (by kernel_rfl)) h3k hb fun x hx => hlt x (by simp [hx])) trodAll_mk0))), hV, hb.frame _, fun h => by cases h⟩

theorem proved : Rows.JournalAnewSaid :=
  OpenClaim.holds_of_wide 6 Tryd.f6 rfl rfl rfl rfl rfl rfl rfl ⟨rfl, rfl, rfl, rfl, rfl⟩ rfl rfl rfl rfl rfl (by kernel_rfl) Tryd.func6 (by kernel_rfl)
    (of_decide_eq_true (by kernel_rfl)) (by unfold Func.isWrapper; first | (rw [if_pos (by decide +kernel)]; kernel_rfl) | (rw [if_neg (by decide +kernel)]; exact ⟨rfl, rfl⟩))
    (fun os started H enc _ => lifted os started H enc)

/-- the card: the listed tables are tied to the program's own text -/
theorem card : Rows.JournalAnewCardSaid :=
  Claim7.holds_tied_plain_at .later [] [.data, .data] true Rows.journalAnewCard.stood.harness false
    proved (fun _ h => by cases h) (by kernel_rfl) (fun _ h => by cases h) journalAnew_row_tie rfl ⟨rfl, rfl⟩ (by kernel_rfl) rfl
    (fun f fn hf hfn => by
      obtain rfl : f = 6 := Option.some.inj ((show Tryd.prog.funcNamed "wattle/wattlelaw05.JournalAnew" = some 6 by kernel_rfl).symm.trans hf) |>.symm
      obtain rfl : fn = Tryd.f6 := (Option.some.inj (Tryd.func6.symm.trans hfn)).symm
      exact ⟨by kernel_rfl, fun j t ht => by
        have hall : (Tryd.f6.params.toList.all fun u => !Tryd.prog.wantsStandIn u) = true := by kernel_rfl
        have hm : t ∈ Tryd.f6.params.toList := by simpa using Array.mem_of_getElem? ht
        exact (show Tryd.prog.wantsStandIn t = false by simpa using List.all_eq_true.1 hall t hm)⟩)
    (by kernel_rfl)
end Go.Proofs.YtoiankgafclbdaaDoor.journalAnew
