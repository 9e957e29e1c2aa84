/-
  Layer 5, the law JournalRoom, walked.
-/
import Derived.Test.YtjmjmekmaamclaaDoorMK
import Derived.Test.YtjmjmekmaamclaaDoorDrvI
import Derived.Test.YtjmjmekmaamclaaDoorDrvG
import Derived.Test.YtjmjmekmaamclaaDoorDG
import Derived.Deep.Slices
import Derived.Deep.Fields
import Derived.ChangeSame
import Derived.ChangeSlices
import Derived.SizedLaws
namespace Go.Proofs.YtjmjmekmaamclaaDoor.jrn
open Go.ChangeShapes Go.WideShapes Go.ChangeAt Go.RowKit mem dev sums
set_option linter.unusedVariables false
def PutssIn (W : World) (v : Value) (l : List (List (Int × ByteArray))) : Prop :=
  ∃ ao cap, v = .slice ao l.length cap ∧ ∀ i (hi : i < l.length), ∃ b o u, ao = some ⟨b, o, none⟩ ∧ W.cell? ⟨b, o + i, none⟩ = some u ∧ PutsIn W u l[i]
section
variable {w wr : World} {As : List Ast} {X J : Nat} {D : DevM}
set_option maxHeartbeats 4000000 in
set_option maxRecDepth 8000 in
theorem room_law (g : Halves w) (n : Int) (hn : InI64 n) (v : Value) (l : List (List (Int × ByteArray))) (hv : PutssIn w v l) (hl : l.length ≤ 17592186043904) (ok : ∀ ps ∈ l, PutsOk ps) :
    Calls Tryd.prog 5 #[.int .i64 n, v] w fun e w' => e = .returned (.bool true) ∧ St w w' [] := by
  obtain ⟨f1, f2, f3, f4⟩ := tmod_facts 9 (by omega) n
  have f1 : -9 < n.tmod 9 := f1
  have f2 : n.tmod 9 < 9 := f2
  have f3 : 0 ≤ (n.tmod 9 + 9).tmod 9 := f3
  have f4 : (n.tmod 9 + 9).tmod 9 < 9 := f4
  obtain ⟨q, hq⟩ : ∃ q : Nat, (n.tmod 9 + 9).tmod 9 = (q : Int) := ⟨_, (Int.toNat_of_nonneg f3).symm⟩
  obtain ⟨ln, hln⟩ : ∃ ln : Nat, ln = 6 + q := ⟨_, rfl⟩
  have h6 : 6 ≤ ln := by omega
  have h14 : ln ≤ 14 := by omega
  obtain ⟨N, D1, P0, P, K, A⟩ := room_calls g ln h6 h14
  have e1 : IntKind.i64.wrap (n.tmod 9) = n.tmod 9 := IntWalk.i64_in _ (by omega)
  have e2 : IntKind.i64.wrap (n.tmod 9 + 9) = n.tmod 9 + 9 := IntWalk.i64_in _ (by omega)
  have e3 : IntKind.i64.wrap (q : Int) = (q : Int) := IntWalk.i64_in _ (by omega)
  have e4 : IntKind.i64.wrap (6 + (q : Int)) = (ln : Int) := by rw [IntWalk.i64_in _ (by omega)]; omega
  have e5 : IntKind.i64.wrap ((ln : Int) - 4) = (ln : Int) - 4 := IntWalk.i64_in _ (by omega)
  obtain ⟨ao, cap, rfl, hc⟩ := hv
  have HC := Lib.hid hc
  have HOK := Lib.hid ok
  have H6 := Lib.hid h6
  have H14 := Lib.hid h14
  have HL := Lib.hid hl
  clear hn hc ok f1 f2 f3 f4 hln h6 h14 g hl
  go_enter Tryd.func5, Tryd.ntmps5
  go_upto_region 5 with (first
    | ((go_at_call 14; refine A.new.mono ?_; rintro e w2 ⟨X, rfl, hst⟩; have H1 := Lib.hid hst; clear hst))
    | ((go_at_call 8; refine (A.fmt _ _ H1.out).mono ?_; rintro e w3 ⟨rfl, hst⟩; have H2 := Lib.hid hst; clear hst H1))
    | ((go_at_call 16; refine (A.awk _ _ H2.out).mono ?_; rintro e w4 ⟨rfl, hst⟩; have H3 := Lib.hid hst; clear hst H2)))
  go_upto_region 8 with (first
    | ((go_at_call 7; refine (A.open1 _ _ H3.out).mono ?_; rintro e w5 ⟨J, D2, s0, rfl, hh, hst⟩; have HP0 := Lib.hid hh; have H4 := Lib.hid hst; clear hst hh H3))
    | ((go_at_call 11; refine (A.most _ _ _ _ _ HP0.out H4.out).mono ?_; rintro e w6 ⟨rfl, hst⟩; have H5 := Lib.hid hst; clear hst H4)))
  clear e1 e2 e3 e4 e5 hq
  go_wp2_with ((go_at_call 17; refine (A.model0 _ _ _ _ _ HP0.out H5.out).mono ?_; rintro e w7 ⟨v0, was1, rfl, hh, hst⟩; obtain ⟨g0, cap0, rfl, _⟩ := st_form hst (by decide); have HP := Lib.hid hh; have H8 := Lib.hid hst; clear hst hh H5))
  go_loopw [11] (fun i W => ∃ (k : Nat) (D : DevM) (s : JSt) (was : List ByteArray), k ≤ l.length ∧ k ≤ 40 ∧ i = .int .i64 ↑k ∧ P k D s was ∧ St w W [aRow 9 1 (.slice (some ⟨g0, 0, none⟩) 24 cap0) 24 (dev.strs was), pDev X D, K s J X]) (fun i _ => l.length - (intOf i).toNat)
  case atStart => exact ⟨0, _, _, _, Nat.zero_le _, Nat.zero_le _, rfl, HP.out, H8.out⟩
  case round =>
    obtain ⟨k, D, s, was, hk, hk40, rfl, hp, hst⟩ := hrel
    clear H8 HP HP0
    have HST := Lib.hid hst
    have HP := Lib.hid hp
    have k3 : (k : Int) ≤ l.length := by omega
    have k4 : (l.length : Int) ≤ 17592186043904 := by have := HL.out; omega
    by_cases hlt : k < l.length
    · have k1 : (k : Int) < l.length := by omega
      by_cases h40 : k < 40
      · have k2 : (k : Int) < 40 := by omega
        obtain ⟨b, o, u, rfl, hc0, hps⟩ := HC.out k hlt
        have c0 := hst.ch.cell hc0
        have HPS := Lib.hid hps
        have HPO := Lib.hid (HOK.out _ (List.getElem_mem hlt))
        have HG := Lib.hid (putsM_good (z := 512) H6.out (by have := H14.out; omega) l[k] (putsGood_nil ln 512))
        have HPT : Hid (Calls Tryd.prog 18 #[u, .int .i64 (ln : Int), .int .i64 512] _ fun e w' => ∃ u', e = .returned u' ∧ St w w' (aWrs u' (putsM ln 512 l[k] []) :: _)) := Lib.hid (lputs_st hst l[k] u hps (HOK.out _ (List.getElem_mem hlt)) ln 512 H6.out H14.out (by omega) (by omega))
        generalize putsM ln 512 l[k] [] = out at HPT HG
        have HLT := Lib.hid hlt
        have H40 := Lib.hid h40
        have e1 : IntKind.i64.wrap ((k : Int) + 1) = (k : Int) + 1 := IntWalk.i64_in _ (by omega)
        have e2 : IntKind.i64.wrap ((ln : Int) - 2) = (ln : Int) - 2 := IntWalk.i64_in _ (by have := H14.out; have := H6.out; omega)
        clear hst hlt h40 hc0 hps hk hk40 hp HPS HPO
        go_upto_region 14 with (first
          | ((go_at_call 18; refine HPT.out.mono ?_; rintro e w8 ⟨u2, rfl, hst⟩; obtain ⟨uo, uc, rfl⟩ := st_shape hst; have H9 := Lib.hid hst; clear hst HPT))
          | ((go_at_call 13; refine (A.number _ _ _ _ _ _ _ _ _ H9.out).mono ?_; rintro e w9 ⟨rfl, hst⟩; have H10 := Lib.hid hst; clear hst)))
        clear H9 c0
        go_upto_region 16 with (first
          | ((go_at_call 9; refine (A.commit _ _ _ _ _ _ _ _ _ _ H40.out HP.out HG.out H10.out).mono ?_; rintro e w10 ⟨D', s', rfl, hp2, hnum, hused, hsn, hst⟩; have H11 := Lib.hid hst; have HP2 := Lib.hid hp2; have HNUM := Lib.hid hnum; have u0 : ¬ (s'.used : Int) < 0 := (by omega); have u1 : ¬ (ln : Int) - 2 < (s'.used : Int) := (by have := H6.out; omega); have u3 : ((s'.num : Int) != (s.num : Int) + min (out.length : Int) 1) = false := (by rw [bne_eq_false_iff_eq, hnum]; omega); clear hst hnum hused hp2 H10))
          | ((go_at_call 12; refine (A.used _ _ _ _ _ _ _ _ _ H11.out).mono ?_; rintro e w11 ⟨rfl, hst⟩; have H11 := Lib.hid hst; clear hst))
          | ((go_at_call 13; refine (A.number _ _ _ _ _ _ _ _ _ H11.out).mono ?_; rintro e w11 ⟨rfl, hst⟩; have H12 := Lib.hid hst; clear hst)))
        have HWL := Lib.hid (A.len _ _ _ _ HP.out)
        have HO14 : Hid (out.length ≤ 14) := Lib.hid (by have := HG.out.len; have := H14.out; omega)
        clear u0 u1 u3 H11
        have HS0 : Hid (St w _ [aRow 9 1 (.slice (some ⟨g0, 0, none⟩) 24 cap0) 24 (dev.strs (app (out.take 0) was)), aWrs (.slice uo out.length uc) out, pDev X D', K s' J X]) := Lib.hid (St.re (L := [_, _, _, _]) [1, 0, 2, 3] [] H12.out)
        go_upto_block 2 with fail
        go_cut [14] from 101 to 118 (fun x W => St w W [aRow 9 1 (.slice (some ⟨g0, 0, none⟩) 24 cap0) 24 (dev.strs (app out was)), aWrs (.slice uo out.length uc) out, pDev X D', K s' J X])
        case first =>
          go_wp2_with fail
          go_loopw [14] (fun i W => ∃ j : Nat, j ≤ out.length ∧ i = .int .i64 ↑j ∧ St w W [aRow 9 1 (.slice (some ⟨g0, 0, none⟩) 24 cap0) 24 (dev.strs (app (out.take j) was)), aWrs (.slice uo out.length uc) out, pDev X D', K s' J X]) (fun i _ => out.length - (intOf i).toNat)
          case atStart => exact ⟨0, Nat.zero_le _, rfl, HS0.out⟩
          case round =>
            obtain ⟨j, hj, rfl, hst⟩ := hrel
            clear HS0
            have j3 : (j : Int) ≤ out.length := by omega
            have j4 : (out.length : Int) ≤ 14 := by have := HO14.out; omega
            by_cases hjl : j < out.length
            · obtain ⟨go, co, hv', _⟩ := st_form hst.swap (by omega)
              cases hv'
              have hat := wcells_at2 out j hjl
              have c0 := (st_at hst.swap rfl (j * 2) (by omega)).trans hat.1
              have c1 := (st_at hst.swap rfl (j * 2 + 1) (by omega)).trans hat.2
              have hn24 := (HG.out.each _ (List.getElem_mem hjl)).1
              have HTK : Hid (app (out.take (j + 1)) was = (app (out.take j) was).set (out[j]).1 (out[j]).2) := Lib.hid (flushed_take out was j hjl)
              have HLA : Hid ((app (out.take j) was).length = 24) := Lib.hid (by rw [app_len2]; exact HWL.out)
              have hat0 : (wcells out)[j * 2]? = some (.int .i64 ((out[j]).1 : Int)) := hat.1
              have hat1 : (wcells out)[j * 2 + 1]? = some (.string (out[j]).2) := hat.2
              clear hat
              generalize out[j] = x at c0 c1 hn24 HTK hat0 hat1
              obtain ⟨n1, d1⟩ := x
              have c0 : _ = some (Value.int .i64 (n1 : Int)) := c0
              have c1 : _ = some (Value.string d1) := c1
              have n0 : (n1 : Int) < 24 := by have : n1 < 24 := hn24; omega
              have x0 := (st_at hst rfl n1 (by omega)).trans (strs_at (app (out.take j) was) n1 (by rw [HLA.out]; omega))
              have xf := st_unfrozen hst n1
              have HPT : Hid (St w _ [aRow 9 1 (.slice (some ⟨g0, 0, none⟩) 24 cap0) 24 (dev.strs (app (out.take (j + 1)) was)), aWrs (.slice (some ⟨go, 0, none⟩) out.length uc) out, pDev X D', K s' J X]) := Lib.hid (by
                have := st_put (u := .string d1) (i := n1) hst (by omega)
                rw [strs_set2] at this
                rw [HTK.out]
                exact this)
              have p0 : _ = some (Value.int .i64 (n1 : Int)) := (st_at HPT.out.swap rfl (j * 2) (by omega)).trans hat0
              have p1 : _ = some (Value.string d1) := (st_at HPT.out.swap rfl (j * 2 + 1) (by omega)).trans hat1
              have HJL := Lib.hid hjl
              have j1 : (j : Int) < out.length := by omega
              have e9 : IntKind.i64.wrap ((j : Int) + 1) = (j : Int) + 1 := IntWalk.i64_in _ (by omega)
              generalize (app (out.take j) was)[n1]'_ = y0 at x0
              clear hst hjl hj hat0 hat1 hn24 HTK HLA
              go_upto_region 19 with fail
              go_region_held3 (fun w' => w'.cell? ⟨go, j * 2, none⟩ = some (.int .i64 (n1 : Int)) ∧ w'.cell? ⟨go, j * 2 + 1, none⟩ = some (.string d1)) (go_keep) (fail)
              go_wp2_with fail
              go_roundw
              case rel => exact ⟨j + 1, by have := HJL.out; omega, by go_num, HPT.out.drew⟩
              case measure => simp [intOf] <;> omega
            · obtain rfl : j = out.length := by omega
              have HE : Hid (app (out.take out.length) was = app out was) := Lib.hid (by rw [List.take_length])
              have HST := Lib.hid hst
              clear hst hjl hj
              go_wp2_with fail
              go_meet
              rw [← HE.out]
              exact HST.out
        case rest =>
          have HST := Lib.hid hcut
          clear hcut H12
          have HSM : Hid (∀ W v2, St w W [aRow 9 1 v2 24 (dev.strs (app out was)), aRow 9 1 (.slice (some ⟨g0, 0, none⟩) 24 cap0) 24 (dev.strs (app out was)), pDev X D', K s' J X] → Calls Tryd.prog 25 #[v2, .slice (some ⟨g0, 0, none⟩) 24 cap0] W fun e w' => e = .returned (.bool true) ∧ St w w' [aRow 9 1 (.slice (some ⟨g0, 0, none⟩) 24 cap0) 24 (dev.strs (app out was)), pDev X D', K s' J X]) := Lib.hid fun W v2 h =>
            (rsame_any v2 _ _ _ W (strs_in h) (strs_in h.swap) (by rw [app_len2, HWL.out]; decide) (by rw [app_len2, HWL.out]; decide)).mono fun e w' q => by
              obtain ⟨he, q, rfl⟩ := q
              exact ⟨by rw [he, decide_eq_true rfl], St.re (L := [_, _, _, _]) [1, 2, 3] [0] (h.drewN q)⟩
          have HST := Lib.hid (St.re (L := [_, _, _, _]) [0, 2, 3] [1] HST.out)
          go_wp2_with (first
            | ((go_at_call 17; refine (A.model _ _ _ _ _ _ _ _ H40.out HP2.out HST.out).mono ?_; rintro e w20 ⟨v2, rfl, hst⟩; have H20 := Lib.hid hst; clear hst))
            | ((go_at_call 25; refine (HSM.out _ _ H20.out).mono ?_; rintro e w21 ⟨rfl, hst⟩; have H21 := Lib.hid hst; clear hst)))
          go_roundw
          case rel => exact ⟨k + 1, D', s', app out was, by have := HLT.out; omega, by have := H40.out; omega, by go_num, HP2.out, H21.out⟩
          case measure => simp [intOf] <;> omega
      · have k2 : ¬ (k : Int) < 40 := by omega
        clear hst hlt h40 hk hk40 hp
        go_wp2_with fail
        go_ret
        exact ⟨rfl, St.re (L := [_, _, _]) [] [0, 1, 2] HST.out⟩
    · have k1 : ¬ (k : Int) < l.length := by omega
      clear hst hlt hk hk40 hp
      go_wp2_with fail
      go_ret
      exact ⟨rfl, St.re (L := [_, _, _]) [] [0, 1, 2] HST.out⟩
end
end Go.Proofs.YtjmjmekmaamclaaDoor.jrn
/-
  Layer 5: what comes in: slices of puts, slices of such slices, a crash.
-/
namespace Go.Proofs.YtjmjmekmaamclaaDoor.jrn
open Go.ChangeShapes Go.WideShapes Go.ChangeAt Go.RowKit Go.Deep mem dev
set_option linter.unusedVariables false

theorem cells70 : Tryd.prog.cellsOf 94 = 2 := by kernel_rfl
theorem bytes70 : 8 ≤ Tryd.prog.bytesOf 94 := of_decide_eq_true (by kernel_rfl)
theorem cells45 : Tryd.prog.cellsOf 45 = 1 := by kernel_rfl
theorem bytes45 : 8 ≤ Tryd.prog.bytesOf 45 := of_decide_eq_true (by kernel_rfl)
theorem laidOut : laidOutB Tryd.prog = true := by kernel_rfl
theorem cells3 : Tryd.prog.cellsOf 3 = 1 := by kernel_rfl
theorem bytes3 : Tryd.prog.bytesOf 3 = 8 := by kernel_rfl
theorem cells40 : Tryd.prog.cellsOf 48 = 3 := by kernel_rfl

/-- nothing in it is greater than memory -/
def Fits {H : Type} (t : TypeId) (d : DataW H) : Prop := ∀ n ∈ d.weights Tryd.prog t, n ≤ 140737488351232
theorem fits_of {H : Type} {ts : List TypeId} {ds : List (DataW H)} (h : (DataW.weightsEach Tryd.prog ts ds).all (· ≤ reachBytes) = true) {j : Nat} {t : TypeId} {d : DataW H} (ht : ts[j]? = some t) (hd : ds[j]? = some d) : Fits t d := fun n hn => by
  have := List.all_eq_true.1 h n (DataW.weights_mem_each ht hd n hn)
  exact of_decide_eq_true this
theorem fits_part {H : Type} {t t' : TypeId} {fs : Array Field} {parts : List (DataW H)} {d : DataW H} (hu : Tryd.prog.underlying t = some (.struct fs)) (h : Fits t (.agg parts)) {j : Nat} (ht : (fs.toList.map (·.type))[j]? = some t') (hd : parts[j]? = some d) : Fits t' d := fun n hn => h n (by
  simp only [DataW.weights, hu]
  exact DataW.weights_mem_each ht hd n hn)
theorem weights_all {H : Type} {e : TypeId} {d : DataW H} {n : Nat} : ∀ {l : List (DataW H)}, d ∈ l → n ∈ d.weights Tryd.prog e → n ∈ DataW.weightsAll Tryd.prog e l
  | x :: l, h, hn => by
    simp only [DataW.weightsAll, List.mem_append]
    rcases List.mem_cons.1 h with rfl | h
    · exact .inl hn
    · exact .inr (weights_all h hn)
theorem fits_elem {H : Type} {t e : TypeId} {elems spare : List (DataW H)} {d : DataW H} (hu : Tryd.prog.underlying t = some (.slice e)) (h : Fits t (.slice elems spare)) (hd : d ∈ elems) : Fits e d := fun n hn => h n (by
  simp only [DataW.weights, hu, List.mem_cons, List.mem_append]
  exact .inr (.inl (weights_all hd hn)))
theorem fits_len {H : Type} {t e : TypeId} {elems spare : List (DataW H)} (hu : Tryd.prog.underlying t = some (.slice e)) (h : Fits t (.slice elems spare)) (hb : 8 ≤ Tryd.prog.bytesOf e) : elems.length ≤ 17592186043904 := by
  have := h ((elems.length + spare.length) * Tryd.prog.bytesOf e) (by simp [DataW.weights, hu])
  have h2 : (elems.length + spare.length) * 8 ≤ (elems.length + spare.length) * Tryd.prog.bytesOf e := Nat.mul_le_mul_left _ hb
  omega

theorem wf64 {n : Int} (h : (Lit.int .i64 n).wf = true) : InI64 n := by
  have : -9223372036854775808 ≤ n ∧ n ≤ 9223372036854775807 := by simpa [Lit.wf, IntKind.min, IntKind.max, IntKind.signed, IntKind.bits] using h
  exact this
theorem wf8 {n : Int} (h : (Lit.int .u8 n).wf = true) : 0 ≤ n ∧ n ≤ 255 := by
  simpa [Lit.wf, IntKind.min, IntKind.max, IntKind.signed, IntKind.bits] using h
theorem no_spot {W : World} {a : Addr} {u : Value} (h : W.cell? (a.add 0) = some u) : a.spot = none := by
  rw [show a.add 0 = a from rfl] at h
  cases hs : a.spot with
  | none => rfl
  | some s => unfold World.cell? at h; split at h <;> simp [hs] at h
theorem addp (b o n : Nat) : (⟨b, o, none⟩ : Addr).add n = ⟨b, o + n, none⟩ := by unfold Addr.add; split <;> simp_all

section
variable {H : Type} {enc : TypeId × Value → H} {W : World} {fuel : Nat} {cs : List Value} {x : DataW H × List MemPlace}

theorem ints_open (h : DataW.trod enc Tryd.prog W 0 (fun _ => true) true fuel 46 cs = some x) (hf : Fits 46 x.1) :
    ∃ v ks, cs = [v] ∧ IntsIn W v ks ∧ ks.length ≤ 17592186043904 ∧ ∀ k ∈ ks, InI64 k := by
  rcases open_ints Tryd.underlying46 Tryd.underlying3 cells3 h with ⟨hcs, hx⟩ | ⟨a, len, cap, zs, hcs, _, hl, hm, hzl, hx, hcell, hwf⟩
  · exact ⟨_, [], hcs, ⟨none, 0, rfl, fun i hi => absurd hi (by simp)⟩, by simp, fun k hk => by cases hk⟩
  · have hzc : zs.length = cap := hzl
    have hlen : (zs.take len).length = len := by rw [List.length_take]; omega
    refine ⟨_, zs.take len, hcs, ⟨some a, cap, by rw [hlen], fun i hi => ?_⟩, ?_, fun k hk => wf64 (hwf k (List.mem_of_mem_take hk))⟩
    · rw [hlen] at hi
      have hsp := no_spot (hcell 0 (by omega))
      obtain ⟨ab, ao, asp⟩ := a
      simp only at hsp
      subst hsp
      refine ⟨ab, ao, rfl, ?_⟩
      have := hcell i (by omega)
      rw [addp] at this
      rw [this, List.getElem_take, List.getD_eq_getElem?_getD, List.getElem?_eq_getElem (by omega)]
      rfl
    · rw [hx] at hf
      have := fits_len Tryd.underlying46 hf (by rw [bytes3]; exact Nat.le_refl _)
      simp only [lits, List.length_map] at this
      exact this

set_option maxRecDepth 16000 in
theorem crash_open (h : DataW.trod enc Tryd.prog W 0 (fun _ => true) true fuel 48 cs = some x) (hf : Fits 48 x.1) :
    ∃ kv ks torn, ∃ mask : Nat, cs = [kv, .int .i64 torn, .int .u8 (mask : Int)] ∧ IntsIn W kv ks ∧ CrashOk ks torn mask := by
  obtain ⟨xs, m, _, hx, hl, hxl, hfld⟩ := DataW.trod_struct Tryd.underlying48 h
  rw [cells40] at hl
  match cs, hl with
  | [c0, c1, c2], _ =>
    match xs, hxl with
    | [y0, y1, y2], _ =>
      have g0 : DataW.trod enc Tryd.prog W 0 (fun _ => true) true m 46 [c0] = some y0 := hfld 0 _ rfl
      have g1 : DataW.trod enc Tryd.prog W 0 (fun _ => true) true m 3 [c1] = some y1 := hfld 1 _ rfl
      have g2 : DataW.trod enc Tryd.prog W 0 (fun _ => true) true m 5 [c2] = some y2 := hfld 2 _ rfl
      rw [hx] at hf
      have f0 : Fits 46 y0.1 := fits_part (j := 0) Tryd.underlying48 hf rfl rfl
      obtain ⟨v, ks, e0, hi, hk1, hk2⟩ := ints_open g0 f0
      obtain ⟨k1, e1, _, w1⟩ := DataW.trod_int Tryd.underlying3 g1
      obtain ⟨k2, e2, _, w2⟩ := DataW.trod_int Tryd.underlying5 g2
      simp only [List.cons.injEq, and_true] at e0 e1 e2
      subst e0 e1 e2
      have b2 := wf8 w2
      exact ⟨c0, ks, k1, k2.toNat, by rw [show ((k2.toNat : Nat) : Int) = k2 from by omega], hi, ⟨hk2, hk1, wf64 w1, by omega⟩⟩

set_option maxRecDepth 16000 in
theorem put_open (h : DataW.trod enc Tryd.prog W 0 (fun _ => true) true fuel 94 cs = some x) :
    ∃ p : Int × ByteArray, cs = [.int .i64 p.1, .string p.2] ∧ InI64 p.1 ∧ p.2.size ≤ 9223372036854775807 := by
  obtain ⟨xs, m, _, hx, hl, hxl, hfld⟩ := DataW.trod_struct Tryd.underlying94 h
  rw [cells70] at hl
  match cs, hl with
  | [c0, c1], _ =>
    match xs, hxl with
    | [y0, y1], _ =>
      have g0 : DataW.trod enc Tryd.prog W 0 (fun _ => true) true m 3 [c0] = some y0 := hfld 0 _ rfl
      have g1 : DataW.trod enc Tryd.prog W 0 (fun _ => true) true m 9 [c1] = some y1 := hfld 1 _ rfl
      obtain ⟨k0, e0, _, w0⟩ := DataW.trod_int Tryd.underlying3 g0
      obtain ⟨s1, e1, _, w1⟩ := DataW.trod_string Tryd.underlying9 g1
      simp only [List.cons.injEq, and_true] at e0 e1
      subst e0 e1
      exact ⟨(k0, s1), rfl, wf64 w0, by unfold maxLen at w1; exact w1⟩

theorem puts_open (h : DataW.trod enc Tryd.prog W 0 (fun _ => true) true fuel 45 cs = some x) (hf : Fits 45 x.1) :
    ∃ v l, cs = [v] ∧ PutsIn W v l ∧ PutsOk l := by
  rcases open_slice Tryd.underlying45 h with ⟨hcs, hx⟩ | ⟨a, len, cap, m, n, D, Pl, hcs, _, hl, hm, hmm, hx, hi⟩
  · exact ⟨_, [], hcs, ⟨none, 0, rfl, fun i hi => absurd hi (by simp)⟩, ⟨by simp, fun x hx => by cases hx⟩⟩
  · have hmc : m = cap := hmm
    rw [hx] at hf
    rw [cells70] at hi
    have each : ∀ i, i < len → ∃ p : Int × ByteArray, (InI64 p.1 ∧ p.2.size ≤ 9223372036854775807) ∧ W.cell? (a.add (i * 2 + 0)) = some (.int .i64 p.1) ∧ W.cell? (a.add (i * 2 + 1)) = some (.string p.2) := by
      intro i hil
      obtain ⟨cs', hc, ht⟩ := hi i (by omega)
      obtain ⟨p, e, ho⟩ := put_open ht
      obtain ⟨_, hlc, hcell⟩ := World.cells?_some hc
      subst e
      have h0 := hcell 0 (by omega)
      have h1 := hcell 1 (by omega)
      rw [add_add] at h0 h1
      exact ⟨p, ho, h0, h1⟩
    let f : Nat → Int × ByteArray := fun i => if hil : i < len then Classical.choose (each i hil) else (0, empty)
    have hf2 : ∀ i, i < len → (InI64 (f i).1 ∧ (f i).2.size ≤ 9223372036854775807) ∧ W.cell? (a.add (i * 2 + 0)) = some (.int .i64 (f i).1) ∧ W.cell? (a.add (i * 2 + 1)) = some (.string (f i).2) := fun i hil => by
      show (InI64 (dite _ _ _ : Int × ByteArray).1 ∧ (dite _ _ _ : Int × ByteArray).2.size ≤ _) ∧ _
      simp only [f, dif_pos hil]
      exact Classical.choose_spec (each i hil)
    clear_value f
    have hll : ((List.range len).map f).length = len := by simp
    refine ⟨_, (List.range len).map f, hcs, ⟨some a, cap, by rw [hll], fun i hi2 => ?_⟩, ⟨?_, fun o ho => ?_⟩⟩
    · rw [hll] at hi2
      have h0 := (hf2 0 (by omega)).2.1
      have hsp := no_spot h0
      obtain ⟨ab, ao, asp⟩ := a
      simp only at hsp
      subst hsp
      obtain ⟨h1, h2, h3⟩ := hf2 i hi2
      have ei : ((List.range len).map f)[i]'(by rw [hll]; exact hi2) = f i := by simp
      rw [ei]
      rw [addp] at h2 h3
      exact ⟨ab, ao, rfl, h2, h3⟩
    · have := fits_len Tryd.underlying45 hf bytes70
      simpa using this
    · obtain ⟨i, hi2, rfl⟩ := List.mem_map.1 ho
      exact (hf2 i (List.mem_range.1 hi2)).1

theorem putss_open (h : DataW.trod enc Tryd.prog W 0 (fun _ => true) true fuel 59 cs = some x) (hf : Fits 59 x.1) :
    ∃ v l, cs = [v] ∧ PutssIn W v l ∧ l.length ≤ 17592186043904 ∧ ∀ ps ∈ l, PutsOk ps := by
  rcases open_slice Tryd.underlying59 h with ⟨hcs, hx⟩ | ⟨a, len, cap, m, n, D, Pl, hcs, _, hl, hm, hmm, hx, hi⟩
  · exact ⟨_, [], hcs, ⟨none, 0, rfl, fun i hi => absurd hi (by simp)⟩, by simp, fun x hx => by cases hx⟩
  · have hmc : m = cap := hmm
    rw [hx] at hf
    rw [cells45] at hi
    have each : ∀ i, i < len → ∃ q : List (Int × ByteArray) × Value, PutsOk q.1 ∧ PutsIn W q.2 q.1 ∧ W.cell? (a.add i) = some q.2 := by
      intro i hil
      obtain ⟨cs', hc, ht⟩ := hi i (by omega)
      obtain ⟨v, l, e, hk, ho⟩ := puts_open ht (fits_elem Tryd.underlying59 hf (List.mem_map.2 ⟨i, List.mem_range.2 hil, rfl⟩))
      obtain ⟨_, hlc, hcell⟩ := World.cells?_some hc
      subst e
      have h0 := hcell 0 (by omega)
      rw [add_add] at h0
      simp only [Nat.mul_one, Nat.add_zero] at h0
      exact ⟨(l, v), ho, hk, h0⟩
    let f : Nat → List (Int × ByteArray) × Value := fun i => if hil : i < len then Classical.choose (each i hil) else ([], .slice none 0 0)
    have hf2 : ∀ i, i < len → PutsOk (f i).1 ∧ PutsIn W (f i).2 (f i).1 ∧ W.cell? (a.add i) = some (f i).2 := fun i hil => by
      show PutsOk (dite _ _ _ : List (Int × ByteArray) × Value).1 ∧ PutsIn W (dite _ _ _ : List (Int × ByteArray) × Value).2 (dite _ _ _ : List (Int × ByteArray) × Value).1 ∧ _
      simp only [f, dif_pos hil]
      exact Classical.choose_spec (each i hil)
    clear_value f
    have hll : ((List.range len).map fun i => (f i).1).length = len := by simp
    refine ⟨_, (List.range len).map fun i => (f i).1, hcs, ⟨some a, cap, by rw [hll], fun i hi2 => ?_⟩, ?_, fun o ho => ?_⟩
    · rw [hll] at hi2
      have h0 := (hf2 0 (by omega)).2.2
      have hsp := no_spot h0
      obtain ⟨ab, ao, asp⟩ := a
      simp only at hsp
      subst hsp
      obtain ⟨h1, h2, h3⟩ := hf2 i hi2
      have ei : ((List.range len).map fun i => (f i).1)[i]'(by rw [hll]; exact hi2) = (f i).1 := by simp
      rw [ei]
      rw [addp] at h3
      exact ⟨ab, ao, (f i).2, rfl, h3, h2⟩
    · have := fits_len Tryd.underlying59 hf bytes45
      simpa using this
    · obtain ⟨i, hi2, rfl⟩ := List.mem_map.1 ho
      exact (hf2 i (List.mem_range.1 hi2)).1
end
end Go.Proofs.YtjmjmekmaamclaaDoor.jrn
