/-
  Layer 5, the law: puts: a transaction that may be, out of any puts.
-/
import Derived.Test.YtjmjmekmaamclaaDoorMI
import Derived.Test.YtjmjmekmaamclaaDoorDevP
import Derived.Test.YtjmjmekmaamclaaDoorMJ
import Derived.Test.YtjmjmekmaamclaaDoorDG
import Derived.Test.YtjmjmekmaamclaaDoorDrvI
import Derived.Test.YtjmjmekmaamclaaDoorDrvG
import Derived.Test.YtjmjmekmaamclaaDoorDevQ
namespace Go.Proofs.YtjmjmekmaamclaaDoor.jrn
open Go.ChangeShapes Go.WideShapes Go.ChangeAt Go.RowKit mem dev sums
set_option linter.unusedVariables false
def PutsIn (W : World) (v : Value) (ps : List (Int × ByteArray)) : Prop :=
  ∃ ao cap, v = .slice ao ps.length cap ∧ ∀ i (hi : i < ps.length), ∃ b o, ao = some ⟨b, o, none⟩ ∧ W.cell? ⟨b, o + i * 2, none⟩ = some (.int .i64 (ps[i]).1) ∧ W.cell? ⟨b, o + i * 2 + 1, none⟩ = some (.string (ps[i]).2)
theorem PutsIn.kept {w W : World} {v : Value} {ps : List (Int × ByteArray)} (h : PutsIn w v ps) (hc : Ch (fun _ => False) w W) : PutsIn W v ps := by
  obtain ⟨ao, cap, rfl, h⟩ := h
  exact ⟨ao, cap, rfl, fun i hi => by obtain ⟨b, o, e, h1, h2⟩ := h i hi; exact ⟨b, o, e, hc.cell h1, hc.cell h2⟩⟩
structure PutsOk (ps : List (Int × ByteArray)) : Prop where
  len : ps.length ≤ 17592186043904
  each : ∀ x ∈ ps, InI64 x.1 ∧ x.2.size ≤ 9223372036854775807
def putQ (ln : Nat) (b : Int) : Nat := ((b.tmod ((24 - ln : Nat) : Int) + ((24 - ln : Nat) : Int)).tmod ((24 - ln : Nat) : Int)).toNat
def putAt (ln : Nat) (b : Int) : Nat := if 3 ≤ putQ ln b then putQ ln b + ln else putQ ln b
def putStep (ln z : Nat) (out : List Wr) (x : Int × ByteArray) : List Wr := if putAt ln x.1 ∈ out.map Prod.fst then out else out ++ [(putAt ln x.1, fillM x.2 z)]
def putsM (ln z : Nat) : List (Int × ByteArray) → List Wr → List Wr
  | [], out => out
  | x :: l, out => if out.length < ln - 4 then putsM ln z l (putStep ln z out x) else out
theorem tmod_facts (M : Nat) (hM : 0 < M) (b : Int) : -(M : Int) < b.tmod M ∧ b.tmod M < M ∧ 0 ≤ (b.tmod M + M).tmod M ∧ (b.tmod M + M).tmod M < M := by
  have hm : (0 : Int) < M := by omega
  have h1 : b.tmod M < M := Int.tmod_lt_of_pos b hm
  have h2 : -(M : Int) < b.tmod M := by
    have := Int.tmod_lt_of_pos (-b) hm
    rw [Int.neg_tmod] at this
    omega
  have h3 : 0 ≤ b.tmod M + M := by omega
  exact ⟨h2, h1, Int.tmod_nonneg _ h3, Int.tmod_lt_of_pos _ hm⟩
theorem putQ_lt (ln : Nat) (h : ln < 24) (b : Int) : putQ ln b < 24 - ln := by
  have := tmod_facts (24 - ln) (by omega) b
  unfold putQ
  omega
theorem putAt_ok (ln : Nat) (h1 : 6 ≤ ln) (h : ln < 24) (b : Int) : putAt ln b < 24 ∧ ¬ (3 ≤ putAt ln b ∧ putAt ln b < 3 + ln) := by
  have := putQ_lt ln h b
  unfold putAt
  split <;> omega
structure PutsGood (ln z : Nat) (out : List Wr) : Prop where
  len : out.length ≤ ln - 4
  each : ∀ x ∈ out, x.1 < 24 ∧ ¬ (3 ≤ x.1 ∧ x.1 < 3 + ln) ∧ x.2.size = z
  nodup : (out.map Prod.fst).Nodup
theorem putStep_good {ln z : Nat} (h1 : 6 ≤ ln) (h : ln < 24) {out : List Wr} (g : PutsGood ln z out) (hl : out.length < ln - 4) (x : Int × ByteArray) : PutsGood ln z (putStep ln z out x) := by
  unfold putStep
  split
  · exact g
  · rename_i hn
    refine ⟨by rw [List.length_append]; simp; omega, fun y hy => ?_, ?_⟩
    · rcases List.mem_append.1 hy with k | k
      · exact g.each y k
      · rw [List.mem_singleton.1 k]
        have := putAt_ok ln h1 h x.1
        exact ⟨this.1, this.2, fillM_size _ _⟩
    · rw [List.map_append, List.nodup_append]
      refine ⟨g.nodup, by simp, fun a ha b hb => ?_⟩
      rw [List.mem_singleton.1 hb]
      rintro rfl
      exact hn ha
theorem putsM_good {ln z : Nat} (h1 : 6 ≤ ln) (h : ln < 24) : ∀ (l : List (Int × ByteArray)) {out : List Wr}, PutsGood ln z out → PutsGood ln z (putsM ln z l out)
  | [], _, g => g
  | x :: l, out, g => by
    unfold putsM
    split
    · rename_i hl
      exact putsM_good h1 h l (putStep_good h1 h g hl x)
    · exact g
theorem putsGood_nil (ln z : Nat) : PutsGood ln z [] := ⟨Nat.zero_le _, fun x hx => (by cases hx), List.nodup_nil⟩
/-- the region of the laws -/
abbrev lawR (ln ns : Nat) : Rg := ⟨3, ln, 24, ns⟩
theorem lawR_ok (ln ns : Nat) (h1 : 6 ≤ ln) (h2 : ln ≤ 14) (h3 : 1 ≤ ns) (h4 : ns ≤ 8) : (lawR ln ns).Ok := ⟨h1, by show 3 + ln ≤ 24; omega, by show 24 ≤ 4096; omega, h3, h4, by show ln ≤ 100; omega⟩
theorem puts_valid {ln ns : Nat} {out : List Wr} (h1 : 6 ≤ ln) (g : PutsGood ln (512 * ns) out) : out = [] ∨ ValidW (lawR ln ns) out := by
  by_cases c : out = []
  · exact .inl c
  · exact .inr ⟨c, by show out.length + 4 ≤ ln; have := g.len; omega, fun x hx => by have := g.each x hx; exact ⟨this.1, this.2.1, this.2.2⟩, g.nodup⟩
theorem lit_anyP (W : World) (cs : List Value) (ty : TypeId) : ∀ j u, cs[j]? = some u → (W.alloc (.cells cs.toArray ty)).cell? ((⟨W.heap.size, 0, none⟩ : Addr).add j) = some u := by
  intro j u hj
  rw [Addr.add_mid, Nat.zero_add, cell_of_row _ _ _ _ _ _ (heap_alloc_new W _)]
  simpa using hj
theorem oneP (a b : Value) (h1 : a.oneCell' = true) (h2 : b.oneCell' = true) : ∀ u ∈ [a, b], u.oneCell' = true := by
  intro u hu
  simp only [List.mem_cons, List.not_mem_nil, or_false] at hu
  rcases hu with rfl | rfl <;> assumption
section
variable {w wr : World} {As : List Ast}
set_option maxHeartbeats 2000000 in
set_option maxRecDepth 8000 in
theorem lputs_st (h : St w wr As) (ps : List (Int × ByteArray)) (v : Value) (hv : PutsIn w v ps) (ok : PutsOk ps) (ln z : Nat) (h6 : 6 ≤ ln) (h14 : ln ≤ 14) (hz1 : 1 ≤ z) (hz2 : z ≤ 4096) :
    Calls Tryd.prog 18 #[v, .int .i64 (ln : Int), .int .i64 (z : Int)] wr fun e w' => ∃ u, e = .returned u ∧ St w w' (aWrs u (putsM ln z ps []) :: As) := by
  obtain ⟨ao, cap, rfl, hc⟩ := hv
  have HC := Lib.hid hc
  have HOK := Lib.hid ok
  have H0 : Hid (St w wr (aWrs (.slice none 0 0) [] :: As)) := Lib.hid (st_pushrow h)
  have p0 : (ps.length : Int) ≤ 17592186043904 := by have := ok.len; omega
  have l1 : (6 : Int) ≤ ln := by omega
  have l2 : (ln : Int) ≤ 14 := by omega
  have e0 : IntKind.i64.wrap ((ln : Int) - 4) = (ln : Int) - 4 := IntWalk.i64_in _ (by omega)
  have HM0 : Hid (putsM ln z ps [] = putsM ln z (ps.drop 0) []) := Lib.hid (by rw [List.drop_zero])
  have HG0 := Lib.hid (putsGood_nil ln z)
  have H6 := Lib.hid h6
  have H14 := Lib.hid h14
  have HZ1 := Lib.hid hz1
  have HZ2 := Lib.hid hz2
  clear h hc ok h6 h14 hz1 hz2
  go_enter Tryd.func18, Tryd.ntmps18
  go_wp2_with fail
  go_loopw [7, 8] (fun u i W => ∃ (k : Nat) (out : List Wr), k ≤ ps.length ∧ i = .int .i64 ↑k ∧ PutsGood ln z out ∧ putsM ln z ps [] = putsM ln z (ps.drop k) out ∧ St w W (aWrs u out :: As)) (fun _ i _ => ps.length - (intOf i).toNat)
  case atStart => exact ⟨0, [], Nat.zero_le _, rfl, HG0.out, HM0.out, H0.out⟩
  case round =>
    obtain ⟨k, out, hk, rfl, hg, hm, hst⟩ := hrel
    clear H0 HM0 HG0
    obtain ⟨so, sc, rfl⟩ := st_shape hst
    by_cases hlt : k < ps.length
    · by_cases hout : out.length < ln - 4
      · obtain ⟨b, o, rfl, hc0, hc1⟩ := HC.out k hlt
        have c0 := hst.ch.cell hc0
        have hxk := HOK.out.each _ (List.getElem_mem hlt)
        have HD : Hid (ps.drop k = ps[k] :: ps.drop (k + 1)) := Lib.hid (List.drop_eq_getElem_cons hlt)
        have HM := Lib.hid hm
        have HG := Lib.hid hg
        have HLT := Lib.hid hlt
        have HOUT := Lib.hid hout
        have HST := Lib.hid hst
        generalize ps[k] = x at hc0 hc1 c0 hxk HD
        obtain ⟨pb, pd⟩ := x
        have hxk : InI64 pb ∧ pd.size ≤ 9223372036854775807 := hxk
        have c0 : wr.cell? ⟨b, o + k * 2, none⟩ = some (.int .i64 pb) := c0
        have HC1 : Hid (w.cell? ⟨b, o + k * 2 + 1, none⟩ = some (.string pd)) := Lib.hid hc1
        obtain ⟨M, hM⟩ : ∃ M, M = 24 - ln := ⟨_, rfl⟩
        have h6 := H6.out
        have h14 := H14.out
        obtain ⟨f1, f2, f3, f4⟩ := tmod_facts M (by omega) pb
        obtain ⟨q, hq⟩ : ∃ q : Nat, (pb.tmod M + M).tmod M = (q : Int) := ⟨_, (Int.toNat_of_nonneg f3).symm⟩
        have hqq : putQ ln pb = q := by unfold putQ; rw [← hM, hq]; rfl
        have hq4 : q < M := by omega
        have HAT : Hid (putAt ln pb = if 3 ≤ q then q + ln else q) := Lib.hid (by unfold putAt; rw [hqq])
        have HXK := Lib.hid hxk
        have k1 : (k : Int) < ps.length := by omega
        have k2 : (k : Int) ≤ 17592186043904 := by omega
        have o1 : (out.length : Int) < (ln : Int) - 4 := by omega
        have o2 : (out.length : Int) ≤ 14 := by omega
        have e1 : IntKind.i64.wrap (24 - (ln : Int)) = (M : Int) := by rw [IntWalk.i64_in _ (by omega)]; omega
        have m0 : ¬ (M : Int) = 0 := by omega
        have e2 : IntKind.i64.wrap (pb.tmod M) = pb.tmod M := IntWalk.i64_in _ (by omega)
        have e3 : IntKind.i64.wrap (pb.tmod M + 24) = pb.tmod M + 24 := IntWalk.i64_in _ (by omega)
        have e4 : IntKind.i64.wrap (pb.tmod M + 24 - ln) = pb.tmod M + M := by rw [IntWalk.i64_in _ (by omega)]; omega
        have e6 : IntKind.i64.wrap ((q : Int) + ln) = (q : Int) + ln := IntWalk.i64_in _ (by omega)
        have e7 : IntKind.i64.wrap (q : Int) = (q : Int) := IntWalk.i64_in _ (by omega)
        have e8 : IntKind.i64.wrap ((k : Int) + 1) = (k : Int) + 1 := IntWalk.i64_in _ (by omega)
        clear hk hm hg hlt hout hc0 hc1 hxk f1 f2 f3 f4 hqq hq4 hM h6 h14 hst
        go_upto_if 40 with fail
        go_cut [9] from 9 to 43 (fun x W => x = .int .i64 (putAt ln pb : Nat) ∧ St w W (aWrs (.slice so out.length sc) out :: As))
        case first =>
          by_cases h3 : 3 ≤ q
          · have g3 : (3 : Int) ≤ q := by omega
            have HA3 : Hid (putAt ln pb = q + ln) := Lib.hid (by rw [HAT.out, if_pos h3])
            clear h3
            go_wp2_with fail
            go_meet
            exact ⟨by rw [HA3.out]; rfl, HST.out⟩
          · have g3 : ¬ (3 : Int) ≤ q := by omega
            have HA3 : Hid (putAt ln pb = q) := Lib.hid (by rw [HAT.out, if_neg h3])
            clear h3
            go_wp2_with fail
            go_meet
            exact ⟨by rw [HA3.out], HST.out⟩
        case rest =>
          obtain ⟨rfl, hst⟩ := hcut
          have HN24 : Hid (putAt ln pb < 24) := Lib.hid (putAt_ok ln H6.out (by have := H14.out; omega) pb).1
          have HSTEP : Hid (putStep ln z out (pb, pd) = if putAt ln pb ∈ out.map Prod.fst then out else out ++ [(putAt ln pb, fillM pd z)]) := Lib.hid rfl
          clear e1 m0 e2 e3 e4 e6 e7 HAT hq c0 HST
          generalize putAt ln pb = n at HN24 HSTEP ⊢
          have HST := Lib.hid hst
          clear hst
          go_upto_block 2 with fail
          go_cut [10] from 10 to 59 (fun x W => x = .bool (decide (n ∈ out.map Prod.fst)) ∧ St w W (aWrs (.slice so out.length sc) out :: As))
          case first =>
            go_wp2_with fail
            go_loopw [10, 11] (fun x i W => ∃ j : Nat, j ≤ out.length ∧ i = .int .i64 ↑j ∧ x = .bool (decide (n ∈ (out.take j).map Prod.fst)) ∧ St w W (aWrs (.slice so out.length sc) out :: As)) (fun _ i _ => out.length - (intOf i).toNat)
            case atStart => exact ⟨0, Nat.zero_le _, rfl, rfl, HST.out⟩
            case round =>
              obtain ⟨j, hj, rfl, rfl, hst⟩ := hrel
              clear HST
              by_cases hjl : j < out.length
              · obtain ⟨g, cap', hv', _⟩ := st_form hst (by omega)
                cases hv'
                have x0 := (st_at hst rfl (j * 2) (by omega)).trans (wcells_at out j hjl).1
                have HTK : Hid (n ∈ (out.take (j + 1)).map Prod.fst ↔ n ∈ (out.take j).map Prod.fst ∨ n = out[j].1) := Lib.hid (by
                  rw [List.take_succ_eq_append_getElem hjl, List.map_append, List.mem_append]; simp)
                have j1 : (j : Int) < out.length := by omega
                have j2 : (j : Int) ≤ 14 := by omega
                have e9 : IntKind.i64.wrap ((j : Int) + 1) = (j : Int) + 1 := IntWalk.i64_in _ (by omega)
                have HJL := Lib.hid hjl
                have HST := Lib.hid hst
                generalize out[j].1 = m at x0 HTK
                clear hst hj hjl
                by_cases hin : n ∈ (out.take j).map Prod.fst
                · rw [decide_eq_true hin]
                  have HR : Hid (decide (n ∈ (out.take (j + 1)).map Prod.fst) = true) := Lib.hid (decide_eq_true (HTK.out.2 (.inl hin)))
                  clear hin
                  go_wp2_with fail
                  go_roundw
                  case rel => exact ⟨j + 1, by have := HJL.out; omega, by go_num, by rw [HR.out], HST.out⟩
                  case measure => simp [intOf] <;> omega
                · rw [decide_eq_false hin]
                  by_cases hmn : m = n
                  · have q1 : ((m : Int) == (n : Int)) = true := by rw [beq_iff_eq, hmn]
                    have HR : Hid (decide (n ∈ (out.take (j + 1)).map Prod.fst) = true) := Lib.hid (decide_eq_true (HTK.out.2 (.inr hmn.symm)))
                    clear hin hmn
                    go_wp2_with fail
                    go_roundw
                    case rel => exact ⟨j + 1, by have := HJL.out; omega, by go_num, by rw [HR.out], HST.out⟩
                    case measure => simp [intOf] <;> omega
                  · have q1 : ((m : Int) == (n : Int)) = false := by rw [beq_eq_false_iff_ne]; omega
                    have HR : Hid (decide (n ∈ (out.take (j + 1)).map Prod.fst) = false) := Lib.hid (decide_eq_false (fun h => by rcases HTK.out.1 h with h | h; exact hin h; exact hmn h.symm))
                    clear hin hmn
                    go_wp2_with fail
                    go_roundw
                    case rel => exact ⟨j + 1, by have := HJL.out; omega, by go_num, by rw [HR.out], HST.out⟩
                    case measure => simp [intOf] <;> omega
              · obtain rfl : j = out.length := by omega
                rw [List.take_of_length_le (Nat.le_refl _)]
                have HST := Lib.hid hst
                clear hst hjl hj
                go_wp2_with fail
                go_meet
                exact ⟨rfl, HST.out⟩
          case rest =>
            obtain ⟨rfl, hst⟩ := hcut
            clear HST
            have c1 := hst.ch.cell HC1.out
            have HST := Lib.hid hst
            have HMS : Hid (putsM ln z ps [] = putsM ln z (ps.drop (k + 1)) (putStep ln z out (pb, pd))) := Lib.hid (by
              rw [HM.out, HD.out]
              show (if out.length < ln - 4 then _ else _) = _
              rw [if_pos HOUT.out])
            have HGS := Lib.hid (putStep_good (z := z) H6.out (by have := H14.out; omega) HG.out HOUT.out (pb, pd))
            clear hst
            by_cases hin : n ∈ out.map Prod.fst
            · rw [decide_eq_true hin]
              have HS2 : Hid (putStep ln z out (pb, pd) = out) := Lib.hid (by rw [HSTEP.out, if_pos hin])
              clear hin
              go_wp2_with fail
              go_roundw
              case rel => exact ⟨k + 1, out, by have := HLT.out; omega, by go_num, HG.out, by rw [HMS.out, HS2.out], HST.out⟩
              case measure => simp [intOf] <;> omega
            · rw [decide_eq_false hin]
              have HS2 : Hid (putStep ln z out (pb, pd) = out ++ [(n, fillM pd z)]) := Lib.hid (by rw [HSTEP.out, if_neg hin])
              have HFL : Hid (∀ W, Calls Tryd.prog 15 #[.string pd, .int .i64 (z : Int)] W fun e w' => e = .returned (.string (fillM pd z)) ∧ W = w') := Lib.hid fun W => rfill_any pd z HZ1.out HZ2.out HXK.out.2 W
              generalize fillM pd z = fd at HS2 HFL
              clear hin HSTEP
              go_wp2_with (first
                | ((go_at_call 15; refine (HFL.out _).mono ?_; rintro e w7 ⟨rfl, rfl⟩))
                | ((refine lst_append rowWr (HST.out.alloc (.cells #[.int .i64 (n : Int), .string fd] 39)) rfl _ _ rfl rfl ⟨wc.heap.size, 0, none⟩ 1 1 [.int .i64 (n : Int), .string fd] rfl rfl (lit_anyP wc _ _) (oneP _ _ rfl rfl) (by decide) (by have := HG.out.len; have := H14.out; unfold maxLen; omega) (by have := HG.out.len; have := H14.out; omega) ?_; intro g6 cap6 w8 hst _; have HS8 := Lib.hid hst; clear hst)))
              go_roundw
              case rel => exact ⟨k + 1, out ++ [(n, fd)], by have := HLT.out; omega, by go_num, by have := HGS.out; rw [HS2.out] at this; exact this, by rw [HMS.out, HS2.out], by
                have h8 := HS8.out
                unfold aWrs
                rw [List.length_append, List.length_singleton, wcells_append]
                exact h8⟩
              case measure => simp [intOf] <;> omega
      · have o1 : ¬ (out.length : Int) < (ln : Int) - 4 := by omega
        have o2 : (out.length : Int) ≤ 14 := by have := hg.len; omega
        have k1 : (k : Int) < ps.length := by omega
        have HE : Hid (putsM ln z ps [] = out) := Lib.hid (by
          rw [hm, List.drop_eq_getElem_cons hlt]
          show (if out.length < ln - 4 then _ else _) = _
          rw [if_neg hout])
        have HST := Lib.hid hst
        clear hst hm hg hlt hout hk
        go_wp2_with fail
        go_ret
        exact ⟨_, rfl, by rw [HE.out]; exact HST.out⟩
    · obtain rfl : k = ps.length := by omega
      have HE : Hid (putsM ln z ps [] = out) := Lib.hid (by rw [hm, List.drop_length]; rfl)
      have HST := Lib.hid hst
      clear hst hm hg hlt hk
      go_wp2_with fail
      go_ret
      exact ⟨_, rfl, by rw [HE.out]; exact HST.out⟩
end
end Go.Proofs.YtjmjmekmaamclaaDoor.jrn
/-
  Layer 5, the laws, plain: a device that holds a journal; transactions, checkpoints, openings on it.
-/
namespace Go.Proofs.YtjmjmekmaamclaaDoor.jrn
open dev sums
set_option linter.unusedVariables false
structure Live (R : Rg) (D : DevM) (m : Nat) : Prop where
  ok : D.Ok
  nb : D.nb = R.nb
  ns : D.ns = R.ns
  up : D.down = false
  room : D.Room m
theorem Live.more {R : Rg} {D : DevM} {m k : Nat} (v : Live R D (m + k)) : Live R (DevM.more D k) m :=
  ⟨⟨v.ok.nb0, v.ok.nb1, v.ok.ns0, v.ok.ns1, v.ok.safe, v.ok.ssz, v.ok.csz, v.ok.plan⟩, v.nb, v.ns, v.up, ⟨by have := v.room.calls; show D.calls + m ≤ _; omega, by have := v.room.reads; show D.reads + k + m ≤ _; omega, by have := v.room.cache; show D.cache.length + m ≤ _; omega⟩⟩
theorem Live.less {R : Rg} {D : DevM} {m k : Nat} (v : Live R D m) (h : k ≤ m) : Live R D k := ⟨v.ok, v.nb, v.ns, v.up, room_less' v.room h⟩
theorem live_went {R : Rg} {D E : DevM} {l : List Stp} {m : Nat} (v : Live R D (l.length + m)) (g : Went D l E) : Live R E m :=
  ⟨g.ok, g.nb.trans v.nb, g.ns.trans v.ns, g.up, room_went g v.room⟩
/-- what fell within some steps -/
structure Down (R : Rg) (D : DevM) (m : Nat) : Prop where
  ok : D.Ok
  nb : D.nb = R.nb
  ns : D.ns = R.ns
  down : D.down = true
  cache : D.cache = []
  plan : D.plan = none
  room : D.Room m
theorem down_fell {R : Rg} {D E : DevM} {l : List Stp} {m : Nat} (v : Live R D (l.length + m)) (g : Fell D l E) : Down R E m :=
  ⟨g.ok, g.nb.trans v.nb, g.ns.trans v.ns, g.down, g.cache, g.plan, ⟨by have := v.room.calls; have := g.calls; omega, by have := v.room.reads; rw [g.reads]; omega, by have := v.room.cache; rw [g.cache]; simp; omega⟩⟩
theorem run_none {R : Rg} {D : DevM} {l : List Stp} {m : Nat} (v : Live R D (l.length + m)) (hl : ∀ x ∈ l, x.Ok D.nb (512 * D.ns)) (hp : D.plan = none) : (runS D l).2 = 0 ∧ Went D l (runS D l).1 ∧ Live R (runS D l).1 m ∧ (runS D l).1.plan = none := by
  rcases run_cases l D v.up hl v.ok with ⟨h0, g⟩ | ⟨_, g⟩
  · exact ⟨h0, g, live_went v g, g.plan hp⟩
  · exact absurd hp g.had
/-- a device that holds a journal in state s, whose blocks outside the region are was -/
structure Holds (R : Rg) (D : DevM) (s : JSt) (was : List ByteArray) (k m : Nat) : Prop where
  live : Live R D m
  quiet : ∃ L, Quiet R (D.safe, D.cache) s L was
  own : s.h.own ≤ k
  num : s.num ≤ k
  used : s.used ≤ R.ring
  at1 : s.at' ≤ 1
  tail : s.h.tail ≤ 4096
  len : was.length = R.nb
theorem Holds.jin {R : Rg} {D : DevM} {s : JSt} {was : List ByteArray} {k m : Nat} (H : Holds R D s was k m) (hk : k < 9223372036854775806) : JIn R s :=
  ⟨by have := H.own; omega, H.tail, H.used, by have := H.num; omega, H.at1⟩
theorem app_len2 (l : List Wr) (was : List ByteArray) : (app l was).length = was.length := flushed_len _ _
section
variable {R : Rg} {D : DevM} {s : JSt} {was : List ByteArray} {k m : Nat} {l : List Wr}
theorem quiet_in (a : R.Ok) {σ : SC} {L : List (List Wr)} (q : Quiet R σ s L was) : s.at' ≤ 1 ∧ s.h.tail ≤ 4096 ∧ s.used ≤ R.ring := by
  have h1 := q.dur.hok.tail
  have h2 := ring_big a
  have h3 := q.dur.tot
  have h4 := q.used
  exact ⟨q.dur.at1, by omega, by omega⟩
theorem cm_ok (a : R.Ok) (hnb : D.nb = R.nb) (hns : D.ns = R.ns) (hat : s.at' ≤ 1) (v : l = [] ∨ ValidW R l) : (∀ x ∈ cmS R s l, x.Ok D.nb (512 * D.ns)) ∧ (cmS R s l).length ≤ 300 := by
  unfold cmS
  by_cases c : l = []
  · rw [if_pos c]; exact ⟨fun x hx => (by cases hx), by simp⟩
  · rw [if_neg c]
    have v2 := v.resolve_left c
    exact ⟨commitS_ok a hnb hns s hat v2, commitS_len a s v2⟩
/-- a transaction: all of it, or the device went down within -/
theorem holds_commit (a : R.Ok) (H : Holds R D s was k (m + 400)) (hk : k < 9223372036854775806) (v : l = [] ∨ ValidW R l) :
    ((runS D (cmS R s l)).2 = 0 ∧ Holds R (runS D (cmS R s l)).1 (cmJ R s l) (app l was) (k + 1) m ∧ (D.plan = none → (runS D (cmS R s l)).1.plan = none) ∧ (cmJ R s l).num = s.num + min l.length 1) ∨
    ((runS D (cmS R s l)).2 = 8 ∧ D.plan ≠ none ∧ Down R (runS D (cmS R s l)).1 m ∧ (Rec R (k + 1) (runS D (cmS R s l)).1.safe was ∨ Rec R (k + 1) (runS D (cmS R s l)).1.safe (app l was))) := by
  obtain ⟨L, q⟩ := H.quiet
  obtain ⟨o1, o2⟩ := cm_ok (s := s) a H.live.nb H.live.ns H.at1 v
  by_cases c : l = []
  · subst c
    refine .inl ⟨rfl, ⟨H.live.less (by omega), ⟨L, q⟩, by show s.h.own ≤ _; have := H.own; omega, by show s.num ≤ _; have := H.num; omega, H.used, H.at1, H.tail, H.len⟩, fun h => h, rfl⟩
  · have v2 := v.resolve_left c
    have e1 : cmS R s l = commitS R s l := if_neg c
    have e2 : cmJ R s l = commitJ R s l := if_neg c
    rw [e1] at o1 o2 ⊢
    rw [e2]
    obtain ⟨q1, ⟨L', q2⟩, q3, q4, q5⟩ := quiet_commit a q v2 H.len (k := k + 1) (by have := H.own; omega) (by have := H.num; omega) (by omega)
    have hlive : Live R D ((commitS R s l).length + m) := H.live.less (by omega)
    have hpos : min l.length 1 = 1 := by have : l.length ≠ 0 := fun e => c (List.length_eq_zero_iff.1 e); omega
    rcases run_cases (commitS R s l) D H.live.up o1 H.live.ok with ⟨h0, g⟩ | ⟨h8, g⟩
    · rw [← g.sc] at q2
      obtain ⟨i1, i2, i3⟩ := quiet_in a q2
      exact .inl ⟨h0, ⟨live_went hlive g, ⟨L', q2⟩, q3, by rw [q4]; have := H.num; omega, q5, i1, i2, by rw [app_len2]; exact H.len⟩, g.plan, by rw [q4, hpos]⟩
    · obtain ⟨l1, l2, el, hc⟩ := g.left
      exact .inr ⟨h8, g.had, down_fell hlive g, q1 l1 l2 el _ hc⟩
theorem holds_check (a : R.Ok) (H : Holds R D s was k (m + 400)) (hk : k < 9223372036854775806) (hp : D.plan = none) :
    (runS D (cpS R s)).2 = 0 ∧ Holds R (runS D (cpS R s)).1 (cpJ R s) was (k + 1) m ∧ (runS D (cpS R s)).1.plan = none := by
  obtain ⟨L, q⟩ := H.quiet
  unfold cpS cpJ
  by_cases c : s.used = 0
  · rw [if_pos c, if_pos c]
    exact ⟨rfl, ⟨H.live.less (by omega), ⟨L, q⟩, by have := H.own; omega, by have := H.num; omega, H.used, H.at1, H.tail, H.len⟩, hp⟩
  · rw [if_neg c, if_neg c]
    obtain ⟨_, q2, _⟩ := quiet_ck a q (by have := H.own; omega) (by have := H.num; omega)
    have hlive : Live R D ((ckS R s).length + m) := H.live.less (by show 3 + m ≤ _; omega)
    obtain ⟨h0, g, lv, pl⟩ := run_none hlive (ckS_ok2 a H.live.nb H.live.ns s H.at1) hp
    rw [← g.sc] at q2
    obtain ⟨i1, i2, i3⟩ := quiet_in a q2
    exact ⟨h0, ⟨lv, ⟨[], q2⟩, by show s.h.own + 1 ≤ _; have := H.own; omega, by show s.num ≤ _; have := H.num; omega, i3, i1, i2, H.len⟩, pl⟩
theorem openS_ok (a : R.Ok) {S : List ByteArray} {h : Hd} {at' : Nat} {L : List (List Wr)} (d : Dur R S h at' L was) (hnb : D.nb = R.nb) (hns : D.ns = R.ns) : (∀ x ∈ openS R h at' L, x.Ok D.nb (512 * D.ns)) ∧ (openS R h at' L).length ≤ 200 := by
  have h1 := flatten_len L
  have h2 := d.tot
  have h3 := ring_big a
  have h4 := a.few
  unfold openS
  refine ⟨fun x hx => ?_, ?_⟩
  · rcases List.mem_append.1 hx with k | k
    · exact wrs_ok hnb hns (logAt_each d.log) x k
    · split at k
      · cases k
      · exact ckS_ok2 a hnb hns _ d.at1 x k
  · rw [List.length_append, wrs_len]
    unfold Rg.ring at h2
    have h5 : (if L = [] then [] else ckS R (startJ h at' L) : List Stp).length ≤ 3 := by split <;> simp [ckS]
    omega
/-- an opening: all of it, or the device went down within -/
theorem holds_open (a : R.Ok) {h : Hd} {at' : Nat} {L : List (List Wr)} (d : Dur R D.safe h at' L was) (hc : D.cache = []) (hw : was.length = R.nb) (lv : Live R D (m + 400)) (ho : h.own ≤ k) (hn : h.num + L.length ≤ k) (hk : k < 9223372036854775806) :
    ((runS D (openS R h at' L)).2 = 0 ∧ Holds R (runS D (openS R h at' L)).1 (openJ R h at' L) was (k + 1) m ∧ (runS D (openS R h at' L)).1.cache = [] ∧ (D.plan = none → (runS D (openS R h at' L)).1.plan = none)) ∨
    ((runS D (openS R h at' L)).2 = 8 ∧ D.plan ≠ none ∧ Down R (runS D (openS R h at' L)).1 m ∧ Rec R (k + 1) (runS D (openS R h at' L)).1.safe was) := by
  obtain ⟨o1, o2⟩ := openS_ok (D := D) a d lv.nb lv.ns
  obtain ⟨q1, q2, q3, q4, q5⟩ := quiet_open a d (k := k + 1) (by omega) (by omega) (by omega)
  have q3 : (stepsA (D.safe, D.cache) (openS R h at' L)).2 = [] := by rw [hc]; exact q3
  rw [← hc] at q1 q2
  have hlive : Live R D ((openS R h at' L).length + m) := lv.less (by omega)
  rcases run_cases (openS R h at' L) D lv.up o1 lv.ok with ⟨h0, g⟩ | ⟨h8, g⟩
  · rw [← g.sc] at q2 q3
    obtain ⟨i1, i2, i3⟩ := quiet_in a q2
    exact .inl ⟨h0, ⟨live_went hlive g, ⟨[], q2⟩, q4, q5, i3, i1, i2, hw⟩, q3, g.plan⟩
  · obtain ⟨l1, l2, el, hcr⟩ := g.left
    exact .inr ⟨h8, g.had, down_fell hlive g, q1 l1 l2 el _ hcr⟩
end
end Go.Proofs.YtjmjmekmaamclaaDoor.jrn
/-
  Layer 5, the law: model: what the blocks outside the region have.
-/
namespace Go.Proofs.YtjmjmekmaamclaaDoor.jrn
open Go.ChangeShapes Go.WideShapes Go.ChangeAt Go.RowKit mem dev sums
set_option linter.unusedVariables false
def modK (k : Nat) (I : List ByteArray) : List ByteArray := (List.range I.length).map fun n => if 3 ≤ n ∧ n < 3 + k then empty else I.getD n empty
theorem modK_len (k : Nat) (I : List ByteArray) : (modK k I).length = I.length := by simp [modK]
theorem modK_zero (I : List ByteArray) : modK 0 I = I := by
  apply List.ext_getElem
  · simp [modK]
  · intro i h1 h2
    simp only [modK, List.getElem_map, List.getElem_range]
    rw [if_neg (by omega), List.getD_eq_getElem?_getD, List.getElem?_eq_getElem h2]
    rfl
theorem modK_more (k : Nat) (I : List ByteArray) : (modK k I).set (3 + k) empty = modK (k + 1) I := by
  apply List.ext_getElem
  · simp [modK]
  · intro i h1 h2
    rw [List.getElem_set]
    simp only [modK, List.getElem_map, List.getElem_range]
    split
    · rename_i e
      subst e
      rw [if_pos (by omega)]
    · rename_i e
      by_cases c : 3 ≤ i ∧ i < 3 + k
      · rw [if_pos c, if_pos (by omega)]
      · rw [if_neg c, if_neg (by omega)]
/-- the blocks outside the region are was, and was has no blocks in it -/
structure Outs (ln : Nat) (was : List ByteArray) : Prop where
  len : was.length = 24
  reg : ∀ n, 3 ≤ n → n < 3 + ln → was.getD n empty = empty
theorem modK_eq {ln : Nat} {was I : List ByteArray} (o : Outs ln was) (hI : I.length = 24) (hv : ∀ n, n < 24 → ¬ (3 ≤ n ∧ n < 3 + ln) → I.getD n empty = was.getD n empty) : modK ln I = was := by
  apply List.ext_getElem
  · rw [modK_len, hI, o.len]
  · intro i h1 h2
    simp only [modK, List.getElem_map, List.getElem_range]
    have e : was[i] = was.getD i empty := by rw [List.getD_eq_getElem?_getD, List.getElem?_eq_getElem h2]; rfl
    rw [e]
    have hi : i < 24 := by rw [o.len] at h2; exact h2
    split
    · rename_i c
      exact (o.reg i c.1 c.2).symm
    · rename_i c
      exact hv i hi c
theorem modK_outs (ln : Nat) (I : List ByteArray) (hI : I.length = 24) (hl : ln ≤ 21) : Outs ln (modK ln I) := by
  refine ⟨by rw [modK_len]; exact hI, fun n h1 h2 => ?_⟩
  rw [List.getD_eq_getElem?_getD, List.getElem?_eq_getElem (by rw [modK_len, hI]; omega)]
  simp only [modK, List.getElem_map, List.getElem_range, Option.getD_some]
  rw [if_pos ⟨h1, h2⟩]
theorem image_len (D : DevM) : D.image.length = D.nb := by simp [DevM.image]
theorem image_get (D : DevM) {n : Nat} (h : n < D.nb) : D.image.getD n empty = D.now n := by
  rw [List.getD_eq_getElem?_getD, List.getElem?_eq_getElem (by rw [image_len]; exact h)]
  simp [DevM.image]
theorem holds_model {ln ns : Nat} {D : DevM} {s : JSt} {was : List ByteArray} {k m : Nat} (H : Holds (lawR ln ns) D s was k m) (o : Outs ln was) : modK ln D.image = was := by
  have hnb : D.nb = 24 := H.live.nb
  obtain ⟨L, q⟩ := H.quiet
  refine modK_eq o (by rw [image_len, hnb]) fun n hn hr => ?_
  rw [image_get D (by rw [hnb]; exact hn)]
  exact q.view n hn hr
theorem outs_app {ln z : Nat} {was : List ByteArray} {l : List Wr} (o : Outs ln was) (h : ∀ x ∈ l, x.1 < 24 ∧ ¬ (3 ≤ x.1 ∧ x.1 < 3 + ln) ∧ x.2.size = z) : Outs ln (app l was) := by
  refine ⟨by rw [app_len2]; exact o.len, fun n h1 h2 => ?_⟩
  by_cases hn : n < was.length
  · rw [app_get hn, look_none (fun x hx e => (h x hx).2.1 (by omega))]
    exact o.reg n h1 h2
  · rw [List.getD_eq_getElem?_getD, List.getElem?_eq_none (by rw [app_len2]; omega)]
    rfl
section
variable {w wr : World} {As : List Ast} {X : Nat} {D : DevM}
theorem strs_set2 (l : List ByteArray) (k : Nat) (x : ByteArray) : (dev.strs l).set k (.string x) = dev.strs (l.set k x) := by simp [dev.strs, List.map_set]
set_option maxHeartbeats 1000000 in
theorem lmodel_st (h : St w wr (pDev X D :: As)) (hnb : D.nb = 24) (hR : D.Room 0) (ln : Nat) (hln : ln ≤ 14) :
    Calls Tryd.prog 17 #[pt X, .int .i64 (ln : Int)] wr fun e w' => ∃ v, e = .returned v ∧ St w w' (aRow 9 1 v 24 (dev.strs (modK ln D.image)) :: pDev X D :: As) := by
  have HI : Hid (Calls Tryd.prog 45 #[pt X] wr fun e w' => ∃ v, e = .returned v ∧ St w w' (aRow 9 1 v 24 (dev.strs (modK 0 D.image)) :: pDev X D :: As)) := Lib.hid (by
    have := pimage_any h hR
    rw [hnb] at this
    rw [modK_zero]
    exact this)
  have HL : Hid (∀ k, (modK k D.image).length = 24) := Lib.hid fun k => by rw [modK_len, image_len, hnb]
  have l0 : (0 : Int) ≤ ln := by omega
  have l1 : (ln : Int) ≤ 14 := by omega
  have e0 : IntKind.i64.wrap (3 + (ln : Int)) = 3 + (ln : Int) := IntWalk.i64_in _ (by omega)
  have HLN := Lib.hid hln
  clear h hnb hR hln
  go_enter Tryd.func17, Tryd.ntmps17
  go_wp2_with ((go_at_call 45; refine HI.out.mono ?_; rintro e w2 ⟨v, rfl, hst⟩; obtain ⟨g, cap, rfl, _⟩ := st_form hst (by decide); have H2 := Lib.hid hst; clear hst))
  go_loopw [6] (fun i W => ∃ k : Nat, k ≤ ln ∧ i = .int .i64 ((3 + k : Nat) : Int) ∧ St w W (aRow 9 1 (.slice (some ⟨g, 0, none⟩) 24 cap) 24 (dev.strs (modK k D.image)) :: pDev X D :: As)) (fun i _ => 3 + ln - (intOf i).toNat)
  case atStart => exact ⟨0, Nat.zero_le _, rfl, H2.out⟩
  case round =>
    obtain ⟨k, hk, rfl, hst⟩ := hrel
    clear H2
    obtain ⟨i, hi⟩ : ∃ i, i = 3 + k := ⟨_, rfl⟩
    have e1 : IntKind.i64.wrap ((i : Int) + 1) = (i : Int) + 1 := IntWalk.i64_in _ (by have := HLN.out; omega)
    have i2 : (i : Int) < 24 := by have := HLN.out; omega
    have i3 : (0 : Int) ≤ i := by omega
    rw [← hi]
    by_cases hlt : k < ln
    · have x0 := (st_at hst rfl i (by have := HLN.out; omega)).trans (strs_at (modK k D.image) i (by rw [HL.out]; have := HLN.out; omega))
      have xf := st_unfrozen hst i
      have H3 : Hid (St w _ (aRow 9 1 (.slice (some ⟨g, 0, none⟩) 24 cap) 24 (dev.strs (modK (k + 1) D.image)) :: pDev X D :: As)) := Lib.hid (by
        have := st_put (u := .string empty) (i := i) hst (by have := HLN.out; omega)
        rw [strs_set2, hi, modK_more] at this
        exact this)
      rw [← hi] at H3
      have i4 : (i : Int) < 3 + ln := by omega
      have HII := Lib.hid hi
      have HLT := Lib.hid hlt
      clear hst hlt hk hi
      go_wp2_with fail
      go_roundw
      case rel => exact ⟨k + 1, by have := HLT.out; omega, by rw [HII.out]; go_num, H3.out⟩
      case measure => simp [intOf] <;> omega
    · obtain rfl : k = ln := by omega
      have i4 : ¬ (i : Int) < 3 + k := by omega
      have H3 := Lib.hid hst
      clear hst hlt hk hi
      go_wp2_with fail
      go_ret
      exact ⟨_, rfl, H3.out⟩
end
end Go.Proofs.YtjmjmekmaamclaaDoor.jrn
/-
  Layer 5, the laws: openings, transactions, checkpoints, formattings in the laws' words.
-/
namespace Go.Proofs.YtjmjmekmaamclaaDoor.jrn
open Go.ChangeShapes Go.WideShapes Go.ChangeAt Go.RowKit mem dev sums
set_option linter.unusedVariables false
theorem Holds.more {R : Rg} {D : DevM} {s : JSt} {was : List ByteArray} {k m q : Nat} (H : Holds R D s was k (m + q)) : Holds R (DevM.more D q) s was k m :=
  ⟨H.live.more, H.quiet, H.own, H.num, H.used, H.at1, H.tail, H.len⟩
theorem Holds.less {R : Rg} {D : DevM} {s : JSt} {was : List ByteArray} {k m q : Nat} (H : Holds R D s was k m) (h : q ≤ m) : Holds R D s was k q :=
  ⟨H.live.less h, H.quiet, H.own, H.num, H.used, H.at1, H.tail, H.len⟩
theorem Down.more {R : Rg} {D : DevM} {m q : Nat} (H : Down R D (m + q)) : Down R (DevM.more D q) m :=
  ⟨⟨H.ok.nb0, H.ok.nb1, H.ok.ns0, H.ok.ns1, H.ok.safe, H.ok.ssz, H.ok.csz, H.ok.plan⟩, H.nb, H.ns, H.down, H.cache, H.plan, ⟨by have := H.room.calls; show D.calls + m ≤ _; omega, by have := H.room.reads; show D.reads + q + m ≤ _; omega, by have := H.room.cache; show D.cache.length + m ≤ _; omega⟩⟩
theorem Live.upR {R : Rg} {D : DevM} {m : Nat} (v : Live R D m) (h : ∀ x ∈ D.cache, ¬ R.inR x.1) : Up R D := ⟨v.ok, v.nb, v.ns, v.up, h⟩
section
variable {w wr : World} {As : List Ast} {R : Rg} {X J : Nat} {D : DevM} {s : JSt} {was : List ByteArray} {k m : Nat} {l : List Wr}
theorem open_law (a : R.Ok) (g : Halves w) {hd : Hd} {at' : Nat} {L : List (List Wr)} (h : St w wr (pDev X D :: As)) (d : Dur R D.safe hd at' L was) (hc : D.cache = []) (hw : was.length = R.nb) (lv : Live R D (m + 300000)) (ho : hd.own ≤ k) (hn : hd.num + L.length ≤ k) (hk : k < 9223372036854775806) :
    Calls Tryd.prog 7 #[pt X, .int .i64 (R.st : Int), .int .i64 (R.ln : Int)] wr fun e w' => ∃ D',
      ((∃ J, e = .returned (.tuple #[pt J, .int .i64 (L.length : Int), .int .i64 0]) ∧ Holds R D' (openJ R hd at' L) was (k + 1) m ∧ D'.cache = [] ∧ (D.plan = none → D'.plan = none) ∧ St w w' (pDev X D' :: aJrn J X R (openJ R hd at' L) false :: As)) ∨
       (e = .returned (.tuple #[.pointer none, .int .i64 0, .int .i64 8]) ∧ D.plan ≠ none ∧ Down R D' m ∧ Rec R (k + 1) D'.safe was ∧ St w w' (pDev X D' :: As))) := by
  have hop := holds_open (D := D) (m := m + 50000) a d hc hw (lv.less (by omega)) ho hn hk
  refine (popen_st a g (lv.upR (by rw [hc]; intro x hx; cases hx)) h d (room_less' lv.room (by omega)) (by omega) (by omega)).mono fun e w' q => ?_
  obtain ⟨q, hq, ⟨h0, J, he, hst⟩ | ⟨h8, he, hst⟩⟩ := q
  · rcases hop with ⟨_, H, hc2, hp2⟩ | ⟨k8, _⟩
    · exact ⟨_, .inl ⟨J, he, (H.less (show m + q ≤ m + 50000 by omega)).more, hc2, hp2, hst⟩⟩
    · rw [h0] at k8; exact absurd k8 (by decide)
  · rcases hop with ⟨k0, _⟩ | ⟨_, hp, dn, rc⟩
    · rw [h8] at k0; exact absurd k0 (by decide)
    · have dn2 : Down R (runS D (openS R hd at' L)).1 (m + q) := ⟨dn.ok, dn.nb, dn.ns, dn.down, dn.cache, dn.plan, room_less' dn.room (show m + q ≤ m + 50000 by omega)⟩
      exact ⟨DevM.more (runS D (openS R hd at' L)).1 q, .inr ⟨he, hp, dn2.more, rc, hst⟩⟩
theorem commit_law (a : R.Ok) (g : Halves w) (h : St w wr (pDev X D :: aJrn J X R s false :: As)) (H : Holds R D s was k (m + 400)) (hk : k < 9223372036854775806) (v : Value) (hv : ∀ W Bs, St w W (Bs ++ pDev X D :: aJrn J X R s false :: As) → WrsIn W v l) (hl : l = [] ∨ ValidW R l) :
    Calls Tryd.prog 9 #[pt J, v] wr fun e w' => ∃ (x : Int) (D' : DevM), e = .returned (.int .i64 x) ∧
      ((x = 0 ∧ Holds R D' (cmJ R s l) (app l was) (k + 1) m ∧ (D.plan = none → D'.plan = none) ∧ (cmJ R s l).num = s.num + min l.length 1 ∧ St w w' (pDev X D' :: aJrn J X R (cmJ R s l) false :: As)) ∨
       (x = 8 ∧ D.plan ≠ none ∧ Down R D' m ∧ (Rec R (k + 1) D'.safe was ∨ Rec R (k + 1) D'.safe (app l was)) ∧ St w w' (pDev X D' :: aJrn J X R s true :: As))) := by
  have hop := holds_commit (m := m) a H hk hl
  refine (pcommit_st a g h H.live.nb H.live.ns H.live.up H.live.ok (room_less' H.live.room (by omega)) (H.jin hk) v hv hl).mono fun e w' q => ?_
  obtain ⟨x, he, ⟨h0, hx, hst⟩ | ⟨h8, hx, hst⟩⟩ := q
  · rcases hop with ⟨_, H2, hp2, hn2⟩ | ⟨k8, _⟩
    · exact ⟨x, _, he, .inl ⟨hx, H2, hp2, hn2, hst⟩⟩
    · rw [h0] at k8; exact absurd k8 (by decide)
  · rcases hop with ⟨k0, _⟩ | ⟨_, hp, dn, rc⟩
    · rw [h8] at k0; exact absurd k0 (by decide)
    · exact ⟨x, _, he, .inr ⟨hx, hp, dn, rc, hst⟩⟩
theorem check_law (a : R.Ok) (g : Halves w) (h : St w wr (pDev X D :: aJrn J X R s false :: As)) (H : Holds R D s was k (m + 400)) (hk : k < 9223372036854775806) (hp : D.plan = none) :
    Calls Tryd.prog 10 #[pt J] wr fun e w' => ∃ D', e = .returned (.int .i64 0) ∧ Holds R D' (cpJ R s) was (k + 1) m ∧ D'.plan = none ∧ St w w' (pDev X D' :: aJrn J X R (cpJ R s) false :: As) := by
  obtain ⟨h0, H2, p2⟩ := holds_check (m := m) a H hk hp
  refine (pcheckpoint_st a g h H.live.nb H.live.ns H.live.up H.live.ok (room_less' H.live.room (by omega)) (H.jin hk)).mono fun e w' q => ?_
  obtain ⟨x, he, ⟨_, hx, hst⟩ | ⟨h8, hx, hst⟩⟩ := q
  · subst hx
    exact ⟨_, he, H2, p2, hst⟩
  · rw [h0] at h8; exact absurd h8 (by decide)
/-- an empty device is formatted -/
def was0 (nb ns : Nat) : List ByteArray := List.replicate nb (noughts (512 * ns))
theorem new_live (ln ns : Nat) (h3 : 1 ≤ ns) (h4 : ns ≤ 8) : Live (lawR ln ns) (DevM.new 24 ns) 1000000000 := by
  refine ⟨?_, rfl, rfl, rfl, ⟨by show 0 + _ ≤ _; omega, by show 0 + _ ≤ _; omega, by show 0 + _ ≤ _; omega⟩⟩
  refine ⟨by show 16 ≤ 24; omega, by show 24 ≤ 4096; omega, h3, h4, by show (List.replicate _ _).length = _; rw [List.length_replicate]; rfl, fun y hy => ?_, fun x hx => (by cases hx), fun p hp => by cases hp⟩
  have := (List.mem_replicate.1 hy).2
  rw [this, noughts_size]; rfl
theorem new_format (ln ns : Nat) (h1 : 6 ≤ ln) (h2 : ln ≤ 14) (h3 : 1 ≤ ns) (h4 : ns ≤ 8) :
    (runS (DevM.new 24 ns) (formatS (lawR ln ns))).2 = 0 ∧ Live (lawR ln ns) (runS (DevM.new 24 ns) (formatS (lawR ln ns))).1 900000000 ∧ (runS (DevM.new 24 ns) (formatS (lawR ln ns))).1.plan = none ∧ (runS (DevM.new 24 ns) (formatS (lawR ln ns))).1.cache = [] ∧
    Dur (lawR ln ns) (runS (DevM.new 24 ns) (formatS (lawR ln ns))).1.safe ⟨1, 0, 1⟩ 0 [] (was0 24 ns) := by
  have a := lawR_ok ln ns h1 h2 h3 h4
  have lv := new_live ln ns h3 h4
  have hlen := formatS_len a
  obtain ⟨r0, g, lv2, pl⟩ := run_none (R := lawR ln ns) (m := 900000000) (l := formatS (lawR ln ns)) (lv.less (by omega)) (formatS_ok a rfl rfl) rfl
  have hS : Szd 24 ns (DevM.new 24 ns).safe := ⟨by show (List.replicate _ _).length = _; rw [List.length_replicate], fun y hy => by rw [(List.mem_replicate.1 hy).2, noughts_size]⟩
  obtain ⟨_, q2, q3⟩ := quiet_format (was := was0 24 ns) a hS (fun n _ _ => rfl)
  have hsc := g.sc
  have e0 : ((DevM.new 24 ns).safe, (DevM.new 24 ns).cache) = ((DevM.new 24 ns).safe, ([] : List Wr)) := rfl
  rw [e0] at hsc
  rw [← hsc] at q2 q3
  exact ⟨r0, lv2, pl, q3, q2⟩
theorem was0_len (nb ns : Nat) : (was0 nb ns).length = nb := List.length_replicate
end
end Go.Proofs.YtjmjmekmaamclaaDoor.jrn
/-
  Layer 5, the law: awake: a transaction, and one that never got its record.
-/
namespace Go.Proofs.YtjmjmekmaamclaaDoor.jrn
open Go.ChangeShapes Go.WideShapes Go.ChangeAt Go.RowKit mem dev sums
set_option linter.unusedVariables false
theorem fallen_none (mask : Nat) : ∀ (c : List (Nat × ByteArray)) (i : Nat) (S : List ByteArray), fallen [] (-1) mask i c S = S
  | [], _, _ => rfl
  | x :: c, i, S => by
    rw [fallen, fallen_none mask c]
    unfold fallStep
    rw [if_neg (by omega), if_neg (by simp)]
theorem run_three {D : DevM} {n1 n2 : Nat} {t1 t2 : ByteArray} {rest : List Stp} {mask : Nat} (hup : D.down = false) (hp : D.plan = some ⟨3, [], -1, mask⟩) (h1 : n1 < D.nb ∧ t1.size = 512 * D.ns) (h2 : n2 < D.nb ∧ t2.size = 512 * D.ns) :
    (runS D (.wr n1 t1 :: .wr n2 t2 :: .fl :: rest)).2 = 8 ∧ (runS D (.wr n1 t1 :: .wr n2 t2 :: .fl :: rest)).1.safe = D.safe ∧ (runS D (.wr n1 t1 :: .wr n2 t2 :: .fl :: rest)).1.reads = D.reads := by
  obtain ⟨nb, ns, safe, cache, plan, down, calls, reads⟩ := D
  simp only at hup hp h1 h2
  subst hup hp
  have b1 : (0 : Int) ≤ n1 ∧ (n1 : Int) < nb := ⟨by omega, by omega⟩
  have b2 : (0 : Int) ≤ n2 ∧ (n2 : Int) < nb := ⟨by omega, by omega⟩
  simp [runS, Stp.does, DevM.write, DevM.flush, DevM.counted, isBlock, b1, b2, h1.2, h2.2, DevM.fall, fallen_none]
abbrev l0W (a : ByteArray) : List Wr := [(0, a)]
theorem l0_valid (a : ByteArray) (h : a.size = 512) : ValidW (lawR 8 1) (l0W a) :=
  ⟨by simp, by show 1 + 4 ≤ 8; omega, fun x hx => by rw [List.mem_singleton.1 hx]; exact ⟨by show 0 < 24; omega, by show ¬ (3 ≤ 0 ∧ _); omega, h⟩, by simp⟩
abbrev sAw : JSt := ⟨⟨1, 0, 1⟩, 0, 3, 2⟩
theorem aw_commit (a : ByteArray) : cmJ (lawR 8 1) ⟨⟨1, 0, 1⟩, 0, 0, 1⟩ (l0W a) = sAw := by
  unfold cmJ
  rw [if_neg (by simp)]
  unfold commitJ
  rw [if_neg (by show ¬ (8 - 2 - 0 < 1 + 2); omega)]
  rfl
theorem aw_steps (b : ByteArray) : ∃ rest, cmS (lawR 8 1) sAw (l0W b) = .wr ((lawR 8 1).place 3) (descB 2 [tgt (0, b)] 512) :: .wr ((lawR 8 1).place 4) (inRing (tgt (0, b)) b) :: .fl :: rest := by
  unfold cmS
  rw [if_neg (by simp)]
  unfold commitS
  rw [if_neg (by show ¬ (8 - 2 - 3 < 1 + 2); omega)]
  exact ⟨_, rfl⟩
section
variable {w wr : World} {As : List Ast} {X J : Nat} {D : DevM}
/-- the second transaction falls ahead of its record -/
theorem aw_fall {s : JSt} {was : List ByteArray} {k m : Nat} (H : Holds (lawR 8 1) D sAw was k (m + 400)) (hk : k < 9223372036854775806) (b : ByteArray) (hb : b.size = 512) (hp : D.plan = some ⟨3, [], -1, 0⟩) :
    (runS D (cmS (lawR 8 1) sAw (l0W b))).2 = 8 ∧ Down (lawR 8 1) (runS D (cmS (lawR 8 1) sAw (l0W b))).1 m ∧ (runS D (cmS (lawR 8 1) sAw (l0W b))).1.safe = D.safe := by
  have a := lawR_ok 8 1 (by omega) (by omega) (by omega) (by omega)
  have v := l0_valid b hb
  obtain ⟨rest, e⟩ := aw_steps b
  have hz : 512 * D.ns = 512 := by rw [H.live.ns]; rfl
  have h1 : (lawR 8 1).place 3 < D.nb ∧ (descB 2 [tgt (0, b)] 512).size = 512 * D.ns := ⟨by rw [H.live.nb]; exact place_lt a _, by rw [hz]; exact descB_size _ _ (by simp)⟩
  have h2 : (lawR 8 1).place 4 < D.nb ∧ (inRing (tgt (0, b)) b).size = 512 * D.ns := by
    refine ⟨by rw [H.live.nb]; exact place_lt a _, ?_⟩
    rw [hz]
    exact txn_size a 2 v _ (by show _ ∈ [_, _]; simp)
  obtain ⟨r1, r2, _⟩ := run_three (rest := rest) H.live.up hp h1 h2
  rw [← e] at r1 r2
  rcases holds_commit (m := m) a H hk (.inr v) with ⟨k0, _⟩ | ⟨_, _, dn, _⟩
  · rw [r1] at k0; exact absurd k0 (by decide)
  · exact ⟨r1, dn, r2⟩
end
end Go.Proofs.YtjmjmekmaamclaaDoor.jrn
/-
  Layer 5, the law: awake, walked; plans, pulls, restarts.
-/
namespace Go.Proofs.YtjmjmekmaamclaaDoor.jrn
open Go.ChangeShapes Go.WideShapes Go.ChangeAt Go.RowKit mem dev sums
set_option linter.unusedVariables false
theorem holds_plan {R : Rg} {D : DevM} {s : JSt} {was : List ByteArray} {k m : Nat} (H : Holds R D s was k m) {n : Int} (hn : 0 ≤ n) (hn2 : n ≤ 9223372036854775807) {ks : List Int} {torn : Int} {mask : Nat} (C : CrashOk ks torn mask) :
    Holds R (D.setPlan n ks torn mask).1 s was k m ∧ (D.setPlan n ks torn mask).2 = 0 ∧ (D.setPlan n ks torn mask).1.plan = (if n = 0 then none else some ⟨n.toNat, ks, torn, mask⟩) ∧ (D.setPlan n ks torn mask).1.cache = D.cache := by
  have e : D.setPlan n ks torn mask = ({ D with plan := if n = 0 then none else some ⟨n.toNat, ks, torn, mask⟩ }, 0) := by
    unfold DevM.setPlan
    rw [if_neg (by rw [H.live.up]; decide), if_neg (by omega)]
  rw [e]
  refine ⟨⟨⟨⟨H.live.ok.nb0, H.live.ok.nb1, H.live.ok.ns0, H.live.ok.ns1, H.live.ok.safe, H.live.ok.ssz, H.live.ok.csz, fun p hp => ?_⟩, H.live.nb, H.live.ns, H.live.up, ⟨H.live.room.calls, H.live.room.reads, H.live.room.cache⟩⟩, H.quiet, H.own, H.num, H.used, H.at1, H.tail, H.len⟩, rfl, rfl, rfl⟩
  simp only at hp
  split at hp
  · cases hp
  · cases hp
    exact ⟨by show 1 ≤ n.toNat; omega, by show n.toNat ≤ _; omega, C⟩
theorem live_plan {R : Rg} {D : DevM} {m : Nat} (H : Live R D m) {n : Int} (hn : 0 ≤ n) (hn2 : n ≤ 9223372036854775807) {ks : List Int} {torn : Int} {mask : Nat} (C : CrashOk ks torn mask) :
    Live R (D.setPlan n ks torn mask).1 m ∧ (D.setPlan n ks torn mask).2 = 0 ∧ (D.setPlan n ks torn mask).1.plan = (if n = 0 then none else some ⟨n.toNat, ks, torn, mask⟩) ∧ (D.setPlan n ks torn mask).1.cache = D.cache ∧ (D.setPlan n ks torn mask).1.safe = D.safe := by
  have e : D.setPlan n ks torn mask = ({ D with plan := if n = 0 then none else some ⟨n.toNat, ks, torn, mask⟩ }, 0) := by
    unfold DevM.setPlan
    rw [if_neg (by rw [H.up]; decide), if_neg (by omega)]
  rw [e]
  refine ⟨⟨⟨H.ok.nb0, H.ok.nb1, H.ok.ns0, H.ok.ns1, H.ok.safe, H.ok.ssz, H.ok.csz, fun p hp => ?_⟩, H.nb, H.ns, H.up, ⟨H.room.calls, H.room.reads, H.room.cache⟩⟩, rfl, rfl, rfl, rfl⟩
  simp only at hp
  split at hp
  · cases hp
  · cases hp
    exact ⟨by show 1 ≤ n.toNat; omega, by show n.toNat ≤ _; omega, C⟩
theorem down_restart {R : Rg} {D : DevM} {m : Nat} (H : Down R D m) : D.restart.2 = 0 ∧ Live R D.restart.1 m ∧ D.restart.1.safe = D.safe ∧ D.restart.1.cache = [] ∧ D.restart.1.plan = none := by
  have e : D.restart = ({ D with down := false }, 0) := by unfold DevM.restart; rw [if_pos H.down]
  rw [e]
  exact ⟨rfl, ⟨⟨H.ok.nb0, H.ok.nb1, H.ok.ns0, H.ok.ns1, H.ok.safe, H.ok.ssz, H.ok.csz, H.ok.plan⟩, H.nb, H.ns, rfl, ⟨H.room.calls, H.room.reads, H.room.cache⟩⟩, rfl, H.cache, H.plan⟩
theorem holds_pull {R : Rg} (a : R.Ok) {D : DevM} {s : JSt} {was : List ByteArray} {k m : Nat} (H : Holds R D s was k m) (ks : List Int) (torn : Int) (mask : Nat) :
    (D.pull ks torn mask).2 = 0 ∧ Down R (D.pull ks torn mask).1 m ∧ Rec R k (D.pull ks torn mask).1.safe was := by
  have e : D.pull ks torn mask = (D.fall ks torn mask, 0) := by unfold DevM.pull; rw [if_neg (by rw [H.live.up]; decide)]
  rw [e]
  obtain ⟨L, q⟩ := H.quiet
  refine ⟨rfl, ⟨H.live.ok.fall _ _ _, H.live.nb, H.live.ns, rfl, rfl, rfl, ⟨H.live.room.calls, H.live.room.reads, by show 0 + m ≤ _; have := H.live.room.cache; omega⟩⟩, ?_⟩
  have d := quiet_crash a q (S' := (D.fall ks torn mask).safe) ⟨ks, torn, mask, rfl⟩
  exact ⟨s.h, s.at', L, d, H.own, by have := H.num; have := q.num; omega⟩
theorem crash_none : CrashOk [] (-1) 0 := ⟨fun k hk => (by cases hk), by simp, ⟨by omega, by omega⟩, by omega⟩
theorem crash_zero : CrashOk [] 0 0 := ⟨fun k hk => (by cases hk), by simp, ⟨by omega, by omega⟩, by omega⟩
theorem ints_none {K : Ast} : ∀ (W : World) F, K.p W F → IntsIn W (.slice none 0 0) [] := fun W F _ => ⟨none, 0, rfl, fun i hi => by cases hi⟩
theorem l0_in {w W : World} {v : Value} {l : List Wr} {A B : Ast} {As : List Ast} : ∀ V Bs, St w V (Bs ++ A :: B :: aWrs v l :: As) → WrsIn V v l := fun V Bs k => wrs_in (St.front (As := Bs ++ [_, _]) (by simpa using k))
end Go.Proofs.YtjmjmekmaamclaaDoor.jrn
/-
  Layer 5, the law: awake's calls.
-/
namespace Go.Proofs.YtjmjmekmaamclaaDoor.jrn
open Go.ChangeShapes Go.WideShapes Go.ChangeAt Go.RowKit mem dev sums
set_option linter.unusedVariables false
/-- What awake's calls do, one behind the other, over things that say no more of themselves. -/
structure AwCalls (w : World) (As : List Ast) (ta tb : ByteArray) (N D1 : DevM) (Q2 Q3 Q4 Q5 Q6 Q7 : DevM → Prop) (K1 K2 K3 : Nat → Nat → Ast) (K4 : JSt → Nat → Nat → Ast) (Wa Wb : Value → Ast) : Prop where
  new : ∀ W, St w W As → Calls Tryd.prog 14 #[.agg #[.int .i64 24, .int .i64 1]] W fun e w' => ∃ X, e = .returned (.tuple #[pt X, .int .i64 0]) ∧ St w w' (pDev X N :: As)
  fmt : ∀ W X, St w W (pDev X N :: As) → Calls Tryd.prog 8 #[pt X, .int .i64 3, .int .i64 8] W fun e w' => e = .returned (.int .i64 0) ∧ St w w' (pDev X D1 :: As)
  open1 : ∀ W X, St w W (pDev X D1 :: As) → Calls Tryd.prog 7 #[pt X, .int .i64 3, .int .i64 8] W fun e w' => ∃ J D2, e = .returned (.tuple #[pt J, .int .i64 0, .int .i64 0]) ∧ Q2 D2 ∧ St w w' (pDev X D2 :: K1 J X :: As)
  filla : ∀ W, Calls Tryd.prog 15 #[.string ⟨#[97]⟩, .int .i64 512] W fun e w' => e = .returned (.string ta) ∧ W = w'
  fillb : ∀ W, Calls Tryd.prog 15 #[.string ⟨#[98]⟩, .int .i64 512] W fun e w' => e = .returned (.string tb) ∧ W = w'
  lita : ∀ W Bs, St w W Bs → St w (W.alloc (.cells #[.int .i64 0, .string ta] 39)) (Wa (.slice (some ⟨W.heap.size, 0, none⟩) 1 1) :: Bs)
  litb : ∀ W Bs, St w W Bs → St w (W.alloc (.cells #[.int .i64 0, .string tb] 39)) (Wb (.slice (some ⟨W.heap.size, 0, none⟩) 1 1) :: Bs)
  com1 : ∀ W X J D2 v, Q2 D2 → St w W (Wa v :: pDev X D2 :: K1 J X :: As) → Calls Tryd.prog 9 #[pt J, v] W fun e w' => ∃ D3, e = .returned (.int .i64 0) ∧ Q3 D3 ∧ St w w' (pDev X D3 :: K2 J X :: As)
  plan : ∀ W X J D3, Q3 D3 → St w W (pDev X D3 :: K2 J X :: As) → Calls Tryd.prog 20 #[pt X, .int .i64 3, .agg #[.slice none 0 0, .int .i64 (-1), .int .u8 0]] W fun e w' => ∃ D4, e = .returned (.int .i64 0) ∧ Q4 D4 ∧ St w w' (pDev X D4 :: K2 J X :: As)
  com2 : ∀ W X J D4 v, Q4 D4 → St w W (Wb v :: pDev X D4 :: K2 J X :: As) → Calls Tryd.prog 9 #[pt J, v] W fun e w' => ∃ D5, e = .returned (.int .i64 8) ∧ Q5 D5 ∧ St w w' (pDev X D5 :: As)
  rest : ∀ W X D5, Q5 D5 → St w W (pDev X D5 :: As) → Calls Tryd.prog 26 #[pt X] W fun e w' => ∃ D6, e = .returned (.int .i64 0) ∧ Q6 D6 ∧ St w w' (pDev X D6 :: As)
  open2 : ∀ W X D6, Q6 D6 → St w W (pDev X D6 :: As) → Calls Tryd.prog 7 #[pt X, .int .i64 3, .int .i64 8] W fun e w' => ∃ J D7 s, e = .returned (.tuple #[pt J, .int .i64 1, .int .i64 0]) ∧ Q7 D7 ∧ St w w' (pDev X D7 :: K4 s J X :: As)
  read : ∀ W X J D7 s, Q7 D7 → St w W (pDev X D7 :: K4 s J X :: As) → Calls Tryd.prog 44 #[pt X, .int .i64 0] W fun e w' => ∃ D8, e = .returned (.tuple #[.string ta, .int .i64 0]) ∧ St w w' (pDev X D8 :: K4 s J X :: As)
section
variable {w wr : World} {As : List Ast} {X J : Nat} {D : DevM}
theorem aw_lit (t : ByteArray) {W : World} {Bs : List Ast} (k : St w W Bs) : St w (W.alloc (.cells #[.int .i64 0, .string t] 39)) (aWrs (.slice (some ⟨W.heap.size, 0, none⟩) 1 1) (l0W t) :: Bs) :=
  st_lit k 39 2 1 [.int .i64 0, .string t] rfl (by decide)
theorem aw_c1 (g : Halves w) {ta : ByteArray} (ha : ta.size = 512) {W : World} {D2 : DevM} {v : Value} {As : List Ast} (H : Holds (lawR 8 1) D2 ⟨⟨1, 0, 1⟩, 0, 0, 1⟩ (was0 24 1) 2 800000000) (hp : D2.plan = none) (k : St w W (aWrs v (l0W ta) :: pDev X D2 :: aJrn J X (lawR 8 1) ⟨⟨1, 0, 1⟩, 0, 0, 1⟩ false :: As)) : Calls Tryd.prog 9 #[pt J, v] W fun e w' => ∃ D3, e = .returned (.int .i64 0) ∧ Holds (lawR 8 1) D3 sAw (app (l0W ta) (was0 24 1)) 3 700000000 ∧ St w w' (pDev X D3 :: aJrn J X (lawR 8 1) sAw false :: As) := by
  have a := lawR_ok 8 1 (by omega) (by omega) (by omega) (by omega)
  have := commit_law (l := l0W ta) (m := 700000000) a g (St.re (L := [_, _, _]) [1, 2, 0] [] k) (H.less (by omega)) (by omega) v (l0_in (W := W)) (.inr (l0_valid ta ha))
  rw [aw_commit] at this
  refine this.mono fun e w' q => ?_
  obtain ⟨x, D3, he, ⟨hx, H3, hp3, _, hst⟩ | ⟨_, hp3, _⟩⟩ := q
  · subst hx; exact ⟨D3, he, H3, St.re (L := [_, _, _]) [0, 1] [2] hst⟩
  · exact absurd hp hp3
theorem aw_pl {ta : ByteArray} {W : World} {D3 : DevM} {K : Ast} {As : List Ast} (H : Holds (lawR 8 1) D3 sAw (app (l0W ta) (was0 24 1)) 3 700000000) (k : St w W (pDev X D3 :: K :: As)) : Calls Tryd.prog 20 #[pt X, .int .i64 3, .agg #[.slice none 0 0, .int .i64 (-1), .int .u8 0]] W fun e w' => ∃ D4, e = .returned (.int .i64 0) ∧ (Holds (lawR 8 1) D4 sAw (app (l0W ta) (was0 24 1)) 3 700000000 ∧ D4.plan = some ⟨3, [], -1, 0⟩) ∧ St w w' (pDev X D4 :: K :: As) := by
  obtain ⟨H4, e4, p4, _⟩ := holds_plan H (n := 3) (by omega) (by omega) crash_none
  have := pplan_any k 3 (.slice none 0 0) [] (-1) 0 ⟨by omega, by omega⟩ ints_none crash_none
  rw [e4] at this
  exact this.mono fun e w' q => ⟨_, q.1, ⟨H4, p4⟩, q.2⟩
theorem aw_c2 (g : Halves w) {ta tb : ByteArray} (hb : tb.size = 512) {W : World} {D4 : DevM} {v : Value} {As : List Ast} (H : Holds (lawR 8 1) D4 sAw (app (l0W ta) (was0 24 1)) 3 700000000) (hp : D4.plan = some ⟨3, [], -1, 0⟩) (k : St w W (aWrs v (l0W tb) :: pDev X D4 :: aJrn J X (lawR 8 1) sAw false :: As)) : Calls Tryd.prog 9 #[pt J, v] W fun e w' => ∃ D5, e = .returned (.int .i64 8) ∧ (Down (lawR 8 1) D5 600000000 ∧ ∃ L, Dur (lawR 8 1) D5.safe ⟨1, 0, 1⟩ 0 L (app (l0W ta) (was0 24 1)) ∧ L.length = 1) ∧ St w w' (pDev X D5 :: As) := by
  have a := lawR_ok 8 1 (by omega) (by omega) (by omega) (by omega)
  obtain ⟨r1, dn, r2⟩ := aw_fall (s := sAw) (m := 600000000) (H.less (by omega)) (by omega) tb hb hp
  refine (pcommit_st (l := l0W tb) a g (St.re (L := [_, _, _]) [1, 2, 0] [] k) H.live.nb H.live.ns H.live.up H.live.ok (room_less' H.live.room (by omega)) (H.jin (by omega)) v (l0_in (W := W)) (.inr (l0_valid tb hb))).mono fun e w' q => ?_
  obtain ⟨x, he, ⟨h0, _⟩ | ⟨_, hx, hst⟩⟩ := q
  · rw [r1] at h0; exact absurd h0 (by decide)
  · subst hx
    obtain ⟨L, q⟩ := H.quiet
    refine ⟨_, he, ⟨dn, L, by rw [r2]; exact q.dur, ?_⟩, St.re (L := [_, _, _]) [0] [1, 2] hst⟩
    have hq := q.num
    have hq : 2 = 1 + L.length := hq
    omega
theorem aw_rs {ta : ByteArray} {W : World} {D5 : DevM} {As : List Ast} (H : Down (lawR 8 1) D5 600000000 ∧ ∃ L, Dur (lawR 8 1) D5.safe ⟨1, 0, 1⟩ 0 L (app (l0W ta) (was0 24 1)) ∧ L.length = 1) (k : St w W (pDev X D5 :: As)) : Calls Tryd.prog 26 #[pt X] W fun e w' => ∃ D6, e = .returned (.int .i64 0) ∧ (Live (lawR 8 1) D6 600000000 ∧ (∃ L, Dur (lawR 8 1) D6.safe ⟨1, 0, 1⟩ 0 L (app (l0W ta) (was0 24 1)) ∧ L.length = 1) ∧ D6.cache = [] ∧ D6.plan = none) ∧ St w w' (pDev X D6 :: As) := by
  obtain ⟨dn, L, d, hl⟩ := H
  obtain ⟨s1, s2, s3, s4, s5⟩ := down_restart dn
  have := prestart_any k
  rw [s1] at this
  exact this.mono fun e w' t => ⟨_, t.1, ⟨s2, ⟨L, by rw [s3]; exact d, hl⟩, s4, s5⟩, t.2⟩
theorem aw_o2 (g : Halves w) {ta : ByteArray} {W : World} {D6 : DevM} {As : List Ast} (lv : Live (lawR 8 1) D6 600000000) (hd : ∃ L, Dur (lawR 8 1) D6.safe ⟨1, 0, 1⟩ 0 L (app (l0W ta) (was0 24 1)) ∧ L.length = 1) (hc : D6.cache = []) (hp : D6.plan = none) (k : St w W (pDev X D6 :: As)) : Calls Tryd.prog 7 #[pt X, .int .i64 3, .int .i64 8] W fun e w' => ∃ J D7 s, e = .returned (.tuple #[pt J, .int .i64 1, .int .i64 0]) ∧ (∃ s, Holds (lawR 8 1) D7 s (app (l0W ta) (was0 24 1)) 4 500000000) ∧ St w w' (pDev X D7 :: aJrn J X (lawR 8 1) s false :: As) := by
  have a := lawR_ok 8 1 (by omega) (by omega) (by omega) (by omega)
  obtain ⟨L, d, hl⟩ := hd
  have := open_law (k := 3) (m := 500000000) a g k d hc (by rw [app_len2]; exact was0_len _ _) (lv.less (by omega)) (by show 1 ≤ 3; omega) (by show 1 + L.length ≤ 3; omega) (by omega)
  rw [hl] at this
  refine this.mono fun e w' q => ?_
  obtain ⟨D2, ⟨J, he, H, _, _, hst⟩ | ⟨_, hp2, _⟩⟩ := q
  · exact ⟨J, D2, _, he, ⟨_, H⟩, hst⟩
  · exact absurd hp hp2
theorem aw_rd {ta : ByteArray} {W : World} {D7 : DevM} {As : List Ast} (H : ∃ s, Holds (lawR 8 1) D7 s (app (l0W ta) (was0 24 1)) 4 500000000) (k : St w W (pDev X D7 :: As)) : Calls Tryd.prog 44 #[pt X, .int .i64 0] W fun e w' => ∃ D8, e = .returned (.tuple #[.string ta, .int .i64 0]) ∧ St w w' (pDev X D8 :: As) := by
  obtain ⟨s, H⟩ := H
  have hnb : D7.nb = 24 := H.live.nb
  have e : D7.read 0 = ({ D7 with reads := D7.reads + 1 }, D7.now 0, 0) := by
    unfold DevM.read
    rw [if_neg (by rw [H.live.up]; decide), if_pos ⟨by omega, by omega⟩]
    rfl
  obtain ⟨L, q⟩ := H.quiet
  have hv := q.view 0 (by show 0 < 24; omega) (by show ¬ (3 ≤ 0 ∧ _); omega)
  have hn : D7.now 0 = ta := by
    unfold DevM.now
    rw [hv, app_get (by rw [was0_len]; omega)]
    rfl
  have := pread_any k 0 ⟨by omega, by omega⟩ (room_less' H.live.room (by omega))
  rw [e, hn] at this
  exact this.mono fun e w' t => ⟨_, t.1, t.2⟩
set_option maxHeartbeats 2000000 in
theorem aw_calls (g : Halves w) : ∃ ta tb N D1 Q2 Q3 Q4 Q5 Q6 Q7 K1 K2 K3 K4 Wa Wb, AwCalls w As ta tb N D1 Q2 Q3 Q4 Q5 Q6 Q7 K1 K2 K3 K4 Wa Wb := by
  have a := lawR_ok 8 1 (by omega) (by omega) (by omega) (by omega)
  obtain ⟨f0, f1, f2, f3, f4⟩ := new_format 8 1 (by omega) (by omega) (by omega) (by omega)
  have ha : (fillM ⟨#[97]⟩ 512).size = 512 := fillM_size _ _
  have hb : (fillM ⟨#[98]⟩ 512).size = 512 := fillM_size _ _
  refine ⟨fillM ⟨#[97]⟩ 512, fillM ⟨#[98]⟩ 512, DevM.new 24 1, (runS (DevM.new 24 1) (formatS (lawR 8 1))).1,
    fun D2 => Holds (lawR 8 1) D2 ⟨⟨1, 0, 1⟩, 0, 0, 1⟩ (was0 24 1) 2 800000000 ∧ D2.plan = none,
    fun D3 => Holds (lawR 8 1) D3 sAw (app (l0W (fillM ⟨#[97]⟩ 512)) (was0 24 1)) 3 700000000,
    fun D4 => Holds (lawR 8 1) D4 sAw (app (l0W (fillM ⟨#[97]⟩ 512)) (was0 24 1)) 3 700000000 ∧ D4.plan = some ⟨3, [], -1, 0⟩,
    fun D5 => Down (lawR 8 1) D5 600000000 ∧ ∃ L, Dur (lawR 8 1) D5.safe ⟨1, 0, 1⟩ 0 L (app (l0W (fillM ⟨#[97]⟩ 512)) (was0 24 1)) ∧ L.length = 1,
    fun D6 => Live (lawR 8 1) D6 600000000 ∧ (∃ L, Dur (lawR 8 1) D6.safe ⟨1, 0, 1⟩ 0 L (app (l0W (fillM ⟨#[97]⟩ 512)) (was0 24 1)) ∧ L.length = 1) ∧ D6.cache = [] ∧ D6.plan = none,
    fun D7 => ∃ s, Holds (lawR 8 1) D7 s (app (l0W (fillM ⟨#[97]⟩ 512)) (was0 24 1)) 4 500000000,
    fun J X => aJrn J X (lawR 8 1) ⟨⟨1, 0, 1⟩, 0, 0, 1⟩ false, fun J X => aJrn J X (lawR 8 1) sAw false, fun J X => aJrn J X (lawR 8 1) sAw true, fun s J X => aJrn J X (lawR 8 1) s false,
    fun v => aWrs v (l0W (fillM ⟨#[97]⟩ 512)), fun v => aWrs v (l0W (fillM ⟨#[98]⟩ 512)), ?_⟩
  refine { new := fun W k => pnew_ok k 24 1 ⟨by omega, by omega, by omega, by omega⟩, fmt := fun W X k => ?_, open1 := fun W X k => ?_, filla := fun W => rfill_any ⟨#[97]⟩ 512 (by omega) (by omega) (by decide) W, fillb := fun W => rfill_any ⟨#[98]⟩ 512 (by omega) (by omega) (by decide) W, lita := fun W Bs k => aw_lit _ k, litb := fun W Bs k => aw_lit _ k, com1 := fun W X J D2 v q k => ?_, plan := fun W X J D3 q k => ?_, com2 := fun W X J D4 v q k => ?_, rest := fun W X D5 q k => ?_, open2 := fun W X D6 q k => ?_, read := fun W X J D7 s q k => ?_ }
  · have lv := new_live 8 1 (by omega) (by omega)
    have := pformat_st a g k rfl rfl rfl lv.ok (room_less' lv.room (by omega))
    rw [f0] at this
    exact this
  · refine (open_law (k := 1) (m := 800000000) a g k f4 f3 (was0_len _ _) (f1.less (by omega)) (by show 1 ≤ 1; omega) (by show 1 + 0 ≤ 1; omega) (by omega)).mono fun e w' q => ?_
    obtain ⟨D2, ⟨J, he, H, _, hp, hst⟩ | ⟨_, hp, _⟩⟩ := q
    · exact ⟨J, D2, he, ⟨H, hp f2⟩, hst⟩
    · exact absurd f2 hp
  · exact aw_c1 g ha q.1 q.2 k
  · exact aw_pl q k
  · exact aw_c2 g hb q.1 q.2 k
  · exact aw_rs q k
  · exact aw_o2 g q.1 q.2.1 q.2.2.1 q.2.2.2 k
  · exact aw_rd q k
end
end Go.Proofs.YtjmjmekmaamclaaDoor.jrn
/-
  Layer 5, the law: awake, walked.
-/
namespace Go.Proofs.YtjmjmekmaamclaaDoor.jrn
open Go.ChangeShapes Go.WideShapes Go.ChangeAt Go.RowKit mem dev sums
set_option linter.unusedVariables false
section
variable {w wr : World} {As : List Ast} {X J : Nat} {D : DevM}
set_option maxHeartbeats 4000000 in
set_option maxRecDepth 8000 in
theorem lawake_st (g : Halves w) (h : St w wr As) :
    Calls Tryd.prog 16 #[] wr fun e w' => e = .returned (.bool true) ∧ St w w' As := by
  obtain ⟨ta, tb, N, D1, Q2, Q3, Q4, Q5, Q6, Q7, K1, K2, K3, K4, Wa, Wb, A⟩ := aw_calls (w := w) (As := As) g
  have HS := Lib.hid h

  clear h g
  go_enter Tryd.func16, Tryd.ntmps16
  go_upto_region 4 with (first
    | ((go_at_call 14; refine (A.new _ HS.out).mono ?_; rintro e w2 ⟨X, rfl, hst⟩; have H1 := Lib.hid hst; clear hst))
    | ((go_at_call 8; refine (A.fmt _ _ H1.out).mono ?_; rintro e w3 ⟨rfl, hst⟩; have H2 := Lib.hid hst; clear hst)))
  go_upto_region 7 with (first
    | ((go_at_call 7; refine (A.open1 _ _ H2.out).mono ?_; rintro e w4 ⟨J, D2, rfl, hh, hst⟩; have HH2 := Lib.hid hh; have H3 := Lib.hid hst; clear hst hh H2))
    | ((go_at_call 15; refine (A.filla _).mono ?_; rintro e w5 ⟨rfl, rfl⟩))
    | ((go_at_call 9; refine (A.com1 _ _ _ _ _ HH2.out (A.lita _ _ H3.out)).mono ?_; rintro e w6 ⟨D3, rfl, hh, hst⟩; have HH3 := Lib.hid hh; have H4 := Lib.hid hst; clear hst hh H3)))
  go_upto_region 8 with ((go_at_call 20; refine (A.plan _ _ _ _ HH3.out H4.out).mono ?_; rintro e w7 ⟨D4, rfl, hh, hst⟩; have HH4 := Lib.hid hh; have H5 := Lib.hid hst; clear hst hh H4))
  go_upto_region 10 with (first
    | ((go_at_call 15; refine (A.fillb _).mono ?_; rintro e w5 ⟨rfl, rfl⟩))
    | ((go_at_call 9; refine (A.com2 _ _ _ _ _ HH4.out (A.litb _ _ H5.out)).mono ?_; rintro e w8 ⟨D5, rfl, hh, hst⟩; have HD5 := Lib.hid hh; have H6 := Lib.hid hst; clear hst hh H5))
    | ((go_at_call 26; refine (A.rest _ _ _ HD5.out H6.out).mono ?_; rintro e w9 ⟨D6, rfl, hh, hst⟩; have HD6 := Lib.hid hh; have H7 := Lib.hid hst; clear hst hh H6)))
  go_upto_region 11 with ((go_at_call 7; refine (A.open2 _ _ _ HD6.out H7.out).mono ?_; rintro e w10 ⟨J2, D7, s7, rfl, hh, hst⟩; have HH7 := Lib.hid hh; have H8 := Lib.hid hst; clear hst hh H7))
  go_upto_region 12 with ((go_at_call 44; refine (A.read _ _ _ _ _ HH7.out H8.out).mono ?_; rintro e w11 ⟨D8, rfl, hst⟩; have H9 := Lib.hid hst; clear hst))
  go_wp2_with ((go_at_call 15; refine (A.filla _).mono ?_; rintro e w5 ⟨rfl, rfl⟩))
  go_ret
  exact ⟨rfl, St.re (L := [_, _]) [] [0, 1] H9.out⟩
end
end Go.Proofs.YtjmjmekmaamclaaDoor.jrn
/-
  Layer 5, the law JournalRoom: its calls.
-/
namespace Go.Proofs.YtjmjmekmaamclaaDoor.jrn
open Go.ChangeShapes Go.WideShapes Go.ChangeAt Go.RowKit mem dev sums
set_option linter.unusedVariables false
theorem holds_was {R : Rg} {D : DevM} {s : JSt} {was was' : List ByteArray} {k m : Nat} (H : Holds R D s was k m) (hl : was'.length = R.nb) (h : ∀ n, n < R.nb → ¬ R.inR n → was'.getD n empty = was.getD n empty) : Holds R D s was' k m := by
  obtain ⟨L, q⟩ := H.quiet
  exact ⟨H.live, ⟨L, ⟨q.dur.sz, q.dur.hok, q.dur.at1, q.dur.slot, q.dur.other, q.dur.log, q.dur.tot, q.dur.fresh, fun n h1 h2 => (q.dur.out n h1 h2).trans (h n h1 h2).symm⟩, q.used, q.num, q.cache, fun n h1 h2 => (q.view n h1 h2).trans (h n h1 h2).symm⟩, H.own, H.num, H.used, H.at1, H.tail, hl⟩
theorem holds_out {ln ns : Nat} {D : DevM} {s : JSt} {was : List ByteArray} {k m : Nat} (hln : ln ≤ 14) (H : Holds (lawR ln ns) D s was k m) : Holds (lawR ln ns) D s (modK ln D.image) k m ∧ Outs ln (modK ln D.image) := by
  have hnb : D.nb = 24 := H.live.nb
  have hI : D.image.length = 24 := by rw [image_len, hnb]
  refine ⟨holds_was H (by rw [modK_len, hI]) fun n hn hr => ?_, modK_outs ln _ hI (by omega)⟩
  have hn : n < 24 := hn
  have hr : ¬ (3 ≤ n ∧ n < 3 + ln) := hr
  obtain ⟨L, q⟩ := H.quiet
  have hv := q.view n hn hr
  have e : (modK ln D.image).getD n empty = D.image.getD n empty := by
    unfold modK
    rw [List.getD_eq_getElem?_getD, List.getElem?_map, List.getElem?_range (by rw [hI]; exact hn)]
    simp only [Option.map_some, Option.getD_some]
    rw [if_neg hr]
  rw [e, image_get D (by rw [hnb]; exact hn)]
  exact hv
/-- JournalRoom's calls, over things that say no more of themselves. -/
structure RoomCalls (w : World) (ln : Nat) (N D1 : DevM) (P0 : DevM → JSt → Prop) (P : Nat → DevM → JSt → List ByteArray → Prop) (K : JSt → Nat → Nat → Ast) : Prop where
  new : Calls Tryd.prog 14 #[.agg #[.int .i64 24, .int .i64 1]] w fun e w' => ∃ X, e = .returned (.tuple #[pt X, .int .i64 0]) ∧ St w w' [pDev X N]
  fmt : ∀ W X, St w W [pDev X N] → Calls Tryd.prog 8 #[pt X, .int .i64 3, .int .i64 (ln : Int)] W fun e w' => e = .returned (.int .i64 0) ∧ St w w' [pDev X D1]
  awk : ∀ W As, St w W As → Calls Tryd.prog 16 #[] W fun e w' => e = .returned (.bool true) ∧ St w w' As
  open1 : ∀ W X, St w W [pDev X D1] → Calls Tryd.prog 7 #[pt X, .int .i64 3, .int .i64 (ln : Int)] W fun e w' => ∃ J D2 s, e = .returned (.tuple #[pt J, .int .i64 0, .int .i64 0]) ∧ P0 D2 s ∧ St w w' [pDev X D2, K s J X]
  most : ∀ W X J D s, P0 D s → St w W [pDev X D, K s J X] → Calls Tryd.prog 11 #[pt J] W fun e w' => e = .returned (.int .i64 ((ln : Int) - 4)) ∧ St w w' [pDev X D, K s J X]
  model0 : ∀ W X J D s, P0 D s → St w W [pDev X D, K s J X] → Calls Tryd.prog 17 #[pt X, .int .i64 (ln : Int)] W fun e w' => ∃ v was, e = .returned v ∧ P 0 D s was ∧ St w w' [aRow 9 1 v 24 (dev.strs was), pDev X D, K s J X]
  len : ∀ k D s was, P k D s was → was.length = 24
  number : ∀ W u out v was X J D s, St w W [aWrs u out, aRow 9 1 v 24 (dev.strs was), pDev X D, K s J X] → Calls Tryd.prog 13 #[pt J] W fun e w' => e = .returned (.int .u64 (s.num : Int)) ∧ St w w' [aWrs u out, aRow 9 1 v 24 (dev.strs was), pDev X D, K s J X]
  used : ∀ W u out v was X J D s, St w W [aWrs u out, aRow 9 1 v 24 (dev.strs was), pDev X D, K s J X] → Calls Tryd.prog 12 #[pt J] W fun e w' => e = .returned (.int .i64 (s.used : Int)) ∧ St w w' [aWrs u out, aRow 9 1 v 24 (dev.strs was), pDev X D, K s J X]
  commit : ∀ W u out v was X J D s k, k < 40 → P k D s was → PutsGood ln 512 out → St w W [aWrs u out, aRow 9 1 v 24 (dev.strs was), pDev X D, K s J X] → Calls Tryd.prog 9 #[pt J, u] W fun e w' => ∃ D' s', e = .returned (.int .i64 0) ∧ P (k + 1) D' s' (app out was) ∧ (s'.num : Int) = s.num + min out.length 1 ∧ s'.used ≤ ln - 2 ∧ s.num ≤ 1000 ∧ St w w' [aWrs u out, aRow 9 1 v 24 (dev.strs was), pDev X D', K s' J X]
  model : ∀ W v X J D s k was, k ≤ 40 → P k D s was → St w W [aRow 9 1 v 24 (dev.strs was), pDev X D, K s J X] → Calls Tryd.prog 17 #[pt X, .int .i64 (ln : Int)] W fun e w' => ∃ v2, e = .returned v2 ∧ St w w' [aRow 9 1 v2 24 (dev.strs was), aRow 9 1 v 24 (dev.strs was), pDev X D, K s J X]
section
variable {w wr : World} {As : List Ast} {X J : Nat} {D : DevM}
set_option maxHeartbeats 2000000 in
theorem room_calls (g : Halves w) (ln : Nat) (h6 : 6 ≤ ln) (h14 : ln ≤ 14) : ∃ N D1 P0 P K, RoomCalls w ln N D1 P0 P K := by
  have a := lawR_ok ln 1 (by omega) (by omega) (by omega) (by omega)
  obtain ⟨f0, f1, f2, f3, f4⟩ := new_format ln 1 h6 h14 (by omega) (by omega)
  refine ⟨DevM.new 24 1, (runS (DevM.new 24 1) (formatS (lawR ln 1))).1,
    fun D s => Holds (lawR ln 1) D s (was0 24 1) 2 800000000 ∧ D.plan = none,
    fun k D s was => Holds (lawR ln 1) D s was (k + 2) (700000000 - 1000 * k) ∧ D.plan = none ∧ Outs ln was,
    fun s J X => aJrn J X (lawR ln 1) s false, ?_⟩
  refine { new := pnew_ok (St.nil (Ch.refl _ w)) 24 1 ⟨by omega, by omega, by omega, by omega⟩, fmt := fun W X k => ?_, awk := fun W As k => lawake_st g k, open1 := fun W X k => ?_, most := fun W X J D s q k => ?_, model0 := fun W X J D s q k => ?_, len := fun k D s was q => q.2.2.len, number := fun W u out v was X J D s k => ?_, used := fun W u out v was X J D s k => ?_, commit := fun W u out v was X J D s k hk q hg st => ?_, model := fun W v X J D s k was hk q st => ?_ }
  · have lv := new_live ln 1 (by omega) (by omega)
    have := pformat_st a g k rfl rfl rfl lv.ok (room_less' lv.room (by omega))
    rw [f0] at this
    exact this
  · refine (open_law (k := 1) (m := 800000000) a g k f4 f3 (was0_len _ _) (f1.less (by omega)) (by show 1 ≤ 1; omega) (by show 1 + 0 ≤ 1; omega) (by omega)).mono fun e w' q => ?_
    obtain ⟨D2, ⟨J, he, H, _, hp, hst⟩ | ⟨_, hp, _⟩⟩ := q
    · exact ⟨J, D2, _, he, ⟨H, hp f2⟩, hst⟩
    · exact absurd f2 hp
  · have := pmost_st a k q.1.live.ns
    have e : ((lawR ln 1).most : Int) = (ln : Int) - 4 := by show (((ln - 4 : Nat)) : Int) = _; omega
    rw [e] at this
    exact this
  · obtain ⟨H, o⟩ := holds_out (by omega) q.1
    refine (lmodel_st k H.live.nb (room_less' H.live.room (by omega)) ln (by omega)).mono fun e w' t => ?_
    obtain ⟨v, he, hst⟩ := t
    exact ⟨v, _, he, ⟨H.less (by omega), q.2, o⟩, hst⟩
  · exact (number_st (St.re (L := [_, _, _, _]) [3, 0, 1, 2] [] k)).mono fun e w' t => ⟨t.1, St.re (L := [_, _, _, _]) [1, 2, 3, 0] [] t.2⟩
  · exact (used_st (St.re (L := [_, _, _, _]) [3, 0, 1, 2] [] k)).mono fun e w' t => ⟨t.1, St.re (L := [_, _, _, _]) [1, 2, 3, 0] [] t.2⟩
  · obtain ⟨H, hp, o⟩ := q
    have hv := puts_valid (ns := 1) h6 hg
    refine (commit_law (l := out) (m := 700000000 - 1000 * (k + 1)) a g (St.re (L := [_, _, _, _]) [2, 3, 0, 1] [] st) (H.less (by omega)) (by omega) u (l0_in (W := W)) hv).mono fun e w' q => ?_
    obtain ⟨x, D3, he, ⟨hx, H3, hp3, hn3, hst⟩ | ⟨_, hp3, _⟩⟩ := q
    · subst hx
      refine ⟨D3, _, he, ⟨H3, hp3 hp, outs_app o hg.each⟩, by rw [hn3]; omega, H3.used, by have := H.num; omega, St.re (L := [_, _, _, _]) [2, 3, 0, 1] [] hst⟩
    · exact absurd hp hp3
  · obtain ⟨H, hp, o⟩ := q
    have hm := holds_model H o
    have := lmodel_st (St.re (L := [_, _, _]) [1, 2, 0] [] st) H.live.nb (room_less' H.live.room (by omega)) ln (by omega)
    rw [hm] at this
    exact this.mono fun e w' t => by
      obtain ⟨v2, he, hst⟩ := t
      exact ⟨v2, he, St.re (L := [_, _, _, _]) [0, 3, 1, 2] [] hst⟩
end
end Go.Proofs.YtjmjmekmaamclaaDoor.jrn
