/-
  Layer 5, the program: checkpoint: the steps that make all places free, and the state behind it.
-/
import Derived.Test.YtjmjmekmaamclaaDoorMC
namespace Go.Proofs.YtjmjmekmaamclaaDoor.jrn
open Go.ChangeShapes Go.WideShapes Go.ChangeAt Go.RowKit mem dev sums
set_option linter.unusedVariables false
theorem results_tc {P : Program} {fn : Func} {p q : Tmp} {ty : TypeId} (h : fn.results = #[.tmp q, .cell p ty]) (tmps : Array Value) (w : World) (g : Nat) (t : TypeId) (cs : Array Value) (fr : Nat × Nat) (d : TypeDesc)
    (hp : tmps.getD p undef = .pointer (some ⟨g, 0, none⟩)) (hg : w.heap[g]? = some (.cells cs t fr))
    (hu : P.underlying ty = some d) (hd : (match d with | .struct _ | .array _ _ => true | _ => false) = true) (hi : (P.info? ty).map (·.size) = some cs.size) :
    (results fn tmps).run P w = .ok (.tuple #[tmps.getD q undef, .agg cs]) w := by
  have hp' : tmps[p]?.getD undef = .pointer (some ⟨g, 0, none⟩) := by simpa using hp
  simp [results, h, hp', asAddr, run_loadVar_row w g t ty cs fr d hg hu hd hi]
theorem Ch.frozen {w w' : World} (h : Ch0 w w') {a : Addr} (ha : a.block < w.heap.size) (hf : w.frozen? a = false) : w'.frozen? a = false := by
  unfold World.frozen? at hf ⊢
  rw [h.block a.block ha (fun h => h)]
  exact hf
theorem st_apart {w W : World} {As : List Ast} {a b : Nat} {o o' : Obj} (h : St w W (aBlk a o :: aBlk b o' :: As)) : ¬ a = b := by
  rintro rfl
  obtain ⟨U, ⟨F, V, ⟨_, h1⟩, ⟨F2, V2, ⟨_, k1⟩, k2, k3, k4⟩, h3, h4⟩, _⟩ := h
  exact h3 (a, []) ((h1 _).2 rfl) ((k4 _).2 (.inl ((k1 _).2 rfl)))
section
variable {w wr : World} {As : List Ast} {R : Rg} {X : Nat} {D : DevM}
theorem rs_cells {W : World} {B2 B3 : Nat} {s : JSt} {L : List Ast} (k : St w W (aVar B3 (stCells s) 69 :: aVar B2 (rgCells X R) 63 :: L)) :
    W.cell? ⟨B2, 0, none⟩ = some (pt X) ∧ W.cell? ⟨B2, 1, none⟩ = some (.int .i64 (R.st : Int)) ∧ W.cell? ⟨B2, 2, none⟩ = some (.int .i64 (R.ln : Int)) ∧ W.cell? ⟨B3, 0, none⟩ = some (.int .u64 (s.h.own : Int)) ∧ W.cell? ⟨B3, 1, none⟩ = some (.int .i64 (s.h.tail : Int)) ∧ W.cell? ⟨B3, 2, none⟩ = some (.int .u64 (s.h.num : Int)) ∧ W.cell? ⟨B3, 3, none⟩ = some (.int .i64 (s.at' : Int)) ∧ W.cell? ⟨B3, 4, none⟩ = some (.int .i64 (s.used : Int)) ∧ W.cell? ⟨B3, 5, none⟩ = some (.int .u64 (s.num : Int)) :=
  ⟨st_cell k.swap 0, st_cell k.swap 1, st_cell k.swap 2, st_cell k 0, st_cell k 1, st_cell k 2, st_cell k 3, st_cell k 4, st_cell k 5⟩
theorem behind_any (a : R.Ok) (X : Nat) (s : JSt) (ht : s.h.tail ≤ 4096) (hu : s.used ≤ 4096) (W : World) :
    Calls Tryd.prog 64 #[rgV X R, stV s] W fun e w' => e = .returned (.int .i64 ((s.h.tail + s.used) % R.ring : Nat)) ∧ Ch0 W w' :=
  (behind_st (w := W) a (St.nil (Ch.refl _ W)) s ht hu).mono fun e w' k => ⟨k.1, k.2.ch⟩
theorem build_zero (W : World) : (Instr.build 69 #[]).run Tryd.prog W = .ok (.agg #[.int .u64 0, .int .i64 0, .int .u64 0, .int .i64 0, .int .i64 0, .int .u64 0]) W := by kernel_rfl
theorem lst_buildz {ops : Array Oper} {rest : List Oper} {o : Oper} {a : Act} {Q : Exit → Act → World → Prop} (hgd : o.guard = none) (ho : o.op = .build 69 #[])
    (k : wpList Tryd.prog ops Q rest (a.put o.dst (.agg #[.int .u64 0, .int .i64 0, .int .u64 0, .int .i64 0, .int .i64 0, .int .u64 0])) wr) : wpList Tryd.prog ops Q (o :: rest) a wr :=
  wpList_plain hgd fun _ hK => by
    unfold Oper.wp
    simp [execOp, ho, build_zero, Result.andThen]
    exact hK _ _ k
abbrev zHd : List Value := [.int .u64 0, .int .i64 0, .int .u64 0]
abbrev zSt : List Value := [.int .u64 0, .int .i64 0, .int .u64 0, .int .i64 0, .int .i64 0, .int .u64 0]

set_option maxHeartbeats 2000000 in
set_option maxRecDepth 8000 in
theorem checkpoint_st (a : R.Ok) (g : Halves w) (h : St w wr (pDev X D :: As)) (hns : D.ns = R.ns) (s : JSt) (ho : s.h.own + 1 < 18446744073709551616) (ht : s.h.tail ≤ 4096) (hu : s.used ≤ 4096) (hn : s.num < 18446744073709551616) (hat : s.at' ≤ 1) :
    Calls Tryd.prog 40 #[rgV X R, stV s] wr fun e w' => ∃ v, e = .returned (.tuple #[v, stV (ckJ R s)]) ∧ St w w' (aSteps X R v (ckS R s) :: pDev X D :: As) := by
  have h1 := st_new (st_new (st_new h (rgCells X R) 63) (stCells s) 69) zSt 69
  simp only [World.size_alloc] at h1
  have H1 := Lib.hid h1
  have HB := Lib.hid (behind_any a X s ht hu)
  have HG := Lib.hid g
  have hz := z_big a
  have hz2 : R.z ≤ 4096 := by have := a.ns1; unfold Rg.z; omega
  have htl : (s.h.tail + s.used) % R.ring < R.ring := Nat.mod_lt _ (ring_pos a)
  have hrb := ring_big a
  have HCK : Hid (ckH R s = ⟨s.h.own + 1, (s.h.tail + s.used) % R.ring, s.num⟩) := Lib.hid rfl
  have HCJ : Hid (ckJ R s = ⟨ckH R s, 1 - s.at', 0, s.num⟩) := Lib.hid rfl
  have HCS : Hid (ckS R s = [.fl, .wr (R.st + (1 - s.at')) (headB (ckH R s) R.z), .fl]) := Lib.hid rfl
  have HHO : Hid ((ckH R s).own < 18446744073709551616 ∧ (ckH R s).tail < 4294967296 ∧ (ckH R s).num < 18446744073709551616) := Lib.hid ⟨ho, by show (s.h.tail + s.used) % R.ring < _; omega, hn⟩
  have HBL : Hid (∀ W L, St w W L → Calls Tryd.prog 33 #[hdV (ckH R s), .int .i64 (R.z : Int)] W fun e w' => e = .returned (.string (headB (ckH R s) R.z)) ∧ St w w' L) := Lib.hid fun W L k => block_st g k (ckH R s) R.z HHO.out.1 HHO.out.2.1 HHO.out.2.2 (by omega) hz2
  have HSI : Hid (∀ W L, St w W (pDev X D :: L) → Calls Tryd.prog 19 #[pt X] W fun e w' => e = .returned (.int .i64 (R.z : Int)) ∧ ∃ q, w' = W.drewN q) := Lib.hid fun W L k => by
    have := psize_any k
    rw [hns] at this
    exact this
  generalize headB (ckH R s) R.z = hb at HCS HBL
  have e0 : IntKind.u64.wrap ((s.h.own : Int) + 1) = (s.h.own : Int) + 1 := by rw [IntKind.wrap_u64]; omega
  obtain ⟨q, hq⟩ : ∃ q, q = 1 - s.at' := ⟨_, rfl⟩
  obtain ⟨n, hnq⟩ : ∃ n, n = R.st + q := ⟨_, rfl⟩
  have e1 : IntKind.i64.wrap (1 - (s.at' : Int)) = (q : Int) := by rw [IntWalk.i64_in _ (by omega)]; omega
  have e2 : IntKind.i64.wrap ((R.st : Int) + q) = (n : Int) := by
    have := a.fit; have := a.nb
    rw [IntWalk.i64_in _ (by omega)]; omega
  rw [← hq] at HCJ HCS
  rw [← hnq] at HCS
  generalize (s.h.tail + s.used) % R.ring = p at HB HCK
  clear h h1 hq hnq htl hrb hu ht hn ho hat hz hz2 hns g
  go_enter Tryd.func40, Tryd.ntmps40
  go_upto_region 1 with fail
  generalize wr.heap.size + 1 + 1 = B5 at H1 ⊢
  generalize wr.heap.size + 1 = B3 at H1 ⊢
  generalize wr.heap.size = B2 at H1 ⊢
  generalize ((wr.alloc _).alloc _).alloc _ = w1 at H1 ⊢
  have c0 : _ = some (pt X) := st_cell H1.out.third 0
  have c1 : _ = some (Value.int .i64 (R.st : Int)) := st_cell H1.out.third 1
  have c2 : _ = some (Value.int .i64 (R.ln : Int)) := st_cell H1.out.third 2
  have s0 : _ = some (Value.int .u64 (s.h.own : Int)) := st_cell H1.out.swap 0
  have s1 : _ = some (Value.int .i64 (s.h.tail : Int)) := st_cell H1.out.swap 1
  have s2 : _ = some (Value.int .u64 (s.h.num : Int)) := st_cell H1.out.swap 2
  have s3 : _ = some (Value.int .i64 (s.at' : Int)) := st_cell H1.out.swap 3
  have s4 : _ = some (Value.int .i64 (s.used : Int)) := st_cell H1.out.swap 4
  have s5 : _ = some (Value.int .u64 (s.num : Int)) := st_cell H1.out.swap 5
  go_cut [6] (fun x wx => ∃ B, x = pt B ∧ St w wx (aVar B [.int .u64 ((s.h.own : Int) + 1), .int .i64 (p : Int), .int .u64 (s.num : Int)] 67 :: aVar B5 zSt 69 :: aVar B3 (stCells s) 69 :: aVar B2 (rgCells X R) 63 :: pDev X D :: As))
  case first =>
    have HBS : Hid (∀ W L, St w W L → Calls Tryd.prog 64 #[rgV X R, stV s] W fun e w' => e = .returned (.int .i64 (p : Int)) ∧ St w w' L) := Lib.hid fun W L k => (HB.out W).mono fun e w' q => ⟨q.1, k.same q.2⟩
    have ne0 := World.new_ne w1 _ c0
    have ne1 := World.new_ne w1 _ s0
    go_region_held3 (fun w' => w'.cell? ⟨B2, 0, none⟩ = some (pt X) ∧ w'.cell? ⟨B2, 1, none⟩ = some (.int .i64 (R.st : Int)) ∧ w'.cell? ⟨B2, 2, none⟩ = some (.int .i64 (R.ln : Int)) ∧ w'.cell? ⟨B3, 0, none⟩ = some (.int .u64 (s.h.own : Int)) ∧ w'.cell? ⟨B3, 1, none⟩ = some (.int .i64 (s.h.tail : Int)) ∧ w'.cell? ⟨B3, 2, none⟩ = some (.int .u64 (s.h.num : Int)) ∧ w'.cell? ⟨B3, 3, none⟩ = some (.int .i64 (s.at' : Int)) ∧ w'.cell? ⟨B3, 4, none⟩ = some (.int .i64 (s.used : Int)) ∧ w'.cell? ⟨B3, 5, none⟩ = some (.int .u64 (s.num : Int))) (go_keep) ((go_at_call 64; first
      | (with_reducible refine (HBS.out _ (aVar B5 zSt 69 :: aVar B3 (stCells s) 69 :: aVar B2 (rgCells X R) 63 :: pDev X D :: As) (by first | exact H1.out | exact H1.out.drew | exact H1.out.drewN _)).mono ?_; rintro e w2 ⟨rfl, hst⟩; obtain ⟨m0, m1, m2, m3, m4, m5, m6, m7, m8⟩ := rs_cells hst.drop; have H2 := Lib.hid hst; clear hst)
      | (with_reducible refine (HBS.out _ (aVar w1.heap.size zHd 67 :: aVar B5 zSt 69 :: aVar B3 (stCells s) 69 :: aVar B2 (rgCells X R) 63 :: pDev X D :: As) (by first | exact st_new H1.out _ _ | exact st_new H1.out.drew _ _ | exact st_new (H1.out.drewN _) _ _ | exact (st_new H1.out _ _).drew | exact (st_new H1.out _ _).drewN _ | exact (st_new H1.out.drew _ _).drew | exact (st_new (H1.out.drewN _) _ _).drewN _ | exact (st_new (H1.out.drewN _) _ _).drew)).mono ?_; rintro e w2 ⟨rfl, hst⟩; obtain ⟨m0, m1, m2, m3, m4, m5, m6, m7, m8⟩ := rs_cells hst.drop.drop; have z0 : _ = some (Value.int .u64 0) := st_cell hst 0; have z1 : _ = some (Value.int .i64 0) := st_cell hst 1; have z2 : _ = some (Value.int .u64 0) := st_cell hst 2; have zf := st_free hst; have H2A := Lib.hid hst; clear hst)))
    all_goals
      go_wp2_with fail
      go_meet
      refine ⟨_, rfl, ?_⟩
      first
        | exact st_new H2.out _ _
        | exact st_set (st_set (st_set H2A.out 0 _) 1 _) 2 _
  case rest =>
    obtain ⟨B6, rfl, hst⟩ := hcut
    clear c0 c1 c2 s0 s1 s2 s3 s4 s5 H1 HB
    generalize w1 = w1 at hst ⊢
    have n0 : _ = some (Value.int .u64 ((s.h.own : Int) + 1)) := st_cell hst 0
    have n1 : _ = some (Value.int .i64 (p : Int)) := st_cell hst 1
    have n2 : _ = some (Value.int .u64 (s.num : Int)) := st_cell hst 2
    obtain ⟨c0, c1, c2, s0, s1, s2, s3, s4, s5⟩ := rs_cells hst.drop.drop
    have sf := st_free hst.third
    have ho3 := (st_set (st_set (st_set (st_set (st_set (st_set hst.third 0 (.int .u64 ((s.h.own : Int) + 1))) 1 (.int .i64 (p : Int))) 2 (.int .u64 (s.num : Int))) 3 (.int .i64 (q : Int))) 4 (.int .i64 0)) 5 (.int .u64 (s.num : Int)))
    have H2 : Hid (St w _ (aVar B3 (stCells (ckJ R s)) 69 :: aVar B6 (hdCells (ckH R s)) 67 :: aVar B5 zSt 69 :: aVar B2 (rgCells X R) 63 :: pDev X D :: As)) := Lib.hid (by rw [HCJ.out, HCK.out]; exact ho3)
    clear hst ho3
    obtain ⟨o, ho⟩ : ∃ o, o = s.h.own + 1 := ⟨_, rfl⟩
    have HCJ2 : Hid (ckJ R s = ⟨⟨o, p, s.num⟩, q, 0, s.num⟩) := Lib.hid (by rw [HCJ.out, HCK.out, ho])
    go_upto_region 2 with fail
    go_cut [] (fun wx => St w wx (aVar B3 [.int .u64 (o : Int), .int .i64 (p : Int), .int .u64 (s.num : Int), .int .i64 (q : Int), .int .i64 0, .int .u64 (s.num : Int)] 69 :: aVar B6 [.int .u64 (o : Int), .int .i64 (p : Int), .int .u64 (s.num : Int)] 67 :: aVar B5 zSt 69 :: aVar B2 (rgCells X R) 63 :: pDev X D :: As))
    case first =>
      go_wp2_with fail
      go_meet
      have h3 := H2.out
      rw [HCJ2.out, HCK.out, ← ho] at h3
      exact h3
    rw [HCK.out, ← ho] at HBL
    clear e0 n0 n1 n2 c0 c1 c2 s0 s1 s2 s3 s4 s5 sf HCK HCJ HHO H2 ho
    have H2 := Lib.hid hcut
    clear hcut
    have a53 := st_apart H2.out.third
    have a56 : ¬ B5 = B6 := st_apart (St.drop H2.out).swap
    have a52 : ¬ B5 = B2 := st_apart H2.out.drop.drop
    have a35 : ¬ B3 = B5 := fun e => a53 e.symm
    have a65 : ¬ B6 = B5 := fun e => a56 e.symm
    have a25 : ¬ B2 = B5 := fun e => a52 e.symm
    have HKF : Hid (∀ W L, St w W (aVar B3 (stCells ⟨⟨o, p, s.num⟩, q, 0, s.num⟩) 69 :: aVar B6 (hdCells ⟨o, p, s.num⟩) 67 :: aVar B5 zSt 69 :: aVar B2 (rgCells X R) 63 :: L) →  W.cell? ⟨B2, 0, none⟩ = some (pt X) ∧ W.cell? ⟨B2, 1, none⟩ = some (.int .i64 (R.st : Int)) ∧ W.cell? ⟨B2, 2, none⟩ = some (.int .i64 (R.ln : Int)) ∧ W.cell? ⟨B3, 0, none⟩ = some (.int .u64 (o : Int)) ∧ W.cell? ⟨B3, 1, none⟩ = some (.int .i64 (p : Int)) ∧ W.cell? ⟨B3, 2, none⟩ = some (.int .u64 (s.num : Int)) ∧ W.cell? ⟨B3, 3, none⟩ = some (.int .i64 (q : Int)) ∧ W.cell? ⟨B3, 4, none⟩ = some (.int .i64 0) ∧ W.cell? ⟨B3, 5, none⟩ = some (.int .u64 (s.num : Int)) ∧ W.cell? ⟨B6, 0, none⟩ = some (.int .u64 (o : Int)) ∧ W.cell? ⟨B6, 1, none⟩ = some (.int .i64 (p : Int)) ∧ W.cell? ⟨B6, 2, none⟩ = some (.int .u64 (s.num : Int))) := Lib.hid fun W L k =>
      ⟨st_cell k.fourth 0, st_cell k.fourth 1, st_cell k.fourth 2, st_cell k 0, st_cell k 1, st_cell k 2, st_cell k 3, st_cell k 4, st_cell k 5, st_cell k.swap 0, st_cell k.swap 1, st_cell k.swap 2⟩
    go_upto_region 3 with fail
    obtain ⟨c0, c1, c2, s0, s1, s2, s3, s4, s5, n0, n1, n2⟩ := HKF.out _ _ H2.out
    go_region_held3 (fun w' => w'.cell? ⟨B2, 0, none⟩ = some (pt X) ∧ w'.cell? ⟨B2, 1, none⟩ = some (.int .i64 (R.st : Int)) ∧ w'.cell? ⟨B2, 2, none⟩ = some (.int .i64 (R.ln : Int)) ∧ w'.cell? ⟨B3, 0, none⟩ = some (.int .u64 (o : Int)) ∧ w'.cell? ⟨B3, 1, none⟩ = some (.int .i64 (p : Int)) ∧ w'.cell? ⟨B3, 2, none⟩ = some (.int .u64 (s.num : Int)) ∧ w'.cell? ⟨B3, 3, none⟩ = some (.int .i64 (q : Int)) ∧ w'.cell? ⟨B3, 4, none⟩ = some (.int .i64 0) ∧ w'.cell? ⟨B3, 5, none⟩ = some (.int .u64 (s.num : Int)) ∧ w'.cell? ⟨B6, 0, none⟩ = some (.int .u64 (o : Int)) ∧ w'.cell? ⟨B6, 1, none⟩ = some (.int .i64 (p : Int)) ∧ w'.cell? ⟨B6, 2, none⟩ = some (.int .u64 (s.num : Int))) (go_keep) (first
      | ((go_at_call 19; with_reducible refine (HSI.out _ _ (by first | exact H2.out.fifth | exact H2.out.fifth.drew | exact H2.out.fifth.drewN _)).mono ?_; rintro e w2 ⟨rfl, k, rfl⟩))
      | ((go_at_call 33; with_reducible refine (HBL.out _ _ (by first | exact H2.out | exact H2.out.drew | exact H2.out.drewN _ | exact (H2.out.drewN _).drewN _ | exact (H2.out.drew).drewN _)).mono ?_; rintro e w3 ⟨rfl, hst⟩; obtain ⟨c0, c1, c2, s0, s1, s2, s3, s4, s5, n0, n1, n2⟩ := HKF.out _ _ hst; have H3 := Lib.hid hst; clear hst))
      | ((go_at_call 31; refine (write_st (X := X) (R := R) (by first | exact H3.out | exact H3.out.drew | exact H3.out.drewN _) n hb).mono ?_; rintro e w4 ⟨b1, b2, b3, rfl, hst⟩; obtain ⟨c0, c1, c2, s0, s1, s2, s3, s4, s5, n0, n1, n2⟩ := HKF.out _ _ hst.drop; have z0 : _ = some (Value.int .u64 0) := st_cell hst.fourth 0; have z1 : _ = some (Value.int .i64 0) := st_cell hst.fourth 1; have z2 : _ = some (Value.int .u64 0) := st_cell hst.fourth 2; have z3 : _ = some (Value.int .i64 0) := st_cell hst.fourth 3; have z4 : _ = some (Value.int .i64 0) := st_cell hst.fourth 4; have z5 : _ = some (Value.int .u64 0) := st_cell hst.fourth 5; have ga0 : ∀ o, (w4.alloc o).cell? ⟨B5, 0, none⟩ = some (Value.int .u64 0) := fun o => st_cell (hst.fourth.alloc o) 0; have gb0 : ∀ k o, ((w4.drewN k).alloc o).cell? ⟨B5, 0, none⟩ = some (Value.int .u64 0) := fun k o => st_cell ((hst.fourth.drewN k).alloc o) 0; have gc0 : ∀ o, (w4.drew.alloc o).cell? ⟨B5, 0, none⟩ = some (Value.int .u64 0) := fun o => st_cell ((hst.fourth.drew).alloc o) 0; have ga1 : ∀ o, (w4.alloc o).cell? ⟨B5, 1, none⟩ = some (Value.int .i64 0) := fun o => st_cell (hst.fourth.alloc o) 1; have gb1 : ∀ k o, ((w4.drewN k).alloc o).cell? ⟨B5, 1, none⟩ = some (Value.int .i64 0) := fun k o => st_cell ((hst.fourth.drewN k).alloc o) 1; have gc1 : ∀ o, (w4.drew.alloc o).cell? ⟨B5, 1, none⟩ = some (Value.int .i64 0) := fun o => st_cell ((hst.fourth.drew).alloc o) 1; have ga2 : ∀ o, (w4.alloc o).cell? ⟨B5, 2, none⟩ = some (Value.int .u64 0) := fun o => st_cell (hst.fourth.alloc o) 2; have gb2 : ∀ k o, ((w4.drewN k).alloc o).cell? ⟨B5, 2, none⟩ = some (Value.int .u64 0) := fun k o => st_cell ((hst.fourth.drewN k).alloc o) 2; have gc2 : ∀ o, (w4.drew.alloc o).cell? ⟨B5, 2, none⟩ = some (Value.int .u64 0) := fun o => st_cell ((hst.fourth.drew).alloc o) 2; have ga3 : ∀ o, (w4.alloc o).cell? ⟨B5, 3, none⟩ = some (Value.int .i64 0) := fun o => st_cell (hst.fourth.alloc o) 3; have gb3 : ∀ k o, ((w4.drewN k).alloc o).cell? ⟨B5, 3, none⟩ = some (Value.int .i64 0) := fun k o => st_cell ((hst.fourth.drewN k).alloc o) 3; have gc3 : ∀ o, (w4.drew.alloc o).cell? ⟨B5, 3, none⟩ = some (Value.int .i64 0) := fun o => st_cell ((hst.fourth.drew).alloc o) 3; have ga4 : ∀ o, (w4.alloc o).cell? ⟨B5, 4, none⟩ = some (Value.int .i64 0) := fun o => st_cell (hst.fourth.alloc o) 4; have gb4 : ∀ k o, ((w4.drewN k).alloc o).cell? ⟨B5, 4, none⟩ = some (Value.int .i64 0) := fun k o => st_cell ((hst.fourth.drewN k).alloc o) 4; have gc4 : ∀ o, (w4.drew.alloc o).cell? ⟨B5, 4, none⟩ = some (Value.int .i64 0) := fun o => st_cell ((hst.fourth.drew).alloc o) 4; have ga5 : ∀ o, (w4.alloc o).cell? ⟨B5, 5, none⟩ = some (Value.int .u64 0) := fun o => st_cell (hst.fourth.alloc o) 5; have gb5 : ∀ k o, ((w4.drewN k).alloc o).cell? ⟨B5, 5, none⟩ = some (Value.int .u64 0) := fun k o => st_cell ((hst.fourth.drewN k).alloc o) 5; have gc5 : ∀ o, (w4.drew.alloc o).cell? ⟨B5, 5, none⟩ = some (Value.int .u64 0) := fun o => st_cell ((hst.fourth.drew).alloc o) 5; have zf := st_free hst.fourth; have ne0 := World.new_ne _ _ z0; have fa : ∀ o i, (w4.alloc o).frozen? ⟨B5, i, none⟩ = false := fun o i => st_free (hst.fourth.alloc o) i; have fb : ∀ k o i, ((w4.drewN k).alloc o).frozen? ⟨B5, i, none⟩ = false := fun k o i => st_free ((hst.fourth.drewN k).alloc o) i; have fc : ∀ o i, (w4.drew.alloc o).frozen? ⟨B5, i, none⟩ = false := fun o i => st_free ((hst.fourth.drew).alloc o) i; have H4 := Lib.hid hst; clear hst)))
    all_goals
      go_wp2_with fail
      have hL := st_lit H4.out tFn 1 3 [.func (Fn.func 27) #[pt X] #[], .func (Fn.func 57) #[] #[pt b1, pt b2, pt b3], .func (Fn.func 27) #[pt X] #[]] rfl (by decide)
      have hS := st_set (st_set (st_set (st_set (st_set (st_set hL.fifth 0 (.int .u64 (o : Int))) 1 (.int .i64 (p : Int))) 2 (.int .u64 (s.num : Int))) 3 (.int .i64 (q : Int))) 4 (.int .i64 0)) 5 (.int .u64 (s.num : Int))
      have HBK := Lib.hid (st_blk hS)
      have k1 := hS.drop.third.drop.third.drop.third.drop
      have k2 := (stp_fl (X := X) (R := R) k1.swap).third
      have k3 := St.behind (As := [_, _, _]) (stp_fl (X := X) (R := R) k2)
      have HF := Lib.hid (k3.rest (Bs := aMany [_, _, _] :: _) fun V k => Sep.gather (As := [_, _, _]) k)
      clear hL hS k1 k2 k3
      refine bodyPost_ret (results_tc rfl _ _ B5 69 #[.int .u64 (o : Int), .int .i64 (p : Int), .int .u64 (s.num : Int), .int .i64 (q : Int), .int .i64 0, .int .u64 (s.num : Int)] (0, 0) _ rfl HBK.out Tryd.underlying69 rfl sizeSt) rfl ?_
      refine ⟨_, by rw [HCJ2.out]; rfl, ?_⟩
      rw [HCS.out]
      exact steps_shut [.func (Fn.func 27) #[pt X] #[], .func (Fn.func 57) #[] #[pt b1, pt b2, pt b3], .func (Fn.func 27) #[pt X] #[]] ⟨rfl, fun u hu => by
        simp only [List.mem_cons, List.not_mem_nil, or_false] at hu
        rcases hu with rfl | rfl | rfl <;> rfl⟩ HF.out
end
end Go.Proofs.YtjmjmekmaamclaaDoor.jrn
