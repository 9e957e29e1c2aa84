/-
  Layer 5, the program: a journal as an object; regionOf, refused, carryOut, Used, Most, Number.
-/
import Derived.Test.YtjmjmekmaamclaaDoorMG
import Derived.Test.YtjmjmekmaamclaaDoorHA
import Derived.Test.YtjmjmekmaamclaaDoorMH
import Derived.Test.YtjmjmekmaamclaaDoorMB
import Derived.Test.YtjmjmekmaamclaaDoorMC
namespace Go.Proofs.YtjmjmekmaamclaaDoor.jrn
open Go.ChangeShapes Go.WideShapes Go.ChangeAt Go.RowKit mem dev sums
set_option linter.unusedVariables false
abbrev jCells (X : Nat) (R : Rg) (s : JSt) (dead : Bool) : List Value := [pt X, .int .i64 (R.st : Int), .int .i64 (R.ln : Int), .int .u64 (s.h.own : Int), .int .i64 (s.h.tail : Int), .int .u64 (s.h.num : Int), .int .i64 (s.at' : Int), .int .i64 (s.used : Int), .int .u64 (s.num : Int), .bool dead]
abbrev aJrn (J X : Nat) (R : Rg) (s : JSt) (dead : Bool) : Ast := aVar J (jCells X R s dead) 75
section
variable {w wr : World} {As : List Ast} {R : Rg} {X J : Nat} {D : DevM} {s : JSt} {dead : Bool}
theorem region_ok (a : R.Ok) (h : St w wr (pDev X D :: As)) (hnb : D.nb = R.nb) (hup : D.down = false) :
    Calls Tryd.prog 28 #[pt X, .int .i64 (R.st : Int), .int .i64 (R.ln : Int)] wr fun e w' => e = .returned (.tuple #[rgV X R, .int .i64 0]) ∧ St w w' (pDev X D :: As) := by
  have h1 := st_new h [.pointer none, .int .i64 0, .int .i64 0] 63
  have HD := Lib.hid (pdown_any h1.swap)
  rw [hup] at HD
  have HB : Hid (∀ q, Calls Tryd.prog 52 #[pt X] ((wr.alloc (.cells #[.pointer none, .int .i64 0, .int .i64 0] 63)).drewN q) fun e w' => e = .returned (.int .i64 (R.nb : Int)) ∧ ∃ q2, w' = (wr.alloc (.cells #[.pointer none, .int .i64 0, .int .i64 0] 63)).drewN q2) := Lib.hid fun q => by
    have := pblocks_any (h1.swap.drewN q)
    rw [hnb] at this
    exact this.mono fun e w' k => ⟨k.1, by obtain ⟨q2, rfl⟩ := k.2; exact ⟨q + q2, by simp [World.drewN, Nat.add_assoc]⟩⟩
  have H1 := Lib.hid h1
  have k1 := a.six
  have k2 := a.fit
  have k3 := a.nb
  have e1 : IntKind.i64.wrap ((R.nb : Int) - R.ln) = (R.nb : Int) - R.ln := IntWalk.i64_in _ (by omega)
  have g1 : ¬ (R.st : Int) < 0 := by omega
  have g2 : ¬ (R.ln : Int) < 6 := by omega
  have g3 : ¬ (R.nb : Int) - R.ln < R.st := by omega
  have g4 : (R.st : Int) ≤ (R.nb : Int) - R.ln := by omega
  have g5 : (6 : Int) ≤ R.ln := by omega
  have g6 : (0 : Int) ≤ R.st := by omega
  have HBK := Lib.hid fun q => st_blk (h1.drewN q)
  clear h h1 hup hnb k1 k2 k3 a
  go_enter Tryd.func28, Tryd.ntmps28
  go_wp2_with (first
    | ((go_at_call 22; refine HD.out.mono ?_; rintro e w2 ⟨rfl, q, rfl⟩))
    | ((go_at_call 52; refine (HB.out _).mono ?_; rintro e w3 ⟨rfl, q2, rfl⟩))
    | ((refine wpList_store_row rfl 63 _ _ rfl wr.heap.size (rgCells X R).toArray rfl rfl 63 _ (HBK.out _) sizeRg rfl (by simp [Value.oneCell']) ?_)))
  have h5 := st_setrow (cs := (rgCells X R).toArray) (H1.out.drewN q2)
  refine bodyPost_ret (results_ct rfl _ _ wr.heap.size 63 _ (0, 0) _ rfl (st_blk h5) Tryd.underlying63 rfl sizeRg) rfl ?_
  exact ⟨rfl, h5.drop⟩
theorem refused_st (h : St w wr (aJrn J X R s dead :: As)) :
    Calls Tryd.prog 35 #[pt J] wr fun e w' => e = .returned (.int .i64 (if dead = true then 16 else 0)) ∧ w' = wr := by
  have c9 : _ = some (Value.bool dead) := st_cell h 9
  clear h
  go_enter Tryd.func35, Tryd.ntmps35
  cases dead with
  | true =>
    go_wp2_with fail
    go_ret
    exact ⟨rfl, rfl⟩
  | false =>
    go_wp2_with fail
    go_ret
    exact ⟨rfl, rfl⟩
theorem used_st (h : St w wr (aJrn J X R s dead :: As)) :
    Calls Tryd.prog 12 #[pt J] wr fun e w' => e = .returned (.int .i64 (s.used : Int)) ∧ St w w' (aJrn J X R s dead :: As) := by
  have c7 : _ = some (Value.int .i64 (s.used : Int)) := st_cell h 7
  have H := Lib.hid h
  clear h
  go_enter Tryd.func12, Tryd.ntmps12
  go_wp2_with fail
  go_ret
  exact ⟨rfl, H.out⟩
theorem number_st (h : St w wr (aJrn J X R s dead :: As)) :
    Calls Tryd.prog 13 #[pt J] wr fun e w' => e = .returned (.int .u64 (s.num : Int)) ∧ St w w' (aJrn J X R s dead :: As) := by
  have c8 : _ = some (Value.int .u64 (s.num : Int)) := st_cell h 8
  have H := Lib.hid h
  clear h
  go_enter Tryd.func13, Tryd.ntmps13
  go_wp2_with fail
  go_ret
  exact ⟨rfl, H.out⟩
theorem pmost_st (a : R.Ok) (h : St w wr (pDev X D :: aJrn J X R s dead :: As)) (hns : D.ns = R.ns) :
    Calls Tryd.prog 11 #[pt J] wr fun e w' => e = .returned (.int .i64 (R.most : Int)) ∧ St w w' (pDev X D :: aJrn J X R s dead :: As) := by
  have c0 : _ = some (pt X) := st_cell h.swap 0
  have c1 : _ = some (Value.int .i64 (R.st : Int)) := st_cell h.swap 1
  have c2 : _ = some (Value.int .i64 (R.ln : Int)) := st_cell h.swap 2
  have HM := Lib.hid (most_st a h hns)
  clear h
  go_enter Tryd.func11, Tryd.ntmps11
  go_wp2_with ((go_at_call 37; refine HM.out.mono ?_; rintro e w2 ⟨rfl, hst⟩; have H2 := Lib.hid hst; clear hst))
  go_ret
  exact ⟨rfl, H2.out⟩
theorem carry_st {v : Value} {l : List Stp} (h : St w wr (aSteps X R v l :: pDev X D :: aJrn J X R s false :: As)) (hup : D.down = false) (hl : ∀ x ∈ l, x.Ok D.nb (512 * D.ns)) (a : D.Ok) (hR : D.Room l.length) (hlen : l.length ≤ 1073741824) (s2 : JSt) :
    Calls Tryd.prog 38 #[pt J, v, stV s2] wr fun e w' => ((runS D l).2 = 0 ∧ e = .returned (.int .i64 0) ∧ St w w' (pDev X (runS D l).1 :: aJrn J X R s2 false :: As)) ∨ ((runS D l).2 = 8 ∧ e = .returned (.int .i64 8) ∧ St w w' (pDev X (runS D l).1 :: aJrn J X R s true :: As)) := by
  have h1 := st_new h (stCells s2) 69
  have c0 : _ = some (pt X) := st_cell (St.drop h1).third 0
  have HD := Lib.hid (pdown_any h1.third)
  rw [hup] at HD
  have h2 : St w _ (aSteps X R v l :: pDev X D :: aVar wr.heap.size (stCells s2) 69 :: aJrn J X R s false :: As) := St.re (L := [_, _, _, _]) [1, 2, 0, 3] [] h1
  have HR : Hid (∀ q, Calls Tryd.prog 34 #[v] ((wr.alloc (.cells (stCells s2).toArray 69)).drewN q) fun e w' => e = .returned (.int .i64 (runS D l).2) ∧ St w w' (pDev X (runS D l).1 :: aVar wr.heap.size (stCells s2) 69 :: aJrn J X R s false :: As)) := Lib.hid fun q => run_st (h2.drewN q) hup hl a hR hlen
  rcases run_cases l D hup hl a with ⟨h0, _⟩ | ⟨h8, _⟩
  · have H0 := Lib.hid h0
    rw [h0] at HR
    generalize (runS D l).1 = E at HR
    clear h h1 h2 hup hl a hR hlen h0
    go_enter Tryd.func38, Tryd.ntmps38
    go_wp2_with (first
      | ((go_at_call 22; refine HD.out.mono ?_; rintro e w2 ⟨rfl, q, rfl⟩))
      | ((go_at_call 34; refine (HR.out _).mono ?_; rintro e w3 ⟨rfl, hst⟩; have s0 : _ = some (Value.int .u64 (s2.h.own : Int)) := st_cell hst.swap 0; have s1 : _ = some (Value.int .i64 (s2.h.tail : Int)) := st_cell hst.swap 1; have t2 : _ = some (Value.int .u64 (s2.h.num : Int)) := st_cell hst.swap 2; have s3 : _ = some (Value.int .i64 (s2.at' : Int)) := st_cell hst.swap 3; have s4 : _ = some (Value.int .i64 (s2.used : Int)) := st_cell hst.swap 4; have s5 : _ = some (Value.int .u64 (s2.num : Int)) := st_cell hst.swap 5; have j3 : _ = some (Value.int .u64 (s.h.own : Int)) := st_cell hst.third 3; have j4 : _ = some (Value.int .i64 (s.h.tail : Int)) := st_cell hst.third 4; have j5 : _ = some (Value.int .u64 (s.h.num : Int)) := st_cell hst.third 5; have j6 : _ = some (Value.int .i64 (s.at' : Int)) := st_cell hst.third 6; have j7 : _ = some (Value.int .i64 (s.used : Int)) := st_cell hst.third 7; have j8 : _ = some (Value.int .u64 (s.num : Int)) := st_cell hst.third 8; have jf := st_free hst.third; have H3 := Lib.hid hst.third; clear hst)))
    go_ret
    refine .inl ⟨H0.out, rfl, ?_⟩
    have h5 := st_set (st_set (st_set (st_set (st_set (st_set H3.out 3 (.int .u64 (s2.h.own : Int))) 4 (.int .i64 (s2.h.tail : Int))) 5 (.int .u64 (s2.h.num : Int))) 6 (.int .i64 (s2.at' : Int))) 7 (.int .i64 (s2.used : Int))) 8 (.int .u64 (s2.num : Int))
    exact St.re (L := [_, _, _]) [1, 0] [2] h5
  · have H8 := Lib.hid h8
    rw [h8] at HR
    generalize (runS D l).1 = E at HR
    clear h h1 h2 hup hl a hR hlen h8
    go_enter Tryd.func38, Tryd.ntmps38
    go_wp2_with (first
      | ((go_at_call 22; refine HD.out.mono ?_; rintro e w2 ⟨rfl, q, rfl⟩))
      | ((go_at_call 34; refine (HR.out _).mono ?_; rintro e w3 ⟨rfl, hst⟩; have j9 : _ = some (Value.bool false) := st_cell hst.third 9; have jf := st_free hst.third; have H3 := Lib.hid hst.third; clear hst)))
    go_ret
    refine .inr ⟨H8.out, rfl, ?_⟩
    exact St.re (L := [_, _, _]) [1, 0] [2] (st_set H3.out 9 (.bool true))
end
end Go.Proofs.YtjmjmekmaamclaaDoor.jrn
/-
  Layer 5, the program: Checkpoint, Commit.
-/
namespace Go.Proofs.YtjmjmekmaamclaaDoor.jrn
open Go.ChangeShapes Go.WideShapes Go.ChangeAt Go.RowKit mem dev sums
set_option linter.unusedVariables false
theorem placed_len (R : Rg) : ∀ (ts : List ByteArray) (p : Nat), (placed R p ts).length = ts.length
  | [], _ => rfl
  | x :: ts, p => by show (placed R (p + 1) ts).length + 1 = _; rw [placed_len R ts]; rfl
theorem recB_z {R : Rg} (a : R.Ok) (n : Nat) (ts : List ByteArray) : (recB n ts R.z).size = R.z := by
  have := z_big a
  exact recB_size _ _ (by omega)
theorem txS_ok {R : Rg} (a : R.Ok) {D : DevM} (hnb : D.nb = R.nb) (hns : D.ns = R.ns) (s : JSt) {l : List Wr} (v : ValidW R l) : ∀ x ∈ txS R s l, x.Ok D.nb (512 * D.ns) := by
  have hz : 512 * D.ns = R.z := by rw [hns]; rfl
  intro x hx
  unfold txS at hx
  rcases List.mem_append.1 hx with h | h
  · obtain ⟨y, hy, rfl⟩ := List.mem_map.1 h
    obtain ⟨i, hi, rfl⟩ := placed_mem hy
    exact ⟨by rw [hnb]; exact place_lt a _, by rw [hz]; exact txn_size a _ v _ (List.getElem_mem hi)⟩
  · rcases List.mem_append.1 h with h | h
    · simp only [recS, List.mem_cons, List.not_mem_nil, or_false] at h
      rcases h with rfl | rfl | rfl
      · trivial
      · exact ⟨by rw [hnb]; exact place_lt a _, by rw [hz]; exact recB_z a _ _⟩
      · trivial
    · exact wrs_ok hnb hns v.each x h
theorem ckS_ok2 {R : Rg} (a : R.Ok) {D : DevM} (hnb : D.nb = R.nb) (hns : D.ns = R.ns) (s : JSt) (hat : s.at' ≤ 1) : ∀ x ∈ ckS R s, x.Ok D.nb (512 * D.ns) := by
  have h1 := a.six
  have h2 := a.fit
  have hz := z_big a
  intro x hx
  simp only [ckS, List.mem_cons, List.not_mem_nil, or_false] at hx
  rcases hx with rfl | rfl | rfl
  · trivial
  · exact ⟨by rw [hnb]; omega, by rw [headB_size _ (by omega), hns]; rfl⟩
  · trivial
theorem commitS_ok {R : Rg} (a : R.Ok) {D : DevM} (hnb : D.nb = R.nb) (hns : D.ns = R.ns) (s : JSt) (hat : s.at' ≤ 1) {l : List Wr} (v : ValidW R l) : ∀ x ∈ commitS R s l, x.Ok D.nb (512 * D.ns) := by
  intro x hx
  unfold commitS at hx
  split at hx
  · rcases List.mem_append.1 hx with h | h
    · exact ckS_ok2 a hnb hns s hat x h
    · exact txS_ok a hnb hns _ v x h
  · exact txS_ok a hnb hns _ v x hx
theorem commitS_len {R : Rg} (a : R.Ok) (s : JSt) {l : List Wr} (v : ValidW R l) : (commitS R s l).length ≤ 300 := by
  have h1 := v.few
  have h2 := a.few
  have h3 : ∀ s, (txS R s l).length ≤ 290 := fun s => by
    unfold txS recS
    rw [List.length_append, List.length_append, wrs_len, wrs_len, placed_len, txn_len]
    simp only [List.length_cons, List.length_nil]
    omega
  unfold commitS
  split
  · rw [List.length_append]
    have := h3 (ckJ R s)
    have : (ckS R s).length = 3 := rfl
    omega
  · have := h3 s; omega
def cpS (R : Rg) (s : JSt) : List Stp := if s.used = 0 then [] else ckS R s
def cpJ (R : Rg) (s : JSt) : JSt := if s.used = 0 then s else ckJ R s
def cmS (R : Rg) (s : JSt) (l : List Wr) : List Stp := if l = [] then [] else commitS R s l
def cmJ (R : Rg) (s : JSt) (l : List Wr) : JSt := if l = [] then s else commitJ R s l
/-- a journal's state is within bounds -/
structure JIn (R : Rg) (s : JSt) : Prop where
  own : s.h.own + 1 < 18446744073709551616
  tail : s.h.tail ≤ 4096
  used : s.used ≤ R.ring
  num : s.num + 1 < 18446744073709551616
  at1 : s.at' ≤ 1
section
variable {w wr : World} {As : List Ast} {R : Rg} {X J : Nat} {D : DevM} {s : JSt}
theorem carry2_st (a : R.Ok) {v : Value} {l : List Stp} (hnb : D.nb = R.nb) (hns : D.ns = R.ns) (hup : D.down = false) (hl : ∀ x ∈ l, x.Ok D.nb (512 * D.ns)) (aD : D.Ok) (hR : D.Room 400) (hlen : l.length ≤ 300) (s2 : JSt) {W : World} (h : St w W (aSteps X R v l :: pDev X D :: aJrn J X R s false :: As)) :
    Calls Tryd.prog 38 #[pt J, v, stV s2] W fun e w' => ∃ x : Int, e = .returned (.int .i64 x) ∧ (((runS D l).2 = 0 ∧ x = 0 ∧ St w w' (pDev X (runS D l).1 :: aJrn J X R s2 false :: As)) ∨ ((runS D l).2 = 8 ∧ x = 8 ∧ St w w' (pDev X (runS D l).1 :: aJrn J X R s true :: As))) :=
  (carry_st h hup hl aD (room_less' hR (by omega)) (by omega) s2).mono fun e w' k => by
    rcases k with ⟨h1, h2, h3⟩ | ⟨h1, h2, h3⟩
    · exact ⟨0, h2, .inl ⟨h1, rfl, h3⟩⟩
    · exact ⟨8, h2, .inr ⟨h1, rfl, h3⟩⟩
set_option maxHeartbeats 2000000 in
set_option maxRecDepth 8000 in
theorem pcheckpoint_st (a : R.Ok) (g : Halves w) (h : St w wr (pDev X D :: aJrn J X R s false :: As)) (hnb : D.nb = R.nb) (hns : D.ns = R.ns) (hup : D.down = false) (aD : D.Ok) (hR : D.Room 400) (b : JIn R s) :
    Calls Tryd.prog 10 #[pt J] wr fun e w' => ∃ x : Int, e = .returned (.int .i64 x) ∧ (((runS D (cpS R s)).2 = 0 ∧ x = 0 ∧ St w w' (pDev X (runS D (cpS R s)).1 :: aJrn J X R (cpJ R s) false :: As)) ∨ ((runS D (cpS R s)).2 = 8 ∧ x = 8 ∧ St w w' (pDev X (runS D (cpS R s)).1 :: aJrn J X R s true :: As))) := by
  have hrb := ring_big a
  have HRF := Lib.hid (refused_st h.swap)
  have c0 : _ = some (pt X) := st_cell h.swap 0
  have c1 : _ = some (Value.int .i64 (R.st : Int)) := st_cell h.swap 1
  have c2 : _ = some (Value.int .i64 (R.ln : Int)) := st_cell h.swap 2
  have j3 : _ = some (Value.int .u64 (s.h.own : Int)) := st_cell h.swap 3
  have j4 : _ = some (Value.int .i64 (s.h.tail : Int)) := st_cell h.swap 4
  have j5 : _ = some (Value.int .u64 (s.h.num : Int)) := st_cell h.swap 5
  have j6 : _ = some (Value.int .i64 (s.at' : Int)) := st_cell h.swap 6
  have j7 : _ = some (Value.int .i64 (s.used : Int)) := st_cell h.swap 7
  have j8 : _ = some (Value.int .u64 (s.num : Int)) := st_cell h.swap 8
  by_cases c : s.used = 0
  · have u0 : (s.used : Int) = 0 := by omega
    have HS : Hid (cpS R s = []) := Lib.hid (if_pos c)
    have HJ : Hid (cpJ R s = s) := Lib.hid (if_pos c)
    have HCA := Lib.hid (carry2_st a (X := X) (J := J) (s := s) hnb hns hup (fun x hx => (by cases hx)) aD hR (show ([] : List Stp).length ≤ 300 by simp) s (steps_nil (X := X) (R := R) h))
    have hca := HCA.out
    unfold stV at hca
    rw [u0] at hca
    have HCB := Lib.hid hca
    rw [u0] at j7
    clear h c hca HCA u0 b
    go_enter Tryd.func10, Tryd.ntmps10
    go_wp2_with (first
      | ((go_at_call 35; refine HRF.out.mono ?_; rintro e w2 ⟨rfl, rfl⟩))
      | ((go_at_call 38; refine HCB.out.mono ?_; rintro e w3 ⟨x, rfl, hst⟩; have H3 := Lib.hid hst; clear hst)))
    go_ret
    refine ⟨x, rfl, ?_⟩
    rw [HS.out, HJ.out]
    exact H3.out
  · have u0 : ¬ (s.used : Int) = 0 := by omega
    have HS : Hid (cpS R s = ckS R s) := Lib.hid (if_neg c)
    have HJ : Hid (cpJ R s = ckJ R s) := Lib.hid (if_neg c)
    have HCK : Hid (∀ W, St w W (pDev X D :: aJrn J X R s false :: As) → Calls Tryd.prog 40 #[rgV X R, stV s] W fun e w' => ∃ v, e = .returned (.tuple #[v, stV (ckJ R s)]) ∧ St w w' (aSteps X R v (ckS R s) :: pDev X D :: aJrn J X R s false :: As)) := Lib.hid fun W k => checkpoint_st a g k hns s b.own b.tail (by have := b.used; omega) (by have := b.num; omega) b.at1
    have HCA := Lib.hid fun (W : World) (v : Value) (k : St w W (aSteps X R v (ckS R s) :: pDev X D :: aJrn J X R s false :: As)) => carry2_st a hnb hns hup (ckS_ok2 a hnb hns s b.at1) aD hR (show (ckS R s).length ≤ 300 by simp [ckS]) (ckJ R s) k
    have H := Lib.hid h
    generalize ckS R s = cs at HS HCK HCA
    generalize ckJ R s = cj at HJ HCK HCA
    clear h c b
    go_enter Tryd.func10, Tryd.ntmps10
    go_upto_region 6 with (first
      | ((go_at_call 35; refine HRF.out.mono ?_; rintro e w2 ⟨rfl, rfl⟩)))
    go_region_with (first
      | ((go_at_call 40; refine (HCK.out _ (by first | exact H.out | exact H.out.drew)).mono ?_; rintro e w2 ⟨v, rfl, hst⟩; have H2 := Lib.hid hst; clear hst))
      | ((go_at_call 38; refine (HCA.out _ _ (by first | exact H2.out | exact H2.out.drew)).mono ?_; rintro e w3 ⟨x, rfl, hst⟩; have H3 := Lib.hid hst; clear hst)))
    all_goals
      go_wp2_with fail
      go_ret
      refine ⟨x, rfl, ?_⟩
      rw [HS.out, HJ.out]
      exact H3.out
end
end Go.Proofs.YtjmjmekmaamclaaDoor.jrn
/-
  Layer 5, the program: Commit.
-/
namespace Go.Proofs.YtjmjmekmaamclaaDoor.jrn
open Go.ChangeShapes Go.WideShapes Go.ChangeAt Go.RowKit mem dev sums
set_option linter.unusedVariables false
section
variable {w wr : World} {As : List Ast} {R : Rg} {X J : Nat} {D : DevM} {s : JSt} {l : List Wr}
theorem may_ok (v : l = [] ∨ ValidW R l) : decide (MayW R l) = true := by
  rcases v with rfl | v
  · exact decide_eq_true ⟨fun w hw => (by cases hw), List.nodup_nil⟩
  · exact decide_eq_true ⟨fun w hw => v.each w hw, v.nodup⟩
set_option maxHeartbeats 2000000 in
set_option maxRecDepth 8000 in
theorem pcommit_st (a : R.Ok) (g : Halves w) (h : St w wr (pDev X D :: aJrn J X R s false :: As)) (hnb : D.nb = R.nb) (hns : D.ns = R.ns) (hup : D.down = false) (aD : D.Ok) (hR : D.Room 400) (b : JIn R s) (v : Value) (hv : ∀ W Bs, St w W (Bs ++ pDev X D :: aJrn J X R s false :: As) → WrsIn W v l) (hl : l = [] ∨ ValidW R l) :
    Calls Tryd.prog 9 #[pt J, v] wr fun e w' => ∃ x : Int, e = .returned (.int .i64 x) ∧ (((runS D (cmS R s l)).2 = 0 ∧ x = 0 ∧ St w w' (pDev X (runS D (cmS R s l)).1 :: aJrn J X R (cmJ R s l) false :: As)) ∨ ((runS D (cmS R s l)).2 = 8 ∧ x = 8 ∧ St w w' (pDev X (runS D (cmS R s l)).1 :: aJrn J X R s true :: As))) := by
  obtain ⟨ao, cap, rfl, _⟩ := hv wr [] h
  have hrb := ring_big a
  have hln := a.few
  have hnb2 := a.nb
  have hz : R.z ≤ 4096 := by have := a.ns1; unfold Rg.z; omega
  have hll : l.length + 4 ≤ R.ln ∧ ∀ x ∈ l, x.1 ≤ 4294967296 ∧ x.2.size ≤ 4611686018427387904 := by
    rcases hl with rfl | hl
    · exact ⟨by have := a.six; simp; omega, fun x hx => by cases hx⟩
    · exact ⟨hl.few, fun x hx => by have := hl.each x hx; exact ⟨by omega, by rw [this.2.2]; omega⟩⟩
  have HRF := Lib.hid (refused_st h.swap)
  have HMW : Hid (∀ W, St w W (pDev X D :: aJrn J X R s false :: As) → Calls Tryd.prog 36 #[rgV X R, .slice ao l.length cap] W fun e w' => e = .returned (.bool true) ∧ St w w' (pDev X D :: aJrn J X R s false :: As)) := Lib.hid fun W k => by
    have := mayWrite_st a k hnb hns l _ hv (by omega) hll.2
    rw [may_ok hl] at this
    exact this
  have HMO : Hid (∀ W, St w W (pDev X D :: aJrn J X R s false :: As) → Calls Tryd.prog 37 #[rgV X R] W fun e w' => e = .returned (.int .i64 (R.most : Int)) ∧ St w w' (pDev X D :: aJrn J X R s false :: As)) := Lib.hid fun W k => most_st a k hns
  have HJC : Hid (∀ W, St w W (pDev X D :: aJrn J X R s false :: As) → W.cell? ⟨J, 0, none⟩ = some (pt X) ∧ W.cell? ⟨J, 1, none⟩ = some (.int .i64 (R.st : Int)) ∧ W.cell? ⟨J, 2, none⟩ = some (.int .i64 (R.ln : Int)) ∧ W.cell? ⟨J, 3, none⟩ = some (.int .u64 (s.h.own : Int)) ∧ W.cell? ⟨J, 4, none⟩ = some (.int .i64 (s.h.tail : Int)) ∧ W.cell? ⟨J, 5, none⟩ = some (.int .u64 (s.h.num : Int)) ∧ W.cell? ⟨J, 6, none⟩ = some (.int .i64 (s.at' : Int)) ∧ W.cell? ⟨J, 7, none⟩ = some (.int .i64 (s.used : Int)) ∧ W.cell? ⟨J, 8, none⟩ = some (.int .u64 (s.num : Int))) := Lib.hid fun W k =>
    ⟨st_cell k.swap 0, st_cell k.swap 1, st_cell k.swap 2, st_cell k.swap 3, st_cell k.swap 4, st_cell k.swap 5, st_cell k.swap 6, st_cell k.swap 7, st_cell k.swap 8⟩
  have hmost : R.most = R.ln - 4 := rfl
  have m0 : ¬ (R.most : Int) < l.length := by omega
  have m1 : (l.length : Int) ≤ R.most := by omega
  have l0 : (l.length : Int) ≤ 100 := by omega
  obtain ⟨q0, q1, q2, q3, q4, q5, q6, q7, q8⟩ := HJC.out _ h
  have H := Lib.hid h
  by_cases c : l = []
  · have n0 : (l.length : Int) = 0 := by rw [c]; rfl
    have HS : Hid (cmS R s l = []) := Lib.hid (if_pos c)
    have HJ : Hid (cmJ R s l = s) := Lib.hid (if_pos c)
    have HCA := Lib.hid fun (W : World) (k : St w W (pDev X D :: aJrn J X R s false :: As)) => carry2_st a (X := X) (J := J) (s := s) hnb hns hup (fun x hx => (by cases hx)) aD hR (show ([] : List Stp).length ≤ 300 by simp) s (steps_nil (X := X) (R := R) k)
    have z0 : ((l.length : Int) == 0) = true := by rw [beq_iff_eq]; exact n0
    clear h c n0 hv hl hll hmost hrb hln hnb2 hz hnb hns hup aD hR b a g
    go_enter Tryd.func9, Tryd.ntmps9
    go_wp2_with (first
      | ((go_at_call 35; refine HRF.out.mono ?_; rintro e w2 ⟨rfl, rfl⟩))
      | ((go_at_call 36; refine (HMW.out _ H.out).mono ?_; rintro e w3 ⟨rfl, hst⟩; obtain ⟨q0, q1, q2, q3, q4, q5, q6, q7, q8⟩ := HJC.out _ hst; have H3 := Lib.hid hst; clear hst))
      | ((go_at_call 37; refine (HMO.out _ H3.out).mono ?_; rintro e w4 ⟨rfl, hst⟩; obtain ⟨q0, q1, q2, q3, q4, q5, q6, q7, q8⟩ := HJC.out _ hst; have H4 := Lib.hid hst; clear hst))
      | ((go_at_call 38; refine (HCA.out _ H4.out).mono ?_; rintro e w5 ⟨x, rfl, hst⟩; have H5 := Lib.hid hst; clear hst)))
    go_ret
    refine ⟨x, rfl, ?_⟩
    rw [HS.out, HJ.out]
    exact H5.out
  · have hv2 : ValidW R l := hl.resolve_left c
    have HS : Hid (cmS R s l = commitS R s l) := Lib.hid (if_neg c)
    have HJ : Hid (cmJ R s l = commitJ R s l) := Lib.hid (if_neg c)
    have z0 : ((l.length : Int) == 0) = false := by
      rw [beq_eq_false_iff_ne]
      intro e
      exact c (List.length_eq_zero_iff.1 (by omega))
    have HCM : Hid (∀ W, St w W (pDev X D :: aJrn J X R s false :: As) → Calls Tryd.prog 39 #[rgV X R, stV s, .slice ao l.length cap] W fun e w' => ∃ u, e = .returned (.tuple #[u, stV (commitJ R s l)]) ∧ St w w' (aSteps X R u (commitS R s l) :: pDev X D :: aJrn J X R s false :: As)) := Lib.hid fun W k => commit_st a g k hnb hns s l _ hv hv2 b.own b.tail b.used b.num b.at1
    have HCA := Lib.hid fun (W : World) (v : Value) (k : St w W (aSteps X R v (commitS R s l) :: pDev X D :: aJrn J X R s false :: As)) => carry2_st a hnb hns hup (commitS_ok a hnb hns s b.at1 hv2) aD hR (commitS_len a s hv2) (commitJ R s l) k
    generalize commitS R s l = cs at HS HCM HCA
    generalize commitJ R s l = cj at HJ HCM HCA
    clear h c hv hv2 hl hll hmost hrb hln hnb2 hz hnb hns hup aD hR b a g
    go_enter Tryd.func9, Tryd.ntmps9
    go_upto_region 10 with (first
      | ((go_at_call 35; refine HRF.out.mono ?_; rintro e w2 ⟨rfl, rfl⟩))
      | ((go_at_call 36; refine (HMW.out _ H.out).mono ?_; rintro e w3 ⟨rfl, hst⟩; obtain ⟨q0, q1, q2, q3, q4, q5, q6, q7, q8⟩ := HJC.out _ hst; have H3 := Lib.hid hst; clear hst))
      | ((go_at_call 37; refine (HMO.out _ H3.out).mono ?_; rintro e w4 ⟨rfl, hst⟩; obtain ⟨q0, q1, q2, q3, q4, q5, q6, q7, q8⟩ := HJC.out _ hst; have H4 := Lib.hid hst; clear hst)))
    go_region_with (first
      | ((go_at_call 39; refine (HCM.out _ (by first | exact H4.out | exact H4.out.drew)).mono ?_; rintro e w5 ⟨v, rfl, hst⟩; have H5 := Lib.hid hst; clear hst))
      | ((go_at_call 38; refine (HCA.out _ _ (by first | exact H5.out | exact H5.out.drew)).mono ?_; rintro e w6 ⟨x, rfl, hst⟩; have H6 := Lib.hid hst; clear hst)))
    all_goals
      go_wp2_with fail
      go_ret
      refine ⟨x, rfl, ?_⟩
      rw [HS.out, HJ.out]
      exact H6.out
end
end Go.Proofs.YtjmjmekmaamclaaDoor.jrn
/-
  Layer 5, the program: Open.
-/
namespace Go.Proofs.YtjmjmekmaamclaaDoor.jrn
open Go.ChangeShapes Go.WideShapes Go.ChangeAt Go.RowKit mem dev sums
set_option linter.unusedVariables false
section
variable {w wr : World} {As : List Ast} {R : Rg} {X J : Nat} {D : DevM} {s : JSt} {hd : Hd} {at' : Nat} {L : List (List Wr)} {was : List ByteArray}
theorem more_dur (d : Dur R D.safe hd at' L was) (k : Nat) : Dur R (DevM.more D k).safe hd at' L was := d
set_option maxHeartbeats 2000000 in
set_option maxRecDepth 8000 in
/-- an opening of a journal's region -/
theorem popen_st (a : R.Ok) (g : Halves w) (u : Up R D) (h : St w wr (pDev X D :: As)) (d : Dur R D.safe hd at' L was) (hR : D.Room 200000) (ho : hd.own + 1 < 18446744073709551616) (hn : hd.num + L.length < 18446744073709551616) :
    Calls Tryd.prog 7 #[pt X, .int .i64 (R.st : Int), .int .i64 (R.ln : Int)] wr fun e w' => ∃ k, k ≤ 40000 ∧
      (((runS D (openS R hd at' L)).2 = 0 ∧ ∃ J, e = .returned (.tuple #[pt J, .int .i64 (L.length : Int), .int .i64 0]) ∧ St w w' (pDev X (DevM.more (runS D (openS R hd at' L)).1 k) :: aJrn J X R (openJ R hd at' L) false :: As)) ∨
       ((runS D (openS R hd at' L)).2 = 8 ∧ e = .returned (.tuple #[.pointer none, .int .i64 0, .int .i64 8]) ∧ St w w' (pDev X (DevM.more (runS D (openS R hd at' L)).1 k) :: As))) := by
  have HRG : Hid (Calls Tryd.prog 28 #[pt X, .int .i64 (R.st : Int), .int .i64 (R.ln : Int)] wr fun e w' => e = .returned (.tuple #[rgV X R, .int .i64 0]) ∧ St w w' (pDev X D :: As)) := Lib.hid (region_ok a h u.nb u.down)
  have HFO : Hid (∀ W L', St w W (pDev X D :: L') → Calls Tryd.prog 29 #[rgV X R] W fun e w' => e = .returned (.tuple #[stV ⟨hd, at', 0, hd.num⟩, .int .i64 0]) ∧ St w w' (pDev X (DevM.more D 2) :: L')) := Lib.hid fun W L' k => by
    have := found_st a g u k (room_less' hR (by omega)) (fnd_dur a d)
    rw [if_pos rfl] at this
    exact this
  have hrun : ∀ k l, runS (DevM.more D k) l = (DevM.more (runS D l).1 k, (runS D l).2) := fun k l => runS_more l D k
  have HRE : Hid (∀ W L', St w W (pDev X (DevM.more D 2) :: L') → Calls Tryd.prog 30 #[rgV X R, stV ⟨hd, at', 0, hd.num⟩] W fun e w' => ∃ k, k ≤ 40000 ∧ St w w' (pDev X (DevM.more (runS D (openS R hd at' L)).1 k) :: L') ∧
      (((runS D (openS R hd at' L)).2 = 0 ∧ e = .returned (.tuple #[stV (openJ R hd at' L), .int .i64 (L.length : Int), .int .i64 0])) ∨ ((runS D (openS R hd at' L)).2 = 8 ∧ e = .returned (.tuple #[.agg #[.int .u64 0, .int .i64 0, .int .u64 0, .int .i64 0, .int .i64 0, .int .u64 0], .int .i64 0, .int .i64 8])))) := Lib.hid fun W L' k =>
    (redone_st a g (u.more 2) k (more_dur d 2) (u.room (room_less' hR (by omega))) ho hn).mono fun e w' q => by
      obtain ⟨k2, hk2, h1, h2⟩ := q
      rw [hrun] at h1 h2
      rw [more_more] at h1
      exact ⟨2 + k2, by omega, h1, h2⟩
  generalize runS D (openS R hd at' L) = res at HRE
  obtain ⟨E, x⟩ := res
  have HOJ : Hid (openJ R hd at' L = openJ R hd at' L) := Lib.hid rfl
  generalize hoj : openJ R hd at' L = oj at HRE
  have l1 : (L.length : Int) ≤ 4096 := by have h1 := total_len L; have h2 := d.tot; have h3 := ring_big a; omega
  have H := Lib.hid h
  clear h g u d hR ho hn hrun HOJ a
  clear hoj
  generalize L.length = ll at HRE l1
  go_enter Tryd.func7, Tryd.ntmps7
  go_wp2_with (first
    | ((go_at_call 28; refine HRG.out.mono ?_; rintro e w2 ⟨rfl, hst⟩; have h3 := st_new hst (rgCells X R) 63; have c0 : _ = some (pt X) := st_cell h3 0; have c1 : _ = some (Value.int .i64 (R.st : Int)) := st_cell h3 1; have c2 : _ = some (Value.int .i64 (R.ln : Int)) := st_cell h3 2; have H3 := Lib.hid h3.swap; clear hst h3))
    | ((go_at_call 29; refine (HFO.out _ _ H3.out).mono ?_; rintro e w3 ⟨rfl, hst⟩; have h4 := st_new hst [.int .u64 (hd.own : Int), .int .i64 (hd.tail : Int), .int .u64 (hd.num : Int), .int .i64 (at' : Int), .int .i64 0, .int .u64 (hd.num : Int)] 69; have c0 : _ = some (pt X) := st_cell h4.third 0; have c1 : _ = some (Value.int .i64 (R.st : Int)) := st_cell h4.third 1; have c2 : _ = some (Value.int .i64 (R.ln : Int)) := st_cell h4.third 2; have s0 : _ = some (Value.int .u64 (hd.own : Int)) := st_cell h4 0; have s1 : _ = some (Value.int .i64 (hd.tail : Int)) := st_cell h4 1; have s2 : _ = some (Value.int .u64 (hd.num : Int)) := st_cell h4 2; have s3 : _ = some (Value.int .i64 (at' : Int)) := st_cell h4 3; have s4 : _ = some (Value.int .i64 0) := st_cell h4 4; have s5 : _ = some (Value.int .u64 (hd.num : Int)) := st_cell h4 5; have H4 := Lib.hid h4.swap; clear hst h4))
    | ((go_at_call 30; refine (HRE.out _ _ H4.out).mono ?_; rintro e w4 ⟨k, hk, hst, q⟩; have c0 : _ = some (pt X) := st_cell hst.third 0; have c1 : _ = some (Value.int .i64 (R.st : Int)) := st_cell hst.third 1; have c2 : _ = some (Value.int .i64 (R.ln : Int)) := st_cell hst.third 2; have HB11 := Lib.hid (st_blk hst.swap); have H5 := Lib.hid hst.swap; have HKK := Lib.hid hk; clear hst hk; rcases q with ⟨h0, rfl⟩ | ⟨h8, rfl⟩))
    | ((refine wpList_store_row rfl 69 _ _ rfl _ (stCells oj).toArray rfl rfl 69 _ HB11.out sizeSt rfl (by simp [Value.oneCell']) ?_; have h6 := st_setrow (cs := (stCells oj).toArray) H5.out; have c0 : _ = some (pt X) := st_cell h6.third 0; have c1 : _ = some (Value.int .i64 (R.st : Int)) := st_cell h6.third 1; have c2 : _ = some (Value.int .i64 (R.ln : Int)) := st_cell h6.third 2; have t0 : _ = some (Value.int .u64 (oj.h.own : Int)) := st_cell h6 0; have t1 : _ = some (Value.int .i64 (oj.h.tail : Int)) := st_cell h6 1; have t2 : _ = some (Value.int .u64 (oj.h.num : Int)) := st_cell h6 2; have t3 : _ = some (Value.int .i64 (oj.at' : Int)) := st_cell h6 3; have t4 : _ = some (Value.int .i64 (oj.used : Int)) := st_cell h6 4; have t5 : _ = some (Value.int .u64 (oj.num : Int)) := st_cell h6 5; have H6 := Lib.hid h6; clear h6))
    | ((refine wpList_store_row rfl 69 _ _ rfl _ #[.int .u64 0, .int .i64 0, .int .u64 0, .int .i64 0, .int .i64 0, .int .u64 0] rfl rfl 69 _ HB11.out sizeSt rfl (by simp [Value.oneCell']) ?_; have H7 := Lib.hid (st_setrow (cs := #[.int .u64 0, .int .i64 0, .int .u64 0, .int .i64 0, .int .i64 0, .int .u64 0]) H5.out))))
  · go_ret3
    have h8 := st_new H6.out (jCells X R oj false) 75
    rw [setRow_size] at h8
    have h9 := St.re (L := [_, _, _, _]) [2, 0] [1, 3] h8
    exact ⟨k, HKK.out, .inl ⟨h0, _, rfl, h9⟩⟩
  · go_ret3
    exact ⟨k, HKK.out, .inr ⟨h8, rfl, St.re (L := [_, _, _]) [1] [0, 2] H7.out⟩⟩
end
end Go.Proofs.YtjmjmekmaamclaaDoor.jrn
