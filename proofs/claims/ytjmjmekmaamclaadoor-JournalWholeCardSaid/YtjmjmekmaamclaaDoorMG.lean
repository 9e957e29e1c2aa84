/-
  Layer 5, the program: redone: what stands in the ring is done again.
-/
import Derived.Test.YtjmjmekmaamclaaDoorME
import Derived.Test.YtjmjmekmaamclaaDoorMD
import Derived.Test.YtjmjmekmaamclaaDoorMC
import Derived.OrdersHeld
import Derived.Orders
import Derived.Test.YtjmjmekmaamclaaDoorMB
namespace Go.Proofs.YtjmjmekmaamclaaDoor.jrn
open Go.ChangeShapes Go.WideShapes Go.ChangeAt Go.RowKit mem dev sums
set_option linter.unusedVariables false
section
variable {w wr : World} {As : List Ast} {R : Rg} {X : Nat} {D : DevM} {hd : Hd} {at' : Nat} {L : List (List Wr)} {was : List ByteArray}
abbrev redJ (hd : Hd) (at' : Nat) (L : List (List Wr)) (j : Nat) : JSt := ⟨hd, at', total (L.take j), hd.num + j⟩
abbrev redE (D : DevM) (L : List (List Wr)) (j : Nat) : DevM × Int := runS D (wrs (L.take j).flatten)
/-- where the walk through the ring stands -/
structure Red (R : Rg) (D : DevM) (L : List (List Wr)) (j : Nat) : Prop where
  ok : (redE D L j).2 = 0
  up : Up R (redE D L j).1
  safe : (redE D L j).1.safe = D.safe
  cache : (redE D L j).1.cache = D.cache ++ (L.take j).flatten
  room : (redE D L j).1.Room 60000
theorem take_flat_len (L : List (List Wr)) (j : Nat) : (L.take j).flatten.length ≤ total L := by
  have h := flatten_len L
  have : (L.take j).flatten.length ≤ L.flatten.length := by
    conv => rhs; rw [← List.take_append_drop j L, List.flatten_append, List.length_append]
    omega
  omega
theorem red_zero (u : Up R D) (hR : D.Room 100000) : Red R D L 0 :=
  ⟨rfl, u, rfl, by simp [runS, wrs, redE], room_less' hR (by omega)⟩
theorem wrs_ok2 {E : DevM} {l : List Wr} (u : Up R E) (v : ValidW R l) : ∀ s ∈ wrs l, s.Ok E.nb (512 * E.ns) := wrs_ok u.nb u.ns v.each
theorem runS_flat (D : DevM) (L : List (List Wr)) (j : Nat) (hj : j < L.length) (h : (redE D L j).2 = 0) : redE D L (j + 1) = runS (redE D L j).1 (wrs L[j]) := by
  show runS D (wrs (L.take (j + 1)).flatten) = _
  rw [take_snoc L j hj, List.flatten_append, show [L[j]].flatten = L[j] from by simp, wrs_append, runS_append, if_pos h]
theorem red_more (a : R.Ok) (hu : Up R D) (d : Dur R D.safe hd at' L was) (hR : D.Room 100000) (j : Nat) (hj : j < L.length) (r : Red R D L j) :
    ((runS (redE D L j).1 (wrs L[j])).2 = 0 ∧ Red R D L (j + 1)) ∨ ((runS (redE D L j).1 (wrs L[j])).2 = 8 ∧ runS D (openS R hd at' L) = runS (redE D L j).1 (wrs L[j])) := by
  have hv := (logAt_at d.log j hj).1
  have e := runS_flat D L j hj r.ok
  have hrb := ring_big a
  have ht := d.tot
  rcases run_cases (wrs L[j]) (redE D L j).1 r.up.down (wrs_ok2 r.up hv) r.up.ok with ⟨h0, v⟩ | ⟨h8, f⟩
  · refine .inl ⟨h0, ?_⟩
    have hall : ∀ s ∈ wrs (L.take (j + 1)).flatten, s.Ok D.nb (512 * D.ns) := wrs_ok hu.nb hu.ns fun w hw => logAt_each d.log w (by
      obtain ⟨l, hl, hw⟩ := List.mem_flatten.1 hw
      exact List.mem_flatten.2 ⟨l, List.mem_of_mem_take hl, hw⟩)
    have hz : (redE D L (j + 1)).2 = 0 := by rw [e]; exact h0
    rcases run_cases (wrs (L.take (j + 1)).flatten) D hu.down hall hu.ok with ⟨_, v2⟩ | ⟨k8, _⟩
    · obtain ⟨k1, k2, k3⟩ := up_went hu v2 fun w hw => (logAt_each d.log w (by
        obtain ⟨l, hl, hw⟩ := List.mem_flatten.1 hw
        exact List.mem_flatten.2 ⟨l, List.mem_of_mem_take hl, hw⟩)).2.1
      refine ⟨hz, k1, k2, k3, ?_⟩
      have := take_flat_len L (j + 1)
      exact room_went v2 (room_less' hR (by rw [wrs_len]; omega))
    · exfalso
      have : (redE D L (j + 1)).2 = 8 := k8
      omega
  · refine .inr ⟨h8, ?_⟩
    have e2 : openS R hd at' L = wrs (L.take (j + 1)).flatten ++ (wrs (L.drop (j + 1)).flatten ++ (if L = [] then [] else ckS R (startJ hd at' L))) := by
      unfold openS
      rw [← List.append_assoc, ← wrs_append, ← List.flatten_append, List.take_append_drop]
    have h8' : (redE D L (j + 1)).2 = 8 := by rw [e]; exact h8
    rw [e2, runS_append, if_neg (by rw [show (runS D (wrs (L.take (j + 1)).flatten)).2 = 8 from h8']; decide)]
    exact e
theorem red_end (hL : L ≠ []) (r : Red R D L L.length) : runS D (openS R hd at' L) = runS (redE D L L.length).1 (ckS R (startJ hd at' L)) := by
  have h := r.ok
  unfold openS
  rw [if_neg hL]
  show runS D (wrs L.flatten ++ _) = _
  have e : redE D L L.length = runS D (wrs L.flatten) := by show runS D (wrs (L.take L.length).flatten) = _; rw [List.take_length]
  rw [e] at h ⊢
  rw [runS_append, if_pos h]
theorem red_stand (a : R.Ok) (d : Dur R D.safe hd at' L was) (hn : hd.num + L.length < 18446744073709551616) (j : Nat) (hj : j ≤ L.length) (r : Red R D L j) :
    (∀ h : j < L.length, standM R (redE D L j).1.safe (hd.tail + total (L.take j)) (hd.num + j) (total (L.take j)) = L[j]) ∧ (j = L.length → standM R (redE D L j).1.safe (hd.tail + total (L.take j)) (hd.num + j) (total (L.take j)) = []) ∧ total (L.take j) ≤ R.ring ∧
    (let ts := targetsOf (pl R (redE D L j).1.safe (hd.tail + total (L.take j))) (hd.num + j) R.most
     ts ≠ [] → ts.length + 2 ≤ R.ring - total (L.take j) → Begins (pl R (redE D L j).1.safe (hd.tail + total (L.take j) + 1 + ts.length)) (hd.num + j) → seg (pl R (redE D L j).1.safe (hd.tail + total (L.take j) + 1 + ts.length)) 0 = seg (recB (hd.num + j) (pl R (redE D L j).1.safe (hd.tail + total (L.take j)) :: datasOf R (redE D L j).1.safe (hd.tail + total (L.take j)) ts.length) R.z) 0) := by
  rw [r.safe]
  have ht := d.tot
  rcases Nat.lt_or_eq_of_le hj with h | rfl
  · obtain ⟨k1, k2, k3⟩ := logAt_at d.log j h
    exact ⟨fun _ => stand_laid a k1 k2 (by omega), fun e => by omega, by omega, rec_laid a k1 k2⟩
  · rw [List.take_length]
    have hf := d.fresh
    exact ⟨fun h => absurd h (Nat.lt_irrefl _), fun _ => stand_fresh hf hn, ht, rec_fresh hf hn⟩
end
end Go.Proofs.YtjmjmekmaamclaaDoor.jrn
/-
  Layer 5, the program: redone, walked.
-/
namespace Go.Proofs.YtjmjmekmaamclaaDoor.jrn
open Go.ChangeShapes Go.WideShapes Go.ChangeAt Go.RowKit mem dev sums
set_option linter.unusedVariables false
section
variable {w wr : World} {As : List Ast} {R : Rg} {X : Nat} {D : DevM} {hd : Hd} {at' : Nat} {L : List (List Wr)} {was : List ByteArray}
theorem runw_st (a : R.Ok) {E E' : DevM} {l : List Wr} (u : Up R E) (v : ValidW R l) (hR : E.Room 60000) (x : Int) (he : runS E (wrs l) = (E', x)) {W : World} {y : Value} {m : Nat} {A : List Ast} (hm : m ≤ 30000) (h : St w W (aSteps X R y (wrs l) :: pDev X (DevM.more E m) :: A)) :
    Calls Tryd.prog 34 #[y] W fun e w' => e = .returned (.int .i64 x) ∧ St w w' (pDev X (DevM.more E' m) :: A) := by
  have hlen : (wrs l).length ≤ 100 := by rw [wrs_len]; have := v.few; have := a.few; omega
  have hlen2 := v.few
  have hR2 : (DevM.more E m).Room (wrs l).length := u.room (room_less' hR (by omega))
  have := run_st h (u.more m).down (wrs_ok2 (u.more m) v) (u.more m).ok hR2 (by omega)
  rw [runS_more, he] at this
  exact this
theorem ckS_ok (a : R.Ok) {E : DevM} (u : Up R E) (s : JSt) (hat : s.at' ≤ 1) : ∀ x ∈ ckS R s, x.Ok E.nb (512 * E.ns) := by
  have h1 := a.six
  have h2 := a.fit
  have hz := z_big a
  intro x hx
  simp only [ckS, List.mem_cons, List.not_mem_nil, or_false] at hx
  rcases hx with rfl | rfl | rfl
  · trivial
  · exact ⟨by rw [u.nb]; omega, by rw [headB_size _ (by omega), u.ns]; rfl⟩
  · trivial
set_option maxHeartbeats 2400000 in
set_option maxRecDepth 8000 in
theorem redone_st (a : R.Ok) (g : Halves w) (u : Up R D) (h : St w wr (pDev X D :: As)) (d : Dur R D.safe hd at' L was) (hR : D.Room 100000) (ho : hd.own + 1 < 18446744073709551616) (hn : hd.num + L.length < 18446744073709551616) :
    Calls Tryd.prog 30 #[rgV X R, stV ⟨hd, at', 0, hd.num⟩] wr fun e w' => ∃ k, k ≤ 30000 ∧ St w w' (pDev X (DevM.more (runS D (openS R hd at' L)).1 k) :: As) ∧
      (((runS D (openS R hd at' L)).2 = 0 ∧ e = .returned (.tuple #[stV (openJ R hd at' L), .int .i64 (L.length : Int), .int .i64 0])) ∨ ((runS D (openS R hd at' L)).2 = 8 ∧ e = .returned (.tuple #[.agg #[.int .u64 0, .int .i64 0, .int .u64 0, .int .i64 0, .int .i64 0, .int .u64 0], .int .i64 0, .int .i64 8]))) := by
  have hLl : L.length ≤ 49 := by have := total_len L; have := d.tot; have := a.few; unfold Rg.ring at *; omega
  have htail : hd.tail ≤ 4096 := by have := d.hok.tail; have := ring_big a; omega
  have h1 := st_new (st_new (st_new h (rgCells X R) 63) (stCells ⟨hd, at', 0, hd.num⟩) 69) zSt 69
  simp only [World.size_alloc] at h1
  have HX : Hid (St w _ (aVar (wr.heap.size + 1) (stCells (redJ hd at' L 0)) 69 :: pDev X (DevM.more (redE D L 0).1 0) :: aVar wr.heap.size (rgCells X R) 63 :: aVar (wr.heap.size + 1 + 1) zSt 69 :: As)) := Lib.hid (by
    have k1 := h1.swap
    have k2 := k1.rest (Bs := pDev X D :: aVar wr.heap.size (rgCells X R) 63 :: aVar (wr.heap.size + 1 + 1) zSt 69 :: As) fun V k => ((k.tail fun V k => k.swap).swap).tail fun V k => k.swap
    exact k2)
  have HR0 := Lib.hid (red_zero (L := L) u hR)
  have HA := Lib.hid a
  have HG := Lib.hid g
  have HU := Lib.hid u
  have HD := Lib.hid d
  have HRM := Lib.hid hR
  have HO := Lib.hid ho
  have HN := Lib.hid hn
  clear h h1 u hR ho hn g d
  go_enter Tryd.func30, Tryd.ntmps30
  go_upto_block 0 with fail
  generalize wr.heap.size + 1 + 1 = B4 at HX ⊢
  generalize wr.heap.size + 1 = B3 at HX ⊢
  generalize wr.heap.size = B2 at HX ⊢
  go_cut [7] (fun i W => i = .int .i64 (L.length : Int) ∧ Red R D L L.length ∧ ∃ k, k ≤ 20000 ∧ St w W (aVar B3 (stCells (redJ hd at' L L.length)) 69 :: pDev X (DevM.more (redE D L L.length).1 k) :: aVar B2 (rgCells X R) 63 :: aVar B4 zSt 69 :: As))
  case rest =>
    obtain ⟨rfl, hr, k, hk, hst⟩ := hcut
    clear HX HR0
    have HK := Lib.hid hk
    have HB4 := Lib.hid (st_blk hst.fourth)
    by_cases hL : L = []
    · subst hL
      have s0 : _ = some (Value.int .u64 (hd.own : Int)) := st_cell hst 0
      have s1 : _ = some (Value.int .i64 (hd.tail : Int)) := st_cell hst 1
      have s2 : _ = some (Value.int .u64 (hd.num : Int)) := st_cell hst 2
      have s3 : _ = some (Value.int .i64 (at' : Int)) := st_cell hst 3
      have s4 : _ = some (Value.int .i64 0) := st_cell hst 4
      have s5 : _ = some (Value.int .u64 (hd.num : Int)) := st_cell hst 5
      have H2 := Lib.hid hst.fourth
      clear hst hk
      go_wp2_with ((refine wpList_store_row rfl 69 _ _ rfl B4 #[.int .u64 (hd.own : Int), .int .i64 (hd.tail : Int), .int .u64 (hd.num : Int), .int .i64 (at' : Int), .int .i64 0, .int .u64 (hd.num : Int)] rfl rfl 69 _ HB4.out sizeSt rfl (by simp [Value.oneCell']) ?_))
      have H5 := st_setrow (cs := #[.int .u64 (hd.own : Int), .int .i64 (hd.tail : Int), .int .u64 (hd.num : Int), .int .i64 (at' : Int), .int .i64 0, .int .u64 (hd.num : Int)]) H2.out
      refine bodyPost_ret (results_ctt rfl _ _ B4 69 _ (0, 0) _ rfl (st_blk H5) Tryd.underlying69 rfl sizeSt) rfl ?_
      exact ⟨k, by have := HK.out; omega, H5.drop.drop.swap.drop, .inl ⟨rfl, rfl⟩⟩
    · have n0 : ¬ (L.length : Int) = 0 := by intro e; exact hL (List.length_eq_zero_iff.1 (by omega))
      have n1 : (L.length : Int) ≤ 49 := by omega
      have hend := red_end (hd := hd) (at' := at') (R := R) hL hr
      have eJ : redJ hd at' L L.length = startJ hd at' L := by show (⟨_, _, _, _⟩ : JSt) = ⟨_, _, _, _⟩; rw [List.take_length]
      rw [eJ] at hst
      have hck : openJ R hd at' L = ckJ R (startJ hd at' L) := by unfold openJ; rw [if_neg hL]
      have HCK := Lib.hid (checkpoint_st HA.out HG.out (hst.swap) (by show (redE D L L.length).1.ns = _; exact hr.up.ns) (startJ hd at' L) HO.out htail (by show total L ≤ 4096; have := HD.out.tot; have := ring_big HA.out; omega) HN.out HD.out.at1)
      have hok : ∀ s ∈ ckS R (startJ hd at' L), s.Ok (redE D L L.length).1.nb (512 * (redE D L L.length).1.ns) := ckS_ok HA.out hr.up _ HD.out.at1
      have hlc : (ckS R (startJ hd at' L)).length = 3 := rfl
      have hrun := run_cases (ckS R (startJ hd at' L)) (redE D L L.length).1 hr.up.down hok hr.up.ok
      have HRUN : Hid (∀ W y A, St w W (aSteps X R y (ckS R (startJ hd at' L)) :: pDev X (DevM.more (redE D L L.length).1 k) :: A) → Calls Tryd.prog 34 #[y] W fun e w' => e = .returned (.int .i64 (runS (redE D L L.length).1 (ckS R (startJ hd at' L))).2) ∧ St w w' (pDev X (DevM.more (runS (redE D L L.length).1 (ckS R (startJ hd at' L))).1 k) :: A)) := Lib.hid fun W y A q => by
        have := run_st q (hr.up.more k).down hok (hr.up.more k).ok (hr.up.room (room_less' hr.room (by rw [hlc]; omega))) (by rw [hlc]; omega)
        rw [runS_more] at this
        exact this
      have c0 : _ = some (pt X) := st_cell hst.third 0; have c1 : _ = some (Value.int .i64 (R.st : Int)) := st_cell hst.third 1; have c2 : _ = some (Value.int .i64 (R.ln : Int)) := st_cell hst.third 2
      have s0 : _ = some (Value.int .u64 (hd.own : Int)) := st_cell hst 0
      have s1 : _ = some (Value.int .i64 (hd.tail : Int)) := st_cell hst 1
      have s2 : _ = some (Value.int .u64 (hd.num : Int)) := st_cell hst 2
      have s3 : _ = some (Value.int .i64 (at' : Int)) := st_cell hst 3
      have s4 : _ = some (Value.int .i64 ((startJ hd at' L).used : Int)) := st_cell hst 4
      have s5 : _ = some (Value.int .u64 ((startJ hd at' L).num : Int)) := st_cell hst 5
      have HEND := Lib.hid hend
      have HCJ := Lib.hid hck
      clear hst hk hr hend eJ hok hlc hck HB4
      have hcall : Calls Tryd.prog 40 #[rgV X R, .agg #[.int .u64 (hd.own : Int), .int .i64 (hd.tail : Int), .int .u64 (hd.num : Int), .int .i64 (at' : Int), .int .i64 ((startJ hd at' L).used : Int), .int .u64 ((startJ hd at' L).num : Int)]] wc fun e w' => ∃ v, e = .returned (.tuple #[v, stV (ckJ R (startJ hd at' L))]) ∧ St w w' (aSteps X R v (ckS R (startJ hd at' L)) :: pDev X (DevM.more (redE D L L.length).1 k) :: aVar B3 (stCells (startJ hd at' L)) 69 :: aVar B2 (rgCells X R) 63 :: aVar B4 zSt 69 :: As) := HCK.out
      have HCALL := Lib.hid hcall
      clear hcall HCK
      generalize startJ hd at' L = sj at HCALL HRUN HEND HCJ s4 s5 hrun
      generalize ckJ R sj = cj at HCALL HCJ
      generalize ckS R sj = cs at HCALL HRUN HEND hrun
      generalize (redE D L L.length).1 = E at HCALL HRUN HEND hrun
      have arm : True := trivial
      rcases hrun with ⟨h0, _⟩ | ⟨h8, _⟩
      · have H0 := Lib.hid h0
        rw [h0] at HRUN
        clear h0
        go_wp2_with (first
          | ((go_at_call 40; with_reducible refine HCALL.out.mono ?_; rintro e w2 ⟨v, rfl, hst⟩; have HB3 := Lib.hid (st_blk hst.third); have H2 := Lib.hid hst; clear hst))
          | ((refine wpList_store_row rfl 69 _ _ rfl B3 (stCells cj).toArray rfl rfl 69 _ HB3.out sizeSt rfl (by simp [Value.oneCell']) ?_; have hst := st_setrow (cs := (stCells cj).toArray) H2.out.third; have H3 := Lib.hid (hst.swap.rest (Bs := _ :: _ :: _) fun V k => k.swap); clear hst))
          | ((go_at_call 34; refine (HRUN.out _ _ _ H3.out).mono ?_; rintro e w4 ⟨rfl, hst⟩; have t0 : _ = some (Value.int .u64 (cj.h.own : Int)) := st_cell hst.swap 0; have t1 : _ = some (Value.int .i64 (cj.h.tail : Int)) := st_cell hst.swap 1; have t2 : _ = some (Value.int .u64 (cj.h.num : Int)) := st_cell hst.swap 2; have t3 : _ = some (Value.int .i64 (cj.at' : Int)) := st_cell hst.swap 3; have t4 : _ = some (Value.int .i64 (cj.used : Int)) := st_cell hst.swap 4; have t5 : _ = some (Value.int .u64 (cj.num : Int)) := st_cell hst.swap 5; have HB5 := Lib.hid (st_blk hst.fourth); have H4 := Lib.hid hst.fourth; clear hst))
          | ((refine wpList_store_row rfl 69 _ _ rfl B4 (stCells cj).toArray rfl rfl 69 _ HB5.out sizeSt rfl (by simp [Value.oneCell']) ?_)))
        have H5 := st_setrow (cs := (stCells cj).toArray) H4.out
        refine bodyPost_ret (results_ctt rfl _ _ B4 69 _ (0, 0) _ rfl (st_blk H5) Tryd.underlying69 rfl sizeSt) rfl ?_
        refine ⟨k, by have := HK.out; omega, ?_, .inl ⟨by rw [HEND.out]; exact H0.out, by rw [HCJ.out]; rfl⟩⟩
        rw [HEND.out]
        exact H5.drop.swap.drop.swap.drop
      · have H8 := Lib.hid h8
        rw [h8] at HRUN
        clear h8
        go_wp2_with (first
          | ((go_at_call 40; with_reducible refine HCALL.out.mono ?_; rintro e w2 ⟨v, rfl, hst⟩; have HB3 := Lib.hid (st_blk hst.third); have H2 := Lib.hid hst; clear hst))
          | ((refine wpList_store_row rfl 69 _ _ rfl B3 (stCells cj).toArray rfl rfl 69 _ HB3.out sizeSt rfl (by simp [Value.oneCell']) ?_; have hst := st_setrow (cs := (stCells cj).toArray) H2.out.third; have H3 := Lib.hid (hst.swap.rest (Bs := _ :: _ :: _) fun V k => k.swap); clear hst))
          | ((go_at_call 34; refine (HRUN.out _ _ _ H3.out).mono ?_; rintro e w4 ⟨rfl, hst⟩; have HB5 := Lib.hid (st_blk hst.fourth); have H4 := Lib.hid hst.fourth; clear hst))
          | ((refine lst_buildz rfl rfl ?_))
          | ((refine wpList_store_row rfl 69 _ _ rfl B4 #[.int .u64 0, .int .i64 0, .int .u64 0, .int .i64 0, .int .i64 0, .int .u64 0] rfl rfl 69 _ HB5.out sizeSt rfl (by simp [Value.oneCell']) ?_)))
        have H5 := st_setrow (cs := #[.int .u64 0, .int .i64 0, .int .u64 0, .int .i64 0, .int .i64 0, .int .u64 0]) H4.out
        refine bodyPost_ret (results_ctt rfl _ _ B4 69 _ (0, 0) _ rfl (st_blk H5) Tryd.underlying69 rfl sizeSt) rfl ?_
        refine ⟨k, by have := HK.out; omega, ?_, .inr ⟨by rw [HEND.out]; exact H8.out, rfl⟩⟩
        rw [HEND.out]
        exact H5.drop.swap.drop.swap.drop
  case first =>
    go_upto_block 1 with fail
    go_loopw [7] (fun i W => ∃ j, j ≤ L.length ∧ i = .int .i64 ↑j ∧ Red R D L j ∧ ∃ k, k ≤ 200 * j ∧ St w W (aVar B3 (stCells (redJ hd at' L j)) 69 :: pDev X (DevM.more (redE D L j).1 k) :: aVar B2 (rgCells X R) 63 :: aVar B4 zSt 69 :: As)) (fun i _ => L.length + 1 - (intOf i).toNat)
    case atStart => exact ⟨0, by omega, rfl, HR0.out, 0, by omega, HX.out⟩
    case round =>
      obtain ⟨j, hj, rfl, hr, k, hk, hst⟩ := hrel
      clear HX
      have hs := red_stand HA.out HD.out HN.out j hj hr
      have hmore := fun hlt => red_more HA.out HU.out HD.out HRM.out j hlt hr
      have hstd := standing_st (s := redJ hd at' L j) HA.out HG.out (hr.up.more k) hst.swap htail hs.2.2.1 (by show hd.num + j < _; have := HN.out; omega) (hr.up.room (room_less' hr.room (by omega))) hs.2.2.2
      have htot : total (L.take j) ≤ 100 := by have := hs.2.2.1; have := HA.out.few; unfold Rg.ring at *; omega
      have hnum : hd.num + j < 18446744073709551616 := by have := HN.out; omega
      have hup := hr.up
      have hroom := hr.room
      have HRED := Lib.hid hr
      have HT1 : Hid (∀ h : j < L.length, total (L.take (j + 1)) = total (L.take j) + (L[j].length + 2)) := Lib.hid fun h => by rw [take_snoc L j h, total_snoc]
      have HV : Hid (∀ h : j < L.length, ValidW R L[j]) := Lib.hid fun h => (logAt_at HD.out.log j h).1
      have hstd : Calls Tryd.prog 55 #[rgV X R, stV ⟨hd, at', total (L.take j), hd.num + j⟩] wr fun e w' => ∃ v q, q ≤ 200 ∧ e = .returned (.tuple #[v, .int .i64 0]) ∧ St w w' (aWrs v (standM R (redE D L j).1.safe (hd.tail + total (L.take j)) (hd.num + j) (total (L.take j))) :: pDev X (DevM.more (DevM.more (redE D L j).1 k) q) :: aVar B3 (stCells ⟨hd, at', total (L.take j), hd.num + j⟩) 69 :: aVar B2 (rgCells X R) 63 :: aVar B4 zSt 69 :: As) := hstd
      have hs1 := hs.1
      have hs2 := hs.2.1
      have hst : St w wr (aVar B3 (stCells ⟨hd, at', total (L.take j), hd.num + j⟩) 69 :: pDev X (DevM.more (redE D L j).1 k) :: aVar B2 (rgCells X R) 63 :: aVar B4 zSt 69 :: As) := hst
      clear hs hr HR0
      obtain ⟨nu, hnu⟩ : ∃ nu, nu = hd.num + j := ⟨_, rfl⟩
      obtain ⟨tot, htt⟩ : ∃ tot, tot = total (L.take j) := ⟨_, rfl⟩
      obtain ⟨E, hE⟩ : ∃ E, E = (redE D L j).1 := ⟨_, rfl⟩
      rw [← hnu] at hstd hs1 hs2 hst hnum
      rw [← htt] at hstd hs1 hs2 hst htot HT1
      rw [← hE] at hstd hs1 hs2 hst hmore hup hroom
      have HNU := Lib.hid hnu
      have HTT := Lib.hid htt
      have HEE := Lib.hid hE
      clear hnu htt hE
      have c0 : _ = some (pt X) := st_cell hst.third 0; have c1 : _ = some (Value.int .i64 (R.st : Int)) := st_cell hst.third 1; have c2 : _ = some (Value.int .i64 (R.ln : Int)) := st_cell hst.third 2
      have s0 : _ = some (Value.int .u64 (hd.own : Int)) := st_cell hst 0; have s1 : _ = some (Value.int .i64 (hd.tail : Int)) := st_cell hst 1; have s2 : _ = some (Value.int .u64 (hd.num : Int)) := st_cell hst 2; have s3 : _ = some (Value.int .i64 (at' : Int)) := st_cell hst 3; have s4 : _ = some (Value.int .i64 (tot : Int)) := st_cell hst 4; have s5 : _ = some (Value.int .u64 (nu : Int)) := st_cell hst 5
      clear hst
      rcases Nat.lt_or_eq_of_le hj with hlt | hje
      · have hse := hs1 hlt
        rw [hse] at hstd
        have hv := HV.out hlt
        have HSTD := Lib.hid hstd
        have HV2 := Lib.hid hv
        have hm := hmore hlt
        obtain ⟨l, hl⟩ : ∃ l, l = L[j] := ⟨_, rfl⟩
        have HT2 := Lib.hid (HT1.out hlt)
        have hlen := hv.few
        have hln := HA.out.few
        have hne : ¬ l.length = 0 := by rw [hl]; intro e; exact hv.ne (List.length_eq_zero_iff.1 e)
        rw [← hl] at HSTD HV2 hm HT2 hlen
        have l0 : ¬ (l.length : Int) = 0 := by omega
        have l1 : (l.length : Int) ≤ 100 := by omega
        have l2 : (tot : Int) ≤ 100 := by omega
        have l3 : (nu : Int) ≤ 18446744073709551615 := by omega
        have e1 : IntKind.i64.wrap ((l.length : Int) + 2) = (l.length : Int) + 2 := IntWalk.i64_in _ (by omega)
        have e2 : IntKind.i64.wrap ((tot : Int) + ((l.length : Int) + 2)) = (tot : Int) + ((l.length : Int) + 2) := IntWalk.i64_in _ (by omega)
        have e4 : IntKind.i64.wrap ((j : Int) + 1) = (j : Int) + 1 := IntWalk.i64_in _ (by omega)
        have HK := Lib.hid hk
        have HUP := Lib.hid hup
        have HROOM := Lib.hid hroom
        have HLT := Lib.hid hlt
        have HLEN : Hid (l.length ≤ 1024) := Lib.hid (by omega)
        have hkk : k ≤ 20000 := by omega
        have HKK := Lib.hid hkk
        have HL := Lib.hid hl
        clear hse hstd hv hmore hl hlen hln hs1 hs2 hup hroom HV HT1
        rcases hm with ⟨h0, hr2⟩ | ⟨h8, hr2⟩
        · have HRED2 := Lib.hid hr2
          have hnu1 : nu + 1 < 18446744073709551616 := by have h1 := HNU.out; have h2 := HN.out; have h3 := HLT.out; omega
          have e3 : IntKind.u64.wrap ((nu : Int) + 1) = (nu : Int) + 1 := by rw [IntKind.wrap_u64]; omega
          have HE2 : Hid (runS E (wrs l) = ((redE D L (j + 1)).1, 0)) := Lib.hid (by
            have := runS_flat D L j HLT.out HRED.out.ok
            rw [← HEE.out, ← HL.out] at this
            rw [this]
            exact Prod.ext rfl h0)
          clear h0 hr2 hnu1
          go_wp2_with (first
            | ((go_at_call 55; with_reducible refine HSTD.out.mono ?_; rintro e w2 ⟨v, q, hq, rfl, hst⟩; rw [more_more] at hst; obtain ⟨ao, cap, rfl⟩ := st_shape hst; have c0 : _ = some (pt X) := st_cell hst.fourth 0; have c1 : _ = some (Value.int .i64 (R.st : Int)) := st_cell hst.fourth 1; have c2 : _ = some (Value.int .i64 (R.ln : Int)) := st_cell hst.fourth 2; have HQ := Lib.hid hq; have H2 := Lib.hid hst; clear hst hq))
            | ((go_at_call 56; refine (home_st (R := R) (X := X) H2.out l _ (fun W Bs k => wrs_in (St.front (As := Bs) k)) HLEN.out).mono ?_; rintro e w3 ⟨y, rfl, hst⟩; have H3 := Lib.hid (hst.rest (Bs := _ :: _ :: _) fun V k => k.swap); clear hst))
            | ((go_at_call 34; refine (runw_st HA.out HUP.out HV2.out HROOM.out 0 HE2.out (by have h1 := HQ.out; have h2 := HKK.out; omega) H3.out).mono ?_; rintro e w4 ⟨rfl, hst⟩; have s0 : _ = some (Value.int .u64 (hd.own : Int)) := st_cell hst.third 0; have s1 : _ = some (Value.int .i64 (hd.tail : Int)) := st_cell hst.third 1; have s2 : _ = some (Value.int .u64 (hd.num : Int)) := st_cell hst.third 2; have s3 : _ = some (Value.int .i64 (at' : Int)) := st_cell hst.third 3; have s4 : _ = some (Value.int .i64 (tot : Int)) := st_cell hst.third 4; have s5 : _ = some (Value.int .u64 (nu : Int)) := st_cell hst.third 5; have sf := st_free hst.third; have H4 := Lib.hid hst.third; clear hst)))
          have e5 : redJ hd at' L (j + 1) = ⟨hd, at', tot + (l.length + 2), nu + 1⟩ := by unfold redJ; rw [HT2.out, HNU.out]; rfl
          refine ⟨⟨j + 1, by have := HLT.out; omega, by go_num, HRED2.out, k + q, by have h1 := HK.out; have h2 := HQ.out; omega, ?_⟩, by simp [intOf] <;> omega⟩
          rw [e5]
          exact (st_set (st_set H4.out 4 (.int .i64 ((tot : Int) + ((l.length : Int) + 2)))) 5 (.int .u64 ((nu : Int) + 1))).third.drop
        · have HR8 := Lib.hid hr2
          have H8 := Lib.hid h8
          have HE2 : Hid (runS E (wrs l) = ((runS E (wrs l)).1, 8)) := Lib.hid (Prod.ext rfl h8)
          clear h8 hr2
          go_wp2_with (first
            | ((go_at_call 55; with_reducible refine HSTD.out.mono ?_; rintro e w2 ⟨v, q, hq, rfl, hst⟩; rw [more_more] at hst; obtain ⟨ao, cap, rfl⟩ := st_shape hst; have c0 : _ = some (pt X) := st_cell hst.fourth 0; have c1 : _ = some (Value.int .i64 (R.st : Int)) := st_cell hst.fourth 1; have c2 : _ = some (Value.int .i64 (R.ln : Int)) := st_cell hst.fourth 2; have HQ := Lib.hid hq; have H2 := Lib.hid hst; clear hst hq))
            | ((go_at_call 56; refine (home_st (R := R) (X := X) H2.out l _ (fun W Bs k => wrs_in (St.front (As := Bs) k)) HLEN.out).mono ?_; rintro e w3 ⟨y, rfl, hst⟩; have H3 := Lib.hid (hst.rest (Bs := _ :: _ :: _) fun V k => k.swap); clear hst))
            | ((go_at_call 34; refine (runw_st HA.out HUP.out HV2.out HROOM.out 8 HE2.out (by have h1 := HQ.out; have h2 := HKK.out; omega) H3.out).mono ?_; rintro e w4 ⟨rfl, hst⟩; have HB4 := Lib.hid (st_blk hst.fifth); have H4 := Lib.hid hst.fifth; clear hst))
            | ((refine lst_buildz rfl rfl ?_))
            | ((refine wpList_store_row rfl 69 _ _ rfl B4 #[.int .u64 0, .int .i64 0, .int .u64 0, .int .i64 0, .int .i64 0, .int .u64 0] rfl rfl 69 _ HB4.out sizeSt rfl (by simp [Value.oneCell']) ?_)))
          have H5 := st_setrow (cs := #[.int .u64 0, .int .i64 0, .int .u64 0, .int .i64 0, .int .i64 0, .int .u64 0]) H4.out
          refine bodyPost_ret (results_ctt rfl _ _ B4 69 _ (0, 0) _ rfl (st_blk H5) Tryd.underlying69 rfl sizeSt) rfl ?_
          refine ⟨k + q, by have h1 := HQ.out; have h2 := HKK.out; omega, ?_, .inr ⟨by rw [HR8.out]; exact H8.out, rfl⟩⟩
          rw [HR8.out]
          exact H5.drop.swap.drop.swap.drop.swap.drop
      · have hse := hs2 hje
        rw [hse] at hstd
        have HSTD := Lib.hid hstd
        have HJE := Lib.hid hje
        have HK := Lib.hid hk
        clear hse hstd hmore hs1 hs2 hup hroom HV HT1 hje hj
        go_wp2_with ((go_at_call 55; with_reducible refine HSTD.out.mono ?_; rintro e w2 ⟨v, q, hq, rfl, hst⟩; rw [more_more] at hst; obtain ⟨ao, cap, rfl⟩ := st_shape hst; have HQ := Lib.hid hq; have H2 := Lib.hid hst; clear hst hq))
        go_meet
        have hjl := HJE.out
        have hred := HRED.out
        have h2 := H2.out.drop.swap
        rw [HNU.out, HTT.out, HEE.out] at h2
        subst hjl
        exact ⟨rfl, hred, k + q, by have h1 := HQ.out; have h2 := HK.out; omega, h2⟩
end
end Go.Proofs.YtjmjmekmaamclaaDoor.jrn
/-
  Regions inside a round of a range over a function: what is shown of them outside a round holds there.
-/
namespace Go.Proofs.YtjmjmekmaamclaaDoor.jrn
open Go.ChangeShapes Go.WideShapes Go.ChangeAt Go.RowKit Go.Shelf mem dev sums
set_option linter.unusedVariables false
section
variable {l n : Nat} {P : Program} {Q : Exit → Act → World → Prop} {ops : Array Oper}
theorem op_in {o : Oper} {a : Act} {w : World} {K : Act → World → Prop} (hd : ∀ c, o.op ≠ .defer c) (h : o.wp P a w K Q) : o.wpIn (Fence.wide.inRound l) n P a w K Q := by
  refine ⟨fun f _ => trivial, ?_⟩
  rw [Fence.inRound_round, Oper.semAt_some _ _ _ hd]
  unfold Oper.wp at h
  revert h
  generalize (execOp a.eval o).run P w = r
  intro h
  cases r with
  | ok x w' =>
    cases x with
    | value v => exact h
    | skip => exact h
    | defer d => exact h
    | enter f args => exact ⟨fun h => by simp [Fence.wide] at h, CallsIn.inRound l (callsIn_wide.2 h)⟩
    | row row args => exact ⟨fun h => by simp [Fence.wide] at h, fun c cs _ => let ⟨v, w'', r, s⟩ := h c cs; ⟨v, w'', r, stepsIn_wide.2 s⟩⟩
    | round => exact h.elim
    | _ => exact h.elim
  | halt p w' =>
    cases p with
    | panic v => exact h
    | _ => exact h.elim
theorem any_in {md : Region.Mode} (hd : ∀ o ∈ ops, ∀ c, o.op ≠ .defer c) (hL : ¬ LetsOut Q) : ∀ (fuel : Nat) (listed : Array Bool) (a : Act) (w : World), wpAny P md ops Q fuel listed a w → wpAnyIn (Fence.wide.inRound l) n P md ops Q fuel listed a w
  | 0, _, _, _, h => h
  | fuel + 1, listed, a, w, h => ⟨h.1, fun i hi => by
      have h2 := wpOp_mono (fun a' w' h' => any_in hd hL fuel _ a' w' h') (h.2 i hi)
      unfold wpOpIn
      unfold wpOp at h2
      cases ho : ops[i]? with
      | none => rw [ho] at h2; exact h2
      | some o =>
        rw [ho] at h2
        have hm : o ∈ ops := by
          obtain ⟨hlt, he⟩ := Array.getElem?_eq_some_iff.1 ho
          rw [← he]; exact Array.getElem_mem hlt
        dsimp only at h2 ⊢
        split at h2
        · rename_i hw
          rw [if_pos hw]
          rcases h2 with h2 | ⟨_, h2⟩
          · exact op_in (hd o hm) h2
          · exact absurd h2 hL
        · rename_i hw
          rw [if_neg hw]
          exact ⟨fun _ _ => trivial, h2⟩⟩
def noDefer (o : Oper) : Bool := match o.op with
  | .defer _ => false
  | _ => true
theorem noDefer_all (h : ops.all noDefer = true) : ∀ o ∈ ops, ∀ c, o.op ≠ .defer c := by
  intro o ho c e
  have := (Array.all_eq_true_iff_forall_mem.1 h) o ho
  unfold noDefer at this
  rw [e] at this
  cases this
theorem wpIn_region_held {id : Nat} {a : Act} {w : World} {S : World → Prop} (hm : P.follows .mixedOrders = true) (hd : ops.all noDefer = true) (hL : ¬ LetsOut Q)
    (h : wpAnyH P .any ops Q S ops.size (Array.replicate ops.size false) a w.drew) : (Code.region id ops true).wpIn (Fence.wide.inRound l) n P Q a w :=
  wpIn_region_any hm (any_in (noDefer_all hd) hL _ _ _ _ (wpAny_of_held _ _ _ _ h))
theorem list_in (hL : ¬ LetsOut Q) : ∀ (k : List Oper), (∀ o ∈ k, ∀ c, o.op ≠ .defer c) → ∀ (a : Act) (w : World), wpList P ops Q k a w → wpListIn (Fence.wide.inRound l) n P ops Q k a w
  | [], _, _, _, h => h
  | o :: k, hk, a, w, h => by
    unfold wpListIn
    unfold wpList at h
    split at h
    · rename_i hw
      rw [if_pos hw]
      rcases h with h | ⟨_, h⟩
      · exact op_in (hk o List.mem_cons_self) (Oper.wp_mono (fun a w h => list_in hL k (fun o ho => hk o (List.mem_cons_of_mem _ ho)) a w h) h)
      · exact absurd h hL
    · rename_i hw
      rw [if_neg hw]
      exact ⟨fun _ _ => trivial, list_in hL k (fun o ho => hk o (List.mem_cons_of_mem _ ho)) _ _ h⟩
theorem wpIn_region_plain {id : Nat} {k : List Oper} {a : Act} {w : World} (hd : k.toArray.all noDefer = true) (hL : ¬ LetsOut Q) (h : wpList P k.toArray Q k a w) : (Code.region id k.toArray false).wpIn (Fence.wide.inRound l) n P Q a w :=
  Go.wpIn_region_lit (list_in hL k (fun o ho => noDefer_all hd o (by simpa using ho)) a w h)
end
end Go.Proofs.YtjmjmekmaamclaaDoor.jrn
/-
  Layer 5, the program: commit: the steps of a transaction: up to the walk round the ring.
-/
namespace Go.Proofs.YtjmjmekmaamclaaDoor.jrn
open Go.ChangeShapes Go.WideShapes Go.ChangeAt Go.RowKit mem dev sums
set_option linter.unusedVariables false
def ckP (R : Rg) (s : JSt) (l : List Wr) : List Stp := if R.ring - s.used < l.length + 2 then ckS R s else []
def ckJP (R : Rg) (s : JSt) (l : List Wr) : JSt := if R.ring - s.used < l.length + 2 then ckJ R s else s
theorem commitS_p (R : Rg) (s : JSt) (l : List Wr) : commitS R s l = ckP R s l ++ txS R (ckJP R s l) l := by
  unfold commitS ckP ckJP; split <;> simp
theorem commitJ_p (R : Rg) (s : JSt) (l : List Wr) : commitJ R s l = txJ (ckJP R s l) l := by
  unfold commitJ ckJP; split <;> rfl
def texts (n : Nat) (l : List Wr) (z : Nat) : List ByteArray := txn n l z ++ [txnC n l z]
theorem texts_len (n : Nat) (l : List Wr) (z : Nat) : (texts n l z).length = l.length + 2 := by unfold texts; rw [List.length_append, txn_len, List.length_singleton]
/-- the steps for the first so many texts; the last one's is behind a flush -/
def ringS (R : Rg) (p : Nat) (T : List ByteArray) (k : Nat) : List Stp := wrs (placed R p (T.take (min k (T.length - 1)))) ++ (if T.length ≤ k then [.fl, .wr (R.place (p + (T.length - 1))) (T.getD (T.length - 1) empty)] else [])
theorem placed_snoc (R : Rg) (t : ByteArray) : ∀ (ts : List ByteArray) (p : Nat), placed R p (ts ++ [t]) = placed R p ts ++ [(R.place (p + ts.length), t)]
  | [], p => rfl
  | x :: ts, p => by
    show (R.place p, x) :: placed R (p + 1) (ts ++ [t]) = (R.place p, x) :: (placed R (p + 1) ts ++ [(R.place (p + (ts.length + 1)), t)])
    rw [placed_snoc R t ts (p + 1), show p + 1 + ts.length = p + (ts.length + 1) from by omega]
theorem ringS_zero (R : Rg) (p : Nat) (T : List ByteArray) (h : 0 < T.length) : ringS R p T 0 = [] := by
  unfold ringS
  rw [Nat.zero_min, if_neg (by omega)]; rfl
theorem ringS_more (R : Rg) (p : Nat) (T : List ByteArray) (k : Nat) (h : k + 1 < T.length) : ringS R p T (k + 1) = ringS R p T k ++ [.wr (R.place (p + k)) (T[k]'(by omega))] := by
  unfold ringS
  rw [if_neg (by omega), if_neg (by omega), List.append_nil, List.append_nil, Nat.min_eq_left (by omega), Nat.min_eq_left (by omega), List.take_succ_eq_append_getElem (by omega), placed_snoc, wrs_append, List.length_take, Nat.min_eq_left (by omega)]
  rfl
theorem ringS_last (R : Rg) (p : Nat) (T : List ByteArray) (k : Nat) (h : k + 1 = T.length) : ringS R p T (k + 1) = ringS R p T k ++ [.fl, .wr (R.place (p + k)) (T[k]'(by omega))] := by
  unfold ringS
  rw [if_pos (by omega), if_neg (by omega), List.append_nil, Nat.min_eq_right (by omega), Nat.min_eq_left (by omega)]
  have e : T.length - 1 = k := by omega
  rw [e]
  congr 2
  rw [List.getD_eq_getElem?_getD, List.getElem?_eq_getElem (by omega)]
  rfl
theorem txS_ring (R : Rg) (s : JSt) (l : List Wr) : txS R s l = ringS R (s.h.tail + s.used) (texts s.num l R.z) (texts s.num l R.z).length ++ (.fl :: wrs l) := by
  unfold txS recS ringS
  rw [if_pos (Nat.le_refl _), texts_len, Nat.min_eq_right (by omega)]
  have e1 : (texts s.num l R.z).take (l.length + 2 - 1) = txn s.num l R.z := by
    unfold texts
    rw [List.take_append_of_le_length (by rw [txn_len]; omega), List.take_of_length_le (by rw [txn_len]; omega)]
  have e2 : (texts s.num l R.z).getD (l.length + 2 - 1) empty = txnC s.num l R.z := by
    unfold texts
    rw [List.getD_eq_getElem?_getD, List.getElem?_append_right (by rw [txn_len]; omega), txn_len, show l.length + 2 - 1 - (l.length + 1) = 0 from by omega]
    rfl
  rw [e1, e2, show s.h.tail + s.used + (l.length + 2 - 1) = s.h.tail + s.used + 1 + l.length from by omega, List.append_assoc]
  rfl
end Go.Proofs.YtjmjmekmaamclaaDoor.jrn
