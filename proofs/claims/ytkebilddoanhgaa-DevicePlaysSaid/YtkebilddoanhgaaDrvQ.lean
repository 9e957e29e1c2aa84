/-
  Layer 4, the program's Twin: the walk.
-/
import Derived.Test.YtkebilddoanhgaaDrvP
namespace Go.Proofs.Ytkebilddoanhgaa.dev
open Go.ChangeShapes Go.WideShapes Go.ChangeAt Go.RowKit mem
set_option linter.unusedVariables false

section
variable {w wr : World} {As : List Ast} {X : Nat} {D : DevM} {r : PRep}

/-- the twin's map, while the blocks L are still to come -/
def twinV (D : DevM) (rv : Nat → Value) (L : Nat → Bool) (n : Nat) : Option Value := if L n = true ∨ D.ws n = [] then none else some (rv n)
def twinRow (D : DevM) (rv : Nat → Value) (L : Nat → Bool) (n : Nat) : Ast := if L n = true ∨ D.ws n = [] then aRow 66 2 (.slice none 0 0) 0 [] else aRow 66 2 (rv n) (D.ws n).length (wcells (D.ws n))
def rvSet (rv : Nat → Value) (m : Nat) (v : Value) : Nat → Value := fun n => if n = m then v else rv n
def lOut (L : Nat → Bool) (m : Nat) : Nat → Bool := fun n => L n && !decide (n = m)
theorem twinV_step (D : DevM) (rv : Nat → Value) (L : Nat → Bool) (m : Nat) (v : Value) (h : D.ws m ≠ []) : upd (twinV D rv L) m v = twinV D (rvSet rv m v) (lOut L m) := by
  funext n
  unfold upd twinV rvSet lOut
  by_cases e : n = m
  · subst e; simp [h]
  · simp [e]
theorem twinRow_other (D : DevM) (rv : Nat → Value) (L : Nat → Bool) (m n : Nat) (v : Value) (h : n ≠ m) : twinRow D rv L n = twinRow D (rvSet rv m v) (lOut L m) n := by
  unfold twinRow rvSet lOut
  simp [h]
theorem twinRow_new (D : DevM) (rv : Nat → Value) (L : Nat → Bool) (m : Nat) (v : Value) (h : D.ws m ≠ []) : twinRow D (rvSet rv m v) (lOut L m) m = aRow 66 2 v (D.ws m).length (wcells (D.ws m)) := by
  unfold twinRow rvSet lOut
  simp [h]
/-- the twin's rows behind all -/
def twinRv (D : DevM) (rv : Nat → Value) : Nat → Value := fun n => if D.ws n = [] then .slice none 0 0 else rv n
theorem twinV_end (D : DevM) (r : PRep) (rv : Nat → Value) (L : Nat → Bool) (h : ∀ n, n < D.nb → L n = false) (hk : D.Ok) (mb mc : Nat) (q : List Bool) (sv : Value) : twinV D rv L = mapV D { r with rv := twinRv D rv, mb := mb, mc := mc, q := q, sv := sv } := by
  funext n
  unfold twinV mapV twinRv
  by_cases e : D.ws n = []
  · simp [e]
  · have hn : n < D.nb := by
      rcases Nat.lt_or_ge n D.nb with h' | h'
      · exact h'
      · exact absurd (ws_out hk h') e
    simp [e, h n hn]
theorem twinRow_end (D : DevM) (r : PRep) (rv : Nat → Value) (L : Nat → Bool) (h : ∀ n, n < D.nb → L n = false) (mb mc : Nat) (q : List Bool) (sv : Value) : (List.range D.nb).map (twinRow D rv L) = pRows D { r with rv := twinRv D rv, mb := mb, mc := mc, q := q, sv := sv } := by
  unfold pRows
  refine List.map_congr_left fun n hn => ?_
  have hn' := List.mem_range.1 hn
  unfold twinRow pRow twinRv
  by_cases e : D.ws n = []
  · simp [e, wcells]
  · simp [e, h n hn']
theorem twin_known (a : PKnown D r) (rv : Nat → Value) (mb mc : Nat) (q : List Bool) (sv : Value) (hc : mc ≤ D.cache.length) : PKnown D { r with rv := twinRv D rv, mb := mb, mc := mc, q := q, sv := sv } :=
  ⟨a.ok, a.plan, a.crash, a.left, hc, fun n h => by show twinRv D rv n = _; unfold twinRv; rw [if_pos h]⟩

theorem range_le {W : World} {b rr c cnt : Nat} {V : Nat → Option Value} {L : Nat → Bool} (h : RangeAt W b rr c V L cnt) : cnt ≤ c := by
  obtain ⟨D, left, ⟨es, clock, since, seen, c0, hb, F, hs, hD, hr, hold, hc, _⟩, _⟩ := h
  rw [← hc]
  refine Nat.le_trans ?_ hs
  unfold leftOf
  exact Array.size_filter_le
theorem twin_start (D : DevM) (r : PRep) (W : World) (n : Nat) : (twinRow D (fun _ => .slice none 0 0) (fun n => (mapV D r n).isSome) n).p W fun _ => False := by
  have e : (mapV D r n).isSome = true ∨ D.ws n = [] := by
    unfold mapV
    by_cases e : D.ws n = []
    · exact .inr e
    · rw [if_neg e]; exact .inl rfl
  unfold twinRow
  rw [if_pos e]
  exact ⟨World.ownsRow_nil _ _ _ _, fun g => by simp [Value.ownBlock]⟩
theorem twinV_start (D : DevM) (r : PRep) : twinV D (fun _ => .slice none 0 0) (fun n => (mapV D r n).isSome) = fun _ => none := by
  funext n
  have e : (mapV D r n).isSome = true ∨ D.ws n = [] := by
    unfold mapV
    by_cases e : D.ws n = []
    · exact .inr e
    · rw [if_neg e]; exact .inl rfl
  unfold twinV
  rw [if_pos e]
theorem twin_order {W : World} {a b c d e f g h i j : Ast} (H : St w W (a :: b :: c :: d :: e :: f :: g :: h :: i :: j :: As)) : St w W (e :: g :: f :: d :: b :: h :: i :: c :: j :: a :: As) := by
  have h1 : St w W (j :: a :: b :: c :: d :: e :: f :: g :: h :: i :: As) := St.front (As := [a, b, c, d, e, f, g, h, i]) H
  have h2 : St w W (c :: j :: a :: b :: d :: e :: f :: g :: h :: i :: As) := St.front (As := [j, a, b]) h1
  have h3 : St w W (i :: c :: j :: a :: b :: d :: e :: f :: g :: h :: As) := St.front (As := [c, j, a, b, d, e, f, g, h]) h2
  have h4 : St w W (h :: i :: c :: j :: a :: b :: d :: e :: f :: g :: As) := St.front (As := [i, c, j, a, b, d, e, f, g]) h3
  have h5 : St w W (b :: h :: i :: c :: j :: a :: d :: e :: f :: g :: As) := St.front (As := [h, i, c, j, a]) h4
  have h6 : St w W (d :: b :: h :: i :: c :: j :: a :: e :: f :: g :: As) := St.front (As := [b, h, i, c, j, a]) h5
  have h7 : St w W (f :: d :: b :: h :: i :: c :: j :: a :: e :: g :: As) := St.front (As := [d, b, h, i, c, j, a, e]) h6
  have h8 : St w W (g :: f :: d :: b :: h :: i :: c :: j :: a :: e :: As) := St.front (As := [f, d, b, h, i, c, j, a, e]) h7
  exact St.front (As := [g, f, d, b, h, i, c, j, a]) h8
theorem clone_strs {W : World} {g cap : Nat} {l : List ByteArray} (hc : ∀ j, j < l.length → W.cell? ⟨g, j, none⟩ = some (.string (l.getD j empty))) (hl : l.length ≤ 4096) :
    Calls Try.prog 17 #[.slice (some ⟨g, 0, none⟩) l.length cap] W fun e w' => ∃ v', e = .returned v' ∧ w'.ownsRow W.heap.size 9 1 v' l.length (strs l) ∧ Below W.heap.size W w' := by
  refine (Try.slices_Clone_string g 0 l.length cap l W (Nat.le_refl _) (by omega) fun j hj => ?_).mono fun e w' ⟨v', h1, h2, h3, h4⟩ => ⟨v', h1, ?_, h4⟩
  · rw [Nat.zero_add]; exact hc j hj
  · rw [List.take_length] at h2; exact h2

set_option maxRecDepth 8000 in
set_option maxHeartbeats 2000000 in
theorem ptwin_any (h : St w wr (pDev X D :: As)) (hR : D.Room 0) :
    Calls Try.prog 8 #[pt X] wr fun e w' => ∃ Y, e = .returned (pt Y) ∧ St w w' (pDev Y D :: pDev X D :: As) := by
  obtain ⟨r, a, h1⟩ := pdev_open h
  have hS := psees a h1
  obtain ⟨g, cap, hsv, hss⟩ := hS.hs
  obtain ⟨ka, kc, hkv⟩ : ∃ ka kc, r.kv = .slice ka r.ks.length kc := by
    rcases (st_shared (h := h1.fifth)).2 with ⟨e1, e2⟩ | ⟨g, cap, cur, hv, hr⟩
    · exact ⟨none, 0, by rw [e1, e2]⟩
    · exact ⟨_, _, hv⟩
  have c0 := hS.c0
  have c1 := hS.c1
  have c2 := hS.c2
  have c3 := hS.c3
  have c4 := hS.c4
  have c5 := hS.c5
  have c6 := hS.c6
  have c7 := hS.c7
  have c8 := hS.c8
  have c9 := hS.c9
  have c10 := hS.c10
  rw [hkv] at c1
  rw [hsv] at c5
  have hH : pHead D r = [.int .i64 (r.left : Int), .slice ka r.ks.length kc, .int .i64 r.torn, .int .u8 (r.mask : Int), .int .i64 (512 * (D.ns : Int)), .slice (some ⟨g, 0, none⟩) D.nb cap, .map (some r.mb), .int .i64 (D.cache.length : Int), .bool D.down, .int .i64 (D.calls : Int), .int .i64 (D.reads : Int)] := by unfold pHead; rw [hkv, hsv]; simp
  have HH := Lib.hid hH
  have h2 := st_new h1 [.int .i64 (r.left : Int), .slice ka r.ks.length kc, .int .i64 r.torn, .int .u8 (r.mask : Int), .int .i64 (512 * (D.ns : Int)), .slice (some ⟨g, 0, none⟩) D.nb cap, .map (some r.mb), .int .i64 (D.cache.length : Int), .bool D.down, .int .i64 (D.calls : Int), .int .i64 (D.reads : Int)] 60
  have hch := (Ch.refl (fun _ => False) wr).alloc (.cells #[.int .i64 (r.left : Int), .slice ka r.ks.length kc, .int .i64 r.torn, .int .u8 (r.mask : Int), .int .i64 (512 * (D.ns : Int)), .slice (some ⟨g, 0, none⟩) D.nb cap, .map (some r.mb), .int .i64 (D.cache.length : Int), .bool D.down, .int .i64 (D.calls : Int), .int .i64 (D.reads : Int)] 60)
  have b5 := hch.cell c5
  have b6 := hch.cell c6
  have hne : ¬ X = wr.heap.size := by have := st_lt h1; omega
  have hen : ¬ wr.heap.size = X := fun e => hne e.symm
  have z5 := st_cell h2 5
  have z6 := st_cell h2 6
  have zf5 := st_free h2 5
  have zf6 := st_free h2 6
  have H2 := Lib.hid h2
  have HK := Lib.hid a
  have HSV := Lib.hid hsv
  have HKV := Lib.hid hkv
  have hcl := clone_strs (W := wr.alloc (.cells #[.int .i64 (r.left : Int), .slice ka r.ks.length kc, .int .i64 r.torn, .int .u8 (r.mask : Int), .int .i64 (512 * (D.ns : Int)), .slice (some ⟨g, 0, none⟩) D.nb cap, .map (some r.mb), .int .i64 (D.cache.length : Int), .bool D.down, .int .i64 (D.calls : Int), .int .i64 (D.reads : Int)] 60)) (g := g) (cap := cap) (l := D.safe) (fun j hj => hch.cell (hss j (by rw [← a.ok.safe]; exact hj))) (by rw [a.ok.safe]; exact a.ok.nb1)
  rw [a.ok.safe] at hcl
  have HCLS := Lib.hid hcl
  have hmm := @run_makeMap Try.prog
  have HCL := Lib.hid (show D.cache.length ≤ 1073741824 by have := hR.cache; omega)
  clear h h1 h2 a hR hsv hkv hss hcl hS hH hch
  go_enter Try.func8, Try.ntmps8
  go_wp2_with (first
    | (go_at_call 17; refine HCLS.out.mono ?_; rintro e w3 ⟨v', rfl, ho, hbe⟩; have h3 := st_pushown H2.out hbe ho; obtain ⟨ao3, cap3, rfl⟩ := st_shape h3; have h4 := st_mapnew (st_set h3.swap 5 (.slice ao3 D.nb cap3)); simp only [World.size_setCell] at h4; have H5 := Lib.hid (St.front (As := [_, _, _, _, _]) (st_set h4.swap 6 (.map (some w3.heap.size)))); have g6 := st_cell h4.swap 6; have gf6 := st_free h4.swap 6; have k6 : _ = some (Value.map (some r.mb)) := st_cell h4.fourth 6; have f5 := st_free h3.swap 5; have f6 := st_free h3.swap 6; have d5 := st_cell h3.swap 5; have d6 := st_cell h3.swap 6; have x6 : _ = some (Value.map (some r.mb)) := st_cell h3.third 6; clear h3 ho hbe h4)
    | (at_range; refine lst_range H5.out Try.underlying55 rfl _ rfl rfl ?_; intro w6 rr cnt0 h6 hch6 hrr; have H6 := Lib.hid (st_norows h6 (twinRow D (fun _ => .slice none 0 0) (fun n => (mapV D r n).isSome)) (twin_start D r w6) (List.range D.nb)); clear h6 hch6 hrr H5; go_frame))
  clear H2 HCLS hmm
  generalize hT : wr.heap.size = T at H6 ⊢
  generalize hM : w3.heap.size = M at H6 ⊢
  clear hT hM
  have HC0 := Lib.hid (range_le (st_range H6.out.swap))
  go_loopw [4, 5] (fun _ _ W => ∃ L cnt c' rv, c' + cnt ≤ cnt0 ∧ St w W (aRange r.mb rr r.mc (mapV D r) L cnt :: aMany ((List.range D.nb).map (twinRow D rv L)) :: aVar T ((pHead D r).set 5 (.slice ao3 D.nb cap3) |>.set 6 (.map (some M))) 60 :: aMap M c' (twinV D rv L) :: aRow 9 1 (.slice ao3 D.nb cap3) D.nb (strs D.safe) :: aVar X (pHead D r) 60 :: aRow 9 1 r.sv D.nb (strs D.safe) :: aMany (pRows D r) :: aShare 3 1 r.kv r.ks.length (intsV r.ks) r.q :: As)) (fun _ _ W => W.rangeLeft r.mb rr)
  case atStart =>
    refine ⟨fun n => (mapV D r n).isSome, cnt0, 0, fun _ => .slice none 0 0, by omega, ?_⟩
    rw [twinV_start]
    have := H6.out.swap
    rw [← HH.out] at this
    exact this
  case round =>
    obtain ⟨L, cnt, c', rv, hcc, h7⟩ := hrel
    have HL := Lib.hid (st_left h7)
    have H7 := Lib.hid h7
    have HCC := Lib.hid hcc
    clear h7 H6 hcc
    go_wp2_with (at_next; refine lst_next H7.out rfl _ rfl rfl ?_ ?_)
    · intro h0 hl0
      have HL0 := Lib.hid hl0
      clear hl0 h0
      go_wp2_with fail
      go_ret
      have h9 := st_ranged H7.out
      have h10 := st_halve (St.front (As := [_, _, _, _, _, _, _, _]) h9)
      have hL : ∀ n, n < D.nb → L n = false := fun n hn => HL0.out n (by have := HK.out.ok.nb1; omega)
      rw [twinV_end D r rv L hL HK.out.ok M c' (r.q ++ [true]) (.slice ao3 D.nb cap3), twinRow_end D r rv L hL M c' (r.q ++ [true]) (.slice ao3 D.nb cap3)] at h10
      have h11 := twin_order h10
      have k1 := twin_known HK.out rv M c' (r.q ++ [true]) (.slice ao3 D.nb cap3) (by have := HCC.out; have := HC0.out; have := HK.out.mc; omega)
      have h12 : St w wr (pDev T D :: (pParts X D { r with q := r.q ++ [false] } ++ As)) := pdev_shut { r with rv := twinRv D rv, mb := M, mc := c', q := r.q ++ [true], sv := .slice ao3 D.nb cap3 } k1 h11
      have h13 := pdev_shut { r with q := r.q ++ [false] } ⟨HK.out.ok, HK.out.plan, HK.out.crash, HK.out.left, HK.out.mc, HK.out.none⟩ (St.behind (As := pParts X D { r with q := r.q ++ [false] }) h12)
      exact ⟨T, rfl, h13.swap⟩
    · intro n x w8 cnt8 hn hl hv hlt h8 hch hen
      obtain ⟨hws, hx⟩ : D.ws n ≠ [] ∧ x = r.rv n := by
        unfold mapV at hv
        by_cases e : D.ws n = []
        · rw [if_pos e] at hv; cases hv
        · rw [if_neg e] at hv; exact ⟨e, (Option.some.inj hv).symm⟩
      subst hx
      have hnb : n < D.nb := by
        rcases Nat.lt_or_ge n D.nb with h | h
        · exact h
        · exact absurd (ws_out HK.out.ok h) hws
      have hpos : 0 < (D.ws n).length := List.length_pos_iff.2 hws
      have hlen : (D.ws n).length ≤ 1073741824 := by
        have := ws_len n D.cache 0
        have := HCL.out
        show (wsFrom n 0 D.cache).length ≤ _; omega
      have hrow : w8.ownsRow 0 66 2 (r.rv n) (D.ws n).length (wcells (D.ws n)) := by
        obtain ⟨F, hF⟩ := (h8.drop.drop.drop.drop.drop.drop.drop).get
        obtain ⟨F', hF', _⟩ := sep_mem hF n (List.mem_range.2 hnb)
        exact hF'
      obtain ⟨gx, capx, hrv, _⟩ := row_shape hrow hpos
      rw [hrv] at hrow hen
      have h9 := h8.drew
      have HCW := Lib.hid (clone_writes h9 (cap := capx) (g := gx) hrow hpos hlen)
      have HNB := Lib.hid (show n < D.nb ∧ n ≤ 9223372036854775807 ∧ c' < maxLen by have := HCC.out; have := HC0.out; have := HK.out.mc; have := HCL.out; unfold maxLen; omega)
      have t6 : _ = some (Value.map (some M)) := st_cell h8.third 6
      have HWS := Lib.hid hws
      have HLT := Lib.hid hlt
      have HRV := Lib.hid hrv
      have HLN := Lib.hid hl
      clear h8 hch hv hlt hrow hpos hlen hws hnb h9 H7 hl
      rw [hrv]
      clear hrv
      go_wp2_with fail
      go_region_held3 (fun W => W.cell? ⟨T, 6, none⟩ = some (.map (some M))) (go_keep)
        (first
          | (go_at_call 18; refine HCW.out.mono ?_; rintro e w9 ⟨g9, cap9, rfl, h9, hch9⟩; obtain ⟨w10, hrun, h10, hch10⟩ := map_put (St.front (As := [_, _, _, _]) h9) Try.underlying55 n HNB.out.2.1 HNB.out.2.2 (.slice (some ⟨g9, 0, none⟩) (D.ws n).length cap9); have H10 := Lib.hid h10; have s6 : _ = some (Value.map (some M)) := st_cell h9.fourth 6; have u6 : _ = some (Value.map (some M)) := st_cell (h10.fifth) 6; clear h9 hch9 h10 hch10))
      have hstep : St w w10 (aRange r.mb rr r.mc (mapV D r) (lOut L n) cnt8 :: aMany ((List.range D.nb).map (twinRow D (rvSet rv n (.slice (some ⟨g9, 0, none⟩) (D.ws n).length cap9)) (lOut L n))) :: aVar T ((pHead D r).set 5 (.slice ao3 D.nb cap3) |>.set 6 (.map (some M))) 60 :: aMap M (c' + 1) (twinV D (rvSet rv n (.slice (some ⟨g9, 0, none⟩) (D.ws n).length cap9)) (lOut L n)) :: aRow 9 1 (.slice ao3 D.nb cap3) D.nb (strs D.safe) :: aVar X (pHead D r) 60 :: aRow 9 1 r.sv D.nb (strs D.safe) :: aMany (pRows D r) :: aShare 3 1 r.kv r.ks.length (intsV r.ks) r.q :: As) := by
        have k1 := one_open HNB.out.1 H10.out.fourth
        have k2 := k1.drop.third
        rw [butOne_congr (fun m hm => twinRow_other D rv L n m (.slice (some ⟨g9, 0, none⟩) (D.ws n).length cap9) hm), ← twinRow_new D rv L n (.slice (some ⟨g9, 0, none⟩) (D.ws n).length cap9) HWS.out] at k2
        have k3 := one_shut HNB.out.1 k2
        rw [twinV_step D rv L n _ HWS.out] at k3
        exact k3.third.rest fun V k => k.tail fun V k => k.swap
      have HSTEP := Lib.hid hstep
      go_roundw
      case rel => exact ⟨_, _, _, _, _, _, _, _, _, _, _, _, ⟨lOut L n, cnt8, c' + 1, _, by have := HCC.out; have := HLT.out; omega, HSTEP.out⟩, rfl⟩
      case measure =>
        rw [st_left HSTEP.out, HL.out]
        exact HLT.out
end
end Go.Proofs.Ytkebilddoanhgaa.dev
