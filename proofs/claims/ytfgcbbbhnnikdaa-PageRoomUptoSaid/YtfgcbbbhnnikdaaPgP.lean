/-
  Layer 7, the program: Encode.
-/
import Derived.Test.YtfgcbbbhnnikdaaPgO
namespace Go.Proofs.Ytfgcbbbhnnikdaa.pg
open Go.ChangeShapes Go.WideShapes Go.ChangeAt Go.RowKit mem
set_option linter.unusedVariables false
set_option maxHeartbeats 2000000 in
set_option maxRecDepth 8000 in
theorem pencode_any {W : World} {kv vv iv : Value} {n : Nd} (h : NodeIn W kv vv iv n) (ok : NodeOk n) (z : Int) :
    Calls Try.prog 39 #[ndV n kv vv iv, .int .i64 z] W fun e w' => e = .returned (.tuple #[.string (encE n z).1, .int .i64 (encE n z).2]) ∧ Ch0 W w' := by
  obtain ⟨W1, hW1, hch, h1, c0, c1, c2, c3, hlt⟩ := box_node h 66
  obtain ⟨⟨ka, kc, rfl⟩, ⟨va, vc, rfl⟩, ⟨ia, ic, rfl⟩⟩ := node_forms h
  have HCH := Lib.hid hch
  have HCK := Lib.hid (pcheck_any h1 ok z)
  by_cases hgood : okSz z ∧ CheckM n z.toNat
  · obtain ⟨hz, hc⟩ := hgood
    rw [check_ok hz hc] at HCK
    rw [encE_ok hz hc]
    have hz1 : z = (z.toNat : Nat) := by have := hz.1; omega
    have hz4 : z.toNat ≤ 4096 := by have := hz.2.1; omega
    generalize z.toNat = zn at hz1 hz4 hc ⊢
    subst hz1
    obtain ⟨T, hT⟩ : ∃ T, T = blockM n zn := ⟨_, rfl⟩
    rw [← hT]
    have HN := Lib.hid h1
    have HLP := Lib.hid fun (w2 wr : World) (hn : NodeIn w2 (.slice ka n.keys.length kc) (.slice va n.vals.length vc) (.slice ia n.kids.length ic) n) (hl : n.leaf = true) (A Bk G : Nat) (hs : St w2 wr (putB A Bk G zn ⟨#[]⟩ [])) => putLeaf_st hn ok hl hc hz4 hs
    have HIP := Lib.hid fun (w2 wr : World) (hn : NodeIn w2 (.slice ka n.keys.length kc) (.slice va n.vals.length vc) (.slice ia n.kids.length ic) n) (hl : n.leaf = false) (A Bk G : Nat) (hs : St w2 wr (putB A Bk G zn ⟨#[]⟩ [])) => putInner_st hn ok hl hc hz4 hs
    have HT : Hid (⟨(filL (encM n) zn).toArray⟩ = T) := Lib.hid (by
      rw [hT]
      apply ba_ext
      show filL (encM n) zn = _
      rw [blockM, app_data]
      rfl)
    have HFL : Hid ((filL (encM n) zn).length = zn) := Lib.hid (filL_len (by have := encM_size hc.may; have := hc.fits; omega))
    have HZ := Lib.hid hz4
    have hmk := fun W => make_run rowByte zn (by omega) (by omega) .i64 .i64 W
    clear hT hc hz ok h h1 hch
    unfold ndV at HCK HLP HIP ⊢
    obtain ⟨lf, hlf⟩ : ∃ lf, lf = n.leaf := ⟨_, rfl⟩
    have HLF := Lib.hid hlf
    rw [← hlf] at hW1 c0 HCK HLP HIP ⊢
    clear hlf
    go_enter Try.func39, Try.ntmps39
    go_upto_region 1 with fail
    rw [← hW1]
    generalize W.heap.size = B at *
    clear hW1 hlt
    go_upto_region 4 with ((go_at_call 45; refine HCK.out.mono ?_; rintro e w2 ⟨rfl, hc2⟩; have b0 := hc2.cell c0; have b1 := hc2.cell c1; have b2 := hc2.cell c2; have b3 := hc2.cell c3; have HN2 := Lib.hid (HN.out.kept hc2); have HC2 := Lib.hid hc2; clear hc2))
    go_upto_region 7 with fail
    have k0 := st_made (St.nil (Ch.refl (fun _ => False) w2)) 5 (.int .u8 0) 1 zn rfl (by have := HZ.out; omega)
    rw [made_one _ _ rfl, Nat.mul_one] at k0
    have e0 : List.replicate zn (Value.int .u8 0) = cellsOf (filL ⟨#[]⟩ zn) := by
      unfold filL cellsOf
      rw [List.map_append, List.map_replicate]
      rfl
    rw [e0] at k0
    have k1 := st_new (st_new (buf_of_row k0) [.slice (some ⟨w2.heap.size, 0, none⟩) zn zn] 90) [.int .i64 0] 3
    simp only [World.size_alloc] at k1
    have k2 : St w2 (((w2.alloc (.cells (madeCells #[.int .u8 0] zn) 5)).alloc (.cells #[.slice (some ⟨w2.heap.size, 0, none⟩) zn zn] 90)).alloc (.cells #[.int .i64 0] 3)) (putB (w2.heap.size + 1 + 1) (w2.heap.size + 1) w2.heap.size zn ⟨#[]⟩ []) := St.re (L := [_, _, _]) [2, 0, 1] [] k1
    have b0 := k2.ch.cell b0
    have b1 := k2.ch.cell b1
    have b2 := k2.ch.cell b2
    have b3 := k2.ch.cell b3
    have K2 := Lib.hid k2
    clear k0 k1 k2 e0 hmk
    generalize ((w2.alloc (.cells (madeCells #[.int .u8 0] zn) 5)).alloc (.cells #[.slice (some ⟨w2.heap.size, 0, none⟩) zn zn] 90)).alloc (.cells #[.int .i64 0] 3) = W7 at b0 b1 b2 b3 K2 ⊢
    generalize w2.heap.size + 1 + 1 = A at K2 ⊢
    generalize w2.heap.size + 1 = Bk at K2 ⊢
    generalize w2.heap.size = G at K2 ⊢
    cases lf with
    | true =>
      go_wp2_with ((go_at_call 76; refine (HLP.out _ _ HN2.out (by first | rfl | trivial) _ _ _ K2.out).mono ?_; rintro e w3 ⟨rfl, hst⟩; have t0 := buf_text (cap := zn) hst; rw [HFL.out, HT.out] at t0; have t1 : _ = some (Value.slice (some ⟨G, 0, none⟩) zn zn) := st_cell hst.third 0; have H3 := Lib.hid hst; clear hst))
      go_ret2
      exact ⟨rfl, (HCH.out.trans HC2.out fun _ h => h.elim).trans H3.out.ch fun _ h => h.elim⟩
    | false =>
      go_wp2_with ((go_at_call 77; refine (HIP.out _ _ HN2.out (by first | rfl | trivial) _ _ _ K2.out).mono ?_; rintro e w3 ⟨rfl, hst⟩; have t0 := buf_text (cap := zn) hst; rw [HFL.out, HT.out] at t0; have t1 : _ = some (Value.slice (some ⟨G, 0, none⟩) zn zn) := st_cell hst.third 0; have H3 := Lib.hid hst; clear hst))
      go_ret2
      exact ⟨rfl, (HCH.out.trans HC2.out fun _ h => h.elim).trans H3.out.ch fun _ h => h.elim⟩
  · rw [check_bad hgood] at HCK
    rw [encE_bad hgood]
    clear h h1 ok hch hgood
    show Calls _ _ #[.agg #[.bool n.leaf, _, _, _], _] _ _
    go_enter Try.func39, Try.ntmps39
    go_upto_region 1 with fail
    rw [← hW1]
    generalize W.heap.size = B at *
    clear hW1 hlt
    go_wp2_with ((go_at_call 45; refine HCK.out.mono ?_; rintro e w2 ⟨rfl, hc2⟩; have HC2 := Lib.hid hc2; clear hc2))
    go_ret2
    exact ⟨rfl, HCH.out.trans HC2.out fun _ h => h.elim⟩
end Go.Proofs.Ytfgcbbbhnnikdaa.pg
