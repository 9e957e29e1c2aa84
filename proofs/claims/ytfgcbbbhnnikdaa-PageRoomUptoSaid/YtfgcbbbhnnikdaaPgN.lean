/-
  Layer 7, the program: putLeaf, putInner.
-/
import Derived.Test.YtfgcbbbhnnikdaaPgM
import Derived.Test.YtfgcbbbhnnikdaaHeapP
namespace Go.Proofs.Ytfgcbbbhnnikdaa.pg
open Go.ChangeShapes Go.WideShapes Go.ChangeAt Go.RowKit mem
set_option linter.unusedVariables false
section
variable {w wr : World} {As : List Ast} {A Bk G z : Nat}
/-- put's value -/
abbrev putF (A Bk : Nat) : Value := .func (Fn.func 75) #[] #[pt A, pt Bk]
set_option maxHeartbeats 4000000 in
set_option maxRecDepth 8000 in
theorem putLeaf_st {kv vv iv : Value} {n : Nd} (h0 : NodeIn w kv vv iv n) (ok : NodeOk n) (hl : n.leaf = true) (hc : CheckM n z) (hz : z ≤ 4096) (h : St w wr (putB A Bk G z ⟨#[]⟩ As)) :
    Calls Try.prog 76 #[ndV n kv vv iv, putF A Bk] wr fun e w' => e = .returned (.tuple #[]) ∧ St w w' (putB A Bk G z (encM n) As) := by
  have hcn := (cnt_lt hc hz).1
  have HUP : Hid (∀ i, i ≤ n.keys.length → (upto n i).size ≤ z) := Lib.hid fun i hi => by
    have h1 := upto_le hc.may hi
    have h2 := encM_size hc.may
    have := hc.fits
    omega
  have HKS : Hid (∀ i, i < n.keys.length → (n.keys.getD i emp).size ≤ 64) := Lib.hid fun i hi => (rise_size hc.rise hi).2
  obtain ⟨v1, v2, v3⟩ := hc.may.1 hl
  have HVS : Hid (n.vals.length = n.keys.length ∧ ∀ i, i < n.keys.length → (n.vals.getD i emp).size ≤ 1023) := Lib.hid ⟨v1, fun i hi => by
    have := v3 i hi
    unfold entOk val mostM at this
    omega⟩
  have HHL : Hid ((⟨#[1]⟩ : ByteArray) ++ be 2 n.keys.length = upto n 0) := Lib.hid (by rw [upto_zero, headM, if_pos hl]; rfl)
  have HE : Hid (upto n n.keys.length = encM n) := Lib.hid rfl
  have HLF := Lib.hid hl
  obtain ⟨⟨ka, kc, rfl⟩, ⟨va, vc, rfl⟩, ⟨ia, ic, rfl⟩⟩ := node_forms h0
  have HN := Lib.hid h0
  have h1 := st_new h [.bool n.leaf, .slice ka n.keys.length kc, .slice va n.vals.length vc, .slice ia n.kids.length ic] 66
  have H1 := Lib.hid (St.re (L := [_, _, _, _]) [1, 2, 3, 0] [] h1)
  have hk0 : (n.keys.length : Int) ≤ 1364 := by omega
  have u0 : IntKind.u32.wrap (n.keys.length : Int) = (n.keys.length : Int) := IntWalk.u32_in _ (by omega)
  have g0 : ¬ 9223372036854775807 < 1 + (be 2 n.keys.length).size := by rw [be_size]; omega
  have B2 : Hid (∀ W, Calls Try.prog 94 #[.int .u32 (n.keys.length : Int), .int .i64 2] W fun e w' => e = .returned (.string (be 2 n.keys.length)) ∧ Ch0 W w') := Lib.hid fun W => bytesOf_2 n.keys.length (by omega) W
  have HZ := Lib.hid hz
  have HP0 : Hid (∀ W, St w W (putB A Bk G z ⟨#[]⟩ (aVar wr.heap.size [.bool n.leaf, .slice ka n.keys.length kc, .slice va n.vals.length vc, .slice ia n.kids.length ic] 66 :: As)) → Calls Try.prog 75 #[.string ((⟨#[1]⟩ : ByteArray) ++ be 2 n.keys.length), pt A, pt Bk] W fun e w' => e = .returned (.tuple #[]) ∧ St w w' (putB A Bk G z (upto n 0) (aVar wr.heap.size [.bool n.leaf, .slice ka n.keys.length kc, .slice va n.vals.length vc, .slice ia n.kids.length ic] 66 :: As))) := Lib.hid fun W hs => by
    have := put_st hs ((⟨#[1]⟩ : ByteArray) ++ be 2 n.keys.length) (by rw [HHL.out]; have := HUP.out 0 (Nat.zero_le _); show 0 + _ ≤ _; omega) hz
    rw [empty_app, HHL.out] at this
    rw [HHL.out]
    exact this
  have d1 : _ = some (Value.slice ka n.keys.length kc) := st_cell h1 1
  clear h0 h h1 hl hc hcn v1 v2 v3 ok hz
  show Calls _ _ #[.agg #[.bool n.leaf, _, _, _], _] _ _
  go_enter Try.func76, Try.ntmps76
  go_upto_region 1 with fail
  generalize (wr.alloc (.cells #[.bool n.leaf, .slice ka n.keys.length kc, .slice va n.vals.length vc, .slice ia n.kids.length ic] 66)) = W1 at H1 d1 ⊢
  generalize wr.heap.size = T at H1 HP0 d1 ⊢
  go_wp2_with (first
    | ((go_at_call 94; with_reducible refine (B2.out _).mono ?_; rintro e w2 ⟨rfl, hc2⟩; have H2 := Lib.hid (H1.out.same hc2); clear hc2))
    | ((go_at_call 75; refine (HP0.out _ H2.out).mono ?_; rintro e w3 ⟨rfl, hst⟩; have p1 : _ = some (Value.slice ka n.keys.length kc) := st_cell hst.fourth 1; have H3 := Lib.hid hst; clear hst)))
  go_loopw [18] (fun i wr => ∃ k : Nat, k ≤ n.keys.length ∧ i = .int .i64 ↑k ∧ St w wr (putB A Bk G z (upto n k) (aVar T [.bool n.leaf, .slice ka n.keys.length kc, .slice va n.vals.length vc, .slice ia n.kids.length ic] 66 :: As))) (fun i _ => n.keys.length - (intOf i).toNat)
  case atStart => exact ⟨0, Nat.zero_le _, rfl, H3.out⟩
  case round =>
    obtain ⟨k, hk, rfl, hst⟩ := hrel
    clear H1 H2 H3 HP0 B2 p1
    have HST := Lib.hid hst
    have d2 : _ = some (Value.slice va n.vals.length vc) := st_cell hst.fourth 2
    by_cases hlt : k < n.keys.length
    · have hvv := HVS.out
      obtain ⟨b, o, cap', e, hc⟩ := (HN.out.keys.kept hst.ch).at' hlt
      cases e
      obtain ⟨b', o', cap2, e, hd⟩ := (HN.out.vals.kept hst.ch).at' (show k < n.vals.length by omega)
      cases e
      have e1 : IntKind.i64.wrap ((k : Int) + 1) = (k : Int) + 1 := IntWalk.i64_in _ (by omega)
      have HLT := Lib.hid hlt
      have k1 : (k : Int) < n.keys.length := by omega
      have k2 : (k : Int) < n.vals.length := by omega
      have x1 := HKS.out k hlt
      have y1 := hvv.2 k hlt
      have HU : Hid (upto n k ++ be 1 (n.keys.getD k emp).size ++ be 2 (n.vals.getD k emp).size ++ n.keys.getD k emp ++ n.vals.getD k emp = upto n (k + 1)) := Lib.hid (upto_leaf HLF.out k)
      have su := HUP.out (k + 1) hlt
      have z4 := HZ.out
      have hUS := congrArg ByteArray.size HU.out
      simp only [ByteArray.size_append, be_size] at hUS
      generalize n.keys.getD k emp = x at hc x1 HU hUS
      generalize n.vals.getD k emp = y at hd y1 HU hUS
      have v1 : IntKind.u32.wrap (x.size : Int) = (x.size : Int) := IntWalk.u32_in _ (by omega)
      have v2 : IntKind.u32.wrap (y.size : Int) = (y.size : Int) := IntWalk.u32_in _ (by omega)
      have BA : Hid (∀ W, Calls Try.prog 94 #[.int .u32 (x.size : Int), .int .i64 1] W fun e w' => e = .returned (.string (be 1 x.size)) ∧ Ch0 W w') := Lib.hid fun W => bytesOf_1 x.size (by omega) W
      have BB : Hid (∀ W, Calls Try.prog 94 #[.int .u32 (y.size : Int), .int .i64 2] W fun e w' => e = .returned (.string (be 2 y.size)) ∧ Ch0 W w') := Lib.hid fun W => bytesOf_2 y.size (by omega) W
      have s1 : (be 1 x.size).size = 1 := be_size _ _
      have s2 : (be 2 y.size).size = 2 := be_size _ _
      generalize be 1 x.size = t1 at BA HU s1
      generalize be 2 y.size = t2 at BB HU s2
      generalize upto n k = S0 at HU hUS HST hst
      have PA := Lib.hid fun W (hs : St w W (putB A Bk G z S0 (aVar T [.bool n.leaf, .slice (some ⟨b, o, none⟩) n.keys.length kc, .slice (some ⟨b', o', none⟩) n.vals.length vc, .slice ia n.kids.length ic] 66 :: As))) => put_st hs t1 (by omega) z4
      have PB := Lib.hid fun W (hs : St w W (putB A Bk G z (S0 ++ t1) (aVar T [.bool n.leaf, .slice (some ⟨b, o, none⟩) n.keys.length kc, .slice (some ⟨b', o', none⟩) n.vals.length vc, .slice ia n.kids.length ic] 66 :: As))) => put_st hs t2 (by rw [ByteArray.size_append]; omega) z4
      have PC := Lib.hid fun W (hs : St w W (putB A Bk G z (S0 ++ t1 ++ t2) (aVar T [.bool n.leaf, .slice (some ⟨b, o, none⟩) n.keys.length kc, .slice (some ⟨b', o', none⟩) n.vals.length vc, .slice ia n.kids.length ic] 66 :: As))) => put_st hs x (by rw [ByteArray.size_append, ByteArray.size_append]; omega) z4
      have PD := Lib.hid fun W (hs : St w W (putB A Bk G z (S0 ++ t1 ++ t2 ++ x) (aVar T [.bool n.leaf, .slice (some ⟨b, o, none⟩) n.keys.length kc, .slice (some ⟨b', o', none⟩) n.vals.length vc, .slice ia n.kids.length ic] 66 :: As))) => put_st hs y (by rw [ByteArray.size_append, ByteArray.size_append, ByteArray.size_append]; omega) z4
      clear hk hlt hvv x1 y1 su z4 s1 s2 hUS hst
      go_wp2_with (first
        | ((go_at_call 94; with_reducible refine (BA.out _).mono ?_; rintro e w2 ⟨rfl, hc2⟩; have H2 := Lib.hid (HST.out.same hc2); clear hc2))
        | ((go_at_call 94; with_reducible refine (BB.out _).mono ?_; rintro e w4 ⟨rfl, hc2⟩; have H4 := Lib.hid (H3.out.same hc2); clear hc2))
        | ((go_at_call 75; with_reducible refine (PD.out _ H5.out).mono ?_; rintro e w6 ⟨rfl, hst⟩; have H6 := Lib.hid hst; clear hst))
        | ((go_at_call 75; with_reducible refine (PC.out _ H4b.out).mono ?_; rintro e w5 ⟨rfl, hst⟩; have H5 := Lib.hid hst; clear hst))
        | ((go_at_call 75; with_reducible refine (PB.out _ H4.out).mono ?_; rintro e w4b ⟨rfl, hst⟩; have H4b := Lib.hid hst; clear hst))
        | ((go_at_call 75; with_reducible refine (PA.out _ H2.out).mono ?_; rintro e w3 ⟨rfl, hst⟩; have H3 := Lib.hid hst; clear hst)))
      go_roundw
      case rel => exact ⟨k + 1, HLT.out, by go_num, by have := H6.out; rw [HU.out] at this; exact this⟩
      case measure => have := HLT.out; simp [intOf] <;> omega
    · obtain rfl : k = n.keys.length := by omega
      clear hk hlt hst
      go_wp2_with fail
      go_end0
      exact ⟨rfl, by have := St.re (L := [_, _, _, _]) [0, 1, 2] [3] HST.out; rw [HE.out] at this; exact this⟩
end
end Go.Proofs.Ytfgcbbbhnnikdaa.pg
