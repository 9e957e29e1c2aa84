/-
  Layer 7, the program: putInner.
-/
import Derived.Test.YtfgcbbbhnnikdaaPgN
namespace Go.Proofs.Ytfgcbbbhnnikdaa.pg
open Go.ChangeShapes Go.WideShapes Go.ChangeAt Go.RowKit mem
set_option linter.unusedVariables false
section
variable {w wr : World} {As : List Ast} {A Bk G z : Nat}
set_option maxHeartbeats 4000000 in
set_option maxRecDepth 8000 in
theorem putInner_st {kv vv iv : Value} {n : Nd} (h0 : NodeIn w kv vv iv n) (ok : NodeOk n) (hl : n.leaf = false) (hc : CheckM n z) (hz : z ≤ 4096) (h : St w wr (putB A Bk G z ⟨#[]⟩ As)) :
    Calls Try.prog 77 #[ndV n kv vv iv, putF A Bk] wr fun e w' => e = .returned (.tuple #[]) ∧ St w w' (putB A Bk G z (encM n) As) := by
  have hcn := (cnt_lt hc hz).1
  have HUP : Hid (∀ i, i ≤ n.keys.length → (upto n i).size ≤ z) := Lib.hid fun i hi => by
    have h1 := upto_le hc.may hi
    have h2 := encM_size hc.may
    have := hc.fits
    omega
  have HKS : Hid (∀ i, i < n.keys.length → (n.keys.getD i emp).size ≤ 64) := Lib.hid fun i hi => (rise_size hc.rise hi).2
  have HIS : Hid (n.kids.length = n.keys.length + 1) := Lib.hid (hc.may.2 hl).2.1
  have HHI : Hid (((⟨#[2]⟩ : ByteArray) ++ be 2 n.keys.length) ++ be 4 (n.kids.getD 0 0) = upto n 0) := Lib.hid (by rw [upto_zero, headM, if_neg (by rw [hl]; decide)]; rfl)
  have HE : Hid (upto n n.keys.length = encM n) := Lib.hid rfl
  have HLF := Lib.hid hl
  have HOK := Lib.hid ok
  obtain ⟨⟨ka, kc, rfl⟩, ⟨va, vc, rfl⟩, ⟨ia, ic, rfl⟩⟩ := node_forms h0
  have HN := Lib.hid h0
  have hi0 : 0 < n.kids.length := by have := HIS.out; omega
  obtain ⟨b, o, cap0, e, hk0w⟩ := h0.kids.at' hi0
  cases e
  rw [Nat.add_zero] at hk0w
  have h1 := st_new h [.bool n.leaf, .slice ka n.keys.length kc, .slice va n.vals.length vc, .slice (some ⟨b, o, none⟩) n.kids.length ic] 66
  have H1 := Lib.hid (St.re (L := [_, _, _, _]) [1, 2, 3, 0] [] h1)
  have hk0 : (n.keys.length : Int) ≤ 1364 := by omega
  have u0 : IntKind.u32.wrap (n.keys.length : Int) = (n.keys.length : Int) := IntWalk.u32_in _ (by omega)
  have g0 : ¬ 9223372036854775807 < 1 + (be 2 n.keys.length).size := by rw [be_size]; omega
  have B2 : Hid (∀ W, Calls Try.prog 94 #[.int .u32 (n.keys.length : Int), .int .i64 2] W fun e w' => e = .returned (.string (be 2 n.keys.length)) ∧ Ch0 W w') := Lib.hid fun W => bytesOf_2 n.keys.length (by omega) W
  have B4 : Hid (∀ W, Calls Try.prog 94 #[.int .u32 ((n.kids.getD 0 0 : Nat) : Int), .int .i64 4] W fun e w' => e = .returned (.string (be 4 (n.kids.getD 0 0))) ∧ Ch0 W w') := Lib.hid fun W => bytesOf_4 (n.kids.getD 0 0) (kid_lt HOK.out.kid 0) W
  have HZ := Lib.hid hz
  have hu0 : (upto n 0).size ≤ z := HUP.out 0 (Nat.zero_le _)
  have hus := congrArg ByteArray.size HHI.out
  simp only [ByteArray.size_append, be_size] at hus
  have h2z : ((⟨#[2]⟩ : ByteArray)).size = 1 := rfl
  rw [h2z] at hus
  have s2 : (be 2 n.keys.length).size = 2 := be_size _ _
  have s4 : (be 4 (n.kids.getD 0 0)).size = 4 := be_size _ _
  generalize be 2 n.keys.length = t0 at B2 HHI g0 s2
  generalize be 4 (n.kids.getD 0 0) = t4 at B4 HHI s4
  have HP0 : Hid (∀ W, St w W (putB A Bk G z ⟨#[]⟩ (aVar wr.heap.size [.bool n.leaf, .slice ka n.keys.length kc, .slice va n.vals.length vc, .slice (some ⟨b, o, none⟩) n.kids.length ic] 66 :: As)) → Calls Try.prog 75 #[.string ((⟨#[2]⟩ : ByteArray) ++ t0), pt A, pt Bk] W fun e w' => e = .returned (.tuple #[]) ∧ St w w' (putB A Bk G z ((⟨#[2]⟩ : ByteArray) ++ t0) (aVar wr.heap.size [.bool n.leaf, .slice ka n.keys.length kc, .slice va n.vals.length vc, .slice (some ⟨b, o, none⟩) n.kids.length ic] 66 :: As))) := Lib.hid fun W hs => by
    have := put_st hs ((⟨#[2]⟩ : ByteArray) ++ t0) (by rw [ByteArray.size_append, h2z, s2]; show 0 + _ ≤ _; omega) hz
    rw [empty_app] at this
    exact this
  have HP4 : Hid (∀ W, St w W (putB A Bk G z ((⟨#[2]⟩ : ByteArray) ++ t0) (aVar wr.heap.size [.bool n.leaf, .slice ka n.keys.length kc, .slice va n.vals.length vc, .slice (some ⟨b, o, none⟩) n.kids.length ic] 66 :: As)) → Calls Try.prog 75 #[.string t4, pt A, pt Bk] W fun e w' => e = .returned (.tuple #[]) ∧ St w w' (putB A Bk G z (upto n 0) (aVar wr.heap.size [.bool n.leaf, .slice ka n.keys.length kc, .slice va n.vals.length vc, .slice (some ⟨b, o, none⟩) n.kids.length ic] 66 :: As))) := Lib.hid fun W hs => by
    have := put_st hs t4 (by rw [ByteArray.size_append, h2z, s2, s4]; omega) hz
    rw [HHI.out] at this
    exact this
  have d1 : _ = some (Value.slice ka n.keys.length kc) := st_cell h1 1
  have HK0 := Lib.hid hk0w
  have hi1 : (0 : Int) < n.kids.length := by omega
  generalize n.kids.getD 0 0 = kid0 at B4 HK0 hk0w HHI
  clear h0 h h1 hl hc hcn ok hz hu0 hus h2z s2 s4 hi0 hk0w
  show Calls _ _ #[.agg #[.bool n.leaf, _, _, _], _] _ _
  go_enter Try.func77, Try.ntmps77
  go_upto_region 1 with fail
  generalize (wr.alloc (.cells #[.bool n.leaf, .slice ka n.keys.length kc, .slice va n.vals.length vc, .slice (some ⟨b, o, none⟩) n.kids.length ic] 66)) = W1 at H1 d1 ⊢
  generalize wr.heap.size = T at H1 HP0 HP4 d1 ⊢
  go_wp2_with (first
    | ((go_at_call 94; with_reducible refine (B2.out _).mono ?_; rintro e w2 ⟨rfl, hc2⟩; have H2 := Lib.hid (H1.out.same hc2); clear hc2))
    | ((go_at_call 94; with_reducible refine (B4.out _).mono ?_; rintro e w4 ⟨rfl, hc2⟩; have H4 := Lib.hid (H3.out.same hc2); clear hc2))
    | ((go_at_call 75; with_reducible refine (HP4.out _ H4.out).mono ?_; rintro e w5 ⟨rfl, hst⟩; have p1 : _ = some (Value.slice ka n.keys.length kc) := st_cell hst.fourth 1; have H5 := Lib.hid hst; clear hst))
    | ((go_at_call 75; with_reducible refine (HP0.out _ H2.out).mono ?_; rintro e w3 ⟨rfl, hst⟩; have p3 : _ = some (Value.slice (some ⟨b, o, none⟩) n.kids.length ic) := st_cell hst.fourth 3; have pk := hst.ch.cell HK0.out; have H3 := Lib.hid hst; clear hst)))
  go_loopw [24] (fun i wr => ∃ k : Nat, k ≤ n.keys.length ∧ i = .int .i64 ↑k ∧ St w wr (putB A Bk G z (upto n k) (aVar T [.bool n.leaf, .slice ka n.keys.length kc, .slice va n.vals.length vc, .slice (some ⟨b, o, none⟩) n.kids.length ic] 66 :: As))) (fun i _ => n.keys.length - (intOf i).toNat)
  case atStart => exact ⟨0, Nat.zero_le _, rfl, H5.out⟩
  case round =>
    obtain ⟨k, hk, rfl, hst⟩ := hrel
    clear H1 H2 H3 H4 H5 HP0 HP4 B2 B4 p1 p3 pk HK0
    have HST := Lib.hid hst
    by_cases hlt : k < n.keys.length
    · obtain ⟨b', o', cap', e, hc⟩ := (HN.out.keys.kept hst.ch).at' hlt
      cases e
      obtain ⟨bb, oo, cap2, e, hd⟩ := HN.out.kids.at' (show k + 1 < n.kids.length by have := HIS.out; omega)
      cases e
      have e1 : IntKind.i64.wrap ((k : Int) + 1) = ((k + 1 : Nat) : Int) := by rw [IntWalk.i64_in _ (by omega)]; omega
      have HLT := Lib.hid hlt
      have k1 : (k : Int) < n.keys.length := by omega
      have k2 : ((k + 1 : Nat) : Int) < n.kids.length := by have := HIS.out; omega
      have x1 := HKS.out k hlt
      have HU : Hid (upto n k ++ be 1 (n.keys.getD k emp).size ++ n.keys.getD k emp ++ be 4 (n.kids.getD (k + 1) 0) = upto n (k + 1)) := Lib.hid (upto_inner HLF.out k)
      have su := HUP.out (k + 1) hlt
      have z4 := HZ.out
      have hUS := congrArg ByteArray.size HU.out
      simp only [ByteArray.size_append, be_size] at hUS
      have BB : Hid (∀ W, Calls Try.prog 94 #[.int .u32 ((n.kids.getD (k + 1) 0 : Nat) : Int), .int .i64 4] W fun e w' => e = .returned (.string (be 4 (n.kids.getD (k + 1) 0))) ∧ Ch0 W w') := Lib.hid fun W => bytesOf_4 (n.kids.getD (k + 1) 0) (kid_lt HOK.out.kid (k + 1)) W
      have s2 : (be 4 (n.kids.getD (k + 1) 0)).size = 4 := be_size _ _
      generalize be 4 (n.kids.getD (k + 1) 0) = t2 at BB HU s2
      have HD := Lib.hid hd
      generalize n.kids.getD (k + 1) 0 = y at HD BB
      generalize n.keys.getD k emp = x at hc x1 HU hUS
      have v1 : IntKind.u32.wrap (x.size : Int) = (x.size : Int) := IntWalk.u32_in _ (by omega)
      have BA : Hid (∀ W, Calls Try.prog 94 #[.int .u32 (x.size : Int), .int .i64 1] W fun e w' => e = .returned (.string (be 1 x.size)) ∧ Ch0 W w') := Lib.hid fun W => bytesOf_1 x.size (by omega) W
      have s1 : (be 1 x.size).size = 1 := be_size _ _
      generalize be 1 x.size = t1 at BA HU s1
      generalize upto n k = S0 at HU hUS HST hst
      have PA := Lib.hid fun W (hs : St w W (putB A Bk G z S0 (aVar T [.bool n.leaf, .slice (some ⟨b', o', none⟩) n.keys.length kc, .slice va n.vals.length vc, .slice (some ⟨b, o, none⟩) n.kids.length ic] 66 :: As))) => put_st hs t1 (by omega) z4
      have PB := Lib.hid fun W (hs : St w W (putB A Bk G z (S0 ++ t1) (aVar T [.bool n.leaf, .slice (some ⟨b', o', none⟩) n.keys.length kc, .slice va n.vals.length vc, .slice (some ⟨b, o, none⟩) n.kids.length ic] 66 :: As))) => put_st hs x (by rw [ByteArray.size_append]; omega) z4
      have PC := Lib.hid fun W (hs : St w W (putB A Bk G z (S0 ++ t1 ++ x) (aVar T [.bool n.leaf, .slice (some ⟨b', o', none⟩) n.keys.length kc, .slice va n.vals.length vc, .slice (some ⟨b, o, none⟩) n.kids.length ic] 66 :: As))) => put_st hs t2 (by rw [ByteArray.size_append, ByteArray.size_append]; omega) z4
      have HK1 : Hid (k + 1 ≤ n.keys.length) := Lib.hid (by omega)
      have HK2 : Hid (k < k + 1) := Lib.hid (by omega)
      generalize k + 1 = k' at e1 k2 HD HU HK1 HK2
      have k3 : (0 : Int) ≤ (k' : Int) := by omega
      clear hk hlt x1 su z4 s1 s2 hUS hst hd
      go_wp2_with (first
        | ((go_at_call 94; with_reducible refine (BA.out _).mono ?_; rintro e w2 ⟨rfl, hc2⟩; have H2 := Lib.hid (HST.out.same hc2); clear hc2))
        | ((go_at_call 94; with_reducible refine (BB.out _).mono ?_; rintro e w4 ⟨rfl, hc2⟩; have H5 := Lib.hid (H4.out.same hc2); clear hc2))
        | ((go_at_call 75; with_reducible refine (PC.out _ H5.out).mono ?_; rintro e w6 ⟨rfl, hst⟩; have H6 := Lib.hid hst; clear hst))
        | ((go_at_call 75; with_reducible refine (PB.out _ H3.out).mono ?_; rintro e w5 ⟨rfl, hst⟩; have p3 : _ = some (Value.slice (some ⟨b, o, none⟩) n.kids.length ic) := st_cell hst.fourth 3; have pd := hst.ch.cell HD.out; have H4 := Lib.hid hst; clear hst))
        | ((go_at_call 75; with_reducible refine (PA.out _ H2.out).mono ?_; rintro e w3 ⟨rfl, hst⟩; have H3 := Lib.hid hst; clear hst)))
      go_roundw
      case rel => exact ⟨k', HK1.out, by first | rfl | go_num, by have := H6.out; rw [HU.out] at this; exact this⟩
      case measure => have := HK1.out; have := HK2.out; simp [intOf] <;> omega
    · obtain rfl : k = n.keys.length := by omega
      clear hk hlt hst
      go_wp2_with fail
      go_end0
      exact ⟨rfl, by have := St.re (L := [_, _, _, _]) [0, 1, 2] [3] HST.out; rw [HE.out] at this; exact this⟩
end
end Go.Proofs.Ytfgcbbbhnnikdaa.pg
