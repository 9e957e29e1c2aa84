/-
  Layer 7, the document: Encode.
-/
import Derived.Test.YtfgcbbbhnnikdaaPgJ
namespace Go.Proofs.Ytfgcbbbhnnikdaa.pg
open Go.ChangeShapes Go.WideShapes Go.ChangeAt Go.RowKit mem
set_option linter.unusedVariables false

open Classical in
noncomputable def encE (n : Nd) (z : Int) : ByteArray × Int := if okSz z ∧ CheckM n z.toNat then (blockM n z.toNat, 0) else (⟨#[]⟩, 1)
theorem encE_ok {n : Nd} {z : Int} (h : okSz z) (c : CheckM n z.toNat) : encE n z = (blockM n z.toNat, 0) := if_pos ⟨h, c⟩
theorem encE_bad {n : Nd} {z : Int} (h : ¬ (okSz z ∧ CheckM n z.toNat)) : encE n z = (⟨#[]⟩, 1) := if_neg h
theorem upto_leaf {n : Nd} (h : n.leaf = true) (k : Nat) : upto n k ++ be 1 (key n k).size ++ be 2 (val n k).size ++ key n k ++ val n k = upto n (k + 1) := by
  rw [upto_more, ent, if_pos h, entL]
  simp only [ByteArray.append_assoc]
theorem upto_inner {n : Nd} (h : n.leaf = false) (k : Nat) : upto n k ++ be 1 (key n k).size ++ key n k ++ be 4 (kid n (k + 1)) = upto n (k + 1) := by
  rw [upto_more, ent, if_neg (by rw [h]; decide), entI]
  simp only [ByteArray.append_assoc]
theorem zs_run {W : World} (n : Nat) (h : n ≤ 4096) :
    (Instr.makeSlice 90 (.int .i64 (n : Int)) (.int .i64 (n : Int))).run Try.prog W = .ok (.slice (some ⟨W.heap.size, 0, none⟩) n n) (W.alloc (.cells (madeCells #[.int .u8 0] n) 5)) := by
  have := make_run rowByte n (by omega) (by omega) .i64 .i64 W
  rw [Nat.mul_one] at this
  exact this
theorem zs_text {W : World} (n : Nat) (h : n ≤ 4096) :
    (convert 90 9 (.slice (some ⟨W.heap.size, 0, none⟩) n n)).run Try.prog (W.alloc (.cells (madeCells #[.int .u8 0] n) 5)) = .ok (.string (zs n)) (W.alloc (.cells (madeCells #[.int .u8 0] n) 5)) := by
  have hs := st_made (St.nil (w := W) (Ch.refl _ W)) 5 (.int .u8 0) 1 n rfl (by omega)
  rw [made_one _ _ rfl, Nat.mul_one] at hs
  have := run_convert_bytes_back (P := Try.prog) (W.alloc (.cells (madeCells #[.int .u8 0] n) 5)) 90 9 5 ⟨W.heap.size, 0, none⟩ n (List.replicate n (0 : UInt8)) Try.underlying90 Try.underlying5 Try.underlying9 (fun j hj => by
    have hj' : j < n := by simpa using hj
    have h1 := st_at hs rfl j (by omega)
    rw [Addr.add_mid, Nat.zero_add]
    refine h1.trans ?_
    simp [hj'])
  rw [List.length_replicate] at this
  exact this

set_option maxHeartbeats 4000000 in
set_option maxRecDepth 8000 in
theorem rencode_any {W : World} {kv vv iv : Value} {n : Nd} (h : NodeIn W kv vv iv n) (ok : NodeOk n) (z : Int) :
    Calls Try.prog 40 #[ndV n kv vv iv, .int .i64 z] W fun e w' => e = .returned (.tuple #[.string (encE n z).1, .int .i64 (encE n z).2]) ∧ Ch0 W w' := by
  obtain ⟨W1, hW1, hch, h1, c0, c1, c2, c3, hlt⟩ := box_node h 65
  have HN := Lib.hid h1
  have HBX : Hid (Box W1 W1 W.heap.size n.leaf kv vv iv) := Lib.hid ⟨Ch.refl _ _, c0, c1, c2, c3⟩
  obtain ⟨⟨ka, kc, rfl⟩, ⟨va, vc, rfl⟩, ⟨ia, ic, rfl⟩⟩ := node_forms h
  have HCH := Lib.hid hch
  have HOK := Lib.hid ok
  have HCK := Lib.hid (rcheck_any h1 ok z)
  by_cases hgood : okSz z ∧ CheckM n z.toNat
  · obtain ⟨hz, hc⟩ := hgood
    rw [check_ok hz hc] at HCK
    rw [encE_ok hz hc]
    have hz1 : z = (z.toNat : Nat) := by have := hz.1; omega
    have hz4 : z.toNat ≤ 4096 := by have := hz.2.1; omega
    obtain ⟨T, hT⟩ : ∃ T, T = blockM n z.toNat := ⟨_, rfl⟩
    rw [← hT]
    have HT : Hid (T = upto n n.keys.length ++ zs (z.toNat - (upto n n.keys.length).size)) := Lib.hid hT
    have hcn := (cnt_lt hc hz4).1
    have HUP : Hid (∀ i, i ≤ n.keys.length → (upto n i).size ≤ z.toNat) := Lib.hid fun i hi => by
      have h1 := upto_le hc.may hi
      have h2 := encM_size hc.may
      have := hc.fits
      omega
    have HKS : Hid (∀ i, i < n.keys.length → (n.keys.getD i emp).size ≤ 64) := Lib.hid fun i hi => (rise_size hc.rise hi).2
    have HVS : Hid (n.leaf = true → n.vals.length = n.keys.length ∧ ∀ i, i < n.keys.length → (n.vals.getD i emp).size ≤ 1023) := Lib.hid fun hl => by
      obtain ⟨v1, v2, v3⟩ := hc.may.1 hl
      refine ⟨v1, fun i hi => ?_⟩
      have := v3 i hi
      unfold entOk val mostM at this
      omega
    have HIS : Hid (n.leaf = false → n.kids.length = n.keys.length + 1) := Lib.hid fun hl => (hc.may.2 hl).2.1
    have HZ4 := Lib.hid hz4
    have HZ1 := Lib.hid hz1
    generalize z.toNat = zn at HT HUP HZ4 HZ1
    have hk0 : (n.keys.length : Int) ≤ 1364 := by omega
    have u0 : IntKind.u32.wrap (n.keys.length : Int) = (n.keys.length : Int) := IntWalk.u32_in _ (by omega)
    have HNUM := Lib.hid fun (w v : Nat) (hw : w ≤ 4) (hv : v < 4294967296) (W : World) => number_any w v hw hv W
    have HKL : Hid (n.keys.length ≤ 1364) := Lib.hid hcn
    have HHL : Hid (n.leaf = true → (⟨#[1]⟩ : ByteArray) ++ be 2 n.keys.length = upto n 0) := Lib.hid fun hl => by rw [upto_zero, headM, if_pos hl]; rfl
    have HHI : Hid (n.leaf = false → ((⟨#[2]⟩ : ByteArray) ++ be 2 n.keys.length) ++ be 4 (kid n 0) = upto n 0) := Lib.hid fun hl => by rw [upto_zero, headM, if_neg (by rw [hl]; decide)]; rfl
    clear h h1 ok hch hT hz hc hz1 hz4 hcn
    have gg : ∀ m : Nat, m ≤ 100000 → ¬ 9223372036854775807 < m := fun m hm => by omega
    have GG := Lib.hid gg
    clear gg
    show Calls _ _ #[.agg #[.bool n.leaf, _, _, _], _] _ _
    obtain ⟨lf, hlf⟩ : ∃ lf, lf = n.leaf := ⟨_, rfl⟩
    have HLF := Lib.hid hlf
    unfold ndV at HCK
    rw [← hlf] at hW1 HBX HCK ⊢
    rw [← hlf] at HVS HIS HHL HHI
    clear hlf c0 c1 c2 c3
    go_enter Try.func40, Try.ntmps40
    go_upto_region 1 with fail
    rw [← hW1]
    generalize W.heap.size = B at *
    clear hW1 hlt
    have a0 := HBX.out.c0
    have a1 := HBX.out.c1
    have a2 := HBX.out.c2
    have a3 := HBX.out.c3
    go_upto_region 3 with ((go_at_call 46; refine HCK.out.mono ?_; rintro e w2 ⟨rfl, hc2⟩; have b0 := hc2.cell a0; have b1 := hc2.cell a1; have b2 := hc2.cell a2; have b3 := hc2.cell a3; have HB2 := Lib.hid (HBX.out.kept hc2); clear hc2))
    clear HBX HCK
    cases lf with
    | true =>
      have g0 : ¬ 9223372036854775807 < 1 + (be 2 n.keys.length).size := GG.out _ (by rw [be_size]; omega)
      go_upto_block 0 with ((go_at_call 78; refine (HNUM.out 2 n.keys.length (by omega) (by have := HKL.out; omega) _).mono ?_; rintro e w3 ⟨rfl, hc3⟩; have q0 := hc3.cell b0; have q1 := hc3.cell b1; have q2 := hc3.cell b2; have q3 := hc3.cell b3; have HB3 := Lib.hid (HB2.out.kept hc3); clear hc3))
      go_wp2_with fail
      go_loopw [6, 7] (fun s i wr => ∃ k : Nat, k ≤ n.keys.length ∧ i = .int .i64 ↑k ∧ s = .string (upto n k) ∧ Box W1 wr B true (.slice ka n.keys.length kc) (.slice va n.vals.length vc) (.slice ia n.kids.length ic)) (fun _ i _ => n.keys.length - (intOf i).toNat)
      case atStart => exact ⟨0, Nat.zero_le _, rfl, congrArg Value.string (HHL.out (by first | rfl | trivial)), HB3.out⟩
      case round =>
          obtain ⟨k, hk, rfl, rfl, hbx⟩ := hrel
          have HB := Lib.hid hbx
          have d0 := hbx.c0
          have d1 := hbx.c1
          have d2 := hbx.c2
          clear hbx HB2 HB3 a0 a1 a2 a3 b0 b1 b2 b3 q0 q1 q2 q3 g0
          by_cases hlt : k < n.keys.length
          · have hvv := HVS.out (by first | rfl | trivial)
            obtain ⟨b, o, cap', e, hc⟩ := (HN.out.keys.kept HB.out.ch).at' hlt
            cases e
            obtain ⟨b', o', cap2, e, hd⟩ := (HN.out.vals.kept HB.out.ch).at' (show k < n.vals.length by omega)
            cases e
            have e1 : IntKind.i64.wrap ((k : Int) + 1) = (k : Int) + 1 := IntWalk.i64_in _ (by omega)
            have HLT := Lib.hid hlt
            have k1 : (k : Int) < n.keys.length := by omega
            have k2 : (k : Int) < n.vals.length := by omega
            have x1 := HKS.out k hlt
            have y1 := hvv.2 k hlt
            have HU : Hid (upto n k ++ be 1 (n.keys.getD k emp).size ++ be 2 (n.vals.getD k emp).size ++ n.keys.getD k emp ++ n.vals.getD k emp = upto n (k + 1)) := Lib.hid (upto_leaf HLF.out.symm k)
            have su := HUP.out k hk
            have z4 := HZ4.out
            generalize n.keys.getD k emp = x at hc x1 HU
            generalize n.vals.getD k emp = y at hd y1 HU
            generalize upto n k = S0 at HU su ⊢
            have v1 : IntKind.u32.wrap (x.size : Int) = (x.size : Int) := IntWalk.u32_in _ (by omega)
            have v2 : IntKind.u32.wrap (y.size : Int) = (y.size : Int) := IntWalk.u32_in _ (by omega)
            have HN1 := Lib.hid fun W => HNUM.out 1 x.size (by omega) (by omega) W
            have HN2 := Lib.hid fun W => HNUM.out 2 y.size (by omega) (by omega) W
            have s1 : (be 1 x.size).size = 1 := be_size _ _
            have s2 : (be 2 y.size).size = 2 := be_size _ _
            generalize be 1 x.size = t1 at HN1 HU s1
            generalize be 2 y.size = t2 at HN2 HU s2
            have g1 : ¬ 9223372036854775807 < S0.size + t1.size := GG.out _ (by omega)
            have g2 : ¬ 9223372036854775807 < S0.size + t1.size + t2.size := GG.out _ (by omega)
            have g3 : ¬ 9223372036854775807 < S0.size + t1.size + t2.size + x.size := GG.out _ (by omega)
            have g4 : ¬ 9223372036854775807 < S0.size + t1.size + t2.size + x.size + y.size := GG.out _ (by omega)
            clear hk hlt hvv x1 y1 su z4 s1 s2
            go_upto_region 14 with ((go_at_call 78; refine (HN1.out _).mono ?_; rintro e w3 ⟨rfl, hc3⟩; have q0 := hc3.cell d0; have q1 := hc3.cell d1; have q2 := hc3.cell d2; have qx := hc3.cell hc; have qy := hc3.cell hd; have HB3 := Lib.hid (HB.out.kept hc3); clear hc3))
            go_region_held3 (fun w' => w'.cell? ⟨B, 1, none⟩ = some (.slice (some ⟨b, o, none⟩) n.keys.length kc) ∧ w'.cell? ⟨B, 2, none⟩ = some (.slice (some ⟨b', o', none⟩) n.vals.length vc) ∧ w'.cell? ⟨b, o + k, none⟩ = some (.string x) ∧ w'.cell? ⟨b', o' + k, none⟩ = some (.string y)) (go_keep) ((go_at_call 78; refine (HN2.out _).mono ?_; rintro e w4 ⟨rfl, hc4⟩; have r1 := hc4.cell (show World.cell? _ ⟨B, 1, none⟩ = _ from by first | exact q1 | (simpa using q1)); have r2 := hc4.cell (show World.cell? _ ⟨B, 2, none⟩ = _ from by first | exact q2 | (simpa using q2)); have r3 := hc4.cell (show World.cell? _ ⟨b, o + k, none⟩ = _ from by first | exact qx | (simpa using qx)); have r4 := hc4.cell (show World.cell? _ ⟨b', o' + k, none⟩ = _ from by first | exact qy | (simpa using qy)); have HB4 : Hid (Box W1 w4 B true (.slice (some ⟨b, o, none⟩) n.keys.length kc) (.slice (some ⟨b', o', none⟩) n.vals.length vc) (.slice ia n.kids.length ic)) := Lib.hid (by first | exact HB3.out.kept hc4 | exact (HB3.out.kept (Ch.refl _ _).drew).kept hc4); clear hc4))
            go_wp2_with fail
            go_roundw
            case rel => exact ⟨k + 1, by have := HLT.out; omega, by go_num, congrArg Value.string HU.out, by first | exact HB4.out | exact HB4.out.kept (Ch.refl _ _).drew⟩
            case measure => simp [intOf] <;> omega
          · obtain rfl : k = n.keys.length := by omega
            have hm : zn - (upto n n.keys.length).size ≤ 4096 := by have := HZ4.out; omega
            have hmk := zs_run (W := wr) (zn - (upto n n.keys.length).size) hm
            have htx := zs_text (W := wr) (zn - (upto n n.keys.length).size) hm
            have e9 : IntKind.i64.wrap (z - ((upto n n.keys.length).size : Int)) = ((zn - (upto n n.keys.length).size : Nat) : Int) := by
              have h1 := HUP.out _ (Nat.le_refl _)
              have h2 := HZ1.out
              have h3 := HZ4.out
              rw [IntWalk.i64_in _ (by omega)]; omega
            have g9 : ¬ 9223372036854775807 < (upto n n.keys.length).size + (zs (zn - (upto n n.keys.length).size)).size := GG.out _ (by rw [zs_size]; have h1 := HUP.out _ (Nat.le_refl _); have h3 := HZ4.out; omega)
            clear hk hlt hm
            generalize zn - (upto n n.keys.length).size = m at hmk htx e9 g9 HT
            generalize upto n n.keys.length = S0 at e9 g9 HT ⊢
            generalize zs m = ZZ at htx g9 HT
            go_wp2_with fail
            go_ret2
            exact ⟨congrArg (fun t => Ending.returned (Value.tuple #[.string t, .int .i64 0])) HT.out.symm, (HCH.out.trans HB.out.ch fun _ h => h.elim).alloc _⟩
    | false =>
      have g0 : ¬ 9223372036854775807 < 1 + (be 2 n.keys.length).size := GG.out _ (by rw [be_size]; omega)
      have hkk := HIS.out rfl
      obtain ⟨b, o, cap0, e, hk0c⟩ := (HN.out.kids.kept HB2.out.ch).at' (show 0 < n.kids.length by omega)
      cases e
      rw [Nat.add_zero] at hk0c
      have hki : (n.kids.length : Int) = (n.keys.length : Int) + 1 := by omega
      have hki0 : (0 : Int) < n.kids.length := by omega
      have HKK := Lib.hid hkk
      have HN0 : Hid (∀ W, Calls Try.prog 78 #[.int .u32 ((n.kids.getD 0 0 : Nat) : Int), .int .i64 4] W fun e w' => e = .returned (.string (be 4 (n.kids.getD 0 0))) ∧ Ch0 W w') := Lib.hid fun W => HNUM.out 4 (n.kids.getD 0 0) (by omega) (kid_lt HOK.out.kid 0) W
      have HHX := Lib.hid (HHI.out rfl)
      have HHX : Hid ((⟨#[2]⟩ : ByteArray) ++ be 2 n.keys.length ++ be 4 (n.kids.getD 0 0) = upto n 0) := HHX
      have st4 : (be 4 (n.kids.getD 0 0)).size = 4 := be_size _ _
      generalize be 4 (n.kids.getD 0 0) = t4 at HN0 HHX st4
      generalize n.kids.getD 0 0 = kid0 at hk0c HN0
      have HNH : Hid (∀ W, Calls Try.prog 78 #[.int .u32 ((n.keys.length : Nat) : Int), .int .i64 2] W fun e w' => e = .returned (.string (be 2 (n.keys.length))) ∧ Ch0 W w') := Lib.hid fun W => HNUM.out 2 n.keys.length (by omega) (by have := HKL.out; omega) W
      have st2 : (be 2 n.keys.length).size = 2 := be_size _ _
      generalize be 2 n.keys.length = t0 at HNH HHX st2 g0 HHL HHI
      have g00 : ¬ 9223372036854775807 < 1 + t0.size + t4.size := GG.out _ (by omega)
      clear hkk st4 st2 hki
      go_upto_block 0 with (first
        | ((go_at_call 78; with_reducible refine (HNH.out _).mono ?_; rintro e w3 ⟨rfl, hc3⟩; have q0 := hc3.cell b0; have q1 := hc3.cell b1; have q2 := hc3.cell b2; have q3 := hc3.cell b3; have qk := hc3.cell hk0c; have HB3 := Lib.hid (HB2.out.kept hc3); clear hc3))
        | ((go_at_call 78; with_reducible refine (HN0.out _).mono ?_; rintro e w4 ⟨rfl, hc4⟩; have HB4 := Lib.hid (HB3.out.kept hc4); clear hc4)))
      go_wp2_with fail
      go_loopw [6, 7] (fun s i wr => ∃ k : Nat, k ≤ n.keys.length ∧ i = .int .i64 ↑k ∧ s = .string (upto n k) ∧ Box W1 wr B false (.slice ka n.keys.length kc) (.slice va n.vals.length vc) (.slice (some ⟨b, o, none⟩) n.kids.length ic)) (fun _ i _ => n.keys.length - (intOf i).toNat)
      case atStart => exact ⟨0, Nat.zero_le _, rfl, congrArg Value.string HHX.out, HB4.out⟩
      case round =>
          obtain ⟨k, hk, rfl, rfl, hbx⟩ := hrel
          have HB := Lib.hid hbx
          have d0 := hbx.c0
          have d1 := hbx.c1
          have d3 := hbx.c3
          clear hbx HB2 HB3 HB4 a0 a1 a2 a3 b0 b1 b2 b3 q0 q1 q2 q3 g0 g00 qk hk0c
          by_cases hlt : k < n.keys.length
          · obtain ⟨b', o', cap', e, hc⟩ := (HN.out.keys.kept HB.out.ch).at' hlt
            cases e
            obtain ⟨bb, oo, cap2, e, hd⟩ := (HN.out.kids.kept HB.out.ch).at' (show k + 1 < n.kids.length by have := HKK.out; omega)
            cases e
            have e1 : IntKind.i64.wrap ((k : Int) + 1) = ((k + 1 : Nat) : Int) := by rw [IntWalk.i64_in _ (by omega)]; omega
            have HLT := Lib.hid hlt
            have k1 : (k : Int) < n.keys.length := by omega
            have k2 : ((k + 1 : Nat) : Int) < n.kids.length := by have := HKK.out; omega
            have x1 := HKS.out k hlt
            have HU : Hid (upto n k ++ be 1 (n.keys.getD k emp).size ++ n.keys.getD k emp ++ be 4 (n.kids.getD (k + 1) 0) = upto n (k + 1)) := Lib.hid (upto_inner HLF.out.symm k)
            have su := HUP.out k hk
            have z4 := HZ4.out
            have HN2 := Lib.hid fun W => HNUM.out 4 (n.kids.getD (k + 1) 0) (by omega) (kid_lt HOK.out.kid (k + 1)) W
            have s2 : (be 4 (n.kids.getD (k + 1) 0)).size = 4 := be_size _ _
            generalize be 4 (n.kids.getD (k + 1) 0) = t2 at HN2 HU s2
            generalize n.kids.getD (k + 1) 0 = y at hd HN2
            generalize n.keys.getD k emp = x at hc x1 HU
            generalize upto n k = S0 at HU su ⊢
            have v1 : IntKind.u32.wrap (x.size : Int) = (x.size : Int) := IntWalk.u32_in _ (by omega)
            have HN1 := Lib.hid fun W => HNUM.out 1 x.size (by omega) (by omega) W
            have s1 : (be 1 x.size).size = 1 := be_size _ _
            generalize be 1 x.size = t1 at HN1 HU s1
            have g1 : ¬ 9223372036854775807 < S0.size + t1.size := GG.out _ (by omega)
            have g2 : ¬ 9223372036854775807 < S0.size + t1.size + x.size := GG.out _ (by omega)
            have g3 : ¬ 9223372036854775807 < S0.size + t1.size + x.size + t2.size := GG.out _ (by omega)
            have HK1 : Hid (k + 1 ≤ n.keys.length) := Lib.hid (by omega)
            have HK2 : Hid (k < k + 1) := Lib.hid (by omega)
            generalize k + 1 = k' at e1 k2 hd HU HK1 HK2
            have k3 : (0 : Int) ≤ (k' : Int) := by omega
            clear hk hlt x1 su z4 s1 s2
            go_upto_region 15 with ((go_at_call 78; refine (HN1.out _).mono ?_; rintro e w3 ⟨rfl, hc3⟩; have q0 := hc3.cell d0; have q1 := hc3.cell d1; have q3 := hc3.cell d3; have qx := hc3.cell hc; have qy := hc3.cell hd; have HB3 := Lib.hid (HB.out.kept hc3); clear hc3))
            go_region_held3 (fun w' => w'.cell? ⟨B, 1, none⟩ = some (.slice (some ⟨b', o', none⟩) n.keys.length kc) ∧ w'.cell? ⟨B, 3, none⟩ = some (.slice (some ⟨b, o, none⟩) n.kids.length ic) ∧ w'.cell? ⟨b', o' + k, none⟩ = some (.string x) ∧ w'.cell? ⟨b, o + k', none⟩ = some (.int .u32 (y : Nat))) (go_keep) ((go_at_call 78; refine (HN2.out _).mono ?_; rintro e w4 ⟨rfl, hc4⟩; have r1 := hc4.cell (show World.cell? _ ⟨B, 1, none⟩ = _ from by first | exact q1 | (simpa using q1)); have r2 := hc4.cell (show World.cell? _ ⟨B, 3, none⟩ = _ from by first | exact q3 | (simpa using q3)); have r3 := hc4.cell (show World.cell? _ ⟨b', o' + k, none⟩ = _ from by first | exact qx | (simpa using qx)); have r4 := hc4.cell (show World.cell? _ ⟨b, o + k', none⟩ = _ from by first | exact qy | (simpa using qy)); have HB4 : Hid (Box W1 w4 B false (.slice (some ⟨b', o', none⟩) n.keys.length kc) (.slice va n.vals.length vc) (.slice (some ⟨b, o, none⟩) n.kids.length ic)) := Lib.hid (by first | exact HB3.out.kept hc4 | exact (HB3.out.kept (Ch.refl _ _).drew).kept hc4); clear hc4))
            go_wp2_with fail
            go_roundw
            case rel => exact ⟨k', HK1.out, by first | rfl | go_num, congrArg Value.string HU.out, by first | exact HB4.out | exact HB4.out.kept (Ch.refl _ _).drew⟩
            case measure => have := HK2.out; have := HK1.out; simp [intOf] <;> omega
          · obtain rfl : k = n.keys.length := by omega
            have hm : zn - (upto n n.keys.length).size ≤ 4096 := by have := HZ4.out; omega
            have hmk := zs_run (W := wr) (zn - (upto n n.keys.length).size) hm
            have htx := zs_text (W := wr) (zn - (upto n n.keys.length).size) hm
            have e9 : IntKind.i64.wrap (z - ((upto n n.keys.length).size : Int)) = ((zn - (upto n n.keys.length).size : Nat) : Int) := by
              have h1 := HUP.out _ (Nat.le_refl _)
              have h2 := HZ1.out
              have h3 := HZ4.out
              rw [IntWalk.i64_in _ (by omega)]; omega
            have g9 : ¬ 9223372036854775807 < (upto n n.keys.length).size + (zs (zn - (upto n n.keys.length).size)).size := GG.out _ (by rw [zs_size]; have h1 := HUP.out _ (Nat.le_refl _); have h3 := HZ4.out; omega)
            clear hk hlt hm
            generalize zn - (upto n n.keys.length).size = m at hmk htx e9 g9 HT
            generalize upto n n.keys.length = S0 at e9 g9 HT ⊢
            generalize zs m = ZZ at htx g9 HT
            go_wp2_with fail
            go_ret2
            exact ⟨congrArg (fun t => Ending.returned (Value.tuple #[.string t, .int .i64 0])) HT.out.symm, (HCH.out.trans HB.out.ch fun _ h => h.elim).alloc _⟩
  · rw [check_bad hgood] at HCK
    rw [encE_bad hgood]
    clear h h1 ok hch hgood
    show Calls _ _ #[.agg #[.bool n.leaf, _, _, _], _] _ _
    go_enter Try.func40, Try.ntmps40
    go_upto_region 1 with fail
    rw [← hW1]
    generalize W.heap.size = B at *
    clear hW1 hlt
    go_wp2_with ((go_at_call 46; refine HCK.out.mono ?_; rintro e w2 ⟨rfl, hc2⟩; have HC2 := Lib.hid hc2; clear hc2))
    go_ret2
    exact ⟨rfl, HCH.out.trans HC2.out fun _ h => h.elim⟩
end Go.Proofs.Ytfgcbbbhnnikdaa.pg
