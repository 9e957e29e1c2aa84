/-
  Layer 5, the law: opened, walked.
-/
import Derived.Test.YtjmjmekmaamclaaDoorJxA
namespace Go.Proofs.YtjmjmekmaamclaaDoor.jrn
open Go.ChangeShapes Go.WideShapes Go.ChangeAt Go.RowKit mem dev sums
set_option linter.unusedVariables false
section
variable {w wr : World} {As : List Ast} {X ln : Nat} {D : DevM}
set_option maxHeartbeats 4000000 in
set_option maxRecDepth 8000 in
theorem opened_core {kv : Value} {ks : List Int} {torn : Int} {mask : Nat} {F V U : Nat → DevM → Prop} {H E : DevM → JSt → Prop} {K : JSt → Nat → Ast} (A : ∀ As, OpCalls w As X ln kv ks torn mask F V U H E K) (h : St w wr (pDev X D :: As)) (hF : F 0 D) (zv : Value) (zs : List Int) (hz : IntsIn w zv zs) (hz64 : ∀ z ∈ zs, InI64 z) (hzl : zs.length ≤ 17592186043904) :
    Calls Tryd.prog 24 #[pt X, .int .i64 (ln : Int), .agg #[kv, .int .i64 torn, .int .u8 (mask : Int)], zv] wr fun e w' => ∃ J D' s, e = .returned (pt J) ∧ E D' s ∧ St w w' (pDev X D' :: K s J :: As) := by
  have HA := Lib.hid (A (aVar wr.heap.size [kv, .int .i64 torn, .int .u8 (mask : Int)] 48 :: As))
  have H1 := Lib.hid (st_new h [kv, .int .i64 torn, .int .u8 (mask : Int)] 48).swap
  have HF := Lib.hid hF
  have HZ := Lib.hid hz64
  obtain ⟨ao, cap, rfl, hc⟩ := hz
  have HC := Lib.hid hc
  have hl : (zs.length : Int) ≤ 17592186043904 := by omega
  clear h hF hz64 hc hzl A
  go_enter Tryd.func24, Tryd.ntmps24
  go_wp2_with fail
  generalize wr.heap.size = T at H1 HA ⊢
  go_loopw [9] (fun i W => ∃ (k : Nat) (D : DevM), k ≤ zs.length ∧ k ≤ 5 ∧ i = .int .i64 ↑k ∧ F k D ∧ St w W (pDev X D :: aVar T [kv, .int .i64 torn, .int .u8 (mask : Int)] 48 :: As)) (fun i _ => 6 - (intOf i).toNat)
  case atStart => exact ⟨0, D, Nat.zero_le _, Nat.zero_le _, rfl, HF.out, H1.out⟩
  case round =>
    obtain ⟨k, D2, hk, hk5, rfl, hF2, hst⟩ := hrel
    clear H1 HF
    have HST := Lib.hid hst
    have HF2 := Lib.hid hF2
    have HK5 := Lib.hid hk5
    have k1 : (k : Int) ≤ zs.length := by omega
    have k2 : (k : Int) < 6 := by omega
    by_cases hgo : k < zs.length ∧ k < 5
    · obtain ⟨hlt, h5⟩ := hgo
      have k3 : (k : Int) < zs.length := by omega
      have k4 : (k : Int) < 5 := by omega
      obtain ⟨b, o, rfl, hc0⟩ := HC.out k hlt
      have hz := HZ.out _ (List.getElem_mem hlt)
      have HCZ := Lib.hid hc0
      generalize zs[k] = z at hz HCZ
      obtain ⟨f1, f2, f3, f4⟩ := tmod_facts 12 (by omega) z
      have f1 : -12 < z.tmod 12 := f1
      have f2 : z.tmod 12 < 12 := f2
      have f3 : 0 ≤ (z.tmod 12 + 12).tmod 12 := f3
      have f4 : (z.tmod 12 + 12).tmod 12 < 12 := f4
      have e1 : IntKind.i64.wrap (z.tmod 12) = z.tmod 12 := IntWalk.i64_in _ (by omega)
      have e2 : IntKind.i64.wrap (z.tmod 12 + 12) = z.tmod 12 + 12 := IntWalk.i64_in _ (by omega)
      obtain ⟨q, hq⟩ : ∃ q : Nat, (z.tmod 12 + 12).tmod 12 = (q : Int) := ⟨_, (Int.toNat_of_nonneg f3).symm⟩
      have e3 : IntKind.i64.wrap (q : Int) = (q : Int) := IntWalk.i64_in _ (by omega)
      have e4 : IntKind.i64.wrap (1 + (q : Int)) = 1 + (q : Int) := IntWalk.i64_in _ (by omega)
      have e5 : IntKind.i64.wrap ((k : Int) + 1) = (k : Int) + 1 := IntWalk.i64_in _ (by omega)
      have HP : Hid (0 ≤ 1 + (q : Int) ∧ 1 + (q : Int) ≤ 9223372036854775807) := Lib.hid ⟨by omega, by omega⟩
      have HLT := Lib.hid hlt
      have H5 := Lib.hid h5
      clear hst hF2 hlt h5 hk hk5 hc0 hz f1 f2 f3 f4
      go_upto_region 7 with (first
        | ((go_at_call 22; refine (HA.out.down _ _ _ HF2.out HST.out).mono ?_; rintro e w2 ⟨rfl, hst⟩; have H2 := Lib.hid hst; clear hst))
        | ((go_at_call 26; refine (HA.out.rest _ _ _ HF2.out H2.out).mono ?_; rintro e w3 ⟨D3, rfl, hv, hst⟩; have z0 : _ = some kv := st_cell hst.swap 0; have z1 : _ = some (Value.int .i64 torn) := st_cell hst.swap 1; have z2 : _ = some (Value.int .u8 (mask : Int)) := st_cell hst.swap 2; have zc := hst.ch.cell HCZ.out; have HV := Lib.hid hv; have H3 := Lib.hid hst; clear hst hv)))
      go_region_held3 (fun w' => w'.cell? ⟨T, 0, none⟩ = some kv ∧ w'.cell? ⟨T, 1, none⟩ = some (.int .i64 torn) ∧ w'.cell? ⟨T, 2, none⟩ = some (.int .u8 (mask : Int)) ∧ w'.cell? ⟨b, o + k, none⟩ = some (.int .i64 z)) (go_keep) (first
        | ((go_at_call 21; refine (HA.out.crash _ _ (by first | exact H3.out | exact H3.out.drew | exact H3.out.drewN _)).mono ?_; rintro e w4 ⟨cv, rfl, hst⟩; have u0 : _ = some kv := st_cell hst.third 0; have u1 : _ = some (Value.int .i64 torn) := st_cell hst.third 1; have u2 : _ = some (Value.int .u8 (mask : Int)) := st_cell hst.third 2; have uc := hst.ch.cell HCZ.out; have H4 := Lib.hid hst; clear hst))
        | ((go_at_call 20; refine (HA.out.plan _ _ _ _ cv HP.out.1 HP.out.2 HV.out (by first | exact H4.out | exact H4.out.drew | exact H4.out.drewN _)).mono ?_; rintro e w5 ⟨D5, rfl, hu, hst⟩; have y0 : _ = some kv := st_cell hst.swap 0; have y1 : _ = some (Value.int .i64 torn) := st_cell hst.swap 1; have y2 : _ = some (Value.int .u8 (mask : Int)) := st_cell hst.swap 2; have yc := hst.ch.cell HCZ.out; have HU := Lib.hid hu; have H5x := Lib.hid hst; clear hst hu)))
      go_upto_region 9 with ((go_at_call 7; refine (HA.out.open1 _ _ _ HK5.out HU.out H5x.out).mono ?_; rintro e w6 ⟨v, n, x, D6, rfl, hcase⟩; have HCS := Lib.hid hcase; clear hcase))
      rcases HCS.out with ⟨rfl, J, s, rfl, hH, hst⟩ | ⟨rfl, rfl, hF6, hst⟩
      · have HH := Lib.hid hH
        have H6 := Lib.hid hst
        clear hH hst HCS
        go_wp2_with ((go_at_call 20; refine (HA.out.plan0 _ _ _ _ HH.out H6.out).mono ?_; rintro e w7 ⟨D7, rfl, hE, hst⟩; have HE := Lib.hid hE; have H7 := Lib.hid hst; clear hst hE))
        go_ret
        exact ⟨J, D7, s, rfl, HE.out, St.re (L := [_, _, _]) [0, 1] [2] H7.out⟩
      · have HF6 := Lib.hid hF6
        have H6 := Lib.hid hst
        clear hF6 hst HCS
        go_wp2_with fail
        go_roundw
        case rel => exact ⟨k + 1, D6, by have := HLT.out; omega, by have := H5.out; omega, by go_num, HF6.out, H6.out⟩
        case measure => have := H5.out; simp [intOf] <;> omega
    · have HX : Hid ((k : Int) < zs.length → ¬ (k : Int) < 5) := Lib.hid (by intro h1 h2; exact hgo ⟨by omega, by omega⟩)
      clear hst hF2 hgo hk hk5
      by_cases hlt : (k : Int) < zs.length
      · have k4 : ¬ (k : Int) < 5 := HX.out hlt
        go_wp2_with (first
          | ((go_at_call 22; refine (HA.out.down _ _ _ HF2.out HST.out).mono ?_; rintro e w2 ⟨rfl, hst⟩; have H2 := Lib.hid hst; clear hst))
          | ((go_at_call 26; refine (HA.out.rest _ _ _ HF2.out H2.out).mono ?_; rintro e w3 ⟨D3, rfl, hv, hst⟩; have HV := Lib.hid hv; have H3 := Lib.hid hst; clear hst hv))
          | ((go_at_call 7; refine (HA.out.open0 _ _ _ HK5.out HV.out H3.out).mono ?_; rintro e w6 ⟨n, J, D6, s, rfl, hH, hst⟩; have HH := Lib.hid hH; have H6 := Lib.hid hst; clear hH hst))
          | ((go_at_call 20; refine (HA.out.plan0 _ _ _ _ HH.out H6.out).mono ?_; rintro e w7 ⟨D7, rfl, hE, hst⟩; have HE := Lib.hid hE; have H7 := Lib.hid hst; clear hst hE)))
        go_ret
        exact ⟨J, D7, s, rfl, HE.out, St.re (L := [_, _, _]) [0, 1] [2] H7.out⟩
      · go_wp2_with (first
          | ((go_at_call 22; refine (HA.out.down _ _ _ HF2.out HST.out).mono ?_; rintro e w2 ⟨rfl, hst⟩; have H2 := Lib.hid hst; clear hst))
          | ((go_at_call 26; refine (HA.out.rest _ _ _ HF2.out H2.out).mono ?_; rintro e w3 ⟨D3, rfl, hv, hst⟩; have HV := Lib.hid hv; have H3 := Lib.hid hst; clear hst hv))
          | ((go_at_call 7; refine (HA.out.open0 _ _ _ HK5.out HV.out H3.out).mono ?_; rintro e w6 ⟨n, J, D6, s, rfl, hH, hst⟩; have HH := Lib.hid hH; have H6 := Lib.hid hst; clear hH hst))
          | ((go_at_call 20; refine (HA.out.plan0 _ _ _ _ HH.out H6.out).mono ?_; rintro e w7 ⟨D7, rfl, hE, hst⟩; have HE := Lib.hid hE; have H7 := Lib.hid hst; clear hst hE)))
        go_ret
        exact ⟨J, D7, s, rfl, HE.out, St.re (L := [_, _, _]) [0, 1] [2] H7.out⟩
/-- a device that fell is opened, whatever goes down within -/
theorem opened_law (g : Halves w) (ln ns : Nat) (h6 : 6 ≤ ln) (h14 : ln ≤ 14) (hn1 : 1 ≤ ns) (hn2 : ns ≤ 8) {kv : Value} {ks : List Int} {torn : Int} {mask : Nat} (hk : IntsIn w kv ks) (C : CrashOk ks torn mask) {was : List ByteArray} {k m : Nat} (hkk : k < 9000000000000000000) (h : St w wr (pDev X D :: As)) (hF : FellW (lawR ln ns) D was k (m + 3000000)) (zv : Value) (zs : List Int) (hz : IntsIn w zv zs) (hz64 : ∀ z ∈ zs, InI64 z) (hzl : zs.length ≤ 17592186043904) :
    Calls Tryd.prog 24 #[pt X, .int .i64 (ln : Int), .agg #[kv, .int .i64 torn, .int .u8 (mask : Int)], zv] wr fun e w' => ∃ J D' s, e = .returned (pt J) ∧ (Holds (lawR ln ns) D' s was (k + 6) m ∧ D'.plan = none) ∧ St w w' (pDev X D' :: aJrn J X (lawR ln ns) s false :: As) :=
  opened_core (fun As => op_calls (As := As) g ln ns h6 h14 hn1 hn2 X kv ks torn mask hk C was k m hkk) h hF zv zs hz hz64 hzl
end
end Go.Proofs.YtjmjmekmaamclaaDoor.jrn
