/-
  Layer 4, the program's closure: what a block has behind a crash.
-/
import Derived.Test.YtjmjmekmaamclaaDoorDrvB
namespace Go.Proofs.YtjmjmekmaamclaaDoor.dev
open Go.ChangeShapes Go.WideShapes Go.ChangeAt Go.RowKit mem
set_option linter.unusedVariables false

/-- the set of the writes that are kept -/
def keptV (ks : List Int) (cnt : Nat) (n : Nat) : Option Value := if (n : Int) ∈ ks ∧ n < cnt then some (.agg #[]) else none

theorem survs_nil (ks : List Int) (torn : Int) (mask : Nat) (s : ByteArray) : survs ks torn mask [] s = s := rfl

set_option maxRecDepth 8000 in
set_option maxHeartbeats 2000000 in
theorem psurv1_any {W : World} {X P1 P2 P3 kb kc : Nat} {kv : Value} {ks : List Int} {torn : Int} {mask : Nat} {D : DevM} {r : PRep} {s : List ByteArray} (S : CSees W X D r s) (a : PKnown D r) (hs : ∀ y ∈ s, y.size = 512 * D.ns) (hsl : s.length = D.nb)
    (hP1 : W.cell? ⟨P1, 0, none⟩ = some (pt X)) (hP2 : W.cell? ⟨P2, 1, none⟩ = some (.int .i64 torn)) (hP3 : W.cell? ⟨P2, 2, none⟩ = some (.int .u8 (mask : Int))) (hP4 : W.cell? ⟨P3, 0, none⟩ = some (.map (some kb)))
    (hK : MapAt W kb kc (keptV ks D.cache.length)) (hm : mask < 256) (n : Nat) (hn : n < D.nb) (hl : D.cache.length ≤ 1073741824) :
    Calls Tryd.prog 90 #[.int .i64 (n : Int), .pointer (some ⟨P1, 0, none⟩), .pointer (some ⟨P2, 0, none⟩), .pointer (some ⟨P3, 0, none⟩)] W fun e w' => e = .returned (.string (survs ks torn mask (D.ws n) (s.getD n empty))) ∧ Ch (fun _ => False) W w' := by
  have c6 := S.c6
  have hlk : (Instr.lookup 86 (.map (some r.mb)) (.int .i64 (n : Int)) false).run Tryd.prog W = .ok (r.rv n) W := by
    have := map_look S.map Tryd.underlying86 (Tryd.zeroValue130 W) n (by have := a.ok.nb1; omega)
    rw [mapV_get a n] at this
    exact this
  have c5 := S.c5
  obtain ⟨g, cap, hv, hg⟩ := S.hs
  rw [hv] at c5
  have hc := hg n hn
  have n0 : (0 : Int) ≤ n := by omega
  have n1 : (n : Int) < D.nb := by omega
  have nb1 : (D.nb : Int) ≤ 4096 := by have := a.ok.nb1; omega
  have HZ := Lib.hid (fun (j : Nat) => survs_size (ks := ks) (torn := torn) (mask := mask) (z := 512 * D.ns) ((D.ws n).take j) (s.getD n empty) (hs _ (getD_mem (by omega))) fun x hx => (ws_size a.ok x (List.mem_of_mem_take hx)).1)
  have HWS := Lib.hid (ws_size a.ok (n := n))
  have HROW := Lib.hid (fun (W' : World) (h : Ch (fun _ => False) W W') => row_shape ((S.ch h).rows n hn))
  have hle := ws_len n D.cache 0
  have HST := Lib.hid (fun j h => survs_take ks torn mask (D.ws n) (s.getD n empty) j h)
  have hlen : ((D.ws n).length : Int) ≤ 1073741824 := by
    have : (D.ws n).length ≤ 1073741824 := by show (wsFrom n 0 D.cache).length ≤ _; omega
    omega
  have HNS := Lib.hid a.ok.ns1
  have HMM := Lib.hid hm
  have HKK := Lib.hid hK
  have HFULL := Lib.hid (List.take_length (l := D.ws n))
  obtain ⟨ao, cap2, hrv⟩ : ∃ ao cap2, r.rv n = .slice ao (D.ws n).length cap2 := by
    rcases (S.rows n hn).2 with ⟨h1, h2⟩ | ⟨g, cap, cur, hv, hr⟩
    · exact ⟨none, 0, by rw [h1, h2]⟩
    · exact ⟨_, _, hv⟩
  have HRV := Lib.hid hrv
  rw [hrv] at hlk
  generalize hws : D.ws n = ws at *
  have HCL := Lib.hid hl
  generalize hs0 : s.getD n empty = s0 at *
  clear S a hs hsl hg hn hl hm hK hle hv hrv hws hs0
  have HP1 := Lib.hid hP1
  have HP2 := Lib.hid hP2
  have HP3 := Lib.hid hP3
  have HP4 := Lib.hid hP4
  go_enter Tryd.func90, Tryd.ntmps90
  go_wp2_with fail
  go_loopw [25, 6] (fun i t W' => ∃ j : Nat, j ≤ ws.length ∧ i = .int .i64 ↑j ∧ t = .string (survs ks torn mask (ws.take j) s0) ∧ Ch (fun _ => False) W W') (fun i _ _ => ws.length - (intOf i).toNat)
  case atStart => exact ⟨0, Nat.zero_le _, rfl, rfl, Ch.refl _ _⟩
  case round =>
    obtain ⟨j, hj, rfl, rfl, h1⟩ := hrel
    by_cases hlt : j < ws.length
    · obtain ⟨gr, capr, hrv, hcells⟩ := HROW.out wr h1 (by omega)
      rw [HRV.out] at hrv
      simp only [Value.slice.injEq, true_and] at hrv
      obtain ⟨rfl, rfl⟩ := hrv
      obtain ⟨x0, x1⟩ := hcells j hlt
      have HT := Lib.hid (HST.out j hlt)
      have hz := HZ.out j
      obtain ⟨y1, y2⟩ := HWS.out _ (List.getElem_mem hlt)
      generalize ws[j] = x at x0 x1 HT y1 y2
      obtain ⟨num, dt⟩ := x
      simp only at x0 x1 y1 y2
      generalize survs ks torn mask (ws.take j) s0 = sj at *
      have h2 := h1.trans ((Ch.refl (fun _ => False) wr).alloc (.cells #[.int .i64 (num : Int), .string dt] 132)) fun _ h => h.elim
      have hp1 := h2.cell HP2.out
      have hp2 := h2.cell HP3.out
      have hp3 := h2.cell HP4.out
      have HCH2 := Lib.hid h2
      clear h2
      have j0 : (0 : Int) ≤ j := by omega
      have j1 : (j : Int) < ws.length := by omega
      have HTORN := Lib.hid (ptorn_any sj dt mask D.ns hz y1 HNS.out HMM.out)
      have H1 := Lib.hid h1
      have HY2 := Lib.hid y2
      have num1 : (num : Int) ≤ 1073741824 := by have := HCL.out; omega
      clear h1 hcells hz y1 y2
      by_cases e : (num : Int) = torn
      · subst e
        have hx : surv ks (num : Int) mask sj (num, dt) = mix mask sj dt := by unfold surv; rw [if_pos rfl]
        have HX := Lib.hid hx
        clear hx
        go_wp2_with (go_at_call 91; refine (HTORN.out _).mono ?_; rintro e w2 ⟨rfl, h2⟩; have H2 := Lib.hid h2; clear h2)
        go_roundw
        case rel => exact ⟨j + 1, by omega, by go_num, by rw [HT.out, HX.out], HCH2.out.trans H2.out fun _ h => h.elim⟩
        case measure => simp [intOf] <;> omega
      · have e1 : ((num : Int) == torn) = false := by rw [beq_eq_false_iff_ne]; exact e
        have HE := Lib.hid e
        clear e
        by_cases k : (num : Int) ∈ ks
        · have hx : surv ks torn mask sj (num, dt) = dt := by unfold surv; rw [if_neg HE.out, if_pos k]
          have HX := Lib.hid hx
          have hkv : (keptV ks D.cache.length num).isSome = true ∧ (keptV ks D.cache.length num).getD (.agg #[]) = .agg #[] := by
            unfold keptV; rw [if_pos ⟨k, HY2.out⟩]; exact ⟨rfl, rfl⟩
          have HKV := Lib.hid hkv
          have HNUM := Lib.hid (show num ≤ 9223372036854775807 by omega)
          clear hx k hkv
          go_wp2_with (at_lookup; refine lst_look_ok (HKK.out.ch HCH2.out fun h => h) Tryd.underlying106 (Tryd.zeroValue107 _) num HNUM.out rfl _ _ rfl rfl rfl _ HKV.out.2 _ HKV.out.1 ?_)
          go_roundw
          case rel => exact ⟨j + 1, by omega, by go_num, by rw [HT.out, HX.out], HCH2.out.alloc _⟩
          case measure => simp [intOf] <;> omega
        · have hx : surv ks torn mask sj (num, dt) = sj := by unfold surv; rw [if_neg HE.out, if_neg k]
          have HX := Lib.hid hx
          have hkv : (keptV ks D.cache.length num).isSome = false ∧ (keptV ks D.cache.length num).getD (.agg #[]) = .agg #[] := by
            unfold keptV; rw [if_neg (fun h => k h.1)]; exact ⟨rfl, rfl⟩
          have HKV := Lib.hid hkv
          have HNUM := Lib.hid (show num ≤ 9223372036854775807 by omega)
          clear hx k hkv
          go_wp2_with (at_lookup; refine lst_look_ok (HKK.out.ch HCH2.out fun h => h) Tryd.underlying106 (Tryd.zeroValue107 _) num HNUM.out rfl _ _ rfl rfl rfl _ HKV.out.2 _ HKV.out.1 ?_)
          go_roundw
          case rel => exact ⟨j + 1, by omega, by go_num, by rw [HT.out, HX.out], HCH2.out.alloc _⟩
          case measure => simp [intOf] <;> omega
    · obtain rfl : j = ws.length := by omega
      have H1 := Lib.hid h1
      rw [HFULL.out]
      clear h1 hj hlt
      go_wp2_with fail
      go_ret
      exact ⟨rfl, H1.out⟩
end Go.Proofs.YtjmjmekmaamclaaDoor.dev
