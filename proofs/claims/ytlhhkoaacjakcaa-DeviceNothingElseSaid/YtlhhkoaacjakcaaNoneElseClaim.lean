/-
  DeviceNothingElse answers true for every two numbers, every two lists of writes and every crash, whatever the world and the tape: a crash leaves nothing in a sector that was never written there. No conditions.
-/
import Derived.Test.YtlhhkoaacjakcaaDevNe
import Derived.Test.YtlhhkoaacjakcaaDrvZ
import Derived.Test.YtlhhkoaacjakcaaDevArg
import Derived.Test.YtlhhkoaacjakcaaDevArp
import Derived.ProofKit
import Derived.OpenShut
import Derived.Carry
namespace Go.Proofs.Ytlhhkoaacjakcaa.deviceNothingElse
open Go.ChangeShapes Go.WideShapes Go.ChangeAt Go.RowKit mem dev

theorem own : ownKnob Try.prog.godebug = none := by kernel_rfl

theorem agg_of {v : Value} {l : List Value} (h : v.cells.toList = l) (hl : 1 < l.length) : v = .agg l.toArray := by
  cases v with
  | agg cs =>
    have : cs.toList = l := h
    rw [← this]
  | _ => subst h; simp [Value.cells] at hl

set_option maxRecDepth 100000 in
theorem lifted (os : Os) (started : os.Started) (H : Type) (enc : TypeId × Value → H) :
    ReturnsInHanded {} Try.checked os 6 .any (Rows.deviceNothingElseSpec.pre6 enc Try.prog Try.f6 Rows.deviceNothingElseRow.domain false) (Rows.deviceNothingElseSpec.post enc Try.prog Try.f6 false true false false) := by
  refine returnsInHanded_of_change_sized (C := Try.checked) own started (by kernel_rfl) Try.func6
    (ChangeSpec.witness6 (enc := enc) (C := Try.checked) false ⟨#[], #[.int .i64 0, .int .i64 0, .slice none 0 0, .slice none 0 0, .agg #[.slice none 0 0, .int .i64 0, .int .u8 0]], []⟩ 8 (by kernel_rfl) (by kernel_rfl) (by kernel_rfl) (by kernel_rfl)) ?_
  intro W base args ds gs before hval0 hW hcnd hsz0 _
  have hsz : (DataW.weightsEach Try.prog (Try.f6.params.toList ++ Rows.deviceNothingElseSpec.plain.varTypes Try.prog) (ds ++ gs)).all (· ≤ reachBytes) = true := hsz0
  clear hsz0
  have hval : ∀ (j : Nat) t v, Try.f6.params[j]? = some t → args[j]? = some v → Value.okWide Try.prog W .any base t v := hval0
  have hW' := hW
  obtain ⟨p, q, hA0, hV, rfl, hfz, hnd⟩ := hW
  have hA : DataW.TrodAll enc Try.prog W 0 (fun _ => true) true Try.f6.params.toList args.toList ds p := hA0
  rw [Try.params6] at hA hval hsz
  obtain ⟨v0, v1, v2, v3, v4, d0, d1, d2, d3, d4, p0, p1, p2, p3, p4, rfl, rfl, rfl, h0, h1, h2, h3, h4⟩ := trodAll_five hA
  obtain ⟨rfl, rfl⟩ := trodVars_none hV
  have h0k := h0
  have h1k := h1
  have h2k := h2
  have h3k := h3
  have h4k := h4
  have F2 : Fits 64 d2 := fits_of (j := 2) hsz rfl rfl
  have F3 : Fits 64 d3 := fits_of (j := 3) hsz rfl rfl
  have F4 : Fits 40 d4 := fits_of (j := 4) hsz rfl rfl
  obtain ⟨a2, n2, c2, rfl⟩ := okWide_slice Try.underlying64 (hval 2 64 v2 rfl rfl)
  obtain ⟨a3, n3, c3, rfl⟩ := okWide_slice Try.underlying64 (hval 3 64 v3 rfl rfl)
  obtain ⟨fuel0, g0⟩ := h0
  obtain ⟨fuel1, g1⟩ := h1
  obtain ⟨fuel2, g2⟩ := h2
  obtain ⟨fuel3, g3⟩ := h3
  obtain ⟨fuel4, g4⟩ := h4
  obtain ⟨b, e0, _, w0⟩ := DataW.trod_int Try.underlying3 g0
  obtain ⟨s, e1, _, w1⟩ := DataW.trod_int Try.underlying3 g1
  obtain ⟨b', rfl⟩ := okWide_int Try.underlying3 (hval 0 3 v0 rfl rfl)
  obtain ⟨s', rfl⟩ := okWide_int Try.underlying3 (hval 1 3 v1 rfl rfl)
  obtain rfl : b' = b := by simpa [Value.cells] using e0
  obtain rfl : s' = s := by simpa [Value.cells] using e1
  obtain ⟨u2, safe, e2, o2, k2⟩ := puts_open g2 F2
  obtain ⟨u3, more, e3, o3, k3⟩ := puts_open g3 F3
  obtain ⟨kv, ks, torn, mask, e4, o4, k4⟩ := crash_open g4 F4
  obtain rfl : u2 = .slice a2 n2 c2 := by simpa [Value.cells] using e2.symm
  obtain rfl : u3 = .slice a3 n3 c3 := by simpa [Value.cells] using e3.symm
  obtain rfl : v4 = .agg #[kv, .int .i64 torn, .int .u8 (mask : Int)] := agg_of e4 (by show 1 < 3; omega)
  have hlt : ∀ x ∈ p0 ++ (p1 ++ (p2 ++ (p3 ++ (p4 ++ [])))), x.block < W.heap.size := fun x hx => by simpa using hW'.lt x (by simpa using hx)
  refine (nothing_any (dev := pDev) prog_ok (St.nil (w := W) (Ch.refl _ W)) b' s' (wf64 w0) (wf64 w1) (.slice a2 n2 c2) (.slice a3 n3 c3) safe more o2 o3 k2 k3 kv ks torn mask o4 k4).mono fun e W' ⟨he, hst⟩ => ?_
  subst he
  have hb : Below W.heap.size W W' := hst.ch.below
  exact ⟨_, rfl, _, _, _, [], _, [], hW', trodAll_cons_mk (shut_bool Try.underlying4 _) trodAll_mk0,
    trodAll_cons_mk (Below.trod laidOut (by kernel_rfl) (of_decide_eq_true (by kernel_rfl)) h0k hb fun x hx => hlt x (by simp [hx]))
      (trodAll_cons_mk (Below.trod laidOut (by kernel_rfl) (of_decide_eq_true (by kernel_rfl)) h1k hb fun x hx => hlt x (by simp [hx]))
        (trodAll_cons_mk (Below.trod laidOut (by kernel_rfl) (of_decide_eq_true (by kernel_rfl)) h2k hb fun x hx => hlt x (by simp [hx]))
          (trodAll_cons_mk (Below.trod laidOut (by kernel_rfl) (of_decide_eq_true (by kernel_rfl)) h3k hb fun x hx => hlt x (by simp [hx]))
            (trodAll_cons_mk (Below.trod laidOut (by kernel_rfl) (of_decide_eq_true (by kernel_rfl)) h4k hb fun x hx => hlt x (by simp [hx])) trodAll_mk0)))), hV, hb.frame _, fun h => by cases h⟩

theorem proved : Rows.DeviceNothingElseSaid :=
  OpenClaim.holds_of_wide 6 Try.f6 rfl rfl rfl rfl rfl rfl rfl ⟨rfl, rfl, rfl, rfl, rfl⟩ rfl rfl rfl rfl rfl (by kernel_rfl) Try.func6 (by kernel_rfl)
    (of_decide_eq_true (by kernel_rfl)) (by unfold Func.isWrapper; first | (rw [if_pos (by decide +kernel)]; kernel_rfl) | (rw [if_neg (by decide +kernel)]; exact ⟨rfl, rfl⟩))
    (fun os started H enc _ => lifted os started H enc)
end Go.Proofs.Ytlhhkoaacjakcaa.deviceNothingElse
