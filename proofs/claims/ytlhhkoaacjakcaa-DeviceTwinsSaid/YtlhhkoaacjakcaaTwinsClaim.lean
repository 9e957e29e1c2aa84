/-
  DeviceTwins answers true for every two lists of calls and every further call, whatever the world and the tape: a device and its twin answer alike under the same calls, and what is done to the twin is not seen by the device. No conditions.
-/
import Derived.Test.YtlhhkoaacjakcaaDevTw
import Derived.Test.YtlhhkoaacjakcaaDrvZ
import Derived.Test.YtlhhkoaacjakcaaDevArg
import Derived.ProofKit
import Derived.OpenShut
import Derived.Carry
namespace Go.Proofs.Ytlhhkoaacjakcaa.deviceTwins
open Go.ChangeShapes Go.WideShapes Go.ChangeAt Go.RowKit mem dev

theorem own : ownKnob Try.prog.godebug = none := by kernel_rfl

theorem agg_of {v : Value} {l : List Value} (h : v.cells.toList = l) (hl : 1 < l.length) : v = .agg l.toArray := by
  cases v with
  | agg cs =>
    have : cs.toList = l := h
    rw [← this]
  | _ => subst h; simp [Value.cells] at hl

set_option maxRecDepth 100000 in
theorem lifted (os : Os) (started : os.Started) (H : Type) (enc : TypeId × Value → H) :
    ReturnsInHanded {} Try.checked os 7 .any (Rows.deviceTwinsSpec.pre6 enc Try.prog Try.f7 Rows.deviceTwinsRow.domain false) (Rows.deviceTwinsSpec.post enc Try.prog Try.f7 false true false false) := by
  refine returnsInHanded_of_change_sized (C := Try.checked) own started (by kernel_rfl) Try.func7
    (ChangeSpec.witness6 (enc := enc) (C := Try.checked) false ⟨#[], #[.slice none 0 0, .slice none 0 0, .agg #[.int .i64 0, .int .i64 0, .int .i64 0, .int .i64 0, .string .empty, .slice none 0 0, .int .i64 0, .int .u8 0]], []⟩ 8 (by kernel_rfl) (by kernel_rfl) (by kernel_rfl) (by kernel_rfl)) ?_
  intro W base args ds gs before hval0 hW hcnd hsz0 _
  have hsz : (DataW.weightsEach Try.prog (Try.f7.params.toList ++ Rows.deviceTwinsSpec.plain.varTypes Try.prog) (ds ++ gs)).all (· ≤ reachBytes) = true := hsz0
  clear hsz0
  have hval : ∀ (j : Nat) t v, Try.f7.params[j]? = some t → args[j]? = some v → Value.okWide Try.prog W .any base t v := hval0
  have hW' := hW
  obtain ⟨p, q, hA0, hV, rfl, hfz, hnd⟩ := hW
  have hA : DataW.TrodAll enc Try.prog W 0 (fun _ => true) true Try.f7.params.toList args.toList ds p := hA0
  rw [Try.params7] at hA hval hsz
  obtain ⟨v0, v1, v2, d0, d1, d2, p0, p1, p2, rfl, rfl, rfl, h0, h1, h2⟩ := trodAll_three hA
  obtain ⟨rfl, rfl⟩ := trodVars_none hV
  have h0k := h0
  have h1k := h1
  have h2k := h2
  have F0 : Fits 24 d0 := fits_of (j := 0) hsz rfl rfl
  have F1 : Fits 24 d1 := fits_of (j := 1) hsz rfl rfl
  have F2 : Fits 42 d2 := fits_of (j := 2) hsz rfl rfl
  obtain ⟨a0, n0, c0, rfl⟩ := okWide_slice Try.underlying24 (hval 0 24 v0 rfl rfl)
  obtain ⟨a1, n1, c1, rfl⟩ := okWide_slice Try.underlying24 (hval 1 24 v1 rfl rfl)
  obtain ⟨fuel0, g0⟩ := h0
  obtain ⟨fuel1, g1⟩ := h1
  obtain ⟨fuel2, g2⟩ := h2
  obtain ⟨u0, l, e0, o0, k0⟩ := ops_open g0 F0
  obtain ⟨u1, more, e1, o1, k1⟩ := ops_open g1 F1
  obtain ⟨o, kv, e2, o2, k2⟩ := op_open g2 F2
  obtain rfl : u0 = .slice a0 n0 c0 := by simpa [Value.cells] using e0.symm
  obtain rfl : u1 = .slice a1 n1 c1 := by simpa [Value.cells] using e1.symm
  obtain rfl : v2 = .agg (opCells o kv).toArray := agg_of e2 (by show 1 < 8; omega)
  have hlt : ∀ x ∈ p0 ++ (p1 ++ (p2 ++ [])), x.block < W.heap.size := fun x hx => by simpa using hW'.lt x (by simpa using hx)
  refine (twins_any (dev := pDev) prog_ok (St.nil (w := W) (Ch.refl _ W)) (.slice a0 n0 c0) (.slice a1 n1 c1) l more o kv o0 o1 o2 k0 k1 k2).mono fun e W' ⟨he, hst⟩ => ?_
  subst he
  have hb : Below W.heap.size W W' := hst.ch.below
  exact ⟨_, rfl, _, _, _, [], _, [], hW', trodAll_cons_mk (shut_bool Try.underlying4 _) trodAll_mk0,
    trodAll_cons_mk (Below.trod laidOut (by kernel_rfl) (of_decide_eq_true (by kernel_rfl)) h0k hb fun x hx => hlt x (by simp [hx]))
      (trodAll_cons_mk (Below.trod laidOut (by kernel_rfl) (of_decide_eq_true (by kernel_rfl)) h1k hb fun x hx => hlt x (by simp [hx]))
        (trodAll_cons_mk (Below.trod laidOut (by kernel_rfl) (of_decide_eq_true (by kernel_rfl)) h2k hb fun x hx => hlt x (by simp [hx])) trodAll_mk0)), hV, hb.frame _, fun h => by cases h⟩

theorem proved : Rows.DeviceTwinsSaid :=
  OpenClaim.holds_of_wide 7 Try.f7 rfl rfl rfl rfl rfl rfl rfl ⟨rfl, rfl, rfl, rfl, rfl⟩ rfl rfl rfl rfl rfl (by kernel_rfl) Try.func7 (by kernel_rfl)
    (of_decide_eq_true (by kernel_rfl)) (by unfold Func.isWrapper; first | (rw [if_pos (by decide +kernel)]; kernel_rfl) | (rw [if_neg (by decide +kernel)]; exact ⟨rfl, rfl⟩))
    (fun os started H enc _ => lifted os started H enc)
end Go.Proofs.Ytlhhkoaacjakcaa.deviceTwins
