/-
  CodesZigs answers true for any three numbers, whatever the world and the tape: numbers of either sign turn into numbers from 0 on, and back, as chapter 2 says. No conditions.
-/
import Derived.Test.YtgcediipkojdbaaZigA
import Derived.ProofKit
import Derived.OpenShut
import Derived.Carry
namespace Go.Proofs.Ytgcediipkojdbaa.codesZigs
open Go.ChangeShapes Go.WideShapes Go.ChangeAt Go.RowKit

theorem own : ownKnob Try.prog.godebug = none := by kernel_rfl

theorem walk (x y u : Int) (W : World) (bx : -9223372036854775808 ≤ x ∧ x ≤ 9223372036854775807) (bY : -9223372036854775808 ≤ y ∧ y ≤ 9223372036854775807) (bu : 0 ≤ u ∧ u ≤ 18446744073709551615) :
    Calls Try.prog 4 #[.int .i64 x, .int .i64 y, .int .u64 u] W fun e w' => e = .returned (.bool true) ∧ bits.Ch (fun _ => False) W w' := by
  obtain ⟨zx0, zx1, zx⟩ := bits.zig_bd x bx.1 bx.2
  obtain ⟨zu0, zu1, zu⟩ := bits.zag_bd u bu.1 bu.2
  refine bits.zigs_core x y u (bits.zigv x) (bits.zigv y) (bits.zagv u) W (Lib.hid fun V => bits.zig_any x V bx.1 bx.2) (Lib.hid fun V => bits.zig_any y V bY.1 bY.2) (Lib.hid fun V => bits.rzig_any x V bx.1 bx.2) (Lib.hid fun V => bits.zag_any u V bu.1 bu.2)
    (Lib.hid fun V => bits.rzag_any u V bu.1 bu.2) (Lib.hid fun V => by have := bits.zag_any (bits.zigv x) V zx0 zx1; rwa [zx] at this) (Lib.hid fun V => by have := bits.zig_any (bits.zagv u) V zu0 zu1; rwa [zu] at this)
    ?_ (bits.zig_near x y).1 (bits.zig_near x y).2
  rw [Bool.eq_iff_iff, beq_iff_eq, beq_iff_eq]
  exact bits.zig_eq x y

set_option maxRecDepth 100000 in
theorem lifted (os : Os) (started : os.Started) (H : Type) (enc : TypeId × Value → H) :
    ReturnsInHanded {} Try.checked os 4 .any (Rows.codesZigsSpec.pre6 enc Try.prog Try.f4 Rows.codesZigsRow.domain false) (Rows.codesZigsSpec.post enc Try.prog Try.f4 false true false false) := by
  refine returnsInHanded_of_change (C := Try.checked) own started (by kernel_rfl) Try.func4
    (ChangeSpec.witness6 (enc := enc) (C := Try.checked) false ⟨#[], #[.int .i64 0, .int .i64 0, .int .u64 0], []⟩ 8 (by kernel_rfl) (by kernel_rfl) (by kernel_rfl) (by kernel_rfl)) ?_
  intro W base args ds gs before hval0 hW hcnd _
  have hval : ∀ (j : Nat) t v, Try.f4.params[j]? = some t → args[j]? = some v → Value.okWide Try.prog W .any base t v := hval0
  have hW' := hW
  obtain ⟨p, q, hA0, hV, rfl, hfz, hnd⟩ := hW
  have hA : DataW.TrodAll enc Try.prog W 0 (fun _ => true) true Try.f4.params.toList args.toList ds p := hA0
  rw [Try.params4] at hA hval
  obtain ⟨v0, v1, v2, d0, d1, d2, p0, p1, p2, rfl, rfl, rfl, h0, h1, h2⟩ := trodAll_three hA
  obtain ⟨rfl, rfl⟩ := trodVars_none hV
  obtain ⟨x, rfl, rfl, rfl, wx⟩ := open_int Try.underlying2 (hval 0 2 v0 rfl rfl) h0
  obtain ⟨y, rfl, rfl, rfl, wy⟩ := open_int Try.underlying2 (hval 1 2 v1 rfl rfl) h1
  obtain ⟨u, rfl, rfl, rfl, wu⟩ := open_int Try.underlying30 (hval 2 30 v2 rfl rfl) h2
  clear hA0 hval0
  refine (walk x y u W (bounds_i64 wx) (bounds_i64 wy) (bounds_u64 wu)).mono fun e W' ⟨he, hc⟩ => ?_
  subst he
  have hb : Below W.heap.size W W' := ⟨hc.os, hc.tape, hc.output, hc.size, fun k hk => hc.block k hk (fun h => h)⟩
  exact ⟨_, rfl, _, _, _, [], [], [], hW', trodAll_cons_mk (shut_bool Try.underlying4 _) trodAll_mk0, 
    trodAll_cons_mk (shut_int Try.underlying2 wx) (trodAll_cons_mk (shut_int Try.underlying2 wy) (trodAll_cons_mk (shut_int Try.underlying30 wu) trodAll_mk0)), hV, hb.frame _, fun h => by cases h⟩

theorem proved : Rows.CodesZigsSaid :=
  OpenClaim.holds_of_wide 4 Try.f4 rfl rfl rfl rfl rfl rfl rfl ⟨rfl, rfl, rfl, rfl, rfl⟩ rfl rfl rfl rfl rfl (by kernel_rfl) Try.func4 (by kernel_rfl)
    (of_decide_eq_true (by kernel_rfl)) (by unfold Func.isWrapper; first | (rw [if_pos (by decide +kernel)]; kernel_rfl) | (rw [if_neg (by decide +kernel)]; exact ⟨rfl, rfl⟩))
    (fun os started H enc _ => lifted os started H enc)
end Go.Proofs.Ytgcediipkojdbaa.codesZigs
