/-
  Layer 1: awake answers true.
-/
import Derived.Test.YtpedohlglllocaaBitR
namespace Go.Proofs.Ytpedohlglllocaa.bits
open Go.ChangeShapes Go.WideShapes Go.ChangeAt Go.RowKit

theorem awake_text {L : List UInt8} (h : Packs L (([] ++ [true]) ++ ofNum 5 4)) : L = [168] :=
  h.unique ⟨3, by omega, by decide⟩

theorem awake_any (w : World) : Calls Try.prog 14 #[] w fun e w' => e = .returned (.bool true) ∧ Ch (fun _ => False) w w' := by
  go_enter Try.func14, Try.ntmps14
  go_wp2_with (go_at_call 8; refine (new_any _).mono ?_; rintro e w' ⟨rfl, rfl⟩)
  have HW := Lib.hid (Wr.new w)
  have HC := Lib.hid ((Ch.refl (fun _ => False) w).alloc (.cells #[.slice none 0 0, .int .i64 0] 70))
  have HN : Hid (∀ g, g = w.heap.size → False ∨ w.heap.size ≤ g) := Lib.hid fun g hg => .inr (by omega)
  generalize w.alloc (.cells #[.slice none 0 0, .int .i64 0] 70) = w1 at HW HC ⊢
  refine (wbit_ok true HW.out (by decide)).mono ?_
  rintro e w2 ⟨rfl, F2, v2, L2, hW2, hC2, hF2⟩
  have HW2 := Lib.hid hW2
  have HC2 := Lib.hid (HC.out.trans hC2 HN.out)
  have HN2 : Hid (∀ g, F2 g → False ∨ w.heap.size ≤ g) := Lib.hid fun g hg => by rcases hF2 g hg with h | h; exact HN.out g h; exact .inr (Nat.le_trans HC.out.size h)
  clear hW2 hC2 hF2 HW HC HN
  go_wp2_with fail
  refine (wput_ok 5 4 _ _ _ _ _ _ HW2.out (by omega) (by omega) (by decide)).mono ?_
  rintro e w3 ⟨rfl, F3, v3, L3, hW3, hC3, hF3⟩
  have HW3 := Lib.hid hW3
  have HC3 := Lib.hid (HC2.out.trans hC3 HN2.out)
  clear hW3 hC3 hF3 HW2 HC2 HN2
  go_wp2_with fail
  refine (wtext_any HW3.out).mono ?_
  rintro e w4 ⟨rfl, rfl⟩
  have hL := awake_text HW3.out.packs
  subst hL
  clear HW3
  go_wp2_with fail
  refine (open_any _ _ (by decide)).mono ?_
  rintro e w5 ⟨rfl, hR, hC5⟩
  have HR := Lib.hid hR
  have HC5 := Lib.hid (HC3.out.trans hC5 fun g h => h.elim)
  have HN5 : Hid (∀ g, (g = w3.heap.size ∨ g = w3.heap.size + 1) → False ∨ w.heap.size ≤ g) := Lib.hid fun g hg => by have := HC3.out.size; right; omega
  clear hR hC5 HC3
  go_wp2_with fail
  refine (rtake_ok HR.out 5 (by omega) (by decide)).mono ?_
  rintro e w6 ⟨rfl, _, hC6⟩
  have HC6 := Lib.hid (HC5.out.trans hC6 HN5.out)
  clear hC6 HC5 HN5 HR
  have hv : fld ⟨[168].toArray⟩ 0 5 = 21 := by decide
  rw [hv]
  clear hv
  go_wp2_with fail
  go_ret
  exact ⟨rfl, HC6.out⟩
end Go.Proofs.Ytpedohlglllocaa.bits
