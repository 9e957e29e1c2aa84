/-
  BitioNone answers true: calls on nothing, and at the ends of their ranges, are answered as the rules say. No condition.
-/
import Derived.Test.YtpedohlglllocaaUnpack
import Derived.Test.YtpedohlglllocaaAwake
import Derived.Outline
namespace Go.Proofs.Ytpedohlglllocaa.bits
open Go.ChangeShapes Go.WideShapes Go.ChangeAt Go.RowKit
set_option linter.unusedVariables false

theorem Ch.below {w w' : World} (h : Ch (fun _ => False) w w') : Below w.heap.size w w' := ⟨h.os, h.tape, h.output, h.size, fun k hk => h.block k hk (fun h => h)⟩

theorem seven (w : World) (k : Nat) (hk : k < 7) : (w.alloc (.cells #[.int .i64 2, .int .i64 2, .int .i64 2, .int .i64 2, .int .i64 2, .int .i64 2, .int .i64 2] 33)).cell? ⟨w.heap.size, k, none⟩ = some (.int .i64 2) := by
  rw [cell_of_row _ _ _ _ _ _ (heap_alloc_new w _)]
  match k, hk with
  | 0, _ => rfl
  | 1, _ => rfl
  | 2, _ => rfl
  | 3, _ => rfl
  | 4, _ => rfl
  | 5, _ => rfl
  | 6, _ => rfl

set_option maxHeartbeats 2000000 in
set_option maxRecDepth 100000 in
theorem none_walk (w : World) : Calls Try.prog 7 #[] w fun e w' => e = .returned (.bool true) ∧ Ch (fun _ => False) w w' := by
  go_enter Try.func7, Try.ntmps7
  go_wp2_with (first
    | (go_at_call 30; refine (wbit_nil _ _).mono ?_; rintro e w' ⟨rfl, rfl⟩)
    | (go_at_call 10; refine (wput_nil _ _ _).mono ?_; rintro e w' ⟨rfl, rfl⟩)
    | (go_at_call 31; refine (wadd_nil _ _ _).mono ?_; rintro e w' ⟨rfl, rfl⟩)
    | (go_at_call 11; refine (wtext_nil _).mono ?_; rintro e w' ⟨rfl, rfl⟩)
    | (go_at_call 17; refine (rbit_nil _).mono ?_; rintro e w' ⟨rfl, rfl⟩)
    | (go_at_call 19; refine (rtake_nil _ _).mono ?_; rintro e w' ⟨rfl, rfl⟩)
    | (go_at_call 21; refine (seek_nil _ _).mono ?_; rintro e w' ⟨rfl, rfl⟩))
  have HS := Lib.hid (seven w)
  have HC := Lib.hid ((Ch.refl (fun _ => False) w).alloc (.cells #[.int .i64 2, .int .i64 2, .int .i64 2, .int .i64 2, .int .i64 2, .int .i64 2, .int .i64 2] 33))
  obtain ⟨B, hB⟩ : ∃ B, B = w.heap.size := ⟨_, rfl⟩
  rw [← hB] at HS ⊢
  have HB := Lib.hid hB
  clear hB
  generalize w.alloc (.cells #[.int .i64 2, .int .i64 2, .int .i64 2, .int .i64 2, .int .i64 2, .int .i64 2, .int .i64 2] 33) = w1 at HS HC ⊢
  go_loop [64] (fun i => ∃ k : Nat, k ≤ 7 ∧ i = .int .i64 ↑k) (fun i => 7 - (intOf i).toNat)
  case atStart => exact ⟨0, by omega, rfl⟩
  case round =>
    obtain ⟨k, hk, rfl⟩ := hrel
    by_cases hlt : k < 7
    · have hc := HS.out k hlt
      go_wp2
      go_round
      case rel => exact ⟨k + 1, by omega, by go_num⟩
      case measure => simp [intOf]; omega
    · obtain rfl : k = 7 := by omega
      clear hlt hk HS
      go_wp2_with fail
      refine (new_any _).mono ?_
      rintro e w2 ⟨rfl, rfl⟩
      have HW := Lib.hid (Wr.new w1)
      have HC2 := Lib.hid (HC.out.alloc (.cells #[.slice none 0 0, .int .i64 0] 70))
      have HN : Hid (∀ g, g = w1.heap.size → False ∨ w.heap.size ≤ g) := Lib.hid fun g hg => .inr (by have := HC.out.size; omega)
      generalize w1.alloc (.cells #[.slice none 0 0, .int .i64 0] 70) = w2 at HW HC2 ⊢
      obtain ⟨X, hX⟩ : ∃ X, X = w1.heap.size := ⟨_, rfl⟩
      rw [← hX] at HW HN ⊢
      clear hX HC
      go_wp2_with fail
      refine (wput_ok 18446744073709551615 64 _ _ _ _ _ _ HW.out (by omega) (by omega) (by decide)).mono ?_
      rintro e w3 ⟨rfl, F3, v3, L3, hW3, hC3, hF3⟩
      have HW3 := Lib.hid hW3
      have HC3 := Lib.hid (HC2.out.trans hC3 HN.out)
      clear hW3 hC3 hF3 HW HC2 HN
      go_wp2_with fail
      refine (wput_arg 9223372036854775808 63 _ _ (by omega) (.inr (.inr (by decide)))).mono ?_
      rintro e w' ⟨rfl, rfl⟩
      go_wp2_with fail
      refine (wput_arg 1 0 _ _ (by omega) (.inr (.inr (by decide)))).mono ?_
      rintro e w' ⟨rfl, rfl⟩
      go_wp2_with fail
      refine (wadd_arg _ 9 _ _ (by decide) (.inr (by decide))).mono ?_
      rintro e w' ⟨rfl, rfl⟩
      go_wp2_with fail
      refine (pack_arg none 0 0 0 _ (.inl (by omega))).mono ?_
      rintro e w' ⟨rfl, rfl⟩
      go_wp2_with fail
      refine (pack_any _ none 0 [] 1 _ ⟨rfl, fun i hi => by simp [u64s] at hi⟩ (by simp) (by omega) (by omega) (by simp)).mono ?_
      rintro e w4 ⟨hpe, hC4⟩
      obtain ⟨L, hp, rfl⟩ : ∃ L : List UInt8, L = [] ∧ e = .returned (.tuple #[.string ⟨L.toArray⟩, .int .i64 0]) := by
        rcases hpe with ⟨L, _, hp, he⟩ | ⟨hp, _⟩
        · exact ⟨L, hp.unique packs_nil, he⟩
        · exact absurd (by simp) hp
      subst hp
      have HC4 := Lib.hid (HC3.out.trans hC4 fun g h => h.elim)
      have HW4 := Lib.hid (HW3.out.kept hC4 fun _ _ h => h)
      clear hC4 hpe HC3 HW3
      go_wp2_with fail
      refine (unpack_arg _ 1 (-1) _ (.inr (.inr (by omega)))).mono ?_
      rintro e w' ⟨rfl, rfl⟩
      go_wp2_with fail
      refine (unpack_ok _ 64 0 _ (by omega) (by omega) (by omega) (by decide) (by decide)).mono ?_
      rintro e w5 ⟨g, rfl, _, _, hC5⟩
      have HC5 := Lib.hid (HC4.out.trans hC5 fun g h => h.elim)
      have HW5 := Lib.hid (HW4.out.kept hC5 fun _ _ h => h)
      clear hC5 HC4 HW4
      go_wp2_with fail
      refine (unpack_fill _ 7 1 _ (by omega) (by omega) (by omega) (by decide) (by decide)).mono ?_
      rintro e w6 ⟨rfl, hC6⟩
      have HC6 := Lib.hid (HC5.out.trans hC6 fun g h => h.elim)
      have HW6 := Lib.hid (HW5.out.kept hC6 fun _ _ h => h)
      clear hC6 HC5 HW5
      go_wp2_with fail
      refine (unpack_many _ 1 4611686018427387904 _ (by omega) (by omega) (by omega) (by decide)).mono ?_
      rintro e w' ⟨rfl, rfl⟩
      go_wp2_with (first
        | (go_at_call 23; refine (at_nil _).mono ?_; rintro e w' ⟨rfl, rfl⟩)
        | (go_at_call 24; refine (left_nil _).mono ?_; rintro e w' ⟨rfl, rfl⟩)
        | (go_at_call 13; with_reducible refine (wlen_nil _).mono ?_; rintro e w' ⟨rfl, rfl⟩))
      refine (wlen_any HW6.out).mono ?_
      rintro e w' ⟨rfl, rfl⟩
      have hl : (([] : List Bool) ++ ofNum 18446744073709551615 64).length = 64 := by rw [List.nil_append, length_ofNum]
      rw [hl]
      clear hl
      go_wp2_with fail
      refine (awake_any _).mono ?_
      rintro e w7 ⟨rfl, hC7⟩
      have HC7 := Lib.hid (HC6.out.trans hC7 fun g h => h.elim)
      clear hC7 HC6 HW6
      go_wp2_with fail
      go_ret
      exact ⟨rfl, HC7.out⟩
end Go.Proofs.Ytpedohlglllocaa.bits
