/-
  Layer 7: keys that rise, of the program and of the document.
-/
import Derived.Test.YtfgcbbbhnnikdaaPgD
import Derived.Laws.Cover1
namespace Go.Proofs.Ytfgcbbbhnnikdaa.pg
open Go.ChangeShapes Go.WideShapes Go.ChangeAt Go.RowKit mem
set_option linter.unusedVariables false

theorem bl_tri : ∀ a b : List UInt8, (Op.bytesLess a b || (a == b)) = !Op.bytesLess b a
  | [], [] => rfl
  | [], _ :: _ => rfl
  | _ :: _, [] => rfl
  | x :: a, y :: b => by
    have ih := bl_tri a b
    unfold Op.bytesLess
    rcases Nat.lt_trichotomy x.toNat y.toNat with h | h | h
    · have h1 : x < y := UInt8.lt_iff_toNat_lt.2 h
      have h2 : ¬ y < x := fun c => by have := UInt8.lt_iff_toNat_lt.1 c; omega
      have h3 : ¬ y = x := fun c => by subst c; omega
      simp [h1, h2, h3]
    · obtain rfl : x = y := UInt8.toNat_inj.1 h
      have h1 : ¬ x < x := fun c => by have := UInt8.lt_iff_toNat_lt.1 c; omega
      simp only [h1, decide_false, Bool.false_or, BEq.rfl, Bool.true_and, List.cons_beq_cons]
      exact ih
    · have h1 : y < x := UInt8.lt_iff_toNat_lt.2 h
      have h2 : ¬ x < y := fun c => by have := UInt8.lt_iff_toNat_lt.1 c; omega
      have h3 : ¬ x = y := fun c => by subst c; omega
      simp [h1, h2, h3]
instance (ks : List ByteArray) : Decidable (riseM ks) := inferInstanceAs (Decidable (∀ i, i < ks.length → riseAt ks i))
theorem riseM_all {ks : List ByteArray} (h : ∀ j, j < ks.length → riseAt ks j) : decide (riseM ks) = true := decide_eq_true h
theorem riseM_bad {ks : List ByteArray} {i : Nat} (hi : i < ks.length) (h : ¬ riseAt ks i) : decide (riseM ks) = false := decide_eq_false fun c => h (c i hi)

set_option maxHeartbeats 1000000 in
theorem rise_any {W : World} {v : Value} {ks : List ByteArray} (h : StrsIn W v ks) (hl : ks.length ≤ 8796093022208) :
    Calls Try.prog 81 #[v] W fun e w' => e = .returned (.bool (decide (riseM ks))) ∧ w' = W := by
  have HS := Lib.hid h
  obtain ⟨ao, cap, rfl, _⟩ := id h
  have hl2 : (ks.length : Int) ≤ 8796093022208 := by omega
  obtain ⟨R, hR⟩ : ∃ R, R = decide (riseM ks) := ⟨_, rfl⟩
  rw [← hR]
  have HR := Lib.hid hR
  clear h hl hR
  go_enter Try.func81, Try.ntmps81
  go_wp2_with fail
  go_loopw [7] (fun i wr => ∃ k : Nat, k ≤ ks.length ∧ i = .int .i64 ↑k ∧ (∀ j, j < k → riseAt ks j) ∧ W = wr) (fun i _ => ks.length - (intOf i).toNat)
  case atStart => exact ⟨0, Nat.zero_le _, rfl, fun j hj => absurd hj (Nat.not_lt_zero j), rfl⟩
  case round =>
    obtain ⟨k, hk, rfl, hall, rfl⟩ := hrel
    have HALL := Lib.hid hall
    clear hall
    by_cases hlt : k < ks.length
    · obtain ⟨b, o, cap', e, hc⟩ := HS.out.at' hlt
      cases e
      have e1 : IntKind.i64.wrap ((k : Int) + 1) = (k : Int) + 1 := IntWalk.i64_in _ (by omega)
      have HLT := Lib.hid hlt
      have k1 : (k : Int) < ks.length := by omega
      by_cases hr : riseAt ks k
      · have HN : Hid (∀ j, j < k + 1 → riseAt ks j) := Lib.hid fun j hj => by
          by_cases c : j = k
          · rw [c]; exact hr
          · exact HALL.out j (by omega)
        obtain ⟨⟨r1, r2⟩, r3⟩ := hr
        by_cases k0 : k = 0
        · subst k0
          rw [Nat.add_zero] at hc
          generalize ks.getD 0 emp = x at hc r1 r2
          have s1 : ¬ (x.size : Int) < 1 := by omega
          have s2 : ¬ (64 : Int) < (x.size : Int) := by omega
          clear hk hlt r3 r1 r2
          go_wp2_with fail
          go_roundw
          case rel => exact ⟨1, by have := HLT.out; omega, rfl, HN.out, by first | trivial | rfl⟩
          case measure => simp [intOf] <;> omega
        · have hless := r3.resolve_left k0
          obtain ⟨b2, o2, cap2, e, hp⟩ := HS.out.at' (show k - 1 < ks.length by omega)
          cases e
          have hcmp : (Op.bytesLess (ks.getD k emp).toList (ks.getD (k - 1) emp).toList || ((ks.getD k emp).toList == (ks.getD (k - 1) emp).toList)) = false := by
            rw [bl_tri]; unfold lessB at hless; rw [hless]; rfl
          generalize ks.getD k emp = x at hc r1 r2 hcmp
          generalize ks.getD (k - 1) emp = y at hp hcmp
          have hop : ∀ t, binOp .leq t (.string x) (.string y) = pure (.bool false) := fun t => by rw [binOp_string_leq, hcmp]
          clear hcmp
          have s1 : ¬ (x.size : Int) < 1 := by omega
          have s2 : ¬ (64 : Int) < (x.size : Int) := by omega
          have s3 : (0 : Int) < (k : Int) := by omega
          have e2 : IntKind.i64.wrap ((k : Int) - 1) = ((k - 1 : Nat) : Int) := by rw [IntWalk.i64_in _ (by omega)]; omega
          have k2 : ((k - 1 : Nat) : Int) < ks.length := by omega
          generalize k - 1 = k' at hp e2 k2
          clear hk hlt r3 r1 r2 hless k0
          go_wp2_with fail
          go_roundw
          case rel => exact ⟨k + 1, by have := HLT.out; omega, by go_num, HN.out, by first | trivial | rfl⟩
          case measure => simp [intOf] <;> omega
      · have HB := Lib.hid (riseM_bad hlt hr)
        by_cases r1 : (ks.getD k emp).size < 1
        · generalize ks.getD k emp = x at hc r1
          have s1 : (x.size : Int) < 1 := by omega
          clear hk hlt r1 hr
          go_wp2_with fail
          go_ret
          exact ⟨congrArg (fun b => Ending.returned (Value.bool b)) (HR.out.trans HB.out).symm, rfl⟩
        · by_cases r2 : 64 < (ks.getD k emp).size
          · generalize ks.getD k emp = x at hc r1 r2
            have s1 : ¬ (x.size : Int) < 1 := by omega
            have s2 : (64 : Int) < (x.size : Int) := by omega
            clear hk hlt r1 r2 hr
            go_wp2_with fail
            go_ret
            exact ⟨congrArg (fun b => Ending.returned (Value.bool b)) (HR.out.trans HB.out).symm, rfl⟩
          · have k0 : ¬ k = 0 := fun c => hr ⟨⟨by omega, by omega⟩, .inl c⟩
            have hless : ¬ lessB (ks.getD (k - 1) emp) (ks.getD k emp) = true := fun c => hr ⟨⟨by omega, by omega⟩, .inr c⟩
            obtain ⟨b2, o2, cap2, e, hp⟩ := HS.out.at' (show k - 1 < ks.length by omega)
            cases e
            have hcmp : (Op.bytesLess (ks.getD k emp).toList (ks.getD (k - 1) emp).toList || ((ks.getD k emp).toList == (ks.getD (k - 1) emp).toList)) = true := by
              rw [bl_tri]; unfold lessB at hless; simpa using hless
            generalize ks.getD k emp = x at hc r1 r2 hcmp
            generalize ks.getD (k - 1) emp = y at hp hcmp
            have s1 : ¬ (x.size : Int) < 1 := by omega
            have s2 : ¬ (64 : Int) < (x.size : Int) := by omega
            have s3 : (0 : Int) < (k : Int) := by omega
            have e2 : IntKind.i64.wrap ((k : Int) - 1) = ((k - 1 : Nat) : Int) := by rw [IntWalk.i64_in _ (by omega)]; omega
            have k2 : ((k - 1 : Nat) : Int) < ks.length := by omega
            generalize k - 1 = k' at hp e2 k2
            clear hk hlt r1 r2 hless k0 hr
            have hop : ∀ t, binOp .leq t (.string x) (.string y) = pure (.bool true) := fun t => by rw [binOp_string_leq, hcmp]
            clear hcmp
            go_wp2_with fail
            go_ret
            exact ⟨congrArg (fun b => Ending.returned (Value.bool b)) (HR.out.trans HB.out).symm, rfl⟩
    · obtain rfl : k = ks.length := by omega
      have HB := Lib.hid (riseM_all HALL.out)
      clear hk hlt
      go_wp2_with fail
      go_ret
      exact ⟨congrArg (fun b => Ending.returned (Value.bool b)) (HR.out.trans HB.out).symm, rfl⟩
end Go.Proofs.Ytfgcbbbhnnikdaa.pg
