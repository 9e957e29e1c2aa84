/-
  Layer 2: the contract of Read; of the laws' own and awake.
-/
import Derived.Test.YtgcediipkojdbaaCodeN
import Derived.Outline
namespace Go.Proofs.Ytgcediipkojdbaa.bits
open Go.ChangeShapes Go.WideShapes Go.ChangeAt Go.RowKit
set_option linter.unusedVariables false

theorem read_any {w : World} {R T : Nat} {F : Nat → Prop} {s : ByteArray} {p : Nat} (h : Rd w R T F s p) (kd K : Nat) (hm : may kd K = true) :
    Calls Try.prog 10 #[.pointer (some ⟨R, 0, none⟩), .agg #[.int .u8 kd, .int .u64 K]] w (Told w R T F s p (cbits kd K) (most kd K)) := by
  have hm := may_of hm
  unfold most
  by_cases k0 : kd = 0
  · subst k0
    obtain rfl : K = 0 := by omega
    have e : cbits 0 0 = unary := funext fun v => if_pos rfl
    rw [if_pos rfl, e]
    exact read_unary h
  by_cases k1 : kd = 1
  · subst k1
    obtain rfl : K = 0 := by omega
    have e : cbits 1 0 = gam := funext fun v => by unfold cbits; rw [if_neg (by omega), if_pos rfl]
    rw [if_neg (by omega), if_neg (by omega), e]
    exact read_gamma h
  by_cases k2 : kd = 2
  · subst k2
    obtain rfl : K = 0 := by omega
    have e : cbits 2 0 = del := funext fun v => by unfold cbits; rw [if_neg (by omega), if_neg (by omega), if_pos rfl]
    rw [if_neg (by omega), if_neg (by omega), e]
    exact read_delta h
  by_cases k3 : kd = 3
  · subst k3
    have e : cbits 3 K = zet K := funext fun v => by unfold cbits; rw [if_neg (by omega), if_neg (by omega), if_neg (by omega), if_pos rfl]
    rw [if_neg (by omega), if_neg (by omega), e]
    exact read_zeta h K (by omega) (by omega)
  obtain rfl : kd = 4 := by omega
  have e : cbits 4 K = fun v => mini v K := funext fun v => by unfold cbits; rw [if_neg (by omega), if_neg (by omega), if_neg (by omega), if_neg (by omega)]
  rw [if_neg (by omega), if_pos rfl, e]
  exact read_minimal h K (by omega) (by omega)

/-- what stands there is told -/
theorem Told.of {w w' : World} {R T : Nat} {F : Nat → Prop} {s : ByteArray} {p kd K : Nat} {e : Ending} (h : Told w R T F s p (cbits kd K) (most kd K) e w') (hm : may kd K = true) (v : Nat) (hv : v ≤ most kd K) (hp : cbits kd K v <+: rest s p) :
    e = .returned (.tuple #[.int .u64 (v : Nat), .int .i64 0]) ∧ Rd w' R T F s (p + (cbits kd K v).length) ∧ Ch F w w' := by
  rcases h with ⟨v', hv', hp', he, hR, hC⟩ | ⟨hn, _⟩
  · obtain rfl := cbits_free hm hv hv' hp hp'
    exact ⟨he, hR, hC⟩
  · exact absurd hp (hn v hv)

theorem read_nil (kd K : Nat) (w : World) :
    Calls Try.prog 10 #[.pointer none, .agg #[.int .u8 kd, .int .u64 K]] w fun e w' => e = .returned (.tuple #[.int .u64 0, .int .i64 2]) ∧ Ch (fun _ => False) w w' := by
  have hmf : ∀ (fn : Fn) (first cap : Array Value) (w : World), (Instr.makeFunc fn first cap).run Try.prog w = .ok (.func fn first cap) w := fun _ _ _ _ => rfl
  go_enter_defers Try.func10, Try.ntmps10
  go_wp2_with fail
  simp [bodyPostD, Leaves, results, Try.results10, go_sem]
  exact ((((Ch.refl _ w).alloc _).alloc _).alloc _).alloc _

theorem read_bad (kd K R : Nat) (w : World) (hk : kd < 256) (hK : K < 18446744073709551616) (h : may kd K = false) :
    Calls Try.prog 10 #[.pointer (some ⟨R, 0, none⟩), .agg #[.int .u8 kd, .int .u64 K]] w fun e w' => e = .returned (.tuple #[.int .u64 0, .int .i64 1]) ∧ Ch (fun _ => False) w w' := by
  have hmf : ∀ (fn : Fn) (first cap : Array Value) (w : World), (Instr.makeFunc fn first cap).run Try.prog w = .ok (.func fn first cap) w := fun _ _ _ _ => rfl
  have HC := Lib.hid fun W : World => check_any kd K W hk hK
  rw [show ck kd K = 1 from by unfold ck; rw [if_neg (by rw [h]; simp)]] at HC
  clear hk hK h
  go_enter_defers Try.func10, Try.ntmps10
  go_wp2_with (go_at_call 26; refine (HC.out _).mono ?_; rintro e w' ⟨rfl, rfl⟩)
  simp [bodyPostD, Leaves, results, Try.results10, go_sem]
  first
    | exact (((((Ch.refl _ w).alloc _).alloc _).alloc _).alloc _).alloc _
    | exact ((((((Ch.refl _ w).alloc _).alloc _).alloc _).alloc _).alloc _).setCell (.inr (by simp; omega)) _

theorem own_any (kd K : Nat) (w : World) :
    Calls Try.prog 11 #[.agg #[.int .u8 kd, .int .u64 K]] w fun e w' => e = .returned (.agg #[.int .u8 kd, .int .u64 K]) ∧ Ch (fun _ => False) w w' := by
  go_enter Try.func11, Try.ntmps11
  go_wp2_with fail
  simp [bodyPost, results, Try.results11, go_sem]
  exact ((Ch.refl _ w).alloc _).alloc _

theorem gam7 : gam 7 = [false, false, false, true, false, false, false] := by decide
theorem awake2_text {L : List UInt8} (h : Packs L ([] ++ cbits 1 0 7)) : L = [16] :=
  h.unique ⟨1, by omega, by decide⟩

theorem awake2_any (w : World) : Calls Try.prog 14 #[] w fun e w' => e = .returned (.bool true) ∧ Ch (fun _ => False) w w' := by
  go_enter Try.func14, Try.ntmps14
  go_wp2_with (go_at_call 19; refine (new_any _).mono ?_; rintro e w' ⟨rfl, rfl⟩)
  have HW := Lib.hid (Wr.new w)
  have HC := Lib.hid ((Ch.refl (fun _ => False) w).alloc (.cells #[.slice none 0 0, .int .i64 0] 73))
  have HN : Hid (∀ g, g = w.heap.size → False ∨ w.heap.size ≤ g) := Lib.hid fun g hg => .inr (by omega)
  generalize w.alloc (.cells #[.slice none 0 0, .int .i64 0] 73) = w1 at HW HC ⊢
  refine (cput_ok 1 0 7 _ _ _ _ _ _ HW.out (by omega) (by omega) (by decide) (by decide)).mono ?_
  rintro e w3 ⟨rfl, F3, v3, L3, hW3, hC3, hF3⟩
  have HW3 := Lib.hid hW3
  have HC3 := Lib.hid (HC.out.trans hC3 HN.out)
  clear hW3 hC3 hF3 HW HC HN
  go_wp2_with fail
  refine (wtext_any HW3.out).mono ?_
  rintro e w4 ⟨rfl, rfl⟩
  have hL := awake2_text HW3.out.packs
  subst hL
  clear HW3
  go_wp2_with fail
  refine (open_any _ _ (by decide)).mono ?_
  rintro e w5 ⟨rfl, hR, hC5⟩
  have HR := Lib.hid hR
  have HC5 := Lib.hid (HC3.out.trans hC5 fun g h => h.elim)
  have HN5 : Hid (∀ g, (g = w3.heap.size ∨ g = w3.heap.size + 1) → False ∨ w.heap.size ≤ g) := Lib.hid fun g hg => by have := HC3.out.size; right; omega
  clear hR hC5 HC3
  go_wp2_with fail
  refine (read_any HR.out 1 0 (by decide)).mono ?_
  intro e w6 hT
  obtain ⟨he, _, hC6⟩ := hT.of (by decide) 7 (by decide) ⟨[false], by decide⟩
  subst he
  have HC6 := Lib.hid (HC5.out.trans hC6 HN5.out)
  clear hT hC6 HC5 HN5 HR
  go_wp2_with fail
  go_ret
  exact ⟨rfl, HC6.out⟩
end Go.Proofs.Ytgcediipkojdbaa.bits
