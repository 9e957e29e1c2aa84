/-
  Layer 2: the contract of spell, Zeta.
-/
import Derived.Test.YtgcediipkojdbaaCodeE
import Derived.Deep.RegionHeld3
import Derived.Outline
namespace Go.Proofs.Ytgcediipkojdbaa.bits
open Go.ChangeShapes Go.WideShapes Go.ChangeAt Go.RowKit
set_option linter.unusedVariables false

section
variable {Inv : World → (Nat → Prop) → List Bool → Prop} {w wr : World} {F : Nat → Prop} {bs : List Bool} {k : FuncId} {P M : Nat}

theorem quiet_same {P : Program} {f : FuncId} {args : Array Value} {w : World} {v : Value} (h : ∀ W : World, Calls P f args W fun e w' => e = .returned v ∧ W = w') (n : Nat) :
    Calls P f args (w.drewN n) fun e w'' => e = .returned v ∧ ∃ m, w'' = w.drewN m :=
  (h (w.drewN n)).mono fun _ _ ⟨he, hm⟩ => ⟨he, n, hm.symm⟩

theorem zet_bounds {v K : Nat} (hv : v ≤ 281474976710654) (h1 : 1 ≤ K) (h2 : K ≤ 16) : ((v + 1).log2 / K + 1) * K ≤ 63 ∧ (v + 1).log2 / K ≤ 47 ∧ (v + 1).log2 ≤ 47 ∧ (v + 1).log2 / K * K ≤ 47 := by
  have hb := log2_le (v := v) (n := 48) (by omega)
  have hd : (v + 1).log2 / K * K ≤ (v + 1).log2 := Nat.div_mul_le_self _ _
  have hd2 : (v + 1).log2 / K ≤ (v + 1).log2 := Nat.div_le_self _ _
  rw [Nat.add_mul]
  omega

set_option maxHeartbeats 1000000 in
theorem spell_any3 (S : SayK k P M Inv) (h : Grew Inv w F bs wr) (v K : Nat) (hv : v ≤ 281474976710654) (h1 : 1 ≤ K) (h2 : K ≤ 16) (hM : bs.length + (zet K v).length ≤ M) :
    Calls Try.prog 37 #[.agg #[.int .u8 3, .int .u64 K], .int .u64 v, .func (Fn.func k) #[] #[.pointer (some ⟨P, 0, none⟩)]] wr fun e w' => e = .returned (.tuple #[]) ∧ Grew Inv w F (bs ++ zet K v) w' := by
  obtain ⟨F1, hg, hback⟩ := h.guest S (.cells #[.int .u8 3, .int .u64 K] 35)
  have HB := Lib.hid hback
  have HL := Lib.hid fun W : World => log_any (v + 1) W (by omega) (by omega)
  obtain ⟨b1, b2, b3, b4⟩ := zet_bounds hv h1 h2
  have hz := (zparts (v := v) h1).1
  rw [length_zet] at hM
  have e9 : bs ++ zet K v = bs ++ unary ((v + 1).log2 / K) ++ mini (v + 1 - 2 ^ ((v + 1).log2 / K * K)) (zcount ((v + 1).log2 / K) K) := by unfold zet; rw [List.append_assoc]
  rw [e9]
  clear e9
  have hlo : 2 ^ ((v + 1).log2 / K * K) ≤ v + 1 := Nat.le_trans (Nat.pow_le_pow_right (by omega) (Nat.div_mul_le_self _ _)) (log2_lo v)
  obtain ⟨b, hb2⟩ : ∃ b, b = (v + 1).log2 := ⟨_, rfl⟩
  rw [← hb2] at HL b1 b2 b3 b4 hz hM hlo ⊢
  obtain ⟨d, hd⟩ : ∃ d, d = b / K := ⟨_, rfl⟩
  rw [← hd] at b1 b2 b4 hz hM hlo ⊢
  have HU := Lib.hid fun q => spellUnary_any S (hg.keep S (drewN_none _ q)) d (by omega) (by omega)
  have HZ := Lib.hid fun W : World => zcount_any d K W h1 b1
  have hzp := (zcount_pos (h := d) h1).2
  have hpp := Nat.two_pow_pos (d * K)
  have hp63 : 2 ^ ((d + 1) * K) ≤ 2 ^ 63 := Nat.pow_le_pow_right (by omega) b1
  obtain ⟨x, hx⟩ : ∃ x, x = v + 1 - 2 ^ (d * K) := ⟨_, rfl⟩
  obtain ⟨c, hc⟩ : ∃ c, c = zcount d K := ⟨_, rfl⟩
  rw [← hc] at HZ hz hM hzp ⊢
  rw [← hx] at hz hM ⊢
  have HN := Lib.hid fun (wq : World) (hq : Grew Inv (wr.alloc (.cells #[.int .u8 3, .int .u64 K] 35)) F1 (bs ++ unary d) wq) =>
    spellMinimal_any S hq x c hz (by omega) (by rw [List.length_append, length_unary]; omega)
  have HS := Lib.hid S
  have e0 : IntKind.u64.wrap ((v : Int) + 1) = (v : Int) + 1 := by rw [PlainAid.u64_nonneg (by omega) (by omega)]
  have e3 : (b : Int) / (K : Int) = (d : Int) := by rw [hd]; simp
  obtain ⟨m, hm⟩ : ∃ m, m = d * K := ⟨_, rfl⟩
  rw [← hm] at b4 hlo hx
  have e4 : IntKind.u64.wrap ((d : Int) * (K : Int)) = (m : Int) := by
    rw [show (d : Int) * (K : Int) = (m : Int) from by rw [hm]; simp]
    exact u64_nat (by omega)
  have e1 := pow_wrap (n := m) (by omega)
  obtain ⟨A, hA⟩ : ∃ A, A = 2 ^ m := ⟨_, rfl⟩
  have e2 : IntKind.u64.wrap ((v : Int) + 1 - (A : Int)) = (x : Int) := by
    rw [show (v : Int) + 1 = ((v + 1 : Nat) : Int) from by simp, u64_sub (by omega) (by omega)]; omega
  rw [← hA] at e1
  have t0 : ((K : Int) == 0) = false := by rw [beq_eq_false_iff_ne]; omega
  have k0 : ¬ (K : Int) = 0 := by omega
  have k1 : (1 : Int) ≤ K := by omega
  have k2 : (K : Int) ≤ 16 := by omega
  have hvi : (v : Int) ≤ 281474976710654 := by omega
  clear hlo hz hM hb2 h hv hA hx hc hzp hp63 hpp hd hm hg hback b1 h1 h2
  rcases S.which with rfl | rfl
  all_goals
    clear S
    go_enter Try.func37, Try.ntmps37
    go_wp2_with fail
    go_quiet ((go_at_call 52; exact quiet_same HL.out _))
    go_wp2_with (go_at_call 50; refine (HU.out _).mono ?_; rintro e w2 ⟨rfl, hq⟩; have HQ := Lib.hid hq; clear hq)
    have hcK := two_cell1 ((HB.out _ _ HQ.out).2.trans (code_block wr 3 K))
    go_region_held3 (fun w' => w'.cell? ⟨wr.heap.size, 1, none⟩ = some (.int .u64 K))
      (first | exact hcK | exact two_cell1 ((HB.out _ _ HQ2.out).2.trans (code_block wr 3 K)))
      ((first
        | (go_at_call 45; refine (HZ.out _).mono ?_; rintro e w' ⟨rfl, rfl⟩)
        | (go_at_call 53; refine (HN.out _ (HQ.out.keep HS.out ((Ch.refl _ _).drew))).mono ?_; rintro e w3 ⟨rfl, hq⟩; have HQ2 := Lib.hid hq; clear hq)
        | (go_at_call 53; refine (HN.out _ HQ.out).mono ?_; rintro e w3 ⟨rfl, hq⟩; have HQ2 := Lib.hid hq; clear hq)))
    go_wp2_with fail
    go_end0
    exact ⟨rfl, (HB.out _ _ HQ2.out).1⟩
end
end Go.Proofs.Ytgcediipkojdbaa.bits
