/-
  Layer 2: a function value that takes pieces of bits; the contracts of spellUnary, spellGamma, spellMinimal.
-/
import Derived.Test.YtgcediipkojdbaaCodeB
import Derived.Outline
namespace Go.Proofs.Ytgcediipkojdbaa.bits
open Go.ChangeShapes Go.WideShapes Go.ChangeAt Go.RowKit
set_option linter.unusedVariables false

/-- the function k, over one captured variable P, takes pieces: what holds of the bits so far, in the blocks F, holds of them with the piece's -/
structure SayK (k : FuncId) (P : Nat) (M : Nat) (Inv : World → (Nat → Prop) → List Bool → Prop) : Prop where
  call : ∀ (w : World) (F : Nat → Prop) (bs : List Bool) (v n : Nat), Inv w F bs → n ≤ 64 → v < 2 ^ n → bs.length + n ≤ M →
    Calls Try.prog k #[.int .u64 v, .int .i64 n, .pointer (some ⟨P, 0, none⟩)] w fun e w' => e = .returned (.tuple #[]) ∧ ∃ F', Inv w' F' (bs ++ ofNum v n) ∧ Ch F w w' ∧ ∀ g, F' g → F g ∨ w.heap.size ≤ g
  kept : ∀ (w w' : World) (F : Nat → Prop) (bs : List Bool), Inv w F bs → Ch (fun _ => False) w w' → Inv w' F bs
  live : ∀ (w : World) (F : Nat → Prop) (bs : List Bool), Inv w F bs → ∀ g, F g → g < w.heap.size
  which : k = 38 ∨ k = 41

def Grew (Inv : World → (Nat → Prop) → List Bool → Prop) (w : World) (F : Nat → Prop) (bs : List Bool) (w' : World) : Prop :=
  ∃ F', Inv w' F' bs ∧ Ch F w w' ∧ ∀ g, F' g → F g ∨ w.heap.size ≤ g

section
variable {Inv : World → (Nat → Prop) → List Bool → Prop} {w wr : World} {F : Nat → Prop} {bs : List Bool} {k : FuncId} {P M : Nat}

theorem Grew.same (h : Inv w F bs) : Grew Inv w F bs w := ⟨F, h, Ch.refl F w, fun g h => .inl h⟩

/-- one piece more -/
theorem grew_call (S : SayK k P M Inv) (h : Grew Inv w F bs wr) (v n : Nat) (hn : n ≤ 64) (hv : v < 2 ^ n) (hm : bs.length + n ≤ M) :
    Calls Try.prog k #[.int .u64 v, .int .i64 n, .pointer (some ⟨P, 0, none⟩)] wr fun e w' => e = .returned (.tuple #[]) ∧ Grew Inv w F (bs ++ ofNum v n) w' := by
  obtain ⟨F1, h1, hc, hf⟩ := h
  refine (S.call wr F1 bs v n h1 hn hv hm).mono ?_
  rintro e w' ⟨he, F2, h2, hc2, hf2⟩
  refine ⟨he, F2, h2, hc.trans hc2 hf, fun g hg => ?_⟩
  have := hc.size
  rcases hf2 g hg with a | a
  · exact hf g a
  · exact .inr (by omega)

theorem Grew.keep (S : SayK k P M Inv) (h : Grew Inv w F bs wr) {wq : World} (hc : Ch (fun _ => False) wr wq) : Grew Inv w F bs wq := by
  obtain ⟨F1, h1, hc1, hf⟩ := h
  exact ⟨F1, S.kept _ _ _ _ h1 hc, hc1.trans hc fun _ h => h.elim, hf⟩

/-- a variable of the callee's own stays as it is under the pieces -/
theorem Grew.guest (S : SayK k P M Inv) (h : Grew Inv w F bs wr) (o : Obj) :
    ∃ F1, Grew Inv (wr.alloc o) F1 bs (wr.alloc o) ∧ ∀ wq bs', Grew Inv (wr.alloc o) F1 bs' wq → Grew Inv w F bs' wq ∧ wq.heap[wr.heap.size]? = (wr.alloc o).heap[wr.heap.size]? := by
  obtain ⟨F1, h1, hc1, hf⟩ := h
  have ha := (Ch.refl (fun _ => False) wr).alloc o
  refine ⟨F1, Grew.same (S.kept _ _ _ _ h1 ha), ?_⟩
  rintro wq bs' ⟨F2, h2, hc2, hf2⟩
  have hs := hc1.size
  refine ⟨⟨F2, h2, (hc1.trans ha fun _ h => h.elim).trans hc2 hf, fun g hg => ?_⟩, hc2.block _ (by simp) fun c => absurd (S.live _ _ _ h1 _ c) (by omega)⟩
  rcases hf2 g hg with a | a
  · exact hf g a
  · simp at a; exact .inr (by omega)

theorem ofNum_one (r : Nat) : ofNum 1 (r + 1) = unary r := by
  rw [ofNum_append 1 r 1, show 1 / 2 ^ 1 = 0 from rfl, ofNum_zero]
  rfl

theorem zeros_more (bs : List Bool) (m : Nat) : bs ++ List.replicate m false ++ ofNum 0 64 = bs ++ List.replicate (m + 64) false := by
  rw [ofNum_zero, List.append_assoc, List.replicate_append_replicate]
theorem zeros_end (bs : List Bool) (m r v : Nat) (h : m + r = v) : bs ++ List.replicate m false ++ ofNum 1 (r + 1) = bs ++ unary v := by
  rw [ofNum_one, List.append_assoc]
  subst h
  unfold unary
  rw [← List.replicate_append_replicate]
  simp only [List.append_assoc]
theorem zeros_len (bs : List Bool) (m : Nat) : (bs ++ List.replicate m false).length = bs.length + m := by simp

theorem spellUnary_any (S : SayK k P M Inv) (h : Grew Inv w F bs wr) (v : Nat) (hv : v ≤ 65535) (hm : bs.length + (v + 1) ≤ M) :
    Calls Try.prog 50 #[.int .u64 v, .func (Fn.func k) #[] #[.pointer (some ⟨P, 0, none⟩)]] wr fun e w' => e = .returned (.tuple #[]) ∧ Grew Inv w F (bs ++ unary v) w' := by
  rcases S.which with rfl | rfl
  all_goals
    have HS := Lib.hid S
    have HG := Lib.hid h
    have HM := Lib.hid hm
    clear h hm S
    go_enter Try.func50, Try.ntmps50
    go_wp2_with fail
    go_loopw [0] (fun x wq => ∃ m r : Nat, m + r = v ∧ x = .int .u64 ↑r ∧ Grew Inv w F (bs ++ List.replicate m false) wq) (fun x _ => (intOf x).toNat)
    case atStart => exact ⟨0, v, by omega, rfl, by simpa using HG.out⟩
    case round =>
      obtain ⟨m, r, hmr, rfl, hQ⟩ := hrel
      have HQ := Lib.hid hQ
      have HMR := Lib.hid hmr
      have hr : r ≤ 65535 := by omega
      clear hQ hmr HG
      by_cases c : 64 ≤ r
      · go_wp2_with fail
        refine (grew_call HS.out HQ.out 0 64 (by omega) (by decide) (by have := HM.out; have := HMR.out; rw [zeros_len]; omega)).mono ?_
        rintro e w2 ⟨rfl, hq⟩
        have HQ2 := Lib.hid hq
        clear hq
        have e1 : IntKind.u64.wrap ((r : Int) - 64) = ((r - 64 : Nat) : Int) := by rw [PlainAid.u64_nonneg (by omega) (by omega)]; omega
        go_wp2_with fail
        go_roundw
        case rel => exact ⟨m + 64, r - 64, by have := HMR.out; omega, rfl, by rw [← zeros_more]; exact HQ2.out⟩
        case measure => simp [intOf] <;> omega
      · go_wp2_with fail
        have := grew_call HS.out HQ.out 1 (r + 1) (by omega) (Nat.one_lt_two_pow (by omega)) (by have := HM.out; have := HMR.out; rw [zeros_len]; omega)
        rw [zeros_end bs m r v HMR.out] at this
        refine this.mono ?_
        rintro e w2 ⟨rfl, hq⟩
        have HQ2 := Lib.hid hq
        clear hq
        go_wp2_with fail
        go_end0
        exact ⟨rfl, HQ2.out⟩
end
end Go.Proofs.Ytgcediipkojdbaa.bits
