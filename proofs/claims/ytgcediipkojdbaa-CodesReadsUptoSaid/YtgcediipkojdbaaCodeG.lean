/-
  Layer 2: the contract of spell for each code; the function values of Len and Put; the contracts of Len and Put.
-/
import Derived.Test.YtgcediipkojdbaaCodeF
import Derived.Outline
namespace Go.Proofs.Ytgcediipkojdbaa.bits
open Go.ChangeShapes Go.WideShapes Go.ChangeAt Go.RowKit
set_option linter.unusedVariables false

section
variable {Inv : World → (Nat → Prop) → List Bool → Prop} {w wr : World} {F : Nat → Prop} {bs : List Bool} {k : FuncId} {P M : Nat}

theorem spell_any (S : SayK k P M Inv) (h : Grew Inv w F bs wr) (kd K v : Nat) (hm : may kd K = true) (hv : v ≤ most kd K) (hM : bs.length + (cbits kd K v).length ≤ M) :
    Calls Try.prog 37 #[.agg #[.int .u8 kd, .int .u64 K], .int .u64 v, .func (Fn.func k) #[] #[.pointer (some ⟨P, 0, none⟩)]] wr fun e w' => e = .returned (.tuple #[]) ∧ Grew Inv w F (bs ++ cbits kd K v) w' := by
  have hm := may_of hm
  unfold most at hv
  unfold cbits at hM
  unfold cbits
  by_cases k0 : kd = 0
  · subst k0
    obtain rfl : K = 0 := by omega
    rw [if_pos rfl] at hv
    rw [if_pos rfl, length_unary] at hM
    rw [if_pos rfl]
    exact spell_any0 S h v hv hM
  rw [if_neg k0] at hM hv
  rw [if_neg k0]
  by_cases k1 : kd = 1
  · subst k1
    obtain rfl : K = 0 := by omega
    rw [if_pos rfl] at hM
    rw [if_pos rfl]
    exact spell_any1 S h v hv hM
  rw [if_neg k1] at hM
  rw [if_neg k1]
  by_cases k2 : kd = 2
  · subst k2
    obtain rfl : K = 0 := by omega
    rw [if_pos rfl] at hM
    rw [if_pos rfl]
    exact spell_any2 S h v hv hM
  rw [if_neg k2] at hM
  rw [if_neg k2]
  by_cases k3 : kd = 3
  · subst k3
    rw [if_pos rfl] at hM
    rw [if_pos rfl]
    exact spell_any3 S h v K hv (by omega) (by omega) hM
  rw [if_neg k3] at hM
  rw [if_neg k3]
  obtain rfl : kd = 4 := by omega
  rw [if_pos rfl] at hv
  exact spell_any4 S h v K (by omega) (by omega) hM
end

theorem cbits_len {kd K v : Nat} (hm : may kd K = true) (hv : v ≤ most kd K) : (cbits kd K v).length ≤ 65536 := by
  have hm := may_of hm
  unfold most at hv
  unfold cbits
  by_cases k0 : kd = 0
  · rw [if_pos k0] at hv ⊢
    rw [length_unary]; omega
  rw [if_neg k0] at hv ⊢
  have big : ∀ x, x ≤ 281474976710654 → (x + 1).log2 ≤ 47 := fun x hx => by have := log2_le (v := x) (n := 48) (by omega); omega
  by_cases k1 : kd = 1
  · subst k1
    rw [if_pos rfl, length_gam]
    have := big v hv
    omega
  rw [if_neg k1]
  by_cases k2 : kd = 2
  · subst k2
    rw [if_pos rfl, length_del]
    have := big v hv
    have := big (v + 1).log2 (by omega)
    omega
  rw [if_neg k2]
  by_cases k3 : kd = 3
  · subst k3
    rw [if_pos rfl, length_zet]
    obtain ⟨b1, b2, b3, b4⟩ := zet_bounds (K := K) hv (by omega) (by omega)
    have := mini_len_hi (v + 1 - 2 ^ ((v + 1).log2 / K * K)) (zcount ((v + 1).log2 / K) K)
    have z := (zcount_pos (h := (v + 1).log2 / K) (K := K) (by omega)).2
    have p : 2 ^ (((v + 1).log2 / K + 1) * K) ≤ 2 ^ 63 := Nat.pow_le_pow_right (by omega) b1
    have : wid (zcount ((v + 1).log2 / K) K) ≤ 63 := wid_le (n := 63) (by have := Nat.two_pow_pos ((v + 1).log2 / K * K); omega)
    omega
  rw [if_neg k3]
  obtain rfl : kd = 4 := by omega
  have := mini_len_hi v K
  have : wid K ≤ 48 := wid_le (n := 48) (by omega)
  omega

/-- the bits that are counted -/
def InvL (P : Nat) (w : World) (F : Nat → Prop) (bs : List Bool) : Prop :=
  w.heap[P]? = some (.cells #[.int .i64 (bs.length : Int)] 3 (0, 0)) ∧ F = fun g => g = P

theorem len1_say (P M : Nat) (hM : M ≤ 4611686018427387904) : SayK 41 P M (InvL P) where
  call := by
    rintro w F bs v n ⟨hB, rfl⟩ hn hv hm
    have hc := cell_of_one hB
    have hf : w.frozen? ⟨P, 0, none⟩ = false := by simp [World.frozen?, hB]
    have HE : Hid (InvL P (w.setCell ⟨P, 0, none⟩ (.int .i64 ((bs.length : Int) + (n : Int)))) (fun g => g = P) (bs ++ ofNum v n)) := Lib.hid ⟨by
      rw [block_set hB, List.length_append, length_ofNum]
      simp, rfl⟩
    have HC := Lib.hid ((Ch.refl (fun g => g = P) w).setCell (p := ⟨P, 0, none⟩) (.inl rfl) (.int .i64 ((bs.length : Int) + (n : Int))))
    obtain ⟨ln, hln⟩ : ∃ ln, ln = bs.length := ⟨_, rfl⟩
    rw [← hln] at hc HE HC hm
    have hl : (ln : Int) ≤ 4611686018427387904 := by omega
    have hni : (n : Int) ≤ 64 := by omega
    clear hln hB hm hv hM
    go_enter Try.func41, Try.ntmps41
    go_wp2_with fail
    go_end0
    exact ⟨rfl, _, HE.out, HC.out, fun g h => .inl h⟩
  kept := by
    rintro w w' F bs ⟨hB, rfl⟩ hc
    exact ⟨by rw [hc.block P (lt_of_block hB) (fun h => h)]; exact hB, rfl⟩
  live := by
    rintro w F bs ⟨hB, rfl⟩ g rfl
    exact lt_of_block hB
  which := .inr rfl

/-- the bits that are put behind b0 in the writer B, whose place the variable P holds -/
def InvP (P B : Nat) (b0 : List Bool) (w : World) (F : Nat → Prop) (bs : List Bool) : Prop :=
  (∃ sv L, Wr w B F (b0 ++ bs) sv L) ∧ w.heap[P]? = some (.cells #[.pointer (some ⟨B, 0, none⟩)] 46 (0, 0)) ∧ ¬ F P

theorem put1_say (P B : Nat) (b0 : List Bool) (M : Nat) (hM : b0.length + M ≤ 134217728) : SayK 38 P M (InvP P B b0) where
  call := by
    rintro w F bs v n ⟨⟨sv, L, hW⟩, hB, hP⟩ hn hv hm
    have hc := cell_of_one hB
    have HP := Lib.hid (wput_ok v n B F (b0 ++ bs) sv L w hW hn hv (by rw [List.length_append]; omega))
    have HF : Hid (∀ w', (∃ F' sv' L', Wr w' B F' (b0 ++ bs ++ ofNum v n) sv' L' ∧ Ch F w w' ∧ ∀ g, F' g → F g ∨ w.heap.size ≤ g) → ∃ F', InvP P B b0 w' F' (bs ++ ofNum v n) ∧ Ch F w w' ∧ ∀ g, F' g → F g ∨ w.heap.size ≤ g) := Lib.hid (by
      rintro w' ⟨F', sv', L', h1, h2, h3⟩
      refine ⟨F', ⟨⟨sv', L', by rw [← List.append_assoc]; exact h1⟩, by rw [h2.block P (lt_of_block hB) hP]; exact hB, fun c => ?_⟩, h2, h3⟩
      rcases h3 P c with d | d
      · exact hP d
      · have := lt_of_block hB; omega)
    clear hW hB hP hM hm hv
    go_enter Try.func38, Try.ntmps38
    go_wp2_with (go_at_call 39; refine HP.out.mono ?_; rintro e w' ⟨rfl, hq⟩; have HQ := Lib.hid hq; clear hq)
    go_end0
    exact ⟨rfl, HF.out _ HQ.out⟩
  kept := by
    rintro w w' F bs ⟨⟨sv, L, hW⟩, hB, hP⟩ hc
    exact ⟨⟨sv, L, hW.kept hc fun _ _ h => h⟩, by rw [hc.block P (lt_of_block hB) (fun h => h)]; exact hB, hP⟩
  live := by
    rintro w F bs ⟨⟨sv, L, hW⟩, hB, hP⟩ g hg
    exact hW.live g hg
  which := .inl rfl

theorem fits2_of {kd K v : Nat} (h : fits2 kd K v = true) : may kd K = true ∧ v ≤ most kd K := by
  unfold fits2 at h
  rw [Bool.and_eq_true, decide_eq_true_eq] at h
  exact h

theorem code_kept {w wq : World} {kd K : Int} {o : Obj} (h : Ch (fun _ => False) ((w.alloc (.cells #[.int .u8 kd, .int .u64 K] 35)).alloc o) wq) :
    wq.heap[w.heap.size]? = some (.cells #[.int .u8 kd, .int .u64 K] 35 (0, 0)) := by
  rw [h.block _ (by simp; omega) (fun h => h), Below.heap_alloc _ _ _ (by simp)]
  exact code_block w kd K

theorem len_ok (kd K v : Nat) (w : World) (hk : kd < 256) (hK : K < 18446744073709551616) (h : fits2 kd K v = true) :
    Calls Try.prog 22 #[.agg #[.int .u8 kd, .int .u64 K], .int .u64 v] w fun e w' => e = .returned (.tuple #[.int .i64 ((cbits kd K v).length : Int), .int .i64 0]) ∧ Ch (fun _ => False) w w' := by
  obtain ⟨hm, hv⟩ := fits2_of h
  have HC := Lib.hid fun W : World => check_any kd K W hk hK
  have HMo := Lib.hid fun W : World => most_any kd K W hk hK
  have hck : ck kd K = 0 := by unfold ck; rw [if_pos hm]
  have hms : mst kd K = most kd K := by unfold mst; rw [if_pos hm]
  rw [hck] at HC
  rw [hms] at HMo
  have hl := cbits_len hm hv
  have HSP := Lib.hid fun (W : World) => spell_any (wr := W.alloc (.cells #[.int .i64 0] 3)) (bs := []) (len1_say W.heap.size 65536 (by omega)) (Grew.same ⟨by rw [heap_alloc_new]; rfl, rfl⟩) kd K v hm hv (by simpa using hl)
  have hvi : (v : Int) ≤ ((most kd K : Nat) : Int) := by omega
  generalize most kd K = mo at HMo hvi
  clear hm hv hck hms h hK hk
  have HE : Hid (∀ W W2 : World, Ch (fun _ => False) w W → Grew (InvL W.heap.size) (W.alloc (.cells #[.int .i64 0] 3)) (fun g => g = W.heap.size) ([] ++ cbits kd K v) W2 → W2.cell? ⟨W.heap.size, 0, none⟩ = some (.int .i64 ((cbits kd K v).length : Int)) ∧ Ch (fun _ => False) w W2) := Lib.hid (by
    rintro W W2 hc ⟨F2, ⟨hB, rfl⟩, hc2, _⟩
    refine ⟨by have := cell_of_one hB; simpa using this, (hc.alloc _).trans hc2 fun g hg => ?_⟩
    have := hc.size
    right; omega)
  go_enter Try.func22, Try.ntmps22
  go_wp2_with (first | (go_at_call 26; refine (HC.out _).mono ?_; rintro e w' ⟨rfl, rfl⟩) | (go_at_call 40; refine (HMo.out _).mono ?_; rintro e w2 ⟨rfl, hq⟩; have HQ := Lib.hid hq; have hcA := two_cell0 (code_kept hq); have hcB := two_cell1 (code_kept hq); have hcC := two_cell0 (code_kept (hq.alloc (.cells #[.int .i64 0] 3))); have hcD := two_cell1 (code_kept (hq.alloc (.cells #[.int .i64 0] 3))); clear hq))
  refine (HSP.out _).mono ?_
  rintro e w3 ⟨rfl, hq⟩
  obtain ⟨hcT, hCT⟩ := HE.out _ _ ((((Ch.refl _ w).alloc _).alloc _).trans HQ.out fun _ h => h.elim) hq
  have HCT := Lib.hid hCT
  clear hCT hq
  go_wp2_with fail
  go_ret2
  exact ⟨rfl, HCT.out⟩

theorem len_bad (kd K v : Nat) (w : World) (hk : kd < 256) (hK : K < 18446744073709551616) (h : fits2 kd K v = false) :
    Calls Try.prog 22 #[.agg #[.int .u8 kd, .int .u64 K], .int .u64 v] w fun e w' => e = .returned (.tuple #[.int .i64 0, .int .i64 1]) ∧ Ch (fun _ => False) w w' := by
  have HC := Lib.hid fun W : World => check_any kd K W hk hK
  have HMo := Lib.hid fun W : World => most_any kd K W hk hK
  by_cases hm : may kd K = true
  · have hck : ck kd K = 0 := by unfold ck; rw [if_pos hm]
    have hms : mst kd K = most kd K := by unfold mst; rw [if_pos hm]
    rw [hck] at HC
    rw [hms] at HMo
    have hvi : ((most kd K : Nat) : Int) < (v : Int) := by
      unfold fits2 at h
      rw [hm, Bool.true_and, decide_eq_false_iff_not] at h
      omega
    generalize most kd K = mo at HMo hvi
    clear hm hck hms h hK hk
    go_enter Try.func22, Try.ntmps22
    go_wp2_with (first | (go_at_call 26; refine (HC.out _).mono ?_; rintro e w' ⟨rfl, rfl⟩) | (go_at_call 40; refine (HMo.out _).mono ?_; rintro e w2 ⟨rfl, hq⟩; have HQ := Lib.hid ((((Ch.refl (fun _ => False) w).alloc _).alloc _).trans hq fun _ h => h.elim); clear hq))
    go_ret2
    exact ⟨rfl, HQ.out⟩
  · have hck : ck kd K = 1 := by unfold ck; rw [if_neg hm]
    rw [hck] at HC
    have HCH := Lib.hid fun (o o2 : Obj) => ((Ch.refl (fun _ => False) w).alloc o).alloc o2
    clear hm hck h hK hk
    go_enter Try.func22, Try.ntmps22
    go_wp2_with (go_at_call 26; refine (HC.out _).mono ?_; rintro e w' ⟨rfl, rfl⟩)
    go_ret2
    exact ⟨rfl, HCH.out _ _⟩
end Go.Proofs.Ytgcediipkojdbaa.bits
