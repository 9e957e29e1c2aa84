/-
  Layer 2: the contract of Read, of each code.
-/
import Derived.Test.YtgcediipkojdbaaCodeM
import Derived.Defers
import Derived.Outline
namespace Go.Proofs.Ytgcediipkojdbaa.bits
open Go.ChangeShapes Go.WideShapes Go.ChangeAt Go.RowKit
set_option linter.unusedVariables false




theorem read_unary {w : World} {R T : Nat} {F : Nat → Prop} {s : ByteArray} {p : Nat} (h : Rd w R T F s p) :
    Calls Try.prog 10 #[.pointer (some ⟨R, 0, none⟩), .agg #[.int .u8 0, .int .u64 0]] w (Told w R T F s p unary 65535) := by
  have hmf : ∀ (fn : Fn) (first cap : Array Value) (w : World), (Instr.makeFunc fn first cap).run Try.prog w = .ok (.func fn first cap) w := fun _ _ _ _ => rfl
  have HC := Lib.hid fun W : World => check_any 0 0 W (by omega) (by omega)
  have HA := Lib.hid fun (W : World) (hc : Ch (fun _ => False) w W) => at_any (h.kept hc fun _ _ h => h)
  have HU := Lib.hid fun (W : World) (hc : Ch (fun _ => False) w W) => readUnary_any (h.kept hc fun _ _ h => h) 65535 (by omega)
  rw [show ck 0 0 = 0 from rfl] at HC
  have HR := Lib.hid h
  clear h
  go_enter_defers Try.func10, Try.ntmps10
  go_wp2_with (go_at_call 26; refine (HC.out _).mono ?_; rintro e w' ⟨rfl, rfl⟩)
  obtain ⟨w5, h5⟩ : ∃ w5, w5 = ((((w.alloc (.cells #[.pointer (some ⟨R, 0, none⟩)] 23)).alloc (.cells #[.int .u8 0, .int .u64 0] 35)).alloc (.cells #[.int .u64 0] 30)).alloc (.cells #[.int .i64 0] 31)).alloc (.cells #[.int .u8 0, .int .u64 0] 35) := ⟨_, rfl⟩
  obtain ⟨hch, hsz, hV, hB⟩ := read_start w R 0 0 (p : Int) h5
  rw [← h5]
  clear h5
  refine (HA.out _ hch).mono ?_
  rintro e w' ⟨rfl, rfl⟩
  have hk0 := two_cell0 hB
  have hr0 := cell_of_one (show w5.heap[w.heap.size]? = _ from by have := hV.b2; rw [Below.heap_alloc _ _ _ (by omega)] at this; exact this)
  go_wp2_with fail
  refine (HU.out _ (hch.alloc _)).mono ?_
  rintro e w7 (⟨v, hv, hp, rfl, hR7, hc7⟩ | ⟨hn, x, p', rfl, hR7, hc7⟩)
  · have hnF : ∀ g, w.heap.size ≤ g → ¬ F g := fun g hg c => absurd (HR.out.live g c) (by omega)
    have hV7 := hV.kept hc7 (hnF _ (by omega)) (hnF _ (by omega)) (hnF _ (by omega)) (hnF _ (by omega))
    have hc4 := cell_of_one hV7.b4
    have hc5 := cell_of_one hV7.b5
    have hf4 := one_free hV7.b4
    have hf5 := one_free hV7.b5
    have HV7 := Lib.hid hV7
    have HV := Lib.hid hv
    have HP := Lib.hid hp
    have HR7 := Lib.hid hR7
    have HC7 := Lib.hid ((hch.alloc (.cells #[.int .i64 (p : Int)] 3)).mono (G := F) (fun _ h => h.elim) |>.trans hc7 fun g h => .inl h)
    clear hv hp hR7 hc7 hV7 hV hk0 hr0 hB hch hsz HU HA HC
    go_wp2_with fail
    have hE := read_ok_end HV7.out HR7.out HC7.out hnF (v : Int)
    have HE := Lib.hid hE.2.2
    have hE4 := hE.1
    have hE5 := hE.2.1
    clear hE hc4 hc5 hf4 hf5
    generalize (w7.setCell ⟨w.heap.size + 1 + 1, 0, none⟩ (.int .u64 (v : Int))).setCell ⟨w.heap.size + 1 + 1 + 1, 0, none⟩ (.int .i64 0) = w8 at hE4 hE5 HE ⊢
    refine leaves_cons (f := 28) (args := #[.pointer (some ⟨w.heap.size + 1 + 1 + 1, 0, none⟩), .pointer (some ⟨w.heap.size + 1 + 1, 0, none⟩), .pointer (some ⟨w.heap.size, 0, none⟩), .pointer (some ⟨w.heap.size + 5, 0, none⟩)]) (by simp) (by simp [go_sem]) ?_
    refine (close_ok _ _ _ _ _ _ hE5).mono ?_
    rintro e u' w'' ⟨rfl, rfl, rfl⟩
    simp [Leaves, settle, results, Try.results10, go_sem, hE4, hE5]
    exact .inl ⟨v, HV.out, HP.out, rfl, HE.out.1, HE.out.2⟩
  · have hnF : ∀ g, w.heap.size ≤ g → ¬ F g := fun g hg c => absurd (HR.out.live g c) (by omega)
    have hV7 := hV.kept hc7 (hnF _ (by omega)) (hnF _ (by omega)) (hnF _ (by omega)) (hnF _ (by omega))
    have hc4 := cell_of_one hV7.b4
    have hc5 := cell_of_one hV7.b5
    have hf4 := one_free hV7.b4
    have hf5 := one_free hV7.b5
    have HV7 := Lib.hid hV7
    have HN := Lib.hid hn
    have HR7 := Lib.hid hR7
    have HC7 := Lib.hid ((hch.alloc (.cells #[.int .i64 (p : Int)] 3)).mono (G := F) (fun _ h => h.elim) |>.trans hc7 fun g h => .inl h)
    clear hn hR7 hc7 hV7 hV hk0 hr0 hB hch hsz HU HA HC
    go_wp2_with fail
    have hE := read_bad_end HV7.out HR7.out HC7.out hnF x
    clear hc4 hc5 hf4 hf5
    generalize (w7.setCell ⟨w.heap.size + 1 + 1, 0, none⟩ (.int .u64 x)).setCell ⟨w.heap.size + 1 + 1 + 1, 0, none⟩ (.int .i64 4) = w8 at hE ⊢
    refine leaves_cons (f := 28) (args := #[.pointer (some ⟨w.heap.size + 1 + 1 + 1, 0, none⟩), .pointer (some ⟨w.heap.size + 1 + 1, 0, none⟩), .pointer (some ⟨w.heap.size, 0, none⟩), .pointer (some ⟨w.heap.size + 5, 0, none⟩)]) (by simp) (by simp [go_sem]) ?_
    refine (close_bad _ hE.1 hE.2.1 HR.out.le (by omega) (by omega) (by omega) (hnF _ (by omega)) (hnF _ (by omega)) (hnF _ (by omega)) (hnF _ (by omega))).mono ?_
    rintro e u' w9 ⟨rfl, rfl, hV9, hR9, hC9⟩
    have hE4 := cell_of_one hV9.b4
    have hE5 := cell_of_one hV9.b5
    simp [Leaves, settle, results, Try.results10, go_sem, hE4, hE5]
    exact .inr ⟨HN.out, rfl, hR9, hE.2.2.trans hC9 fun g hg => by rcases hg with a | rfl; exact .inl a; exact .inr (by omega)⟩
theorem read_delta {w : World} {R T : Nat} {F : Nat → Prop} {s : ByteArray} {p : Nat} (h : Rd w R T F s p) :
    Calls Try.prog 10 #[.pointer (some ⟨R, 0, none⟩), .agg #[.int .u8 2, .int .u64 0]] w (Told w R T F s p del 281474976710654) := by
  have hmf : ∀ (fn : Fn) (first cap : Array Value) (w : World), (Instr.makeFunc fn first cap).run Try.prog w = .ok (.func fn first cap) w := fun _ _ _ _ => rfl
  have HC := Lib.hid fun W : World => check_any 2 0 W (by omega) (by omega)
  have HA := Lib.hid fun (W : World) (hc : Ch (fun _ => False) w W) => at_any (h.kept hc fun _ _ h => h)
  have HU := Lib.hid fun (W : World) (hc : Ch (fun _ => False) w W) => readDelta_any (h.kept hc fun _ _ h => h)
  rw [show ck 2 0 = 0 from rfl] at HC
  have HR := Lib.hid h
  clear h
  go_enter_defers Try.func10, Try.ntmps10
  go_wp2_with (go_at_call 26; refine (HC.out _).mono ?_; rintro e w' ⟨rfl, rfl⟩)
  obtain ⟨w5, h5⟩ : ∃ w5, w5 = ((((w.alloc (.cells #[.pointer (some ⟨R, 0, none⟩)] 23)).alloc (.cells #[.int .u8 2, .int .u64 0] 35)).alloc (.cells #[.int .u64 0] 30)).alloc (.cells #[.int .i64 0] 31)).alloc (.cells #[.int .u8 2, .int .u64 0] 35) := ⟨_, rfl⟩
  obtain ⟨hch, hsz, hV, hB⟩ := read_start w R 2 0 (p : Int) h5
  rw [← h5]
  clear h5
  refine (HA.out _ hch).mono ?_
  rintro e w' ⟨rfl, rfl⟩
  have hk0 := two_cell0 hB
  have hr0 := cell_of_one (show w5.heap[w.heap.size]? = _ from by have := hV.b2; rw [Below.heap_alloc _ _ _ (by omega)] at this; exact this)
  go_wp2_with fail
  refine (HU.out _ (hch.alloc _)).mono ?_
  rintro e w7 (⟨v, hv, hp, rfl, hR7, hc7⟩ | ⟨hn, x, p', rfl, hR7, hc7⟩)
  · have hnF : ∀ g, w.heap.size ≤ g → ¬ F g := fun g hg c => absurd (HR.out.live g c) (by omega)
    have hV7 := hV.kept hc7 (hnF _ (by omega)) (hnF _ (by omega)) (hnF _ (by omega)) (hnF _ (by omega))
    have hc4 := cell_of_one hV7.b4
    have hc5 := cell_of_one hV7.b5
    have hf4 := one_free hV7.b4
    have hf5 := one_free hV7.b5
    have HV7 := Lib.hid hV7
    have HV := Lib.hid hv
    have HP := Lib.hid hp
    have HR7 := Lib.hid hR7
    have HC7 := Lib.hid ((hch.alloc (.cells #[.int .i64 (p : Int)] 3)).mono (G := F) (fun _ h => h.elim) |>.trans hc7 fun g h => .inl h)
    clear hv hp hR7 hc7 hV7 hV hk0 hr0 hB hch hsz HU HA HC
    go_wp2_with fail
    have hE := read_ok_end HV7.out HR7.out HC7.out hnF (v : Int)
    have HE := Lib.hid hE.2.2
    have hE4 := hE.1
    have hE5 := hE.2.1
    clear hE hc4 hc5 hf4 hf5
    generalize (w7.setCell ⟨w.heap.size + 1 + 1, 0, none⟩ (.int .u64 (v : Int))).setCell ⟨w.heap.size + 1 + 1 + 1, 0, none⟩ (.int .i64 0) = w8 at hE4 hE5 HE ⊢
    refine leaves_cons (f := 28) (args := #[.pointer (some ⟨w.heap.size + 1 + 1 + 1, 0, none⟩), .pointer (some ⟨w.heap.size + 1 + 1, 0, none⟩), .pointer (some ⟨w.heap.size, 0, none⟩), .pointer (some ⟨w.heap.size + 5, 0, none⟩)]) (by simp) (by simp [go_sem]) ?_
    refine (close_ok _ _ _ _ _ _ hE5).mono ?_
    rintro e u' w'' ⟨rfl, rfl, rfl⟩
    simp [Leaves, settle, results, Try.results10, go_sem, hE4, hE5]
    exact .inl ⟨v, HV.out, HP.out, rfl, HE.out.1, HE.out.2⟩
  · have hnF : ∀ g, w.heap.size ≤ g → ¬ F g := fun g hg c => absurd (HR.out.live g c) (by omega)
    have hV7 := hV.kept hc7 (hnF _ (by omega)) (hnF _ (by omega)) (hnF _ (by omega)) (hnF _ (by omega))
    have hc4 := cell_of_one hV7.b4
    have hc5 := cell_of_one hV7.b5
    have hf4 := one_free hV7.b4
    have hf5 := one_free hV7.b5
    have HV7 := Lib.hid hV7
    have HN := Lib.hid hn
    have HR7 := Lib.hid hR7
    have HC7 := Lib.hid ((hch.alloc (.cells #[.int .i64 (p : Int)] 3)).mono (G := F) (fun _ h => h.elim) |>.trans hc7 fun g h => .inl h)
    clear hn hR7 hc7 hV7 hV hk0 hr0 hB hch hsz HU HA HC
    go_wp2_with fail
    have hE := read_bad_end HV7.out HR7.out HC7.out hnF x
    clear hc4 hc5 hf4 hf5
    generalize (w7.setCell ⟨w.heap.size + 1 + 1, 0, none⟩ (.int .u64 x)).setCell ⟨w.heap.size + 1 + 1 + 1, 0, none⟩ (.int .i64 4) = w8 at hE ⊢
    refine leaves_cons (f := 28) (args := #[.pointer (some ⟨w.heap.size + 1 + 1 + 1, 0, none⟩), .pointer (some ⟨w.heap.size + 1 + 1, 0, none⟩), .pointer (some ⟨w.heap.size, 0, none⟩), .pointer (some ⟨w.heap.size + 5, 0, none⟩)]) (by simp) (by simp [go_sem]) ?_
    refine (close_bad _ hE.1 hE.2.1 HR.out.le (by omega) (by omega) (by omega) (hnF _ (by omega)) (hnF _ (by omega)) (hnF _ (by omega)) (hnF _ (by omega))).mono ?_
    rintro e u' w9 ⟨rfl, rfl, hV9, hR9, hC9⟩
    have hE4 := cell_of_one hV9.b4
    have hE5 := cell_of_one hV9.b5
    simp [Leaves, settle, results, Try.results10, go_sem, hE4, hE5]
    exact .inr ⟨HN.out, rfl, hR9, hE.2.2.trans hC9 fun g hg => by rcases hg with a | rfl; exact .inl a; exact .inr (by omega)⟩
theorem read_zeta {w : World} {R T : Nat} {F : Nat → Prop} {s : ByteArray} {p : Nat} (h : Rd w R T F s p) (K : Nat) (h1 : 1 ≤ K) (h2 : K ≤ 16) :
    Calls Try.prog 10 #[.pointer (some ⟨R, 0, none⟩), .agg #[.int .u8 3, .int .u64 K]] w (Told w R T F s p (zet K) 281474976710654) := by
  have hmf : ∀ (fn : Fn) (first cap : Array Value) (w : World), (Instr.makeFunc fn first cap).run Try.prog w = .ok (.func fn first cap) w := fun _ _ _ _ => rfl
  have HC := Lib.hid fun W : World => check_any 3 K W (by omega) (by omega)
  have HA := Lib.hid fun (W : World) (hc : Ch (fun _ => False) w W) => at_any (h.kept hc fun _ _ h => h)
  have HU := Lib.hid fun (W : World) (hc : Ch (fun _ => False) w W) => readZeta_any (h.kept hc fun _ _ h => h) K h1 h2
  have hm : ck 3 K = 0 := by unfold ck may; rw [if_pos (by simp; omega)]
  rw [hm] at HC
  have HR := Lib.hid h
  have hK1 : (1 : Int) ≤ K := by omega
  have hKi : (K : Int) ≤ 281474976710655 := by omega
  clear hm h1 h2
  clear h
  go_enter_defers Try.func10, Try.ntmps10
  go_wp2_with (go_at_call 26; refine (HC.out _).mono ?_; rintro e w' ⟨rfl, rfl⟩)
  obtain ⟨w5, h5⟩ : ∃ w5, w5 = ((((w.alloc (.cells #[.pointer (some ⟨R, 0, none⟩)] 23)).alloc (.cells #[.int .u8 3, .int .u64 K] 35)).alloc (.cells #[.int .u64 0] 30)).alloc (.cells #[.int .i64 0] 31)).alloc (.cells #[.int .u8 3, .int .u64 K] 35) := ⟨_, rfl⟩
  obtain ⟨hch, hsz, hV, hB⟩ := read_start w R 3 K (p : Int) h5
  rw [← h5]
  clear h5
  refine (HA.out _ hch).mono ?_
  rintro e w' ⟨rfl, rfl⟩
  have hk0 := two_cell0 hB
  have hk1 := two_cell1 hB
  have hr0 := cell_of_one (show w5.heap[w.heap.size]? = _ from by have := hV.b2; rw [Below.heap_alloc _ _ _ (by omega)] at this; exact this)
  go_wp2_with fail
  refine (HU.out _ (hch.alloc _)).mono ?_
  rintro e w7 (⟨v, hv, hp, rfl, hR7, hc7⟩ | ⟨hn, x, p', rfl, hR7, hc7⟩)
  · have hnF : ∀ g, w.heap.size ≤ g → ¬ F g := fun g hg c => absurd (HR.out.live g c) (by omega)
    have hV7 := hV.kept hc7 (hnF _ (by omega)) (hnF _ (by omega)) (hnF _ (by omega)) (hnF _ (by omega))
    have hc4 := cell_of_one hV7.b4
    have hc5 := cell_of_one hV7.b5
    have hf4 := one_free hV7.b4
    have hf5 := one_free hV7.b5
    have HV7 := Lib.hid hV7
    have HV := Lib.hid hv
    have HP := Lib.hid hp
    have HR7 := Lib.hid hR7
    have HC7 := Lib.hid ((hch.alloc (.cells #[.int .i64 (p : Int)] 3)).mono (G := F) (fun _ h => h.elim) |>.trans hc7 fun g h => .inl h)
    clear hv hp hR7 hc7 hV7 hV hk0 hk1 hr0 hB hch hsz HU HA HC
    go_wp2_with fail
    have hE := read_ok_end HV7.out HR7.out HC7.out hnF (v : Int)
    have HE := Lib.hid hE.2.2
    have hE4 := hE.1
    have hE5 := hE.2.1
    clear hE hc4 hc5 hf4 hf5
    generalize (w7.setCell ⟨w.heap.size + 1 + 1, 0, none⟩ (.int .u64 (v : Int))).setCell ⟨w.heap.size + 1 + 1 + 1, 0, none⟩ (.int .i64 0) = w8 at hE4 hE5 HE ⊢
    refine leaves_cons (f := 28) (args := #[.pointer (some ⟨w.heap.size + 1 + 1 + 1, 0, none⟩), .pointer (some ⟨w.heap.size + 1 + 1, 0, none⟩), .pointer (some ⟨w.heap.size, 0, none⟩), .pointer (some ⟨w.heap.size + 5, 0, none⟩)]) (by simp) (by simp [go_sem]) ?_
    refine (close_ok _ _ _ _ _ _ hE5).mono ?_
    rintro e u' w'' ⟨rfl, rfl, rfl⟩
    simp [Leaves, settle, results, Try.results10, go_sem, hE4, hE5]
    exact .inl ⟨v, HV.out, HP.out, rfl, HE.out.1, HE.out.2⟩
  · have hnF : ∀ g, w.heap.size ≤ g → ¬ F g := fun g hg c => absurd (HR.out.live g c) (by omega)
    have hV7 := hV.kept hc7 (hnF _ (by omega)) (hnF _ (by omega)) (hnF _ (by omega)) (hnF _ (by omega))
    have hc4 := cell_of_one hV7.b4
    have hc5 := cell_of_one hV7.b5
    have hf4 := one_free hV7.b4
    have hf5 := one_free hV7.b5
    have HV7 := Lib.hid hV7
    have HN := Lib.hid hn
    have HR7 := Lib.hid hR7
    have HC7 := Lib.hid ((hch.alloc (.cells #[.int .i64 (p : Int)] 3)).mono (G := F) (fun _ h => h.elim) |>.trans hc7 fun g h => .inl h)
    clear hn hR7 hc7 hV7 hV hk0 hk1 hr0 hB hch hsz HU HA HC
    go_wp2_with fail
    have hE := read_bad_end HV7.out HR7.out HC7.out hnF x
    clear hc4 hc5 hf4 hf5
    generalize (w7.setCell ⟨w.heap.size + 1 + 1, 0, none⟩ (.int .u64 x)).setCell ⟨w.heap.size + 1 + 1 + 1, 0, none⟩ (.int .i64 4) = w8 at hE ⊢
    refine leaves_cons (f := 28) (args := #[.pointer (some ⟨w.heap.size + 1 + 1 + 1, 0, none⟩), .pointer (some ⟨w.heap.size + 1 + 1, 0, none⟩), .pointer (some ⟨w.heap.size, 0, none⟩), .pointer (some ⟨w.heap.size + 5, 0, none⟩)]) (by simp) (by simp [go_sem]) ?_
    refine (close_bad _ hE.1 hE.2.1 HR.out.le (by omega) (by omega) (by omega) (hnF _ (by omega)) (hnF _ (by omega)) (hnF _ (by omega)) (hnF _ (by omega))).mono ?_
    rintro e u' w9 ⟨rfl, rfl, hV9, hR9, hC9⟩
    have hE4 := cell_of_one hV9.b4
    have hE5 := cell_of_one hV9.b5
    simp [Leaves, settle, results, Try.results10, go_sem, hE4, hE5]
    exact .inr ⟨HN.out, rfl, hR9, hE.2.2.trans hC9 fun g hg => by rcases hg with a | rfl; exact .inl a; exact .inr (by omega)⟩
theorem read_minimal {w : World} {R T : Nat} {F : Nat → Prop} {s : ByteArray} {p : Nat} (h : Rd w R T F s p) (K : Nat) (h1 : 1 ≤ K) (h2 : K ≤ 281474976710655) :
    Calls Try.prog 10 #[.pointer (some ⟨R, 0, none⟩), .agg #[.int .u8 4, .int .u64 K]] w (Told w R T F s p (fun v => mini v K) (K - 1)) := by
  have hmf : ∀ (fn : Fn) (first cap : Array Value) (w : World), (Instr.makeFunc fn first cap).run Try.prog w = .ok (.func fn first cap) w := fun _ _ _ _ => rfl
  have HC := Lib.hid fun W : World => check_any 4 K W (by omega) (by omega)
  have HA := Lib.hid fun (W : World) (hc : Ch (fun _ => False) w W) => at_any (h.kept hc fun _ _ h => h)
  have HU := Lib.hid fun (W : World) (hc : Ch (fun _ => False) w W) => readMinimal_any (h.kept hc fun _ _ h => h) K h1 (by omega)
  have hm : ck 4 K = 0 := by unfold ck may; rw [if_pos (by simp; omega)]
  rw [hm] at HC
  have HR := Lib.hid h
  have hK1 : (1 : Int) ≤ K := by omega
  have hKi : (K : Int) ≤ 281474976710655 := by omega
  clear hm h1 h2
  clear h
  go_enter_defers Try.func10, Try.ntmps10
  go_wp2_with (go_at_call 26; refine (HC.out _).mono ?_; rintro e w' ⟨rfl, rfl⟩)
  obtain ⟨w5, h5⟩ : ∃ w5, w5 = ((((w.alloc (.cells #[.pointer (some ⟨R, 0, none⟩)] 23)).alloc (.cells #[.int .u8 4, .int .u64 K] 35)).alloc (.cells #[.int .u64 0] 30)).alloc (.cells #[.int .i64 0] 31)).alloc (.cells #[.int .u8 4, .int .u64 K] 35) := ⟨_, rfl⟩
  obtain ⟨hch, hsz, hV, hB⟩ := read_start w R 4 K (p : Int) h5
  rw [← h5]
  clear h5
  refine (HA.out _ hch).mono ?_
  rintro e w' ⟨rfl, rfl⟩
  have hk0 := two_cell0 hB
  have hk1 := two_cell1 hB
  have hr0 := cell_of_one (show w5.heap[w.heap.size]? = _ from by have := hV.b2; rw [Below.heap_alloc _ _ _ (by omega)] at this; exact this)
  go_wp2_with fail
  refine (HU.out _ (hch.alloc _)).mono ?_
  rintro e w7 (⟨v, hv, hp, rfl, hR7, hc7⟩ | ⟨hn, x, p', rfl, hR7, hc7⟩)
  · have hnF : ∀ g, w.heap.size ≤ g → ¬ F g := fun g hg c => absurd (HR.out.live g c) (by omega)
    have hV7 := hV.kept hc7 (hnF _ (by omega)) (hnF _ (by omega)) (hnF _ (by omega)) (hnF _ (by omega))
    have hc4 := cell_of_one hV7.b4
    have hc5 := cell_of_one hV7.b5
    have hf4 := one_free hV7.b4
    have hf5 := one_free hV7.b5
    have HV7 := Lib.hid hV7
    have HV := Lib.hid hv
    have HP := Lib.hid hp
    have HR7 := Lib.hid hR7
    have HC7 := Lib.hid ((hch.alloc (.cells #[.int .i64 (p : Int)] 3)).mono (G := F) (fun _ h => h.elim) |>.trans hc7 fun g h => .inl h)
    clear hv hp hR7 hc7 hV7 hV hk0 hk1 hr0 hB hch hsz HU HA HC
    go_wp2_with fail
    have hE := read_ok_end HV7.out HR7.out HC7.out hnF (v : Int)
    have HE := Lib.hid hE.2.2
    have hE4 := hE.1
    have hE5 := hE.2.1
    clear hE hc4 hc5 hf4 hf5
    generalize (w7.setCell ⟨w.heap.size + 1 + 1, 0, none⟩ (.int .u64 (v : Int))).setCell ⟨w.heap.size + 1 + 1 + 1, 0, none⟩ (.int .i64 0) = w8 at hE4 hE5 HE ⊢
    refine leaves_cons (f := 28) (args := #[.pointer (some ⟨w.heap.size + 1 + 1 + 1, 0, none⟩), .pointer (some ⟨w.heap.size + 1 + 1, 0, none⟩), .pointer (some ⟨w.heap.size, 0, none⟩), .pointer (some ⟨w.heap.size + 5, 0, none⟩)]) (by simp) (by simp [go_sem]) ?_
    refine (close_ok _ _ _ _ _ _ hE5).mono ?_
    rintro e u' w'' ⟨rfl, rfl, rfl⟩
    simp [Leaves, settle, results, Try.results10, go_sem, hE4, hE5]
    exact .inl ⟨v, HV.out, HP.out, rfl, HE.out.1, HE.out.2⟩
  · have hnF : ∀ g, w.heap.size ≤ g → ¬ F g := fun g hg c => absurd (HR.out.live g c) (by omega)
    have hV7 := hV.kept hc7 (hnF _ (by omega)) (hnF _ (by omega)) (hnF _ (by omega)) (hnF _ (by omega))
    have hc4 := cell_of_one hV7.b4
    have hc5 := cell_of_one hV7.b5
    have hf4 := one_free hV7.b4
    have hf5 := one_free hV7.b5
    have HV7 := Lib.hid hV7
    have HN := Lib.hid hn
    have HR7 := Lib.hid hR7
    have HC7 := Lib.hid ((hch.alloc (.cells #[.int .i64 (p : Int)] 3)).mono (G := F) (fun _ h => h.elim) |>.trans hc7 fun g h => .inl h)
    clear hn hR7 hc7 hV7 hV hk0 hk1 hr0 hB hch hsz HU HA HC
    go_wp2_with fail
    have hE := read_bad_end HV7.out HR7.out HC7.out hnF x
    clear hc4 hc5 hf4 hf5
    generalize (w7.setCell ⟨w.heap.size + 1 + 1, 0, none⟩ (.int .u64 x)).setCell ⟨w.heap.size + 1 + 1 + 1, 0, none⟩ (.int .i64 4) = w8 at hE ⊢
    refine leaves_cons (f := 28) (args := #[.pointer (some ⟨w.heap.size + 1 + 1 + 1, 0, none⟩), .pointer (some ⟨w.heap.size + 1 + 1, 0, none⟩), .pointer (some ⟨w.heap.size, 0, none⟩), .pointer (some ⟨w.heap.size + 5, 0, none⟩)]) (by simp) (by simp [go_sem]) ?_
    refine (close_bad _ hE.1 hE.2.1 HR.out.le (by omega) (by omega) (by omega) (hnF _ (by omega)) (hnF _ (by omega)) (hnF _ (by omega)) (hnF _ (by omega))).mono ?_
    rintro e u' w9 ⟨rfl, rfl, hV9, hR9, hC9⟩
    have hE4 := cell_of_one hV9.b4
    have hE5 := cell_of_one hV9.b5
    simp [Leaves, settle, results, Try.results10, go_sem, hE4, hE5]
    exact .inr ⟨HN.out, rfl, hR9, hE.2.2.trans hC9 fun g hg => by rcases hg with a | rfl; exact .inl a; exact .inr (by omega)⟩
end Go.Proofs.Ytgcediipkojdbaa.bits
