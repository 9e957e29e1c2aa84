/-
  Layer 2: the contract of Put.
-/
import Derived.Test.YtgcediipkojdbaaCodeG
import Derived.Outline
namespace Go.Proofs.Ytgcediipkojdbaa.bits
open Go.ChangeShapes Go.WideShapes Go.ChangeAt Go.RowKit
set_option linter.unusedVariables false

theorem cput_nil (kd K v : Nat) (w : World) :
    Calls Try.prog 21 #[.pointer none, .agg #[.int .u8 kd, .int .u64 K], .int .u64 v] w fun e w' => e = .returned (.int .i64 2) ∧ Ch (fun _ => False) w w' := by
  have HCH := Lib.hid fun (o o2 : Obj) => ((Ch.refl (fun _ => False) w).alloc o).alloc o2
  go_enter Try.func21, Try.ntmps21
  go_wp2_with fail
  go_ret
  exact ⟨rfl, HCH.out _ _⟩

theorem put_kept {w wq : World} {x : Value} {kd K : Int} (h : Ch (fun _ => False) ((w.alloc (.cells #[x] 46)).alloc (.cells #[.int .u8 kd, .int .u64 K] 35)) wq) :
    wq.heap[w.heap.size]? = some (.cells #[x] 46 (0, 0)) ∧ wq.heap[w.heap.size + 1]? = some (.cells #[.int .u8 kd, .int .u64 K] 35 (0, 0)) := by
  constructor
  · rw [h.block _ (by simp; omega) (fun h => h), Below.heap_alloc _ _ _ (by simp)]
    exact heap_alloc_new w _
  · rw [h.block _ (by simp) (fun h => h)]
    have := heap_alloc_new (w.alloc (.cells #[x] 46)) (.cells #[.int .u8 kd, .int .u64 K] 35)
    simpa using this

theorem cput_arg (kd K v B : Nat) (w : World) (hk : kd < 256) (hK : K < 18446744073709551616) (h : fits2 kd K v = false) :
    Calls Try.prog 21 #[.pointer (some ⟨B, 0, none⟩), .agg #[.int .u8 kd, .int .u64 K], .int .u64 v] w fun e w' => e = .returned (.int .i64 1) ∧ Ch (fun _ => False) w w' := by
  have HL := Lib.hid fun W : World => len_bad kd K v W hk hK h
  clear hk hK h
  go_enter Try.func21, Try.ntmps21
  go_wp2_with (go_at_call 22; refine (HL.out _).mono ?_; rintro e w2 ⟨rfl, hq⟩; have HQ := Lib.hid ((((Ch.refl (fun _ => False) w).alloc _).alloc _).trans hq fun _ h => h.elim); clear hq)
  go_ret
  exact ⟨rfl, HQ.out⟩

theorem cput_full (kd K v B : Nat) (F : Nat → Prop) (b : List Bool) (sv : Value) (L : List UInt8) (w : World) (hw : Wr w B F b sv L) (hk : kd < 256) (hK : K < 18446744073709551616) (h : fits2 kd K v = true) (hmax : 134217728 < b.length + (cbits kd K v).length) :
    Calls Try.prog 21 #[.pointer (some ⟨B, 0, none⟩), .agg #[.int .u8 kd, .int .u64 K], .int .u64 v] w fun e w' => e = .returned (.int .i64 3) ∧ Ch (fun _ => False) w w' := by
  have HL := Lib.hid fun W : World => len_ok kd K v W hk hK h
  have HW := Lib.hid fun (W : World) (hc : Ch (fun _ => False) w W) => wlen_any (hw.kept hc fun _ _ h => h)
  have hl := cbits_len (fits2_of h).1 (fits2_of h).2
  have hm := hw.max
  obtain ⟨n, hn⟩ : ∃ n, n = (cbits kd K v).length := ⟨_, rfl⟩
  rw [← hn] at HL hl hmax
  obtain ⟨ln, hln⟩ : ∃ ln, ln = b.length := ⟨_, rfl⟩
  rw [← hln] at HW hm hmax
  have h1 : (134217728 : Int) - (ln : Int) < (n : Int) := by omega
  clear hk hK h hn hln hw hmax
  go_enter Try.func21, Try.ntmps21
  go_wp2_with (first | (go_at_call 22; refine (HL.out _).mono ?_; rintro e w2 ⟨rfl, hq⟩; have HQ := Lib.hid ((((Ch.refl (fun _ => False) w).alloc _).alloc _).trans hq fun _ h => h.elim); have hcP := cell_of_one (put_kept hq).1; clear hq) | (go_at_call 20; refine (HW.out _ HQ.out).mono ?_; rintro e w3 ⟨rfl, rfl⟩))
  go_ret
  exact ⟨rfl, HQ.out⟩

theorem cput_ok (kd K v B : Nat) (F : Nat → Prop) (b : List Bool) (sv : Value) (L : List UInt8) (w : World) (hw : Wr w B F b sv L) (hk : kd < 256) (hK : K < 18446744073709551616) (h : fits2 kd K v = true) (hmax : b.length + (cbits kd K v).length ≤ 134217728) :
    Calls Try.prog 21 #[.pointer (some ⟨B, 0, none⟩), .agg #[.int .u8 kd, .int .u64 K], .int .u64 v] w fun e w' => e = .returned (.int .i64 0) ∧ ∃ F' sv' L', Wr w' B F' (b ++ cbits kd K v) sv' L' ∧ Ch F w w' ∧ ∀ g, F' g → F g ∨ w.heap.size ≤ g := by
  have HL := Lib.hid fun W : World => len_ok kd K v W hk hK h
  have HW := Lib.hid fun (W : World) (hc : Ch (fun _ => False) w W) => wlen_any (hw.kept hc fun _ _ h => h)
  have hl := cbits_len (fits2_of h).1 (fits2_of h).2
  have hm := hw.max
  have hw2 := hw
  have HSP : Hid (∀ W : World, Ch (fun _ => False) ((w.alloc (.cells #[.pointer (some ⟨B, 0, none⟩)] 46)).alloc (.cells #[.int .u8 kd, .int .u64 K] 35)) W →
      Calls Try.prog 37 #[.agg #[.int .u8 kd, .int .u64 K], .int .u64 v, .func (Fn.func 38) #[] #[.pointer (some ⟨w.heap.size, 0, none⟩)]] W fun e w' => e = .returned (.tuple #[]) ∧
        ∃ F' sv' L', Wr w' B F' (b ++ cbits kd K v) sv' L' ∧ Ch F w w' ∧ ∀ g, F' g → F g ∨ w.heap.size ≤ g) := Lib.hid (by
    intro W hc
    have hW0 : Ch (fun _ => False) w W := (((Ch.refl _ w).alloc _).alloc _).trans hc fun _ h => h.elim
    have hI : InvP w.heap.size B b W F [] := ⟨⟨sv, L, by rw [List.append_nil]; exact hw2.kept hW0 fun _ _ h => h⟩, (put_kept hc).1, fun c => absurd (hw2.live _ c) (Nat.lt_irrefl _)⟩
    refine (spell_any (put1_say w.heap.size B b (cbits kd K v).length hmax) (Grew.same hI) kd K v (fits2_of h).1 (fits2_of h).2 (by simp)).mono ?_
    rintro e w' ⟨he, F', ⟨⟨sv', L', h1⟩, _, _⟩, h2, h3⟩
    refine ⟨he, F', sv', L', by simpa using h1, (hW0.mono fun _ h => h.elim).trans h2 fun g h => .inl h, fun g hg => ?_⟩
    have := hW0.size
    rcases h3 g hg with a | a
    · exact .inl a
    · exact .inr (by omega))
  obtain ⟨n, hn⟩ : ∃ n, n = (cbits kd K v).length := ⟨_, rfl⟩
  rw [← hn] at HL hl hmax
  obtain ⟨ln, hln⟩ : ∃ ln, ln = b.length := ⟨_, rfl⟩
  rw [← hln] at HW hm hmax
  have h1 : (n : Int) ≤ (134217728 : Int) - (ln : Int) := by omega
  clear hk hK h hn hln hw hw2 hmax
  go_enter Try.func21, Try.ntmps21
  go_wp2_with (first | (go_at_call 22; refine (HL.out _).mono ?_; rintro e w2 ⟨rfl, hq⟩; have HQ := Lib.hid ((((Ch.refl (fun _ => False) w).alloc _).alloc _).trans hq fun _ h => h.elim); have HK := Lib.hid hq; have hcP := cell_of_one (put_kept hq).1; have hcA := two_cell0 (put_kept hq).2; have hcB := two_cell1 (put_kept hq).2; clear hq) | (go_at_call 20; refine (HW.out _ HQ.out).mono ?_; rintro e w3 ⟨rfl, rfl⟩) | (go_at_call 37; refine (HSP.out _ HK.out).mono ?_; rintro e w4 ⟨rfl, hq⟩; have HR := Lib.hid hq; clear hq))
  go_ret
  exact ⟨rfl, HR.out⟩
end Go.Proofs.Ytgcediipkojdbaa.bits
