/-
  Layer 2, the document's answers: read, of each code.
-/
import Derived.Test.YtgcediipkojdbaaQShort
import Derived.Outline
namespace Go.Proofs.Ytgcediipkojdbaa.bits
open Go.ChangeShapes Go.WideShapes Go.ChangeAt Go.RowKit
set_option linter.unusedVariables false

section
variable {w : World} {Q : Nat} {F : Nat → Prop} {v : Value} {s : ByteArray} {p : Nat}

/-- the box of the code stays -/
theorem box_kept {w w2 : World} {Q : Nat} {F : Nat → Prop} {v : Value} {s : ByteArray} {p : Nat} {kd K : Int} (h : RQ w Q F v s p) (hc : Ch F (w.alloc (.cells #[.int .u8 kd, .int .u64 K] 37)) w2) :
    w2.heap[w.heap.size]? = some (.cells #[.int .u8 kd, .int .u64 K] 37 (0, 0)) ∧ Ch F w w2 := by
  constructor
  · rw [hc.block _ (by simp) (fun c => absurd (h.1.live _ c) (Nat.lt_irrefl _))]
    exact heap_alloc_new w _
  · exact ((Ch.refl F w).alloc _).trans hc fun g h => .inl h

theorem read_q0 (h : RQ w Q F v s p) :
    Calls Try.prog 35 #[.pointer (some ⟨Q, 0, none⟩), .agg #[.int .u8 0, .int .u64 0]] w (QGot w Q F v s p unary 65535 18446744073709551615) := by
  have HZ := Lib.hid (zeros_any (h.kept ((Ch.refl (fun _ => False) w).alloc (.cells #[.int .u8 0, .int .u64 0] 37)) fun _ _ h => h) 65535 (by omega))
  have HR := Lib.hid h
  clear h
  go_enter Try.func35, Try.ntmps35
  go_wp2_with fail
  refine HZ.out.mono ?_
  rintro e w2 (⟨n, hn, hp, rfl, hR, hc⟩ | ⟨hn, p', rfl, hR, hc⟩)
  · have HP := Lib.hid hp
    have HN := Lib.hid hn
    have HQ := Lib.hid hR
    have HC := Lib.hid (box_kept HR.out hc).2
    have hni : (n : Int) ≤ 65535 := by omega
    clear hp hn hR hc
    go_wp2_with fail
    go_ret2
    exact .inl ⟨n, HP.out, fun y hy hg => unary_free hg HP.out, by have := HN.out; omega, rfl, by rw [length_unary]; exact HQ.out, HC.out⟩
  · have HN := Lib.hid hn
    have HQ := Lib.hid hR
    have HC := Lib.hid (box_kept HR.out hc).2
    clear hn hR hc
    go_wp2_with fail
    go_ret2
    exact .inr ⟨HN.out, _, _, rfl, HQ.out, HC.out⟩

theorem read_q4 (h : RQ w Q F v s p) (K : Nat) (h1 : 1 ≤ K) (h2 : K ≤ 281474976710655) :
    Calls Try.prog 35 #[.pointer (some ⟨Q, 0, none⟩), .agg #[.int .u8 4, .int .u64 K]] w (QGot w Q F v s p (fun y => mini y K) (K - 1) 18446744073709551615) := by
  have HZ := Lib.hid (short_any (h.kept ((Ch.refl (fun _ => False) w).alloc (.cells #[.int .u8 4, .int .u64 K] 37)) fun _ _ h => h) K h1 (by omega))
  have HR := Lib.hid h
  have H2 := Lib.hid h2
  clear h h1 h2
  go_enter Try.func35, Try.ntmps35
  go_wp2_with fail
  refine HZ.out.mono ?_
  rintro e w2 (⟨x, hp, hu, hx, rfl, hR, hc⟩ | ⟨hn, z, p', rfl, hR, hc⟩)
  · have HP := Lib.hid hp
    have HN := Lib.hid hu
    have HX := Lib.hid hx
    have HQ := Lib.hid hR
    have HC := Lib.hid (box_kept HR.out hc).2
    clear hp hu hx hR hc
    go_wp2_with fail
    go_ret2
    exact .inl ⟨x, HP.out, HN.out, by have := HX.out; have := H2.out; omega, rfl, HQ.out, HC.out⟩
  · have HN := Lib.hid hn
    have HQ := Lib.hid hR
    have HC := Lib.hid (box_kept HR.out hc).2
    clear hn hR hc
    go_wp2_with fail
    go_ret2
    exact .inr ⟨HN.out, _, _, rfl, HQ.out, HC.out⟩

/-- a number behind its b -/
theorem tail_val {A x : Nat} (hA : 1 ≤ A) (h : A + x < 18446744073709551616) : IntKind.u64.wrap ((x : Int) + (A : Int)) = (x : Int) + (A : Int) ∧ IntKind.u64.wrap ((x : Int) + (A : Int) - 1) = ((A + x - 1 : Nat) : Int) := by
  constructor
  · rw [PlainAid.u64_nonneg (by omega) (by omega)]
  · rw [PlainAid.u64_nonneg (by omega) (by omega)]; omega

theorem read_q1 (h : RQ w Q F v s p) :
    Calls Try.prog 35 #[.pointer (some ⟨Q, 0, none⟩), .agg #[.int .u8 1, .int .u64 0]] w (QGot w Q F v s p gam 281474976710654 18446744073709551615) := by
  have HZ := Lib.hid (zeros_any (h.kept ((Ch.refl (fun _ => False) w).alloc (.cells #[.int .u8 1, .int .u64 0] 37)) fun _ _ h => h) 47 (by omega))
  have HR := Lib.hid h
  clear h
  go_enter Try.func35, Try.ntmps35
  go_wp2_with fail
  refine HZ.out.mono ?_
  rintro e w2 (⟨b, hb, hp, rfl, hR, hc⟩ | ⟨hn, p', rfl, hR, hc⟩)
  · have HP := Lib.hid hp
    have HBB := Lib.hid hb
    have HLE := Lib.hid hR.le
    have hk0 := two_cell0 (box_kept HR.out hc).1
    have HC := Lib.hid (box_kept HR.out hc).2
    have hbi : (b : Int) ≤ 47 := by omega
    have e0 := pow_wrap (n := b) (by omega)
    by_cases g : p + (b + 1) + b ≤ 8 * s.size
    · have HT := Lib.hid (qtake_ok hR b (by omega) g)
      have HV := Lib.hid (tail_of (tex := gam) (b := b) hp (fun r hr => gam_of hr) (by rw [length_unary]; exact g))
      have hf := fld_lt s (p + (b + 1)) b
      have hpw : 2 ^ b ≤ 2 ^ 47 := Nat.pow_le_pow_right (by omega) hb
      have hp1 := Nat.two_pow_pos b
      rw [length_unary] at HV
      generalize fld s (p + (b + 1)) b = x at HT HV hf
      generalize 2 ^ b = A at e0 hf hpw hp1 HV
      have HAX := Lib.hid (show A + x < 18446744073709551616 from by omega)
      obtain ⟨e1, e2⟩ := tail_val hp1 HAX.out
      obtain ⟨y, hy⟩ : ∃ y, y = A + x - 1 := ⟨_, rfl⟩
      rw [← hy] at e2 HV
      have HY := Lib.hid (show y ≤ 18446744073709551615 from by omega)
      clear hf hpw hp1 hy hp hR hc g hb
      go_wp2_with (go_at_call 48; refine HT.out.mono ?_; rintro e w3 ⟨rfl, hq⟩; have HQ := Lib.hid hq; clear hq)
      go_ret2
      refine .inl ⟨y, HV.out.1, fun z hz hg => gam_free hg HV.out.1, HY.out, rfl, ?_, HC.out.trans HQ.out.2 fun g h => .inl h⟩
      rw [HV.out.2, ← Nat.add_assoc]
      exact HQ.out.1
    · have HT := Lib.hid (qtake_form hR b (by omega) (by omega))
      have HQ := Lib.hid hR
      have HG := Lib.hid g
      clear hp hR hc g hb
      go_wp2_with (go_at_call 48; refine HT.out.mono ?_; rintro e w3 ⟨rfl, q, rfl⟩)
      go_ret2
      refine .inr ⟨fun y hy hg => ?_, _, _, rfl, HQ.out.drewN q, HC.out.drewN q⟩
      obtain ⟨h1, h2⟩ := parts y
      have h3 : unary (y + 1).log2 <+: rest s p := (pre_append.1 hg).1
      have h4 := unary_free HP.out h3
      unfold gam at hg
      rw [← h4] at hg h1
      exact tail_none (by have := HLE.out; omega) h1 (by rw [length_unary]; have := HG.out; omega) hg
  · have HN := Lib.hid hn
    have HQ := Lib.hid hR
    have hk0 := two_cell0 (box_kept HR.out hc).1
    have HC := Lib.hid (box_kept HR.out hc).2
    clear hn hR hc
    go_wp2_with fail
    go_ret2
    refine .inr ⟨fun y hy hg => ?_, _, _, rfl, HQ.out, HC.out⟩
    exact HN.out _ (by have := log2_le (v := y) (n := 48) (by omega); omega) (pre_append.1 hg).1

theorem read_q2 (h : RQ w Q F v s p) :
    Calls Try.prog 35 #[.pointer (some ⟨Q, 0, none⟩), .agg #[.int .u8 2, .int .u64 0]] w (QGot w Q F v s p del 281474976710654 18446744073709551615) := by
  have HZ := Lib.hid (zeros_any (h.kept ((Ch.refl (fun _ => False) w).alloc (.cells #[.int .u8 2, .int .u64 0] 37)) fun _ _ h => h) 47 (by omega))
  have HR := Lib.hid h
  clear h
  go_enter Try.func35, Try.ntmps35
  go_wp2_with fail
  refine HZ.out.mono ?_
  rintro e w2 (⟨b, hb, hp, rfl, hR, hc⟩ | ⟨hn, p', rfl, hR, hc⟩)
  · have HP := Lib.hid hp
    have HBB := Lib.hid hb
    have HLE := Lib.hid hR.le
    have hk0 := two_cell0 (box_kept HR.out hc).1
    have HC := Lib.hid (box_kept HR.out hc).2
    have hbi : (b : Int) ≤ 47 := by omega
    have e0 := pow_wrap (n := b) (by omega)
    by_cases g : p + (b + 1) + b ≤ 8 * s.size
    · have HT := Lib.hid (qtake_ok hR b (by omega) g)
      have HV := Lib.hid (tail_of (tex := gam) (b := b) hp (fun r hr => gam_of hr) (by rw [length_unary]; exact g))
      have hf := fld_lt s (p + (b + 1)) b
      have hpw : 2 ^ b ≤ 2 ^ 47 := Nat.pow_le_pow_right (by omega) hb
      have hp1 := Nat.two_pow_pos b
      have h64 : 6 ≤ b → 64 ≤ 2 ^ b := fun h6 => Nat.le_trans (by decide : 64 ≤ 2 ^ 6) (Nat.pow_le_pow_right (by omega) h6)
      rw [length_unary] at HV
      generalize fld s (p + (b + 1)) b = x at HT HV hf
      generalize 2 ^ b = A at e0 hf hpw hp1 HV h64
      have HAX := Lib.hid (show A + x < 18446744073709551616 from by omega)
      obtain ⟨e1, e2⟩ := tail_val hp1 HAX.out
      obtain ⟨y, hy⟩ : ∃ y, y = A + x - 1 := ⟨_, rfl⟩
      rw [← hy] at e2 HV
      by_cases big : y ≤ 47
      · have hyi : (y : Int) ≤ 47 := by omega
        have hb5 : (b : Int) ≤ 5 := by
          rcases Nat.lt_or_ge b 6 with x1 | x1
          · omega
          · have := h64 x1; omega
        have HY := Lib.hid big
        have e3 := pow_wrap (n := y) (by omega)
        clear hf hpw hp1 hy hp hR hc g hb big h64 hbi
        go_wp2_with (go_at_call 48; refine HT.out.mono ?_; rintro e w3 ⟨rfl, hq⟩; have HQ := Lib.hid hq; clear hq HT)
        by_cases g : p + (gam y).length + y ≤ 8 * s.size
        · have hq := HQ.out.1
          rw [show p + (b + 1) + b = p + (gam y).length from by rw [HV.out.2]; omega] at hq
          have HT := Lib.hid (qtake_ok hq y (by have := HY.out; omega) g)
          have HV2 := Lib.hid (tail_of (tex := del) (b := y) HV.out.1 (fun r hr => del_of hr) g)
          have hf := fld_lt s (p + (gam y).length) y
          have hpw : 2 ^ y ≤ 2 ^ 47 := Nat.pow_le_pow_right (by omega) HY.out
          have hp1 := Nat.two_pow_pos y
          generalize fld s (p + (gam y).length) y = x2 at HT HV2 hf
          generalize 2 ^ y = A2 at e3 hf hpw hp1 HV2
          have HAX2 := Lib.hid (show A2 + x2 < 18446744073709551616 from by omega)
          obtain ⟨e4, e5⟩ := tail_val hp1 HAX2.out
          obtain ⟨y2, hy2⟩ : ∃ y2, y2 = A2 + x2 - 1 := ⟨_, rfl⟩
          rw [← hy2] at e5 HV2
          have HY2 := Lib.hid (show y2 ≤ 18446744073709551615 from by omega)
          clear hf hpw hp1 hy2 hq g
          refine HT.out.mono ?_
          rintro e w4 ⟨rfl, hq⟩
          have HQ2 := Lib.hid hq
          clear hq
          go_wp2_with fail
          go_ret2
          refine .inl ⟨y2, HV2.out.1, fun z hz hg => del_free hg HV2.out.1, HY2.out, rfl, ?_, (HC.out.trans HQ.out.2 fun g h => .inl h).trans HQ2.out.2 fun g h => .inl h⟩
          rw [HV2.out.2, ← Nat.add_assoc]
          exact HQ2.out.1
        · have hq := HQ.out.1
          rw [show p + (b + 1) + b = p + (gam y).length from by rw [HV.out.2]; omega] at hq
          have HT := Lib.hid (qtake_form hq y (by have := HY.out; omega) (by omega))
          have HLE2 := Lib.hid hq.le
          have HG := Lib.hid g
          clear hq g
          refine HT.out.mono ?_
          rintro e w4 ⟨rfl, q, rfl⟩
          go_wp2_with fail
          go_ret2
          refine .inr ⟨fun z hz hg => ?_, _, _, rfl, HQ.out.1.drewN q, (HC.out.trans HQ.out.2 fun g h => .inl h).drewN q⟩
          obtain ⟨h1, h2⟩ := parts z
          have h3 : gam (z + 1).log2 <+: rest s p := (pre_append.1 hg).1
          have h4 := gam_free HV.out.1 h3
          unfold del at hg
          rw [← h4] at hg h1
          exact tail_none (by have := HLE2.out; omega) h1 (by have := HG.out; omega) hg
      · have hyi : (47 : Int) < (y : Int) := by omega
        have HY := Lib.hid big
        clear hf hpw hp1 hy hp hR hc g hb big h64
        go_wp2_with (go_at_call 48; refine HT.out.mono ?_; rintro e w3 ⟨rfl, hq⟩; have HQ := Lib.hid hq; clear hq HT)
        go_ret2
        refine .inr ⟨fun z hz hg => ?_, _, _, rfl, HQ.out.1, HC.out.trans HQ.out.2 fun g h => .inl h⟩
        have h4 := gam_free HV.out.1 (pre_append.1 hg).1
        have := log2_le (v := z) (n := 48) (by omega)
        have := HY.out
        omega
    · have HT := Lib.hid (qtake_form hR b (by omega) (by omega))
      have HQ := Lib.hid hR
      have HG := Lib.hid g
      clear hp hR hc g hb
      go_wp2_with (go_at_call 48; refine HT.out.mono ?_; rintro e w3 ⟨rfl, q, rfl⟩)
      go_ret2
      refine .inr ⟨fun y hy hg => ?_, _, _, rfl, HQ.out.drewN q, HC.out.drewN q⟩
      have hg1 : gam (y + 1).log2 <+: rest s p := (pre_append.1 hg).1
      obtain ⟨h1, h2⟩ := parts (y + 1).log2
      have h3 : unary ((y + 1).log2 + 1).log2 <+: rest s p := (pre_append.1 hg1).1
      have h4 := unary_free HP.out h3
      unfold gam at hg1
      rw [← h4] at hg1 h1
      exact tail_none (by have := HLE.out; omega) h1 (by rw [length_unary]; have := HG.out; omega) hg1
  · have HN := Lib.hid hn
    have HQ := Lib.hid hR
    have hk0 := two_cell0 (box_kept HR.out hc).1
    have HC := Lib.hid (box_kept HR.out hc).2
    clear hn hR hc
    go_wp2_with fail
    go_ret2
    refine .inr ⟨fun y hy hg => ?_, _, _, rfl, HQ.out, HC.out⟩
    have hg1 : gam (y + 1).log2 <+: rest s p := (pre_append.1 hg).1
    have a := log2_le (v := y) (n := 48) (by omega)
    have b := log2_le (v := (y + 1).log2) (n := 48) (by omega)
    exact HN.out _ (by omega) (pre_append.1 hg1).1
end
end Go.Proofs.Ytgcediipkojdbaa.bits
