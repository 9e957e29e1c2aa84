/-
  Layer 2, the document's answers: Read; both readers answer alike.
-/
import Derived.Test.YtgcediipkojdbaaQZeta
import Derived.Outline
namespace Go.Proofs.Ytgcediipkojdbaa.bits
open Go.ChangeShapes Go.WideShapes Go.ChangeAt Go.RowKit
set_option linter.unusedVariables false

/-- what Read answers: the number that stands there; none; no code -/
noncomputable def outN (s : ByteArray) (p kd K : Nat) : Nat × Int × Nat :=
  open Classical in
  if may kd K = true then (if h : ∃ v, v ≤ most kd K ∧ cbits kd K v <+: rest s p then (Classical.choose h, 0, p + (cbits kd K (Classical.choose h)).length) else (0, 4, p)) else (0, 1, p)

theorem outN_bad {s : ByteArray} {p kd K : Nat} (h : may kd K = false) : outN s p kd K = (0, 1, p) := by
  unfold outN
  rw [if_neg (by rw [h]; simp)]
theorem outN_some {s : ByteArray} {p kd K v : Nat} (hm : may kd K = true) (hv : v ≤ most kd K) (hp : cbits kd K v <+: rest s p) : outN s p kd K = (v, 0, p + (cbits kd K v).length) := by
  unfold outN
  have h : ∃ v, v ≤ most kd K ∧ cbits kd K v <+: rest s p := ⟨v, hv, hp⟩
  rw [if_pos hm, dif_pos h]
  have e := cbits_free hm (Classical.choose_spec h).1 hv (Classical.choose_spec h).2 hp
  rw [e]
theorem outN_none {s : ByteArray} {p kd K : Nat} (hm : may kd K = true) (hn : ∀ v, v ≤ most kd K → ¬ cbits kd K v <+: rest s p) : outN s p kd K = (0, 4, p) := by
  unfold outN
  rw [if_pos hm, dif_neg (fun ⟨v, a, b⟩ => hn v a b)]

theorem read_out {w : World} {R T : Nat} {F : Nat → Prop} {s : ByteArray} {p : Nat} (h : Rd w R T F s p) (kd K : Nat) (hk : kd < 256) (hK : K < 18446744073709551616) :
    Calls Try.prog 10 #[.pointer (some ⟨R, 0, none⟩), .agg #[.int .u8 kd, .int .u64 K]] w fun e w' => e = .returned (.tuple #[.int .u64 ((outN s p kd K).1 : Nat), .int .i64 (outN s p kd K).2.1]) ∧ Rd w' R T F s (outN s p kd K).2.2 ∧ Ch F w w' := by
  by_cases hm : may kd K = true
  · refine (read_any h kd K hm).mono ?_
    rintro e w' (⟨v, hv, hp, he, hR, hC⟩ | ⟨hn, he, hR, hC⟩)
    · rw [outN_some hm hv hp]; exact ⟨he, hR, hC⟩
    · rw [outN_none hm hn]; exact ⟨he, hR, hC⟩
  · have hm' : may kd K = false := by simpa using hm
    rw [outN_bad hm']
    exact (read_bad kd K R w hk hK hm').mono fun _ _ ⟨he, hc⟩ => ⟨he, h.kept hc fun _ _ h => h, hc.mono fun _ h => h.elim⟩

section
variable {w : World} {Q : Nat} {F : Nat → Prop} {v : Value} {s : ByteArray} {p : Nat}

theorem read_q (h : RQ w Q F v s p) (kd K : Nat) (hm : may kd K = true) :
    Calls Try.prog 35 #[.pointer (some ⟨Q, 0, none⟩), .agg #[.int .u8 kd, .int .u64 K]] w (QGot w Q F v s p (cbits kd K) (most kd K) 18446744073709551615) := by
  have hm := may_of hm
  unfold most
  by_cases k0 : kd = 0
  · subst k0
    obtain rfl : K = 0 := by omega
    have e : cbits 0 0 = unary := funext fun v => if_pos rfl
    rw [if_pos rfl, e]
    exact read_q0 h
  by_cases k1 : kd = 1
  · subst k1
    obtain rfl : K = 0 := by omega
    have e : cbits 1 0 = gam := funext fun v => by unfold cbits; rw [if_neg (by omega), if_pos rfl]
    rw [if_neg (by omega), if_neg (by omega), e]
    exact read_q1 h
  by_cases k2 : kd = 2
  · subst k2
    obtain rfl : K = 0 := by omega
    have e : cbits 2 0 = del := funext fun v => by unfold cbits; rw [if_neg (by omega), if_neg (by omega), if_pos rfl]
    rw [if_neg (by omega), if_neg (by omega), e]
    exact read_q2 h
  by_cases k3 : kd = 3
  · subst k3
    have e : cbits 3 K = zet K := funext fun v => by unfold cbits; rw [if_neg (by omega), if_neg (by omega), if_neg (by omega), if_pos rfl]
    rw [if_neg (by omega), if_neg (by omega), e]
    exact read_q3 h K (by omega) (by omega)
  obtain rfl : kd = 4 := by omega
  have e : cbits 4 K = fun v => mini v K := funext fun v => by unfold cbits; rw [if_neg (by omega), if_neg (by omega), if_neg (by omega), if_neg (by omega)]
  rw [if_neg (by omega), if_pos rfl, e]
  exact read_q4 h K (by omega) (by omega)

theorem RQ.back {w' : World} {q : Nat} (h : RQ w' Q F v s q) (hp : p ≤ 8 * s.size) : RQ (w'.setCell ⟨Q, 1, none⟩ (.int .i64 (p : Int))) Q F v s p ∧ Ch F w' (w'.setCell ⟨Q, 1, none⟩ (.int .i64 (p : Int))) := by
  obtain ⟨a, b⟩ := h.1.move p (by rw [bits_len]; exact hp)
  exact ⟨⟨a, h.2⟩, b⟩

theorem qread_bad (h : RQ w Q F v s p) (kd K : Nat) (hk : kd < 256) (hK : K < 18446744073709551616) (hm : may kd K = false) :
    Calls Try.prog 12 #[.pointer (some ⟨Q, 0, none⟩), .agg #[.int .u8 kd, .int .u64 K]] w fun e w' => e = .returned (.tuple #[.int .u64 0, .int .i64 1]) ∧ RQ w' Q F v s p ∧ Ch F w w' := by
  have HC := Lib.hid fun W : World => rcheck_any kd K W hk hK
  rw [show ck kd K = 1 from by unfold ck; rw [if_neg (by rw [hm]; simp)]] at HC
  have HE : Hid (∀ o o2 : Obj, RQ ((w.alloc o).alloc o2) Q F v s p ∧ Ch F w ((w.alloc o).alloc o2)) := Lib.hid fun o o2 => ⟨h.kept (((Ch.refl (fun _ => False) w).alloc o).alloc o2) fun _ _ h => h, ((Ch.refl F w).alloc o).alloc o2⟩
  clear h hk hK hm
  go_enter Try.func12, Try.ntmps12
  go_wp2_with (go_at_call 34; refine (HC.out _).mono ?_; rintro e w' ⟨rfl, rfl⟩)
  go_ret2
  exact ⟨rfl, HE.out _ _⟩

set_option maxHeartbeats 1000000 in
theorem qread_ok (h : RQ w Q F v s p) (kd K : Nat) (hk : kd < 256) (hK : K < 18446744073709551616) (hm : may kd K = true) :
    Calls Try.prog 12 #[.pointer (some ⟨Q, 0, none⟩), .agg #[.int .u8 kd, .int .u64 K]] w fun e w' => e = .returned (.tuple #[.int .u64 ((outN s p kd K).1 : Nat), .int .i64 (outN s p kd K).2.1]) ∧ RQ w' Q F v s (outN s p kd K).2.2 ∧ Ch F w w' := by
  have HC := Lib.hid fun W : World => rcheck_any kd K W hk hK
  have HMo := Lib.hid fun W : World => rmost_any kd K W hk hK
  rw [show ck kd K = 0 from if_pos hm] at HC
  rw [show mst kd K = most kd K from if_pos hm] at HMo
  have h2 : RQ ((w.alloc (.cells #[.int .u8 kd, .int .u64 K] 37)).alloc (.cells #[.int .u8 kd, .int .u64 K] 37)) Q F v s p := h.kept (((Ch.refl (fun _ => False) w).alloc _).alloc _) fun _ _ h => h
  have hcQ := two_cell1 h2.1.head
  have HRD := Lib.hid (read_q h2 kd K hm)
  have HR := Lib.hid h
  have HM := Lib.hid hm
  generalize hmo : most kd K = mo at HMo HRD
  have HO := Lib.hid hmo
  clear hk hK hm h hmo
  have hb : ((w.alloc (.cells #[.int .u8 kd, .int .u64 K] 37)).alloc (.cells #[.int .u8 kd, .int .u64 K] 37)).heap[w.heap.size]? = some (.cells #[.int .u8 kd, .int .u64 K] 37 (0, 0)) := by
    rw [Below.heap_alloc _ _ _ (by simp)]; exact heap_alloc_new w _
  have HBX : Hid (∀ w3, Ch F ((w.alloc (.cells #[.int .u8 kd, .int .u64 K] 37)).alloc (.cells #[.int .u8 kd, .int .u64 K] 37)) w3 → w3.heap[w.heap.size]? = some (.cells #[.int .u8 kd, .int .u64 K] 37 (0, 0)) ∧ Ch F w w3) := Lib.hid fun w3 hc => ⟨by
    rw [hc.block _ (by simp; omega) (fun c => absurd (HR.out.1.live _ c) (Nat.lt_irrefl _))]; exact hb, (((Ch.refl F w).alloc _).alloc _).trans hc fun g h => .inl h⟩
  clear h2 hb
  go_enter Try.func12, Try.ntmps12
  go_wp2_with (go_at_call 34; refine (HC.out _).mono ?_; rintro e w' ⟨rfl, rfl⟩)
  refine HRD.out.mono ?_
  rintro e w3 (⟨x, hp, hu, hx, rfl, hR3, hc⟩ | ⟨hn, z, p', rfl, hR3, hc⟩)
  · obtain ⟨hb3, hc3⟩ := HBX.out w3 hc
    have hk0 := two_cell0 hb3
    have hk1 := two_cell1 hb3
    have HP := Lib.hid hp
    have HU := Lib.hid hu
    have HQ := Lib.hid hR3
    have HC3 := Lib.hid hc3
    have HK3 := Lib.hid fun (W : World) (hW : Ch (fun _ => False) w3 W) => two_free ((hR3.kept hW fun _ _ h => h).1.head) 1
    have HK4 := Lib.hid fun (W : World) (hW : Ch (fun _ => False) w3 W) => two_cell1 ((hR3.kept hW fun _ _ h => h).1.head)
    clear hb3 hc3 hp hu hR3 hc
    by_cases le : x ≤ mo
    · have lei : (x : Int) ≤ (mo : Int) := by omega
      have HLE := Lib.hid le
      clear le hx
      go_wp2_with (go_at_call 36; refine (HMo.out _).mono ?_; rintro e w4 ⟨rfl, hq⟩; have HQ4 := Lib.hid hq; clear hq)
      go_ret2
      rw [outN_some HM.out (by rw [HO.out]; exact HLE.out) HP.out]
      exact ⟨rfl, HQ.out.kept HQ4.out fun _ _ h => h, HC3.out.trans HQ4.out fun _ h => h.elim⟩
    · have lei : (mo : Int) < (x : Int) := by omega
      have HLE := Lib.hid le
      clear le hx
      go_wp2_with (go_at_call 36; refine (HMo.out _).mono ?_; rintro e w4 ⟨rfl, hq⟩; have HQ4 := Lib.hid hq; have hf4 := HK3.out _ hq; have hc4 := HK4.out _ hq; clear hq)
      go_ret2
      rw [outN_none HM.out (fun y hy hg => by rw [HO.out] at hy; have := HU.out y hy hg; have := HLE.out; omega)]
      obtain ⟨a, b⟩ := (HQ.out.kept HQ4.out fun _ _ h => h).back HR.out.le
      exact ⟨rfl, a, (HC3.out.trans HQ4.out fun _ h => h.elim).trans b fun g h => .inl h⟩
  · have HN := Lib.hid hn
    obtain ⟨hb3, hc3⟩ := HBX.out w3 hc
    have HQ := Lib.hid hR3
    have HC3 := Lib.hid hc3
    have hf4 := two_free hR3.1.head 1
    have hc4 := two_cell1 hR3.1.head
    clear hn hb3 hc3 hR3 hc
    go_wp2_with fail
    go_ret2
    rw [outN_none HM.out (fun y hy hg => HN.out y (by rw [← HO.out]; exact hy) hg)]
    obtain ⟨a, b⟩ := HQ.out.back HR.out.le
    exact ⟨rfl, a, HC3.out.trans b fun g h => .inl h⟩

theorem qread_out (h : RQ w Q F v s p) (kd K : Nat) (hk : kd < 256) (hK : K < 18446744073709551616) :
    Calls Try.prog 12 #[.pointer (some ⟨Q, 0, none⟩), .agg #[.int .u8 kd, .int .u64 K]] w fun e w' => e = .returned (.tuple #[.int .u64 ((outN s p kd K).1 : Nat), .int .i64 (outN s p kd K).2.1]) ∧ RQ w' Q F v s (outN s p kd K).2.2 ∧ Ch F w w' := by
  by_cases hm : may kd K = true
  · exact qread_ok h kd K hk hK hm
  · have hm' : may kd K = false := by simpa using hm
    rw [outN_bad hm']
    exact qread_bad h kd K hk hK hm'
end
end Go.Proofs.Ytgcediipkojdbaa.bits
