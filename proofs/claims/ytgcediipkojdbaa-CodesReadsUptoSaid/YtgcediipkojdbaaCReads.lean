/-
  CodesReads answers true: the walk.
-/
import Derived.Test.YtgcediipkojdbaaQTold
import Derived.Test.YtgcediipkojdbaaOnce
import Derived.Outline
namespace Go.Proofs.Ytgcediipkojdbaa.bits
open Go.ChangeShapes Go.WideShapes Go.ChangeAt Go.RowKit
set_option linter.unusedVariables false

theorem quiet_atC {w : World} {R T : Nat} {F : Nat → Prop} {s : ByteArray} {a : Nat} (h : Rd w R T F s a) (n : Nat) :
    Calls Try.prog 13 #[.pointer (some ⟨R, 0, none⟩)] (w.drewN n) fun e w'' => e = .returned (.int .i64 a) ∧ ∃ m, w'' = w.drewN m :=
  (at_any (h.drewN n)).mono fun _ _ ⟨he, hq⟩ => ⟨he, n, hq.symm⟩
theorem row_shapeC {w : World} {base : Nat} {e : TypeId} {size : Nat} {v : Value} {n : Nat} {xs : List Value} (h : w.ownsRow base e size v n xs) : ∃ ao cap, v = .slice ao n cap := by
  rcases h.2 with ⟨rfl, rfl⟩ | ⟨g, cap, cur, rfl, _⟩
  · exact ⟨none, 0, rfl⟩
  · exact ⟨some ⟨g, 0, none⟩, cap, rfl⟩

section
variable {w wr : World} {R T Q : Nat} {FR FQ : Nat → Prop} {v : Value} {s : ByteArray} {p q : Nat}
theorem two_readR (h : Two w wr R T Q FR FQ v s p q) (kd K : Nat) (hk : kd < 256) (hK : K < 18446744073709551616) :
    Calls Try.prog 10 #[.pointer (some ⟨R, 0, none⟩), .agg #[.int .u8 kd, .int .u64 K]] wr fun e w' => e = .returned (.tuple #[.int .u64 ((outN s p kd K).1 : Nat), .int .i64 (outN s p kd K).2.1]) ∧ Two w w' R T Q FR FQ v s (outN s p kd K).2.2 q :=
  (read_out h.rd kd K hk hK).mono fun _ _ ⟨he, hr, hc⟩ => ⟨he, h.stepR hr hc⟩
theorem two_readQ (h : Two w wr R T Q FR FQ v s p q) (hs : s.size ≤ 17592186044416) (kd K : Nat) (hk : kd < 256) (hK : K < 18446744073709551616) :
    Calls Try.prog 12 #[.pointer (some ⟨Q, 0, none⟩), .agg #[.int .u8 kd, .int .u64 K]] wr fun e w' => e = .returned (.tuple #[.int .u64 ((outN s q kd K).1 : Nat), .int .i64 (outN s q kd K).2.1]) ∧ Two w w' R T Q FR FQ v s p (outN s q kd K).2.2 :=
  (qread_out ⟨h.rr, hs⟩ kd K hk hK).mono fun _ _ ⟨he, hr, hc⟩ => ⟨he, h.stepQ hr.1 hc⟩
theorem two_own (h : Two w wr R T Q FR FQ v s p q) (kd K : Nat) :
    Calls Try.prog 11 #[.agg #[.int .u8 kd, .int .u64 K]] wr fun e w' => e = .returned (.agg #[.int .u8 kd, .int .u64 K]) ∧ Two w w' R T Q FR FQ v s p q :=
  (own_any kd K wr).mono fun _ _ ⟨he, hc⟩ => ⟨he, h.same hc⟩
end

set_option maxRecDepth 100000 in
set_option maxHeartbeats 1600000 in
theorem creads_walk (s : ByteArray) (lv : Value) (ao : Option Addr) (len cap : Nat) (kd K : Nat → Nat) (w : World) (hp : Cds w lv ao len cap kd K) (hs : s.size ≤ 17592186044416) (hlen : len ≤ 9223372036854775807) :
    Calls Try.prog 3 #[.string s, lv] w fun e w' => e = .returned (.bool true) ∧ Ch (fun _ => False) w w' := by
  obtain ⟨hval, hcells, hfit⟩ := hp
  subst hval
  have HSZ := Lib.hid hs
  go_enter Try.func3, Try.ntmps3
  go_wp2_with fail
  refine (open_any s _ (by omega)).mono ?_
  rintro e w1 ⟨rfl, hR, h1⟩
  have HR := Lib.hid hR
  have H1 := Lib.hid h1
  clear hR h1
  go_wp2_with fail
  refine (rbits_any s _ hs).mono ?_
  rintro e w2 ⟨v, rfl, hn⟩
  have HT := Lib.hid (two_start HR.out H1.out hn)
  obtain ⟨vao, vcap, hv⟩ := row_shapeC hn.1
  rw [bits_len] at hv
  subst hv
  clear hn HR H1
  go_wp2_with fail
  obtain ⟨R, hR⟩ : ∃ R, R = w.heap.size + 1 := ⟨_, rfl⟩
  obtain ⟨Q, hQ⟩ : ∃ Q, Q = w2.heap.size := ⟨_, rfl⟩
  obtain ⟨T, hT⟩ : ∃ T, T = w.heap.size := ⟨_, rfl⟩
  rw [← hR, ← hQ, ← hT] at HT
  rw [← hR, ← hQ]
  generalize w2.alloc (.cells #[.slice vao (8 * s.size) vcap, .int .i64 0] 29) = w3 at HT ⊢
  generalize (fun g => g = T ∨ g = R) = FR at HT
  generalize (fun g => g = Q ∨ (Value.slice vao (8 * s.size) vcap).ownBlock = some g) = FQ at HT
  clear hR hQ hT hs
  go_loopw [7] (fun i wr => ∃ k : Nat, k ≤ len ∧ k ≤ 100 ∧ i = .int .i64 ↑k ∧ ∃ p, Two w wr R T Q FR FQ (.slice vao (8 * s.size) vcap) s p p) (fun i _ => 100 - (intOf i).toNat)
  case atStart => exact ⟨0, Nat.zero_le _, Nat.zero_le _, rfl, 0, HT.out⟩
  case round =>
    obtain ⟨k, hk, hk2, rfl, p, hT⟩ := hrel
    have HT1 := Lib.hid hT
    clear hT HT
    by_cases hlt : k < len
    · by_cases hlt2 : k < 100
      · obtain ⟨b, o, rfl, hc1, hc2⟩ := hcells k hlt
        obtain ⟨hkd, hKK⟩ := hfit k hlt
        have hc1' := ch_cellc HT1.out.ch hc1
        have hc2' := ch_cellc HT1.out.ch hc2
        generalize kd k = a at hc1 hc1' hkd
        generalize K k = c at hc2 hc2' hKK
        have HC1 := Lib.hid hc1
        have HC2 := Lib.hid hc2
        have HKD := Lib.hid hkd
        have HKK := Lib.hid hKK
        clear hc1 hc2 hcells hfit hkd hKK
        go_wp2_with fail
        refine (two_own HT1.out a c).mono ?_
        rintro e w4 ⟨rfl, hq⟩
        have HT2 := Lib.hid hq
        clear hq HT1
        go_wp2_with fail
        refine (two_readR HT2.out a c HKD.out HKK.out).mono ?_
        rintro e w5 ⟨rfl, hq⟩
        have HT3 := Lib.hid hq
        have hc1' := ch_cellc hq.ch HC1.out
        have hc2' := ch_cellc hq.ch HC2.out
        clear hq HT2
        go_wp2_with fail
        refine (two_readQ HT3.out HSZ.out a c HKD.out HKK.out).mono ?_
        rintro e w6 ⟨rfl, hq⟩
        have HT4 := Lib.hid hq
        clear hq HT3
        obtain ⟨np, hnp⟩ : ∃ np, np = (outN s p a c).2.2 := ⟨_, rfl⟩
        rw [← hnp] at HT4
        clear hnp
        have hcB := two_cell1 HT4.out.rr.head
        generalize (outN s p a c).1 = x
        generalize (outN s p a c).2.1 = y
        go_wp2_with fail
        go_quiet ((go_at_call 13; exact quiet_atC HT4.out.rd _))
        go_wp2_with fail
        go_roundw
        case rel => exact ⟨k + 1, by omega, by omega, by go_num, np, HT4.out.drewN _⟩
        case measure => simp [intOf] <;> omega
      · clear hcells hfit
        go_wp2_with fail
        refine (awake2_any _).mono ?_
        rintro e w9 ⟨rfl, hC9⟩
        have HC9 := Lib.hid (HT1.out.ch.trans hC9 fun _ h => h.elim)
        clear hC9
        go_wp2_with fail
        go_ret
        exact ⟨rfl, HC9.out⟩
    · clear hcells hfit
      go_wp2_with fail
      refine (awake2_any _).mono ?_
      rintro e w9 ⟨rfl, hC9⟩
      have HC9 := Lib.hid (HT1.out.ch.trans hC9 fun _ h => h.elim)
      clear hC9
      go_wp2_with fail
      go_ret
      exact ⟨rfl, HC9.out⟩
end Go.Proofs.Ytgcediipkojdbaa.bits
