/-
  BitioReads answers true: the walk.
-/
import Derived.Test.YtpedohlglllocaaReadsA
import Derived.Deep.RegionHeld3
import Derived.Outline
namespace Go.Proofs.Ytpedohlglllocaa.bits
open Go.ChangeShapes Go.WideShapes Go.ChangeAt Go.RowKit
set_option linter.unusedVariables false

/-- a slice of Takes: the kind and the number of each -/
structure Takes (w : World) (lv : Value) (ao : Option Addr) (len cap : Nat) (K N : Nat → Int) : Prop where
  val : lv = .slice ao len cap
  cells : ∀ i, i < len → ∃ b o, ao = some ⟨b, o, none⟩ ∧ w.cell? ⟨b, o + i * 2, none⟩ = some (.int .i64 (K i)) ∧ w.cell? ⟨b, o + i * 2 + 1, none⟩ = some (.int .i64 (N i))

theorem ch_cell2 {w wr : World} (hc : Ch (fun _ => False) w wr) {p : Addr} {v : Value} (hp : w.cell? p = some v) : wr.cell? p = some v := by
  rw [World.cell?_of_block (w := w) (hc.block p.block (World.block_lt_of_cell? w p hp) (fun h => h))]
  exact hp

theorem row_shape {w : World} {base : Nat} {e : TypeId} {size : Nat} {v : Value} {n : Nat} {xs : List Value} (h : w.ownsRow base e size v n xs) : ∃ ao cap, v = .slice ao n cap := by
  rcases h.2 with ⟨rfl, rfl⟩ | ⟨g, cap, cur, rfl, _⟩
  · exact ⟨none, 0, rfl⟩
  · exact ⟨some ⟨g, 0, none⟩, cap, rfl⟩

theorem quiet_atR {w : World} {R T : Nat} {F : Nat → Prop} {s : ByteArray} {a : Nat} (h : Rd w R T F s a) (n : Nat) :
    Calls Try.prog 23 #[.pointer (some ⟨R, 0, none⟩)] (w.drewN n) fun e w'' => e = .returned (.int .i64 a) ∧ ∃ m, w'' = w.drewN m :=
  (at_any (h.drewN n)).mono fun _ _ ⟨he, hq⟩ => ⟨he, n, hq.symm⟩
theorem quiet_leftR {w : World} {R T : Nat} {F : Nat → Prop} {s : ByteArray} {a : Nat} (h : Rd w R T F s a) (n : Nat) :
    Calls Try.prog 24 #[.pointer (some ⟨R, 0, none⟩)] (w.drewN n) fun e w'' => e = .returned (.int .i64 ((8 * s.size - a : Nat) : Int)) ∧ ∃ m, w'' = w.drewN m :=
  (left_any (h.drewN n)).mono fun _ _ ⟨he, q, hq⟩ => ⟨he, n + q, by rw [hq, World.drewN_drewN]⟩

set_option maxRecDepth 100000 in
set_option maxHeartbeats 1600000 in
theorem reads_walk (s : ByteArray) (lv : Value) (ao : Option Addr) (len cap : Nat) (K N : Nat → Int) (w : World) (hp : Takes w lv ao len cap K N) (hs : s.size ≤ 17592186044416) (hlen : len ≤ 9223372036854775807) :
    Calls Try.prog 4 #[.string s, lv] w fun e w' => e = .returned (.bool true) ∧ Ch (fun _ => False) w w' := by
  obtain ⟨hval, hcells⟩ := hp
  subst hval
  go_enter Try.func4, Try.ntmps4
  go_wp2_with fail
  refine (open_any s _ (by omega)).mono ?_
  rintro e w1 ⟨rfl, hR, h1⟩
  have HR := Lib.hid hR
  have H1 := Lib.hid h1
  clear hR h1
  go_wp2_with fail
  refine (rbits_any s _ hs).mono ?_
  rintro e w2 ⟨v, rfl, hn⟩
  have HT := Lib.hid (two_start HR.out H1.out hn)
  obtain ⟨vao, vcap, hv⟩ := row_shape hn.1
  rw [bits_len] at hv
  subst hv
  clear hn HR H1
  go_wp2_with fail
  obtain ⟨R, hR⟩ : ∃ R, R = w.heap.size + 1 := ⟨_, rfl⟩
  obtain ⟨Q, hQ⟩ : ∃ Q, Q = w2.heap.size := ⟨_, rfl⟩
  obtain ⟨T, hT⟩ : ∃ T, T = w.heap.size := ⟨_, rfl⟩
  rw [← hR, ← hQ, ← hT] at HT
  rw [← hR, ← hQ]
  generalize w2.alloc (.cells #[.slice vao (8 * s.size) vcap, .int .i64 0] 47) = w3 at HT ⊢
  generalize (fun g => g = T ∨ g = R) = FR at HT
  generalize (fun g => g = Q ∨ (Value.slice vao (8 * s.size) vcap).ownBlock = some g) = FQ at HT
  clear hR hQ hT
  go_loopw [7] (fun i wr => ∃ k : Nat, k ≤ len ∧ k ≤ 100 ∧ i = .int .i64 ↑k ∧ ∃ p, Two w wr R T Q FR FQ (.slice vao (8 * s.size) vcap) s p p) (fun i _ => 100 - (intOf i).toNat)
  case atStart => exact ⟨0, Nat.zero_le _, Nat.zero_le _, rfl, 0, HT.out⟩
  case round =>
    obtain ⟨k, hk, hk2, rfl, p, hT⟩ := hrel
    have HT1 := Lib.hid hT
    clear hT HT
    by_cases hlt : k < len
    · by_cases hlt2 : k < 100
      · obtain ⟨b, o, rfl, hc1, hc2⟩ := hcells k hlt
        have hc1' := ch_cell2 HT1.out.ch hc1
        have hc2' := ch_cell2 HT1.out.ch hc2
        obtain ⟨kk, hkk⟩ : ∃ kk, kk = K k := ⟨_, rfl⟩
        obtain ⟨nn, hnn⟩ : ∃ nn, nn = N k := ⟨_, rfl⟩
        rw [← hkk] at hc1' hc1
        rw [← hnn] at hc2' hc2
        have HC2 := Lib.hid hc2
        clear hc1 hc2 hkk hnn hcells
        by_cases k0 : kk = 0
        · have t0 : (kk == 0) = true := by simpa using k0
          clear k0
          go_wp2_with fail
          refine (two_bitR HT1.out).mono ?_
          rintro e w4 ⟨rfl, hq⟩
          have HT2 := Lib.hid hq
          clear hq
          go_wp2_with fail
          refine (two_bitQ HT2.out hs).mono ?_
          rintro e w5 ⟨rfl, hq⟩
          have HT3 := Lib.hid hq
          clear hq HT2
          go_wp2_with fail
          obtain ⟨np, hnp⟩ : ∃ np, np = (bt1 s p).2.2 := ⟨_, rfl⟩
          rw [← hnp] at HT3
          clear hnp
          have hcA := two_cell0 HT3.out.rr.head
          have hcB := two_cell1 HT3.out.rr.head
          have hple := HT3.out.rd.le
          have e1 : IntKind.i64.wrap (8 * (s.size : Int) - (np : Int)) = ((8 * s.size - np : Nat) : Int) := by
            rw [show 8 * (s.size : Int) - (np : Int) = ((8 * s.size - np : Nat) : Int) from by omega]; exact IntWalk.i64_in _ (by omega)
          go_quiet (first | (go_at_call 23; exact quiet_atR HT3.out.rd _) | (go_at_call 24; exact quiet_leftR HT3.out.rd _))
          go_wp2_with fail
          go_roundw
          case rel => exact ⟨k + 1, by omega, by omega, by go_num, np, HT3.out.drewN _⟩
          case measure => simp [intOf] <;> omega
        · by_cases k1 : kk = 1
          · have t0 : (kk == 0) = false := by simpa using k0
            have t1 : (kk == 1) = true := by simpa using k1
            clear k0 k1
            go_wp2_with fail
            refine (two_takeR HT1.out nn).mono ?_
            rintro e w4 ⟨rfl, hq⟩
            have HT2 := Lib.hid hq
            have hc2' := ch_cell2 hq.ch HC2.out
            clear hq
            go_wp2_with fail
            refine (two_takeQ HT2.out hs nn).mono ?_
            rintro e w5 ⟨rfl, hq⟩
            have HT3 := Lib.hid hq
            clear hq HT2
            go_wp2_with fail
            obtain ⟨np, hnp⟩ : ∃ np, np = (tk s p nn).2.2 := ⟨_, rfl⟩
            rw [← hnp] at HT3
            clear hnp
            have hcA := two_cell0 HT3.out.rr.head
            have hcB := two_cell1 HT3.out.rr.head
            have hple := HT3.out.rd.le
            have e1 : IntKind.i64.wrap (8 * (s.size : Int) - (np : Int)) = ((8 * s.size - np : Nat) : Int) := by
              rw [show 8 * (s.size : Int) - (np : Int) = ((8 * s.size - np : Nat) : Int) from by omega]; exact IntWalk.i64_in _ (by omega)
            go_quiet (first | (go_at_call 23; exact quiet_atR HT3.out.rd _) | (go_at_call 24; exact quiet_leftR HT3.out.rd _))
            go_wp2_with fail
            go_roundw
            case rel => exact ⟨k + 1, by omega, by omega, by go_num, np, HT3.out.drewN _⟩
            case measure => simp [intOf] <;> omega
          · by_cases k2 : kk = 2
            · have t0 : (kk == 0) = false := by simpa using k0
              have t1 : (kk == 1) = false := by simpa using k1
              have t2 : (kk == 2) = true := by simpa using k2
              clear k0 k1 k2
              go_wp2_with fail
              go_region_held3 (fun w' => w'.cell? ⟨b, o + k * 2 + 1, none⟩ = some (.int .i64 nn))
                (first | exact hc2' | exact ch_cell2 HT2.out.ch HC2.out | exact ch_cell2 HT3.out.ch HC2.out)
                ((first
                  | (go_at_call 21; refine (two_seekR (HT1.out.same ((Ch.refl _ _).drew)) nn).mono ?_; rintro e w4 ⟨rfl, hq⟩; have HT2 := Lib.hid hq; clear hq)
                  | (go_at_call 22; refine (two_seekQ HT2.out nn).mono ?_; rintro e w5 ⟨rfl, hq⟩; have HT3 := Lib.hid hq; clear hq)))
              go_wp2_with fail
              obtain ⟨np, hnp⟩ : ∃ np, np = (sk s p nn).2 := ⟨_, rfl⟩
              rw [← hnp] at HT3
              clear hnp
              have hcA := two_cell0 HT3.out.rr.head
              have hcB := two_cell1 HT3.out.rr.head
              have hple := HT3.out.rd.le
              have e1 : IntKind.i64.wrap (8 * (s.size : Int) - (np : Int)) = ((8 * s.size - np : Nat) : Int) := by
                rw [show 8 * (s.size : Int) - (np : Int) = ((8 * s.size - np : Nat) : Int) from by omega]; exact IntWalk.i64_in _ (by omega)
              go_quiet (first | (go_at_call 23; exact quiet_atR HT3.out.rd _) | (go_at_call 24; exact quiet_leftR HT3.out.rd _))
              go_wp2_with fail
              go_roundw
              case rel => exact ⟨k + 1, by omega, by omega, by go_num, np, HT3.out.drewN _⟩
              case measure => simp [intOf] <;> omega
            · have t0 : (kk == 0) = false := by simpa using k0
              have t1 : (kk == 1) = false := by simpa using k1
              have t2 : (kk == 2) = false := by simpa using k2
              clear k0 k1 k2
              have HT3 := HT1
              obtain ⟨np, hnp⟩ : ∃ np, np = p := ⟨_, rfl⟩
              rw [← hnp] at HT3
              clear hnp
              go_wp2_with fail
              have hcA := two_cell0 HT3.out.rr.head
              have hcB := two_cell1 HT3.out.rr.head
              have hple := HT3.out.rd.le
              have e1 : IntKind.i64.wrap (8 * (s.size : Int) - (np : Int)) = ((8 * s.size - np : Nat) : Int) := by
                rw [show 8 * (s.size : Int) - (np : Int) = ((8 * s.size - np : Nat) : Int) from by omega]; exact IntWalk.i64_in _ (by omega)
              go_quiet (first | (go_at_call 23; exact quiet_atR HT3.out.rd _) | (go_at_call 24; exact quiet_leftR HT3.out.rd _))
              go_wp2_with fail
              go_roundw
              case rel => exact ⟨k + 1, by omega, by omega, by go_num, np, HT3.out.drewN _⟩
              case measure => simp [intOf] <;> omega
      · clear hcells
        go_wp2_with fail
        refine (awake_any _).mono ?_
        rintro e w9 ⟨rfl, hC9⟩
        have HC9 := Lib.hid (HT1.out.ch.trans hC9 fun _ h => h.elim)
        clear hC9
        go_wp2_with fail
        go_ret
        exact ⟨rfl, HC9.out⟩
    · clear hcells
      go_wp2_with fail
      refine (awake_any _).mono ?_
      rintro e w9 ⟨rfl, hC9⟩
      have HC9 := Lib.hid (HT1.out.ch.trans hC9 fun _ h => h.elim)
      clear hC9
      go_wp2_with fail
      go_ret
      exact ⟨rfl, HC9.out⟩
end Go.Proofs.Ytpedohlglllocaa.bits
