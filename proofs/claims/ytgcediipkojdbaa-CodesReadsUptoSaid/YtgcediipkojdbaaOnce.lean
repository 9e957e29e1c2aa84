/-
  CodesOnce answers true: the walk.
-/
import Derived.Test.YtgcediipkojdbaaSep
import Derived.Outline
namespace Go.Proofs.Ytgcediipkojdbaa.bits
open Go.ChangeShapes Go.WideShapes Go.ChangeAt Go.RowKit
set_option linter.unusedVariables false

/-- a slice of codes that came in -/
structure Cds (w : World) (lv : Value) (ao : Option Addr) (len cap : Nat) (kd K : Nat → Nat) : Prop where
  val : lv = .slice ao len cap
  cells : ∀ i, i < len → ∃ b o, ao = some ⟨b, o, none⟩ ∧ w.cell? ⟨b, o + i * 2, none⟩ = some (.int .u8 (kd i : Int)) ∧ w.cell? ⟨b, o + i * 2 + 1, none⟩ = some (.int .u64 (K i : Int))
  fit : ∀ i, i < len → kd i < 256 ∧ K i < 18446744073709551616

theorem packs_size2 {L : List UInt8} {x : List Bool} (h : Packs L x) (hx : x.length ≤ 134217728) : (ByteArray.mk L.toArray).size ≤ 1152921504606846975 := by
  have := h.len
  have e : (ByteArray.mk L.toArray).size = L.length := by simp [ByteArray.size]
  omega
theorem packs_pre {L : List UInt8} {x : List Bool} (h : Packs L x) : x <+: rest ⟨L.toArray⟩ 0 := by
  obtain ⟨z, _, h⟩ := h
  show x <+: (bitsOf L).drop 0
  rw [h, List.drop_zero]
  exact List.prefix_append _ _

theorem ch_cellc {w wr : World} (hc : Ch (fun _ => False) w wr) {p : Addr} {v : Value} (hp : w.cell? p = some v) : wr.cell? p = some v := by
  rw [World.cell?_of_block (w := w) (hc.block p.block (World.block_lt_of_cell? w p hp) (fun h => h))]
  exact hp

set_option maxHeartbeats 2000000 in
set_option maxRecDepth 100000 in
theorem once_walk (s : ByteArray) (lv : Value) (ao : Option Addr) (len cap : Nat) (kd K : Nat → Nat) (w : World) (hp : Cds w lv ao len cap kd K) (hs : s.size ≤ 1152921504606846975) (hlen : len ≤ 9223372036854775807) :
    Calls Try.prog 6 #[.string s, lv] w fun e w' => e = .returned (.bool true) ∧ Ch (fun _ => False) w w' := by
  obtain ⟨hval, hcells, hfit⟩ := hp
  subst hval
  go_enter Try.func6, Try.ntmps6
  go_wp2_with fail
  refine (st_open (St.nil (Ch.refl _ w)) s hs).mono ?_
  rintro e w1 ⟨R, T, rfl, hS⟩
  have HS := Lib.hid hS
  have HSZ := Lib.hid hs
  clear hS hs
  go_wp2_with fail
  go_loopw [6] (fun i wr => ∃ k : Nat, k ≤ len ∧ k ≤ 60 ∧ i = .int .i64 ↑k ∧ ∃ p, St w wr [aRd R T s p]) (fun i _ => 60 - (intOf i).toNat)
  case atStart => exact ⟨0, Nat.zero_le _, Nat.zero_le _, rfl, 0, HS.out⟩
  case round =>
    obtain ⟨k, hk, hk2, rfl, p, hT⟩ := hrel
    have HT := Lib.hid hT
    clear hT HS
    by_cases hlt : k < len
    · by_cases hlt2 : k < 60
      · obtain ⟨b, o, rfl, hc1, hc2⟩ := hcells k hlt
        obtain ⟨hkd, hKK⟩ := hfit k hlt
        have hc1' := ch_cellc HT.out.ch hc1
        have hc2' := ch_cellc HT.out.ch hc2
        obtain ⟨a, ha⟩ : ∃ a, a = kd k := ⟨_, rfl⟩
        obtain ⟨c, hc⟩ : ∃ c, c = K k := ⟨_, rfl⟩
        rw [← ha] at hc1 hc1' hkd
        rw [← hc] at hc2 hc2' hKK
        have HC1 := Lib.hid hc1
        have HC2 := Lib.hid hc2
        have HKD := Lib.hid hkd
        have HKK := Lib.hid hKK
        clear hc1 hc2 ha hc hcells hfit hkd hKK
        go_wp2_with (go_at_call 13; refine (st_at HT.out).mono ?_; rintro e w' ⟨rfl, rfl⟩)
        refine (st_own HT.out a c).mono ?_
        rintro e w2 ⟨rfl, h2⟩
        have HT2 := Lib.hid h2
        clear h2 HT
        go_wp2_with fail
        by_cases hm : may a c = true
        · refine (st_read HT2.out a c hm).mono ?_
          rintro e w3 (⟨v, hv, hpre, rfl, h3⟩ | ⟨hn, rfl, h3⟩)
          · have HT3 := Lib.hid h3
            have HV := Lib.hid hv
            have HP := Lib.hid hpre
            have hc1' := ch_cellc h3.ch HC1.out
            have hc2' := ch_cellc h3.ch HC2.out
            clear h3 hv hpre HT2
            go_wp2_with fail
            refine (st_new HT3.out).mono ?_
            rintro e w4 ⟨B, rfl, h4⟩
            have HT4 := Lib.hid h4
            have hc1' := ch_cellc h4.ch HC1.out
            have hc2' := ch_cellc h4.ch HC2.out
            clear h4 HT3
            go_wp2_with fail
            refine (st_own HT4.out a c).mono ?_
            rintro e w5 ⟨rfl, h5⟩
            have HT5 := Lib.hid h5
            clear h5 HT4
            go_wp2_with fail
            have hf2 : fits2 a c v = true := by unfold fits2; rw [hm, decide_eq_true HV.out]; rfl
            have hl := cbits_len hm HV.out
            refine (st_put HT5.out a c v HKD.out HKK.out hf2 (by rw [List.length_nil]; omega)).mono ?_
            rintro e w6 ⟨rfl, h6⟩
            rw [List.nil_append] at h6
            obtain ⟨cb, hcb⟩ : ∃ cb, cb = cbits a c v := ⟨_, rfl⟩
            rw [← hcb] at h6 hl HP
            obtain ⟨F6, hR6⟩ := h6.swap.get
            have hple := hR6.le
            have HT6 := Lib.hid h6
            have HLE := Lib.hid hple
            clear h6 hR6 HT5 hm hf2 HV hcb
            obtain ⟨n, hn⟩ : ∃ n, n = cb.length := ⟨_, rfl⟩
            have hn1 : n ≤ 65536 := by omega
            have hsz := HSZ.out
            rw [← hn] at HT6 hple
            have HNN := Lib.hid hn
            have e1 : IntKind.i64.wrap ((p : Int) + (n : Int) - (p : Int)) = (n : Int) := by rw [show (p : Int) + (n : Int) - (p : Int) = (n : Int) from by omega]; exact IntWalk.i64_in _ (by omega)
            clear hl hple hsz hn
            go_wp2_with (first | (go_at_call 20; refine (st_len HT6.out).mono ?_; rintro e w' ⟨rfl, rfl⟩; rw [← HNN.out]) | (go_at_call 13; refine (st_at HT6.out.swap).mono ?_; rintro e w' ⟨rfl, rfl⟩))
            obtain ⟨L, hL, hTX⟩ := st_text HT6.out
            have HL := Lib.hid hL
            refine hTX.mono ?_
            rintro e w' ⟨rfl, rfl⟩
            have HSL := Lib.hid (packs_size2 hL (by have := HNN.out; omega))
            have HPL := Lib.hid (packs_pre hL)
            clear hTX hL
            go_wp2_with fail
            refine (st_open HT6.out ⟨L.toArray⟩ HSL.out).mono ?_
            rintro e w7 ⟨X, TX, rfl, h7⟩
            have HT7 := Lib.hid h7
            clear h7 HT6
            go_wp2_with fail
            refine (st_open HT7.out s HSZ.out).mono ?_
            rintro e w8 ⟨Y, TY, rfl, h8⟩
            have HT8 := Lib.hid h8
            clear h8 HT7
            go_wp2_with fail
            refine (st_seek HT8.out p (by have := HLE.out; omega)).mono ?_
            rintro e w9 ⟨rfl, h9⟩
            have HT9 := Lib.hid h9
            clear h9 HT8
            go_wp2_with fail
            go_loopw [] (fun wq => ∃ q : Nat, q ≤ n ∧ St w wq [aRd X TX ⟨L.toArray⟩ q, aRd Y TY s (p + q), aWr B cb, aRd R T s (p + n)]) (fun wq => n - (intOf ((wq.cell? ⟨X, 2, none⟩).getD (.int .i64 0))).toNat)
            case atStart => exact ⟨0, by omega, HT9.out.swap⟩
            case round =>
              obtain ⟨q, hq, hI⟩ := hrel
              have HI := Lib.hid hI
              obtain ⟨FX, hRX⟩ := hI.get
              have HCX := Lib.hid (three_cell2 hRX.head)
              clear hI hRX HT9
              by_cases hqn : q < n
              · have hcl : q < cb.length := by have := HNN.out; omega
                have g1 := fld_of_pre HPL.out hcl
                have g2 := fld_of_pre HP.out hcl
                rw [Nat.zero_add] at g1
                have hB1 := st_bit HI.out (by omega)
                rw [g1.1, show ((cb[q]'hcl).toNat == 1) = cb[q]'hcl from by cases cb[q]'hcl <;> rfl] at hB1
                have HB1 := Lib.hid hB1
                have HB2 := Lib.hid fun (W : World) (hW : St w W [aRd X TX ⟨L.toArray⟩ (q + 1), aRd Y TY s (p + q), aWr B cb, aRd R T s (p + n)]) => by
                  have := st_bit hW.swap (by omega)
                  rw [g2.1, show ((cb[q]'hcl).toNat == 1) = cb[q]'hcl from by cases cb[q]'hcl <;> rfl] at this
                  exact this
                clear hB1 g1 g2
                generalize cb[q]'hcl = y at HB1 HB2
                clear hcl
                go_wp2_with (first | (go_at_call 20; refine (st_len HI.out.third).mono ?_; rintro e w' ⟨rfl, rfl⟩; rw [← HNN.out]) | (go_at_call 13; refine (st_at HI.out).mono ?_; rintro e w' ⟨rfl, rfl⟩))
                refine HB1.out.mono ?_
                rintro e w10 ⟨rfl, h10⟩
                have HT10 := Lib.hid h10
                clear h10
                go_wp2_with fail
                refine (HB2.out _ HT10.out).mono ?_
                rintro e w11 ⟨rfl, h11⟩
                have HT11 := Lib.hid h11.swap
                obtain ⟨FX2, hRX2⟩ := h11.swap.get
                have HCX2 := Lib.hid (three_cell2 hRX2.head)
                clear h11 HT10 hRX2 HB1 HB2
                cases y
                all_goals
                  go_wp2_with fail
                  go_roundw
                  case rel => exact ⟨q + 1, by omega, HT11.out⟩
                  case measure => rw [HCX.out, HCX2.out]; simp [intOf] <;> omega
              · obtain rfl : q = n := by omega
                go_wp2_with (first | (go_at_call 20; refine (st_len HI.out.third).mono ?_; rintro e w' ⟨rfl, rfl⟩; rw [← HNN.out]) | (go_at_call 13; refine (st_at HI.out).mono ?_; rintro e w' ⟨rfl, rfl⟩))
                go_roundw
                case rel => exact ⟨k + 1, by omega, by omega, by go_num, p + q, HI.out.drop.drop.drop⟩
                case measure => simp [intOf] <;> omega
          · have HT3 := Lib.hid h3
            clear h3 hn HT2
            go_wp2_with fail
            refine (st_at HT3.out).mono ?_
            rintro e w' ⟨rfl, rfl⟩
            go_wp2_with fail
            go_roundw
            case rel => exact ⟨k + 1, by omega, by omega, by go_num, p, HT3.out⟩
            case measure => simp [intOf] <;> omega
        · refine (st_readbad HT2.out a c HKD.out HKK.out (by simpa using hm)).mono ?_
          rintro e w3 ⟨rfl, h3⟩
          have HT3 := Lib.hid h3
          clear h3 HT2 hm
          go_wp2_with fail
          refine (st_at HT3.out).mono ?_
          rintro e w' ⟨rfl, rfl⟩
          go_wp2_with fail
          go_roundw
          case rel => exact ⟨k + 1, by omega, by omega, by go_num, p, HT3.out⟩
          case measure => simp [intOf] <;> omega
      · clear hcells hfit
        go_wp2_with fail
        refine (awake2_any _).mono ?_
        rintro e w9 ⟨rfl, hC9⟩
        have HC9 := Lib.hid (HT.out.ch.trans hC9 fun _ h => h.elim)
        clear hC9
        go_wp2_with fail
        go_ret
        exact ⟨rfl, HC9.out⟩
    · clear hcells hfit
      go_wp2_with fail
      refine (awake2_any _).mono ?_
      rintro e w9 ⟨rfl, hC9⟩
      have HC9 := Lib.hid (HT.out.ch.trans hC9 fun _ h => h.elim)
      clear hC9
      go_wp2_with fail
      go_ret
      exact ⟨rfl, HC9.out⟩
end Go.Proofs.Ytgcediipkojdbaa.bits
