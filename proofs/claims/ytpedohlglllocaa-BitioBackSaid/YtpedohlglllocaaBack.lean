/-
  BitioBack answers true: the walk.
-/
import Derived.Test.YtpedohlglllocaaBackB
import Derived.Test.YtpedohlglllocaaOwn
import Derived.Test.YtpedohlglllocaaBitD
import Derived.Outline
namespace Go.Proofs.Ytpedohlglllocaa.bits
open Go.ChangeShapes Go.WideShapes Go.ChangeAt Go.RowKit
set_option linter.unusedVariables false

/-- a slice of Puts: the number and the width of each -/
structure Puts (w : World) (v : Value) (ao : Option Addr) (len cap : Nat) (V : Nat → Nat) (N : Nat → Int) : Prop where
  val : v = .slice ao len cap
  cells : ∀ i, i < len → ∃ b o, ao = some ⟨b, o, none⟩ ∧ w.cell? ⟨b, o + i * 4 + 1, none⟩ = some (.int .u64 (V i : Int)) ∧ w.cell? ⟨b, o + i * 4 + 2, none⟩ = some (.int .i64 (N i))
  vlt : ∀ i, i < len → V i < 18446744073709551616
  nlt : ∀ i, i < len → -9223372036854775808 ≤ N i ∧ N i ≤ 9223372036854775807

def placesK (V : Nat → Nat) (N : Nat → Int) (k : Nat) : List Nat := (List.range k).map fun j => (bitsK V N j).length
theorem placesK_succ (V : Nat → Nat) (N : Nat → Int) (k : Nat) : placesK V N (k + 1) = placesK V N k ++ [(bitsK V N k).length] := by simp [placesK, List.range_succ]
theorem placesK_length (V : Nat → Nat) (N : Nat → Int) (k : Nat) : (placesK V N k).length = k := by simp [placesK]
theorem trio_ch {w wr : World} {X Y : Nat} {b c : List Bool} {a : Value} {ns : List Nat} (h : Trio w wr X Y b c a ns) : Ch (fun _ => False) w wr := by
  obtain ⟨FX, sX, LX, FY, sY, LY, hX, hY, hd, hr, ha, h1, h2, h3, hc⟩ := h
  exact hc
theorem ch_cell {w wr : World} (hc : Ch (fun _ => False) w wr) {p : Addr} {v : Value} (hp : w.cell? p = some v) : wr.cell? p = some v := by
  rw [World.cell?_of_block (w := w) (hc.block p.block (World.block_lt_of_cell? w p hp) (fun h => h))]
  exact hp
theorem trio_row {w wr : World} {X Y : Nat} {b c : List Bool} {a : Value} {ns : List Nat} (h : Trio w wr X Y b c a ns) : wr.ownsRow 0 3 1 a ns.length (ints ns) := by
  obtain ⟨FX, sX, LX, FY, sY, LY, hX, hY, hd, hr, ha, h1, h2, h3, hc⟩ := h
  exact hr
theorem Try.info3 : (Try.prog.info? 3).map (fun i => (i.zero, i.size, i.bytes)) = some (some (.int .i64 0), 1, 8) := by kernel_rfl

theorem lit_one64 (n : Int) : ∀ u ∈ [Value.int .i64 n], u.oneCell' = true := by intro u hu; simp at hu; subst hu; rfl

theorem bit_val (x r : Nat) (hx : x < 18446744073709551616) : (bits BinOp.and IntKind.u64 ((x : Int) / 2 ^ r) 1 == 1) = x.testBit r := by
  have hd : x / 2 ^ r < 18446744073709551616 := Nat.lt_of_le_of_lt (Nat.div_le_self _ _) hx
  rw [show (x : Int) / 2 ^ r = ((x / 2 ^ r : Nat) : Int) from by simp, show (1 : Int) = ((1 : Nat) : Int) from rfl, u64_and_nat _ _ hd (by omega), nat_mask1, Nat.testBit_eq_decide_div_mod_eq, Bool.eq_iff_iff]
  simp only [beq_iff_eq, decide_eq_true_eq]
  omega
theorem bit_step (x r m : Nat) : ofNum (x / 2 ^ r) (m + 1) = ofNum (x / 2 ^ (r + 1)) m ++ [x.testBit r] := by
  rw [ofNum_append (x / 2 ^ r) m 1, Nat.div_div_eq_div_mul, ← Nat.pow_add]
  simp only [ofNum]
  rw [Nat.testBit_div_two_pow, Nat.zero_add]

set_option maxRecDepth 100000 in
set_option maxHeartbeats 8000000 in
theorem back_walk (lv : Value) (ao : Option Addr) (len cap : Nat) (V VV : Nat → Nat) (N : Nat → Int) (w : World) (hVV : ∀ i, VV i = V i % 2 ^ widthOf (N i)) (hp : Puts w lv ao len cap V N) (hlen : len ≤ 9223372036854775807) :
    Calls Try.prog 6 #[lv] w fun e w' => e = .returned (.bool true) ∧ Ch (fun _ => False) w w' := by
  obtain ⟨hval, hcells, hvlt, hnlt⟩ := hp
  subst hval
  obtain ⟨X, hX⟩ : ∃ X, X = w.heap.size := ⟨_, rfl⟩
  have HT := Lib.hid (trio_start w)
  rw [← hX] at HT
  go_enter Try.func6, Try.ntmps6
  go_wp2_with fail
  refine (new_any _).mono ?_
  rintro e w1 ⟨rfl, rfl⟩
  go_wp2_with fail
  refine (new_any _).mono ?_
  rintro e w2 ⟨rfl, rfl⟩
  go_wp2_with fail
  rw [← hX]
  generalize (w.alloc (.cells #[.slice none 0 0, .int .i64 0] 70)).alloc (.cells #[.slice none 0 0, .int .i64 0] 70) = w2 at HT ⊢
  clear hX
  obtain ⟨i0, hi, hz0, hz1, hz2⟩ := info_parts Try.info3
  go_loopw [5, 6] (fun a i wr => ∃ k : Nat, k ≤ len ∧ k ≤ 200 ∧ i = .int .i64 ↑k ∧ Trio w wr X (X + 1) (bitsK VV N k) (bitsK VV N k) a (placesK VV N k)) (fun _ i _ => 200 - (intOf i).toNat)
  case atStart => exact ⟨0, Nat.zero_le _, Nat.zero_le _, rfl, HT.out⟩
  case round =>
    obtain ⟨k, hk, hk2, rfl, hT⟩ := hrel
    have HT1 := Lib.hid hT
    clear hT HT
    by_cases hlt : k < len
    · by_cases hlt2 : k < 200
      · obtain ⟨b, o, rfl, hc1, hc2⟩ := hcells k hlt
        have hc1' := ch_cell (trio_ch HT1.out) hc1
        have hc2' := ch_cell (trio_ch HT1.out) hc2
        have hV := hvlt k hlt
        have hN := hnlt k hlt
        obtain ⟨vv, hvv⟩ : ∃ vv, vv = V k := ⟨_, rfl⟩
        obtain ⟨nn, hnn⟩ : ∃ nn, nn = N k := ⟨_, rfl⟩
        rw [← hvv] at hc1' hV
        rw [← hnn] at hc2' hN
        obtain ⟨hw1, hw2⟩ := width_bd nn
        have hw3 := width_eq nn
        have hw4 := width_le nn
        obtain ⟨n, hn⟩ : ∃ n, n = widthOf nn := ⟨_, rfl⟩
        rw [← hn] at hw3 hw4
        have HXX : Hid (VV k = vv % 2 ^ n) := Lib.hid (by rw [hVV k, hn, hnn, hvv])
        have HNN : Hid (widthOf (N k) = n) := Lib.hid (by rw [hn, hnn])
        have hVi : (vv : Int) ≤ 18446744073709551615 := by omega
        obtain ⟨x, hx⟩ : ∃ x, x = vv % 2 ^ n := ⟨_, rfl⟩
        have HX := Lib.hid hx
        have HXL : Hid (x < 2 ^ n) := Lib.hid (by rw [hx]; exact Nat.mod_lt _ (Nat.two_pow_pos _))
        have HBL := Lib.hid (bitsK_len VV N k)
        clear hc1 hc2 hcells hvv hnn hn hvlt hnlt
        by_cases h64 : n < 64
        · have e8 : IntKind.u64.wrap (2 ^ n) = ((2 ^ n : Nat) : Int) := by
            have h1 : 2 ^ n < 2 ^ 64 := Nat.pow_lt_pow_right (by omega) h64
            rw [PlainAid.u64_nonneg (by rw [show (2 ^ n : Int) = ((2 ^ n : Nat) : Int) from by simp]; omega) (by rw [show (2 ^ n : Int) = ((2 ^ n : Nat) : Int) from by simp]; omega)]; simp
          have hp0 : 0 < 2 ^ n := Nat.two_pow_pos n
          obtain ⟨M, hM⟩ : ∃ M, M = 2 ^ n := ⟨_, rfl⟩
          rw [← hM] at e8 hp0 hx
          have e9 : (vv : Int) % (M : Int) = (x : Int) := by rw [hx]; simp
          have hMi : (0 : Int) < (M : Int) := by omega
          have hM0 : ((M : Int) == 0) = false := by rw [beq_eq_false_iff_ne]; omega
          clear hM hx
          go_wp2_with (first
            | (go_at_call 13; refine (trio_len HT1.out).mono ?_; rintro e w' ⟨rfl, rfl⟩)
            | (at_builtin; refine wpList_append_mine _ rfl _ _ 64 rfl 3 i0 (.int .i64 0) 1 8 Try.underlying64 hi hz0 hz1 hz2 rfl (by decide) _ _ _ rfl ((trio_row HT1.out).alloc _) ⟨wr.heap.size, 0, none⟩ 1 1 [.int .i64 ((bitsK VV N k).length : Int)] rfl rfl (lit_cell _ _ _) (lit_one64 _) (by decide) (by rw [placesK_length]; unfold maxLen; omega) (by rw [placesK_length]; omega) ?_; intro g cap2 w3 hown3 hgr3 hg3; have HT3 := Lib.hid (trio_at HT1.out hown3 hgr3 hg3); clear hown3 hgr3 hg3)
            | (go_at_call 10; refine (trio_put HT3.out x n hw4 HXL.out (by have := HBL.out; omega)).mono ?_; rintro e w4 ⟨rfl, hq⟩; have HT4 := Lib.hid hq; clear hq))
          go_loopw [9] (fun j wq => ∃ m r : Nat, m + r = n ∧ j = .int .i64 ((r : Int) - 1) ∧ Trio w wq X (X + 1) (bitsK VV N k ++ ofNum x n) (bitsK VV N k ++ ofNum (x / 2 ^ r) m) (.slice (some ⟨g, 0, none⟩) ((placesK VV N k).length + 1) cap2) (placesK VV N k ++ [(bitsK VV N k).length])) (fun j _ => (intOf j + 1).toNat)
          case atStart => exact ⟨0, n, by omega, rfl, by simpa [ofNum] using HT4.out⟩
          case round =>
            obtain ⟨m, r, hmr, rfl, hTq⟩ := hrel
            have HTq := Lib.hid hTq
            have HMR := Lib.hid hmr
            have hr64 : r ≤ 64 := by omega
            clear hTq hmr HT4
            by_cases hr0 : 0 < r
            · obtain ⟨r', rfl⟩ : ∃ r', r = r' + 1 := ⟨r - 1, by omega⟩
              have hr63 : r' ≤ 63 := by omega
              have e10 : (bits BinOp.and IntKind.u64 ((x : Int) / 2 ^ r') 1 == 1) = x.testBit r' := bit_val x r' (by have := HXL.out; have h2 : 2 ^ n ≤ 2 ^ 64 := Nat.pow_le_pow_right (by omega) hw4; omega)
              have HS := Lib.hid (bit_step x r' m)
              have hbb : (bitsK VV N k ++ ofNum (x / 2 ^ (r' + 1)) m).length < 134217728 := by rw [List.length_append, length_ofNum]; have := HBL.out; have := HMR.out; omega
              go_wp2_with fail
              refine (trio_bit HTq.out (x.testBit r') hbb).mono ?_
              rintro e w5 ⟨rfl, hq⟩
              have HT5 := Lib.hid hq
              clear hq hbb
              go_wp2_with fail
              go_roundw
              case rel => exact ⟨m + 1, r', by have := HMR.out; omega, rfl, by rw [HS.out, ← List.append_assoc]; exact HT5.out⟩
              case measure => simp [intOf] <;> omega
            · obtain rfl : r = 0 := by omega
              have hmn : m = n := by have := HMR.out; omega
              have HT6 : Hid (Trio w wr X (X + 1) (bitsK VV N (k + 1)) (bitsK VV N (k + 1)) (.slice (some ⟨g, 0, none⟩) ((placesK VV N k).length + 1) cap2) (placesK VV N (k + 1))) := Lib.hid (by
                have h := HTq.out
                rw [hmn, Nat.pow_zero, Nat.div_one] at h
                rw [placesK_succ]
                simp only [bitsK]
                rw [HXX.out, HNN.out, ← HX.out]
                exact h)
              clear hmn HTq HMR
              go_wp2_with fail
              go_roundw
              case rel => exact ⟨k + 1, by omega, by omega, by go_num, HT6.out⟩
              case measure => simp [intOf] <;> omega
        · have hnx : n = 64 := by omega
          obtain rfl : vv = x := by rw [hx, hnx]; exact (Nat.mod_eq_of_lt hV).symm
          clear hx hnx
          go_wp2_with (first
            | (go_at_call 13; refine (trio_len HT1.out).mono ?_; rintro e w' ⟨rfl, rfl⟩)
            | (at_builtin; refine wpList_append_mine _ rfl _ _ 64 rfl 3 i0 (.int .i64 0) 1 8 Try.underlying64 hi hz0 hz1 hz2 rfl (by decide) _ _ _ rfl ((trio_row HT1.out).alloc _) ⟨wr.heap.size, 0, none⟩ 1 1 [.int .i64 ((bitsK VV N k).length : Int)] rfl rfl (lit_cell _ _ _) (lit_one64 _) (by decide) (by rw [placesK_length]; unfold maxLen; omega) (by rw [placesK_length]; omega) ?_; intro g cap2 w3 hown3 hgr3 hg3; have HT3 := Lib.hid (trio_at HT1.out hown3 hgr3 hg3); clear hown3 hgr3 hg3)
            | (go_at_call 10; refine (trio_put HT3.out vv n hw4 HXL.out (by have := HBL.out; omega)).mono ?_; rintro e w4 ⟨rfl, hq⟩; have HT4 := Lib.hid hq; clear hq))
          go_loopw [9] (fun j wq => ∃ m r : Nat, m + r = n ∧ j = .int .i64 ((r : Int) - 1) ∧ Trio w wq X (X + 1) (bitsK VV N k ++ ofNum vv n) (bitsK VV N k ++ ofNum (vv / 2 ^ r) m) (.slice (some ⟨g, 0, none⟩) ((placesK VV N k).length + 1) cap2) (placesK VV N k ++ [(bitsK VV N k).length])) (fun j _ => (intOf j + 1).toNat)
          case atStart => exact ⟨0, n, by omega, rfl, by simpa [ofNum] using HT4.out⟩
          case round =>
            obtain ⟨m, r, hmr, rfl, hTq⟩ := hrel
            have HTq := Lib.hid hTq
            have HMR := Lib.hid hmr
            have hr64 : r ≤ 64 := by omega
            clear hTq hmr HT4
            by_cases hr0 : 0 < r
            · obtain ⟨r', rfl⟩ : ∃ r', r = r' + 1 := ⟨r - 1, by omega⟩
              have hr63 : r' ≤ 63 := by omega
              have e10 : (bits BinOp.and IntKind.u64 ((vv : Int) / 2 ^ r') 1 == 1) = vv.testBit r' := bit_val vv r' (by have := HXL.out; have h2 : 2 ^ n ≤ 2 ^ 64 := Nat.pow_le_pow_right (by omega) hw4; omega)
              have HS := Lib.hid (bit_step vv r' m)
              have hbb : (bitsK VV N k ++ ofNum (vv / 2 ^ (r' + 1)) m).length < 134217728 := by rw [List.length_append, length_ofNum]; have := HBL.out; have := HMR.out; omega
              go_wp2_with fail
              refine (trio_bit HTq.out (vv.testBit r') hbb).mono ?_
              rintro e w5 ⟨rfl, hq⟩
              have HT5 := Lib.hid hq
              clear hq hbb
              go_wp2_with fail
              go_roundw
              case rel => exact ⟨m + 1, r', by have := HMR.out; omega, rfl, by rw [HS.out, ← List.append_assoc]; exact HT5.out⟩
              case measure => simp [intOf] <;> omega
            · obtain rfl : r = 0 := by omega
              have hmn : m = n := by have := HMR.out; omega
              have HT6 : Hid (Trio w wr X (X + 1) (bitsK VV N (k + 1)) (bitsK VV N (k + 1)) (.slice (some ⟨g, 0, none⟩) ((placesK VV N k).length + 1) cap2) (placesK VV N (k + 1))) := Lib.hid (by
                have h := HTq.out
                rw [hmn, Nat.pow_zero, Nat.div_one] at h
                rw [placesK_succ]
                simp only [bitsK]
                rw [HXX.out, HNN.out, ← HX.out]
                exact h)
              clear hmn HTq HMR
              go_wp2_with fail
              go_roundw
              case rel => exact ⟨k + 1, by omega, by omega, by go_num, HT6.out⟩
              case measure => simp [intOf] <;> omega
      · obtain ⟨FX, sX, LX, FY, sY, LY, hX, hY, hd, hr, ha, h1, h2, h3, hc⟩ := HT1.out
        have hLL := hX.packs.unique hY.packs
        subst hLL
        obtain ⟨ao2, cap2, hav, hcl⟩ := row_slice hr
        rw [placesK_length] at hav hcl
        subst hav
        have HX := Lib.hid hX
        have HY := Lib.hid hY
        have HBL := Lib.hid (bitsK_len VV N k)
        have hsz : (ByteArray.mk LX.toArray).size ≤ 1152921504606846975 := by have := hX.packs.room; have h4 := hX.max; rw [size_text]; omega
        have HSZ := Lib.hid hsz
        have HFIN : Hid (∀ w5, Rd w5 (wr.heap.size + 1) wr.heap.size (fun g => g = wr.heap.size ∨ g = wr.heap.size + 1) ⟨LX.toArray⟩ 0 → Ch (fun _ => False) wr w5 → Fin w w5 X (wr.heap.size + 1) wr.heap.size FX (fun g => g = wr.heap.size ∨ g = wr.heap.size + 1) (bitsK VV N k) sX LX ao2 k (fun j => (bitsK VV N j).length) ⟨LX.toArray⟩ 0) := Lib.hid (by
          intro w5 hR hC
          have hs := hc.size
          refine ⟨hX.kept hC (fun _ _ h => h), hR, fun g hg h => by have := hX.live g hg; omega, fun j hj => ?_, fun g hg => by omega, hc.trans hC fun _ h => h.elim⟩
          obtain ⟨g, hg1, hg2, hg3⟩ := hcl j hj
          have hgl := own_lt hr hg2
          refine ⟨g, hg1, fun h => by omega, ?_⟩
          rw [World.cell?_of_block (w := wr) (hC.block g hgl (fun h => h)), hg3]
          simp [placesK, ints, hj])
        clear hX hY hd hr ha h1 h2 h3 hc hcl hsz HT1
        go_wp2_with fail
        refine (wtext_any HX.out).mono ?_
        rintro e w' ⟨rfl, rfl⟩
        go_wp2_with fail
        refine (wtext_any HY.out).mono ?_
        rintro e w' ⟨rfl, rfl⟩
        go_wp2_with fail
        refine (open_any _ _ HSZ.out).mono ?_
        rintro e w5 ⟨rfl, hR, hC5⟩
        have HF := Lib.hid (HFIN.out w5 hR hC5)
        have HPK := Lib.hid HX.out.packs
        clear hR hC5 HFIN HX HY
        obtain ⟨R, hR⟩ : ∃ R, R = wr.heap.size + 1 := ⟨_, rfl⟩
        obtain ⟨S, hS⟩ : ∃ S, S = wr.heap.size := ⟨_, rfl⟩
        rw [← hR, ← hS] at HF
        rw [← hR]
        generalize (fun g => g = S ∨ g = R) = FR at HF
        clear hR hS
        go_wp2_with fail
        go_loopw [15] (fun i wq => ∃ j : Nat, j ≤ k ∧ i = .int .i64 ((j : Int) - 1) ∧ ∃ p, Fin w wq X R S FX FR (bitsK VV N k) sX LX ao2 k (fun j => (bitsK VV N j).length) ⟨LX.toArray⟩ p) (fun i _ => (intOf i + 1).toNat)
        case atStart => exact ⟨k, Nat.le_refl _, rfl, 0, HF.out⟩
        case round =>
          obtain ⟨j, hj, rfl, p, hF⟩ := hrel
          have HF1 := Lib.hid hF
          clear hF HF
          by_cases hj0 : 0 < j
          · obtain ⟨j', rfl⟩ : ∃ j', j = j' + 1 := ⟨j - 1, by omega⟩
            obtain ⟨b, o, rfl, hc1, hc2⟩ := hcells j' (by omega)
            obtain ⟨g, rfl, hng, hcg⟩ := HF1.out.row j' (by omega)
            have hc1' := ch_cell HF1.out.ch hc1
            have hc2' := ch_cell HF1.out.ch hc2
            have hV := hvlt j' (by omega)
            have hN := hnlt j' (by omega)
            obtain ⟨vv, hvv⟩ : ∃ vv, vv = V j' := ⟨_, rfl⟩
            obtain ⟨nn, hnn⟩ : ∃ nn, nn = N j' := ⟨_, rfl⟩
            rw [← hvv] at hc1' hV
            rw [← hnn] at hc2' hN
            obtain ⟨hw1, hw2⟩ := width_bd nn
            have hw3 := width_eq nn
            have hw4 := width_le nn
            obtain ⟨n, hn⟩ : ∃ n, n = widthOf nn := ⟨_, rfl⟩
            rw [← hn] at hw3 hw4
            have hVi : (vv : Int) ≤ 18446744073709551615 := by omega
            obtain ⟨x, hx⟩ : ∃ x, x = vv % 2 ^ n := ⟨_, rfl⟩
            obtain ⟨r, hpre⟩ := bitsK_prefix VV N j' k (by omega)
            have hrm := HPK.out.room
            have hlp := congrArg List.length hpre
            simp only [List.length_append, length_ofNum] at hlp
            rw [show widthOf (N j') = n from by rw [hn, hnn]] at hlp hpre
            have HFV : Hid (fld ⟨LX.toArray⟩ (bitsK VV N j').length n = x) := Lib.hid (by
              rw [fld_of HPK.out hpre, hVV j', show widthOf (N j') = n from by rw [hn, hnn], Nat.mod_mod, hx, hvv])
            obtain ⟨P, hP⟩ : ∃ P, P = (bitsK VV N j').length := ⟨_, rfl⟩
            rw [← hP] at hlp HFV
            have hPi : P ≤ 12800 := by have := bitsK_len VV N j'; omega
            have HPn : Hid (P + n ≤ 8 * (ByteArray.mk LX.toArray).size) := Lib.hid (by rw [size_text]; omega)
            have HPP := Lib.hid hP
            have e11 : IntKind.i64.wrap ((P : Int) + (n : Int)) = ((P + n : Nat) : Int) := by rw [show (P : Int) + (n : Int) = ((P + n : Nat) : Int) from by simp]; exact IntWalk.i64_in _ (by omega)
            have hcg' : wr.cell? ⟨g, j', none⟩ = some (.int .i64 (P : Int)) := by rw [hP]; exact hcg
            clear hc1 hc2 hcells hvv hnn hn hvlt hnlt hpre hlp hrm hP hcg hng
            by_cases h64 : n < 64
            · have e8 : IntKind.u64.wrap (2 ^ n) = ((2 ^ n : Nat) : Int) := by
                have h1 : 2 ^ n < 2 ^ 64 := Nat.pow_lt_pow_right (by omega) h64
                rw [PlainAid.u64_nonneg (by rw [show (2 ^ n : Int) = ((2 ^ n : Nat) : Int) from by simp]; omega) (by rw [show (2 ^ n : Int) = ((2 ^ n : Nat) : Int) from by simp]; omega)]; simp
              have hp0 : 0 < 2 ^ n := Nat.two_pow_pos n
              obtain ⟨M, hM⟩ : ∃ M, M = 2 ^ n := ⟨_, rfl⟩
              rw [← hM] at e8 hp0 hx
              have e9 : (vv : Int) % (M : Int) = (x : Int) := by rw [hx]; simp
              have hMi : (0 : Int) < (M : Int) := by omega
              have hM0 : ((M : Int) == 0) = false := by rw [beq_eq_false_iff_ne]; omega
              clear hM hx
              go_wp2_with fail
              refine (fin_seek HF1.out P (by have := HPn.out; omega)).mono ?_
              rintro e w6 ⟨rfl, hq⟩
              have HF2 := Lib.hid hq
              clear hq hcg'
              go_wp2_with fail
              refine (fin_take HF2.out n hw4 HPn.out).mono ?_
              rintro e w7 ⟨rfl, hq⟩
              rw [HFV.out]
              have HF3 := Lib.hid hq
              obtain ⟨g', hg', _, hcg7⟩ := hq.row j' (by omega)
              obtain rfl : g = g' := by simpa using hg'
              have hcg' : w7.cell? ⟨g, j', none⟩ = some (.int .i64 (P : Int)) := by rw [HPP.out]; exact hcg7
              clear hq hg' hcg7 HF2
              go_wp2_with fail
              go_quiet ((go_at_call 23; exact quiet_at HF3.out.reader _))
              go_wp2_with fail
              go_roundw
              case rel => exact ⟨j', by omega, rfl, P + n, HF3.out.step (HF3.out.reader.drewN _) ((Ch.refl FR w7).drewN _)⟩
              case measure => simp [intOf] <;> omega
            · have hnx : n = 64 := by omega
              obtain rfl : vv = x := by rw [hx, hnx]; exact (Nat.mod_eq_of_lt hV).symm
              clear hx hnx
              go_wp2_with fail
              refine (fin_seek HF1.out P (by have := HPn.out; omega)).mono ?_
              rintro e w6 ⟨rfl, hq⟩
              have HF2 := Lib.hid hq
              clear hq hcg'
              go_wp2_with fail
              refine (fin_take HF2.out n hw4 HPn.out).mono ?_
              rintro e w7 ⟨rfl, hq⟩
              rw [HFV.out]
              have HF3 := Lib.hid hq
              obtain ⟨g', hg', _, hcg7⟩ := hq.row j' (by omega)
              obtain rfl : g = g' := by simpa using hg'
              have hcg' : w7.cell? ⟨g, j', none⟩ = some (.int .i64 (P : Int)) := by rw [HPP.out]; exact hcg7
              clear hq hg' hcg7 HF2
              go_wp2_with fail
              go_quiet ((go_at_call 23; exact quiet_at HF3.out.reader _))
              go_wp2_with fail
              go_roundw
              case rel => exact ⟨j', by omega, rfl, P + n, HF3.out.step (HF3.out.reader.drewN _) ((Ch.refl FR w7).drewN _)⟩
              case measure => simp [intOf] <;> omega
          · obtain rfl : j = 0 := by omega
            have hrm := HPK.out.room
            have hfr := fld_rest HPK.out
            obtain ⟨B0, hB0⟩ : ∃ B0, B0 = (bitsK VV N k).length := ⟨_, rfl⟩
            rw [← hB0] at hrm hfr
            have HB0 := Lib.hid hB0
            have hsz : (ByteArray.mk LX.toArray).size = LX.length := size_text LX
            have HB1 : Hid (B0 ≤ 8 * (ByteArray.mk LX.toArray).size) := Lib.hid (by omega)
            obtain ⟨D, hD⟩ : ∃ D, D = 8 * LX.length - B0 := ⟨_, rfl⟩
            rw [← hD] at hfr
            have HFR := Lib.hid hfr
            have HD : Hid (8 * (ByteArray.mk LX.toArray).size - B0 = D) := Lib.hid (by omega)
            have HD2 : Hid (B0 + D ≤ 8 * (ByteArray.mk LX.toArray).size) := Lib.hid (by omega)
            have hD8 : D < 8 := by omega
            clear hrm hfr hB0 hsz hD hcells hvlt hnlt
            go_wp2_with fail
            refine (wlen_any HF1.out.writer).mono ?_
            rintro e w' ⟨rfl, rfl⟩
            rw [← HB0.out]
            go_wp2_with fail
            refine (fin_seek HF1.out B0 HB1.out).mono ?_
            rintro e w6 ⟨rfl, hq⟩
            have HF2 := Lib.hid hq
            clear hq
            go_wp2_with fail
            refine (fin_left HF2.out).mono ?_
            rintro e w7 ⟨rfl, hq⟩
            rw [HD.out]
            have HF3 := Lib.hid hq
            clear hq
            go_wp2_with fail
            refine (fin_take HF3.out D (by omega) HD2.out).mono ?_
            rintro e w8 ⟨rfl, hq⟩
            rw [HFR.out]
            have HF4 := Lib.hid hq.ch
            clear hq
            go_wp2_with fail
            refine (awake_any _).mono ?_
            rintro e w9 ⟨rfl, hC9⟩
            have HC9 := Lib.hid (HF4.out.trans hC9 fun _ h => h.elim)
            clear hC9
            go_wp2_with fail
            go_ret
            exact ⟨rfl, HC9.out⟩
    · obtain ⟨FX, sX, LX, FY, sY, LY, hX, hY, hd, hr, ha, h1, h2, h3, hc⟩ := HT1.out
      have hLL := hX.packs.unique hY.packs
      subst hLL
      obtain ⟨ao2, cap2, hav, hcl⟩ := row_slice hr
      rw [placesK_length] at hav hcl
      subst hav
      have HX := Lib.hid hX
      have HY := Lib.hid hY
      have HBL := Lib.hid (bitsK_len VV N k)
      have hsz : (ByteArray.mk LX.toArray).size ≤ 1152921504606846975 := by have := hX.packs.room; have h4 := hX.max; rw [size_text]; omega
      have HSZ := Lib.hid hsz
      have HFIN : Hid (∀ w5, Rd w5 (wr.heap.size + 1) wr.heap.size (fun g => g = wr.heap.size ∨ g = wr.heap.size + 1) ⟨LX.toArray⟩ 0 → Ch (fun _ => False) wr w5 → Fin w w5 X (wr.heap.size + 1) wr.heap.size FX (fun g => g = wr.heap.size ∨ g = wr.heap.size + 1) (bitsK VV N k) sX LX ao2 k (fun j => (bitsK VV N j).length) ⟨LX.toArray⟩ 0) := Lib.hid (by
        intro w5 hR hC
        have hs := hc.size
        refine ⟨hX.kept hC (fun _ _ h => h), hR, fun g hg h => by have := hX.live g hg; omega, fun j hj => ?_, fun g hg => by omega, hc.trans hC fun _ h => h.elim⟩
        obtain ⟨g, hg1, hg2, hg3⟩ := hcl j hj
        have hgl := own_lt hr hg2
        refine ⟨g, hg1, fun h => by omega, ?_⟩
        rw [World.cell?_of_block (w := wr) (hC.block g hgl (fun h => h)), hg3]
        simp [placesK, ints, hj])
      clear hX hY hd hr ha h1 h2 h3 hc hcl hsz HT1
      go_wp2_with fail
      refine (wtext_any HX.out).mono ?_
      rintro e w' ⟨rfl, rfl⟩
      go_wp2_with fail
      refine (wtext_any HY.out).mono ?_
      rintro e w' ⟨rfl, rfl⟩
      go_wp2_with fail
      refine (open_any _ _ HSZ.out).mono ?_
      rintro e w5 ⟨rfl, hR, hC5⟩
      have HF := Lib.hid (HFIN.out w5 hR hC5)
      have HPK := Lib.hid HX.out.packs
      clear hR hC5 HFIN HX HY
      obtain ⟨R, hR⟩ : ∃ R, R = wr.heap.size + 1 := ⟨_, rfl⟩
      obtain ⟨S, hS⟩ : ∃ S, S = wr.heap.size := ⟨_, rfl⟩
      rw [← hR, ← hS] at HF
      rw [← hR]
      generalize (fun g => g = S ∨ g = R) = FR at HF
      clear hR hS
      go_wp2_with fail
      go_loopw [15] (fun i wq => ∃ j : Nat, j ≤ k ∧ i = .int .i64 ((j : Int) - 1) ∧ ∃ p, Fin w wq X R S FX FR (bitsK VV N k) sX LX ao2 k (fun j => (bitsK VV N j).length) ⟨LX.toArray⟩ p) (fun i _ => (intOf i + 1).toNat)
      case atStart => exact ⟨k, Nat.le_refl _, rfl, 0, HF.out⟩
      case round =>
        obtain ⟨j, hj, rfl, p, hF⟩ := hrel
        have HF1 := Lib.hid hF
        clear hF HF
        by_cases hj0 : 0 < j
        · obtain ⟨j', rfl⟩ : ∃ j', j = j' + 1 := ⟨j - 1, by omega⟩
          obtain ⟨b, o, rfl, hc1, hc2⟩ := hcells j' (by omega)
          obtain ⟨g, rfl, hng, hcg⟩ := HF1.out.row j' (by omega)
          have hc1' := ch_cell HF1.out.ch hc1
          have hc2' := ch_cell HF1.out.ch hc2
          have hV := hvlt j' (by omega)
          have hN := hnlt j' (by omega)
          obtain ⟨vv, hvv⟩ : ∃ vv, vv = V j' := ⟨_, rfl⟩
          obtain ⟨nn, hnn⟩ : ∃ nn, nn = N j' := ⟨_, rfl⟩
          rw [← hvv] at hc1' hV
          rw [← hnn] at hc2' hN
          obtain ⟨hw1, hw2⟩ := width_bd nn
          have hw3 := width_eq nn
          have hw4 := width_le nn
          obtain ⟨n, hn⟩ : ∃ n, n = widthOf nn := ⟨_, rfl⟩
          rw [← hn] at hw3 hw4
          have hVi : (vv : Int) ≤ 18446744073709551615 := by omega
          obtain ⟨x, hx⟩ : ∃ x, x = vv % 2 ^ n := ⟨_, rfl⟩
          obtain ⟨r, hpre⟩ := bitsK_prefix VV N j' k (by omega)
          have hrm := HPK.out.room
          have hlp := congrArg List.length hpre
          simp only [List.length_append, length_ofNum] at hlp
          rw [show widthOf (N j') = n from by rw [hn, hnn]] at hlp hpre
          have HFV : Hid (fld ⟨LX.toArray⟩ (bitsK VV N j').length n = x) := Lib.hid (by
            rw [fld_of HPK.out hpre, hVV j', show widthOf (N j') = n from by rw [hn, hnn], Nat.mod_mod, hx, hvv])
          obtain ⟨P, hP⟩ : ∃ P, P = (bitsK VV N j').length := ⟨_, rfl⟩
          rw [← hP] at hlp HFV
          have hPi : P ≤ 12800 := by have := bitsK_len VV N j'; omega
          have HPn : Hid (P + n ≤ 8 * (ByteArray.mk LX.toArray).size) := Lib.hid (by rw [size_text]; omega)
          have HPP := Lib.hid hP
          have e11 : IntKind.i64.wrap ((P : Int) + (n : Int)) = ((P + n : Nat) : Int) := by rw [show (P : Int) + (n : Int) = ((P + n : Nat) : Int) from by simp]; exact IntWalk.i64_in _ (by omega)
          have hcg' : wr.cell? ⟨g, j', none⟩ = some (.int .i64 (P : Int)) := by rw [hP]; exact hcg
          clear hc1 hc2 hcells hvv hnn hn hvlt hnlt hpre hlp hrm hP hcg hng
          by_cases h64 : n < 64
          · have e8 : IntKind.u64.wrap (2 ^ n) = ((2 ^ n : Nat) : Int) := by
              have h1 : 2 ^ n < 2 ^ 64 := Nat.pow_lt_pow_right (by omega) h64
              rw [PlainAid.u64_nonneg (by rw [show (2 ^ n : Int) = ((2 ^ n : Nat) : Int) from by simp]; omega) (by rw [show (2 ^ n : Int) = ((2 ^ n : Nat) : Int) from by simp]; omega)]; simp
            have hp0 : 0 < 2 ^ n := Nat.two_pow_pos n
            obtain ⟨M, hM⟩ : ∃ M, M = 2 ^ n := ⟨_, rfl⟩
            rw [← hM] at e8 hp0 hx
            have e9 : (vv : Int) % (M : Int) = (x : Int) := by rw [hx]; simp
            have hMi : (0 : Int) < (M : Int) := by omega
            have hM0 : ((M : Int) == 0) = false := by rw [beq_eq_false_iff_ne]; omega
            clear hM hx
            go_wp2_with fail
            refine (fin_seek HF1.out P (by have := HPn.out; omega)).mono ?_
            rintro e w6 ⟨rfl, hq⟩
            have HF2 := Lib.hid hq
            clear hq hcg'
            go_wp2_with fail
            refine (fin_take HF2.out n hw4 HPn.out).mono ?_
            rintro e w7 ⟨rfl, hq⟩
            rw [HFV.out]
            have HF3 := Lib.hid hq
            obtain ⟨g', hg', _, hcg7⟩ := hq.row j' (by omega)
            obtain rfl : g = g' := by simpa using hg'
            have hcg' : w7.cell? ⟨g, j', none⟩ = some (.int .i64 (P : Int)) := by rw [HPP.out]; exact hcg7
            clear hq hg' hcg7 HF2
            go_wp2_with fail
            go_quiet ((go_at_call 23; exact quiet_at HF3.out.reader _))
            go_wp2_with fail
            go_roundw
            case rel => exact ⟨j', by omega, rfl, P + n, HF3.out.step (HF3.out.reader.drewN _) ((Ch.refl FR w7).drewN _)⟩
            case measure => simp [intOf] <;> omega
          · have hnx : n = 64 := by omega
            obtain rfl : vv = x := by rw [hx, hnx]; exact (Nat.mod_eq_of_lt hV).symm
            clear hx hnx
            go_wp2_with fail
            refine (fin_seek HF1.out P (by have := HPn.out; omega)).mono ?_
            rintro e w6 ⟨rfl, hq⟩
            have HF2 := Lib.hid hq
            clear hq hcg'
            go_wp2_with fail
            refine (fin_take HF2.out n hw4 HPn.out).mono ?_
            rintro e w7 ⟨rfl, hq⟩
            rw [HFV.out]
            have HF3 := Lib.hid hq
            obtain ⟨g', hg', _, hcg7⟩ := hq.row j' (by omega)
            obtain rfl : g = g' := by simpa using hg'
            have hcg' : w7.cell? ⟨g, j', none⟩ = some (.int .i64 (P : Int)) := by rw [HPP.out]; exact hcg7
            clear hq hg' hcg7 HF2
            go_wp2_with fail
            go_quiet ((go_at_call 23; exact quiet_at HF3.out.reader _))
            go_wp2_with fail
            go_roundw
            case rel => exact ⟨j', by omega, rfl, P + n, HF3.out.step (HF3.out.reader.drewN _) ((Ch.refl FR w7).drewN _)⟩
            case measure => simp [intOf] <;> omega
        · obtain rfl : j = 0 := by omega
          have hrm := HPK.out.room
          have hfr := fld_rest HPK.out
          obtain ⟨B0, hB0⟩ : ∃ B0, B0 = (bitsK VV N k).length := ⟨_, rfl⟩
          rw [← hB0] at hrm hfr
          have HB0 := Lib.hid hB0
          have hsz : (ByteArray.mk LX.toArray).size = LX.length := size_text LX
          have HB1 : Hid (B0 ≤ 8 * (ByteArray.mk LX.toArray).size) := Lib.hid (by omega)
          obtain ⟨D, hD⟩ : ∃ D, D = 8 * LX.length - B0 := ⟨_, rfl⟩
          rw [← hD] at hfr
          have HFR := Lib.hid hfr
          have HD : Hid (8 * (ByteArray.mk LX.toArray).size - B0 = D) := Lib.hid (by omega)
          have HD2 : Hid (B0 + D ≤ 8 * (ByteArray.mk LX.toArray).size) := Lib.hid (by omega)
          have hD8 : D < 8 := by omega
          clear hrm hfr hB0 hsz hD hcells hvlt hnlt
          go_wp2_with fail
          refine (wlen_any HF1.out.writer).mono ?_
          rintro e w' ⟨rfl, rfl⟩
          rw [← HB0.out]
          go_wp2_with fail
          refine (fin_seek HF1.out B0 HB1.out).mono ?_
          rintro e w6 ⟨rfl, hq⟩
          have HF2 := Lib.hid hq
          clear hq
          go_wp2_with fail
          refine (fin_left HF2.out).mono ?_
          rintro e w7 ⟨rfl, hq⟩
          rw [HD.out]
          have HF3 := Lib.hid hq
          clear hq
          go_wp2_with fail
          refine (fin_take HF3.out D (by omega) HD2.out).mono ?_
          rintro e w8 ⟨rfl, hq⟩
          rw [HFR.out]
          have HF4 := Lib.hid hq.ch
          clear hq
          go_wp2_with fail
          refine (awake_any _).mono ?_
          rintro e w9 ⟨rfl, hC9⟩
          have HC9 := Lib.hid (HF4.out.trans hC9 fun _ h => h.elim)
          clear hC9
          go_wp2_with fail
          go_ret
          exact ⟨rfl, HC9.out⟩

end Go.Proofs.Ytpedohlglllocaa.bits
