/-
  Layer 1, the document's answers: Bits, Number.
-/
import Derived.Test.YtgcediipkojdbaaRefA
import Derived.Outline
namespace Go.Proofs.Ytgcediipkojdbaa.bits
open Go.ChangeShapes Go.WideShapes Go.ChangeAt Go.RowKit
set_option linter.unusedVariables false

theorem bitsOf_snoc (s : ByteArray) (k : Nat) (h : k < s.size) : bitsOf (s.data.toList.take (k + 1)) = bitsOf (s.data.toList.take k) ++ ofNum (s[k]'h).toNat 8 := by
  rw [List.take_succ_eq_append_getElem (by simpa using h), bitsOf_append, bitsOf_one]
  rfl

set_option maxHeartbeats 2000000 in
theorem rbits_any (s : ByteArray) (w : World) (hs : s.size ≤ 17592186044416) :
    Calls Try.prog 9 #[.string s] w (RowEnd w (bitsOf s.data.toList)) := by
  obtain ⟨i0, hi, hz0, hz1, hz2⟩ := info_parts Try.info4
  go_enter Try.func9, Try.ntmps9
  go_wp2_with fail
  go_loopw [3, 4] (fun a i wr => ∃ k : Nat, k ≤ s.size ∧ i = .int .i64 ↑k ∧ NewRow w wr a (bitsOf (s.data.toList.take k))) (fun _ i _ => s.size - (intOf i).toNat)
  case atStart => exact ⟨0, Nat.zero_le _, rfl, by simpa [bitsOf] using NewRow.nil w⟩
  case round =>
    obtain ⟨k, hk, rfl, hR⟩ := hrel
    have HR := Lib.hid hR
    clear hR
    by_cases hlt : k < s.size
    · have HSN := Lib.hid (bitsOf_snoc s k hlt)
      obtain ⟨c, hc⟩ : ∃ c, c = (s[k]'hlt).toNat := ⟨_, rfl⟩
      have hc8 : c < 256 := by rw [hc]; exact UInt8.toNat_lt _
      have HC := Lib.hid hc
      have HBL : Hid ((bitsOf (s.data.toList.take k)).length = 8 * k) := Lib.hid (by rw [length_bitsOf, List.length_take]; have : s.data.toList.length = s.size := (by simp); omega)
      have hix : ((s[k]'hlt).toNat : Int) = (c : Int) := by rw [hc]
      clear hc
      go_wp2_with fail
      go_loopw [3, 5] (fun a j wq => ∃ m r : Nat, m + r = 8 ∧ j = .int .i64 ((r : Int) - 1) ∧ NewRow w wq a (bitsOf (s.data.toList.take k) ++ ofNum (c / 2 ^ r) m)) (fun _ j _ => (intOf j + 1).toNat)
      case atStart => exact ⟨0, 8, by omega, rfl, by simpa [ofNum] using HR.out⟩
      case round =>
        obtain ⟨m, r, hmr, rfl, hQ⟩ := hrel
        have HQ := Lib.hid hQ
        have HMR := Lib.hid hmr
        have hr64 : r ≤ 8 := by omega
        have hm64 : m ≤ 8 := by omega
        clear hQ hmr
        by_cases hr0 : 0 < r
        · obtain ⟨r', rfl⟩ : ∃ r', r = r' + 1 := ⟨r - 1, by omega⟩
          have hr63 : r' ≤ 7 := by omega
          have e10 := rbit_val8 c r' hc8
          have HS := Lib.hid (rbit_step c r' m)
          have HL : Hid ((bitsOf (s.data.toList.take k) ++ ofNum (c / 2 ^ (r' + 1)) m).length ≤ 8 * k + 7) := Lib.hid (by rw [List.length_append, HBL.out, length_ofNum]; have := HMR.out; omega)
          go_wp2_with (at_builtin; refine wpList_append_mine _ rfl _ _ 26 rfl 4 i0 (.bool false) 1 1 Try.underlying26 hi hz0 hz1 hz2 rfl (by decide) _ _ _ rfl (HQ.out.1.alloc _) ⟨wr.heap.size, 0, none⟩ 1 1 [.bool (c.testBit r')] rfl rfl (lit_cell _ _ _) (lit_oneb _) (by decide) (by have := HL.out; unfold maxLen; omega) (by have := HL.out; omega) ?_; intro g cap2 w3 hown3 hgr3 hg3; have HT3 := Lib.hid (HQ.out.push hown3 hgr3 hg3); clear hown3 hgr3 hg3)
          go_roundw
          case rel => exact ⟨m + 1, r', by have := HMR.out; omega, rfl, by rw [HS.out, ← List.append_assoc]; have h := HT3.out; rw [List.length_append] at h; exact h⟩
          case measure => simp [intOf] <;> omega
        · obtain rfl : r = 0 := by omega
          have HM : Hid (NewRow w wr u3 (bitsOf (s.data.toList.take (k + 1)))) := Lib.hid (by
            have h := HQ.out
            rw [show m = 8 from by have := HMR.out; omega, Nat.pow_zero, Nat.div_one, HC.out] at h
            rw [HSN.out]; exact h)
          clear HMR hr0 HQ
          go_wp2_with fail
          go_roundw
          case rel => exact ⟨k + 1, by omega, by go_num, HM.out⟩
          case measure => simp [intOf] <;> omega
    · have HM : Hid (NewRow w wr u3 (bitsOf s.data.toList)) := Lib.hid (by
        have h := HR.out
        rw [List.take_of_length_le (by simp; omega)] at h
        exact h)
      clear HR
      go_wp2_with fail
      go_ret
      exact ⟨_, rfl, HM.out⟩

theorem num_snoc (l : List Bool) (k : Nat) (h : k < l.length) : num (l.take (k + 1)) = 2 * num (l.take k) + (l[k]).toNat := by
  rw [List.take_succ_eq_append_getElem h, num_append]
  simp [num]
  omega

set_option maxHeartbeats 1000000 in
theorem number_any (ao : Option Addr) (l : List Bool) (cap : Nat) (w : World) (hl : l.length ≤ 64) (hcells : ∀ i, i < l.length → ∃ b o, ao = some ⟨b, o, none⟩ ∧ w.cell? ⟨b, o + i, none⟩ = (bools l)[i]?) :
    Calls Try.prog 59 #[.slice ao l.length cap] w fun e w' => e = .returned (.int .u64 (num l)) ∧ w = w' := by
  obtain ⟨len, hlen⟩ : ∃ len, len = l.length := ⟨_, rfl⟩
  rw [← hlen] at hcells hl ⊢
  have HLEN := Lib.hid hlen
  clear hlen
  go_enter Try.func59, Try.ntmps59
  go_wp2_with fail
  go_loop [3, 4] (fun n i => ∃ k : Nat, k ≤ len ∧ i = .int .i64 ↑k ∧ n = .int .u64 (num (l.take k))) (fun _ i => len - (intOf i).toNat)
  case atStart => exact ⟨0, Nat.zero_le _, rfl, by simp [num]⟩
  case round =>
    obtain ⟨k, hk, rfl, rfl⟩ := hrel
    by_cases hlt : k < len
    · obtain ⟨b, o, rfl, hc⟩ := hcells k hlt
      have hkl : k < l.length := by have := HLEN.out; omega
      have HS := Lib.hid (num_snoc l k hkl)
      rw [show (bools l)[k]? = some (.bool l[k]) from by simp [bools, hkl]] at hc
      have hb := num_lt (l.take k)
      have hb2 : num (l.take k) * 2 + 2 ≤ 18446744073709551616 := by
        have h1 : (l.take k).length ≤ 63 := by rw [List.length_take]; omega
        have h2 : 2 ^ (l.take k).length ≤ 2 ^ 63 := Nat.pow_le_pow_right (by omega) h1
        omega
      obtain ⟨y, hy⟩ : ∃ y, y = num (l.take k) := ⟨_, rfl⟩
      rw [← hy] at hb2 ⊢
      have HY := Lib.hid hy
      generalize hx : l[k] = x at hc HS
      clear hcells hb hy hx
      have hy0 : (0 : Int) ≤ (y : Int) := by omega
      have hyi : (y : Int) * 2 + 2 ≤ 18446744073709551616 := by omega
      cases x
      · go_wp2_with fail
        go_round
        case rel => exact ⟨k + 1, by omega, by go_num, by rw [HS.out, ← HY.out]; simp⟩
        case measure => simp [intOf] <;> omega
      · go_wp2_with fail
        go_round
        case rel => exact ⟨k + 1, by omega, by go_num, by rw [HS.out, ← HY.out]; simp⟩
        case measure => simp [intOf] <;> omega
    · have HE : Hid (l.take k = l) := Lib.hid (List.take_of_length_le (by have := HLEN.out; omega))
      clear hcells
      go_wp2_with fail
      go_ret
      exact ⟨by rw [HE.out]; rfl, rfl⟩
end Go.Proofs.Ytgcediipkojdbaa.bits
