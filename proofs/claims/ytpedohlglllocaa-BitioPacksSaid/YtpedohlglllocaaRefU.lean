/-
  Layer 1: the document's Unpack.
-/
import Derived.Test.YtpedohlglllocaaRefC
import Derived.Test.YtpedohlglllocaaRefP
import Derived.Test.YtpedohlglllocaaUnpack
import Derived.Outline
namespace Go.Proofs.Ytpedohlglllocaa.bits
open Go.ChangeShapes Go.WideShapes Go.ChangeAt Go.RowKit
set_option linter.unusedVariables false

theorem runpack_arg (s : ByteArray) (n c : Int) (w : World) (h : n < 1 ∨ 64 < n ∨ c < 0) :
    Calls Try.prog 28 #[.string s, .int .i64 n, .int .i64 c] w fun e w' => e = .returned (.tuple #[.slice none 0 0, .int .i64 1]) ∧ w = w' := by
  by_cases h1 : n < 1
  · clear h
    go_enter Try.func28, Try.ntmps28
    go_wp2_with fail
    go_ret2
    exact ⟨rfl, rfl⟩
  · by_cases h2 : 64 < n
    · clear h
      go_enter Try.func28, Try.ntmps28
      go_wp2_with fail
      go_ret2
      exact ⟨rfl, rfl⟩
    · have h3 : c < 0 := by omega
      clear h
      go_enter Try.func28, Try.ntmps28
      go_wp2_with fail
      go_ret2
      exact ⟨rfl, rfl⟩

theorem runpack_many (s : ByteArray) (n c : Int) (w : World) (h1 : 1 ≤ n) (h2 : n ≤ 64) (h3 : 0 ≤ c) (h : 134217728 / n < c) :
    Calls Try.prog 28 #[.string s, .int .i64 n, .int .i64 c] w fun e w' => e = .returned (.tuple #[.slice none 0 0, .int .i64 4]) ∧ w = w' := by
  go_enter Try.func28, Try.ntmps28
  go_wp2_with fail
  go_ret2
  exact ⟨rfl, rfl⟩

theorem runpack_len (s : ByteArray) (n c : Nat) (w : World) (h1 : 1 ≤ n) (h2 : n ≤ 64) (h : c ≤ 134217728 / n) (hs : s.size ≤ 1152921504606846975) (hne : s.size ≠ (c * n + 7) / 8) :
    Calls Try.prog 28 #[.string s, .int .i64 n, .int .i64 c] w fun e w' => e = .returned (.tuple #[.slice none 0 0, .int .i64 4]) ∧ w = w' := by
  obtain ⟨hP, hc⟩ := prod_le h1 h
  obtain ⟨P, hPP⟩ : ∃ P : Nat, P = c * n := ⟨_, rfl⟩
  rw [← hPP] at hP hne
  have e1 : IntKind.i64.wrap ((n : Int) * (c : Int)) = (P : Int) := by
    rw [show (n : Int) * (c : Int) = (P : Int) from by rw [hPP, Int.mul_comm]; simp]; exact IntWalk.i64_in _ (by omega)
  have e2 : wrap64 ((n : Int) * (c : Int)) = (P : Int) := by rw [← PlainAid.i64_is]; exact e1
  have hnn : (1 : Int) ≤ (n : Int) := by omega
  have hd : (c : Int) ≤ 134217728 / (n : Int) := by
    rw [show (134217728 : Int) / (n : Int) = ((134217728 / n : Nat) : Int) from by simp]; omega
  have t1 : ((s.size : Int) != ((P : Int) + 7) / 8) = true := by rw [bne_iff_ne]; omega
  have t2 : ((s.size : Int) == ((P : Int) + 7) / 8) = false := by rw [beq_eq_false_iff_ne]; omega
  clear hPP hne h
  go_enter Try.func28, Try.ntmps28
  go_wp2_with fail
  go_ret2
  exact ⟨rfl, rfl⟩

theorem nums_snoc (s : ByteArray) (n k : Nat) : nums s n (k + 1) = nums s n k ++ [fld s (k * n) n] := by simp [nums, List.range_succ]

/-- the document's reader and the numbers that it has taken so far -/
structure Un (w wr : World) (Q : Nat) (FQ : Nat → Prop) (v : Value) (s : ByteArray) (p : Nat) (a : Value) (zs : List Nat) : Prop where
  rr : Rr wr Q FQ v (bitsOf s.data.toList) p
  row : wr.ownsRow 0 30 1 a zs.length (u64s zs)
  apart : ∀ g, a.ownBlock = some g → ¬ FQ g
  newQ : ∀ g, FQ g → w.heap.size ≤ g
  newA : ∀ g, a.ownBlock = some g → w.heap.size ≤ g
  ch : Ch (fun _ => False) w wr

theorem Un.take {w wr wq : World} {Q : Nat} {FQ : Nat → Prop} {v : Value} {s : ByteArray} {p q : Nat} {a : Value} {zs : List Nat} (h : Un w wr Q FQ v s p a zs) (hr : Rr wq Q FQ v (bitsOf s.data.toList) q) (hc : Ch FQ wr wq) : Un w wq Q FQ v s q a zs :=
  ⟨hr, row_kept h.row hc h.apart, h.apart, h.newQ, h.newA, h.ch.trans hc fun g hg => .inr (h.newQ g hg)⟩

theorem Un.push {w wr w1 : World} {Q : Nat} {FQ : Nat → Prop} {v : Value} {s : ByteArray} {p : Nat} {a : Value} {zs : List Nat} {o : Obj} {g cap z : Nat} (h : Un w wr Q FQ v s p a zs)
    (hown : w1.ownsRow 0 30 1 (.slice (some ⟨g, 0, none⟩) (zs.length + 1) cap) (zs.length + 1) (u64s zs ++ [.int .u64 ((z : Nat) : Int)])) (hgr : (wr.alloc o).grownBy w1 a.ownBlock) (hg : a.ownBlock = some g ∨ (wr.alloc o).heap.size ≤ g) :
    Un w w1 Q FQ v s p (.slice (some ⟨g, 0, none⟩) (zs.length + 1) cap) (zs ++ [z]) := by
  have hC : Ch (fun k => a.ownBlock = some k) wr w1 := ((Ch.refl _ wr).alloc o).grown hgr fun k hk => .inl hk
  have hs := h.ch.size
  refine ⟨h.rr.kept hC (fun g hg hk => h.apart g hk hg), by simpa [u64s] using hown, ?_, h.newQ, ?_, h.ch.trans hC fun g hg => .inr (h.newA g hg)⟩
  · intro k hk
    simp [Value.ownBlock] at hk
    subst hk
    rcases hg with hg | hg
    · exact h.apart g hg
    · simp at hg
      exact fun hq => by have := h.rr.live g hq; omega
  · intro k hk
    simp [Value.ownBlock] at hk
    subst hk
    rcases hg with hg | hg
    · exact h.newA g hg
    · simp at hg; omega

theorem row_shapeU {w : World} {base : Nat} {e : TypeId} {size : Nat} {v : Value} {n : Nat} {xs : List Value} (h : w.ownsRow base e size v n xs) : ∃ ao cap, v = .slice ao n cap := by
  rcases h.2 with ⟨rfl, rfl⟩ | ⟨g, cap, cur, rfl, _⟩
  · exact ⟨none, 0, rfl⟩
  · exact ⟨some ⟨g, 0, none⟩, cap, rfl⟩

/-- what the document's Unpack answers where the length fits -/
def RUnpackEnd (s : ByteArray) (n c : Nat) (w : World) (e : Ending) (w' : World) : Prop :=
  Ch (fun _ => False) w w' ∧ ((fld s (c * n) (8 * s.size - c * n) ≠ 0 ∧ e = .returned (.tuple #[.slice none 0 0, .int .i64 4])) ∨
    (fld s (c * n) (8 * s.size - c * n) = 0 ∧ ∃ a, e = .returned (.tuple #[a, .int .i64 0]) ∧ w'.ownsRow 0 30 1 a c (u64s (nums s n c))))

theorem quiet_sameU {P : Program} {f : FuncId} {args : Array Value} {w : World} {n : Nat} {v : Value} (h : Calls P f args (w.drewN n) fun e w' => e = .returned v ∧ w.drewN n = w') :
    Calls P f args (w.drewN n) fun e w'' => e = .returned v ∧ ∃ m, w'' = w.drewN m :=
  h.mono fun _ _ ⟨he, hm⟩ => ⟨he, n, hm.symm⟩

theorem lit_oneu (n : Int) : ∀ u ∈ [Value.int .u64 n], u.oneCell' = true := by intro u hu; simp at hu; subst hu; rfl

set_option maxRecDepth 100000 in
set_option maxHeartbeats 1600000 in
theorem runpack_any (s : ByteArray) (n c : Nat) (w : World) (h1 : 1 ≤ n) (h2 : n ≤ 64) (h : c ≤ 134217728 / n) (hs : s.size = (c * n + 7) / 8) :
    Calls Try.prog 28 #[.string s, .int .i64 n, .int .i64 c] w (RUnpackEnd s n c w) := by
  obtain ⟨hP, hc⟩ := prod_le h1 h
  obtain ⟨P, hPP⟩ : ∃ P : Nat, P = c * n := ⟨_, rfl⟩
  have HPP := Lib.hid hPP
  rw [← hPP] at hP hs
  have e1 : IntKind.i64.wrap ((n : Int) * (c : Int)) = (P : Int) := by
    rw [show (n : Int) * (c : Int) = (P : Int) from by rw [hPP, Int.mul_comm]; simp]; exact IntWalk.i64_in _ (by omega)
  have e2 : wrap64 ((n : Int) * (c : Int)) = (P : Int) := by rw [← PlainAid.i64_is]; exact e1
  have hnn : (1 : Int) ≤ (n : Int) := by omega
  have hd : (c : Int) ≤ 134217728 / (n : Int) := by
    rw [show (134217728 : Int) / (n : Int) = ((134217728 / n : Nat) : Int) from by simp]; omega
  have t1 : ((s.size : Int) != ((P : Int) + 7) / 8) = false := by rw [bne_eq_false_iff_eq]; omega
  have hs8 : s.size ≤ 16777217 := by omega
  have hPs : P ≤ 8 * s.size := by omega
  have hP7 : 8 * s.size ≤ P + 7 := by omega
  have HK : Hid (∀ k, k < c → k * n + n ≤ P) := Lib.hid fun k hk => by
    have h3 : (k + 1) * n ≤ c * n := Nat.mul_le_mul_right _ hk
    rw [Nat.add_mul] at h3
    omega
  have HBL := Lib.hid (show (bitsOf s.data.toList).length = 8 * s.size from by rw [length_bitsOf]; simp)
  clear hPP h hs
  obtain ⟨i0, hi, hz0, hz1, hz2⟩ := info_parts Try.info30
  go_enter Try.func28, Try.ntmps28
  go_wp2_with fail
  refine (rbits_any s _ (by omega)).mono ?_
  rintro e w1 ⟨v, rfl, hn⟩
  obtain ⟨vao, vcap, hv⟩ := row_shapeU hn.1
  rw [HBL.out] at hv
  subst hv
  have HU : Hid (Un w (w1.alloc (.cells #[.slice vao (8 * s.size) vcap, .int .i64 0] 47)) w1.heap.size (fun g => g = w1.heap.size ∨ (Value.slice vao (8 * s.size) vcap).ownBlock = some g) (.slice vao (8 * s.size) vcap) s 0 (.slice none 0 0) []) := Lib.hid (by
    obtain ⟨hr, hnew, hch⟩ := hn
    have hsz := hch.size
    refine ⟨⟨heap_alloc_new w1 _, hr.alloc _, .inl rfl, fun g hg => .inr hg, fun e => by have := own_lt hr e; omega, Nat.zero_le _, fun g hg => ?_⟩, World.ownsRow_nil _ _ _ _, fun g hg => by simp [Value.ownBlock] at hg, fun g hg => ?_, fun g hg => by simp [Value.ownBlock] at hg, hch.alloc _⟩
    · rcases hg with hg | hg
      · simp; omega
      · have := own_lt hr hg; simp; omega
    · rcases hg with hg | hg
      · omega
      · exact hnew g hg)
  clear hn
  go_wp2_with fail
  obtain ⟨Q, hQ⟩ : ∃ Q, Q = w1.heap.size := ⟨_, rfl⟩
  rw [← hQ] at HU ⊢
  generalize w1.alloc (.cells #[.slice vao (8 * s.size) vcap, .int .i64 0] 47) = w3 at HU ⊢
  generalize (fun g => g = Q ∨ (Value.slice vao (8 * s.size) vcap).ownBlock = some g) = FQ at HU
  clear hQ
  go_loopw [9, 10] (fun a i wr => ∃ k : Nat, k ≤ c ∧ i = .int .i64 ↑k ∧ Un w wr Q FQ (.slice vao (8 * s.size) vcap) s (k * n) a (nums s n k)) (fun _ i _ => c - (intOf i).toNat)
  case atStart => exact ⟨0, Nat.zero_le _, rfl, by rw [Nat.zero_mul]; exact HU.out⟩
  case round =>
    obtain ⟨k, hk, rfl, hU⟩ := hrel
    have HU1 := Lib.hid hU
    clear hU HU
    by_cases hlt : k < c
    · have hkn := HK.out k hlt
      have HTK := Lib.hid (rrtake_ok HU1.out.rr n h2 (by rw [HBL.out]; omega) (by rw [HBL.out]; omega))
      have HNS := Lib.hid (nums_snoc s n k)
      have HLN := Lib.hid (length_nums s n k)
      obtain ⟨z, hz⟩ : ∃ z, z = fld s (k * n) n := ⟨_, rfl⟩
      have HZ : Hid (num (((bitsOf s.data.toList).drop (k * n)).take n) = z) := Lib.hid (by rw [hz]; rfl)
      rw [← hz] at HNS
      clear hz hkn
      go_wp2_with fail
      refine HTK.out.mono ?_
      rintro e w4 ⟨rfl, hq⟩
      rw [HZ.out]
      have HU2 := Lib.hid (HU1.out.take hq.1 hq.2)
      clear hq
      go_wp2_with (at_builtin; refine wpList_append_mine _ rfl _ _ 56 rfl 30 i0 (.int .u64 0) 1 8 Try.underlying56 hi hz0 hz1 hz2 rfl (by decide) _ _ _ rfl (HU2.out.row.alloc _) ⟨w4.heap.size, 0, none⟩ 1 1 [.int .u64 (z : Int)] rfl rfl (lit_cell _ _ _) (lit_oneu _) (by decide) (by rw [HLN.out]; unfold maxLen; omega) (by rw [HLN.out]; omega) ?_; intro g cap2 w5 hown5 hgr5 hg5; have HU3 := Lib.hid (HU2.out.push hown5 hgr5 hg5); clear hown5 hgr5 hg5)
      go_roundw
      case rel => exact ⟨k + 1, by omega, by go_num, by rw [HNS.out, Nat.add_mul, Nat.one_mul]; exact HU3.out⟩
      case measure => simp [intOf] <;> omega
    · obtain rfl : k = c := by omega
      have hU2 := HU1.out
      rw [← HPP.out] at hU2
      have hval := hU2.rr.val
      have hca := two_cell0 hU2.rr.head
      have hcb := two_cell1 hU2.rr.head
      have HROW : Hid (wr.ownsRow 0 30 1 _ k (u64s (nums s n k))) := Lib.hid (by have h := hU2.row; rw [length_nums] at h; exact h)
      have HCH := Lib.hid hU2.ch
      have HY0 : Hid (fld s P (8 * s.size - P) = num ((bitsOf s.data.toList).drop P)) := Lib.hid (by
        unfold fld
        rw [List.take_of_length_le (by rw [List.length_drop, HBL.out]; exact Nat.le_refl _)])
      have HDL : Hid (((bitsOf s.data.toList).drop P).length = 8 * s.size - P) := Lib.hid (by rw [List.length_drop, HBL.out])
      clear hU2 HU1
      by_cases hrest : 8 * s.size = P
      · have HD0 : Hid ((bitsOf s.data.toList).drop P = []) := Lib.hid (List.length_eq_zero_iff.1 (by rw [HDL.out]; omega))
        have HY : Hid (fld s (k * n) (8 * s.size - k * n) = 0) := Lib.hid (by rw [← HPP.out, HY0.out, HD0.out]; rfl)
        have HN0 : Hid (∀ (ao' : Option Addr) (c' : Nat) (W : World), Calls Try.prog 38 #[.slice ao' 0 c'] W fun e w' => e = .returned (.int .u64 0) ∧ W = w') :=
          Lib.hid fun ao' c' W => number_any ao' [] c' W (by simp) (fun i hi => by simp at hi)
        rw [hrest] at hca
        have HR := Lib.hid hrest
        have HVAL : Hid ((vao = none ∧ P = 0 ∧ vcap = 0) ∨ (∃ g, vao = some ⟨g, 0, none⟩ ∧ P ≤ vcap)) := Lib.hid (by
          rcases hval with ⟨hv, hb⟩ | ⟨g, cap, hv, hcap, _, hcell⟩
          · simp only [Value.slice.injEq] at hv
            exact .inl ⟨hv.1, by omega, hv.2.2⟩
          · simp only [Value.slice.injEq] at hv
            rw [HBL.out] at hcap
            exact .inr ⟨g, hv.1, by omega⟩)
        clear hval hrest
        rcases HVAL.out with ⟨rfl, hP0, rfl⟩ | ⟨g, rfl, hPc⟩
        · rw [hP0] at hca hcb
          clear hP0
          go_wp2_with fail
          go_quiet ((go_at_call 38; exact quiet_sameU (HN0.out _ _ _)))
          go_wp2_with fail
          go_ret2
          exact ⟨HCH.out.drewN _, .inr ⟨HY.out, _, rfl, HROW.out⟩⟩
        · by_cases hPe : vcap = P
          · subst hPe
            go_wp2_with fail
            go_quiet ((go_at_call 38; exact quiet_sameU (HN0.out _ _ _)))
            go_wp2_with fail
            go_ret2
            exact ⟨HCH.out.drewN _, .inr ⟨HY.out, _, rfl, HROW.out⟩⟩
          · have hPv : P < vcap := by omega
            clear hPe
            go_wp2_with fail
            go_quiet ((go_at_call 38; exact quiet_sameU (HN0.out _ _ _)))
            go_wp2_with fail
            go_ret2
            exact ⟨HCH.out.drewN _, .inr ⟨HY.out, _, rfl, HROW.out⟩⟩
      · obtain ⟨g, hvao, hvcap, hcell⟩ : ∃ g, vao = some ⟨g, 0, none⟩ ∧ 8 * s.size ≤ vcap ∧ ∀ j, j < 8 * s.size → wr.cell? ⟨g, j, none⟩ = (bools (bitsOf s.data.toList))[j]? := by
          rcases hval with ⟨hv, hb⟩ | ⟨g, cap, hv, hcap, _, hcell⟩
          · have := HBL.out
            rw [hb] at this
            simp at this
            omega
          · simp only [Value.slice.injEq] at hv
            rw [HBL.out] at hcap hcell
            exact ⟨g, hv.1, by omega, hcell⟩
        subst hvao
        have hPv : P < vcap := by omega
        have hPi : (P : Int) ≤ 8 * (s.size : Int) := by omega
        have hPi2 : 8 * (s.size : Int) ≤ (vcap : Int) := by omega
        have HN : Hid (∀ W : World, Ch (fun _ => False) wr W → Calls Try.prog 38 #[.slice (some ⟨g, P, none⟩) (8 * s.size - P) (vcap - P)] W fun e w' => e = .returned (.int .u64 (fld s P (8 * s.size - P))) ∧ W = w') := Lib.hid fun W hW => by
          have := number_any (some ⟨g, P, none⟩) ((bitsOf s.data.toList).drop P) (vcap - P) W (by rw [HDL.out]; omega) (fun i hi => by
            rw [HDL.out] at hi
            have hcl := hcell (P + i) (by omega)
            have h3 : (bools (bitsOf s.data.toList))[P + i]? = some ((bools (bitsOf s.data.toList))[P + i]'(by simp [bools, HBL.out]; omega)) := List.getElem?_eq_getElem _
            refine ⟨g, P, rfl, ?_⟩
            rw [World.cell?_of_block (w := wr) (hW.block g (World.block_lt_of_cell? wr ⟨g, P + i, none⟩ (by rw [hcl, h3])) (fun h => h)), hcl]
            simp [bools])
          rw [HDL.out] at this
          rw [HY0.out]
          exact this
        obtain ⟨y, hy⟩ : ∃ y, y = fld s P (8 * s.size - P) := ⟨_, rfl⟩
        rw [← hy] at HN
        clear hval hcell hrest
        by_cases hy0 : y = 0
        · have HY : Hid (fld s (k * n) (8 * s.size - k * n) = 0) := Lib.hid (by rw [← HPP.out, ← hy, hy0])
          subst hy0
          clear hy
          go_wp2_with fail
          go_quiet ((go_at_call 38; exact quiet_sameU (HN.out _ ((Ch.refl _ wr).drewN _))))
          go_wp2_with fail
          go_ret2
          exact ⟨HCH.out.drewN _, .inr ⟨HY.out, _, rfl, HROW.out⟩⟩
        · have HY : Hid (fld s (k * n) (8 * s.size - k * n) ≠ 0) := Lib.hid (by rw [← HPP.out, ← hy]; exact hy0)
          have ty : ((y : Int) != 0) = true := by rw [bne_iff_ne]; omega
          have ty2 : ((y : Int) == 0) = false := by rw [beq_eq_false_iff_ne]; omega
          clear hy hy0
          go_wp2_with fail
          go_quiet ((go_at_call 38; exact quiet_sameU (HN.out _ ((Ch.refl _ wr).drewN _))))
          go_wp2_with fail
          go_ret2
          exact ⟨HCH.out.drewN _, .inl ⟨HY.out, rfl⟩⟩
end Go.Proofs.Ytpedohlglllocaa.bits
