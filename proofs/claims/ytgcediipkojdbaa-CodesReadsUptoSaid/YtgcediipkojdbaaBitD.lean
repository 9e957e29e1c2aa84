import Derived.Test.YtgcediipkojdbaaBitC
import Derived.Outline
import Derived.Test.YtgcediipkojdbaaOwn
namespace Go.Proofs.Ytgcediipkojdbaa.bits
open Go.ChangeShapes Go.WideShapes Go.ChangeAt Go.RowKit

theorem Try.info5 : (Try.prog.info? 5).map (fun i => (i.zero, i.size, i.bytes)) = some (some (.int .u8 0), 1, 1) := by kernel_rfl

theorem lit_cell (w : World) (v : Value) (t : TypeId) : ∀ j u, [v][j]? = some u → (w.alloc (.cells #[v] t)).cell? ((⟨w.heap.size, 0, none⟩ : Addr).add j) = some u := by
  intro j u hj
  match j, hj with
  | 0, hj => simp at hj; subst hj; simp [Addr.add]
theorem lit_one (n : Int) : ∀ u ∈ [Value.int .u8 n], u.oneCell' = true := by intro u hu; simp at hu; subst hu; rfl

theorem part_val (v d r : Nat) (hv : v < 18446744073709551616) (hr : r ≤ 8) :
    bits BinOp.and IntKind.u64 ((v : Int) / 2 ^ d) (IntKind.u64.wrap (IntKind.u64.wrap (2 ^ r) - 1)) = ((v / 2 ^ d % 2 ^ r : Nat) : Int) := by
  have hp : 0 < 2 ^ r := Nat.two_pow_pos r
  have hp2 : 2 ^ r ≤ 2 ^ 8 := Nat.pow_le_pow_right (by omega) hr
  have e1 : IntKind.u64.wrap (2 ^ r : Int) = ((2 ^ r : Nat) : Int) := by
    rw [PlainAid.u64_nonneg (by rw [show (2 ^ r : Int) = ((2 ^ r : Nat) : Int) from by simp]; omega) (by rw [show (2 ^ r : Int) = ((2 ^ r : Nat) : Int) from by simp]; omega)]; simp
  have e2 : IntKind.u64.wrap (((2 ^ r : Nat) : Int) - 1) = ((2 ^ r - 1 : Nat) : Int) := by
    rw [PlainAid.u64_nonneg (by omega) (by omega)]; omega
  have hd : v / 2 ^ d < 18446744073709551616 := Nat.lt_of_le_of_lt (Nat.div_le_self _ _) hv
  rw [e1, e2, show (v : Int) / 2 ^ d = ((v / 2 ^ d : Nat) : Int) from by simp, u64_and_nat _ _ hd (by omega), Nat.and_two_pow_sub_one_eq_mod]

theorem byte_val (c part sh : Nat) (hc : c < 256) (hp : part * 2 ^ sh < 256) :
    bits BinOp.or IntKind.u8 (c : Int) (IntKind.u64.wrap ((part : Int) * 2 ^ sh) % 256) = ((c ||| part * 2 ^ sh : Nat) : Int) := by
  have e : (part : Int) * 2 ^ sh = ((part * 2 ^ sh : Nat) : Int) := by simp
  rw [e, PlainAid.u64_nonneg (by omega) (by omega), Int.emod_eq_of_lt (by omega) (by omega), u8_or_nat _ _ hc hp]

theorem part_val0 (v r : Nat) (hv : v < 18446744073709551616) (hr : r ≤ 8) :
    bits BinOp.and IntKind.u64 (v : Int) (IntKind.u64.wrap (IntKind.u64.wrap (2 ^ r) - 1)) = ((v / 2 ^ 0 % 2 ^ r : Nat) : Int) := by
  have := part_val v 0 r hv hr
  simpa using this

theorem part_room {v d k part sh : Nat} (hp : part = v / 2 ^ d % 2 ^ k) (h : k + sh ≤ 8) : part * 2 ^ sh < 256 := by
  have h1 : part < 2 ^ k := by rw [hp]; exact Nat.mod_lt _ (Nat.two_pow_pos _)
  calc part * 2 ^ sh < 2 ^ k * 2 ^ sh := Nat.mul_lt_mul_of_pos_right h1 (Nat.two_pow_pos _)
    _ = 2 ^ (k + sh) := by rw [← Nat.pow_add]
    _ ≤ 2 ^ 8 := Nat.pow_le_pow_right (by omega) h

theorem Mid.drewN {W : World} {B : Nat} {F : Nat → Prop} {b : List Bool} {g cap : Nat} {I : List UInt8} {c : UInt8} {r : Nat} (h : Mid W B F b g cap I c r) (q : Nat) : Mid (W.drewN q) B F b g cap I c r :=
  ⟨h.bits, h.r8, h.head, h.row, h.mine, h.rowMine, h.apart, h.live⟩

theorem put_bits (b : List Bool) (v N m d k : Nat) (h : N = d + k) : b ++ ofNum (v / 2 ^ d) (m + k) = b ++ ofNum (v / 2 ^ N) m ++ ofNum (v / 2 ^ d % 2 ^ k) k := by
  rw [ofNum_append (v / 2 ^ d) m k, Nat.div_div_eq_div_mul, ← Nat.pow_add, ← h, ofNum_mod _ _ _ (Nat.le_refl _), List.append_assoc]

/-- a round's end -/
theorem put_close {w wr W2 : World} {B : Nat} {F F1 F2 : Nat → Prop} {b : List Bool} {v N m d k sh part g cap : Nat} {I : List UInt8} {c : UInt8} {r : Nat} (hm : Mid W2 B F2 (b ++ ofNum (v / 2 ^ N) m) g cap I c r)
    (hch : Ch F w wr) (hF : ∀ g, F1 g → F g ∨ w.heap.size ≤ g) (hch2 : Ch F1 wr W2) (hF2 : ∀ k, F2 k → F1 k ∨ wr.heap.size ≤ k) (hk : k ≤ r) (hk0 : 0 < k) (hN : N = d + k) (hpart : part = v / 2 ^ d % 2 ^ k) (hsh : sh = r - k)
    (hmax : (b ++ ofNum (v / 2 ^ N) m).length + k ≤ 134217728) (x : Int) (hx : x = ((c.toNat ||| part * 2 ^ sh : Nat) : Int)) (y : Int) (hy : y = (((b ++ ofNum (v / 2 ^ N) m).length + k : Nat) : Int)) (q : Nat) :
    ∃ F' sv' L', Wr (((W2.drewN q).setCell ⟨g, I.length, none⟩ (.int .u8 x)).setCell ⟨B, 1, none⟩ (.int .i64 y)) B F' (b ++ ofNum (v / 2 ^ d) (m + k)) sv' L' ∧
      Ch F w (((W2.drewN q).setCell ⟨g, I.length, none⟩ (.int .u8 x)).setCell ⟨B, 1, none⟩ (.int .i64 y)) ∧ ∀ g, F' g → F g ∨ w.heap.size ≤ g := by
  subst hx hy hsh
  have hp : part < 2 ^ k := by rw [hpart]; exact Nat.mod_lt _ (Nat.two_pow_pos _)
  obtain ⟨L', hW, hC⟩ := (hm.drewN q).fill (part := part) hk hk0 hp hmax
  rw [put_bits b v N m d k hN, ← hpart]
  refine ⟨F2, _, L', hW, ?_, ?_⟩
  · refine (hch.trans hch2 hF).trans ((Ch.refl F2 W2).drewN q |>.trans hC fun g h => .inl h) ?_
    intro g hg
    rcases hF2 g hg with h | h
    · exact hF g h
    · exact .inr (Nat.le_trans hch.size h)
  · intro g hg
    rcases hF2 g hg with h | h
    · exact hF g h
    · exact .inr (Nat.le_trans hch.size h)

set_option maxHeartbeats 4000000 in
theorem put_any (v n0 : Nat) (B : Nat) (F : Nat → Prop) (b : List Bool) (sv : Value) (L : List UInt8) (w : World) (hw : Wr w B F b sv L) (hn : n0 ≤ 64) (hv : v < 2 ^ n0) (hmax : b.length + n0 ≤ 134217728) :
    Calls Try.prog 55 #[.pointer (some ⟨B, 0, none⟩), .int .u64 v, .int .i64 n0] w fun e w' => e = .returned (.tuple #[]) ∧ ∃ F' sv' L', Wr w' B F' (b ++ ofNum v n0) sv' L' ∧ Ch F w w' ∧ ∀ g, F' g → F g ∨ w.heap.size ≤ g := by
  obtain ⟨i0, hi, hz0, hz1, hz2⟩ := info_parts Try.info5
  have HV := Lib.hid (show v < 18446744073709551616 from Nat.lt_of_lt_of_le hv (Nat.pow_le_pow_right (n := 2) (by omega) hn))
  go_enter Try.func55, Try.ntmps55
  go_wp2
  go_loopw [2] (fun n wr => ∃ m N : Nat, m + N = n0 ∧ n = .int .i64 ↑N ∧ ∃ F' sv' L', Wr wr B F' (b ++ ofNum (v / 2 ^ N) m) sv' L' ∧ Ch F w wr ∧ ∀ g, F' g → F g ∨ w.heap.size ≤ g) (fun n _ => (intOf n).toNat)
  case atStart => exact ⟨0, n0, by omega, rfl, F, sv, L, by simpa [ofNum] using hw, Ch.refl F w, fun g h => .inl h⟩
  case round =>
    obtain ⟨m, N, hmN, rfl, F1, s1, L1, hW, hch, hF⟩ := hrel
    have hc0 := two_cell0 hW.head
    have hc1 := two_cell1 hW.head
    have hfr := two_free hW.head
    have hf0 := hfr 0
    have hf1 := hfr 1
    obtain ⟨ln, hln⟩ : ∃ ln : Nat, ln = (b ++ ofNum (v / 2 ^ N) m).length := ⟨_, rfl⟩
    rw [← hln] at hc1
    have hlnb : ln + N ≤ 134217728 := by rw [hln, List.length_append, length_ofNum]; omega
    have HmN := Lib.hid hmN
    have hN64 : N ≤ 64 := by omega
    clear hmN hfr
    by_cases hlt : 0 < N
    · obtain ⟨r, hr⟩ : ∃ r : Nat, r = 8 - ln % 8 := ⟨_, rfl⟩
      have e1 : (8 : Int) - (ln : Int) % 8 = (r : Int) := by omega
      have hr1 : 1 ≤ r := by omega
      have hr8 : r ≤ 8 := by omega
      have HR := Lib.hid hr
      have HLN := Lib.hid hln
      by_cases h8 : r = 8
      · have t8 : ((r : Int) == 8) = true := by simp; omega
        have HR8 : Hid ((b ++ ofNum (v / 2 ^ N) m).length % 8 = 0) := Lib.hid (by omega)
        have hLb : L1.length ≤ 16777216 := by have := hW.packs.len; omega
        have HR' := Lib.hid h8
        clear hr hln h8
        by_cases hroom : r ≤ N
        · have hroom' : (r : Int) ≤ (N : Int) := by omega
          go_wp2_with (at_builtin; refine wpList_append_mine _ rfl _ _ 71 rfl 5 i0 (.int .u8 0) 1 1 Try.underlying71 hi hz0 hz1 hz2 rfl (by decide) _ _ _ rfl (hW.row.alloc _) ⟨wr.heap.size, 0, none⟩ 1 1 [.int .u8 0] rfl rfl (lit_cell _ _ _) (lit_one _) (by decide) (by unfold maxLen; omega) (by omega) ?_; intro g cap w1 hown1 hgr1 hg1; have hgrow := hW.grow HR8.out hown1 hgr1 hg1; have hc01 := two_cell0 hgrow.1; have hf01 := two_free hgrow.1 0)
          obtain ⟨hm, hch2, hF2⟩ := hgrow.2
          rw [← HR'.out] at hm
          clear hgrow hc01 hf01 hc0 hc1 hf0 hf1 hown1 hgr1 hg1
          generalize w1.setCell ⟨B, 0, none⟩ (.slice (some ⟨g, 0, none⟩) (L1.length + 1) cap) = W2 at hm hch2 ⊢
          obtain ⟨d, hd⟩ : ∃ d : Nat, d = N - r := ⟨_, rfl⟩
          obtain ⟨sh, hsh⟩ : ∃ sh : Nat, sh = r - r := ⟨_, rfl⟩
          have e5 : IntKind.i64.wrap ((N : Int) - (r : Int)) = (d : Int) := by rw [show (N : Int) - (r : Int) = (d : Int) from by omega]; exact IntWalk.i64_in _ (by omega)
          have e6 : IntKind.i64.wrap ((r : Int) - (r : Int)) = (sh : Int) := by rw [show (r : Int) - (r : Int) = (sh : Int) from by omega]; exact IntWalk.i64_in _ (by omega)
          have e7 : IntKind.i64.wrap ((L1.length : Int) + 1 - 1) = (L1.length : Int) := by rw [show (L1.length : Int) + 1 - 1 = (L1.length : Int) from by omega]; exact IntWalk.i64_in _ (by omega)
          have hc0 := two_cell0 hm.head
          have hc1 := two_cell1 hm.head
          rw [← HLN.out] at hc1
          have hf1 := two_free hm.head 1
          have hcl := hm.last
          have hfl := hm.row.frozenAt L1.length
          have hgB := hm.apart
          have HM := Lib.hid hm
          have hd64 : d ≤ 64 := by omega
          have hdN : d < N := by omega
          have hsh8 : sh ≤ 8 := by omega
          have HD := Lib.hid (show N = d + r from by omega)
          have HSH := Lib.hid hsh
          clear hm hd hsh
          go_quiet (fail)
          obtain ⟨part, hpart⟩ : ∃ part : Nat, part = v / 2 ^ d % 2 ^ r := ⟨_, rfl⟩
          have HB := Lib.hid (part_room hpart (show r + sh ≤ 8 from by have := HSH.out; omega))
          have HP := Lib.hid hpart
          rw [part_val v d r HV.out (by omega), ← hpart]
          clear hpart
          go_wp2
          go_region
          go_wp2
          go_roundw
          case measure => simp [intOf]; omega
          case rel =>
            refine ⟨m + r, d, by have := HmN.out; have := HD.out; omega, by rfl, put_close HM.out hch hF hch2 hF2 (by omega) (by omega) HD.out HP.out HSH.out (by rw [← HLN.out]; omega) _ ?_ _ ?_ _⟩
            · have hs := HSH.out; have := byte_val (0 : UInt8).toNat part sh (UInt8.toNat_lt _) HB.out; rw [show sh = 0 from by omega] at this ⊢; simpa using this
            · rw [← HLN.out]; simp
        · have hroom' : (N : Int) < (r : Int) := by omega
          go_wp2_with (at_builtin; refine wpList_append_mine _ rfl _ _ 71 rfl 5 i0 (.int .u8 0) 1 1 Try.underlying71 hi hz0 hz1 hz2 rfl (by decide) _ _ _ rfl (hW.row.alloc _) ⟨wr.heap.size, 0, none⟩ 1 1 [.int .u8 0] rfl rfl (lit_cell _ _ _) (lit_one _) (by decide) (by unfold maxLen; omega) (by omega) ?_; intro g cap w1 hown1 hgr1 hg1; have hgrow := hW.grow HR8.out hown1 hgr1 hg1; have hc01 := two_cell0 hgrow.1; have hf01 := two_free hgrow.1 0)
          obtain ⟨hm, hch2, hF2⟩ := hgrow.2
          rw [← HR'.out] at hm
          clear hgrow hc01 hf01 hc0 hc1 hf0 hf1 hown1 hgr1 hg1
          generalize w1.setCell ⟨B, 0, none⟩ (.slice (some ⟨g, 0, none⟩) (L1.length + 1) cap) = W2 at hm hch2 ⊢
          obtain ⟨sh, hsh⟩ : ∃ sh : Nat, sh = r - N := ⟨_, rfl⟩
          have e5 : IntKind.i64.wrap ((N : Int) - (N : Int)) = 0 := by rw [Int.sub_self]; rfl
          have e6 : IntKind.i64.wrap ((r : Int) - (N : Int)) = (sh : Int) := by rw [show (r : Int) - (N : Int) = (sh : Int) from by omega]; exact IntWalk.i64_in _ (by omega)
          have e7 : IntKind.i64.wrap ((L1.length : Int) + 1 - 1) = (L1.length : Int) := by rw [show (L1.length : Int) + 1 - 1 = (L1.length : Int) from by omega]; exact IntWalk.i64_in _ (by omega)
          have hc0 := two_cell0 hm.head
          have hc1 := two_cell1 hm.head
          rw [← HLN.out] at hc1
          have hf1 := two_free hm.head 1
          have hcl := hm.last
          have hfl := hm.row.frozenAt L1.length
          have hgB := hm.apart
          have HM := Lib.hid hm
          have hsh8 : sh ≤ 8 := by omega
          have HD := Lib.hid (show N = 0 + N from by omega)
          have HSH := Lib.hid hsh
          clear hm hsh
          go_quiet (fail)
          obtain ⟨part, hpart⟩ : ∃ part : Nat, part = v / 2 ^ 0 % 2 ^ N := ⟨_, rfl⟩
          have HB := Lib.hid (part_room hpart (show N + sh ≤ 8 from by have := HSH.out; omega))
          have HP := Lib.hid hpart
          rw [part_val0 v N HV.out (by omega), ← hpart]
          clear hpart
          go_wp2
          go_region
          go_wp2
          go_roundw
          case measure => simp [intOf]; omega
          case rel =>
            refine ⟨m + N, 0, by have := HmN.out; have := HD.out; omega, by rfl, put_close HM.out hch hF hch2 hF2 (by omega) (by omega) HD.out HP.out HSH.out (by rw [← HLN.out]; omega) _ ?_ _ ?_ _⟩
            · have := byte_val (0 : UInt8).toNat part sh (UInt8.toNat_lt _) HB.out; simpa using this
            · rw [← HLN.out]; simp
      · have t8 : ((r : Int) == 8) = false := by simp; omega
        obtain ⟨g, cap, I, c, hs1, hm⟩ := hW.mid (by omega)
        have hLb : I.length ≤ 16777216 := by
          have h1 := hW.packs.len
          have h2 := congrArg List.length hm.bits
          have h3 := hln
          simp only [List.length_append] at h3
          simp only [length_bitsOf, List.length_append, List.length_replicate, List.length_cons, List.length_nil] at h2
          omega
        rw [show 8 - (b ++ ofNum (v / 2 ^ N) m).length % 8 = r from by rw [← hln]; exact hr.symm] at hm
        clear hr hln h8
        subst hs1
        by_cases hroom : r ≤ N
        · have hroom' : (r : Int) ≤ (N : Int) := by omega
          go_wp2
          have hch2 := Ch.refl F1 wr
          have hF2 : ∀ k, F1 k → F1 k ∨ wr.heap.size ≤ k := fun k hk => .inl hk
          clear hc0 hc1 hf0 hf1
          generalize hWW : wr = W2 at hm hch2 ⊢
          have HWW := Lib.hid hWW; clear hWW
          obtain ⟨d, hd⟩ : ∃ d : Nat, d = N - r := ⟨_, rfl⟩
          obtain ⟨sh, hsh⟩ : ∃ sh : Nat, sh = r - r := ⟨_, rfl⟩
          have e5 : IntKind.i64.wrap ((N : Int) - (r : Int)) = (d : Int) := by rw [show (N : Int) - (r : Int) = (d : Int) from by omega]; exact IntWalk.i64_in _ (by omega)
          have e6 : IntKind.i64.wrap ((r : Int) - (r : Int)) = (sh : Int) := by rw [show (r : Int) - (r : Int) = (sh : Int) from by omega]; exact IntWalk.i64_in _ (by omega)
          have e7 : IntKind.i64.wrap ((I.length : Int) + 1 - 1) = (I.length : Int) := by rw [show (I.length : Int) + 1 - 1 = (I.length : Int) from by omega]; exact IntWalk.i64_in _ (by omega)
          have hc0 := two_cell0 hm.head
          have hc1 := two_cell1 hm.head
          rw [← HLN.out] at hc1
          have hf1 := two_free hm.head 1
          have hcl := hm.last
          have hfl := hm.row.frozenAt I.length
          have hgB := hm.apart
          have HM := Lib.hid hm
          have hd64 : d ≤ 64 := by omega
          have hdN : d < N := by omega
          have hsh8 : sh ≤ 8 := by omega
          have HD := Lib.hid (show N = d + r from by omega)
          have HSH := Lib.hid hsh
          clear hm hd hsh
          go_quiet (fail)
          obtain ⟨part, hpart⟩ : ∃ part : Nat, part = v / 2 ^ d % 2 ^ r := ⟨_, rfl⟩
          have HB := Lib.hid (part_room hpart (show r + sh ≤ 8 from by have := HSH.out; omega))
          have HP := Lib.hid hpart
          rw [part_val v d r HV.out (by omega), ← hpart]
          clear hpart
          go_wp2
          go_region
          go_wp2
          go_roundw
          case measure => simp [intOf]; omega
          case rel =>
            refine ⟨m + r, d, by have := HmN.out; have := HD.out; omega, by rfl, put_close HM.out hch hF (by have := HWW.out; subst this; exact hch2) hF2 (by omega) (by omega) HD.out HP.out HSH.out (by rw [← HLN.out]; omega) _ ?_ _ ?_ _⟩
            · have hs := HSH.out; have := byte_val c.toNat part sh (UInt8.toNat_lt _) HB.out; rw [show sh = 0 from by omega] at this ⊢; simpa using this
            · rw [← HLN.out]; simp
        · have hroom' : (N : Int) < (r : Int) := by omega
          go_wp2
          have hch2 := Ch.refl F1 wr
          have hF2 : ∀ k, F1 k → F1 k ∨ wr.heap.size ≤ k := fun k hk => .inl hk
          clear hc0 hc1 hf0 hf1
          generalize hWW : wr = W2 at hm hch2 ⊢
          have HWW := Lib.hid hWW; clear hWW
          obtain ⟨sh, hsh⟩ : ∃ sh : Nat, sh = r - N := ⟨_, rfl⟩
          have e5 : IntKind.i64.wrap ((N : Int) - (N : Int)) = 0 := by rw [Int.sub_self]; rfl
          have e6 : IntKind.i64.wrap ((r : Int) - (N : Int)) = (sh : Int) := by rw [show (r : Int) - (N : Int) = (sh : Int) from by omega]; exact IntWalk.i64_in _ (by omega)
          have e7 : IntKind.i64.wrap ((I.length : Int) + 1 - 1) = (I.length : Int) := by rw [show (I.length : Int) + 1 - 1 = (I.length : Int) from by omega]; exact IntWalk.i64_in _ (by omega)
          have hc0 := two_cell0 hm.head
          have hc1 := two_cell1 hm.head
          rw [← HLN.out] at hc1
          have hf1 := two_free hm.head 1
          have hcl := hm.last
          have hfl := hm.row.frozenAt I.length
          have hgB := hm.apart
          have HM := Lib.hid hm
          have hsh8 : sh ≤ 8 := by omega
          have HD := Lib.hid (show N = 0 + N from by omega)
          have HSH := Lib.hid hsh
          clear hm hsh
          go_quiet (fail)
          obtain ⟨part, hpart⟩ : ∃ part : Nat, part = v / 2 ^ 0 % 2 ^ N := ⟨_, rfl⟩
          have HB := Lib.hid (part_room hpart (show N + sh ≤ 8 from by have := HSH.out; omega))
          have HP := Lib.hid hpart
          rw [part_val0 v N HV.out (by omega), ← hpart]
          clear hpart
          go_wp2
          go_region
          go_wp2
          go_roundw
          case measure => simp [intOf]; omega
          case rel =>
            refine ⟨m + N, 0, by have := HmN.out; have := HD.out; omega, by rfl, put_close HM.out hch hF (by have := HWW.out; subst this; exact hch2) hF2 (by omega) (by omega) HD.out HP.out HSH.out (by rw [← HLN.out]; omega) _ ?_ _ ?_ _⟩
            · have := byte_val c.toNat part sh (UInt8.toNat_lt _) HB.out; simpa using this
            · rw [← HLN.out]; simp
    · obtain rfl : N = 0 := by omega
      obtain rfl : m = n0 := by have := HmN.out; omega
      clear hln HmN
      have HWr := Lib.hid hW
      have HC := Lib.hid hch
      have HS := Lib.hid hF
      clear hW hch hF
      go_wp2
      go_end0
      refine ⟨rfl, F1, s1, L1, ?_, HC.out, HS.out⟩
      have h := HWr.out
      rw [Nat.pow_zero, Nat.div_one] at h
      exact h
end Go.Proofs.Ytgcediipkojdbaa.bits
