/-
  CodesBack answers true: the walk.
-/
import Derived.Test.YtgcediipkojdbaaBackTwo
import Derived.Outline
namespace Go.Proofs.Ytgcediipkojdbaa.bits
open Go.ChangeShapes Go.WideShapes Go.ChangeAt Go.RowKit
set_option linter.unusedVariables false

theorem ch_cellb {w wr : World} (hc : Ch (fun _ => False) w wr) {p : Addr} {v : Value} (hp : w.cell? p = some v) : wr.cell? p = some v := by
  rw [World.cell?_of_block (w := w) (hc.block p.block (World.block_lt_of_cell? w p hp) (fun h => h))]
  exact hp

/-- what a round of the first loop leaves -/
def Rnd (w wq : World) (B : Nat) (mv : Value) (ms : List Num3) (k : Nat) : Prop :=
  Good ms ∧ ms.length ≤ k ∧ St w wq [aRow 49 3 mv ms.length (ncells ms), aWr B (nbits ms)]

theorem rnd_more {w wq : World} {B : Nat} {mv : Value} {ms : List Num3} {k a c v : Nat} (h : St w wq [aRow 49 3 mv (ms.length + 1) (ncells ms ++ [.int .u8 (a : Int), .int .u64 (c : Int), .int .u64 (v : Int)]), aWr B (nbits ms ++ cbits a c v)])
    (hG : Good ms) (hml : ms.length ≤ k) (ha : a < 256) (hc : c < 18446744073709551616) (hf : fits2 a c v = true) : Rnd w wq B mv (ms ++ [(a, c, v)]) (k + 1) := by
  refine ⟨hG.snoc ⟨ha, hc, hf⟩, by rw [List.length_append]; simp; omega, ?_⟩
  rw [List.length_append, ncells_snoc, nbits_snoc]
  exact h

theorem lens_ok {a c v : Nat} (h : fits2 a c v = true) : lens a c v = ((cbits a c v).length, 0) := if_pos h
theorem lens_bad {a c v : Nat} (h : ¬ fits2 a c v = true) : lens a c v = (0, 1) := if_neg h
theorem one_fits {c v : Nat} (h : fits2 1 c v = true) : fits2 3 1 v = true ∧ (cbits 3 1 v).length = (cbits 1 c v).length := by
  obtain ⟨hm, hv⟩ := fits2_of h
  have hv' : v ≤ 281474976710654 := hv
  constructor
  · unfold fits2
    rw [show may 3 1 = true from by decide, Bool.true_and]
    exact decide_eq_true hv'
  · show (zet 1 v).length = (gam v).length
    rw [zet_one]
theorem next_more {a c v : Nat} (h : fits2 a c v = true) : (cbits a c v).length ≤ (cbits a c (v + 1)).length := cbits_mono (fits2_of h).1 (by omega)
theorem fits_small {a c v : Nat} (h : fits2 a c v = true) (hc : a < 256 ∧ c < 18446744073709551616) : v ≤ 281474976710654 := by
  obtain ⟨hm, hv⟩ := fits2_of h
  have := may_of hm
  unfold most at hv
  split at hv
  · omega
  · split at hv <;> omega

theorem row_shape2 {w : World} {base : Nat} {e : TypeId} {size : Nat} {v : Value} {n : Nat} {xs : List Value} (h : w.ownsRow base e size v n xs) : ∃ ao cap, v = .slice ao n cap := by
  rcases h.2 with ⟨rfl, rfl⟩ | ⟨g, cap, cur, rfl, _⟩
  · exact ⟨none, 0, rfl⟩
  · exact ⟨some ⟨g, 0, none⟩, cap, rfl⟩
theorem packs_size3 {L : List UInt8} {x : List Bool} (h : Packs L x) (hx : x.length ≤ 134217728) : (ByteArray.mk L.toArray).size ≤ 1152921504606846975 := by
  have := h.len
  have e : (ByteArray.mk L.toArray).size = L.length := by simp [ByteArray.size]
  omega
theorem packs_pre3 {L : List UInt8} {x a b c : List Bool} (h : Packs L x) (e : x = a ++ (b ++ c)) : b <+: rest ⟨L.toArray⟩ a.length := by
  obtain ⟨z, _, h⟩ := h
  unfold rest
  show b <+: (bitsOf L).drop a.length
  rw [h, e, List.append_assoc, List.drop_append_of_le_length (Nat.le_refl _), List.drop_length, List.nil_append, List.append_assoc]
  exact List.prefix_append _ _
theorem row_cells {w : World} {ao : Option Addr} {cap : Nat} {ms : List Num3} {j : Nat} (h : w.ownsRow 0 49 3 (.slice ao ms.length cap) ms.length (ncells ms)) (hj : j < ms.length) :
    ∃ g, ao = some ⟨g, 0, none⟩ ∧ w.cell? ⟨g, j * 3, none⟩ = some (.int .u8 ((ms[j]).1 : Int)) ∧ w.cell? ⟨g, j * 3 + 1, none⟩ = some (.int .u64 ((ms[j]).2.1 : Int)) ∧ w.cell? ⟨g, j * 3 + 2, none⟩ = some (.int .u64 ((ms[j]).2.2 : Int)) := by
  have h0 := h
  rcases h.2 with ⟨_, h2⟩ | ⟨g, cap', cur, hv, _⟩
  · omega
  · cases hv
    obtain ⟨e0, e1, e2⟩ := ncells_get ms j hj
    have hl := ncells_len ms
    exact ⟨g, rfl, by rw [h0.cellAt _ (by omega)]; exact e0, by rw [h0.cellAt _ (by omega)]; exact e1, by rw [h0.cellAt _ (by omega)]; exact e2⟩
theorem row_cells2 {w : World} {g : Nat} {cap : Nat} {ms : List Num3} {j a c v : Nat} (h : w.ownsRow 0 49 3 (.slice (some ⟨g, 0, none⟩) ms.length cap) ms.length (ncells ms)) (hj : j < ms.length) (hx : (a, c, v) = ms[j]) :
    w.cell? ⟨g, j * 3, none⟩ = some (.int .u8 (a : Int)) ∧ w.cell? ⟨g, j * 3 + 1, none⟩ = some (.int .u64 (c : Int)) ∧ w.cell? ⟨g, j * 3 + 2, none⟩ = some (.int .u64 (v : Int)) := by
  obtain ⟨g', hg, h1⟩ := row_cells h hj
  cases hg
  rw [← hx] at h1
  exact h1
theorem st_readof {w wr : World} {R T : Nat} {s : ByteArray} {p : Nat} {As : List Ast} (h : St w wr (aRd R T s p :: As)) (kd K v : Nat) (hm : may kd K = true) (hv : v ≤ most kd K) (hp : cbits kd K v <+: rest s p) :
    Calls Try.prog 10 #[.pointer (some ⟨R, 0, none⟩), .agg #[.int .u8 kd, .int .u64 K]] wr fun e w' => e = .returned (.tuple #[.int .u64 (v : Nat), .int .i64 0]) ∧ St w w' (aRd R T s (p + (cbits kd K v).length) :: As) :=
  h.op fun F hR => (read_any hR kd K hm).mono fun _ _ hT => ⟨(hT.of hm v hv hp).1, F, (hT.of hm v hv hp).2.1, (hT.of hm v hv hp).2.2, fun g h => .inl h⟩

set_option maxHeartbeats 2000000 in
set_option maxRecDepth 100000 in
theorem back_first (lv : Value) (ao : Option Addr) (len cap : Nat) (kd K V : Nat → Nat) (w : World) (hp : Nums3 w lv ao len cap kd K V) (hlen : len ≤ 9223372036854775807) :
    Calls Try.prog 5 #[lv] w fun e w' => e = .returned (.bool true) ∧ Ch (fun _ => False) w w' := by
  obtain ⟨i0, hi, hz0, hz1, hz2⟩ := info_parts Try.infoNumber
  obtain ⟨hval, hcells, hfit⟩ := hp
  subst hval
  go_enter Try.func5, Try.ntmps5
  go_wp2_with fail
  refine (st_new (St.nil (Ch.refl _ w))).mono ?_
  rintro e w1 ⟨B, rfl, hS⟩
  have HS := Lib.hid (st_pushrow (t := 49) (size := 3) hS)
  clear hS
  go_wp2_with fail
  go_loopw [4, 5] (fun mv i wr => ∃ k : Nat, k ≤ len ∧ k ≤ 60 ∧ i = .int .i64 ↑k ∧ ∃ ms, Rnd w wr B mv ms k) (fun _ i _ => 60 - (intOf i).toNat)
  case atStart => exact ⟨0, Nat.zero_le _, Nat.zero_le _, rfl, [], Good.nil, Nat.le_refl _, HS.out⟩
  case round =>
    obtain ⟨k, hk, hk2, rfl, ms, hG, hml, hT⟩ := hrel
    have HG := Lib.hid hG
    have HML := Lib.hid hml
    have HT := Lib.hid hT
    clear hT HS hG hml
    by_cases hlt : k < len
    · by_cases hlt2 : k < 60
      · obtain ⟨b, o, rfl, hc0, hc1, hc2⟩ := hcells k hlt
        obtain ⟨hkd, hKK, hVV⟩ := hfit k hlt
        have hc0' := ch_cellb HT.out.ch hc0
        have hc1' := ch_cellb HT.out.ch hc1
        have hc2' := ch_cellb HT.out.ch hc2
        have HLEN := Lib.hid HG.out.len
        generalize kd k = a at hc0 hc0' hkd
        generalize K k = c at hc1 hc1' hKK
        generalize V k = V0 at hc2 hc2' hVV
        have HKD := Lib.hid hkd
        have HKK := Lib.hid hKK
        have HVV := Lib.hid hVV
        have HLT := Lib.hid hlt
        have HL2 := Lib.hid hlt2
        clear hc0 hc1 hc2 hcells hfit hkd hKK hVV
        by_cases z : a = 0
        · subst z
          obtain ⟨v, hv⟩ : ∃ v, v = V0 % 2001 := ⟨_, rfl⟩
          have ev : (V0 : Int) % 2001 = (v : Int) := by omega
          clear hv
          go_wp2_with fail
          have HX := Lib.hid (st_var HT.out #[.int .u8 (0 : Int), .int .u64 (c : Int), .int .u64 (v : Int)] 49)
          clear HT
          generalize wr.alloc (.cells #[.int .u8 (0 : Int), .int .u64 (c : Int), .int .u64 (v : Int)] 49) = wx at HX ⊢
          refine (st_own HX.out 0 c).mono ?_
          rintro e w2 ⟨rfl, h2⟩
          have HT2 := Lib.hid h2
          clear h2 HX
          have hx0 := three_cell0 (st_blk HT2.out)
          have hx1 := three_cell1 (st_blk HT2.out)
          have hx2 := three_cell2 (st_blk HT2.out)
          go_wp2_with fail
          have HT3 := Lib.hid (st_var HT2.out #[.int .u8 (0 : Int), .int .u64 (c : Int)] 35)
          clear HT2
          generalize w2.alloc (.cells #[.int .u8 (0 : Int), .int .u64 (c : Int)] 35) = w3 at HT3 ⊢
          refine (st_len HT3.out.fourth).mono ?_
          rintro e w' ⟨rfl, rfl⟩
          have hx0 := three_cell0 (st_blk HT3.out.swap)
          have hx1 := three_cell1 (st_blk HT3.out.swap)
          have hx2 := three_cell2 (st_blk HT3.out.swap)
          have hy0 := two_cell0 (st_blk HT3.out)
          have hy1 := two_cell1 (st_blk HT3.out)
          go_wp2_with fail
          by_cases f : fits2 0 c v = true
          · refine (st_put HT3.out.fourth 0 c v HKD.out HKK.out f (by have := HLEN.out; have := HML.out; have := HL2.out; have := cbits_len (fits2_of f).1 (fits2_of f).2; omega)).mono ?_
            rintro e w4 ⟨rfl, h4⟩
            have HT4 := Lib.hid h4
            have hx2 := three_cell2 (st_blk h4.third)
            have hy0 := two_cell0 (st_blk h4.swap)
            have hy1 := two_cell1 (st_blk h4.swap)
            clear h4 HT3
            go_wp2_with fail
            refine (st_lens HT4.out 0 c v HKD.out HKK.out).mono ?_
            rintro e w5 ⟨rfl, h5⟩
            rw [lens_ok f]
            have HT5 := Lib.hid h5
            have hx2 := three_cell2 (st_blk h5.third)
            have hy0 := two_cell0 (st_blk h5.swap)
            have hy1 := two_cell1 (st_blk h5.swap)
            clear h5 HT4
            have hvs : (v : Int) ≤ 281474976710654 := by have := fits_small f ⟨HKD.out, HKK.out⟩; omega
            have hln := cbits_len (fits2_of f).1 (fits2_of f).2
            have HNX := Lib.hid (next_more f)
            have HLB : Hid ((nbits ms ++ cbits 0 c v).length = (nbits ms).length + (cbits 0 c v).length ∧ (nbits ms).length ≤ 134217728 ∧ (cbits 0 c v).length ≤ 65536) := Lib.hid ⟨List.length_append, by have := HLEN.out; have := HML.out; have := HL2.out; omega, hln⟩
            clear hln
            go_wp2_with fail
            have HS6 := Lib.hid (st_lens HT5.out 0 c (v + 1) HKD.out HKK.out)
            refine HS6.out.mono ?_
            rintro e w6 ⟨rfl, h6⟩
            have HT6 := Lib.hid h6
            have hx0 := three_cell0 (st_blk h6.third)
            have hx1 := three_cell1 (st_blk h6.third)
            have hx2 := three_cell2 (st_blk h6.third)
            have hy0 := two_cell0 (st_blk h6.swap)
            have hy1 := two_cell1 (st_blk h6.swap)
            clear h6 HT5 HS6
            by_cases g : fits2 0 c (v + 1) = true
            · rw [lens_ok g]
              have hnx := HNX.out
              generalize hn1 : (cbits 0 c (v + 1)).length = n1 at hnx ⊢
              have HN1 := Lib.hid hnx
              clear hn1 hnx g HNX
              have HF := Lib.hid f
              clear f
              obtain ⟨n, hn⟩ : ∃ n, n = (cbits 0 c v).length := ⟨_, rfl⟩
              obtain ⟨bl, hbl⟩ : ∃ bl, bl = (nbits ms).length := ⟨_, rfl⟩
              have hL := HLB.out
              rw [← hn, ← hbl] at hL
              have hbb := hL.2.1
              have hnn := hL.2.2
              have HLL := Lib.hid hL.1
              have HNN := Lib.hid hn
              rw [← hn, ← hbl]
              clear hL hn hbl HLB
              have hnn1 : (n : Int) ≤ (n1 : Int) := by have := HN1.out; have := HNN.out; omega
              go_wp2_with (first | (go_at_call 20; refine (st_len HT6.out).mono ?_; rintro e w' ⟨rfl, rfl⟩; rw [HLL.out]) | (at_builtin; (refine wpList_append_mine _ rfl _ _ 45 rfl 49 i0 (.agg #[.int .u8 0, .int .u64 0, .int .u64 0]) 3 24 Try.underlying45 hi hz0 hz1 hz2 rfl (by decide) _ _ _ rfl ((st_row HT6.out.fourth).alloc _) _ 1 1 [.int .u8 (0 : Int), .int .u64 (c : Int), .int .u64 (v : Int)] rfl rfl (lit_cell3 _ _ _ _ _) (lit_one3 _ _ _) (by decide) (by have := HML.out; have := HL2.out; unfold maxLen; omega) (by have := HML.out; have := HL2.out; omega) ?_); intro g cap2 w8 hown8 hgr8 hg8; have HT8 := Lib.hid (st_grow HT6.out.fourth hown8 hgr8 hg8); clear hown8 hgr8 hg8))
              go_roundw
              case rel => exact ⟨k + 1, by have := HLT.out; omega, by have := HL2.out; omega, by go_num, ms ++ [(0, c, v)], rnd_more HT8.out.third.drop.third.drop HG.out HML.out HKD.out HKK.out HF.out⟩
              case measure => simp [intOf]; have := HL2.out; omega
            · rw [lens_bad g]
              clear g HNX
              have HF := Lib.hid f
              clear f
              obtain ⟨n, hn⟩ : ∃ n, n = (cbits 0 c v).length := ⟨_, rfl⟩
              obtain ⟨bl, hbl⟩ : ∃ bl, bl = (nbits ms).length := ⟨_, rfl⟩
              have hL := HLB.out
              rw [← hn, ← hbl] at hL
              have hbb := hL.2.1
              have hnn := hL.2.2
              have HLL := Lib.hid hL.1
              have HNN := Lib.hid hn
              rw [← hn, ← hbl]
              clear hL hn hbl HLB
              go_wp2_with (first | (go_at_call 20; refine (st_len HT6.out).mono ?_; rintro e w' ⟨rfl, rfl⟩; rw [HLL.out]) | (at_builtin; (refine wpList_append_mine _ rfl _ _ 45 rfl 49 i0 (.agg #[.int .u8 0, .int .u64 0, .int .u64 0]) 3 24 Try.underlying45 hi hz0 hz1 hz2 rfl (by decide) _ _ _ rfl ((st_row HT6.out.fourth).alloc _) _ 1 1 [.int .u8 (0 : Int), .int .u64 (c : Int), .int .u64 (v : Int)] rfl rfl (lit_cell3 _ _ _ _ _) (lit_one3 _ _ _) (by decide) (by have := HML.out; have := HL2.out; unfold maxLen; omega) (by have := HML.out; have := HL2.out; omega) ?_); intro g cap2 w8 hown8 hgr8 hg8; have HT8 := Lib.hid (st_grow HT6.out.fourth hown8 hgr8 hg8); clear hown8 hgr8 hg8))
              go_roundw
              case rel => exact ⟨k + 1, by have := HLT.out; omega, by have := HL2.out; omega, by go_num, ms ++ [(0, c, v)], rnd_more HT8.out.third.drop.third.drop HG.out HML.out HKD.out HKK.out HF.out⟩
              case measure => simp [intOf]; have := HL2.out; omega
          · refine (st_putarg HT3.out 0 c v HKD.out HKK.out (by simpa using f)).mono ?_
            rintro e w4 ⟨rfl, h4⟩
            have HT4 := Lib.hid h4
            have hx2 := three_cell2 (st_blk h4.swap)
            have hy0 := two_cell0 (st_blk h4)
            have hy1 := two_cell1 (st_blk h4)
            clear h4 HT3
            go_wp2_with fail
            refine (st_lens HT4.out 0 c v HKD.out HKK.out).mono ?_
            rintro e w5 ⟨rfl, h5⟩
            rw [lens_bad f]
            have HT5 := Lib.hid h5
            clear h5 HT4 f
            go_wp2_with fail
            go_roundw
            case rel => exact ⟨k + 1, by have := HLT.out; omega, by have := HL2.out; omega, by go_num, ms, HG.out, by have := HML.out; omega, HT5.out.drop.drop⟩
            case measure => simp [intOf]; have := HL2.out; omega
        · by_cases z1 : a = 1
          · subst z1
            clear z
            obtain ⟨v, hv⟩ : ∃ v, v = V0 := ⟨_, rfl⟩
            subst hv
            go_wp2_with fail
            have HX := Lib.hid (st_var HT.out #[.int .u8 (1 : Int), .int .u64 (c : Int), .int .u64 (v : Int)] 49)
            clear HT
            generalize wr.alloc (.cells #[.int .u8 (1 : Int), .int .u64 (c : Int), .int .u64 (v : Int)] 49) = wx at HX ⊢
            refine (st_own HX.out 1 c).mono ?_
            rintro e w2 ⟨rfl, h2⟩
            have HT2 := Lib.hid h2
            clear h2 HX
            have hx0 := three_cell0 (st_blk HT2.out)
            have hx1 := three_cell1 (st_blk HT2.out)
            have hx2 := three_cell2 (st_blk HT2.out)
            go_wp2_with fail
            have HT3 := Lib.hid (st_var HT2.out #[.int .u8 (1 : Int), .int .u64 (c : Int)] 35)
            clear HT2
            generalize w2.alloc (.cells #[.int .u8 (1 : Int), .int .u64 (c : Int)] 35) = w3 at HT3 ⊢
            refine (st_len HT3.out.fourth).mono ?_
            rintro e w' ⟨rfl, rfl⟩
            have hx0 := three_cell0 (st_blk HT3.out.swap)
            have hx1 := three_cell1 (st_blk HT3.out.swap)
            have hx2 := three_cell2 (st_blk HT3.out.swap)
            have hy0 := two_cell0 (st_blk HT3.out)
            have hy1 := two_cell1 (st_blk HT3.out)
            go_wp2_with fail
            by_cases f : fits2 1 c v = true
            · refine (st_put HT3.out.fourth 1 c v HKD.out HKK.out f (by have := HLEN.out; have := HML.out; have := HL2.out; have := cbits_len (fits2_of f).1 (fits2_of f).2; omega)).mono ?_
              rintro e w4 ⟨rfl, h4⟩
              have HT4 := Lib.hid h4
              have hx2 := three_cell2 (st_blk h4.third)
              have hy0 := two_cell0 (st_blk h4.swap)
              have hy1 := two_cell1 (st_blk h4.swap)
              clear h4 HT3
              go_wp2_with fail
              refine (st_lens HT4.out 1 c v HKD.out HKK.out).mono ?_
              rintro e w5 ⟨rfl, h5⟩
              rw [lens_ok f]
              have HT5 := Lib.hid h5
              have hx2 := three_cell2 (st_blk h5.third)
              have hy0 := two_cell0 (st_blk h5.swap)
              have hy1 := two_cell1 (st_blk h5.swap)
              clear h5 HT4
              have hvs : (v : Int) ≤ 281474976710654 := by have := fits_small f ⟨HKD.out, HKK.out⟩; omega
              have hln := cbits_len (fits2_of f).1 (fits2_of f).2
              have HNX := Lib.hid (next_more f)
              have HLB : Hid ((nbits ms ++ cbits 1 c v).length = (nbits ms).length + (cbits 1 c v).length ∧ (nbits ms).length ≤ 134217728 ∧ (cbits 1 c v).length ≤ 65536) := Lib.hid ⟨List.length_append, by have := HLEN.out; have := HML.out; have := HL2.out; omega, hln⟩
              clear hln
              go_wp2_with fail
              have HS6 := Lib.hid (st_lens HT5.out 1 c (v + 1) HKD.out HKK.out)
              refine HS6.out.mono ?_
              rintro e w6 ⟨rfl, h6⟩
              have HT6 := Lib.hid h6
              have hx0 := three_cell0 (st_blk h6.third)
              have hx1 := three_cell1 (st_blk h6.third)
              have hx2 := three_cell2 (st_blk h6.third)
              have hy0 := two_cell0 (st_blk h6.swap)
              have hy1 := two_cell1 (st_blk h6.swap)
              clear h6 HT5 HS6
              by_cases g : fits2 1 c (v + 1) = true
              · rw [lens_ok g]
                have hnx := HNX.out
                generalize hn1 : (cbits 1 c (v + 1)).length = n1 at hnx ⊢
                have HN1 := Lib.hid hnx
                clear hn1 hnx g HNX
                have HF := Lib.hid f
                clear f
                obtain ⟨n, hn⟩ : ∃ n, n = (cbits 1 c v).length := ⟨_, rfl⟩
                obtain ⟨bl, hbl⟩ : ∃ bl, bl = (nbits ms).length := ⟨_, rfl⟩
                have hL := HLB.out
                rw [← hn, ← hbl] at hL
                have hbb := hL.2.1
                have hnn := hL.2.2
                have HLL := Lib.hid hL.1
                have HNN := Lib.hid hn
                rw [← hn, ← hbl]
                clear hL hn hbl HLB
                have hnn1 : (n : Int) ≤ (n1 : Int) := by have := HN1.out; have := HNN.out; omega
                go_wp2_with (go_at_call 20; refine (st_len HT6.out).mono ?_; rintro e w' ⟨rfl, rfl⟩; rw [HLL.out])
                refine (st_lens HT6.out 3 1 v (by omega) (by omega)).mono ?_
                rintro e w7 ⟨rfl, h7⟩
                rw [lens_ok (one_fits HF.out).1, (one_fits HF.out).2, ← HNN.out]
                have HT7 := Lib.hid h7
                have hx0 := three_cell0 (st_blk h7.third)
                have hx1 := three_cell1 (st_blk h7.third)
                have hx2 := three_cell2 (st_blk h7.third)
                clear h7 HT6
                go_wp2_with (at_builtin; (refine wpList_append_mine _ rfl _ _ 45 rfl 49 i0 (.agg #[.int .u8 0, .int .u64 0, .int .u64 0]) 3 24 Try.underlying45 hi hz0 hz1 hz2 rfl (by decide) _ _ _ rfl ((st_row HT7.out.fourth).alloc _) _ 1 1 [.int .u8 (1 : Int), .int .u64 (c : Int), .int .u64 (v : Int)] rfl rfl (lit_cell3 _ _ _ _ _) (lit_one3 _ _ _) (by decide) (by have := HML.out; have := HL2.out; unfold maxLen; omega) (by have := HML.out; have := HL2.out; omega) ?_); intro g cap2 w8 hown8 hgr8 hg8; have HT8 := Lib.hid (st_grow HT7.out.fourth hown8 hgr8 hg8); clear hown8 hgr8 hg8)
                go_roundw
                case rel => exact ⟨k + 1, by have := HLT.out; omega, by have := HL2.out; omega, by go_num, ms ++ [(1, c, v)], rnd_more HT8.out.third.drop.third.drop HG.out HML.out HKD.out HKK.out HF.out⟩
                case measure => simp [intOf]; have := HL2.out; omega
              · rw [lens_bad g]
                clear g HNX
                have HF := Lib.hid f
                clear f
                obtain ⟨n, hn⟩ : ∃ n, n = (cbits 1 c v).length := ⟨_, rfl⟩
                obtain ⟨bl, hbl⟩ : ∃ bl, bl = (nbits ms).length := ⟨_, rfl⟩
                have hL := HLB.out
                rw [← hn, ← hbl] at hL
                have hbb := hL.2.1
                have hnn := hL.2.2
                have HLL := Lib.hid hL.1
                have HNN := Lib.hid hn
                rw [← hn, ← hbl]
                clear hL hn hbl HLB
                go_wp2_with (go_at_call 20; refine (st_len HT6.out).mono ?_; rintro e w' ⟨rfl, rfl⟩; rw [HLL.out])
                refine (st_lens HT6.out 3 1 v (by omega) (by omega)).mono ?_
                rintro e w7 ⟨rfl, h7⟩
                rw [lens_ok (one_fits HF.out).1, (one_fits HF.out).2, ← HNN.out]
                have HT7 := Lib.hid h7
                have hx0 := three_cell0 (st_blk h7.third)
                have hx1 := three_cell1 (st_blk h7.third)
                have hx2 := three_cell2 (st_blk h7.third)
                clear h7 HT6
                go_wp2_with (at_builtin; (refine wpList_append_mine _ rfl _ _ 45 rfl 49 i0 (.agg #[.int .u8 0, .int .u64 0, .int .u64 0]) 3 24 Try.underlying45 hi hz0 hz1 hz2 rfl (by decide) _ _ _ rfl ((st_row HT7.out.fourth).alloc _) _ 1 1 [.int .u8 (1 : Int), .int .u64 (c : Int), .int .u64 (v : Int)] rfl rfl (lit_cell3 _ _ _ _ _) (lit_one3 _ _ _) (by decide) (by have := HML.out; have := HL2.out; unfold maxLen; omega) (by have := HML.out; have := HL2.out; omega) ?_); intro g cap2 w8 hown8 hgr8 hg8; have HT8 := Lib.hid (st_grow HT7.out.fourth hown8 hgr8 hg8); clear hown8 hgr8 hg8)
                go_roundw
                case rel => exact ⟨k + 1, by have := HLT.out; omega, by have := HL2.out; omega, by go_num, ms ++ [(1, c, v)], rnd_more HT8.out.third.drop.third.drop HG.out HML.out HKD.out HKK.out HF.out⟩
                case measure => simp [intOf]; have := HL2.out; omega
            · refine (st_putarg HT3.out 1 c v HKD.out HKK.out (by simpa using f)).mono ?_
              rintro e w4 ⟨rfl, h4⟩
              have HT4 := Lib.hid h4
              have hx2 := three_cell2 (st_blk h4.swap)
              have hy0 := two_cell0 (st_blk h4)
              have hy1 := two_cell1 (st_blk h4)
              clear h4 HT3
              go_wp2_with fail
              refine (st_lens HT4.out 1 c v HKD.out HKK.out).mono ?_
              rintro e w5 ⟨rfl, h5⟩
              rw [lens_bad f]
              have HT5 := Lib.hid h5
              clear h5 HT4 f
              go_wp2_with fail
              go_roundw
              case rel => exact ⟨k + 1, by have := HLT.out; omega, by have := HL2.out; omega, by go_num, ms, HG.out, by have := HML.out; omega, HT5.out.drop.drop⟩
              case measure => simp [intOf]; have := HL2.out; omega
          · have t0 : ((a : Int) == 0) = false := by rw [beq_eq_false_iff_ne]; omega
            have t1 : ((a : Int) == 1) = false := by rw [beq_eq_false_iff_ne]; omega
            clear z z1
            obtain ⟨v, hv⟩ : ∃ v, v = V0 := ⟨_, rfl⟩
            subst hv
            go_wp2_with fail
            have HX := Lib.hid (st_var HT.out #[.int .u8 (a : Int), .int .u64 (c : Int), .int .u64 (v : Int)] 49)
            clear HT
            generalize wr.alloc (.cells #[.int .u8 (a : Int), .int .u64 (c : Int), .int .u64 (v : Int)] 49) = wx at HX ⊢
            refine (st_own HX.out a c).mono ?_
            rintro e w2 ⟨rfl, h2⟩
            have HT2 := Lib.hid h2
            clear h2 HX
            have hx0 := three_cell0 (st_blk HT2.out)
            have hx1 := three_cell1 (st_blk HT2.out)
            have hx2 := three_cell2 (st_blk HT2.out)
            go_wp2_with fail
            have HT3 := Lib.hid (st_var HT2.out #[.int .u8 (a : Int), .int .u64 (c : Int)] 35)
            clear HT2
            generalize w2.alloc (.cells #[.int .u8 (a : Int), .int .u64 (c : Int)] 35) = w3 at HT3 ⊢
            refine (st_len HT3.out.fourth).mono ?_
            rintro e w' ⟨rfl, rfl⟩
            have hx0 := three_cell0 (st_blk HT3.out.swap)
            have hx1 := three_cell1 (st_blk HT3.out.swap)
            have hx2 := three_cell2 (st_blk HT3.out.swap)
            have hy0 := two_cell0 (st_blk HT3.out)
            have hy1 := two_cell1 (st_blk HT3.out)
            go_wp2_with fail
            by_cases f : fits2 a c v = true
            · refine (st_put HT3.out.fourth a c v HKD.out HKK.out f (by have := HLEN.out; have := HML.out; have := HL2.out; have := cbits_len (fits2_of f).1 (fits2_of f).2; omega)).mono ?_
              rintro e w4 ⟨rfl, h4⟩
              have HT4 := Lib.hid h4
              have hx2 := three_cell2 (st_blk h4.third)
              have hy0 := two_cell0 (st_blk h4.swap)
              have hy1 := two_cell1 (st_blk h4.swap)
              clear h4 HT3
              go_wp2_with fail
              refine (st_lens HT4.out a c v HKD.out HKK.out).mono ?_
              rintro e w5 ⟨rfl, h5⟩
              rw [lens_ok f]
              have HT5 := Lib.hid h5
              have hx2 := three_cell2 (st_blk h5.third)
              have hy0 := two_cell0 (st_blk h5.swap)
              have hy1 := two_cell1 (st_blk h5.swap)
              clear h5 HT4
              have hvs : (v : Int) ≤ 281474976710654 := by have := fits_small f ⟨HKD.out, HKK.out⟩; omega
              have hln := cbits_len (fits2_of f).1 (fits2_of f).2
              have HNX := Lib.hid (next_more f)
              have HLB : Hid ((nbits ms ++ cbits a c v).length = (nbits ms).length + (cbits a c v).length ∧ (nbits ms).length ≤ 134217728 ∧ (cbits a c v).length ≤ 65536) := Lib.hid ⟨List.length_append, by have := HLEN.out; have := HML.out; have := HL2.out; omega, hln⟩
              clear hln
              go_wp2_with fail
              have HS6 := Lib.hid (st_lens HT5.out a c (v + 1) HKD.out HKK.out)
              refine HS6.out.mono ?_
              rintro e w6 ⟨rfl, h6⟩
              have HT6 := Lib.hid h6
              have hx0 := three_cell0 (st_blk h6.third)
              have hx1 := three_cell1 (st_blk h6.third)
              have hx2 := three_cell2 (st_blk h6.third)
              have hy0 := two_cell0 (st_blk h6.swap)
              have hy1 := two_cell1 (st_blk h6.swap)
              clear h6 HT5 HS6
              by_cases g : fits2 a c (v + 1) = true
              · rw [lens_ok g]
                have hnx := HNX.out
                generalize hn1 : (cbits a c (v + 1)).length = n1 at hnx ⊢
                have HN1 := Lib.hid hnx
                clear hn1 hnx g HNX
                have HF := Lib.hid f
                clear f
                obtain ⟨n, hn⟩ : ∃ n, n = (cbits a c v).length := ⟨_, rfl⟩
                obtain ⟨bl, hbl⟩ : ∃ bl, bl = (nbits ms).length := ⟨_, rfl⟩
                have hL := HLB.out
                rw [← hn, ← hbl] at hL
                have hbb := hL.2.1
                have hnn := hL.2.2
                have HLL := Lib.hid hL.1
                have HNN := Lib.hid hn
                rw [← hn, ← hbl]
                clear hL hn hbl HLB
                have hnn1 : (n : Int) ≤ (n1 : Int) := by have := HN1.out; have := HNN.out; omega
                go_wp2_with (first | (go_at_call 20; refine (st_len HT6.out).mono ?_; rintro e w' ⟨rfl, rfl⟩; rw [HLL.out]) | (at_builtin; (refine wpList_append_mine _ rfl _ _ 45 rfl 49 i0 (.agg #[.int .u8 0, .int .u64 0, .int .u64 0]) 3 24 Try.underlying45 hi hz0 hz1 hz2 rfl (by decide) _ _ _ rfl ((st_row HT6.out.fourth).alloc _) _ 1 1 [.int .u8 (a : Int), .int .u64 (c : Int), .int .u64 (v : Int)] rfl rfl (lit_cell3 _ _ _ _ _) (lit_one3 _ _ _) (by decide) (by have := HML.out; have := HL2.out; unfold maxLen; omega) (by have := HML.out; have := HL2.out; omega) ?_); intro g cap2 w8 hown8 hgr8 hg8; have HT8 := Lib.hid (st_grow HT6.out.fourth hown8 hgr8 hg8); clear hown8 hgr8 hg8))
                go_roundw
                case rel => exact ⟨k + 1, by have := HLT.out; omega, by have := HL2.out; omega, by go_num, ms ++ [(a, c, v)], rnd_more HT8.out.third.drop.third.drop HG.out HML.out HKD.out HKK.out HF.out⟩
                case measure => simp [intOf]; have := HL2.out; omega
              · rw [lens_bad g]
                clear g HNX
                have HF := Lib.hid f
                clear f
                obtain ⟨n, hn⟩ : ∃ n, n = (cbits a c v).length := ⟨_, rfl⟩
                obtain ⟨bl, hbl⟩ : ∃ bl, bl = (nbits ms).length := ⟨_, rfl⟩
                have hL := HLB.out
                rw [← hn, ← hbl] at hL
                have hbb := hL.2.1
                have hnn := hL.2.2
                have HLL := Lib.hid hL.1
                have HNN := Lib.hid hn
                rw [← hn, ← hbl]
                clear hL hn hbl HLB
                go_wp2_with (first | (go_at_call 20; refine (st_len HT6.out).mono ?_; rintro e w' ⟨rfl, rfl⟩; rw [HLL.out]) | (at_builtin; (refine wpList_append_mine _ rfl _ _ 45 rfl 49 i0 (.agg #[.int .u8 0, .int .u64 0, .int .u64 0]) 3 24 Try.underlying45 hi hz0 hz1 hz2 rfl (by decide) _ _ _ rfl ((st_row HT6.out.fourth).alloc _) _ 1 1 [.int .u8 (a : Int), .int .u64 (c : Int), .int .u64 (v : Int)] rfl rfl (lit_cell3 _ _ _ _ _) (lit_one3 _ _ _) (by decide) (by have := HML.out; have := HL2.out; unfold maxLen; omega) (by have := HML.out; have := HL2.out; omega) ?_); intro g cap2 w8 hown8 hgr8 hg8; have HT8 := Lib.hid (st_grow HT6.out.fourth hown8 hgr8 hg8); clear hown8 hgr8 hg8))
                go_roundw
                case rel => exact ⟨k + 1, by have := HLT.out; omega, by have := HL2.out; omega, by go_num, ms ++ [(a, c, v)], rnd_more HT8.out.third.drop.third.drop HG.out HML.out HKD.out HKK.out HF.out⟩
                case measure => simp [intOf]; have := HL2.out; omega
            · refine (st_putarg HT3.out a c v HKD.out HKK.out (by simpa using f)).mono ?_
              rintro e w4 ⟨rfl, h4⟩
              have HT4 := Lib.hid h4
              have hx2 := three_cell2 (st_blk h4.swap)
              have hy0 := two_cell0 (st_blk h4)
              have hy1 := two_cell1 (st_blk h4)
              clear h4 HT3
              go_wp2_with fail
              refine (st_lens HT4.out a c v HKD.out HKK.out).mono ?_
              rintro e w5 ⟨rfl, h5⟩
              rw [lens_bad f]
              have HT5 := Lib.hid h5
              clear h5 HT4 f
              go_wp2_with fail
              go_roundw
              case rel => exact ⟨k + 1, by have := HLT.out; omega, by have := HL2.out; omega, by go_num, ms, HG.out, by have := HML.out; omega, HT5.out.drop.drop⟩
              case measure => simp [intOf]; have := HL2.out; omega
      · obtain ⟨ao2, cap2, hmv⟩ := row_shape2 (st_row HT.out)
        subst hmv
        have HNB : Hid ((nbits ms).length ≤ 134217728) := Lib.hid (by have := HG.out.len; have := HML.out; omega)
        have hms60 : ms.length ≤ 60 := by have := HML.out; omega
        clear hcells hfit
        go_wp2_with fail
        obtain ⟨L, hL, hTX⟩ := st_text HT.out.swap
        refine hTX.mono ?_
        rintro e w' ⟨rfl, rfl⟩
        have HL := Lib.hid hL
        clear hTX hL
        go_wp2_with fail
        refine (st_open HT.out ⟨L.toArray⟩ (packs_size3 HL.out HNB.out)).mono ?_
        rintro e w3 ⟨R, T, rfl, h3⟩
        have HT3 := Lib.hid h3
        clear h3 HT
        go_wp2_with fail
        refine (st_new HT3.out).mono ?_
        rintro e w4 ⟨A, rfl, h4⟩
        have HT4 := Lib.hid h4
        clear h4 HT3
        go_wp2_with fail
        go_loopw [20] (fun i wq => ∃ j : Nat, j ≤ ms.length ∧ i = .int .i64 ↑j ∧ St w wq [aWr A (nbits (ms.take j)), aRd R T ⟨L.toArray⟩ (nbits (ms.take j)).length, aRow 49 3 (.slice ao2 ms.length cap2) ms.length (ncells ms), aWr B (nbits ms)]) (fun i _ => ms.length - (intOf i).toNat)
        case atStart => exact ⟨0, Nat.zero_le _, rfl, HT4.out⟩
        case round =>
          obtain ⟨j, hj, rfl, hI⟩ := hrel
          have HI := Lib.hid hI
          clear hI HT4
          by_cases hjl : j < ms.length
          · have hX := HG.out (ms[j]'hjl) (List.getElem_mem hjl)
            have hcut := nbits_split ms j hjl
            have htk := nbits_take ms j hjl
            obtain ⟨g, rfl, hcell⟩ := row_cells (st_row HI.out.third) hjl
            obtain ⟨x, hx⟩ : ∃ x, x = ms[j]'hjl := ⟨_, rfl⟩
            rw [← hx] at hX hcut htk hcell
            obtain ⟨a, c, v⟩ := x
            have HX2 := Lib.hid hx
            clear hx
            simp only at hX hcut htk hcell
            have HX := Lib.hid hX
            have HTK := Lib.hid htk
            have HPRE := Lib.hid (packs_pre3 HL.out hcut)
            have HSZ2 : Hid ((nbits (ms.take j)).length + (cbits a c v).length ≤ 134217728) := Lib.hid (by have := HNB.out; have := congrArg List.length hcut; simp only [List.length_append] at this; omega)
            have hk0 := hcell.1
            have hk1 := hcell.2.1
            have hk2 := hcell.2.2
            have hjl2 := hjl
            clear hX hcut htk hcell
            go_wp2_with fail
            refine (st_own HI.out a c).mono ?_
            rintro e w5 ⟨rfl, h5⟩
            have HT5 := Lib.hid h5.swap
            clear h5 HI
            go_wp2_with fail
            refine (st_readof HT5.out a c v (fits2_of HX.out.2.2).1 (fits2_of HX.out.2.2).2 HPRE.out).mono ?_
            rintro e w6 ⟨rfl, h6⟩
            have HT6 := Lib.hid h6
            clear h6 HT5
            have hcell := row_cells2 (st_row HT6.out.third) hjl HX2.out
            have hq0 := hcell.1
            have hq1 := hcell.2.1
            have hq2 := hcell.2.2
            clear hcell
            go_wp2_with fail
            refine (st_own HT6.out a c).mono ?_
            rintro e w7 ⟨rfl, h7⟩
            have HT7 := Lib.hid h7.swap
            clear h7 HT6
            go_wp2_with fail
            refine (st_put HT7.out a c v HX.out.1 HX.out.2.1 HX.out.2.2 HSZ2.out).mono ?_
            rintro e w8 ⟨rfl, h8⟩
            have HT8 := Lib.hid h8
            clear h8 HT7
            have HLA : Hid ((nbits (ms.take j) ++ cbits a c v).length = (nbits (ms.take j)).length + (cbits a c v).length) := Lib.hid List.length_append
            obtain ⟨q, hq⟩ : ∃ q, q = (nbits (ms.take j)).length + (cbits a c v).length := ⟨_, rfl⟩
            rw [← hq] at HLA HT8
            have HQ := Lib.hid hq
            clear hq
            go_wp2_with (first | (go_at_call 20; refine (st_len HT8.out).mono ?_; rintro e w' ⟨rfl, rfl⟩; rw [HLA.out]) | (go_at_call 13; refine (st_at HT8.out.swap).mono ?_; rintro e w' ⟨rfl, rfl⟩))
            go_roundw
            case rel => exact ⟨j + 1, by omega, by go_num, by rw [HTK.out, HLA.out]; exact HT8.out⟩
            case measure => simp [intOf] <;> omega
          · obtain rfl : j = ms.length := by omega
            have hI := HI.out
            rw [List.take_length] at hI
            have HI2 := Lib.hid hI
            clear hI HI
            go_wp2_with fail
            obtain ⟨L2, hL2, hTX2⟩ := st_text HI2.out
            have hLL := HL.out.unique hL2
            subst hLL
            refine hTX2.mono ?_
            rintro e w' ⟨rfl, rfl⟩
            clear hTX2 hL2
            go_wp2_with fail
            refine (awake2_any _).mono ?_
            rintro e w9 ⟨rfl, hC9⟩
            have HC9 := Lib.hid (HI2.out.ch.trans hC9 fun _ h => h.elim)
            clear hC9
            go_wp2_with fail
            go_ret
            exact ⟨rfl, HC9.out⟩
    · obtain ⟨ao2, cap2, hmv⟩ := row_shape2 (st_row HT.out)
      subst hmv
      have HNB : Hid ((nbits ms).length ≤ 134217728) := Lib.hid (by have := HG.out.len; have := HML.out; omega)
      have hms60 : ms.length ≤ 60 := by have := HML.out; omega
      clear hcells hfit
      go_wp2_with fail
      obtain ⟨L, hL, hTX⟩ := st_text HT.out.swap
      refine hTX.mono ?_
      rintro e w' ⟨rfl, rfl⟩
      have HL := Lib.hid hL
      clear hTX hL
      go_wp2_with fail
      refine (st_open HT.out ⟨L.toArray⟩ (packs_size3 HL.out HNB.out)).mono ?_
      rintro e w3 ⟨R, T, rfl, h3⟩
      have HT3 := Lib.hid h3
      clear h3 HT
      go_wp2_with fail
      refine (st_new HT3.out).mono ?_
      rintro e w4 ⟨A, rfl, h4⟩
      have HT4 := Lib.hid h4
      clear h4 HT3
      go_wp2_with fail
      go_loopw [20] (fun i wq => ∃ j : Nat, j ≤ ms.length ∧ i = .int .i64 ↑j ∧ St w wq [aWr A (nbits (ms.take j)), aRd R T ⟨L.toArray⟩ (nbits (ms.take j)).length, aRow 49 3 (.slice ao2 ms.length cap2) ms.length (ncells ms), aWr B (nbits ms)]) (fun i _ => ms.length - (intOf i).toNat)
      case atStart => exact ⟨0, Nat.zero_le _, rfl, HT4.out⟩
      case round =>
        obtain ⟨j, hj, rfl, hI⟩ := hrel
        have HI := Lib.hid hI
        clear hI HT4
        by_cases hjl : j < ms.length
        · have hX := HG.out (ms[j]'hjl) (List.getElem_mem hjl)
          have hcut := nbits_split ms j hjl
          have htk := nbits_take ms j hjl
          obtain ⟨g, rfl, hcell⟩ := row_cells (st_row HI.out.third) hjl
          obtain ⟨x, hx⟩ : ∃ x, x = ms[j]'hjl := ⟨_, rfl⟩
          rw [← hx] at hX hcut htk hcell
          obtain ⟨a, c, v⟩ := x
          have HX2 := Lib.hid hx
          clear hx
          simp only at hX hcut htk hcell
          have HX := Lib.hid hX
          have HTK := Lib.hid htk
          have HPRE := Lib.hid (packs_pre3 HL.out hcut)
          have HSZ2 : Hid ((nbits (ms.take j)).length + (cbits a c v).length ≤ 134217728) := Lib.hid (by have := HNB.out; have := congrArg List.length hcut; simp only [List.length_append] at this; omega)
          have hk0 := hcell.1
          have hk1 := hcell.2.1
          have hk2 := hcell.2.2
          have hjl2 := hjl
          clear hX hcut htk hcell
          go_wp2_with fail
          refine (st_own HI.out a c).mono ?_
          rintro e w5 ⟨rfl, h5⟩
          have HT5 := Lib.hid h5.swap
          clear h5 HI
          go_wp2_with fail
          refine (st_readof HT5.out a c v (fits2_of HX.out.2.2).1 (fits2_of HX.out.2.2).2 HPRE.out).mono ?_
          rintro e w6 ⟨rfl, h6⟩
          have HT6 := Lib.hid h6
          clear h6 HT5
          have hcell := row_cells2 (st_row HT6.out.third) hjl HX2.out
          have hq0 := hcell.1
          have hq1 := hcell.2.1
          have hq2 := hcell.2.2
          clear hcell
          go_wp2_with fail
          refine (st_own HT6.out a c).mono ?_
          rintro e w7 ⟨rfl, h7⟩
          have HT7 := Lib.hid h7.swap
          clear h7 HT6
          go_wp2_with fail
          refine (st_put HT7.out a c v HX.out.1 HX.out.2.1 HX.out.2.2 HSZ2.out).mono ?_
          rintro e w8 ⟨rfl, h8⟩
          have HT8 := Lib.hid h8
          clear h8 HT7
          have HLA : Hid ((nbits (ms.take j) ++ cbits a c v).length = (nbits (ms.take j)).length + (cbits a c v).length) := Lib.hid List.length_append
          obtain ⟨q, hq⟩ : ∃ q, q = (nbits (ms.take j)).length + (cbits a c v).length := ⟨_, rfl⟩
          rw [← hq] at HLA HT8
          have HQ := Lib.hid hq
          clear hq
          go_wp2_with (first | (go_at_call 20; refine (st_len HT8.out).mono ?_; rintro e w' ⟨rfl, rfl⟩; rw [HLA.out]) | (go_at_call 13; refine (st_at HT8.out.swap).mono ?_; rintro e w' ⟨rfl, rfl⟩))
          go_roundw
          case rel => exact ⟨j + 1, by omega, by go_num, by rw [HTK.out, HLA.out]; exact HT8.out⟩
          case measure => simp [intOf] <;> omega
        · obtain rfl : j = ms.length := by omega
          have hI := HI.out
          rw [List.take_length] at hI
          have HI2 := Lib.hid hI
          clear hI HI
          go_wp2_with fail
          obtain ⟨L2, hL2, hTX2⟩ := st_text HI2.out
          have hLL := HL.out.unique hL2
          subst hLL
          refine hTX2.mono ?_
          rintro e w' ⟨rfl, rfl⟩
          clear hTX2 hL2
          go_wp2_with fail
          refine (awake2_any _).mono ?_
          rintro e w9 ⟨rfl, hC9⟩
          have HC9 := Lib.hid (HI2.out.ch.trans hC9 fun _ h => h.elim)
          clear hC9
          go_wp2_with fail
          go_ret
          exact ⟨rfl, HC9.out⟩
end Go.Proofs.Ytgcediipkojdbaa.bits
