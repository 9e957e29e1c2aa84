/-
  Layer 4, the document's device: Pull, Flush, Write.
-/
import Derived.Test.YtkebilddoanhgaaDevG
import Derived.Test.YtkebilddoanhgaaHeapA
namespace Go.Proofs.Ytkebilddoanhgaa.dev
open Go.ChangeShapes Go.WideShapes Go.ChangeAt Go.RowKit mem
set_option linter.unusedVariables false

section
variable {w wr : World} {As : List Ast} {X : Nat} {D : DevM} {r : RRep}

theorem ints_of_row {W : World} {E : TypeId} {v : Value} {ks : List Int} (h : W.ownsRow 0 E 1 v ks.length (intsV ks)) : IntsIn W v ks := by
  rcases h.2 with ⟨h1, h2⟩ | ⟨g, cap, cur, hv, hr⟩
  · exact ⟨none, 0, by rw [h2]; exact h1, fun i hi => by omega⟩
  · refine ⟨_, cap, hv, fun i hi => ⟨g, 0, rfl, ?_⟩⟩
    rw [Nat.zero_add]
    subst hv
    rw [h.cellAt i (by omega)]
    exact intsV_at _ _ hi
/-- what a device's own plan keeps stays while it falls -/
theorem own_keep (h : St w wr (rParts X D r ++ As)) : ∀ W, Ch (fallF X r) wr W → IntsIn W r.kv r.ks := by
  intro W hC
  obtain ⟨U, ⟨F, V, ⟨hr, hF⟩, ⟨F1, V1, ⟨_, hX⟩, ⟨F2, V2, ⟨_, hs⟩, _, _, k4⟩, _, j4⟩, i3, _⟩, _⟩ := h.fourth
  refine ints_of_row (row_kept hr hC fun g hg => ?_)
  have hgF := (hF (g, [])).2 hg
  rintro (rfl | hg2)
  · exact i3 _ hgF ((j4 _).2 (.inl ((hX _).2 rfl)))
  · exact i3 _ hgF ((j4 _).2 (.inr ((k4 _).2 (.inl ((hs _).2 hg2)))))
/-- what was there ahead of the walk stays while a device of the walk's falls -/
theorem old_keep {kv : Value} {ks : List Int} (hk : IntsIn w kv ks) (h : St w wr (rParts X D r ++ As)) : ∀ W, Ch (fallF X r) wr W → IntsIn W kv ks := by
  intro W hC
  obtain ⟨ao, cap, hv, hc⟩ := hk
  refine ⟨ao, cap, hv, fun i hi => ?_⟩
  obtain ⟨b, o, hao, hcell⟩ := hc i hi
  refine ⟨b, o, hao, ?_⟩
  have hlt := World.block_lt_of_cell? w _ hcell
  have h1 := h.ch.cell hcell
  have hX := st_ge h
  have hlt1 := World.block_lt_of_cell? wr _ h1
  have hno : ¬ fallF X r b := by
    have hbw : b < w.heap.size := hlt
    rintro (rfl | hg)
    · omega
    · obtain ⟨U, ⟨F, V, ⟨_, hF⟩, _, _, h4⟩, h5, _⟩ := h.swap
      have := h5 (b, []) ((h4 _).2 (.inl ((hF _).2 hg)))
      omega
  rw [World.cell?_of_block (w := wr) (hC.block b hlt1 hno)]
  exact h1

theorem rpull_any (h : St w wr (rDev X D :: As)) (kv : Value) (ks : List Int) (torn : Int) (mask : Nat) (hk : IntsIn w kv ks) (C : CrashOk ks torn mask) (hR : D.Room 0) :
    Calls Try.prog 30 #[.pointer (some ⟨X, 0, none⟩), .agg #[kv, .int .i64 torn, .int .u8 (mask : Int)]] wr fun e w' => e = .returned (.int .i64 (D.pull ks torn mask).2) ∧ St w w' (rDev X (D.pull ks torn mask).1 :: As) := by
  obtain ⟨r, a, h0⟩ := rdev_open h
  have h1 := h0.alloc (.cells #[kv, .int .i64 torn, .int .u8 (mask : Int)] 40)
  have hS := rsees a h1
  have c8 := hS.c8
  unfold DevM.pull
  by_cases d : D.down = true
  · rw [if_pos d]
    rw [d] at c8
    have H := Lib.hid (h.alloc (.cells #[kv, .int .i64 torn, .int .u8 (mask : Int)] 40))
    clear hS d h h1 a hR C h0
    go_enter Try.func30, Try.ntmps30
    go_wp2_with fail
    go_ret
    exact ⟨rfl, H.out⟩
  · rw [if_neg d]
    have d' : D.down = false := by simpa using d
    rw [d'] at c8
    have HF := Lib.hid (rfall_any h1 a kv ks torn mask C (old_keep hk h1) (by have := hR.cache; omega))
    clear hS d d' h h1 a hR C h0
    go_enter Try.func30, Try.ntmps30
    go_wp2_with (go_at_call 54; refine HF.out.mono ?_; rintro e w' ⟨rfl, r', ha, hst⟩)
    go_ret
    exact ⟨rfl, rdev_shut r' ha hst⟩

theorem flushed_take (c : List (Nat × ByteArray)) (s : List ByteArray) (k : Nat) (h : k < c.length) : flushed (c.take (k + 1)) s = (flushed (c.take k) s).set (c[k]).1 (c[k]).2 := by
  rw [List.take_succ_eq_append_getElem h, flushed_snoc]
theorem flushed_ok (a : D.Ok) (k : Nat) : (withSafe D (flushed (D.cache.take k) D.safe)).Ok :=
  ⟨a.nb0, a.nb1, a.ns0, a.ns1, by show (flushed _ _).length = _; rw [flushed_len]; exact a.safe, flushed_sz _ _ a.ssz fun x hx => (a.csz x (List.mem_of_mem_take hx)).2, a.csz, a.plan⟩
theorem flush_end {W : World} {s : List ByteArray} {Bs : List Ast} (h : St w W (rParts X (withSafe D s) r ++ Bs)) : St w (W.setCell ⟨X, 3, none⟩ (.slice none 0 0)) (rParts X { D with safe := s, cache := [] } { r with cv := .slice none 0 0 } ++ Bs) := by
  have h4 := (st_set h 3 (.slice none 0 0)).third.drop
  exact (st_pushrow (t := 96) (size := 2) h4).third.third

theorem flush_none {E : DevM} (d : D.down = false) (h : D.counted = (E, none)) : D.flush = ({ E with safe := flushed D.cache D.safe, cache := [] }, 0) := by
  unfold DevM.flush; rw [if_neg (by rw [d]; decide), h]
theorem flush_some {E : DevM} {p : Plan} (d : D.down = false) (h : D.counted = (E, some p)) : D.flush = (E.fall p.keep p.torn p.mask, 8) := by
  unfold DevM.flush; rw [if_neg (by rw [d]; decide), h]
theorem flush_down (d : D.down = true) : D.flush = (D, 8) := by
  unfold DevM.flush; rw [if_pos d]

set_option maxRecDepth 8000 in
set_option maxHeartbeats 2000000 in
theorem rflush_any (h : St w wr (rDev X D :: As)) (hR : D.Room 1) :
    Calls Try.prog 24 #[.pointer (some ⟨X, 0, none⟩)] wr fun e w' => e = .returned (.int .i64 D.flush.2) ∧ St w w' (rDev X D.flush.1 :: As) := by
  obtain ⟨r, a, h1⟩ := rdev_open h
  have hS := rsees a h1
  have c8 := hS.c8
  obtain ⟨R, hRes⟩ : ∃ R, R = D.flush := ⟨_, rfl⟩
  rw [← hRes]
  have HRES := Lib.hid hRes
  clear hRes
  by_cases d : D.down = true
  · rw [d] at c8
    have HD := Lib.hid d
    have H := Lib.hid h
    clear hS d h h1 a hR
    go_enter Try.func24, Try.ntmps24
    go_wp2_with fail
    go_ret
    rw [HRES.out, flush_down HD.out]
    exact ⟨rfl, H.out⟩
  · have d' : D.down = false := by simpa using d
    have HD := Lib.hid d'
    rw [d'] at c8
    have HCO := Lib.hid (rcounted_any h1 a (by have := hR.calls; omega))
    obtain ⟨s1, s2, s3, s4, s5, s6, s7⟩ := counted_same D
    have HSAME := Lib.hid (And.intro s3 s4)
    have hlen : D.cache.length ≤ 1073741823 := by have := hR.cache; omega
    have HLEN := Lib.hid hlen
    obtain ⟨E, hE⟩ : ∃ E, E = D.counted.1 := ⟨_, rfl⟩
    obtain ⟨F, hF⟩ : ∃ F, F = D.counted.2 := ⟨_, rfl⟩
    have hEF : D.counted = (E, F) := by rw [hE, hF]
    have HEF := Lib.hid hEF
    have HEE := Lib.hid hE
    have HFF := Lib.hid hF
    clear hS d d' h h1 a hR hlen s1 s2 s3 s4 s5 s6 s7 hEF
    rw [← hE] at HSAME
    clear hE hF
    go_enter Try.func24, Try.ntmps24
    go_wp2_with fail
    refine HCO.out.mono ?_
    rintro e w1 ⟨rfl, m, hC, hst⟩
    have HC := Lib.hid hC
    rw [← HEE.out] at hst
    rw [← HFF.out]
    have h1 := hst
    have HST := Lib.hid hst
    clear hC hst HCO
    cases F with
    | some p =>
      have HK := Lib.hid (HC.out.known)
      rw [← HEE.out] at HK
      have hS := rsees HK.out h1
      have c5 := hS.c5
      have c6 := hS.c6
      have c7 := hS.c7
      have HP := Lib.hid (HC.out.plan p HFF.out.symm)
      have HF := Lib.hid (rfall_any h1 HK.out r.kv r.ks r.torn r.mask HK.out.2.2.1 (own_keep h1) (by rw [HSAME.out.2]; have := HLEN.out; omega))
      clear hS h1
      go_wp2_with (go_at_call 54; refine HF.out.mono ?_; rintro e w' ⟨rfl, r', ha, hst⟩)
      go_ret
      rw [HRES.out, flush_some HD.out HEF.out, HP.out.1, HP.out.2.1, HP.out.2.2]
      exact ⟨rfl, rdev_shut r' ha hst⟩
    | none =>
      have HK := Lib.hid (HC.out.known)
      rw [← HEE.out] at HK
      clear h1 c8
      go_wp2_with fail
      go_loopw [3] (fun i W => ∃ k : Nat, k ≤ E.cache.length ∧ i = .int .i64 ↑k ∧ St w W (rParts X (withSafe E (flushed (E.cache.take k) E.safe)) (rAt r m) ++ As)) (fun i _ => E.cache.length - (intOf i).toNat)
      case atStart => exact ⟨0, Nat.zero_le _, rfl, HST.out⟩
      case round =>
        obtain ⟨k, hk, rfl, h1⟩ := hrel
        have hok := flushed_ok HK.out.1 k
        have hS := rsees (⟨hok, HK.out.2⟩ : RKnown (withSafe E _) (rAt r m)) h1
        have c3 := hS.c3
        obtain ⟨aoc, capc, hcv, hcc⟩ := hS.hc
        rw [hcv] at c3
        have c3' : wr.cell? ⟨X, 3, none⟩ = some (.slice aoc E.cache.length capc) := c3
        have hl' : (E.cache.length : Int) ≤ 1073741823 := by rw [HSAME.out.2]; have := HLEN.out; omega
        have hf3 := hS.fr 3
        by_cases hlt : k < E.cache.length
        · obtain ⟨gc, rfl, x1, x2⟩ := hcc k hlt
          have hx := HK.out.1.csz _ (List.getElem_mem hlt)
          have x1' : wr.cell? ⟨gc, k * 2, none⟩ = some (.int .i64 ((E.cache[k]).1 : Int)) := x1
          have x2' : wr.cell? ⟨gc, k * 2 + 1, none⟩ = some (.string (E.cache[k]).2) := x2
          have HFT := Lib.hid (flushed_take E.cache E.safe k hlt)
          obtain ⟨gs, caps, hsv, hss⟩ := hS.hs
          have c2 := hS.c2
          rw [hsv] at c2
          have c2' : wr.cell? ⟨X, 2, none⟩ = some (.slice (some ⟨gs, 0, none⟩) E.nb caps) := c2
          have d3 := hss _ hx.1
          have hfz := rparts_free h1 hsv (E.cache[k]).1
          have HN := Lib.hid ((rparts_safe h1 hsv hx.1 (E.cache[k]).2).drew)
          generalize flushed (E.cache.take k) E.safe = sk at d3 HFT HN
          generalize (E.cache[k]).2 = dt at x2' HFT HN
          obtain ⟨hx1, _⟩ := hx
          generalize (E.cache[k]).1 = n at x1' HFT HN d3 hfz hx1
          have n0 : (0 : Int) ≤ n := by omega
          have n1 : (n : Int) < E.nb := by omega
          clear x1 x2 c3 hcc hcv hS hok h1 hss c2 hx1 HST
          go_wp2_with fail
          go_region
          go_wp2_with fail
          go_roundw
          case rel => exact ⟨k + 1, by omega, by go_num, by rw [HFT.out]; exact HN.out⟩
          case measure => simp [intOf] <;> omega
        · obtain rfl : k = E.cache.length := by omega
          rw [List.take_of_length_le (Nat.le_refl _)] at h1
          have HN := Lib.hid (flush_end h1)
          have HOK := Lib.hid (flushed_ok HK.out.1 E.cache.length)
          clear hlt hk hcc hS hok h1 c3 hcv HST
          go_wp2_with fail
          go_ret
          rw [HRES.out, flush_none HD.out HEF.out, ← HSAME.out.1, ← HSAME.out.2]
          have hk2 : RKnown ({ E with safe := flushed E.cache E.safe, cache := [] } : DevM) { rAt r m with cv := .slice none 0 0 } := ⟨?_, HK.out.2.1, HK.out.2.2.1, HK.out.2.2.2⟩
          · exact ⟨rfl, rdev_shut _ hk2 HN.out⟩
          · have := HOK.out
            rw [List.take_of_length_le (Nat.le_refl _)] at this
            exact ⟨this.nb0, this.nb1, this.ns0, this.ns1, this.safe, this.ssz, fun x hx => (by cases hx), this.plan⟩
end
end Go.Proofs.Ytkebilddoanhgaa.dev
