/-
  Layer 4, the law's own: a crash as it is handed in, with a mark behind.
-/
import Derived.Test.YtkebilddoanhgaaDevQ
namespace Go.Proofs.Ytkebilddoanhgaa.dev
open Go.ChangeShapes Go.WideShapes Go.ChangeAt Go.RowKit mem
set_option linter.unusedVariables false

theorem one987 : ∀ u ∈ [Value.int .i64 987], u.oneCell' = true := by
  intro u hu; rw [List.mem_singleton] at hu; subst hu; rfl
theorem cell987 {w wr : World} {As : List Ast} {A : Ast} {B : Nat} {E : TypeId} (h : St w wr (A :: aVar B [.int .i64 987] E :: As)) : ∀ j u, [Value.int .i64 987][j]? = some u → wr.cell? ((⟨B, 0, none⟩ : Addr).add j) = some u := by
  intro j u hj
  rw [Addr.add_mid, Nat.zero_add, st_cell h.swap j]
  exact hj
theorem size57 : (Try.prog.info? 56).map (·.size) = some 3 := by kernel_rfl
theorem elI : Try.prog.elem 38 = 3 := by kernel_rfl
theorem sizeI (W : World) : (sizeOf (Try.prog.elem 38)).run Try.prog W = .ok 1 W := by
  rw [elI]
  kernel_rfl
theorem cut_row (g len n cap : Nat) (h : n < cap) (W : World) :
    (Instr.slice 38 (.slice (some ⟨g, 0, none⟩) len cap) none (some (.int .i64 (n : Int))) none).run Try.prog W = .ok (.slice (some ⟨g, 0, none⟩) n cap) W := by
  have := run_slice_h (P := Try.prog) (w := W) 38 (some ⟨g, 0, none⟩) len cap (by rw [elI]; exact Try.underlying38) .i64 (n : Int) (by omega) (by omega)
  rw [this, sizeI W]
  show Result.ok (sliced (some ⟨g, 0, none⟩) 0 (n : Int).toNat cap 1) W = _
  rw [Int.toNat_natCast]
  unfold sliced
  rw [if_neg (by omega)]
  rfl
section
variable {w wr : World} {As : List Ast}
/-- the ints that were handed in, with a mark behind -/
abbrev aKeep (g cap : Nat) (ks : List Int) : Ast := aRow 3 1 (.slice (some ⟨g, 0, none⟩) (ks.length + 1) cap) (ks.length + 1) (intsV ks ++ [.int .i64 987])

set_option maxHeartbeats 2000000 in
theorem in_any (h : St w wr As) (kv : Value) (ks : List Int) (torn : Int) (mask : Nat) (hk : IntsIn w kv ks) (C : CrashOk ks torn mask) :
    Calls Try.prog 19 #[.agg #[kv, .int .i64 torn, .int .u8 (mask : Int)]] wr fun e w' => ∃ g cap, e = .returned (.agg #[.slice (some ⟨g, 0, none⟩) ks.length cap, .int .i64 torn, .int .u8 (mask : Int)]) ∧ ks.length + 1 ≤ cap ∧ St w w' (aKeep g cap ks :: As) := by
  have h0 := st_new h [kv, .int .i64 torn, .int .u8 (mask : Int)] 40
  have h1 := st_new h0 [.slice none 0 0, .int .i64 0, .int .u8 0] 56
  have z0 : _ = some kv := st_cell h1.swap 0
  have z1 : _ = some (Value.int .i64 torn) := st_cell h1.swap 1
  have z2 : _ = some (Value.int .u8 (mask : Int)) := st_cell h1.swap 2
  have y0 : _ = some (Value.slice none 0 0) := st_cell h1 0
  have y1 : _ = some (Value.int .i64 0) := st_cell h1 1
  have y2 : _ = some (Value.int .u8 0) := st_cell h1 2
  have g0 := st_free h1 0
  have g1 := st_free h1 1
  have g2 := st_free h1 2
  have H1 := Lib.hid h1
  have HT := Lib.hid (st_lt h1.swap)
  have HT2 := Lib.hid (st_lt h1)
  have HCL := Lib.hid C.len
  have HK := Lib.hid hk
  obtain ⟨ao, cap0, rfl, hc⟩ := hk
  clear hc C h0 h1 h
  go_enter Try.func19, Try.ntmps19
  go_wp2_with fail
  generalize ((wr.alloc (.cells #[.slice ao ks.length cap0, .int .i64 torn, .int .u8 (mask : Int)] 40)).alloc (.cells #[.slice none 0 0, .int .i64 0, .int .u8 0] 56)) = W at H1 z0 z1 z2 y0 y1 y2 g0 g1 g2 HT HT2 ⊢
  have e2 : (wr.alloc (.cells #[.slice ao ks.length cap0, .int .i64 torn, .int .u8 (mask : Int)] 40)).heap.size = wr.heap.size + 1 := by simp
  rw [e2] at H1 y0 y1 y2 g0 g1 g2 HT2
  clear e2
  generalize wr.heap.size = T at H1 z0 z1 z2 y0 y1 y2 g0 g1 g2 HT HT2 ⊢
  have hA := st_none H1.out 3 1
  have eA : (W.alloc (.cells #[] 3)).heap.size = W.heap.size + 1 := by simp
  have eC : (W.alloc (.cells #[.int .i64 987] 3)).heap.size = W.heap.size + 1 := by simp
  have hB := (st_new hA [.int .i64 987] 3).swap
  rw [eA] at hB
  have hC := st_none (st_new H1.out [.int .i64 987] 3) 3 1
  rw [eC] at hC
  have HNEWS := Lib.hid fun (wx : World) (hx : IntsIn wx (.slice ao ks.length cap0) ks) (hp : 0 < ks.length) => (show ∃ ad, ao = some ad ∧ ∀ j u, (intsV ks)[j]? = some u → wx.cell? (ad.add j) = some u from by
    obtain ⟨a1, c1, e1, hc1⟩ := id hx
    cases e1
    obtain ⟨b, o, rfl, _⟩ := hc1 0 hp
    exact ⟨_, rfl, ints_news hx⟩)
  have HNA := Lib.hid (HNEWS.out _ (HK.out.kept (hA.drew).ch))
  have HNB := Lib.hid (HNEWS.out _ (HK.out.kept (hB.drew).ch))
  have HNC := Lib.hid (HNEWS.out _ (HK.out.kept (hC.drew).ch))
  have HA := Lib.hid hA.drew
  have HBA := Lib.hid hB.drew
  have HCA := Lib.hid hC.drew
  have k0 : _ = some (Value.slice ao ks.length cap0) := st_cell hA.third 0
  have k1 : _ = some (Value.int .i64 torn) := st_cell hA.third 1
  have k2 : _ = some (Value.int .u8 (mask : Int)) := st_cell hA.third 2
  have l0 : _ = some (Value.slice ao ks.length cap0) := st_cell hB.fourth 0
  have l1 : _ = some (Value.int .i64 torn) := st_cell hB.fourth 1
  have l2 : _ = some (Value.int .u8 (mask : Int)) := st_cell hB.fourth 2
  have m0 : _ = some (Value.slice ao ks.length cap0) := st_cell hC.fourth 0
  have m1 : _ = some (Value.int .i64 torn) := st_cell hC.fourth 1
  have m2 : _ = some (Value.int .u8 (mask : Int)) := st_cell hC.fourth 2
  clear hA hB hC eA eC
  go_region_held3 (fun w' => w'.cell? ⟨T, 0, none⟩ = some (.slice ao ks.length cap0) ∧ w'.cell? ⟨T, 1, none⟩ = some (.int .i64 torn) ∧ w'.cell? ⟨T, 2, none⟩ = some (.int .u8 (mask : Int))) (go_keep)
    (first
    | ((refine stp_appendN rowInt HA.out (by rfl) _ _ (by rfl) (by rfl) ao ks.length cap0 (intsV ks) (by rfl) (by rw [intsV_len, Nat.mul_one]) HNA.out (ints_one ks) (by have := HCL.out; unfold maxLen; omega) (by have := HCL.out; omega) ?_; intro v3 w3 hst hch; have u0 : _ = some (Value.slice ao ks.length cap0) := st_cell hst.third 0; have u1 : _ = some (Value.int .i64 torn) := st_cell hst.third 1; have u2 : _ = some (Value.int .u8 (mask : Int)) := st_cell hst.third 2; rw [Nat.zero_add, List.nil_append] at hst; have HB := Lib.hid hst; clear hst hch))
    | ((refine stp_appendN rowInt HBA.out (by rfl) _ _ (by rfl) (by rfl) ao ks.length cap0 (intsV ks) (by rfl) (by rw [intsV_len, Nat.mul_one]) HNB.out (ints_one ks) (by have := HCL.out; unfold maxLen; omega) (by have := HCL.out; omega) ?_; intro v3 w3 hst hch; have u0 : _ = some (Value.slice ao ks.length cap0) := st_cell hst.fourth 0; have u1 : _ = some (Value.int .i64 torn) := st_cell hst.fourth 1; have u2 : _ = some (Value.int .u8 (mask : Int)) := st_cell hst.fourth 2; rw [Nat.zero_add, List.nil_append] at hst; have HB2 := Lib.hid hst; clear hst hch))
    | ((refine stp_appendN rowInt HCA.out (by rfl) _ _ (by rfl) (by rfl) ao ks.length cap0 (intsV ks) (by rfl) (by rw [intsV_len, Nat.mul_one]) HNC.out (ints_one ks) (by have := HCL.out; unfold maxLen; omega) (by have := HCL.out; omega) ?_; intro v3 w3 hst hch; have u0 : _ = some (Value.slice ao ks.length cap0) := st_cell hst.fourth 0; have u1 : _ = some (Value.int .i64 torn) := st_cell hst.fourth 1; have u2 : _ = some (Value.int .u8 (mask : Int)) := st_cell hst.fourth 2; rw [Nat.zero_add, List.nil_append] at hst; have HB2 := Lib.hid hst; clear hst hch))
    | ((refine stp_append rowInt (HB.out.alloc (.cells #[.int .i64 987] 3)) (by rfl) _ _ (by rfl) (by rfl) ⟨w3.heap.size, 0, none⟩ 1 1 [.int .i64 987] (by rfl) rfl (lit1 w3 _ _) (one987) (by decide) (by have := HCL.out; unfold maxLen; omega) (by have := HCL.out; omega) ?_; intro g4 cap4 w4 hst hch; have u0 : _ = some (Value.slice ao ks.length cap0) := st_cell hst.third 0; have u1 : _ = some (Value.int .i64 torn) := st_cell hst.third 1; have u2 : _ = some (Value.int .u8 (mask : Int)) := st_cell hst.third 2; have x0 : _ = some (Value.slice none 0 0) := st_cell hst.swap 0; have x1 : _ = some (Value.int .i64 0) := st_cell hst.swap 1; have x2 : _ = some (Value.int .u8 0) := st_cell hst.swap 2; have q0 := st_free hst.swap 0; have q1 := st_free hst.swap 1; have q2 := st_free hst.swap 2; have hcap := row_cap (st_row hst); have hcut := cut_row g4 (ks.length + 1) ks.length cap4 (by omega); have HC4 := Lib.hid hst; have HCAP := Lib.hid hcap; clear hst hch hcap))
    | ((refine stp_append rowInt HB2.out (by rfl) _ _ (by rfl) (by rfl) _ 1 1 [.int .i64 987] (by rfl) rfl (cell987 HB2.out) (one987) (by decide) (by have := HCL.out; unfold maxLen; omega) (by have := HCL.out; omega) ?_; intro g4 cap4 w4 hst0 hch; have hst := hst0.swap.drop; clear hst0; have u0 : _ = some (Value.slice ao ks.length cap0) := st_cell hst.third 0; have u1 : _ = some (Value.int .i64 torn) := st_cell hst.third 1; have u2 : _ = some (Value.int .u8 (mask : Int)) := st_cell hst.third 2; have x0 : _ = some (Value.slice none 0 0) := st_cell hst.swap 0; have x1 : _ = some (Value.int .i64 0) := st_cell hst.swap 1; have x2 : _ = some (Value.int .u8 0) := st_cell hst.swap 2; have q0 := st_free hst.swap 0; have q1 := st_free hst.swap 1; have q2 := st_free hst.swap 2; have hcap := row_cap (st_row hst); have hcut := cut_row g4 (ks.length + 1) ks.length cap4 (by omega); have HC4 := Lib.hid hst; have HCAP := Lib.hid hcap; clear hst hch hcap)))
  all_goals
    have hs := st_set (st_set (st_set HC4.out.swap 0 (.slice (some ⟨g4, 0, none⟩) ks.length cap4)) 1 (.int .i64 torn)) 2 (.int .u8 (mask : Int))
    have HBK := Lib.hid (st_blk hs)
    have HS := Lib.hid hs.drop
    clear hs
    go_wp2_with fail
    refine bodyPost_ret (results_cell_row rfl _ _ (T + 1) 56 #[.slice (some ⟨g4, 0, none⟩) ks.length cap4, .int .i64 torn, .int .u8 (mask : Int)] (0, 0) _ rfl HBK.out Try.underlying56 rfl size57) rfl ?_
    exact ⟨g4, cap4, rfl, HCAP.out, HS.out.swap.drop⟩
end
end Go.Proofs.Ytkebilddoanhgaa.dev
