/-
  Layer 5, the law: crash (what a crash keeps, copied).
-/
import Derived.Test.YtjmjmekmaamclaaDoorMK
import Derived.Test.YtjmjmekmaamclaaDoorDevT
namespace Go.Proofs.YtjmjmekmaamclaaDoor.jrn
open Go.ChangeShapes Go.WideShapes Go.ChangeAt Go.RowKit mem dev sums
set_option linter.unusedVariables false
section
variable {w wr : World} {As : List Ast}
/-- the ints that were handed in, in a row of their own -/
abbrev aKept (v : Value) (ks : List Int) : Ast := aRow 3 1 v ks.length (intsV ks)
set_option maxHeartbeats 2000000 in
theorem lcrash_any (h : St w wr As) (kv : Value) (ks : List Int) (torn : Int) (mask : Nat) (hk : IntsIn w kv ks) (C : CrashOk ks torn mask) :
    Calls Tryd.prog 21 #[.agg #[kv, .int .i64 torn, .int .u8 (mask : Int)]] wr fun e w' => ∃ v, e = .returned (.agg #[v, .int .i64 torn, .int .u8 (mask : Int)]) ∧ St w w' (aKept v ks :: As) := by
  have h0 := st_new h [kv, .int .i64 torn, .int .u8 (mask : Int)] 48
  have h1 := st_new h0 [.slice none 0 0, .int .i64 0, .int .u8 0] 53
  have z0 : _ = some kv := st_cell h1.swap 0
  have z1 : _ = some (Value.int .i64 torn) := st_cell h1.swap 1
  have z2 : _ = some (Value.int .u8 (mask : Int)) := st_cell h1.swap 2
  have H1 := Lib.hid h1
  have HT := Lib.hid (st_lt h1.swap)
  have HT2 := Lib.hid (st_lt h1)
  have HCL := Lib.hid C.len
  have HK := Lib.hid hk
  obtain ⟨ao, cap0, rfl, hc⟩ := hk
  clear hc C h0 h1 h
  go_enter Tryd.func21, Tryd.ntmps21
  go_upto_region 1 with fail
  generalize ((wr.alloc (.cells #[.slice ao ks.length cap0, .int .i64 torn, .int .u8 (mask : Int)] 48)).alloc (.cells #[.slice none 0 0, .int .i64 0, .int .u8 0] 53)) = W at H1 z0 z1 z2 HT HT2 ⊢
  have e2 : (wr.alloc (.cells #[.slice ao ks.length cap0, .int .i64 torn, .int .u8 (mask : Int)] 48)).heap.size = wr.heap.size + 1 := by simp
  rw [e2] at H1 HT2
  clear e2
  generalize wr.heap.size = T at H1 z0 z1 z2 HT HT2 ⊢
  have hA := st_none H1.out 3 1
  have HNEWS := Lib.hid fun (wx : World) (hx : IntsIn wx (.slice ao ks.length cap0) ks) (hp : 0 < ks.length) => (show ∃ ad, ao = some ad ∧ ∀ j u, (intsV ks)[j]? = some u → wx.cell? (ad.add j) = some u from by
    obtain ⟨a1, c1, e1, hc1⟩ := id hx
    cases e1
    obtain ⟨b, o, rfl, _⟩ := hc1 0 hp
    exact ⟨_, rfl, ints_news hx⟩)
  have HNA := Lib.hid (HNEWS.out _ (HK.out.kept (hA.drew).ch))
  have HA := Lib.hid hA.drew
  have k0 : _ = some (Value.slice ao ks.length cap0) := st_cell hA.third 0
  have k1 : _ = some (Value.int .i64 torn) := st_cell hA.third 1
  have k2 : _ = some (Value.int .u8 (mask : Int)) := st_cell hA.third 2
  clear hA
  go_region_held3 (fun w' => w'.cell? ⟨T, 0, none⟩ = some (.slice ao ks.length cap0) ∧ w'.cell? ⟨T, 1, none⟩ = some (.int .i64 torn) ∧ w'.cell? ⟨T, 2, none⟩ = some (.int .u8 (mask : Int))) (go_keep)
    ((refine stp_appendN rowInt HA.out (by rfl) _ _ (by rfl) (by rfl) ao ks.length cap0 (intsV ks) (by rfl) (by rw [intsV_len, Nat.mul_one]) HNA.out (ints_one ks) (by have := HCL.out; unfold maxLen; omega) (by have := HCL.out; omega) ?_; intro v3 w3 hst hch; have u0 : _ = some (Value.slice ao ks.length cap0) := st_cell hst.third 0; have u1 : _ = some (Value.int .i64 torn) := st_cell hst.third 1; have u2 : _ = some (Value.int .u8 (mask : Int)) := st_cell hst.third 2; have y0 : _ = some (Value.slice none 0 0) := st_cell hst.swap 0; have y1 : _ = some (Value.int .i64 0) := st_cell hst.swap 1; have y2 : _ = some (Value.int .u8 0) := st_cell hst.swap 2; have yf := st_free hst.swap; rw [Nat.zero_add, List.nil_append] at hst; obtain ⟨ao3, c3, rfl⟩ := st_shape hst; have HB := Lib.hid hst; clear hst hch))
  all_goals
    have hs := st_set (st_set (st_set HB.out.swap 0 (.slice ao3 ks.length c3)) 1 (.int .i64 torn)) 2 (.int .u8 (mask : Int))
    have HBK := Lib.hid (st_blk hs)
    have HS := Lib.hid hs.drop
    clear hs
    go_wp2_with fail
    refine bodyPost_ret (results_cell_row rfl _ _ (T + 1) 53 #[.slice ao3 ks.length c3, .int .i64 torn, .int .u8 (mask : Int)] (0, 0) _ rfl HBK.out Tryd.underlying53 rfl size57) rfl ?_
    exact ⟨_, rfl, HS.out.swap.drop⟩
end
end Go.Proofs.YtjmjmekmaamclaaDoor.jrn
