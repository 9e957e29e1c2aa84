/-
  Layer 4, the law's own: is what was handed in still what it was?
-/
import Derived.Test.YtkebilddoanhgaaDevT
namespace Go.Proofs.Ytkebilddoanhgaa.dev
open Go.ChangeShapes Go.WideShapes Go.ChangeAt Go.RowKit mem
set_option linter.unusedVariables false

theorem cut_more (g len n cap : Nat) (h : n + 1 ≤ cap) (W : World) :
    (Instr.slice 38 (.slice (some ⟨g, 0, none⟩) len cap) none (some (.int .i64 ((n : Int) + 1))) none).run Try.prog W = .ok (.slice (some ⟨g, 0, none⟩) (n + 1) cap) W := by
  have := run_slice_h (P := Try.prog) (w := W) 38 (some ⟨g, 0, none⟩) len cap (by rw [elI]; exact Try.underlying38) .i64 ((n : Int) + 1) (by omega) (by omega)
  rw [this, sizeI W]
  show Result.ok (sliced (some ⟨g, 0, none⟩) 0 ((n : Int) + 1).toNat cap 1) W = _
  rw [show ((n : Int) + 1).toNat = n + 1 from by omega]
  unfold sliced
  rw [if_neg (by omega)]
  rfl

section
variable {w wr : World} {As : List Ast}
set_option maxHeartbeats 2000000 in
theorem kept_any (h : St w wr As) (g cap : Nat) (kv : Value) (ks : List Int) (torn : Int) (mask : Nat) (hg : ∀ W, St w W As → ∀ i, i < ks.length + 1 → W.cell? ⟨g, i, none⟩ = (intsV ks ++ [.int .i64 987])[i]?) (hcap : ks.length + 1 ≤ cap) (hk : IntsIn w kv ks) (C : CrashOk ks torn mask) (t' : Value) (m' : Value) :
    Calls Try.prog 35 #[.agg #[.slice (some ⟨g, 0, none⟩) ks.length cap, .int .i64 torn, .int .u8 (mask : Int)], .agg #[kv, .int .i64 torn, .int .u8 (mask : Int)]] wr fun e w' => e = .returned (.bool true) ∧ St w w' As := by
  have h0 := st_new h [.slice (some ⟨g, 0, none⟩) ks.length cap, .int .i64 torn, .int .u8 (mask : Int)] 56
  have h1 := st_new h0 [kv, .int .i64 torn, .int .u8 (mask : Int)] 40
  have z0 : _ = some kv := st_cell h1 0
  have y0 : _ = some (Value.slice (some ⟨g, 0, none⟩) ks.length cap) := st_cell h1.swap 0
  have HK := Lib.hid (hk.kept h1.ch)
  have HG := Lib.hid (hg _ h1.drop.drop)
  have H1 := Lib.hid h1.drop.drop
  have HCL := Lib.hid C.len
  have l0 : (ks.length : Int) ≤ 17592186043904 := by have := C.len; omega
  have e1 : IntKind.i64.wrap ((ks.length : Int) + 1) = (ks.length : Int) + 1 := IntWalk.i64_in _ (by omega)
  have hcut := cut_more g ks.length ks.length cap hcap
  have c987 : _ = some (Value.int .i64 987) := (HG.out ks.length (by omega)).trans (by rw [List.getElem?_append_right (by rw [intsV_len]; omega), intsV_len, Nat.sub_self]; rfl)
  have hlast : (ks.length : Int) < (ks.length : Int) + 1 := by omega
  have HGI := Lib.hid fun (i : Nat) (hi : i < ks.length) => (HG.out i (by omega)).trans ((List.getElem?_append_left (by rw [intsV_len]; exact hi)).trans (intsV_at ks i hi))
  obtain ⟨ao, cap0, rfl, hc⟩ := hk
  clear hc C h0 h1 h hg hcap HG
  go_enter Try.func35, Try.ntmps35
  go_wp2_with fail
  have e2 : (wr.alloc (.cells #[.slice (some ⟨g, 0, none⟩) ks.length cap, .int .i64 torn, .int .u8 (mask : Int)] 56)).heap.size = wr.heap.size + 1 := by simp
  rw [e2] at z0
  generalize ((wr.alloc (.cells #[.slice (some ⟨g, 0, none⟩) ks.length cap, .int .i64 torn, .int .u8 (mask : Int)] 56)).alloc (.cells #[.slice ao ks.length cap0, .int .i64 torn, .int .u8 (mask : Int)] 40)) = W at H1 z0 y0 c987 HK HGI ⊢
  clear e2 c987 hcut
  generalize wr.heap.size = T at z0 y0 ⊢
  go_loopw [6] (fun i W' => ∃ k : Nat, k ≤ ks.length ∧ i = .int .i64 ↑k ∧ ∃ q, W' = W.drewN q) (fun i _ => ks.length - (intOf i).toNat)
  case atStart => exact ⟨0, Nat.zero_le _, rfl, 0, rfl⟩
  case round =>
    obtain ⟨k, hk, rfl, z, rfl⟩ := hrel
    by_cases hlt : k < ks.length
    · obtain ⟨a1, c1, e1, hc1⟩ := HK.out
      cases e1
      obtain ⟨b, o, rfl, hcell⟩ := hc1 k hlt
      have hmine := HGI.out k hlt
      clear hc1
      generalize ks[k] = x at hcell hmine
      go_wp2_with fail
      go_quiet (fail)
      go_wp2_with fail
      go_round
      case rel => exact ⟨k + 1, by omega, by go_num, _, by first | rfl | rw [World.drewN_drewN]⟩
      case measure => simp [intOf] <;> omega
    · obtain rfl : k = ks.length := by omega
      clear hlt hk
      go_wp2_with fail
      go_ret
      exact ⟨rfl, H1.out.drewN _⟩
end
end Go.Proofs.Ytkebilddoanhgaa.dev
