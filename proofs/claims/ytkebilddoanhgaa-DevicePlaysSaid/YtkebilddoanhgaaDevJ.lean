/-
  Layer 4, the document's device: Plan.
-/
import Derived.Test.YtkebilddoanhgaaDevI
namespace Go.Proofs.Ytkebilddoanhgaa.dev
open Go.ChangeShapes Go.WideShapes Go.ChangeAt Go.RowKit mem
set_option linter.unusedVariables false

section
variable {w wr : World} {As : List Ast} {X : Nat} {D : DevM} {r : RRep}

theorem ints_one (ks : List Int) : ∀ u ∈ intsV ks, u.oneCell' = true := by
  intro u hu
  simp only [intsV, List.mem_map] at hu
  obtain ⟨k, _, rfl⟩ := hu
  rfl
theorem ints_news {W : World} {b o : Nat} {len cap : Nat} {ks : List Int} (h : IntsIn W (.slice (some ⟨b, o, none⟩) len cap) ks) : ∀ j u, (intsV ks)[j]? = some u → W.cell? ((⟨b, o, none⟩ : Addr).add j) = some u := by
  intro j u hj
  obtain ⟨ao, cap', hv, hc⟩ := h
  have hlt : j < ks.length := by
    have := (List.getElem?_eq_some_iff.1 hj).1
    rwa [intsV_len] at this
  obtain ⟨b', o', hao, hcell⟩ := hc j hlt
  simp only [Value.slice.injEq] at hv
  rw [← hv.1] at hao
  simp only [Option.some.injEq, Addr.mk.injEq, and_true] at hao
  obtain ⟨rfl, rfl⟩ := hao
  rw [Addr.add_mid, hcell, ← hj, intsV_at ks j hlt]
theorem IntsIn.kept {W : World} {v : Value} {ks : List Int} (h : IntsIn w v ks) (hc : Ch (fun _ => False) w W) : IntsIn W v ks := by
  obtain ⟨ao, cap, hv, h⟩ := h
  exact ⟨ao, cap, hv, fun i hi => by obtain ⟨b, o, h1, h2⟩ := h i hi; exact ⟨b, o, h1, hc.cell h2⟩⟩

theorem plan_end {W : World} {kv' : Value} {ks : List Int} {torn : Int} {mask : Nat} {p : Option Plan} {E : TypeId} {Bs : List Ast} (hE : E = 3)
    (h : St w W (aRow E 1 kv' ks.length (intsV ks) :: (rParts X D r ++ Bs))) :
    St w (((W.setCell ⟨X, 5, none⟩ kv').setCell ⟨X, 6, none⟩ (.int .i64 torn)).setCell ⟨X, 7, none⟩ (.int .u8 (mask : Int))) (rParts X { D with plan := p } { r with kv := kv', ks := ks, torn := torn, mask := mask } ++ Bs) := by
  subst hE
  have h3 := st_set (st_set (st_set h.swap 5 kv') 6 (.int .i64 torn)) 7 (.int .u8 (mask : Int))
  exact h3.fifth.drop.rest fun V k => k.swap.tail fun V k => k.swap

theorem setPlan_down {n : Int} {ks : List Int} {torn : Int} {mask : Nat} (d : D.down = true) : D.setPlan n ks torn mask = (D, 8) := by unfold DevM.setPlan; rw [if_pos d]
theorem setPlan_arg {n : Int} {ks : List Int} {torn : Int} {mask : Nat} (d : D.down = false) (h : n < 0) : D.setPlan n ks torn mask = (D, 1) := by unfold DevM.setPlan; rw [if_neg (by rw [d]; decide), if_pos h]
theorem setPlan_ok {n : Nat} {ks : List Int} {torn : Int} {mask : Nat} (d : D.down = false) : D.setPlan n ks torn mask = ({ D with plan := if (n : Int) = 0 then none else some ⟨n, ks, torn, mask⟩ }, 0) := by
  unfold DevM.setPlan; rw [if_neg (by rw [d]; decide), if_neg (by omega), Int.toNat_natCast]

theorem known_plan {n : Nat} {kv : Value} {ks : List Int} {torn : Int} {mask : Nat} (a : RKnown D r) (hn : n ≤ 9223372036854775807) (C : CrashOk ks torn mask) :
    RKnown { D with plan := if (n : Int) = 0 then none else some ⟨n, ks, torn, mask⟩ } { rAt r n with kv := kv, ks := ks, torn := torn, mask := mask } := by
  obtain ⟨b1, b2, b3, b4, b5, b6, b7, b8⟩ := a.1
  refine ⟨⟨b1, b2, b3, b4, b5, b6, b7, fun p hp => ?_⟩, ?_, C, hn⟩
  · simp only at hp
    split at hp
    · cases hp
    · cases hp
      exact ⟨by show 1 ≤ n; omega, hn, C⟩
  · by_cases z : (n : Int) = 0
    · rw [if_pos z]; exact .inl ⟨rfl, by show n = 0; omega⟩
    · rw [if_neg z]; exact .inr ⟨_, rfl, by show 1 ≤ n; omega, rfl, rfl, rfl, rfl⟩

theorem ch_other {W W' : World} {B : Nat} (h : Ch (fun g => some B = some g) W W') {a : Addr} {v : Value} (hne : a.block ≠ B) (hc : W.cell? a = some v) : W'.cell? a = some v := by
  rw [World.cell?_of_block (w := W) (h.block a.block (World.block_lt_of_cell? W a hc) fun e => hne (Option.some.inj e).symm)]
  exact hc

set_option maxHeartbeats 2000000 in
theorem rplan_any (h : St w wr (rDev X D :: As)) (n : Int) (kv : Value) (ks : List Int) (torn : Int) (mask : Nat) (hk : IntsIn w kv ks) (C : CrashOk ks torn mask) (hn : n ≤ 9223372036854775807) :
    Calls Try.prog 28 #[.pointer (some ⟨X, 0, none⟩), .int .i64 n, .agg #[kv, .int .i64 torn, .int .u8 (mask : Int)]] wr fun e w' => e = .returned (.int .i64 (D.setPlan n ks torn mask).2) ∧ St w w' (rDev X (D.setPlan n ks torn mask).1 :: As) := by
  obtain ⟨r, a, h0⟩ := rdev_open h
  have H := Lib.hid (h.alloc (.cells #[kv, .int .i64 torn, .int .u8 (mask : Int)] 40))
  have h1 := h0.alloc (.cells #[kv, .int .i64 torn, .int .u8 (mask : Int)] 40)
  have hS := rsees a h1
  have c8 := hS.c8
  have c4 := hS.c4
  have f4 := hS.fr 4
  obtain ⟨R, hRes⟩ : ∃ R, R = D.setPlan n ks torn mask := ⟨_, rfl⟩
  rw [← hRes]
  have HRES := Lib.hid hRes
  clear hRes
  by_cases d : D.down = true
  · rw [d] at c8
    have HD := Lib.hid d
    clear hS d h h1 a C h0
    go_enter Try.func28, Try.ntmps28
    go_wp2_with fail
    go_ret
    rw [HRES.out, setPlan_down HD.out]
    exact ⟨rfl, H.out⟩
  · have d' : D.down = false := by simpa using d
    have HD := Lib.hid d'
    rw [d'] at c8
    by_cases n0 : n < 0
    · have HX := Lib.hid n0
      clear hS d d' h h1 a C h0
      go_enter Try.func28, Try.ntmps28
      go_wp2_with fail
      go_ret
      rw [HRES.out, setPlan_arg HD.out HX.out]
      exact ⟨rfl, H.out⟩
    · obtain ⟨m, rfl⟩ := Int.eq_ofNat_of_zero_le (show 0 ≤ n from by omega)
      have HK := Lib.hid (fun kv' => known_plan (kv := kv') a (show m ≤ 9223372036854775807 by omega) C)
      have h2 := rdev_at h1 m
      have hb := (st_new h0 [kv, .int .i64 torn, .int .u8 (mask : Int)] 40).behind
      have h3 := rdev_at hb m
      have h4 := h3.front
      have z0 : _ = some kv := st_cell h4 0
      have z1 : _ = some (Value.int .i64 torn) := st_cell h4 1
      have z2 : _ = some (Value.int .u8 (mask : Int)) := st_cell h4 2
      have y5 : _ = some r.kv := st_cell h3 5
      have y6 : _ = some (Value.int .i64 r.torn) := st_cell h3 6
      have y7 : _ = some (Value.int .u8 (r.mask : Int)) := st_cell h3 7
      have g5 := st_free h3 5
      have g6 := st_free h3 6
      have g7 := st_free h3 7
      have H3 := Lib.hid h3
      have HT := Lib.hid (st_lt h4)
      have xT : ¬ X = wr.heap.size := by have := st_lt h0; omega
      have tX : ¬ wr.heap.size = X := fun e => xT e.symm
      have m0 : (0 : Int) ≤ m := by omega
      have HCL := Lib.hid C.len
      clear hS d d' h h1 a h0 h2 hb h3 h4 n0 C
      go_enter Try.func28, Try.ntmps28
      go_wp2_with fail
      generalize (wr.alloc (.cells #[kv, .int .i64 torn, .int .u8 (mask : Int)] 40)).setCell ⟨X, 4, none⟩ (.int .i64 (m : Int)) = W at H3 z0 z1 z2 y5 y6 y7 g5 g6 g7 HT ⊢
      generalize wr.heap.size = T at H3 z0 z1 z2 HT xT tX ⊢
      have HI := Lib.hid (hk.kept H3.out.ch.drew)
      have HI2 := Lib.hid hk
      have hA := st_none H3.out 3 1
      have k0 := ((Ch.refl (fun _ => False) W).alloc (.cells #[] 3)).cell z0
      have k1 := ((Ch.refl (fun _ => False) W).alloc (.cells #[] 3)).cell z1
      have k2 := ((Ch.refl (fun _ => False) W).alloc (.cells #[] 3)).cell z2
      have v5 : _ = some r.kv := st_cell hA.swap 5
      have v6 : _ = some (Value.int .i64 r.torn) := st_cell hA.swap 6
      have v7 : _ = some (Value.int .u8 (r.mask : Int)) := st_cell hA.swap 7
      have w5 := st_free hA.swap 5
      have w6 := st_free hA.swap 6
      have w7 := st_free hA.swap 7
      have HA := Lib.hid hA.drew
      have HA0 := Lib.hid hA
      clear hA
      obtain ⟨ao, cap, rfl, hcc⟩ := hk
      by_cases e : ks = []
      · subst e
        clear hcc
        go_region_held3 (fun w' => w'.cell? ⟨T, 0, none⟩ = some (.slice ao 0 cap) ∧ w'.cell? ⟨T, 1, none⟩ = some (.int .i64 torn) ∧ w'.cell? ⟨T, 2, none⟩ = some (.int .u8 (mask : Int))) (go_keep) (refine stp_append0 rowInt HA.out (by rfl) _ _ (by rfl) (by rfl) _ _ (by rfl) ?_)
        have HF := Lib.hid ((plan_end (w := w) (ks := []) (r := rAt r m) (D := D) (torn := torn) (mask := mask) (p := if (m : Int) = 0 then none else some ⟨m, [], torn, mask⟩) rfl HA0.out).front.drop.drew)
        clear H3 HA
        go_wp2_with fail
        go_ret
        rw [HRES.out, setPlan_ok HD.out]
        exact ⟨rfl, rdev_shut _ (HK.out _) HF.out⟩
      · have hpos : 0 < ks.length := List.length_pos_iff.2 e
        obtain ⟨b, o, rfl, hc0⟩ := hcc 0 hpos
        clear hcc e hc0
        have HPOS := Lib.hid hpos
        have HN := Lib.hid (ints_news (HI2.out.kept (H3.out.ch.trans ((Ch.refl (fun _ => False) W).alloc (.cells #[] 3)).drew fun _ h => h.elim)))
        clear hpos
        go_region_held3 (fun w' => w'.cell? ⟨T, 0, none⟩ = some (.slice (some ⟨b, o, none⟩) ks.length cap) ∧ w'.cell? ⟨T, 1, none⟩ = some (.int .i64 torn) ∧ w'.cell? ⟨T, 2, none⟩ = some (.int .u8 (mask : Int))) (go_keep)
          ((refine stp_append rowInt HA.out (by rfl) _ _ (by rfl) (by rfl) ⟨b, o, none⟩ ks.length cap (intsV ks) (by rfl) (by rw [intsV_len, Nat.mul_one]) HN.out (ints_one ks) HPOS.out (by have := HCL.out; unfold maxLen; omega) (by have := HCL.out; omega) ?_; intro g cap3 w3 hst hch; have u0 := ch_other hch (show ¬ T = W.heap.size from by have := HT.out; omega) k0; have u1 := ch_other hch (show ¬ T = W.heap.size from by have := HT.out; omega) k1; have u2 := ch_other hch (show ¬ T = W.heap.size from by have := HT.out; omega) k2; have x5 : _ = some r.kv := st_cell hst.swap 5; have x6 : _ = some (Value.int .i64 r.torn) := st_cell hst.swap 6; have x7 : _ = some (Value.int .u8 (r.mask : Int)) := st_cell hst.swap 7; have q5 := st_free hst.swap 5; have q6 := st_free hst.swap 6; have q7 := st_free hst.swap 7; rw [Nat.zero_add, List.nil_append] at hst; have HB := Lib.hid hst; clear hst hch))
        have HF := Lib.hid ((plan_end (w := w) (ks := ks) (r := rAt r m) (D := D) (torn := torn) (mask := mask) (p := if (m : Int) = 0 then none else some ⟨m, ks, torn, mask⟩) rfl HB.out).front.drop)
        clear H3 HA HB
        go_wp2_with fail
        go_ret
        rw [HRES.out, setPlan_ok HD.out]
        exact ⟨rfl, rdev_shut _ (HK.out _) HF.out⟩
end
end Go.Proofs.Ytkebilddoanhgaa.dev
