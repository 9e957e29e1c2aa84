/-
  Layer 4, the law's own: does: a call on both devices.
-/
import Derived.Test.YtkebilddoanhgaaDevV
import Derived.Deep.Cut
import Derived.Deep.CutRange
import Derived.Deep.CutBlock
import Derived.Deep.DeepCutAuto
namespace Go.Proofs.Ytkebilddoanhgaa.dev
open Go.ChangeShapes Go.WideShapes Go.ChangeAt Go.RowKit mem
set_option linter.unusedVariables false

section
variable {w wr : World} {As : List Ast} {dev : Nat → DevM → Ast} {X Y : Nat} {D : DevM}
abbrev aCrash (B : Nat) (v : Value) (torn : Int) (mask : Nat) : Ast := aVar B [v, .int .i64 torn, .int .u8 (mask : Int)] 56

set_option maxHeartbeats 4000000 in
set_option maxRecDepth 8000 in
theorem does_any (ok : DevOk dev) (h : St w wr (dev X D :: rDev Y D :: As)) (x : OpM) (kv : Value) (hk : IntsIn w kv x.ks) (C : x.Ok) (hR : D.Room 1) :
    Calls Try.prog 10 #[pt X, pt Y, .agg (opCells x kv).toArray] wr fun e w' => e = .returned (.bool true) ∧ St w w' (dev X (D.does x) :: rDev Y (D.does x) :: As) := by
  have h0 := st_new h (opCells x kv) 42
  have z5 : _ = some kv := st_cell h0 5
  have z6 : _ = some (Value.int .i64 x.torn) := st_cell h0 6
  have z7 : _ = some (Value.int .u8 (x.mask : Int)) := st_cell h0 7
  have z0 : _ = some (Value.int .i64 x.kind) := st_cell h0 0
  have H0 := Lib.hid h0
  have HIN := Lib.hid (in_any h0 kv x.ks x.torn x.mask hk C.crash)
  have HKK := Lib.hid hk
  obtain ⟨ao, cap0, rfl, hc⟩ := hk
  clear h h0 hc
  obtain ⟨P, hP⟩ : ∃ P, P = wr.heap.size := ⟨_, rfl⟩
  unfold opCells at z0 z5 z6 z7 ⊢
  go_enter Try.func10, Try.ntmps10
  go_upto_block 0 with (go_at_call 19; refine HIN.out.mono ?_; rintro e w' ⟨g, cap, rfl, hcap, hst⟩; have h2 := st_new hst [.slice (some ⟨g, 0, none⟩) x.ks.length cap, .int .i64 x.torn, .int .u8 (x.mask : Int)] 56; have p0 : _ = some (Value.int .i64 x.kind) := st_cell h2.third 0; have p2 : _ = some (Value.int .i64 x.n) := st_cell h2.third 2; have p3 : _ = some (Value.int .i64 x.at') := st_cell h2.third 3; have p4 : _ = some (Value.string x.data) := st_cell h2.third 4; have p5 : _ = some (Value.slice ao x.ks.length cap0) := st_cell h2.third 5; have p6 : _ = some (Value.int .i64 x.torn) := st_cell h2.third 6; have p7 : _ = some (Value.int .u8 (x.mask : Int)) := st_cell h2.third 7; have HS := Lib.hid h2.fifth.fifth; have HCAP := Lib.hid hcap; clear z0 z5 z6 z7 h2 hst hcap)
  have HC4 := C.crash.len
  have HCC := Lib.hid C
  have HROOM := Lib.hid (does_room hR x)
  have l0 : (x.ks.length : Int) ≤ 17592186043904 := by omega
  clear HIN H0 HC4
  generalize (w'.alloc (.cells #[.slice (some ⟨g, 0, none⟩) x.ks.length cap, .int .i64 x.torn, .int .u8 (x.mask : Int)] 56)) = W at HS p0 p2 p3 p4 p5 p6 p7 ⊢
  generalize w'.heap.size = B at HS ⊢
  generalize wr.heap.size = P at HS p0 p2 p3 p4 p5 p6 p7 ⊢
  go_cut [8] (fun o wc => o = .bool true ∧ St w wc (dev X (D.does x) :: rDev Y (D.does x) :: aCrash B (.slice (some ⟨g, 0, none⟩) x.ks.length cap) x.torn x.mask :: aKeep g cap x.ks :: aVar P (opCells x (.slice ao x.ks.length cap0)) 42 :: As))
  case first =>
    have HX := Lib.hid C
    have hR0 := room_less hR (Nat.zero_le 1)
    have c0 : _ = some (Value.slice (some ⟨g, 0, none⟩) x.ks.length cap) := st_cell HS.out.third 0
    have c1 : _ = some (Value.int .i64 x.torn) := st_cell HS.out.third 1
    have c2 : _ = some (Value.int .u8 (x.mask : Int)) := st_cell HS.out.third 2
    clear C
    by_cases k0 : x.kind = 0
    · have s0 : (x.kind == 0) = true := by rw [beq_iff_eq]; exact k0
      have HKD := Lib.hid (does_0 D x k0)
      clear k0
      have hYc := rsize_cell HS.out.swap
      have HSZ := Lib.hid fun n => (rsize_any Y D.ns (W.drewN n) hYc (rdev_ok HS.out.swap).ns1).mono fun e w' h => (show e = _ ∧ w' = W.drewN n from ⟨h.1, h.2.symm⟩)
      have HFL := Lib.hid fun n => (rfill_any x.data (512 * D.ns) (by have := (rdev_ok HS.out.swap).ns0; omega) (by have := (rdev_ok HS.out.swap).ns1; omega) HX.out.data (W.drewN n)).mono fun e w' h => (show e = _ ∧ w' = W.drewN n from ⟨h.1, h.2.symm⟩)
      have HFZ : Hid ((fillM x.data (512 * D.ns)).size ≤ 9223372036854775807) := Lib.hid (by rw [fillM_size]; have := (rdev_ok HS.out.swap).ns1; omega)
      go_upto_region 5 with fail
      go_quiet (first
        | (go_at_call 13; exact Calls.quiet_of_same (HSZ.out _))
        | (go_at_call 20; exact Calls.quiet_of_same (HFL.out _)))
      go_upto_region 6 with fail
      go_region_held3 (fun w' => w'.cell? ⟨P, 2, none⟩ = some (.int .i64 x.n) ∧ w'.cell? ⟨P, 3, none⟩ = some (.int .i64 x.at') ∧ w'.cell? ⟨P, 4, none⟩ = some (.string x.data) ∧ w'.cell? ⟨P, 5, none⟩ = some (.slice ao x.ks.length cap0) ∧ w'.cell? ⟨P, 6, none⟩ = some (.int .i64 x.torn) ∧ w'.cell? ⟨P, 7, none⟩ = some (.int .u8 (x.mask : Int))) (go_keep) (first
        | ((go_at_call 21; refine (ok.write (by first | exact HS.out | exact (HS.out).drew | exact (HS.out).drewN _) x.n (fillM x.data (512 * D.ns)) HX.out.n HFZ.out hR).mono ?_; rintro e w2 ⟨rfl, hst2⟩; have p2 : _ = some (Value.int .i64 x.n) := st_cell hst2.fifth 2; have p3 : _ = some (Value.int .i64 x.at') := st_cell hst2.fifth 3; have p4 : _ = some (Value.string x.data) := st_cell hst2.fifth 4; have p5 : _ = some (Value.slice ao x.ks.length cap0) := st_cell hst2.fifth 5; have p6 : _ = some (Value.int .i64 x.torn) := st_cell hst2.fifth 6; have p7 : _ = some (Value.int .u8 (x.mask : Int)) := st_cell hst2.fifth 7; have HS2 := Lib.hid hst2; clear hst2))
        | ((go_at_call 22; refine (rwrite_any (by first | exact HS2.out.swap | exact (HS2.out.swap).drew | exact (HS2.out.swap).drewN _) x.n (fillM x.data (512 * D.ns)) HFZ.out hR).mono ?_; rintro e w3 ⟨rfl, hst3⟩; have p2 : _ = some (Value.int .i64 x.n) := st_cell hst3.fifth 2; have p3 : _ = some (Value.int .i64 x.at') := st_cell hst3.fifth 3; have p4 : _ = some (Value.string x.data) := st_cell hst3.fifth 4; have p5 : _ = some (Value.slice ao x.ks.length cap0) := st_cell hst3.fifth 5; have p6 : _ = some (Value.int .i64 x.torn) := st_cell hst3.fifth 6; have p7 : _ = some (Value.int .u8 (x.mask : Int)) := st_cell hst3.fifth 7; have HS3 := Lib.hid hst3.swap; clear hst3)))
      all_goals
        go_wp2_with fail
        go_meet
        exact ⟨rfl, by rw [HKD.out]; exact HS3.out⟩
    have t0 : (x.kind == 0) = false := by rw [beq_eq_false_iff_ne]; exact k0
    by_cases k1 : x.kind = 1
    · have s1 : (x.kind == 1) = true := by rw [beq_iff_eq]; exact k1
      have HKD := Lib.hid (does_1 D x k1)
      clear k1
      go_upto_region 8 with fail
      go_region_held3 (fun w' => w'.cell? ⟨P, 2, none⟩ = some (.int .i64 x.n) ∧ w'.cell? ⟨P, 3, none⟩ = some (.int .i64 x.at') ∧ w'.cell? ⟨P, 4, none⟩ = some (.string x.data) ∧ w'.cell? ⟨P, 5, none⟩ = some (.slice ao x.ks.length cap0) ∧ w'.cell? ⟨P, 6, none⟩ = some (.int .i64 x.torn) ∧ w'.cell? ⟨P, 7, none⟩ = some (.int .u8 (x.mask : Int))) (go_keep) (first
        | ((go_at_call 21; refine (ok.write (by first | exact HS.out | exact (HS.out).drew | exact (HS.out).drewN _) x.n x.data HX.out.n HX.out.data hR).mono ?_; rintro e w2 ⟨rfl, hst2⟩; have p2 : _ = some (Value.int .i64 x.n) := st_cell hst2.fifth 2; have p3 : _ = some (Value.int .i64 x.at') := st_cell hst2.fifth 3; have p4 : _ = some (Value.string x.data) := st_cell hst2.fifth 4; have p5 : _ = some (Value.slice ao x.ks.length cap0) := st_cell hst2.fifth 5; have p6 : _ = some (Value.int .i64 x.torn) := st_cell hst2.fifth 6; have p7 : _ = some (Value.int .u8 (x.mask : Int)) := st_cell hst2.fifth 7; have HS2 := Lib.hid hst2; clear hst2))
        | ((go_at_call 22; refine (rwrite_any (by first | exact HS2.out.swap | exact (HS2.out.swap).drew | exact (HS2.out.swap).drewN _) x.n x.data HX.out.data hR).mono ?_; rintro e w3 ⟨rfl, hst3⟩; have p2 : _ = some (Value.int .i64 x.n) := st_cell hst3.fifth 2; have p3 : _ = some (Value.int .i64 x.at') := st_cell hst3.fifth 3; have p4 : _ = some (Value.string x.data) := st_cell hst3.fifth 4; have p5 : _ = some (Value.slice ao x.ks.length cap0) := st_cell hst3.fifth 5; have p6 : _ = some (Value.int .i64 x.torn) := st_cell hst3.fifth 6; have p7 : _ = some (Value.int .u8 (x.mask : Int)) := st_cell hst3.fifth 7; have HS3 := Lib.hid hst3.swap; clear hst3)))
      all_goals
        go_wp2_with fail
        go_meet
        exact ⟨rfl, by rw [HKD.out]; exact HS3.out⟩
    have t1 : (x.kind == 1) = false := by rw [beq_eq_false_iff_ne]; exact k1
    by_cases k2 : x.kind = 2
    · have s2 : (x.kind == 2) = true := by rw [beq_iff_eq]; exact k2
      have HKD := Lib.hid (does_2 D x k2)
      clear k2
      go_wp2_with (first
        | ((go_at_call 23; refine (ok.flush (by first | exact HS.out | exact (HS.out).drew | exact (HS.out).drewN _) hR).mono ?_; rintro e w2 ⟨rfl, hst2⟩; have p2 : _ = some (Value.int .i64 x.n) := st_cell hst2.fifth 2; have p3 : _ = some (Value.int .i64 x.at') := st_cell hst2.fifth 3; have p4 : _ = some (Value.string x.data) := st_cell hst2.fifth 4; have p5 : _ = some (Value.slice ao x.ks.length cap0) := st_cell hst2.fifth 5; have p6 : _ = some (Value.int .i64 x.torn) := st_cell hst2.fifth 6; have p7 : _ = some (Value.int .u8 (x.mask : Int)) := st_cell hst2.fifth 7; have HS2 := Lib.hid hst2; clear hst2))
        | ((go_at_call 24; refine (rflush_any (by first | exact HS2.out.swap | exact (HS2.out.swap).drew | exact (HS2.out.swap).drewN _) hR).mono ?_; rintro e w3 ⟨rfl, hst3⟩; have p2 : _ = some (Value.int .i64 x.n) := st_cell hst3.fifth 2; have p3 : _ = some (Value.int .i64 x.at') := st_cell hst3.fifth 3; have p4 : _ = some (Value.string x.data) := st_cell hst3.fifth 4; have p5 : _ = some (Value.slice ao x.ks.length cap0) := st_cell hst3.fifth 5; have p6 : _ = some (Value.int .i64 x.torn) := st_cell hst3.fifth 6; have p7 : _ = some (Value.int .u8 (x.mask : Int)) := st_cell hst3.fifth 7; have HS3 := Lib.hid hst3.swap; clear hst3)))
      go_meet
      exact ⟨rfl, by rw [HKD.out]; exact HS3.out⟩
    have t2 : (x.kind == 2) = false := by rw [beq_eq_false_iff_ne]; exact k2
    by_cases k3 : x.kind = 3
    · have s3 : (x.kind == 3) = true := by rw [beq_iff_eq]; exact k3
      have HKD := Lib.hid (does_3 D x k3)
      clear k3
      go_wp2_with (first
        | ((go_at_call 25; refine (ok.read (by first | exact HS.out | exact (HS.out).drew | exact (HS.out).drewN _) x.n HX.out.n hR).mono ?_; rintro e w2 ⟨rfl, hst2⟩; have p2 : _ = some (Value.int .i64 x.n) := st_cell hst2.fifth 2; have p3 : _ = some (Value.int .i64 x.at') := st_cell hst2.fifth 3; have p4 : _ = some (Value.string x.data) := st_cell hst2.fifth 4; have p5 : _ = some (Value.slice ao x.ks.length cap0) := st_cell hst2.fifth 5; have p6 : _ = some (Value.int .i64 x.torn) := st_cell hst2.fifth 6; have p7 : _ = some (Value.int .u8 (x.mask : Int)) := st_cell hst2.fifth 7; have HS2 := Lib.hid hst2; clear hst2))
        | ((go_at_call 26; refine (rread_any (by first | exact HS2.out.swap | exact (HS2.out.swap).drew | exact (HS2.out.swap).drewN _) x.n hR).mono ?_; rintro e w3 ⟨rfl, hst3⟩; have p2 : _ = some (Value.int .i64 x.n) := st_cell hst3.fifth 2; have p3 : _ = some (Value.int .i64 x.at') := st_cell hst3.fifth 3; have p4 : _ = some (Value.string x.data) := st_cell hst3.fifth 4; have p5 : _ = some (Value.slice ao x.ks.length cap0) := st_cell hst3.fifth 5; have p6 : _ = some (Value.int .i64 x.torn) := st_cell hst3.fifth 6; have p7 : _ = some (Value.int .u8 (x.mask : Int)) := st_cell hst3.fifth 7; have HS3 := Lib.hid hst3.swap; clear hst3)))
      go_meet
      exact ⟨rfl, by rw [HKD.out]; exact HS3.out⟩
    have t3 : (x.kind == 3) = false := by rw [beq_eq_false_iff_ne]; exact k3
    by_cases k4 : x.kind = 4
    · have s4 : (x.kind == 4) = true := by rw [beq_iff_eq]; exact k4
      have HKD := Lib.hid (does_4 D x k4)
      clear k4
      go_upto_region 16 with fail
      go_region_held3 (fun w' => w'.cell? ⟨P, 2, none⟩ = some (.int .i64 x.n) ∧ w'.cell? ⟨P, 3, none⟩ = some (.int .i64 x.at') ∧ w'.cell? ⟨P, 4, none⟩ = some (.string x.data) ∧ w'.cell? ⟨P, 5, none⟩ = some (.slice ao x.ks.length cap0) ∧ w'.cell? ⟨P, 6, none⟩ = some (.int .i64 x.torn) ∧ w'.cell? ⟨P, 7, none⟩ = some (.int .u8 (x.mask : Int)) ∧ w'.cell? ⟨B, 0, none⟩ = some (.slice (some ⟨g, 0, none⟩) x.ks.length cap) ∧ w'.cell? ⟨B, 1, none⟩ = some (.int .i64 x.torn) ∧ w'.cell? ⟨B, 2, none⟩ = some (.int .u8 (x.mask : Int))) (go_keep) (first
        | ((go_at_call 27; refine (ok.plan (K := aKeep g cap x.ks) (by first | exact HS.out.fourth.swap | exact (HS.out.fourth.swap).drew | exact (HS.out.fourth.swap).drewN _) x.at' (.slice (some ⟨g, 0, none⟩) x.ks.length cap) x.ks x.torn x.mask HX.out.at' (keep_ints g cap x.ks) HX.out.crash).mono ?_; rintro e w2 ⟨rfl, hst2⟩; have b0 : _ = some (Value.slice (some ⟨g, 0, none⟩) x.ks.length cap) := st_cell hst2.fourth 0; have b1 : _ = some (Value.int .i64 x.torn) := st_cell hst2.fourth 1; have b2 : _ = some (Value.int .u8 (x.mask : Int)) := st_cell hst2.fourth 2; have p2 : _ = some (Value.int .i64 x.n) := st_cell hst2.fifth 2; have p3 : _ = some (Value.int .i64 x.at') := st_cell hst2.fifth 3; have p4 : _ = some (Value.string x.data) := st_cell hst2.fifth 4; have p5 : _ = some (Value.slice ao x.ks.length cap0) := st_cell hst2.fifth 5; have p6 : _ = some (Value.int .i64 x.torn) := st_cell hst2.fifth 6; have p7 : _ = some (Value.int .u8 (x.mask : Int)) := st_cell hst2.fifth 7; have HS2 := Lib.hid hst2; clear hst2))
        | ((go_at_call 28; refine (rplan_any (by first | exact HS2.out.third | exact (HS2.out.third).drew | exact (HS2.out.third).drewN _) x.at' (.slice ao x.ks.length cap0) x.ks x.torn x.mask HKK.out HX.out.crash HX.out.at'.2).mono ?_; rintro e w3 ⟨rfl, hst3⟩; have b0 : _ = some (Value.slice (some ⟨g, 0, none⟩) x.ks.length cap) := st_cell hst3.fourth 0; have b1 : _ = some (Value.int .i64 x.torn) := st_cell hst3.fourth 1; have b2 : _ = some (Value.int .u8 (x.mask : Int)) := st_cell hst3.fourth 2; have p2 : _ = some (Value.int .i64 x.n) := st_cell hst3.fifth 2; have p3 : _ = some (Value.int .i64 x.at') := st_cell hst3.fifth 3; have p4 : _ = some (Value.string x.data) := st_cell hst3.fifth 4; have p5 : _ = some (Value.slice ao x.ks.length cap0) := st_cell hst3.fifth 5; have p6 : _ = some (Value.int .i64 x.torn) := st_cell hst3.fifth 6; have p7 : _ = some (Value.int .u8 (x.mask : Int)) := st_cell hst3.fifth 7; have HS3 := Lib.hid hst3.swap.fourth.third.third; clear hst3)))
      all_goals
        go_wp2_with fail
        go_meet
        exact ⟨rfl, by rw [HKD.out]; exact HS3.out⟩
    have t4 : (x.kind == 4) = false := by rw [beq_eq_false_iff_ne]; exact k4
    by_cases k5 : x.kind = 5
    · have s5 : (x.kind == 5) = true := by rw [beq_iff_eq]; exact k5
      have HKD := Lib.hid (does_5 D x k5)
      clear k5
      go_upto_region 18 with fail
      go_region_held3 (fun w' => w'.cell? ⟨P, 2, none⟩ = some (.int .i64 x.n) ∧ w'.cell? ⟨P, 3, none⟩ = some (.int .i64 x.at') ∧ w'.cell? ⟨P, 4, none⟩ = some (.string x.data) ∧ w'.cell? ⟨P, 5, none⟩ = some (.slice ao x.ks.length cap0) ∧ w'.cell? ⟨P, 6, none⟩ = some (.int .i64 x.torn) ∧ w'.cell? ⟨P, 7, none⟩ = some (.int .u8 (x.mask : Int)) ∧ w'.cell? ⟨B, 0, none⟩ = some (.slice (some ⟨g, 0, none⟩) x.ks.length cap) ∧ w'.cell? ⟨B, 1, none⟩ = some (.int .i64 x.torn) ∧ w'.cell? ⟨B, 2, none⟩ = some (.int .u8 (x.mask : Int))) (go_keep) (first
        | ((go_at_call 29; refine (ok.pull (K := aKeep g cap x.ks) (by first | exact HS.out.fourth.swap | exact (HS.out.fourth.swap).drew | exact (HS.out.fourth.swap).drewN _) (.slice (some ⟨g, 0, none⟩) x.ks.length cap) x.ks x.torn x.mask (keep_ints g cap x.ks) HX.out.crash hR0).mono ?_; rintro e w2 ⟨rfl, hst2⟩; have b0 : _ = some (Value.slice (some ⟨g, 0, none⟩) x.ks.length cap) := st_cell hst2.fourth 0; have b1 : _ = some (Value.int .i64 x.torn) := st_cell hst2.fourth 1; have b2 : _ = some (Value.int .u8 (x.mask : Int)) := st_cell hst2.fourth 2; have p2 : _ = some (Value.int .i64 x.n) := st_cell hst2.fifth 2; have p3 : _ = some (Value.int .i64 x.at') := st_cell hst2.fifth 3; have p4 : _ = some (Value.string x.data) := st_cell hst2.fifth 4; have p5 : _ = some (Value.slice ao x.ks.length cap0) := st_cell hst2.fifth 5; have p6 : _ = some (Value.int .i64 x.torn) := st_cell hst2.fifth 6; have p7 : _ = some (Value.int .u8 (x.mask : Int)) := st_cell hst2.fifth 7; have HS2 := Lib.hid hst2; clear hst2))
        | ((go_at_call 30; refine (rpull_any (by first | exact HS2.out.third | exact (HS2.out.third).drew | exact (HS2.out.third).drewN _) (.slice ao x.ks.length cap0) x.ks x.torn x.mask HKK.out HX.out.crash hR0).mono ?_; rintro e w3 ⟨rfl, hst3⟩; have b0 : _ = some (Value.slice (some ⟨g, 0, none⟩) x.ks.length cap) := st_cell hst3.fourth 0; have b1 : _ = some (Value.int .i64 x.torn) := st_cell hst3.fourth 1; have b2 : _ = some (Value.int .u8 (x.mask : Int)) := st_cell hst3.fourth 2; have p2 : _ = some (Value.int .i64 x.n) := st_cell hst3.fifth 2; have p3 : _ = some (Value.int .i64 x.at') := st_cell hst3.fifth 3; have p4 : _ = some (Value.string x.data) := st_cell hst3.fifth 4; have p5 : _ = some (Value.slice ao x.ks.length cap0) := st_cell hst3.fifth 5; have p6 : _ = some (Value.int .i64 x.torn) := st_cell hst3.fifth 6; have p7 : _ = some (Value.int .u8 (x.mask : Int)) := st_cell hst3.fifth 7; have HS3 := Lib.hid hst3.swap.fourth.third.third; clear hst3)))
      all_goals
        go_wp2_with fail
        go_meet
        exact ⟨rfl, by rw [HKD.out]; exact HS3.out⟩
    have t5 : (x.kind == 5) = false := by rw [beq_eq_false_iff_ne]; exact k5
    by_cases k6 : x.kind = 6
    · have s6 : (x.kind == 6) = true := by rw [beq_iff_eq]; exact k6
      have HKD := Lib.hid (does_6 D x k6)
      clear k6
      go_wp2_with (first
        | ((go_at_call 31; refine (ok.restart (by first | exact HS.out | exact (HS.out).drew | exact (HS.out).drewN _)).mono ?_; rintro e w2 ⟨rfl, hst2⟩; have p2 : _ = some (Value.int .i64 x.n) := st_cell hst2.fifth 2; have p3 : _ = some (Value.int .i64 x.at') := st_cell hst2.fifth 3; have p4 : _ = some (Value.string x.data) := st_cell hst2.fifth 4; have p5 : _ = some (Value.slice ao x.ks.length cap0) := st_cell hst2.fifth 5; have p6 : _ = some (Value.int .i64 x.torn) := st_cell hst2.fifth 6; have p7 : _ = some (Value.int .u8 (x.mask : Int)) := st_cell hst2.fifth 7; have HS2 := Lib.hid hst2; clear hst2))
        | ((go_at_call 32; refine (rrestart_any (by first | exact HS2.out.swap | exact (HS2.out.swap).drew | exact (HS2.out.swap).drewN _)).mono ?_; rintro e w3 ⟨rfl, hst3⟩; have p2 : _ = some (Value.int .i64 x.n) := st_cell hst3.fifth 2; have p3 : _ = some (Value.int .i64 x.at') := st_cell hst3.fifth 3; have p4 : _ = some (Value.string x.data) := st_cell hst3.fifth 4; have p5 : _ = some (Value.slice ao x.ks.length cap0) := st_cell hst3.fifth 5; have p6 : _ = some (Value.int .i64 x.torn) := st_cell hst3.fifth 6; have p7 : _ = some (Value.int .u8 (x.mask : Int)) := st_cell hst3.fifth 7; have HS3 := Lib.hid hst3.swap; clear hst3)))
      go_meet
      exact ⟨rfl, by rw [HKD.out]; exact HS3.out⟩
    have t6 : (x.kind == 6) = false := by rw [beq_eq_false_iff_ne]; exact k6
    by_cases k7 : x.kind = 7
    · have s7 : (x.kind == 7) = true := by rw [beq_iff_eq]; exact k7
      have HKD := Lib.hid (does_7 D x k7)
      clear k7
      go_upto_region 22 with fail
      go_region_held3 (fun w' => w'.cell? ⟨P, 2, none⟩ = some (.int .i64 x.n) ∧ w'.cell? ⟨P, 3, none⟩ = some (.int .i64 x.at') ∧ w'.cell? ⟨P, 4, none⟩ = some (.string x.data) ∧ w'.cell? ⟨P, 5, none⟩ = some (.slice ao x.ks.length cap0) ∧ w'.cell? ⟨P, 6, none⟩ = some (.int .i64 x.torn) ∧ w'.cell? ⟨P, 7, none⟩ = some (.int .u8 (x.mask : Int))) (go_keep) (first
        | ((go_at_call 33; refine (ok.corrupt (by first | exact HS.out | exact (HS.out).drew | exact (HS.out).drewN _) x.n x.at' x.data HX.out.n HX.out.at' HX.out.data hR0).mono ?_; rintro e w2 ⟨rfl, hst2⟩; have p2 : _ = some (Value.int .i64 x.n) := st_cell hst2.fifth 2; have p3 : _ = some (Value.int .i64 x.at') := st_cell hst2.fifth 3; have p4 : _ = some (Value.string x.data) := st_cell hst2.fifth 4; have p5 : _ = some (Value.slice ao x.ks.length cap0) := st_cell hst2.fifth 5; have p6 : _ = some (Value.int .i64 x.torn) := st_cell hst2.fifth 6; have p7 : _ = some (Value.int .u8 (x.mask : Int)) := st_cell hst2.fifth 7; have HS2 := Lib.hid hst2; clear hst2))
        | ((go_at_call 34; refine (rcorrupt_any (by first | exact HS2.out.swap | exact (HS2.out.swap).drew | exact (HS2.out.swap).drewN _) x.n x.at' x.data ⟨HX.out.n.2, HX.out.n.1⟩ ⟨HX.out.at'.2, HX.out.at'.1⟩ HX.out.data hR0).mono ?_; rintro e w3 ⟨rfl, hst3⟩; have p2 : _ = some (Value.int .i64 x.n) := st_cell hst3.fifth 2; have p3 : _ = some (Value.int .i64 x.at') := st_cell hst3.fifth 3; have p4 : _ = some (Value.string x.data) := st_cell hst3.fifth 4; have p5 : _ = some (Value.slice ao x.ks.length cap0) := st_cell hst3.fifth 5; have p6 : _ = some (Value.int .i64 x.torn) := st_cell hst3.fifth 6; have p7 : _ = some (Value.int .u8 (x.mask : Int)) := st_cell hst3.fifth 7; have HS3 := Lib.hid hst3.swap; clear hst3)))
      all_goals
        go_wp2_with fail
        go_meet
        exact ⟨rfl, by rw [HKD.out]; exact HS3.out⟩
    have t7 : (x.kind == 7) = false := by rw [beq_eq_false_iff_ne]; exact k7
    have HKD := Lib.hid (does_8 D x k0 k1 k2 k3 k4 k5 k6 k7)
    clear k0 k1 k2 k3 k4 k5 k6 k7
    go_wp2_with fail
    go_meet
    exact ⟨rfl, by rw [HKD.out]; exact HS.out⟩
  case rest =>
    obtain ⟨rfl, hst⟩ := hcut
    clear p0 p2 p3 p4 p5 p6 p7 HS
    obtain ⟨E, hE⟩ : ∃ E, E = D.does x := ⟨_, rfl⟩
    rw [← hE] at hst HROOM
    have HE := Lib.hid hE
    clear hE
    have q5 : _ = some (Value.slice ao x.ks.length cap0) := st_cell hst.fifth 5
    have q6 : _ = some (Value.int .i64 x.torn) := st_cell hst.fifth 6
    have q7 : _ = some (Value.int .u8 (x.mask : Int)) := st_cell hst.fifth 7
    have c0 : _ = some (Value.slice (some ⟨g, 0, none⟩) x.ks.length cap) := st_cell hst.third 0
    have c1 : _ = some (Value.int .i64 x.torn) := st_cell hst.third 1
    have c2 : _ = some (Value.int .u8 (x.mask : Int)) := st_cell hst.third 2
    have HST := Lib.hid hst
    clear hst
    go_wp2_with (go_at_call 35; refine (kept_any HST.out g cap (.slice ao x.ks.length cap0) x.ks x.torn x.mask (fun W h i hi => st_at h.fourth rfl i (by omega)) HCAP.out HKK.out HCC.out.crash (.bool true) (.bool true)).mono ?_; rintro e w4 ⟨rfl, hst4⟩; have HS4 := Lib.hid hst4.third.fourth; clear hst4 q5 q6 q7 c0 c1 c2)
    go_loopw [14] (fun i W => ∃ k : Nat, k ≤ x.ks.length ∧ i = .int .i64 ↑k ∧ ∃ xs, St w W (aRow 3 1 (.slice (some ⟨g, 0, none⟩) (x.ks.length + 1) cap) (x.ks.length + 1) xs :: aCrash B (.slice (some ⟨g, 0, none⟩) x.ks.length cap) x.torn x.mask :: dev X E :: rDev Y E :: aVar P (opCells x (.slice ao x.ks.length cap0)) 42 :: As)) (fun i _ => x.ks.length - (intOf i).toNat)
    case atStart => exact ⟨0, Nat.zero_le _, rfl, _, HS4.out⟩
    case round =>
      obtain ⟨k, hk, rfl, xs, hst⟩ := hrel
      have c0 : _ = some (Value.slice (some ⟨g, 0, none⟩) x.ks.length cap) := st_cell hst.swap 0
      by_cases hlt : k < x.ks.length
      · have hx := st_len hst
        obtain ⟨u, hat⟩ : ∃ u, wr.cell? ⟨g, k, none⟩ = some u := ⟨_, (st_at hst rfl k (by omega)).trans (List.getElem?_eq_getElem (by omega))⟩
        have hfr := st_unfrozen hst k
        have HP := Lib.hid (st_put (u := .int .i64 (-1)) hst (show k < (x.ks.length + 1) * 1 by omega))
        clear hst hx
        go_wp2_with fail
        go_roundw
        case rel => exact ⟨k + 1, by omega, by go_num, _, HP.out⟩
        case measure => simp [intOf] <;> omega
      · obtain rfl : k = x.ks.length := by omega
        have HD := Lib.hid hst.drop.drop
        obtain ⟨r, a, hr⟩ := rdev_open hst.fourth
        have hS := rsees a hr
        have s8 := hS.c8
        have s9 := hS.c9
        have s10 := hS.c10
        obtain ⟨ro, rc, hcv, _⟩ := hS.hc
        have s3 := hS.c3
        rw [hcv] at s3
        clear hS hcv hr a hlt hk hst
        go_wp2_with fail
        go_quiet (first
          | (go_at_call 36; exact Calls.quiet_of (ok.down (HD.out.drewN _)))
          | (go_at_call 37; exact Calls.quiet_of (ok.calls (HD.out.drewN _) HROOM.out))
          | (go_at_call 38; exact Calls.quiet_of (ok.reads (HD.out.drewN _) HROOM.out))
          | (go_at_call 39; exact Calls.quiet_of (ok.unflushed (HD.out.drewN _) HROOM.out)))
        go_wp2_with fail
        go_ret
        exact ⟨rfl, by rw [← HE.out]; exact (HD.out.third.drop).drewN _⟩
end
end Go.Proofs.Ytkebilddoanhgaa.dev
