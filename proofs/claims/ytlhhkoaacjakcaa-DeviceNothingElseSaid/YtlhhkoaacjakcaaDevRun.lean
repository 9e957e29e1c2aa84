/-
  Layer 4, the law's own: run: a call, as the program answers it. (gen_run.py)
-/
import Derived.Test.YtlhhkoaacjakcaaDevV
import Derived.Deep.Cut
namespace Go.Proofs.Ytlhhkoaacjakcaa.dev
open Go.ChangeShapes Go.WideShapes Go.ChangeAt Go.RowKit mem
set_option linter.unusedVariables false

def DevM.runS (D : DevM) (x : OpM) : ByteArray := if x.kind = 3 then (D.read x.n).2.1 else empty
def DevM.runE (D : DevM) (x : OpM) : Int :=
  if x.kind = 0 then (D.write x.n (fillM x.data (512 * D.ns))).2
  else if x.kind = 1 then (D.write x.n x.data).2
  else if x.kind = 2 then D.flush.2
  else if x.kind = 3 then (D.read x.n).2.2
  else if x.kind = 4 then (D.setPlan x.at' x.ks x.torn x.mask).2
  else if x.kind = 5 then (D.pull x.ks x.torn x.mask).2
  else if x.kind = 6 then D.restart.2
  else if x.kind = 7 then (D.corrupt x.n x.at' x.data).2
  else 0
theorem runE_0 (D : DevM) (x : OpM) (h : x.kind = 0) : D.runE x = (D.write x.n (fillM x.data (512 * D.ns))).2 := by unfold DevM.runE; rw [if_pos h]
theorem runS_0 (D : DevM) (x : OpM) (h : x.kind = 0) : D.runS x = empty := by unfold DevM.runS; rw [if_neg (by omega)]
theorem runE_1 (D : DevM) (x : OpM) (h : x.kind = 1) : D.runE x = (D.write x.n x.data).2 := by unfold DevM.runE; rw [if_neg (by omega)]; rw [if_pos h]
theorem runS_1 (D : DevM) (x : OpM) (h : x.kind = 1) : D.runS x = empty := by unfold DevM.runS; rw [if_neg (by omega)]
theorem runE_2 (D : DevM) (x : OpM) (h : x.kind = 2) : D.runE x = D.flush.2 := by unfold DevM.runE; rw [if_neg (by omega)]; rw [if_neg (by omega)]; rw [if_pos h]
theorem runS_2 (D : DevM) (x : OpM) (h : x.kind = 2) : D.runS x = empty := by unfold DevM.runS; rw [if_neg (by omega)]
theorem runE_3 (D : DevM) (x : OpM) (h : x.kind = 3) : D.runE x = (D.read x.n).2.2 := by unfold DevM.runE; rw [if_neg (by omega)]; rw [if_neg (by omega)]; rw [if_neg (by omega)]; rw [if_pos h]
theorem runS_3 (D : DevM) (x : OpM) (h : x.kind = 3) : D.runS x = (D.read x.n).2.1 := by unfold DevM.runS; rw [if_pos h]
theorem runE_4 (D : DevM) (x : OpM) (h : x.kind = 4) : D.runE x = (D.setPlan x.at' x.ks x.torn x.mask).2 := by unfold DevM.runE; rw [if_neg (by omega)]; rw [if_neg (by omega)]; rw [if_neg (by omega)]; rw [if_neg (by omega)]; rw [if_pos h]
theorem runS_4 (D : DevM) (x : OpM) (h : x.kind = 4) : D.runS x = empty := by unfold DevM.runS; rw [if_neg (by omega)]
theorem runE_5 (D : DevM) (x : OpM) (h : x.kind = 5) : D.runE x = (D.pull x.ks x.torn x.mask).2 := by unfold DevM.runE; rw [if_neg (by omega)]; rw [if_neg (by omega)]; rw [if_neg (by omega)]; rw [if_neg (by omega)]; rw [if_neg (by omega)]; rw [if_pos h]
theorem runS_5 (D : DevM) (x : OpM) (h : x.kind = 5) : D.runS x = empty := by unfold DevM.runS; rw [if_neg (by omega)]
theorem runE_6 (D : DevM) (x : OpM) (h : x.kind = 6) : D.runE x = D.restart.2 := by unfold DevM.runE; rw [if_neg (by omega)]; rw [if_neg (by omega)]; rw [if_neg (by omega)]; rw [if_neg (by omega)]; rw [if_neg (by omega)]; rw [if_neg (by omega)]; rw [if_pos h]
theorem runS_6 (D : DevM) (x : OpM) (h : x.kind = 6) : D.runS x = empty := by unfold DevM.runS; rw [if_neg (by omega)]
theorem runE_7 (D : DevM) (x : OpM) (h : x.kind = 7) : D.runE x = (D.corrupt x.n x.at' x.data).2 := by unfold DevM.runE; rw [if_neg (by omega)]; rw [if_neg (by omega)]; rw [if_neg (by omega)]; rw [if_neg (by omega)]; rw [if_neg (by omega)]; rw [if_neg (by omega)]; rw [if_neg (by omega)]; rw [if_pos h]
theorem runS_7 (D : DevM) (x : OpM) (h : x.kind = 7) : D.runS x = empty := by unfold DevM.runS; rw [if_neg (by omega)]
theorem runS_n (D : DevM) (x : OpM) (h : ¬ x.kind = 3) : D.runS x = empty := by unfold DevM.runS; rw [if_neg h]
theorem runE_8 (D : DevM) (x : OpM) (h0 : ¬ x.kind = 0) (h1 : ¬ x.kind = 1) (h2 : ¬ x.kind = 2) (h3 : ¬ x.kind = 3) (h4 : ¬ x.kind = 4) (h5 : ¬ x.kind = 5) (h6 : ¬ x.kind = 6) (h7 : ¬ x.kind = 7) : D.runE x = 0 := by unfold DevM.runE; rw [if_neg h0, if_neg h1, if_neg h2, if_neg h3, if_neg h4, if_neg h5, if_neg h6, if_neg h7]

section
variable {w wr : World} {As : List Ast} {dev : Nat → DevM → Ast} {X : Nat} {D : DevM}
set_option maxHeartbeats 4000000 in
set_option maxRecDepth 8000 in
theorem run_any (ok : DevOk dev) (h : St w wr (dev X D :: As)) (x : OpM) (kv : Value) (hk : IntsIn w kv x.ks) (C : x.Ok) (hR : D.Room 1) (ns0 : 1 ≤ D.ns) (ns1 : D.ns ≤ 8) :
    Calls Try.prog 36 #[pt X, .agg (opCells x kv).toArray] wr fun e w' => e = .returned (.tuple #[.string (D.runS x), .int .i64 (D.runE x)]) ∧ St w w' (dev X (D.does x) :: As) := by
  have h0 := st_new h (opCells x kv) 42
  have HKK := Lib.hid hk
  obtain ⟨ao, cap0, rfl, hc⟩ := hk
  have p0 : _ = some (Value.int .i64 x.kind) := st_cell h0 0
  have p2 : _ = some (Value.int .i64 x.n) := st_cell h0 2
  have p3 : _ = some (Value.int .i64 x.at') := st_cell h0 3
  have p4 : _ = some (Value.string x.data) := st_cell h0 4
  have p5 : _ = some (Value.slice ao x.ks.length cap0) := st_cell h0 5
  have p6 : _ = some (Value.int .i64 x.torn) := st_cell h0 6
  have p7 : _ = some (Value.int .u8 (x.mask : Int)) := st_cell h0 7
  have HS := Lib.hid h0.swap
  have HX := Lib.hid C
  have hR0 := room_less hR (Nat.zero_le 1)
  have l0 : (x.ks.length : Int) ≤ 17592186043904 := by have := C.crash.len; omega
  clear h h0 hc C
  unfold opCells at p0 p2 p3 p4 p5 p6 p7 HS ⊢
  go_enter Try.func36, Try.ntmps36
  go_upto_region 4 with fail
  generalize (wr.alloc (.cells #[.int .i64 x.kind, .int .i64 x.who, .int .i64 x.n, .int .i64 x.at', .string x.data, .slice ao x.ks.length cap0, .int .i64 x.torn, .int .u8 (x.mask : Int)] 42)) = W at HS p0 p2 p3 p4 p5 p6 p7 ⊢
  generalize wr.heap.size = P at HS p0 p2 p3 p4 p5 p6 p7 ⊢
  by_cases k0 : x.kind = 0
  · have s0 : (x.kind == 0) = true := by rw [beq_iff_eq]; exact k0
    have HKD := Lib.hid (does_0 D x k0)
    have HKE := Lib.hid (runE_0 D x k0)
    have HKS := Lib.hid (runS_0 D x k0)
    clear k0
    have HFZ : Hid ((fillM x.data (512 * D.ns)).size ≤ 9223372036854775807) := Lib.hid (by rw [fillM_size]; omega)
    go_upto_region 5 with fail
    go_region_held3 (fun w' => w'.cell? ⟨P, 2, none⟩ = some (.int .i64 x.n) ∧ w'.cell? ⟨P, 3, none⟩ = some (.int .i64 x.at') ∧ w'.cell? ⟨P, 4, none⟩ = some (.string x.data) ∧ w'.cell? ⟨P, 5, none⟩ = some (.slice ao x.ks.length cap0) ∧ w'.cell? ⟨P, 6, none⟩ = some (.int .i64 x.torn) ∧ w'.cell? ⟨P, 7, none⟩ = some (.int .u8 (x.mask : Int))) (go_keep) (first
      | ((go_at_call 16; refine (ok.size (by first | exact HS.out | exact (HS.out).drew | exact (HS.out).drewN _ | exact ((HS.out).drew).drewN _ | exact ((HS.out).drewN _).drew)).mono ?_; rintro e w2 ⟨rfl, q, rfl⟩))
      | ((go_at_call 31; refine (rfill_any x.data (512 * D.ns) (by omega) (by omega) HX.out.data _).mono ?_; rintro e w2 ⟨rfl, rfl⟩))
      | ((go_at_call 20; refine (ok.write (by first | exact HS.out | exact (HS.out).drew | exact (HS.out).drewN _ | exact ((HS.out).drew).drewN _ | exact ((HS.out).drewN _).drew) x.n (fillM x.data (512 * D.ns)) HX.out.n HFZ.out hR).mono ?_; rintro e w3 ⟨rfl, hst3⟩; have p2 : _ = some (Value.int .i64 x.n) := st_cell hst3.swap 2; have p3 : _ = some (Value.int .i64 x.at') := st_cell hst3.swap 3; have p4 : _ = some (Value.string x.data) := st_cell hst3.swap 4; have p5 : _ = some (Value.slice ao x.ks.length cap0) := st_cell hst3.swap 5; have p6 : _ = some (Value.int .i64 x.torn) := st_cell hst3.swap 6; have p7 : _ = some (Value.int .u8 (x.mask : Int)) := st_cell hst3.swap 7; have HS3 := Lib.hid hst3; clear hst3)))
    go_wp2_with fail
    go_ret2
    refine ⟨by rw [HKE.out, HKS.out]; rfl, ?_⟩
    rw [HKD.out]
    exact HS3.out.swap.drop
  have t0 : (x.kind == 0) = false := by rw [beq_eq_false_iff_ne]; exact k0
  by_cases k1 : x.kind = 1
  · have s1 : (x.kind == 1) = true := by rw [beq_iff_eq]; exact k1
    have HKD := Lib.hid (does_1 D x k1)
    have HKE := Lib.hid (runE_1 D x k1)
    have HKS := Lib.hid (runS_1 D x k1)
    clear k1
    go_wp2_with (first
      | ((go_at_call 20; refine (ok.write (by first | exact HS.out | exact (HS.out).drew | exact (HS.out).drewN _ | exact ((HS.out).drew).drewN _ | exact ((HS.out).drewN _).drew) x.n x.data HX.out.n HX.out.data hR).mono ?_; rintro e w3 ⟨rfl, hst3⟩; have p2 : _ = some (Value.int .i64 x.n) := st_cell hst3.swap 2; have p3 : _ = some (Value.int .i64 x.at') := st_cell hst3.swap 3; have p4 : _ = some (Value.string x.data) := st_cell hst3.swap 4; have p5 : _ = some (Value.slice ao x.ks.length cap0) := st_cell hst3.swap 5; have p6 : _ = some (Value.int .i64 x.torn) := st_cell hst3.swap 6; have p7 : _ = some (Value.int .u8 (x.mask : Int)) := st_cell hst3.swap 7; have HS3 := Lib.hid hst3; clear hst3)))
    go_ret2
    refine ⟨by rw [HKE.out, HKS.out]; rfl, ?_⟩
    rw [HKD.out]
    exact HS3.out.swap.drop
  have t1 : (x.kind == 1) = false := by rw [beq_eq_false_iff_ne]; exact k1
  by_cases k2 : x.kind = 2
  · have s2 : (x.kind == 2) = true := by rw [beq_iff_eq]; exact k2
    have HKD := Lib.hid (does_2 D x k2)
    have HKE := Lib.hid (runE_2 D x k2)
    have HKS := Lib.hid (runS_2 D x k2)
    clear k2
    go_wp2_with (first
      | ((go_at_call 21; refine (ok.flush (by first | exact HS.out | exact (HS.out).drew | exact (HS.out).drewN _ | exact ((HS.out).drew).drewN _ | exact ((HS.out).drewN _).drew) hR).mono ?_; rintro e w3 ⟨rfl, hst3⟩; have p2 : _ = some (Value.int .i64 x.n) := st_cell hst3.swap 2; have p3 : _ = some (Value.int .i64 x.at') := st_cell hst3.swap 3; have p4 : _ = some (Value.string x.data) := st_cell hst3.swap 4; have p5 : _ = some (Value.slice ao x.ks.length cap0) := st_cell hst3.swap 5; have p6 : _ = some (Value.int .i64 x.torn) := st_cell hst3.swap 6; have p7 : _ = some (Value.int .u8 (x.mask : Int)) := st_cell hst3.swap 7; have HS3 := Lib.hid hst3; clear hst3)))
    go_ret2
    refine ⟨by rw [HKE.out, HKS.out]; rfl, ?_⟩
    rw [HKD.out]
    exact HS3.out.swap.drop
  have t2 : (x.kind == 2) = false := by rw [beq_eq_false_iff_ne]; exact k2
  by_cases k3 : x.kind = 3
  · have s3 : (x.kind == 3) = true := by rw [beq_iff_eq]; exact k3
    have HKD := Lib.hid (does_3 D x k3)
    have HKE := Lib.hid (runE_3 D x k3)
    have HKS := Lib.hid (runS_3 D x k3)
    clear k3
    go_wp2_with (first
      | ((go_at_call 19; refine (ok.read (by first | exact HS.out | exact (HS.out).drew | exact (HS.out).drewN _ | exact ((HS.out).drew).drewN _ | exact ((HS.out).drewN _).drew) x.n HX.out.n hR).mono ?_; rintro e w3 ⟨rfl, hst3⟩; have p2 : _ = some (Value.int .i64 x.n) := st_cell hst3.swap 2; have p3 : _ = some (Value.int .i64 x.at') := st_cell hst3.swap 3; have p4 : _ = some (Value.string x.data) := st_cell hst3.swap 4; have p5 : _ = some (Value.slice ao x.ks.length cap0) := st_cell hst3.swap 5; have p6 : _ = some (Value.int .i64 x.torn) := st_cell hst3.swap 6; have p7 : _ = some (Value.int .u8 (x.mask : Int)) := st_cell hst3.swap 7; have HS3 := Lib.hid hst3; clear hst3)))
    go_ret2
    refine ⟨by rw [HKE.out, HKS.out]; rfl, ?_⟩
    rw [HKD.out]
    exact HS3.out.swap.drop
  have t3 : (x.kind == 3) = false := by rw [beq_eq_false_iff_ne]; exact k3
  by_cases k4 : x.kind = 4
  · have s4 : (x.kind == 4) = true := by rw [beq_iff_eq]; exact k4
    have HKD := Lib.hid (does_4 D x k4)
    have HKE := Lib.hid (runE_4 D x k4)
    have HKS := Lib.hid (runS_4 D x k4)
    clear k4
    go_upto_region 13 with fail
    go_region_held3 (fun w' => w'.cell? ⟨P, 2, none⟩ = some (.int .i64 x.n) ∧ w'.cell? ⟨P, 3, none⟩ = some (.int .i64 x.at') ∧ w'.cell? ⟨P, 4, none⟩ = some (.string x.data) ∧ w'.cell? ⟨P, 5, none⟩ = some (.slice ao x.ks.length cap0) ∧ w'.cell? ⟨P, 6, none⟩ = some (.int .i64 x.torn) ∧ w'.cell? ⟨P, 7, none⟩ = some (.int .u8 (x.mask : Int))) (go_keep) (first
      | ((go_at_call 34; refine (in_any (by first | exact HS.out | exact (HS.out).drew | exact (HS.out).drewN _ | exact ((HS.out).drew).drewN _ | exact ((HS.out).drewN _).drew) (.slice ao x.ks.length cap0) x.ks x.torn x.mask HKK.out HX.out.crash).mono ?_; rintro e w2 ⟨g, cap, rfl, hcap, hst2⟩; have p2 : _ = some (Value.int .i64 x.n) := st_cell hst2.third 2; have p3 : _ = some (Value.int .i64 x.at') := st_cell hst2.third 3; have p4 : _ = some (Value.string x.data) := st_cell hst2.third 4; have p5 : _ = some (Value.slice ao x.ks.length cap0) := st_cell hst2.third 5; have p6 : _ = some (Value.int .i64 x.torn) := st_cell hst2.third 6; have p7 : _ = some (Value.int .u8 (x.mask : Int)) := st_cell hst2.third 7; have HS2 := Lib.hid hst2.swap; clear hst2))
      | ((go_at_call 22; refine (ok.plan (K := aKeep g cap x.ks) (by first | exact HS2.out | exact (HS2.out).drew | exact (HS2.out).drewN _ | exact ((HS2.out).drew).drewN _ | exact ((HS2.out).drewN _).drew) x.at' (.slice (some ⟨g, 0, none⟩) x.ks.length cap) x.ks x.torn x.mask HX.out.at' (keep_ints g cap x.ks) HX.out.crash).mono ?_; rintro e w3 ⟨rfl, hst3⟩; have p2 : _ = some (Value.int .i64 x.n) := st_cell hst3.third 2; have p3 : _ = some (Value.int .i64 x.at') := st_cell hst3.third 3; have p4 : _ = some (Value.string x.data) := st_cell hst3.third 4; have p5 : _ = some (Value.slice ao x.ks.length cap0) := st_cell hst3.third 5; have p6 : _ = some (Value.int .i64 x.torn) := st_cell hst3.third 6; have p7 : _ = some (Value.int .u8 (x.mask : Int)) := st_cell hst3.third 7; have HS3 := Lib.hid hst3; clear hst3)))
    go_wp2_with fail
    go_ret2
    refine ⟨by rw [HKE.out, HKS.out]; rfl, ?_⟩
    rw [HKD.out]
    exact HS3.out.third.drop.swap.drop
  have t4 : (x.kind == 4) = false := by rw [beq_eq_false_iff_ne]; exact k4
  by_cases k5 : x.kind = 5
  · have s5 : (x.kind == 5) = true := by rw [beq_iff_eq]; exact k5
    have HKD := Lib.hid (does_5 D x k5)
    have HKE := Lib.hid (runE_5 D x k5)
    have HKS := Lib.hid (runS_5 D x k5)
    clear k5
    go_wp2_with (first
      | ((go_at_call 34; refine (in_any (by first | exact HS.out | exact (HS.out).drew | exact (HS.out).drewN _ | exact ((HS.out).drew).drewN _ | exact ((HS.out).drewN _).drew) (.slice ao x.ks.length cap0) x.ks x.torn x.mask HKK.out HX.out.crash).mono ?_; rintro e w2 ⟨g, cap, rfl, hcap, hst2⟩; have p2 : _ = some (Value.int .i64 x.n) := st_cell hst2.third 2; have p3 : _ = some (Value.int .i64 x.at') := st_cell hst2.third 3; have p4 : _ = some (Value.string x.data) := st_cell hst2.third 4; have p5 : _ = some (Value.slice ao x.ks.length cap0) := st_cell hst2.third 5; have p6 : _ = some (Value.int .i64 x.torn) := st_cell hst2.third 6; have p7 : _ = some (Value.int .u8 (x.mask : Int)) := st_cell hst2.third 7; have HS2 := Lib.hid hst2.swap; clear hst2))
      | ((go_at_call 23; refine (ok.pull (K := aKeep g cap x.ks) (by first | exact HS2.out | exact (HS2.out).drew | exact (HS2.out).drewN _ | exact ((HS2.out).drew).drewN _ | exact ((HS2.out).drewN _).drew) (.slice (some ⟨g, 0, none⟩) x.ks.length cap) x.ks x.torn x.mask (keep_ints g cap x.ks) HX.out.crash hR0).mono ?_; rintro e w3 ⟨rfl, hst3⟩; have p2 : _ = some (Value.int .i64 x.n) := st_cell hst3.third 2; have p3 : _ = some (Value.int .i64 x.at') := st_cell hst3.third 3; have p4 : _ = some (Value.string x.data) := st_cell hst3.third 4; have p5 : _ = some (Value.slice ao x.ks.length cap0) := st_cell hst3.third 5; have p6 : _ = some (Value.int .i64 x.torn) := st_cell hst3.third 6; have p7 : _ = some (Value.int .u8 (x.mask : Int)) := st_cell hst3.third 7; have HS3 := Lib.hid hst3; clear hst3)))
    go_ret2
    refine ⟨by rw [HKE.out, HKS.out]; rfl, ?_⟩
    rw [HKD.out]
    exact HS3.out.third.drop.swap.drop
  have t5 : (x.kind == 5) = false := by rw [beq_eq_false_iff_ne]; exact k5
  by_cases k6 : x.kind = 6
  · have s6 : (x.kind == 6) = true := by rw [beq_iff_eq]; exact k6
    have HKD := Lib.hid (does_6 D x k6)
    have HKE := Lib.hid (runE_6 D x k6)
    have HKS := Lib.hid (runS_6 D x k6)
    clear k6
    go_wp2_with (first
      | ((go_at_call 25; refine (ok.restart (by first | exact HS.out | exact (HS.out).drew | exact (HS.out).drewN _ | exact ((HS.out).drew).drewN _ | exact ((HS.out).drewN _).drew)).mono ?_; rintro e w3 ⟨rfl, hst3⟩; have p2 : _ = some (Value.int .i64 x.n) := st_cell hst3.swap 2; have p3 : _ = some (Value.int .i64 x.at') := st_cell hst3.swap 3; have p4 : _ = some (Value.string x.data) := st_cell hst3.swap 4; have p5 : _ = some (Value.slice ao x.ks.length cap0) := st_cell hst3.swap 5; have p6 : _ = some (Value.int .i64 x.torn) := st_cell hst3.swap 6; have p7 : _ = some (Value.int .u8 (x.mask : Int)) := st_cell hst3.swap 7; have HS3 := Lib.hid hst3; clear hst3)))
    go_ret2
    refine ⟨by rw [HKE.out, HKS.out]; rfl, ?_⟩
    rw [HKD.out]
    exact HS3.out.swap.drop
  have t6 : (x.kind == 6) = false := by rw [beq_eq_false_iff_ne]; exact k6
  by_cases k7 : x.kind = 7
  · have s7 : (x.kind == 7) = true := by rw [beq_iff_eq]; exact k7
    have HKD := Lib.hid (does_7 D x k7)
    have HKE := Lib.hid (runE_7 D x k7)
    have HKS := Lib.hid (runS_7 D x k7)
    clear k7
    go_wp2_with (first
      | ((go_at_call 26; refine (ok.corrupt (by first | exact HS.out | exact (HS.out).drew | exact (HS.out).drewN _ | exact ((HS.out).drew).drewN _ | exact ((HS.out).drewN _).drew) x.n x.at' x.data HX.out.n HX.out.at' HX.out.data hR0).mono ?_; rintro e w3 ⟨rfl, hst3⟩; have p2 : _ = some (Value.int .i64 x.n) := st_cell hst3.swap 2; have p3 : _ = some (Value.int .i64 x.at') := st_cell hst3.swap 3; have p4 : _ = some (Value.string x.data) := st_cell hst3.swap 4; have p5 : _ = some (Value.slice ao x.ks.length cap0) := st_cell hst3.swap 5; have p6 : _ = some (Value.int .i64 x.torn) := st_cell hst3.swap 6; have p7 : _ = some (Value.int .u8 (x.mask : Int)) := st_cell hst3.swap 7; have HS3 := Lib.hid hst3; clear hst3)))
    go_ret2
    refine ⟨by rw [HKE.out, HKS.out]; rfl, ?_⟩
    rw [HKD.out]
    exact HS3.out.swap.drop
  have t7 : (x.kind == 7) = false := by rw [beq_eq_false_iff_ne]; exact k7
  have HKD := Lib.hid (does_8 D x k0 k1 k2 k3 k4 k5 k6 k7)
  have HKE := Lib.hid (runE_8 D x k0 k1 k2 k3 k4 k5 k6 k7)
  have HKS := Lib.hid (runS_n D x k3)
  clear k0 k1 k2 k3 k4 k5 k6 k7
  go_wp2_with fail
  go_ret2
  refine ⟨by rw [HKE.out, HKS.out]; rfl, ?_⟩
  rw [HKD.out]
  exact HS.out.swap.drop
end
end Go.Proofs.Ytlhhkoaacjakcaa.dev
