/-
  Layer 4: DeviceNames: the calls of a device that is nil, a write that is torn, a device of the greatest size.
-/
import Derived.Test.YtlhhkoaacjakcaaDrvV
import Derived.Test.YtlhhkoaacjakcaaDevAw
import Derived.Deep.Cut
import Derived.Deep.CutRange
import Derived.Deep.CutBlock
import Derived.Deep.DeepCutAuto
namespace Go.Proofs.Ytlhhkoaacjakcaa.dev
open Go.ChangeShapes Go.WideShapes Go.ChangeAt Go.RowKit mem
set_option linter.unusedVariables false

theorem half_a : (fillM aText 1024).extract 0 512 = fillM aText 512 := by
  apply ba_ext
  rw [ByteArray.data_extract, Array.toList_extract, fillM_data, fillM_data, fill_a, fill_a]
  decide +kernel
theorem first_half (w : World) : (Instr.slice 9 (.string (fillM aText 1024)) none (some (.int .i64 512)) none).run Try.prog w = .ok (.string (fillM aText 512)) w := by
  have := run_slice_string_to_if (P := Try.prog) w 9 (fillM aText 1024) .i64 512 Try.underlying9
  rw [this, if_pos ⟨by omega, by rw [fillM_size]; decide⟩, show (512 : Int).toNat = 512 from rfl, half_a]
section
variable {w wr : World} {As : List Ast} {dev : Nat → DevM → Ast}
set_option maxHeartbeats 1000000 in
set_option maxRecDepth 8000 in
theorem names_any (ok : DevOk dev) (h : St w wr As) :
    Calls Try.prog 4 #[] wr fun e w' => e = .returned (.bool true) ∧ St w w' As := by
  have H := Lib.hid h
  have HNEW := Lib.hid (ok.new_ok h 16 2 (by decide))
  have HF : Hid (∀ (n : Nat) W, 1 ≤ n → n ≤ 4096 → Calls Try.prog 31 #[.string ⟨#[97]⟩, .int .i64 (n : Int)] W fun e w' => e = .returned (.string (fillM aText n)) ∧ W = w') := Lib.hid fun n W h1 h2 => rfill_any aText n h1 h2 (by decide) W
  have HW : Hid (∀ X W, St w W (dev X (DevM.new 16 2) :: As) → Calls Try.prog 20 #[pt X, .int .i64 3, .string (fillM aText 1024)] W fun e w' => e = .returned (.int .i64 0) ∧ St w w' (dev X aw1 :: As)) := Lib.hid fun X W h => by
    have := ok.write h 3 (fillM aText 1024) (i64_of 3 (by decide) (by decide)) (by rw [fillM_size]; decide) (room_less aw_room (by decide))
    rw [aw_write] at this
    exact this
  have HP : Hid (∀ X W, St w W (dev X aw1 :: As) → Calls Try.prog 23 #[pt X, .agg #[.slice none 0 0, .int .i64 0, .int .u8 2]] W fun e w' => e = .returned (.int .i64 0) ∧ St w w' (dev X aw2 :: As)) := Lib.hid fun X W h => by
    have := ok.pull (K := aMany []) ((St.gather (As := []) h).swap) (.slice none 0 0) [] 0 2 (no_keep _) (crash_none 0 2 (i64_of 0 (by decide) (by decide)) (by decide)) (room_less aw_room1 (by decide))
    rw [aw_pull] at this
    exact this.mono fun e w' h => ⟨h.1, h.2.swap.append⟩
  have HR : Hid (∀ X W, St w W (dev X aw2 :: As) → Calls Try.prog 25 #[pt X] W fun e w' => e = .returned (.int .i64 0) ∧ St w w' (dev X aw3 :: As)) := Lib.hid fun X W h => by
    have := ok.restart h
    rw [aw_restart] at this
    exact this
  have HRD : Hid (∀ X W, St w W (dev X aw3 :: As) → Calls Try.prog 19 #[pt X, .int .i64 3] W fun e w' => e = .returned (.tuple #[.string (noughts 512 ++ fillM aText 512), .int .i64 0]) ∧ St w w' (dev X aw4 :: As)) := Lib.hid fun X W h => by
    have := ok.read h 3 (i64_of 3 (by decide) (by decide)) (room_less aw_room3 (by decide))
    rw [aw_read] at this
    exact this
  have HPL : Hid (∀ X W, St w W (dev X aw2 :: As) → Calls Try.prog 22 #[pt X, .int .i64 1, .agg #[.slice none 0 0, .int .i64 0, .int .u8 0]] W fun e w' => e = .returned (.int .i64 8) ∧ St w w' (dev X aw2 :: As)) := Lib.hid fun X W h => by
    have := ok.plan (K := aMany []) ((St.gather (As := []) h).swap) 1 (.slice none 0 0) [] 0 0 (i64_of 1 (by decide) (by decide)) (no_keep _) (crash_none 0 0 (i64_of 0 (by decide) (by decide)) (by decide))
    rw [show aw2.setPlan 1 [] 0 0 = (aw2, 8) from rfl] at this
    exact this.mono fun e w' h => ⟨h.1, h.2.swap.append⟩
  have HN1 : Hid (∀ W L, St w W L → Calls Try.prog 8 #[.agg #[.int .i64 4096, .int .i64 8]] W fun e w' => ∃ X, e = .returned (.tuple #[pt X, .int .i64 0]) ∧ St w w' (dev X (DevM.new 4096 8) :: L)) := Lib.hid fun W L h => ok.new_ok h 4096 8 (by decide)
  have HN0 : Hid (∀ W L, St w W L → Calls Try.prog 8 #[.agg #[.int .i64 16, .int .i64 2]] W fun e w' => ∃ X, e = .returned (.tuple #[pt X, .int .i64 0]) ∧ St w w' (dev X (DevM.new 16 2) :: L)) := Lib.hid fun W L h => ok.new_ok h 16 2 (by decide)
  have HN2 : Hid (∀ W L, St w W L → Calls Try.prog 8 #[.agg #[.int .i64 4097, .int .i64 8]] W fun e w' => e = .returned (.tuple #[.pointer none, .int .i64 1]) ∧ St w w' L) := Lib.hid fun W L h => ok.new_bad h 4097 8 (i64_of _ (by decide) (by decide)) (i64_of _ (by decide) (by decide)) (by decide)
  have HSZ : Hid (∀ X W L, St w W (dev X (DevM.new 4096 8) :: L) → Calls Try.prog 16 #[pt X] W fun e w' => e = .returned (.int .i64 4096) ∧ ∃ q, w' = W.drewN q) := Lib.hid fun X W L h => ok.size h
  clear h HNEW
  go_enter Try.func4, Try.ntmps4
  go_upto_region 5 with (first
    | ((go_at_call 19; refine (nil_read 0 _).mono ?_; rintro e w2 ⟨rfl, hch⟩; have hst := H.out.same hch; clear H; have H := Lib.hid hst; clear hst hch))
    | ((go_at_call 20; refine (nil_write 0 ⟨#[]⟩ _).mono ?_; rintro e w2 ⟨rfl, hch⟩; have hst := H.out.same hch; clear H; have H := Lib.hid hst; clear hst hch))
    | ((go_at_call 21; refine (nil_flush _).mono ?_; rintro e w2 ⟨rfl, hch⟩; have hst := H.out.same hch; clear H; have H := Lib.hid hst; clear hst hch))
    | ((go_at_call 22; refine (nil_plan 0 _).mono ?_; rintro e w2 ⟨rfl, hch⟩; have hst := H.out.same hch; clear H; have H := Lib.hid hst; clear hst hch))
    | ((go_at_call 23; refine (nil_pull _).mono ?_; rintro e w2 ⟨rfl, hch⟩; have hst := H.out.same hch; clear H; have H := Lib.hid hst; clear hst hch))
    | ((go_at_call 24; refine (nil_down _).mono ?_; rintro e w2 ⟨rfl, hch⟩; have hst := H.out.same hch; clear H; have H := Lib.hid hst; clear hst hch))
    | ((go_at_call 25; refine (nil_restart _).mono ?_; rintro e w2 ⟨rfl, hch⟩; have hst := H.out.same hch; clear H; have H := Lib.hid hst; clear hst hch))
    | ((go_at_call 26; refine (nil_corrupt 0 0 ⟨#[]⟩ _).mono ?_; rintro e w2 ⟨rfl, hch⟩; have hst := H.out.same hch; clear H; have H := Lib.hid hst; clear hst hch))
    | ((go_at_call 27; refine (nil_calls _).mono ?_; rintro e w2 ⟨rfl, hch⟩; have hst := H.out.same hch; clear H; have H := Lib.hid hst; clear hst hch))
    | ((go_at_call 28; refine (nil_reads _).mono ?_; rintro e w2 ⟨rfl, hch⟩; have hst := H.out.same hch; clear H; have H := Lib.hid hst; clear hst hch))
    | ((go_at_call 29; refine (nil_unflushed _).mono ?_; rintro e w2 ⟨rfl, hch⟩; have hst := H.out.same hch; clear H; have H := Lib.hid hst; clear hst hch))
    | ((go_at_call 15; refine (nil_blocks _).mono ?_; rintro e w2 ⟨rfl, hch⟩; have hst := H.out.same hch; clear H; have H := Lib.hid hst; clear hst hch))
    | ((go_at_call 16; refine (nil_size _).mono ?_; rintro e w2 ⟨rfl, hch⟩; have hst := H.out.same hch; clear H; have H := Lib.hid hst; clear hst hch))
    | ((go_at_call 30; refine (nil_image _).mono ?_; rintro e w2 ⟨rfl, hch⟩; have hst := H.out.same hch; clear H; have H := Lib.hid hst; clear hst hch))
    | ((go_at_call 12; refine (nil_twin _).mono ?_; rintro e w2 ⟨rfl, hch⟩; have hst := H.out.same hch; clear H; have H := Lib.hid hst; clear hst hch)))
  go_wp2_with (first
    | ((go_at_call 8; with_reducible refine (HN0.out _ _ H.out).mono ?_; rintro e w1 ⟨X, rfl, hst⟩; have H1 := Lib.hid hst; clear hst H))
    | ((go_at_call 31; refine (HF.out 1024 _ (by decide) (by decide)).mono ?_; rintro e w2 ⟨rfl, rfl⟩))
    | ((go_at_call 20; refine (HW.out _ _ H1.out).mono ?_; rintro e w3 ⟨rfl, hst⟩; have H3 := Lib.hid hst; clear hst H1))
    | ((go_at_call 23; refine (HP.out _ _ H3.out).mono ?_; rintro e w4 ⟨rfl, hst⟩; have H4 := Lib.hid hst; clear hst H3))
    | ((go_at_call 22; refine (HPL.out _ _ H4.out).mono ?_; rintro e w4 ⟨rfl, hst⟩; have H5 := Lib.hid hst; clear hst H4))
    | ((go_at_call 25; refine (HR.out _ _ H5.out).mono ?_; rintro e w5 ⟨rfl, hst⟩; have H6 := Lib.hid hst; clear hst H5))
    | ((go_at_call 19; refine (HRD.out _ _ H6.out).mono ?_; rintro e w6 ⟨rfl, hst⟩; have H7 := Lib.hid hst; clear hst H6))
    | ((go_at_call 8; with_reducible refine (HN1.out _ _ H7.out).mono ?_; rintro e w7 ⟨Y, rfl, hst⟩; have H8 := Lib.hid hst; clear hst H7))
    | ((go_at_call 8; with_reducible refine (HN2.out _ _ H8.out).mono ?_; rintro e w8 ⟨rfl, hst⟩; have H9 := Lib.hid hst; clear hst H8)))
  have mk := make8 512 (by decide)
  rw [show ((512 : Nat) : Int) = 512 from rfl] at mk
  have tx1 := text8 512 w8.heap.size (w8.alloc (.cells (madeCells #[.int .u8 0] 512) 5)) (heap_alloc_new w8 _)
  have tx2 := text8 512 w8.heap.size (w8.alloc (.cells (madeCells #[.int .u8 0] 512) 5)).drew (heap_alloc_new w8 _)
  have tx3 := text8 512 w8.heap.size (w8.drew.alloc (.cells (madeCells #[.int .u8 0] 512) 5)) (heap_alloc_new w8 _)
  have g1 : ¬ 9223372036854775807 < (noughts 512).size + (fillM aText 512).size := by rw [noughts_size, fillM_size]; decide
  have hsl := fun W => first_half W
  generalize madeCells #[.int .u8 0] 512 = MC at mk tx1 tx2 tx3
  generalize fillM aText 1024 = A at hsl ⊢
  generalize fillM aText 512 = F at g1 hsl ⊢
  generalize noughts 512 = N at g1 tx1 tx2 tx3 ⊢
  clear HF HW HP HR HRD HPL HN1 HN2 HN0
  have HS2 : Hid (∀ W, Ch (fun _ => False) w8 W → Calls Try.prog 16 #[pt Y] W fun e w' => e = .returned (.int .i64 4096) ∧ ∃ q, w' = W.drewN q) := Lib.hid fun W hc => HSZ.out _ _ _ (H9.out.same hc)
  have HEND := Lib.hid (St.drop (St.drop H9.out))
  clear HSZ H9
  refine wp_region_any (by kernel_rfl) ?_
  try (change wpAny _ _ _ _ _ _ _ (World.drew _))
  refine wpAny_take (i := 0) (oi := { dst := some 143, op := Op.move (Operand.tmp 8), type := 30, pos := "law.go:142", after := #[], guard := none }) (v := ?v0) rfl (by kernel_rfl) (by kernel_rfl) (by kernel_rfl) (fun _ _ _ h => h) (Or.inl ⟨by rfl, ?hy0⟩) ?rest0
  case hy0 => (intro w; go_simp; try (with_reducible rfl))
  simp only [Act.put, List.setIfInBounds_toArray, List.set_cons_zero, List.set_cons_succ]
  refine wpAny_take (i := 1) (oi := { dst := some 144, op := Op.binOp BinOp.eql 30 (Operand.tmp 143) (Operand.const (Value.int IntKind.i64 0)) 30, type := 4, pos := "law.go:142", after := #[{ on := 0, ground := Ground.data }], guard := none }) (v := ?v1) rfl (by kernel_rfl) (by kernel_rfl) (by kernel_rfl) (fun _ _ _ h => h) (Or.inl ⟨by rfl, ?hy1⟩) ?rest1
  case hy1 => (intro w; go_simp; try (with_reducible rfl))
  simp only [Act.put, List.setIfInBounds_toArray, List.set_cons_zero, List.set_cons_succ]
  refine wpAny_take (i := 2) (oi := { dst := some 145, op := Op.move (Operand.tmp 144), type := 4, pos := "law.go:142", after := #[{ on := 1, ground := Ground.data }], guard := none }) (v := ?v2) rfl (by kernel_rfl) (by kernel_rfl) (by kernel_rfl) (fun _ _ _ h => h) (Or.inl ⟨by rfl, ?hy2⟩) ?rest2
  case hy2 => (intro w; go_simp; try (with_reducible rfl))
  simp only [Act.put, List.setIfInBounds_toArray, List.set_cons_zero, List.set_cons_succ]
  refine wpAny_take (i := 3) (oi := { dst := some 146, op := Op.move (Operand.tmp 7), type := 9, pos := "law.go:142", after := #[{ on := 2, ground := Ground.guard }], guard := some (2, true) }) (v := ?v3) rfl (by kernel_rfl) (by kernel_rfl) (by kernel_rfl) (fun _ _ _ h => h) (Or.inl ⟨by rfl, ?hy3⟩) ?rest3
  case hy3 => (intro w; go_simp; try (with_reducible rfl))
  simp only [Act.put, List.setIfInBounds_toArray, List.set_cons_zero, List.set_cons_succ]
  refine wpAny_take (i := 6) (oi := { dst := some 149, op := Op.move (Operand.tmp 6), type := 9, pos := "law.go:142", after := #[{ on := 2, ground := Ground.guard }], guard := some (2, true) }) (v := ?v6) rfl (by kernel_rfl) (by kernel_rfl) (by kernel_rfl) (fun _ _ _ h => h) (Or.inl ⟨by rfl, ?hy6⟩) ?rest6
  case hy6 => (intro w; go_simp; try (with_reducible rfl))
  simp only [Act.put, List.setIfInBounds_toArray, List.set_cons_zero, List.set_cons_succ]
  refine wpAny_take (i := 7) (oi := { dst := some 150, op := Op.slice 9 (Operand.tmp 149) none (some (Operand.const (Value.int IntKind.i64 512))) none, type := 9, pos := "law.go:142", after := #[{ on := 6, ground := Ground.data }, { on := 2, ground := Ground.guard }], guard := some (2, true) }) (v := ?v7) rfl (by kernel_rfl) (by kernel_rfl) (by kernel_rfl) (fun _ _ _ h => h) (Or.inl ⟨by rfl, ?hy7⟩) ?rest7
  case hy7 => (intro w; go_simp; try (with_reducible rfl))
  simp only [Act.put, List.setIfInBounds_toArray, List.set_cons_zero, List.set_cons_succ]
  refine wpAny_ready (rs := [4]) (by kernel_rfl) (by simp) ?_
  refine AllReady.cons (o := { dst := some 147, op := Op.makeSlice 63 (Operand.const (Value.int IntKind.i64 512)) (Operand.const (Value.int IntKind.i64 512)), type := 63, pos := "law.go:142", after := #[{ on := 2, ground := Ground.guard }], guard := some (2, true) }) rfl (fun K hK => ?_) AllReady.nil
  go_simp
  refine hK _ _ ?_
  clear hK K
  try simp only [Act.put, List.setIfInBounds_toArray, List.set_cons_zero, List.set_cons_succ]
  refine wpAny_ready (rs := [5]) (by kernel_rfl) (by simp) ?_
  refine AllReady.cons (o := { dst := some 148, op := Op.convert 63 9 (Operand.tmp 147), type := 9, pos := "law.go:142", after := #[{ on := 4, ground := Ground.data }, { on := 2, ground := Ground.guard }], guard := some (2, true) }) rfl (fun K hK => ?_) AllReady.nil
  go_simp
  refine hK _ _ ?_
  clear hK K
  try simp only [Act.put, List.setIfInBounds_toArray, List.set_cons_zero, List.set_cons_succ]
  refine wpAny_take (i := 8) (oi := { dst := some 151, op := Op.binOp BinOp.add 9 (Operand.tmp 148) (Operand.tmp 150) 9, type := 9, pos := "law.go:142", after := #[{ on := 5, ground := Ground.data }, { on := 7, ground := Ground.data }, { on := 2, ground := Ground.guard }], guard := some (2, true) }) (v := ?v8) rfl (by kernel_rfl) (by kernel_rfl) (by kernel_rfl) (fun _ _ _ h => h) (Or.inl ⟨by rfl, ?hy8⟩) ?rest8
  case hy8 => (intro w; go_simp; try (with_reducible rfl))
  simp only [Act.put, List.setIfInBounds_toArray, List.set_cons_zero, List.set_cons_succ]
  refine wpAny_take (i := 9) (oi := { dst := some 152, op := Op.binOp BinOp.eql 9 (Operand.tmp 146) (Operand.tmp 151) 9, type := 4, pos := "law.go:142", after := #[{ on := 3, ground := Ground.data }, { on := 8, ground := Ground.data }, { on := 2, ground := Ground.guard }], guard := some (2, true) }) (v := ?v9) rfl (by kernel_rfl) (by kernel_rfl) (by kernel_rfl) (fun _ _ _ h => h) (Or.inl ⟨by rfl, ?hy9⟩) ?rest9
  case hy9 => (intro w; go_simp; try (with_reducible rfl))
  simp only [Act.put, List.setIfInBounds_toArray, List.set_cons_zero, List.set_cons_succ]
  refine wpAny_take (i := 10) (oi := { dst := some 153, op := Op.pick (Operand.tmp 145) (Operand.tmp 152) (Operand.const (Value.bool false)), type := 4, pos := "law.go:142", after := #[{ on := 2, ground := Ground.data }, { on := 9, ground := Ground.data }], guard := none }) (v := ?v10) rfl (by kernel_rfl) (by kernel_rfl) (by kernel_rfl) (fun _ _ _ h => h) (Or.inl ⟨by rfl, ?hy10⟩) ?rest10
  case hy10 => (intro w; go_simp; try (with_reducible rfl))
  simp only [Act.put, List.setIfInBounds_toArray, List.set_cons_zero, List.set_cons_succ]
  refine wpAny_take (i := 11) (oi := { dst := some 154, op := Op.move (Operand.tmp 153), type := 4, pos := "law.go:142", after := #[{ on := 10, ground := Ground.data }, { on := 2, ground := Ground.chain }], guard := none }) (v := ?v11) rfl (by kernel_rfl) (by kernel_rfl) (by kernel_rfl) (fun _ _ _ h => h) (Or.inl ⟨by rfl, ?hy11⟩) ?rest11
  case hy11 => (intro w; go_simp; try (with_reducible rfl))
  simp only [Act.put, List.setIfInBounds_toArray, List.set_cons_zero, List.set_cons_succ]
  refine wpAny_take (i := 12) (oi := { dst := some 155, op := Op.move (Operand.tmp 10), type := 30, pos := "law.go:142", after := #[{ on := 11, ground := Ground.guard }], guard := some (11, true) }) (v := ?v12) rfl (by kernel_rfl) (by kernel_rfl) (by kernel_rfl) (fun _ _ _ h => h) (Or.inl ⟨by rfl, ?hy12⟩) ?rest12
  case hy12 => (intro w; go_simp; try (with_reducible rfl))
  simp only [Act.put, List.setIfInBounds_toArray, List.set_cons_zero, List.set_cons_succ]
  refine wpAny_take (i := 13) (oi := { dst := some 156, op := Op.binOp BinOp.eql 30 (Operand.tmp 155) (Operand.const (Value.int IntKind.i64 0)) 30, type := 4, pos := "law.go:142", after := #[{ on := 12, ground := Ground.data }, { on := 11, ground := Ground.guard }], guard := some (11, true) }) (v := ?v13) rfl (by kernel_rfl) (by kernel_rfl) (by kernel_rfl) (fun _ _ _ h => h) (Or.inl ⟨by rfl, ?hy13⟩) ?rest13
  case hy13 => (intro w; go_simp; try (with_reducible rfl))
  simp only [Act.put, List.setIfInBounds_toArray, List.set_cons_zero, List.set_cons_succ]
  refine wpAny_take (i := 14) (oi := { dst := some 157, op := Op.pick (Operand.tmp 154) (Operand.tmp 156) (Operand.const (Value.bool false)), type := 4, pos := "law.go:142", after := #[{ on := 11, ground := Ground.data }, { on := 13, ground := Ground.data }], guard := none }) (v := ?v14) rfl (by kernel_rfl) (by kernel_rfl) (by kernel_rfl) (fun _ _ _ h => h) (Or.inl ⟨by rfl, ?hy14⟩) ?rest14
  case hy14 => (intro w; go_simp; try (with_reducible rfl))
  simp only [Act.put, List.setIfInBounds_toArray, List.set_cons_zero, List.set_cons_succ]
  refine wpAny_take (i := 15) (oi := { dst := some 158, op := Op.move (Operand.tmp 157), type := 4, pos := "law.go:142", after := #[{ on := 14, ground := Ground.data }, { on := 11, ground := Ground.chain }], guard := none }) (v := ?v15) rfl (by kernel_rfl) (by kernel_rfl) (by kernel_rfl) (fun _ _ _ h => h) (Or.inl ⟨by rfl, ?hy15⟩) ?rest15
  case hy15 => (intro w; go_simp; try (with_reducible rfl))
  simp only [Act.put, List.setIfInBounds_toArray, List.set_cons_zero, List.set_cons_succ]
  refine wpAny_take (i := 16) (oi := { dst := some 159, op := Op.move (Operand.tmp 9), type := 25, pos := "law.go:142", after := #[{ on := 15, ground := Ground.guard }], guard := some (15, true) }) (v := ?v16) rfl (by kernel_rfl) (by kernel_rfl) (by kernel_rfl) (fun _ _ _ h => h) (Or.inl ⟨by rfl, ?hy16⟩) ?rest16
  case hy16 => (intro w; go_simp; try (with_reducible rfl))
  simp only [Act.put, List.setIfInBounds_toArray, List.set_cons_zero, List.set_cons_succ]
  refine wpAny_ready (rs := [17]) (by kernel_rfl) (by simp) ?_
  refine AllReady.cons (o := { dst := some 160, op := Op.call { callee := Callee.value (Operand.func 16), args := #[Operand.tmp 159], argTypes := #[25] }, type := 3, pos := "law.go:142", after := #[{ on := 16, ground := Ground.data }, { on := 15, ground := Ground.chain }, { on := 15, ground := Ground.guard }], guard := some (15, true) }) rfl (fun K hK => ?_) AllReady.nil
  go_simp
  go_wp2_with (go_at_call 16; refine (HS2.out _ (by first | exact (Ch.refl _ _).alloc _ | exact ((Ch.refl _ _).alloc _).drew | exact ((Ch.refl _ _).drew).alloc _ | exact ((Ch.refl _ _).alloc _).drewN _ | exact (((Ch.refl _ _).drew).alloc _).drew | exact (((Ch.refl _ _).drew).alloc _).drewN _)).mono ?_; rintro e w9 ⟨rfl, q, rfl⟩)
  try simp only [Act.put, List.setIfInBounds_toArray, List.set_cons_zero, List.set_cons_succ]
  refine wpAny_take (i := 18) (oi := { dst := some 161, op := Op.binOp BinOp.eql 3 (Operand.tmp 160) (Operand.const (Value.int IntKind.i64 4096)) 3, type := 4, pos := "law.go:142", after := #[{ on := 17, ground := Ground.data }, { on := 15, ground := Ground.guard }], guard := some (15, true) }) (v := ?v18) rfl (by kernel_rfl) (by kernel_rfl) (by kernel_rfl) (fun _ _ _ h => h) (Or.inl ⟨by rfl, ?hy18⟩) ?rest18
  case hy18 => (intro w; go_simp; try (with_reducible rfl))
  simp only [Act.put, List.setIfInBounds_toArray, List.set_cons_zero, List.set_cons_succ]
  refine wpAny_take (i := 19) (oi := { dst := some 162, op := Op.pick (Operand.tmp 158) (Operand.tmp 161) (Operand.const (Value.bool false)), type := 4, pos := "law.go:142", after := #[{ on := 15, ground := Ground.data }, { on := 18, ground := Ground.data }], guard := none }) (v := ?v19) rfl (by kernel_rfl) (by kernel_rfl) (by kernel_rfl) (fun _ _ _ h => h) (Or.inl ⟨by rfl, ?hy19⟩) ?rest19
  case hy19 => (intro w; go_simp; try (with_reducible rfl))
  simp only [Act.put, List.setIfInBounds_toArray, List.set_cons_zero, List.set_cons_succ]
  refine wpAny_take (i := 20) (oi := { dst := some 163, op := Op.move (Operand.tmp 162), type := 4, pos := "law.go:142", after := #[{ on := 19, ground := Ground.data }, { on := 17, ground := Ground.chain }], guard := none }) (v := ?v20) rfl (by kernel_rfl) (by kernel_rfl) (by kernel_rfl) (fun _ _ _ h => h) (Or.inl ⟨by rfl, ?hy20⟩) ?rest20
  case hy20 => (intro w; go_simp; try (with_reducible rfl))
  simp only [Act.put, List.setIfInBounds_toArray, List.set_cons_zero, List.set_cons_succ]
  refine wpAny_take (i := 21) (oi := { dst := some 164, op := Op.move (Operand.tmp 12), type := 30, pos := "law.go:142", after := #[{ on := 20, ground := Ground.guard }], guard := some (20, true) }) (v := ?v21) rfl (by kernel_rfl) (by kernel_rfl) (by kernel_rfl) (fun _ _ _ h => h) (Or.inl ⟨by rfl, ?hy21⟩) ?rest21
  case hy21 => (intro w; go_simp; try (with_reducible rfl))
  simp only [Act.put, List.setIfInBounds_toArray, List.set_cons_zero, List.set_cons_succ]
  refine wpAny_take (i := 22) (oi := { dst := some 165, op := Op.binOp BinOp.eql 30 (Operand.tmp 164) (Operand.const (Value.int IntKind.i64 1)) 30, type := 4, pos := "law.go:142", after := #[{ on := 21, ground := Ground.data }, { on := 20, ground := Ground.guard }], guard := some (20, true) }) (v := ?v22) rfl (by kernel_rfl) (by kernel_rfl) (by kernel_rfl) (fun _ _ _ h => h) (Or.inl ⟨by rfl, ?hy22⟩) ?rest22
  case hy22 => (intro w; go_simp; try (with_reducible rfl))
  simp only [Act.put, List.setIfInBounds_toArray, List.set_cons_zero, List.set_cons_succ]
  refine wpAny_take (i := 23) (oi := { dst := some 166, op := Op.pick (Operand.tmp 163) (Operand.tmp 165) (Operand.const (Value.bool false)), type := 4, pos := "law.go:142", after := #[{ on := 20, ground := Ground.data }, { on := 22, ground := Ground.data }], guard := none }) (v := ?v23) rfl (by kernel_rfl) (by kernel_rfl) (by kernel_rfl) (fun _ _ _ h => h) (Or.inl ⟨by rfl, ?hy23⟩) ?rest23
  case hy23 => (intro w; go_simp; try (with_reducible rfl))
  simp only [Act.put, List.setIfInBounds_toArray, List.set_cons_zero, List.set_cons_succ]
  refine wpAny_take (i := 24) (oi := { dst := some 0, op := Op.assign (Operand.tmp 166), type := 4, pos := "law.go:142", after := #[{ on := 23, ground := Ground.data }, { on := 20, ground := Ground.chain }, { on := 0, ground := Ground.phase }, { on := 1, ground := Ground.phase }, { on := 2, ground := Ground.phase }, { on := 3, ground := Ground.phase }, { on := 4, ground := Ground.phase }, { on := 5, ground := Ground.phase }, { on := 6, ground := Ground.phase }, { on := 7, ground := Ground.phase }, { on := 8, ground := Ground.phase }, { on := 9, ground := Ground.phase }, { on := 10, ground := Ground.phase }, { on := 11, ground := Ground.phase }, { on := 12, ground := Ground.phase }, { on := 13, ground := Ground.phase }, { on := 14, ground := Ground.phase }, { on := 15, ground := Ground.phase }, { on := 16, ground := Ground.phase }, { on := 17, ground := Ground.phase }, { on := 18, ground := Ground.phase }, { on := 19, ground := Ground.phase }, { on := 20, ground := Ground.phase }, { on := 21, ground := Ground.phase }, { on := 22, ground := Ground.phase }, { on := 23, ground := Ground.phase }], guard := none }) (v := ?v24) rfl (by kernel_rfl) (by kernel_rfl) (by kernel_rfl) (fun _ _ _ h => h) (Or.inl ⟨by rfl, ?hy24⟩) ?rest24
  case hy24 => (intro w; go_simp; try (with_reducible rfl))
  simp only [Act.put, List.setIfInBounds_toArray, List.set_cons_zero]
  refine wpAny_done (by kernel_rfl) ?_ _
  go_wp2_with fail
  go_ret
  first
    | exact ⟨rfl, (HEND.out.alloc _).drewN _⟩
    | exact ⟨rfl, ((HEND.out.alloc _).drew).drewN _⟩
    | exact ⟨rfl, ((HEND.out.drew).alloc _).drewN _⟩
end
end Go.Proofs.Ytlhhkoaacjakcaa.dev
