/-
  Layer 4, the law's own: awake: a write, torn.
-/
import Derived.Test.YtlhhkoaacjakcaaDevW
import Derived.Test.YtlhhkoaacjakcaaDevZ
namespace Go.Proofs.Ytlhhkoaacjakcaa.dev
open Go.ChangeShapes Go.WideShapes Go.ChangeAt Go.RowKit mem
set_option linter.unusedVariables false

theorem data_app (a b : ByteArray) : (a ++ b).data.toList = a.data.toList ++ b.data.toList := by simp
theorem i64_of (x : Int) (h : -9223372036854775808 ≤ x) (h2 : x ≤ 9223372036854775807) : InI64 x := ⟨h, h2⟩
def aText : ByteArray := ⟨#[97]⟩
theorem fill_a (n : Nat) : fillL (fillB aText) n = List.replicate n 97 := by
  show fillL [97] n = _
  unfold fillL
  rw [List.eq_replicate_iff]
  refine ⟨by simp, fun b hb => ?_⟩
  obtain ⟨i, _, rfl⟩ := List.mem_map.1 hb
  simp [Nat.mod_one]
theorem torn_list : (List.range 1024).map (fun i => if (2 : Nat).testBit (i / 512) then (97 : UInt8) else 0) = List.replicate 512 0 ++ List.replicate 512 97 := by decide +kernel
theorem nought_data (n : Nat) : (noughts n).data.toList = List.replicate n 0 := rfl
theorem fillM_data (s : ByteArray) (n : Nat) : (fillM s n).data.toList = fillL (fillB s) n := rfl
theorem mix_data (m : Nat) (a b : ByteArray) : (mix m a b).data.toList = mixL (fun s => m.testBit s) a.data.toList b.data.toList := rfl
theorem torn_text : mix 2 (noughts 1024) (fillM aText 1024) = noughts 512 ++ fillM aText 512 := by
  apply ba_ext
  rw [mix_data, nought_data, fillM_data]
  have e : (noughts 512 ++ fillM aText 512).data.toList = List.replicate 512 0 ++ List.replicate 512 97 := by
    rw [data_app, nought_data, fillM_data, fill_a]
  rw [e, ← torn_list, fill_a]
  unfold mixL
  rw [List.length_replicate]
  apply List.map_congr_left
  intro i hi
  rw [List.mem_range] at hi
  simp only [List.getD_eq_getElem?_getD, List.getElem?_replicate, if_pos hi, Option.getD_some]

def aw1 : DevM := { DevM.new 16 2 with calls := 1, cache := [(3, fillM aText 1024)] }
def aw2 : DevM := aw1.fall [] 0 2
def aw3 : DevM := { aw2 with down := false }
def aw4 : DevM := { aw3 with reads := 1 }
theorem aw_write : (DevM.new 16 2).write 3 (fillM aText 1024) = (aw1, 0) :=
  write_none (E := { DevM.new 16 2 with calls := 1 }) rfl (by decide) (by rw [fillM_size]; rfl) rfl
theorem aw_pull : aw1.pull [] 0 2 = (aw2, 0) := rfl
theorem aw_restart : aw2.restart = (aw3, 0) := rfl
theorem aw_read : aw3.read 3 = (aw4, noughts 512 ++ fillM aText 512, 0) := by
  rw [← torn_text]
  rfl

section
variable {w wr : World} {As : List Ast} {dev : Nat → DevM → Ast}
theorem aw_room : (DevM.new 16 2).Room 10 := ⟨by decide, by decide, by decide⟩
theorem aw_room1 : aw1.Room 10 := ⟨by decide, by decide, by decide⟩
theorem aw_room3 : aw3.Room 10 := ⟨by decide, by decide, by decide⟩
theorem no_keep (K : Ast) : ∀ W F, K.p W F → IntsIn W (.slice none 0 0) [] := fun W F _ => ⟨none, 0, rfl, fun i hi => absurd hi (by simp)⟩
theorem crash_none (t : Int) (m : Nat) (ht : InI64 t) (hm : m < 256) : CrashOk [] t m := ⟨fun k hk => absurd hk (by simp), by decide, ht, hm⟩

set_option maxHeartbeats 2000000 in
theorem awake_any (ok : DevOk dev) (h : St w wr As) :
    Calls Try.prog 33 #[] wr fun e w' => e = .returned (.bool true) ∧ St w w' As := by
  have H := Lib.hid h
  have HNEW := Lib.hid (ok.new_ok h 16 2 (by decide))
  have HF : Hid (∀ (n : Nat) W, 1 ≤ n → n ≤ 4096 → Calls Try.prog 31 #[.string ⟨#[97]⟩, .int .i64 (n : Int)] W fun e w' => e = .returned (.string (fillM aText n)) ∧ W = w') := Lib.hid fun n W h1 h2 => rfill_any aText n h1 h2 (by decide) W
  have HW : Hid (∀ X W, St w W (dev X (DevM.new 16 2) :: As) → Calls Try.prog 20 #[pt X, .int .i64 3, .string (fillM aText 1024)] W fun e w' => e = .returned (.int .i64 0) ∧ St w w' (dev X aw1 :: As)) := Lib.hid fun X W h => by
    have := ok.write h 3 (fillM aText 1024) (i64_of 3 (by decide) (by decide)) (by rw [fillM_size]; decide) (room_less aw_room (by decide))
    rw [aw_write] at this
    exact this
  have HP : Hid (∀ X W, St w W (dev X aw1 :: As) → Calls Try.prog 23 #[pt X, .agg #[.slice none 0 0, .int .i64 0, .int .u8 2]] W fun e w' => e = .returned (.int .i64 0) ∧ St w w' (dev X aw2 :: As)) := Lib.hid fun X W h => by
    have := ok.pull (K := aMany []) ((St.gather (As := []) h).swap) (.slice none 0 0) [] 0 2 (no_keep _) (crash_none 0 2 (i64_of 0 (by decide) (by decide)) (by decide)) (room_less aw_room1 (by decide))
    rw [aw_pull] at this
    exact this.mono fun e w' h => ⟨h.1, h.2.swap.append⟩
  have HR : Hid (∀ X W, St w W (dev X aw2 :: As) → Calls Try.prog 25 #[pt X] W fun e w' => e = .returned (.int .i64 0) ∧ St w w' (dev X aw3 :: As)) := Lib.hid fun X W h => by
    have := ok.restart h
    rw [aw_restart] at this
    exact this
  have HRD : Hid (∀ X W, St w W (dev X aw3 :: As) → Calls Try.prog 19 #[pt X, .int .i64 3] W fun e w' => e = .returned (.tuple #[.string (noughts 512 ++ fillM aText 512), .int .i64 0]) ∧ St w w' (dev X aw4 :: As)) := Lib.hid fun X W h => by
    have := ok.read h 3 (i64_of 3 (by decide) (by decide)) (room_less aw_room3 (by decide))
    rw [aw_read] at this
    exact this
  clear h
  go_enter Try.func33, Try.ntmps33
  go_wp2_with (first
    | ((go_at_call 8; refine HNEW.out.mono ?_; rintro e w1 ⟨X, rfl, hst⟩; have H1 := Lib.hid hst; clear hst))
    | ((go_at_call 31; refine (HF.out 1024 _ (by decide) (by decide)).mono ?_; rintro e w2 ⟨rfl, rfl⟩))
    | ((go_at_call 20; refine (HW.out _ _ H1.out).mono ?_; rintro e w3 ⟨rfl, hst⟩; have H3 := Lib.hid hst; clear hst))
    | ((go_at_call 23; refine (HP.out _ _ H3.out).mono ?_; rintro e w4 ⟨rfl, hst⟩; have H4 := Lib.hid hst; clear hst))
    | ((go_at_call 25; refine (HR.out _ _ H4.out).mono ?_; rintro e w5 ⟨rfl, hst⟩; have H5 := Lib.hid hst; clear hst))
    | ((go_at_call 19; refine (HRD.out _ _ H5.out).mono ?_; rintro e w6 ⟨rfl, hst⟩; have H6 := Lib.hid hst; clear hst)))
  have mk := make8 512 (by decide)
  rw [show ((512 : Nat) : Int) = 512 from rfl] at mk
  have tx1 := text8 512 w6.heap.size (w6.alloc (.cells (madeCells #[.int .u8 0] 512) 5)) (heap_alloc_new w6 _)
  have tx2 := text8 512 w6.heap.size (w6.alloc (.cells (madeCells #[.int .u8 0] 512) 5)).drew (heap_alloc_new w6 _)
  have tx3 := text8 512 w6.heap.size (w6.drew.alloc (.cells (madeCells #[.int .u8 0] 512) 5)) (heap_alloc_new w6 _)
  have g1 : ¬ 9223372036854775807 < (noughts 512).size + (fillM aText 512).size := by rw [noughts_size, fillM_size]; decide
  have HF5 := Lib.hid (HF.out 512)
  generalize fillM aText 512 = F at g1 HF5 ⊢
  generalize noughts 512 = N at g1 tx1 tx2 tx3 ⊢
  clear HF HW HP HR HRD HNEW
  go_region_with (go_at_call 31; refine (HF5.out _ (by decide) (by decide)).mono ?_; rintro e w7 ⟨rfl, rfl⟩)
  all_goals
    go_wp2_with fail
    go_ret
    first
      | exact ⟨rfl, H6.out.drop.alloc _⟩
      | exact ⟨rfl, (H6.out.drop.alloc _).drew⟩
      | exact ⟨rfl, H6.out.drop.drew.alloc _⟩
end
end Go.Proofs.Ytlhhkoaacjakcaa.dev
