/-
  Layer 4, the program's torn: a text out of two, by sectors.
-/
import Derived.Test.YtjmjmekmaamclaaDoorDrvR
import Derived.Test.YtjmjmekmaamclaaDoorDevZ
import Derived.Test.YtjmjmekmaamclaaDoorShelf
namespace Go.Proofs.YtjmjmekmaamclaaDoor.dev
open Go.ChangeShapes Go.WideShapes Go.ChangeAt Go.RowKit mem
set_option linter.unusedVariables false

theorem bit_and : ∀ (m : Fin 256) (j : Fin 8), (bits BinOp.and IntKind.u8 (((m.val : Nat) : Int) / 2 ^ j.val) 1 == 1) = m.val.testBit j.val := by decide +kernel
theorem bit_and' {m j : Nat} (hm : m < 256) (hj : j < 8) : (bits BinOp.and IntKind.u8 ((m : Int) / 2 ^ j) 1 == 1) = m.testBit j := bit_and ⟨m, hm⟩ ⟨j, hj⟩
theorem seg_slice (s : ByteArray) (j : Nat) (h : 512 * j + 512 ≤ s.size) (W : World) :
    (Instr.slice 9 (.string s) (some (.int .i64 ((j : Int) * 512))) (some (.int .i64 (((j : Int) + 1) * 512))) none).run Tryd.prog W = .ok (.string (seg s j)) W := by
  have := run_slice_string (P := Tryd.prog) W 9 s .i64 .i64 ((j : Int) * 512) (((j : Int) + 1) * 512) Tryd.underlying9 (by omega) (by omega) (by omega)
  rw [this, show ((j : Int) * 512).toNat = 512 * j from by omega, show (((j : Int) + 1) * 512).toNat = 512 * j + 512 from by omega]
  rfl
theorem seg_size {s : ByteArray} {j : Nat} (h : 512 * j + 512 ≤ s.size) : (seg s j).size = 512 := by
  unfold seg; rw [ByteArray.size_extract]; omega
/-- a text's first sectors -/
def upto (s : ByteArray) (k : Nat) : List UInt8 := s.data.toList.take (512 * k)
theorem upto_more (s : ByteArray) (k : Nat) : upto s (k + 1) = upto s k ++ (seg s k).data.toList := by
  rw [seg_data, upto, upto, show 512 * (k + 1) = 512 * k + 512 from by omega, List.take_add]
theorem upto_all (s : ByteArray) (k : Nat) (h : s.size = 512 * k) : (⟨(upto s k).toArray⟩ : ByteArray) = s := by
  apply ba_ext
  have : s.data.toList.length = s.size := by rw [Array.length_toList]; rfl
  show s.data.toList.take (512 * k) = _
  rw [List.take_of_length_le (by omega)]
theorem upto_len (s : ByteArray) (k : Nat) : (upto s k).length ≤ 512 * k := by rw [upto, List.length_take]; omega

set_option maxRecDepth 8000 in
set_option maxHeartbeats 2000000 in
theorem ptorn_any (s d : ByteArray) (mask ns : Nat) (hs : s.size = 512 * ns) (hd : d.size = 512 * ns) (hn : ns ≤ 8) (hm : mask < 256) (w : World) :
    Calls Tryd.prog 91 #[.string s, .string d, .int .u8 (mask : Int)] w fun e w' => e = .returned (.string (mix mask s d)) ∧ Ch (fun _ => False) w w' := by
  have h0 : Lib.IsBuilder 121 5 w.heap.size w.heap.size [] (w.alloc (.cells #[.pointer none, .slice none 0 0] 121)) := Lib.fresh_isBuilder 121 5 w
  have b0 : Below w.heap.size w (w.alloc (.cells #[.pointer none, .slice none 0 0] 121)) := (Below.refl _ w).alloc (Nat.le_refl _) _
  have sz : (s.size : Int) = 512 * (ns : Int) := by omega
  have HS := Lib.hid hs
  have HD := Lib.hid hd
  have H0 := Lib.hid h0
  have B0 := Lib.hid b0
  have HM := Lib.hid hm
  clear hs hd h0 b0 hm
  go_enter Tryd.func91, Tryd.ntmps91
  go_wp2_with fail
  go_loopw [13] (fun i W => ∃ j : Nat, j ≤ ns ∧ i = .int .i64 ↑j ∧ Lib.IsBuilder 121 5 w.heap.size w.heap.size (Lib.byteCells (upto (mix mask s d) j)) W ∧ Below w.heap.size w W) (fun i _ => ns - (intOf i).toNat)
  case atStart => exact ⟨0, Nat.zero_le _, rfl, H0.out, B0.out⟩
  case round =>
    obtain ⟨j, hj, rfl, h1, b1⟩ := hrel
    have H1 := Lib.hid h1
    have B1 := Lib.hid b1
    have HJ := Lib.hid hj
    clear h1 b1 H0 B0
    by_cases hlt : j < ns
    · have hl : (j : Int) < ns := by omega
      have hb : (j : Int) < 8 := by omega
      have hsl := seg_slice s j (by have := HS.out; omega)
      have hsl2 := seg_slice d j (by have := HD.out; omega)
      have hbit := bit_and' (j := j) HM.out (by omega)
      have hws := fun (t : ByteArray) (ht : t.size = 512) (W : World) (hW : W = wr) => Tryd.Builder_WriteString w.heap.size w.heap.size (Lib.byteCells (upto (mix mask s d) j)) t W (by rw [hW]; exact H1.out) (by rw [Lib.byteCells_length, ht]; have := upto_len (mix mask s d) j; omega) (by rw [hW]; exact B1.out.size)
      have HW := Lib.hid hws
      have HUM := Lib.hid (upto_more (mix mask s d) j)
      have HSZ := Lib.hid (seg_size (s := s) (j := j) (by have := HS.out; omega))
      have HDZ := Lib.hid (seg_size (s := d) (j := j) (by have := HD.out; omega))
      have hmx := seg_mix (fun k => mask.testBit k) s d j (by rw [HS.out, HD.out]) (by have := HS.out; omega)
      have hb0 : (0 : Int) ≤ j := by omega
      clear hj hws
      by_cases bb : mask.testBit j = true
      · rw [bb] at hbit
        rw [if_pos bb] at hmx
        have HMX := Lib.hid hmx
        have HBB := Lib.hid bb
        clear hmx bb
        go_wp2_with (go_at_call 68; refine (HW.out _ HDZ.out _ rfl).mono ?_; rintro e W2 ⟨rfl, h2, b2⟩; have H2 := Lib.hid h2; have B2 := Lib.hid b2; clear h2 b2)
        go_roundw
        case rel => exact ⟨j + 1, by omega, by go_num, by
          rw [HUM.out]
          have : seg (mix mask s d) j = seg d j := HMX.out
          rw [this, Lib.byteCells_append]
          exact Or.inr H2.out, B1.out.trans B2.out⟩
        case measure => simp [intOf] <;> omega
      · rw [Bool.not_eq_true] at bb
        rw [bb] at hbit
        rw [if_neg (by rw [bb]; decide)] at hmx
        have HMX := Lib.hid hmx
        have HBB := Lib.hid bb
        clear hmx bb
        go_wp2_with (go_at_call 68; refine (HW.out _ HSZ.out _ rfl).mono ?_; rintro e W2 ⟨rfl, h2, b2⟩; have H2 := Lib.hid h2; have B2 := Lib.hid b2; clear h2 b2)
        go_roundw
        case rel => exact ⟨j + 1, by omega, by go_num, by
          rw [HUM.out]
          have : seg (mix mask s d) j = seg s j := HMX.out
          rw [this, Lib.byteCells_append]
          exact Or.inr H2.out, B1.out.trans B2.out⟩
        case measure => simp [intOf] <;> omega
    · obtain rfl : j = ns := by omega
      clear hj hlt
      go_wp2_with (go_at_call 70; refine (Tryd.Builder_String_any w.heap.size w.heap.size (upto (mix mask s d) j) _ H1.out B1.out.size).mono ?_; rintro e w' ⟨rfl, b2⟩)
      go_ret
      have e1 := upto_all (mix mask s d) j (by unfold mix; rw [mix_size]; exact HS.out)
      rw [e1]
      exact ⟨rfl, Ch.of_below (B1.out.trans b2)⟩
end Go.Proofs.YtjmjmekmaamclaaDoor.dev
