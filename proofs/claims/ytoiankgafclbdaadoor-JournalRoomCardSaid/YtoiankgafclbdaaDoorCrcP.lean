/-
  Layer 3, the program: the byte's closure, On, Crc; for the layers above (no other text of layer 3 is asked).
-/
import Derived.Test.YtoiankgafclbdaaDoorSumsA
import Derived.Test.YtoiankgafclbdaaDoorCrcB
namespace Go.Proofs.YtoiankgafclbdaaDoor.sums
open Go.ChangeShapes Go.WideShapes Go.ChangeAt Go.RowKit
set_option linter.unusedVariables false

theorem bl_alloc {w w' : World} (h : Below w.heap.size w w') (o : Obj) : Below w.heap.size w (w'.alloc o) := h.alloc h.size o
theorem bl_drewN {w w' : World} (h : Below w.heap.size w w') (n : Nat) : Below w.heap.size w (w'.drewN n) := ⟨h.os, h.tape, h.output, h.size, h.block⟩
theorem bl_cell {B : Nat} {w w' : World} (h : Below B w w') {a : Addr} {v : Value} (hb : a.block < B) (hc : w.cell? a = some v) : w'.cell? a = some v := by
  rw [← hc]
  unfold World.cell?
  rw [h.block a.block hb]

/-- the two tables stand where the program laid them -/
structure Halves (w : World) : Prop where
  low : ∀ k, k < 16 → w.cell? ⟨0, k, none⟩ = some (.int .u32 (lowT.getD k 0 : Nat))
  up : ∀ k, k < 16 → w.cell? ⟨1, k, none⟩ = some (.int .u32 (upT.getD k 0 : Nat))
/-- and the library's table of lowest bits -/
structure Tables (w : World) : Prop extends Halves w where
  tz : ∀ k, k < 32 → w.cell? ⟨2, k, none⟩ = some (.int .u8 (Lib.deBruijn32tab.getD k 0 : Nat))

theorem bl_some {w w' : World} (h : Below w.heap.size w w') {a : Addr} {v : Value} (hc : w.cell? a = some v) : w'.cell? a = some v :=
  bl_cell h (World.block_lt_of_cell? w a hc) hc
theorem Halves.keep {w w' : World} (g : Halves w) (h : Below w.heap.size w w') : Halves w' := ⟨fun k hk => bl_some h (g.low k hk), fun k hk => bl_some h (g.up k hk)⟩
theorem Tables.keep {w w' : World} (g : Tables w) (h : Below w.heap.size w w') : Tables w' := ⟨g.toHalves.keep h, fun k hk => bl_some h (g.tz k hk)⟩
theorem Halves.big {w : World} (g : Halves w) : 2 ≤ w.heap.size := World.block_lt_of_cell? w _ (g.up 0 (by decide))

theorem eat_any (n b B : Nat) (w : World) (hn : n < 4294967296) (hb : b < 256) (hB : 2 ≤ B) (hc : w.cell? ⟨B, 0, none⟩ = some (.int .u32 n)) (hf : w.frozen? ⟨B, 0, none⟩ = false) (g : Halves w) :
    Calls Tryd.prog 96 #[.int .u8 b, .pointer (some ⟨B, 0, none⟩)] w fun e w' => e = .returned (.tuple #[]) ∧ ∃ q, w' = (w.setCell ⟨B, 0, none⟩ (.int .u32 (cstep n b))).drewN q := by
  have ho : n % 256 ^^^ b < 256 := Nat.xor_lt_two_pow (n := 8) (Nat.mod_lt _ (by decide)) hb
  have e1 := u8_xor_nat (n % 256) b (by omega) hb
  have e5 := cstep_halves n b hb
  rw [e5]
  generalize n % 256 ^^^ b = o at ho e1 ⊢
  have e2 : bits .and .u8 (o : Int) 15 = ((o % 16 : Nat) : Int) := by rw [u8_and15 (o : Int) (by omega) (by omega)]; simp
  have e3 : (o : Int) / 16 = ((o / 16 : Nat) : Int) := by simp
  have hl : o % 16 < 16 := by omega
  have hh : o / 16 < 16 := by omega
  have cl := g.low _ hl
  have cu := g.up _ hh
  have ll := low_lt _ hl
  have lu := up_lt _ hh
  obtain ⟨l, el⟩ : ∃ l, l = o % 16 := ⟨_, rfl⟩
  obtain ⟨h, eh⟩ : ∃ h, h = o / 16 := ⟨_, rfl⟩
  rw [← el] at e2 hl cl ll ⊢
  rw [← eh] at e3 hh cu lu ⊢
  clear el eh
  obtain ⟨L, eL⟩ : ∃ L, L = lowT.getD l 0 := ⟨_, rfl⟩
  obtain ⟨U, eU⟩ : ∃ U, U = upT.getD h 0 := ⟨_, rfl⟩
  rw [← eL] at cl ll ⊢
  rw [← eU] at cu lu ⊢
  have e6 := u32_xor_nat (n / 256) L (by omega) ll
  have hx := xor_lt32 (show n / 256 < 4294967296 from by omega) ll
  generalize n / 256 ^^^ L = x at e6 hx ⊢
  have e7 := u32_xor_nat x U hx lu
  have hy := xor_lt32 hx lu
  generalize x ^^^ U = y at e7 hy ⊢
  have n0 : (0 : Int) ≤ n := by omega
  have n1 : (n : Int) ≤ 4294967295 := by omega
  have o0 : (0 : Int) ≤ o := by omega
  have o1 : (o : Int) ≤ 255 := by omega
  have l0 : (0 : Int) ≤ l := by omega
  have l1 : (l : Int) < 16 := by omega
  have h0 : (0 : Int) ≤ h := by omega
  have h1 : (h : Int) < 16 := by omega
  rw [show ((n % 256 : Nat) : Int) = (n : Int) % 256 from by simp] at e1
  rw [show ((n / 256 : Nat) : Int) = (n : Int) / 256 from by simp] at e6
  have nb0 : ¬ (0 : Nat) = B := by omega
  have nb1 : ¬ (1 : Nat) = B := by omega
  clear g hn hb ho e5 eL eU ll lu hx hy hB
  go_enter Tryd.func96, Tryd.ntmps96
  go_wp2_with fail
  go_region
  all_goals
    go_end0
    exact ⟨rfl, 1, rfl⟩

/-- a number of the caller's own in block B, since w -/
structure Cell1 (w : World) (B n : Nat) (W : World) : Prop where
  b : Below w.heap.size w W
  at' : w.heap.size ≤ B
  c : W.cell? ⟨B, 0, none⟩ = some (.int .u32 n)
  f : W.frozen? ⟨B, 0, none⟩ = false
theorem Cell1.store {w W : World} {B n m : Nat} (h : Cell1 w B n W) (q : Nat) : Cell1 w B m ((W.setCell ⟨B, 0, none⟩ (.int .u32 m)).drewN q) where
  b := bl_drewN (h.b.setCell h.at' _) q
  at' := h.at'
  c := by
    show (W.setCell ⟨B, 0, none⟩ (.int .u32 m)).cell? ⟨B, 0, none⟩ = _
    exact World.cell?_setCell_same _ _ _ (by rw [h.c])
  f := by
    show (W.setCell ⟨B, 0, none⟩ (.int .u32 m)).frozen? ⟨B, 0, none⟩ = _
    rw [World.frozen?_setCell]
    exact h.f
theorem Cell1.new (w : World) (n : Nat) (ty : TypeId) : Cell1 w w.heap.size n (w.alloc (.cells #[.int .u32 n] ty)) where
  b := bl_alloc (Below.refl _ _) _
  at' := Nat.le_refl _
  c := by rw [cell_of_row _ _ _ _ _ _ (heap_alloc_new _ _)]; rfl
  f := by
    unfold World.frozen?
    rw [heap_alloc_new]
    rfl

theorem on_prog (c : Nat) (s : ByteArray) (hc : c < 4294967296) (hs : s.size ≤ 9223372036854775807) (w : World) (g : Halves w) :
    Calls Tryd.prog 93 #[.int .u32 c, .string s] w fun e w' => e = .returned (.int .u32 (onM c s.data.toList)) ∧ Below w.heap.size w w' := by
  have e0 := turn_val c hc
  have hb : ones ^^^ c < 4294967296 := xor_lt32 (by decide) hc
  have ho : onM c s.data.toList = ones ^^^ crun (ones ^^^ c) s.data.toList := rfl
  rw [ho]
  generalize ones ^^^ c = m at e0 hb ⊢
  have HB := Lib.hid hb
  have HG := Lib.hid g
  have c0 : (0 : Int) ≤ c := by omega
  have c1 : (c : Int) ≤ 4294967295 := by omega
  have H1 := Lib.hid (Cell1.new w m 142)
  clear hb ho hc g
  go_enter Tryd.func93, Tryd.ntmps93
  go_wp2_with fail
  go_loopw [13] (fun i wr => ∃ k : Nat, k ≤ s.size ∧ i = .int .i64 ↑k ∧ Cell1 w w.heap.size (crun m (s.data.toList.take k)) wr) (fun i _ => s.size - (intOf i).toNat)
  case atStart => exact ⟨0, Nat.zero_le _, rfl, by simpa [crun_nil] using H1.out⟩
  case round =>
    obtain ⟨k, hk, rfl, hw⟩ := hrel
    have hy := crun_lt HB.out (s.data.toList.take k)
    have HW := Lib.hid hw
    clear hw H1
    by_cases hlt : k < s.size
    · have HM := Lib.hid (crun_more m s k hlt)
      obtain ⟨y, hyy⟩ : ∃ y, y = crun m (s.data.toList.take k) := ⟨_, rfl⟩
      rw [← hyy] at hy HM HW
      have HS := Lib.hid fun W (hW : Cell1 w w.heap.size y W) => eat_any y (s[k]'hlt).toNat w.heap.size W hy (UInt8.toNat_lt _) HG.out.big hW.c hW.f (HG.out.keep hW.b)
      clear hy hyy
      go_wp2_with (go_at_call 96; refine (HS.out _ HW.out).mono ?_; rintro e w' ⟨rfl, q, rfl⟩)
      go_roundw
      case rel => exact ⟨k + 1, by omega, by go_num, by rw [HM.out]; exact HW.out.store q⟩
      case measure => simp [intOf] <;> omega
    · rw [List.take_of_length_le (show s.data.toList.length ≤ k from by simp; omega)] at hy HW
      have e2 := turn_val (crun m s.data.toList) hy
      obtain ⟨z, hz⟩ : ∃ z, z = ones ^^^ crun m s.data.toList := ⟨_, rfl⟩
      rw [← hz] at e2
      have HZ := Lib.hid hz
      clear hz
      generalize crun m s.data.toList = y at e2 hy HW
      have y0 : (0 : Int) ≤ y := by omega
      have y1 : (y : Int) ≤ 4294967295 := by omega
      have hcell := HW.out.c
      clear hy
      go_wp2_with fail
      go_ret
      rw [← HZ.out]
      exact ⟨rfl, HW.out.b⟩

theorem crc_prog (s : ByteArray) (hs : s.size ≤ 9223372036854775807) (w : World) (g : Halves w) :
    Calls Tryd.prog 80 #[.string s] w fun e w' => e = .returned (.int .u32 (crcM s.data.toList)) ∧ Below w.heap.size w w' := by
  have HO := Lib.hid (on_prog 0 s (by omega) hs w g)
  rw [show onM 0 s.data.toList = crcM s.data.toList from rfl] at HO
  go_enter Tryd.func80, Tryd.ntmps80
  go_wp2_with (go_at_call 93; refine HO.out.mono ?_; rintro e w' ⟨rfl, hb⟩)
  go_ret
  exact ⟨rfl, hb⟩
end Go.Proofs.YtoiankgafclbdaaDoor.sums
