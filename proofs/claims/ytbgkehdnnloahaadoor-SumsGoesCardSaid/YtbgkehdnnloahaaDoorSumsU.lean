/-
  Layer 3, the program: the columns of one byte 00, Join; all five calls answer as the document says.
-/
import Derived.Test.YtbgkehdnnloahaaDoorSumsT
import Derived.Test.YtbgkehdnnloahaaDoorSumsR
namespace Go.Proofs.YtbgkehdnnloahaaDoor.sums
open Go.ChangeShapes Go.WideShapes Go.ChangeAt Go.RowKit
set_option linter.unusedVariables false

/-- two rows of the caller's own, one behind the other, since w -/
structure Two (w : World) (Z C : Array Value) (W : World) : Prop where
  b : Below w.heap.size w W
  r1 : W.heap[w.heap.size]? = some (.cells Z 50 (0, 0))
  r2 : W.heap[w.heap.size + 1]? = some (.cells C 50 (0, 0))
theorem Two.start (w : World) (Z C : Array Value) : Two w Z C ((w.alloc (.cells Z 50)).alloc (.cells C 50)) where
  b := bl_alloc (bl_alloc (Below.refl _ _) _) _
  r1 := by rw [Below.heap_alloc _ _ _ (by simp), heap_alloc_last]
  r2 := by
    have := heap_alloc_last (w.alloc (.cells Z 50)) (.cells C 50)
    rwa [show (w.alloc (.cells Z 50)).heap.size = w.heap.size + 1 from by simp] at this
theorem Two.lt {w W : World} {Z C : Array Value} (h : Two w Z C W) : w.heap.size + 1 < W.heap.size := (Array.getElem?_eq_some_iff.1 h.r2).1
theorem Two.next {w W W' : World} {Z C : Array Value} (h : Two w Z C W) (k : Below W.heap.size W W') : Two w Z C W' where
  b := bl_trans h.b k
  r1 := by rw [k.block _ (by have := h.lt; omega)]; exact h.r1
  r2 := by rw [k.block _ h.lt]; exact h.r2
theorem Two.put {w W : World} {Z C : Array Value} (h : Two w Z C W) (i : Nat) (v : Value) : Two w Z (C.setIfInBounds i v) (W.setCell ⟨w.heap.size + 1, i, none⟩ v) where
  b := h.b.setCell (by show w.heap.size ≤ w.heap.size + 1; omega) _
  r1 := by rw [heap_setCell_other _ _ _ _ (by simp)]; exact h.r1
  r2 := by rw [heap_setCell_same _ _ _ _ _ _ h.r2]
theorem Two.cell {w W : World} {Z C : Array Value} (h : Two w Z C W) (i : Nat) : W.cell? ⟨w.heap.size + 1, i, none⟩ = C[i]? := cell_of_row _ _ _ _ _ _ h.r2
theorem Two.frozen {w W : World} {Z C : Array Value} (h : Two w Z C W) (i : Nat) : W.frozen? ⟨w.heap.size + 1, i, none⟩ = false := by
  unfold World.frozen?
  rw [h.r2]
  simp

theorem on_nought (x : Nat) : ones ^^^ onM (ones ^^^ x) [0] = cstep x 0 := by
  unfold onM
  rw [xor_back2, xor_back2]
  rfl

set_option maxHeartbeats 1000000 in
theorem nought_any (w : World) (g : Halves w) :
    Calls Tryd.prog 25 #[] w fun e w' => e = .returned (.agg (tabV fun n => cstep n 0)) ∧ Below w.heap.size w w' := by
  have HO := Lib.hid fun (c : Nat) (hc : c < 4294967296) (W : World) (gW : Halves W) => on_prog c ⟨#[0]⟩ hc (by decide) W gW
  have HG := Lib.hid g
  have hnv := nv
  have HR := Lib.hid (Two.start w (midV (fun _ => 0) 0) (midV (fun _ => 0) 0))
  have HZ := Lib.hid (midV_size (fun _ => 0) 0)
  obtain ⟨Z, hZ⟩ : ∃ Z, Z = midV (fun _ => 0) 0 := ⟨_, rfl⟩
  rw [← hZ] at hnv HR HZ
  have HM := Lib.hid ((mid_zero fun n => cstep n 0).trans hZ.symm)
  clear hZ g
  go_enter Tryd.func25, Tryd.ntmps25
  go_wp2_with fail
  go_loopw [3] (fun i W => ∃ k : Nat, k ≤ 32 ∧ i = .int .i64 ↑k ∧ Two w Z (midV (fun n => cstep n 0) k) W) (fun i _ => 32 - (intOf i).toNat)
  case atStart => exact ⟨0, by omega, rfl, by rw [HM.out]; exact HR.out⟩
  case round =>
    obtain ⟨k, hk, rfl, hw⟩ := hrel
    have HW := Lib.hid hw
    clear hw HR
    by_cases hlt : k < 32
    · have hp : 2 ^ k < 4294967296 := Nat.pow_lt_pow_right (by omega) hlt
      have HN := Lib.hid (midV_next (fun n => cstep n 0) k hlt)
      have k0 : (0 : Int) ≤ k := by omega
      have k1 : (k : Int) < 32 := by omega
      have ep : (2 : Int) ^ k % 4294967296 = ((2 ^ k : Nat) : Int) := by
        have hpi : (2 : Int) ^ k = ((2 ^ k : Nat) : Int) := (Int.natCast_pow 2 k).symm
        rw [hpi]
        generalize 2 ^ k = p at hp
        omega
      have hc2 := on_nought (2 ^ k)
      have e1 := turn_val (2 ^ k) hp
      have hq : ones ^^^ 2 ^ k < 4294967296 := xor_lt32 (by decide) hp
      have HC := Lib.hid (HO.out (ones ^^^ 2 ^ k) hq wr (HG.out.keep HW.out.b))
      have hr := onM_lt hq [0]
      have e2 := turn_val (onM (ones ^^^ 2 ^ k) [0]) hr
      rw [hc2] at e2
      generalize onM (ones ^^^ 2 ^ k) [0] = r at HC hr e2
      generalize ones ^^^ 2 ^ k = q at HC e1
      generalize cstep (2 ^ k) 0 = z at HN e2
      generalize 2 ^ k = p at ep e1
      have r0 : (0 : Int) ≤ r := by omega
      have r1 : (r : Int) ≤ 4294967295 := by omega
      clear hp hc2 hq hr
      go_wp2_with fail
      refine HC.out.mono ?_
      rintro e w1 ⟨rfl, b1⟩
      have HW1 := Lib.hid (HW.out.next b1)
      obtain ⟨x0, hx0⟩ := midV_some (fun n => cstep n 0) k k hlt
      have hx := HW1.out.cell k
      rw [hx0] at hx
      have hfz := HW1.out.frozen k
      clear hx0 b1
      go_wp2_with fail
      go_roundw
      case rel => exact ⟨k + 1, by omega, by go_num, by rw [← HN.out]; exact HW1.out.put k _⟩
      case measure => simp [intOf] <;> omega
    · obtain rfl : k = 32 := by omega
      rw [midV_full] at HW
      have hsf := tabV_size fun n => cstep n 0
      have hof := tabV_one fun n => cstep n 0
      obtain ⟨C, hC⟩ : ∃ C, C = tabV fun n => cstep n 0 := ⟨_, rfl⟩
      rw [← hC] at HW hsf hof
      have HE := Lib.hid hC
      have hiC : (Tryd.prog.info? 50).map (·.size) = some C.size := by rw [hsf]; exact nz
      clear hlt hk hC
      go_wp2_with (first
        | (refine wpList_load_row rfl 50 _ rfl (w.heap.size + 1) rfl 50 C (0, 0) _ HW.out.r2 Tryd.underlying50 rfl hiC ?_)
        | (refine wpList_store_row rfl 50 _ _ rfl w.heap.size C rfl rfl 50 Z HW.out.r1 hiC (HZ.out.trans hsf.symm) hof ?_))
      refine bodyPost_ret (results_cell_row rfl _ _ w.heap.size 50 C (0, 0) _ rfl (setRow_heap _ _ _ _ _ _ HW.out.r1) Tryd.underlying50 rfl hiC) rfl ?_
      exact ⟨by rw [HE.out], bl_setRow HW.out.b (Nat.le_refl _) _⟩

theorem i64_and_one (k : Nat) (h : k < 4294967296) : bits .and .i64 (k : Int) 1 = ((k % 2 : Nat) : Int) := by
  have h1 := bits_mask .i64 63 (by decide) (fun n h0 h1 => by rw [IntKind.wrap_i64]; omega) 1 (by decide) (k : Int) (by omega) (by omega)
  rw [show ((2 : Int) ^ 1 - 1) = 1 from rfl] at h1
  rw [h1]
  simp

/-- a row of the caller's own in block B, since w -/
structure Row1 (w : World) (B : Nat) (C : Array Value) (W : World) : Prop where
  b : Below w.heap.size w W
  at' : w.heap.size ≤ B
  r : W.heap[B]? = some (.cells C 50 (0, 0))
theorem Row1.next {w W W' : World} {B : Nat} {C : Array Value} (h : Row1 w B C W) (k : Below W.heap.size W W') : Row1 w B C W' :=
  ⟨bl_trans h.b k, h.at', by rw [k.block _ (Array.getElem?_eq_some_iff.1 h.r).1]; exact h.r⟩
theorem Row1.set {w W : World} {B : Nat} {C : Array Value} (h : Row1 w B C W) (D : Array Value) : Row1 w B D (W.setRow B D) :=
  ⟨bl_setRow h.b h.at' _, h.at', setRow_heap _ _ _ _ _ _ h.r⟩
theorem Row1.new {w W : World} (h : Below w.heap.size w W) (C : Array Value) : Row1 w W.heap.size C (W.alloc (.cells C 50)) :=
  ⟨bl_alloc h _, h.size, heap_alloc_last _ _⟩

theorem tab_pow (j : Nat) : (tabV fun n => zpow j (zpow j n)) = tabV (zpow (j + 1)) := by
  congr 1
  funext n
  exact (zpow_succ j n).symm

set_option maxHeartbeats 2000000 in
theorem join_prog (a b : Nat) (n : Int) (ha : a < 4294967296) (hb : b < 4294967296) (w : World) (g : Tables w) :
    Calls Tryd.prog 15 #[.int .u32 a, .int .u32 b, .int .i64 n] w fun e w' => e = .returned (.tuple #[.int .u32 ((joinM a b n).1 : Nat), .int .i64 (joinM a b n).2]) ∧ Below w.heap.size w w' := by
  unfold joinM
  by_cases c : n < 0 ∨ 16777216 < n
  · rw [if_pos c]
    by_cases c1 : n < 0
    · clear c
      go_enter Tryd.func15, Tryd.ntmps15
      go_wp2_with fail
      go_ret2
      exact ⟨rfl, Below.refl _ _⟩
    · have c2 : 16777216 < n := by omega
      have c3 : 0 ≤ n := by omega
      clear c c1
      go_enter Tryd.func15, Tryd.ntmps15
      go_wp2_with fail
      go_ret2
      exact ⟨rfl, Below.refl _ _⟩
  · rw [if_neg c]
    obtain ⟨m, rfl⟩ := Int.eq_ofNat_of_zero_le (show 0 ≤ n from by omega)
    rw [Int.toNat_natCast]
    have hm : (m : Int) ≤ 16777216 := by omega
    have hm0 : (0 : Int) ≤ m := by omega
    have HA := Lib.hid ha
    have HB := Lib.hid hb
    have HM := Lib.hid (show m ≤ 16777216 from by omega)
    have HG := Lib.hid g
    have HN := Lib.hid (nought_any w g.toHalves)
    rw [← zpow_zero] at HN
    have hnv := nv
    have HZ := Lib.hid (midV_size (fun _ => 0) 0)
    obtain ⟨Z, hZ⟩ : ∃ Z, Z = midV (fun _ => 0) 0 := ⟨_, rfl⟩
    rw [← hZ] at hnv HZ
    have HT := Lib.hid fun (j : Nat) => (⟨tabV_size (zpow j), tabV_one (zpow j)⟩ : _ ∧ _)
    clear c ha hb g hZ
    go_enter Tryd.func15, Tryd.ntmps15
    go_wp2_with fail
    refine HN.out.mono ?_
    rintro e w1 ⟨rfl, b1⟩
    have HR := Lib.hid (Row1.new b1 Z)
    have hC0 := HT.out 0
    obtain ⟨C0, hC0e⟩ : ∃ C0, C0 = tabV (zpow 0) := ⟨_, rfl⟩
    rw [← hC0e] at hC0
    obtain ⟨hs0, ho0⟩ := hC0
    have hi0 : (Tryd.prog.info? 50).map (·.size) = some C0.size := by rw [hs0]; exact nz
    rw [← hC0e]
    have HE := Lib.hid hC0e
    clear hC0e b1 HN
    go_wp2_with (refine wpList_store_row rfl 50 _ _ rfl w1.heap.size C0 rfl rfl 50 Z HR.out.r hi0 (HZ.out.trans hs0.symm) ho0 ?_)
    have HR0 := Lib.hid (HR.out.set C0)
    have hlt1 := HR.out.at'
    generalize (w1.alloc (.cells Z 50)).setRow w1.heap.size C0 = W0 at HR0 ⊢
    generalize w1.heap.size = B0 at HR0 ⊢
    rw [HE.out] at HR0
    clear HR HE ho0 hs0 hi0 hlt1
    try simp only [Act.put]
    go_loopw [0, 2, 8] (fun x y z W => ∃ (j A k B : Nat), A < 4294967296 ∧ k ≤ 16777216 ∧ x = .int .u32 ↑A ∧ y = .int .i64 ↑k ∧ z = .pointer (some ⟨B, 0, none⟩) ∧ Row1 w B (tabV (zpow j)) W ∧ zrun (2 ^ j * k) A = zrun m a) (fun _ y _ _ => (intOf y).toNat)
    case atStart => exact ⟨0, a, m, B0, HA.out, HM.out, rfl, rfl, rfl, HR0.out, by rw [Nat.pow_zero, Nat.one_mul]⟩
    case round =>
      obtain ⟨j, A, k, B, hA, hk, rfl, rfl, rfl, hR, hE⟩ := hrel
      have HR := Lib.hid hR
      clear hR HR0
      by_cases hlt : 0 < k
      · have hjl := zleft j k A
        rw [hE] at hjl
        have hzl : (if k % 2 = 1 then zpow j A else A) < 4294967296 := by
          split
          · exact zpow_lt j hA
          · exact hA
        have HJ := Lib.hid hjl
        have HL := Lib.hid hzl
        have HO := Lib.hid fun (W : World) (gW : Tables W) => of_any (zpow_lin j) (fun n h => zpow_lt j h) A hA W gW
        have HQ := Lib.hid fun (W : World) (gW : Tables W) => square_any (zpow_lin j) (fun n h => zpow_lt j h) W gW
        rw [tab_pow] at HQ
        obtain ⟨hs, ho⟩ := HT.out j
        obtain ⟨hs1, ho1⟩ := HT.out (j + 1)
        obtain ⟨C, hC⟩ : ∃ C, C = tabV (zpow j) := ⟨_, rfl⟩
        obtain ⟨D, hD⟩ : ∃ D, D = tabV (zpow (j + 1)) := ⟨_, rfl⟩
        rw [← hC] at HO HQ hs ho HR
        rw [← hD] at HQ hs1 ho1
        have HD := Lib.hid hD
        have hiC : (Tryd.prog.info? 50).map (·.size) = some C.size := by rw [hs]; exact nz
        have hiD : (Tryd.prog.info? 50).map (·.size) = some D.size := by rw [hs1]; exact nz
        have e1 : bits .and .i64 (k : Int) 1 = ((k % 2 : Nat) : Int) := by
          have := i64_and_one k (by omega)
          exact this
        have k0 : (1 : Int) ≤ k := by omega
        have k1 : (k : Int) ≤ 16777216 := by omega
        have a0 : (0 : Int) ≤ A := by omega
        have a1 : (A : Int) ≤ 4294967295 := by omega
        clear hC hD hjl hzl hE hA hk hlt
        by_cases o : k % 2 = 1
        · rw [if_pos o] at HJ HL
          have t : ((k : Int) % 2 == 1) = true := by rw [beq_iff_eq]; omega
          clear o
          go_wp2_with (refine wpList_load_row rfl 50 _ rfl B rfl 50 C (0, 0) _ HR.out.r Tryd.underlying50 rfl hiC ?_)
          refine (HO.out wr (HG.out.keep HR.out.b)).mono ?_
          rintro e W2 ⟨rfl, b2⟩
          have HR2 := Lib.hid (HR.out.next b2)
          clear b2 HR
          go_wp2_with (refine wpList_load_row rfl 50 _ rfl B rfl 50 C (0, 0) _ HR2.out.r Tryd.underlying50 rfl hiC ?_)
          refine (HQ.out W2 (HG.out.keep HR2.out.b)).mono ?_
          rintro e w3 ⟨rfl, b3⟩
          have HR3 := Lib.hid (HR2.out.next b3)
          clear b3
          have HR4 := Lib.hid (HR3.out.set D)
          have HR5 := Lib.hid (Row1.new HR4.out.b Z)
          rw [setRow_size] at HR5
          have HR6 := Lib.hid (HR5.out.set D)
          go_wp2_with (first
            | (refine wpList_store_row rfl 50 _ _ rfl B D rfl rfl 50 C HR3.out.r hiD (hs.trans hs1.symm) ho1 ?_)
            | (refine wpList_load_row rfl 50 _ rfl B rfl 50 D (0, 0) _ HR4.out.r Tryd.underlying50 rfl hiD ?_)
            | (refine wpList_store_row rfl 50 _ _ rfl w3.heap.size D rfl rfl 50 Z HR5.out.r hiD (HZ.out.trans hs1.symm) ho1 ?_))
          refine ⟨⟨j + 1, _, k / 2, w3.heap.size, HL.out, by omega, rfl, by simp, rfl, by rw [← HD.out]; exact HR6.out, HJ.out.symm⟩, ?_⟩
          simp [intOf] <;> omega
        · rw [if_neg o] at HJ HL
          have t : ((k : Int) % 2 == 1) = false := by rw [beq_eq_false_iff_ne]; omega
          clear o
          have HR2 := HR
          go_wp2_with (refine wpList_load_row rfl 50 _ rfl B rfl 50 C (0, 0) _ HR2.out.r Tryd.underlying50 rfl hiC ?_)
          refine (HQ.out wr (HG.out.keep HR2.out.b)).mono ?_
          rintro e w3 ⟨rfl, b3⟩
          have HR3 := Lib.hid (HR2.out.next b3)
          clear b3
          have HR4 := Lib.hid (HR3.out.set D)
          have HR5 := Lib.hid (Row1.new HR4.out.b Z)
          rw [setRow_size] at HR5
          have HR6 := Lib.hid (HR5.out.set D)
          go_wp2_with (first
            | (refine wpList_store_row rfl 50 _ _ rfl B D rfl rfl 50 C HR3.out.r hiD (hs.trans hs1.symm) ho1 ?_)
            | (refine wpList_load_row rfl 50 _ rfl B rfl 50 D (0, 0) _ HR4.out.r Tryd.underlying50 rfl hiD ?_)
            | (refine wpList_store_row rfl 50 _ _ rfl w3.heap.size D rfl rfl 50 Z HR5.out.r hiD (HZ.out.trans hs1.symm) ho1 ?_))
          refine ⟨⟨j + 1, _, k / 2, w3.heap.size, HL.out, by omega, rfl, by simp, rfl, by rw [← HD.out]; exact HR6.out, HJ.out.symm⟩, ?_⟩
          simp [intOf] <;> omega
      · obtain rfl : k = 0 := by omega
        rw [Nat.mul_zero, show zrun 0 A = A from rfl] at hE
        have e2 := u32_xor_nat A b hA HB.out
        have HX := Lib.hid (show A ^^^ b = zrun m a ^^^ b from congrArg (· ^^^ b) hE)
        obtain ⟨z, hz⟩ : ∃ z, z = A ^^^ b := ⟨_, rfl⟩
        rw [← hz] at e2 HX
        have y0 : (0 : Int) ≤ A := by omega
        have y1 : (A : Int) ≤ 4294967295 := by omega
        have b0 : (0 : Int) ≤ b := by omega
        have b1 : (b : Int) ≤ 4294967295 := by have := HB.out; omega
        clear hA hE hz hk hlt
        go_wp2_with fail
        go_ret2
        rw [← HX.out]
        exact ⟨rfl, HR.out.b⟩

/-- all five calls -/
theorem sums_ok0 : SumsOk0 Halves where
  crc := fun s w hs g => crc_prog s hs w g
  on := fun c s w hc hs g => on_prog c s hc hs w g
  frame := fun kd p w hk hp g => frame_prog kd p hk hp w g
  unframe := fun s w hs g => unframe_prog s hs w g
  keep := fun w w' g h => g.keep h
theorem sums_ok : SumsOk Tables where
  crc := fun s w hs g => crc_prog s hs w g.toHalves
  on := fun c s w hc hs g => on_prog c s hc hs w g.toHalves
  frame := fun kd p w hk hp g => frame_prog kd p hk hp w g.toHalves
  unframe := fun s w hs g => unframe_prog s hs w g.toHalves
  keep := fun w w' g h => g.keep h
  join := fun a b n w ha hb _ _ g => join_prog a b n ha hb w g
end Go.Proofs.YtbgkehdnnloahaaDoor.sums
