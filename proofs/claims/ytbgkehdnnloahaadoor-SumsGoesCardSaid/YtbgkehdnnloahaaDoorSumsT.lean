/-
  Layer 3, the program: a square of columns, the columns of one byte 00.
-/
import Derived.Test.YtbgkehdnnloahaaDoorSumsS
namespace Go.Proofs.YtbgkehdnnloahaaDoor.sums
open Go.ChangeShapes Go.WideShapes Go.ChangeAt Go.RowKit
set_option linter.unusedVariables false

/-- the first k columns of f, nought behind -/
def midV (f : Nat → Nat) (k : Nat) : Array Value := ((List.range 32).map fun i => Value.int .u32 ((if i < k then f (2 ^ i) else 0 : Nat) : Int)).toArray
theorem midV_size (f : Nat → Nat) (k : Nat) : (midV f k).size = 32 := by simp [midV]
theorem midV_one (f : Nat → Nat) (k : Nat) : (midV f k).all (·.oneCell') = true := by
  rw [Array.all_eq_true]
  intro i hi
  simp [midV, Value.oneCell']
theorem midV_next (f : Nat → Nat) (k : Nat) (h : k < 32) : (midV f k).setIfInBounds k (.int .u32 (f (2 ^ k) : Nat)) = midV f (k + 1) := by
  apply Array.ext_getElem?
  intro i
  rw [Array.getElem?_setIfInBounds]
  by_cases e : k = i
  · subst e
    rw [if_pos rfl, if_pos (by rw [midV_size]; exact h)]
    simp [midV, List.getElem?_range h]
  · rw [if_neg e]
    by_cases hi : i < 32
    · have : (i < k + 1) = (i < k) := by simp only [eq_iff_iff]; omega
      simp only [midV, List.getElem?_toArray, List.getElem?_map, List.getElem?_range hi, Option.map_some, this]
    · rw [Array.getElem?_eq_none (by rw [midV_size]; omega), Array.getElem?_eq_none (by rw [midV_size]; omega)]
theorem midV_full (f : Nat → Nat) : midV f 32 = tabV f := by
  apply Array.ext_getElem?
  intro i
  by_cases hi : i < 32
  · rw [tabV_at f i hi]
    simp [midV, hi]
  · rw [Array.getElem?_eq_none (by rw [midV_size]; omega), Array.getElem?_eq_none (by rw [tabV_size]; omega)]

theorem nz : (Tryd.prog.info? 50).map (·.size) = some 32 := by kernel_rfl
theorem nv (w : World) : (zeroValue 50).run Tryd.prog w = .ok (.agg (midV (fun _ => 0) 0)) w := (zero_of_info (v := .agg (midV (fun _ => 0) 0)) (n := 32) (by kernel_rfl)).1 w
theorem mid_zero (f : Nat → Nat) : midV f 0 = midV (fun _ => 0) 0 := by
  simp [midV]

theorem idx_any (A : Array Value) (k : Nat) (x : Int) (hA : A[k]? = some (.int .u32 x)) (hk : k < 32) (W : World) :
    (Instr.index 50 (.agg A) (.int .i64 (k : Int))).run Tryd.prog W = .ok (.int .u32 x) W := by
  have h1 : (0 : Int) ≤ k ∧ (k : Int) < 32 := by omega
  have h2 : (k : Int) < ((32 : Nat) : Int) := by omega
  simp [Instr.index, run_underlying Tryd.underlying50, asIntOf, h1, hA, go_sem]
  intro h
  omega

/-- three rows of the caller's own, one behind the other, since w -/
structure Three (w : World) (A Z C : Array Value) (W : World) : Prop where
  b : Below w.heap.size w W
  r0 : W.heap[w.heap.size]? = some (.cells A 50 (0, 0))
  r1 : W.heap[w.heap.size + 1]? = some (.cells Z 50 (0, 0))
  r2 : W.heap[w.heap.size + 1 + 1]? = some (.cells C 50 (0, 0))
theorem Three.start (w : World) (A Z C : Array Value) : Three w A Z C (((w.alloc (.cells A 50)).alloc (.cells Z 50)).alloc (.cells C 50)) where
  b := bl_alloc (bl_alloc (bl_alloc (Below.refl _ _) _) _) _
  r0 := by rw [Below.heap_alloc _ _ _ (by simp; omega), Below.heap_alloc _ _ _ (by simp), heap_alloc_last]
  r1 := by
    rw [Below.heap_alloc _ _ _ (by simp)]
    have := heap_alloc_last (w.alloc (.cells A 50)) (.cells Z 50)
    rwa [show (w.alloc (.cells A 50)).heap.size = w.heap.size + 1 from by simp] at this
  r2 := by
    have := heap_alloc_last ((w.alloc (.cells A 50)).alloc (.cells Z 50)) (.cells C 50)
    rwa [show ((w.alloc (.cells A 50)).alloc (.cells Z 50)).heap.size = w.heap.size + 1 + 1 from by simp] at this
theorem Three.lt {w W : World} {A Z C : Array Value} (h : Three w A Z C W) : w.heap.size + 1 + 1 < W.heap.size := (Array.getElem?_eq_some_iff.1 h.r2).1
theorem Three.next {w W W' : World} {A Z C : Array Value} (h : Three w A Z C W) (k : Below W.heap.size W W') : Three w A Z C W' where
  b := bl_trans h.b k
  r0 := by rw [k.block _ (by have := h.lt; omega)]; exact h.r0
  r1 := by rw [k.block _ (by have := h.lt; omega)]; exact h.r1
  r2 := by rw [k.block _ h.lt]; exact h.r2
theorem Three.put {w W : World} {A Z C : Array Value} (h : Three w A Z C W) (i : Nat) (v : Value) : Three w A Z (C.setIfInBounds i v) (W.setCell ⟨w.heap.size + 1 + 1, i, none⟩ v) where
  b := h.b.setCell (by show w.heap.size ≤ w.heap.size + 1 + 1; omega) _
  r0 := by rw [heap_setCell_other _ _ _ _ (by simp; omega)]; exact h.r0
  r1 := by rw [heap_setCell_other _ _ _ _ (by simp)]; exact h.r1
  r2 := by rw [heap_setCell_same _ _ _ _ _ _ h.r2]

theorem bl_setRow {B g : Nat} {w0 w : World} (hb : Below B w0 w) (hg : B ≤ g) (cs : Array Value) : Below B w0 (w.setRow g cs) :=
  ⟨hb.os, hb.tape, hb.output, by rw [setRow_size]; exact hb.size, fun k hk => by rw [setRow_other _ _ _ _ (by omega)]; exact hb.block k hk⟩
theorem midV_some (f : Nat → Nat) (k i : Nat) (h : i < 32) : ∃ x, (midV f k)[i]? = some (.int .u32 x) := by
  simp [midV, List.getElem?_range h]
theorem Three.cell {w W : World} {A Z C : Array Value} (h : Three w A Z C W) (i : Nat) : W.cell? ⟨w.heap.size + 1 + 1, i, none⟩ = C[i]? := cell_of_row _ _ _ _ _ _ h.r2
theorem Three.frozen {w W : World} {A Z C : Array Value} (h : Three w A Z C W) (i : Nat) : W.frozen? ⟨w.heap.size + 1 + 1, i, none⟩ = false := by
  unfold World.frozen?
  rw [h.r2]
  simp

set_option maxHeartbeats 1000000 in
theorem square_any {f : Nat → Nat} (hl : Lin f) (hf : ∀ n, n < 4294967296 → f n < 4294967296) (w : World) (g : Tables w) :
    Calls Tryd.prog 27 #[.agg (tabV f)] w fun e w' => e = .returned (.agg (tabV fun n => f (f n))) ∧ Below w.heap.size w w' := by
  have HO := Lib.hid fun (v : Nat) (hv : v < 4294967296) (W : World) (gW : Tables W) => of_any hl hf v hv W gW
  have HT := Lib.hid fun i hi => tabV_at f i hi
  have hsz := tabV_size f
  have HF := Lib.hid hf
  have HG := Lib.hid g
  obtain ⟨A, hA⟩ : ∃ A, A = tabV f := ⟨_, rfl⟩
  rw [← hA] at HT hsz HO ⊢
  have hnv := nv
  have HR := Lib.hid (Three.start w A (midV (fun _ => 0) 0) (midV (fun _ => 0) 0))
  have HZ := Lib.hid (midV_size (fun _ => 0) 0)
  obtain ⟨Z, hZ⟩ : ∃ Z, Z = midV (fun _ => 0) 0 := ⟨_, rfl⟩
  rw [← hZ] at hnv HR HZ
  have HM := Lib.hid ((mid_zero fun n => f (f n)).trans hZ.symm)
  have hi : (Tryd.prog.info? 50).map (·.size) = some A.size := by rw [hsz]; exact nz
  clear hA hZ hl hf g
  go_enter Tryd.func27, Tryd.ntmps27
  go_wp2_with (refine wpList_load_row rfl 50 _ rfl w.heap.size rfl 50 A (0, 0) _ HR.out.r0 Tryd.underlying50 rfl hi ?_)
  go_loopw [7] (fun i W => ∃ k : Nat, k ≤ 32 ∧ i = .int .i64 ↑k ∧ Three w A Z (midV (fun n => f (f n)) k) W) (fun i _ => 32 - (intOf i).toNat)
  case atStart => exact ⟨0, by omega, rfl, by rw [HM.out]; exact HR.out⟩
  case round =>
    obtain ⟨k, hk, rfl, hw⟩ := hrel
    have HW := Lib.hid hw
    clear hw HR
    by_cases hlt : k < 32
    · have hc := HT.out k hlt
      have hix := idx_any A k _ hc hlt
      have hc1 : f (2 ^ k) < 4294967296 := HF.out _ (Nat.pow_lt_pow_right (by omega) hlt)
      have HN := Lib.hid (midV_next (fun n => f (f n)) k hlt)
      generalize f (2 ^ k) = c at hc hix hc1 HN
      have c0 : (0 : Int) ≤ c := by omega
      have c1 : (c : Int) ≤ 4294967295 := by omega
      have HC := Lib.hid (HO.out c hc1 wr (HG.out.keep HW.out.b))
      have k0 : (0 : Int) ≤ k := by omega
      have k1 : (k : Int) < 32 := by omega
      clear hc hc1
      go_wp2_with (first
        | (refine wpList_load_row rfl 50 _ rfl w.heap.size rfl 50 A (0, 0) _ HW.out.r0 Tryd.underlying50 rfl hi ?_)
        | (go_at_call 26; refine HC.out.mono ?_; rintro e w1 ⟨rfl, b1⟩; have HW1 := Lib.hid (HW.out.next b1); obtain ⟨x0, hx0⟩ := midV_some (fun n => f (f n)) k k hlt; have hx := HW1.out.cell k; rw [hx0] at hx; have hfz := HW1.out.frozen k; clear hx0 b1))
      go_roundw
      case rel => exact ⟨k + 1, by omega, by go_num, by rw [← HN.out]; exact HW1.out.put k _⟩
      case measure => simp [intOf] <;> omega
    · obtain rfl : k = 32 := by omega
      rw [midV_full] at HW
      have hsf := tabV_size fun n => f (f n)
      have hof := tabV_one fun n => f (f n)
      obtain ⟨C, hC⟩ : ∃ C, C = tabV fun n => f (f n) := ⟨_, rfl⟩
      rw [← hC] at HW hsf hof
      have HE := Lib.hid hC
      have hiC : (Tryd.prog.info? 50).map (·.size) = some C.size := by rw [hsf]; exact nz
      clear hlt hk hC
      go_wp2_with (first
        | (refine wpList_load_row rfl 50 _ rfl (w.heap.size + 1 + 1) rfl 50 C (0, 0) _ HW.out.r2 Tryd.underlying50 rfl hiC ?_)
        | (refine wpList_store_row rfl 50 _ _ rfl (w.heap.size + 1) C rfl rfl 50 Z HW.out.r1 hiC (HZ.out.trans hsf.symm) hof ?_))
      refine bodyPost_ret (results_cell_row rfl _ _ (w.heap.size + 1) 50 C (0, 0) _ rfl (setRow_heap _ _ _ _ _ _ HW.out.r1) Tryd.underlying50 rfl hiC) rfl ?_
      exact ⟨by rw [HE.out], bl_setRow HW.out.b (by omega) _⟩
end Go.Proofs.YtbgkehdnnloahaaDoor.sums
