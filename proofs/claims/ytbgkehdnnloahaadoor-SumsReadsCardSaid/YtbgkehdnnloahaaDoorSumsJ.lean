/-
  Layer 3: the law SumsReads over any program that answers as SumsOk says.
-/
import Derived.Test.YtbgkehdnnloahaaDoorSumsI
namespace Go.Proofs.YtbgkehdnnloahaaDoor.sums
open Go.ChangeShapes Go.WideShapes Go.ChangeAt Go.RowKit
set_option linter.unusedVariables false

/-- where the law stands: the box holds its three numbers -/
structure Std (G : World → Prop) (w : World) (A B : Nat) (N : Int) (W : World) : Prop where
  g : G W
  b : Below w.heap.size w W
  x0 : W.cell? ⟨w.heap.size, 0, none⟩ = some (.int .u32 A)
  x1 : W.cell? ⟨w.heap.size, 1, none⟩ = some (.int .u32 B)
  x2 : W.cell? ⟨w.heap.size, 2, none⟩ = some (.int .i64 N)
  z : w.heap.size < W.heap.size

theorem Std.next {G : World → Prop} (HK : ∀ w w' : World, G w → Below w.heap.size w w' → G w') {w W W' : World} {A B : Nat} {N : Int} (h : Std G w A B N W) (k : Below W.heap.size W W') : Std G w A B N W' :=
  ⟨HK _ _ h.g k, bl_trans h.b k, bl_cell k h.z h.x0, bl_cell k h.z h.x1, bl_cell k h.z h.x2, Nat.lt_of_lt_of_le h.z k.size⟩
theorem Std.start {G : World → Prop} (HK : ∀ w w' : World, G w → Below w.heap.size w w' → G w') {w : World} {A B : Nat} {N : Int} (g : G w) (ty : TypeId) : Std G w A B N (w.alloc (.cells #[.int .u32 A, .int .u32 B, .int .i64 N] ty)) :=
  ⟨HK _ _ g (bl_alloc (Below.refl _ _) _), bl_alloc (Below.refl _ _) _, by rw [cell_of_row _ _ _ _ _ _ (heap_alloc_new _ _)]; rfl, by rw [cell_of_row _ _ _ _ _ _ (heap_alloc_new _ _)]; rfl, by rw [cell_of_row _ _ _ _ _ _ (heap_alloc_new _ _)]; rfl, alloc_more w _⟩

theorem Std.drew {G : World → Prop} (HK : ∀ w w' : World, G w → Below w.heap.size w w' → G w') {w W : World} {A B : Nat} {N : Int} (h : Std G w A B N W) : Std G w A B N W.drew :=
  h.next HK (bl_drew (Below.refl _ _))


theorem join_lt (a b : Nat) (n : Int) (ha : a < 4294967296) (hb : b < 4294967296) : (joinM a b n).1 < 4294967296 := by
  unfold joinM
  split
  · show 0 < 4294967296; omega
  · exact xor_lt32 (zrun_lt ha) hb

theorem join_halves (a b n : Nat) (h : n ≤ 16777216) : joinM (joinM a 0 ((n / 2 : Nat) : Int)).1 b ((n - n / 2 : Nat) : Int) = joinM a b (n : Int) := by
  unfold joinM
  rw [if_neg (by omega), if_neg (by omega), if_neg (by omega), Int.toNat_natCast, Int.toNat_natCast, Int.toNat_natCast]
  show (zrun (n - n / 2) (zrun (n / 2) a ^^^ 0) ^^^ b, _) = _
  rw [Nat.xor_zero, ← zrun_add, show n / 2 + (n - n / 2) = n from by omega]
theorem join_ok (a b : Nat) (n : Nat) (h : n ≤ 16777216) : (joinM a b (n : Int)).2 = 0 := by
  unfold joinM
  rw [if_neg (by omega)]

set_option maxRecDepth 8000 in
set_option maxHeartbeats 4000000 in
theorem sreads_any {G : World → Prop} (H : SumsOk G) (s t : ByteArray) (A B : Nat) (N : Int) (w : World) (g : G w) (hs : s.size ≤ 9223372036854775807) (ht : t.size ≤ 9223372036854775807)
    (hA : A < 4294967296) (hB : B < 4294967296) (hN : -9223372036854775808 ≤ N ∧ N ≤ 9223372036854775807) :
    Calls Tryd.prog 3 #[.string s, .string t, .agg #[.int .u32 A, .int .u32 B, .int .i64 N]] w fun e w' => e = .returned (.bool true) ∧ Below w.heap.size w w' := by
  have HK := Lib.hid H.keep
  have HFp := fun W (gW : G W) => H.frame (A % 256) s W (by omega) hs gW
  have HFr := fun W => frame_any (A % 256) s (by omega) W
  have HUp := fun W (gW : G W) => H.unframe t W ht gW
  have HUr := fun W => unframe_any t ht W
  unfold uEnd at HUp HUr
  have ea : (A : Int) % 256 = ((A % 256 : Nat) : Int) := by simp
  generalize A % 256 = kk at HFp HFr ea
  generalize (frameM kk s).1 = fs at HFp HFr
  generalize (frameM kk s).2 = fe at HFp HFr
  generalize unframeM t = u at HUp HUr
  obtain ⟨uk, up, ur, ue⟩ := u
  simp only at HUp HUr
  have HCp := fun W (gW : G W) => H.crc s W hs gW
  have HCr := fun W => crc_any s hs W
  have HOp := fun W (gW : G W) => H.on A s W hA hs gW
  have HOr := fun W => on_any A s hA hs W
  generalize crcM s.data.toList = cs at HCp HCr
  generalize onM A s.data.toList = os at HOp HOr
  have HW := Lib.hid fun W (gW : G W) => (awake_any H.toSumsOk0 W gW).mono fun e W' h => (⟨h.1, h.2.1⟩ : _ ∧ Below W.heap.size W W')
  have HJp := Lib.hid fun (a b : Nat) (n : Int) (ha : a < 4294967296) (hb : b < 4294967296) (h0 : -9223372036854775808 ≤ n) (h1 : n ≤ 9223372036854775807) W (gW : G W) => H.join a b n W ha hb h0 h1 gW
  have HS := Lib.hid (Std.start HK.out (A := A) (B := B) (N := N) g 24)
  replace HFp := Lib.hid HFp
  replace HFr := Lib.hid HFr
  replace HUp := Lib.hid HUp
  replace HUr := Lib.hid HUr
  replace HCp := Lib.hid HCp
  replace HCr := Lib.hid HCr
  replace HOp := Lib.hid HOp
  replace HOr := Lib.hid HOr
  have HA := Lib.hid hA
  have HB := Lib.hid hB
  have HN := Lib.hid hN
  clear H g hs ht hA hB hN
  have a0 : (0 : Int) ≤ A := by omega
  have a1 : (A : Int) ≤ 4294967295 := by have := HA.out; omega
  have x0 := HS.out.x0
  have x1 := HS.out.x1
  have x2 := HS.out.x2
  go_enter Tryd.func3, Tryd.ntmps3
  go_wp2_with fail
  generalize w.alloc (.cells #[.int .u32 A, .int .u32 B, .int .i64 N] 24) = w1 at HS x0 x1 x2 ⊢
  (refine (HFp.out _ HS.out.g).mono ?_; rintro e W' ⟨rfl, bn⟩; replace HS := Lib.hid (HS.out.next HK.out bn); clear bn; replace x0 := HS.out.x0; replace x1 := HS.out.x1; replace x2 := HS.out.x2; go_wp2_with fail)
  (refine (HFr.out _).mono ?_; rintro e W' ⟨rfl, bn⟩; replace HS := Lib.hid (HS.out.next HK.out bn); clear bn; replace x0 := HS.out.x0; replace x1 := HS.out.x1; replace x2 := HS.out.x2; go_wp2_with fail)
  (refine (HUp.out _ HS.out.g).mono ?_; rintro e W' ⟨rfl, bn⟩; replace HS := Lib.hid (HS.out.next HK.out bn); clear bn; replace x0 := HS.out.x0; replace x1 := HS.out.x1; replace x2 := HS.out.x2; go_wp2_with fail)
  (refine (HUr.out _).mono ?_; rintro e W' ⟨rfl, bn⟩; replace HS := Lib.hid (HS.out.next HK.out bn); clear bn; replace x0 := HS.out.x0; replace x1 := HS.out.x1; replace x2 := HS.out.x2; go_wp2_with fail)
  go_region_held3 (fun w' => w'.cell? ⟨w.heap.size, 0, none⟩ = some (.int .u32 A))
    (first | exact x0 | exact HS2.out.x0 | exact HS3.out.x0)
    ((first
      | (go_at_call 11; refine (HCp.out _ (HS.out.drew HK.out).g).mono ?_; rintro e w4 ⟨rfl, bn⟩; have HS2 := Lib.hid ((HS.out.drew HK.out).next HK.out bn); clear bn)
      | (go_at_call 12; refine (HCr.out _).mono ?_; rintro e w5 ⟨rfl, rfl⟩)
      | (go_at_call 13; refine (HOp.out _ HS2.out.g).mono ?_; rintro e w6 ⟨rfl, bn⟩; have HS3 := Lib.hid (HS2.out.next HK.out bn); clear bn)
      | (go_at_call 14; refine (HOr.out _).mono ?_; rintro e w7 ⟨rfl, rfl⟩)))
  clear HS HS2 HFp HFr HUp HUr HCp HCr HOp HOr x0 x1 x2 ea
  have HS := HS3
  clear HS3
  have x0 := HS.out.x0
  have x1 := HS.out.x1
  have x2 := HS.out.x2
  have n0 := HN.out.1
  have n1 := HN.out.2
  have HJ := Lib.hid (HJp.out A B N HA.out HB.out HN.out.1 HN.out.2)
  have HR := Lib.hid (join_any A B N HA.out HB.out)
  by_cases c1 : 70000 < N ∧ N ≤ 16777216
  · obtain ⟨d1, d2⟩ := c1
    obtain ⟨n, rfl⟩ := Int.eq_ofNat_of_zero_le (show 0 ≤ N from by omega)
    have jo := join_ok A B n (by omega)
    have jo2 := join_ok A 0 (n / 2) (by omega)
    have jh := join_halves A B n (by omega)
    have jl := join_lt A 0 ((n / 2 : Nat) : Int) HA.out (by omega)
    have en : ((n - n / 2 : Nat) : Int) = (n : Int) - ((n / 2 : Nat) : Int) := by omega
    have eh : (n : Int).tdiv 2 = ((n / 2 : Nat) : Int) := by rw [Int.tdiv_eq_ediv_of_nonneg (by omega)]; simp
    have eh2 : (n : Int) / 2 = ((n / 2 : Nat) : Int) := by simp
    have hh0 : (0 : Int) ≤ ((n / 2 : Nat) : Int) := by omega
    have hh1 : ((n / 2 : Nat) : Int) ≤ 8388608 := by omega
    rw [en] at jh
    generalize n / 2 = h at jo2 jh jl eh eh2 hh0 hh1 en
    have HJ2 := Lib.hid (HJp.out A 0 (h : Int) HA.out (by omega) (by omega) (by omega))
    rw [jo2] at HJ2
    generalize (joinM A 0 (h : Int)).1 = m at HJ2 jh jl
    have HJ3 := Lib.hid (HJp.out m B ((n : Int) - (h : Int)) jl HB.out (by omega) (by omega))
    rw [jh, jo] at HJ3
    rw [jo] at HJ
    generalize (joinM A B (n : Int)).1 = j at HJ HJ3
    clear en jo jo2 jh jl HR n0 n1
    go_wp2_with fail
    (refine (HJ.out _ HS.out.g).mono ?_; rintro e W' ⟨rfl, bn⟩; replace HS := Lib.hid (HS.out.next HK.out bn); clear bn; replace x0 := HS.out.x0; replace x1 := HS.out.x1; replace x2 := HS.out.x2; go_wp2_with fail)
    (refine (HJ2.out _ HS.out.g).mono ?_; rintro e W' ⟨rfl, bn⟩; replace HS := Lib.hid (HS.out.next HK.out bn); clear bn; replace x0 := HS.out.x0; replace x1 := HS.out.x1; replace x2 := HS.out.x2; go_wp2_with fail)
    (refine (HJ3.out _ HS.out.g).mono ?_; rintro e W' ⟨rfl, bn⟩; replace HS := Lib.hid (HS.out.next HK.out bn); clear bn; replace x0 := HS.out.x0; replace x1 := HS.out.x1; replace x2 := HS.out.x2; go_wp2_with fail)
    (refine (HW.out _ HS.out.g).mono ?_; rintro e W' ⟨rfl, bn⟩; replace HS := Lib.hid (HS.out.next HK.out bn); clear bn; replace x0 := HS.out.x0; replace x1 := HS.out.x1; replace x2 := HS.out.x2; go_wp2_with fail)
    go_ret
    exact ⟨rfl, HS.out.b⟩
  · generalize (joinM A B N).1 = j at HJ HR
    generalize (joinM A B N).2 = k at HJ HR
    by_cases c2 : 70000 < N
    · have c3 : ¬ N ≤ 16777216 := fun h => c1 ⟨c2, h⟩
      clear c1
      go_wp2_with fail
      (refine (HJ.out _ HS.out.g).mono ?_; rintro e W' ⟨rfl, bn⟩; replace HS := Lib.hid (HS.out.next HK.out bn); clear bn; replace x0 := HS.out.x0; replace x1 := HS.out.x1; replace x2 := HS.out.x2; go_wp2_with fail)
      refine (HR.out _).mono ?_
      rintro e W' ⟨rfl, rfl⟩
      go_wp2_with fail
      (refine (HW.out _ HS.out.g).mono ?_; rintro e W' ⟨rfl, bn⟩; replace HS := Lib.hid (HS.out.next HK.out bn); clear bn; replace x0 := HS.out.x0; replace x1 := HS.out.x1; replace x2 := HS.out.x2; go_wp2_with fail)
      go_ret
      exact ⟨rfl, HS.out.b⟩
    · clear c1
      go_wp2_with fail
      (refine (HJ.out _ HS.out.g).mono ?_; rintro e W' ⟨rfl, bn⟩; replace HS := Lib.hid (HS.out.next HK.out bn); clear bn; replace x0 := HS.out.x0; replace x1 := HS.out.x1; replace x2 := HS.out.x2; go_wp2_with fail)
      refine (HR.out _).mono ?_
      rintro e W' ⟨rfl, rfl⟩
      go_wp2_with fail
      (refine (HW.out _ HS.out.g).mono ?_; rintro e W' ⟨rfl, bn⟩; replace HS := Lib.hid (HS.out.next HK.out bn); clear bn; replace x0 := HS.out.x0; replace x1 := HS.out.x1; replace x2 := HS.out.x2; go_wp2_with fail)
      go_ret
      exact ⟨rfl, HS.out.b⟩
end Go.Proofs.YtbgkehdnnloahaaDoor.sums
