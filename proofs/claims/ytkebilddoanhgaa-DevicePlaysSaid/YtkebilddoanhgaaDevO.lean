/-
  Layer 4, the document's device: Twin.
-/
import Derived.Test.YtkebilddoanhgaaDevJ
namespace Go.Proofs.Ytkebilddoanhgaa.dev
open Go.ChangeShapes Go.WideShapes Go.ChangeAt Go.RowKit mem
set_option linter.unusedVariables false

section
variable {w wr : World} {As : List Ast} {X : Nat} {D : DevM} {r : RRep}

theorem strs_one (l : List ByteArray) : ∀ u ∈ strs l, u.oneCell' = true := by
  intro u hu
  simp only [strs, List.mem_map] at hu
  obtain ⟨k, _, rfl⟩ := hu
  rfl
theorem wcells_one (l : List (Nat × ByteArray)) : ∀ u ∈ wcells l, u.oneCell' = true := by
  intro u hu
  simp only [wcells, List.mem_flatMap] at hu
  obtain ⟨k, _, hu⟩ := hu
  simp at hu
  rcases hu with rfl | rfl <;> rfl

/-- the cells that a Twin reads -/
def TwinS (X : Nat) (D : DevM) (r : RRep) (W : World) : Prop :=
  W.cell? ⟨X, 0, none⟩ = some (.int .i64 (D.nb : Int)) ∧ W.cell? ⟨X, 1, none⟩ = some (.int .i64 (D.ns : Int)) ∧ W.cell? ⟨X, 4, none⟩ = some (.int .i64 (r.at' : Int)) ∧ W.cell? ⟨X, 5, none⟩ = some r.kv ∧
  W.cell? ⟨X, 6, none⟩ = some (.int .i64 r.torn) ∧ W.cell? ⟨X, 7, none⟩ = some (.int .u8 (r.mask : Int)) ∧ W.cell? ⟨X, 8, none⟩ = some (.bool D.down) ∧ W.cell? ⟨X, 9, none⟩ = some (.int .i64 (D.calls : Int)) ∧ W.cell? ⟨X, 10, none⟩ = some (.int .i64 (D.reads : Int))
theorem twinS (h : St w wr (aVar X (rHead D r) 50 :: As)) : TwinS X D r wr :=
  ⟨st_cell h 0, st_cell h 1, st_cell h 4, st_cell h 5, st_cell h 6, st_cell h 7, st_cell h 8, st_cell h 9, st_cell h 10⟩

set_option maxHeartbeats 4000000 in
theorem rtwin_any (h : St w wr (rDev X D :: As)) (hR : D.Room 0) :
    Calls Try.prog 9 #[.pointer (some ⟨X, 0, none⟩)] wr fun e w' => ∃ Y, e = .returned (.pointer (some ⟨Y, 0, none⟩)) ∧ St w w' (rDev Y D :: rDev X D :: As) := by
  obtain ⟨r, a, h1⟩ := rdev_open h
  have HK := Lib.hid a
  have H1 := Lib.hid h1
  have HCL := Lib.hid a.2.2.1.len
  obtain ⟨kao, kc, hkv, hkn⟩ := st_news h1.fourth
  have HE := Lib.hid (st_none h1 3 1)
  have ct : ∀ {W : World} {A : Ast}, St w W (A :: (rParts X D r ++ As)) → TwinS X D r W := fun h => twinS h.swap
  have S0 := Lib.hid (twinS h1)
  have S1 := Lib.hid (ct HE.out)
  obtain ⟨c0, c1, c4, c5, c6, c7, c8, c9, c10⟩ := twinS h1
  obtain ⟨d0, d1, d4, d5, d6, d7, d8, d9, d10⟩ := S1.out
  have HSRC : Hid (0 < r.ks.length → ∃ ad, kao = some ad ∧ ∀ j u, (intsV r.ks)[j]? = some u → (wr.alloc (.cells #[] 3)).drew.cell? (ad.add j) = some u) := Lib.hid fun h => by
    obtain ⟨ad, e, hc⟩ := hkn h
    exact ⟨ad, e, fun j u hj => ((Ch.refl (fun _ => False) wr).alloc _).drew.cell (hc j u hj)⟩
  have HKV0 := Lib.hid hkv
  clear h h1 a hkn hkv
  go_enter Try.func9, Try.ntmps9
  go_wp2_with fail
  go_region_held3 (fun W => W.cell? ⟨X, 0, none⟩ = some (.int .i64 (D.nb : Int)) ∧ W.cell? ⟨X, 1, none⟩ = some (.int .i64 (D.ns : Int)) ∧ W.cell? ⟨X, 4, none⟩ = some (.int .i64 (r.at' : Int)) ∧ W.cell? ⟨X, 5, none⟩ = some r.kv ∧
  W.cell? ⟨X, 6, none⟩ = some (.int .i64 r.torn) ∧ W.cell? ⟨X, 7, none⟩ = some (.int .u8 (r.mask : Int)) ∧ W.cell? ⟨X, 8, none⟩ = some (.bool D.down) ∧ W.cell? ⟨X, 9, none⟩ = some (.int .i64 (D.calls : Int)) ∧ W.cell? ⟨X, 10, none⟩ = some (.int .i64 (D.reads : Int)))
    (first | exact S0.out | exact S1.out | exact S2.out | exact S3.out | go_keep)
    ((refine stp_appendN rowInt (HE.out.drew) (by rfl) _ _ (by rfl) (by rfl) kao r.ks.length kc (intsV r.ks) (by rw [← HKV0.out]; rfl) (by rw [intsV_len, Nat.mul_one]) HSRC.out (ints_one r.ks) (by have := HCL.out; unfold maxLen; omega) (by have := HCL.out; omega) ?_; intro kv' w3 hst hch; rw [Nat.zero_add, List.nil_append] at hst; obtain ⟨kao2, kc2, rfl⟩ := st_shape hst; have HKV := Lib.hid hst; have S2 := Lib.hid (ct hst); clear hst hch))
  have HY := Lib.hid (st_new HKV.out [.int .i64 (D.nb : Int), .int .i64 (D.ns : Int), .slice none 0 0, .slice none 0 0, .int .i64 (r.at' : Int), .slice kao2 r.ks.length kc2, .int .i64 r.torn, .int .u8 (r.mask : Int), .bool D.down, .int .i64 (D.calls : Int), .int .i64 (D.reads : Int)] 50)
  clear HE S0 S1 S2 HSRC HKV0 c0 c1 c4 c5 c6 c7 c8 c9 c10 d0 d1 d4 d5 d6 d7 d8 d9 d10 HKV H1
  generalize (w3.alloc (.cells #[.int .i64 (D.nb : Int), .int .i64 (D.ns : Int), .slice none 0 0, .slice none 0 0, .int .i64 (r.at' : Int), .slice kao2 r.ks.length kc2, .int .i64 r.torn, .int .u8 (r.mask : Int), .bool D.down, .int .i64 (D.calls : Int), .int .i64 (D.reads : Int)] 50)) = Wt at HY ⊢
  generalize w3.heap.size = Y at HY ⊢
  have HE2 := Lib.hid (st_none HY.out 9 1)
  have x2 : _ = some r.sv := st_cell HE2.out.fourth 2
  obtain ⟨sao, sc, hsv, hsn⟩ := st_news HE2.out.fifth
  have HSV := Lib.hid hsv
  have HSN := Lib.hid hsn
  have nbi : D.nb ≤ 4096 := HK.out.1.nb1
  have HNB := Lib.hid nbi
  have HCLEN := Lib.hid (show D.cache.length ≤ 1073741824 from by have := hR.cache; omega)
  rw [hsv] at x2
  clear hsv hsn nbi
  go_wp2_with (first
    | (at_builtin; refine lst_appendN rowStr HE2.out rfl _ _ rfl rfl sao D.nb sc (strs D.safe) rfl (by rw [strs_len, HK.out.1.safe, Nat.mul_one]) HSN.out (strs_one _) (by have := HNB.out; unfold maxLen; omega) (by have := HNB.out; omega) ?_; intro sv2 w4 hst hch; rw [Nat.zero_add, List.nil_append] at hst; obtain ⟨sao2, sc2, rfl⟩ := st_shape hst; have f2 := st_free hst.swap 2; have y2 : _ = some (Value.slice none 0 0) := st_cell hst.swap 2; have H5 := Lib.hid (st_set hst.swap 2 (.slice sao2 D.nb sc2)); have H6 := Lib.hid (st_none H5.out 96 2); rw [World.size_setCell] at H6; have x3 : _ = some r.cv := st_cell H6.out.fifth 3; obtain ⟨cao, cc, hcv, hcn⟩ := st_news H6.out.drop.drop.drop.drop.third; rw [hcv] at x3; have HCN := Lib.hid hcn; clear hst hch hcv hcn)
    | (at_builtin; refine lst_appendN rowWrote H6.out rfl _ _ rfl rfl cao D.cache.length cc (wcells D.cache) rfl (wcells_len _) HCN.out (wcells_one _) (by have := HCLEN.out; unfold maxLen; omega) (by have := HCLEN.out; omega) ?_; intro cv2 w7 hst hch; rw [Nat.zero_add, List.nil_append] at hst; obtain ⟨cao2, cc2, rfl⟩ := st_shape hst; have f3 := st_free hst.swap 3; have y3 : _ = some (Value.slice none 0 0) := st_cell hst.swap 3; have H8 := Lib.hid (st_set hst.swap 3 (.slice cao2 D.cache.length cc2)); clear hst hch))
  go_ret
  have h9 := H8.out.rest fun V k => k.swap
  have h10 : St w _ (rDev Y D :: (rParts X D r ++ As)) := rdev_shut ⟨.slice sao2 D.nb sc2, .slice cao2 D.cache.length cc2, .slice kao2 r.ks.length kc2, r.at', r.ks, r.torn, r.mask⟩ HK.out h9
  exact ⟨Y, rfl, (rdev_shut r HK.out h10.behind).swap⟩
end
end Go.Proofs.Ytkebilddoanhgaa.dev
