/-
  Layer 4, the document's device: Image, New.
-/
import Derived.Test.YtkebilddoanhgaaDevI
namespace Go.Proofs.Ytkebilddoanhgaa.dev
open Go.ChangeShapes Go.WideShapes Go.ChangeAt Go.RowKit mem
set_option linter.unusedVariables false

theorem one1 (b : ByteArray) : ∀ u ∈ [Value.string b], u.oneCell' = true := by
  intro u hu
  simp at hu
  rw [hu]; rfl

section
variable {w wr : World} {As : List Ast} {X : Nat} {D : DevM} {r : RRep}

def imageK (D : DevM) (k : Nat) : List ByteArray := (List.range k).map D.now
theorem imageK_more (D : DevM) (k : Nat) : strs (imageK D k) ++ [.string (D.now k)] = strs (imageK D (k + 1)) := by
  simp [imageK, strs, List.range_succ]

set_option maxHeartbeats 1000000 in
theorem rimage_any (h : St w wr (rDev X D :: As)) (hR : D.Room 0) :
    Calls Try.prog 40 #[.pointer (some ⟨X, 0, none⟩)] wr fun e w' => ∃ v, e = .returned v ∧ St w w' (aRow 9 1 v D.nb (strs D.image) :: rDev X D :: As) := by
  obtain ⟨r, a, h1⟩ := rdev_open h
  have HK := Lib.hid a
  have HST := Lib.hid (st_pushrow (t := 9) (size := 1) h1)
  have HL := Lib.hid (show D.cache.length ≤ 1073741824 by have := hR.cache; omega)
  have nb1 : (D.nb : Int) ≤ 4096 := by have := a.1.nb1; omega
  clear h h1 a hR
  go_enter Try.func40, Try.ntmps40
  go_wp2_with fail
  go_loopw [3, 4] (fun x i W => ∃ k : Nat, k ≤ D.nb ∧ i = .int .i64 ↑k ∧ St w W (aRow 9 1 x k (strs (imageK D k)) :: (rParts X D r ++ As))) (fun _ i _ => D.nb - (intOf i).toNat)
  case atStart => exact ⟨0, Nat.zero_le _, rfl, HST.out⟩
  case round =>
    rename_i x i
    obtain ⟨k, hk, rfl, h1⟩ := hrel
    have hS := rsees HK.out h1.drop
    have c0 := hS.c0
    by_cases hlt : k < D.nb
    · have HN := Lib.hid (rnow_any X D r k wr HK.out.1 hS hlt HL.out)
      have HA := Lib.hid (h1.alloc (.cells #[.string (D.now k)] 9))
      have HM := Lib.hid (imageK_more D k)
      have k0 : (0 : Int) ≤ k := by omega
      clear hS h1 HST
      go_wp2_with (first
        | (go_at_call 57; refine HN.out.mono ?_; rintro e w' ⟨rfl, rfl⟩)
        | (at_builtin; refine lst_append rowStr HA.out rfl _ _ rfl rfl ⟨wr.heap.size, 0, none⟩ 1 1 [.string (D.now k)] rfl rfl (lit1 _ _ _) (one1 _) (by decide) (by unfold maxLen; omega) (by omega) ?_; intro g cap w3 hst3 hch3; rw [HM.out] at hst3; have HST3 := Lib.hid hst3; clear hst3 hch3))
      go_roundw
      case rel => exact ⟨k + 1, by omega, by go_num, HST3.out⟩
      case measure => simp [intOf] <;> omega
    · obtain rfl : k = D.nb := by omega
      have H1 := Lib.hid h1
      clear hS h1 HST hlt hk
      go_wp2_with fail
      go_ret
      exact ⟨_, rfl, (rdev_shut r HK.out H1.out.behind).swap⟩

/-- a device that is made, some of its blocks laid -/
def newK (nb ns k : Nat) (sv : Value) (X : Nat) : List Ast :=
  [aVar X [.int .i64 (nb : Int), .int .i64 (ns : Int), sv, .slice none 0 0, .int .i64 0, .slice none 0 0, .int .i64 0, .int .u8 0, .bool false, .int .i64 0, .int .i64 0] 50, aRow 9 1 sv k (strs (List.replicate k (noughts (512 * ns))))]
theorem new_shut {W : World} {nb ns : Nat} {sv : Value} (g : geoOk nb ns) (h : St w W (newK nb ns nb sv X ++ As)) : St w W (rDev X (DevM.new nb ns) :: As) := by
  have h1 := (st_pushrow (t := 3) (size := 1) (st_pushrow (t := 96) (size := 2) h))
  have h2 : St w W (aVar X (rHead (DevM.new nb ns) ⟨sv, .slice none 0 0, .slice none 0 0, 0, [], 0, 0⟩) 50 :: aRow 9 1 sv nb (strs (List.replicate nb (noughts (512 * ns)))) :: aRow 96 2 (.slice none 0 0) 0 [] :: aRow 3 1 (.slice none 0 0) 0 [] :: As) := by
    have h3 := h1.fourth.fourth
    exact h3.rest fun V k => k.tail fun V k => k.swap
  refine rdev_shut (D := DevM.new nb ns) ⟨sv, .slice none 0 0, .slice none 0 0, 0, [], 0, 0⟩ ⟨new_ok g, .inl ⟨rfl, rfl⟩, ⟨fun k hk => (by cases hk), (by show 0 ≤ _; omega), (show InI64 0 by unfold InI64; omega), (by show 0 < 256; omega)⟩, (by show 0 ≤ _; omega)⟩ h2

theorem rnew_bad (h : St w wr As) (b s : Int) (g : ¬ geoOk b s) :
    Calls Try.prog 5 #[.agg #[.int .i64 b, .int .i64 s]] wr fun e w' => e = .returned (.tuple #[.pointer none, .int .i64 1]) ∧ St w w' As := by
  have HC := Lib.hid fun W => rcheck_any b s W
  simp only [if_neg g] at HC
  have HA := Lib.hid (h.alloc (.cells #[.int .i64 b, .int .i64 s] 23))
  clear h g
  go_enter Try.func5, Try.ntmps5
  go_wp2_with (go_at_call 7; refine (HC.out _).mono ?_; rintro e w' ⟨rfl, hc⟩)
  go_ret2
  exact ⟨rfl, HA.out.same hc⟩

theorem made_at (n i : Nat) (h : i < n) : (madeCells #[Value.int .u8 0] n)[i]? = some (.int .u8 0) := by
  have := congrArg (·[i]?) (toList_madeCells_one (Value.int .u8 0) n)
  simp only [Array.getElem?_toList] at this
  rw [this, List.getElem?_replicate, if_pos h]
theorem make8 (n : Nat) (hn : n ≤ 4096) (W : World) : (Instr.makeSlice 61 (.int .i64 (n : Int)) (.int .i64 (n : Int))).run Try.prog W = .ok (.slice (some ⟨W.heap.size, 0, none⟩) n n) (W.alloc (.cells (madeCells #[.int .u8 0] n) 5)) := by
  obtain ⟨i, hi, hz, h1, h2⟩ := info_parts (show (Try.prog.info? 5).map (fun i => (i.zero, i.size, i.bytes)) = some (some (.int .u8 0), 1, 1) by kernel_rfl)
  have := run_make (P := Try.prog) W 61 5 i (.int .u8 0) Try.underlying61 hi hz .i64 .i64 n n (by omega) (by omega) (by rw [h2]; omega) (by omega)
  rw [Int.toNat_natCast, h1, Nat.mul_one] at this
  exact this
theorem text8 (n B : Nat) (W : World) (h : W.heap[B]? = some (.cells (madeCells #[.int .u8 0] n) 5 (0, 0))) : (convert 61 9 (.slice (some ⟨B, 0, none⟩) n n)).run Try.prog W = .ok (.string (noughts n)) W := by
  have := run_convert_bytes_back (P := Try.prog) W 61 9 5 ⟨B, 0, none⟩ n (List.replicate n (0 : UInt8)) Try.underlying61 Try.underlying5 Try.underlying9 (fun j hj => by
    rw [Addr.add_mid, Nat.zero_add, cell_of_row _ _ _ _ _ _ h, made_at n j (by simpa using hj)]
    simp)
  rw [List.length_replicate] at this
  exact this
theorem lit1b (W : World) (o : Obj) (z : Value) (t : TypeId) : ∀ j u, [z][j]? = some u → ((W.alloc o).alloc (.cells #[z] t)).drew.cell? ((⟨W.heap.size + 1, 0, none⟩ : Addr).add j) = some u := by
  intro j u hj
  have hb := heap_alloc_new (W.alloc o) (.cells #[z] t)
  rw [show (W.alloc o).heap.size = W.heap.size + 1 from by simp] at hb
  rw [Addr.add_mid, Nat.zero_add]
  show ((W.alloc o).alloc (.cells #[z] t)).cell? _ = _
  rw [cell_of_row _ _ _ _ _ _ hb]
  simpa using hj

theorem new_more {W : World} {nb ns k : Nat} {sv sv' : Value} {Bs : List Ast} (h : St w W (aRow 9 1 sv' (k + 1) (strs (List.replicate k (noughts (512 * ns))) ++ [.string (noughts (512 * ns))]) :: aVar X [.int .i64 (nb : Int), .int .i64 (ns : Int), sv, .slice none 0 0, .int .i64 0, .slice none 0 0, .int .i64 0, .int .u8 0, .bool false, .int .i64 0, .int .i64 0] 50 :: Bs)) :
    St w (W.setCell ⟨X, 2, none⟩ sv') (newK nb ns (k + 1) sv' X ++ Bs) := by
  have e : strs (List.replicate k (noughts (512 * ns))) ++ [.string (noughts (512 * ns))] = strs (List.replicate (k + 1) (noughts (512 * ns))) := by
    rw [List.replicate_succ']; simp [strs]
  rw [e] at h
  exact st_set h.swap 2 sv'

set_option maxHeartbeats 1000000 in
theorem rnew_ok (h : St w wr As) (nb ns : Nat) (g : geoOk nb ns) :
    Calls Try.prog 5 #[.agg #[.int .i64 (nb : Int), .int .i64 (ns : Int)]] wr fun e w' => ∃ X, e = .returned (.tuple #[.pointer (some ⟨X, 0, none⟩), .int .i64 0]) ∧ St w w' (rDev X (DevM.new nb ns) :: As) := by
  have HC := Lib.hid fun W => rcheck_any nb ns W
  simp only [if_pos g] at HC
  have HG := Lib.hid g
  have HA := Lib.hid (st_new h [.int .i64 (nb : Int), .int .i64 (ns : Int)] 23)
  obtain ⟨g1, g2, g3, g4⟩ := g
  clear h
  go_enter Try.func5, Try.ntmps5
  go_wp2_with fail
  refine (HC.out _).mono ?_
  rintro e w1 ⟨rfl, hc⟩
  have HB := Lib.hid (HA.out.same hc)
  have b0 : _ = some (Value.int .i64 (nb : Int)) := st_cell HB.out 0
  have b1 : _ = some (Value.int .i64 (ns : Int)) := st_cell HB.out 1
  generalize wr.heap.size = P at HB b0 b1 ⊢
  clear hc HA HC
  go_wp2_with fail
  have HX := Lib.hid ((st_pushrow (t := 9) (size := 1) (st_new HB.out [.int .i64 (nb : Int), .int .i64 (ns : Int), .slice none 0 0, .slice none 0 0, .int .i64 0, .slice none 0 0, .int .i64 0, .int .u8 0, .bool false, .int .i64 0, .int .i64 0] 50)).swap)
  generalize w1.heap.size = X at HX ⊢
  go_loopw [5] (fun i W => ∃ k : Nat, k ≤ nb ∧ i = .int .i64 ↑k ∧ ∃ sv, St w W (newK nb ns k sv X ++ aVar P [.int .i64 (nb : Int), .int .i64 (ns : Int)] 23 :: As)) (fun i _ => nb - (intOf i).toNat)
  case atStart => exact ⟨0, Nat.zero_le _, rfl, _, HX.out⟩
  case round =>
    obtain ⟨k, hk, rfl, sv, h1⟩ := hrel
    have c0 : _ = some (Value.int .i64 (nb : Int)) := st_cell h1.third 0
    have c1 : _ = some (Value.int .i64 (ns : Int)) := st_cell h1.third 1
    have x2 : _ = some sv := st_cell h1 2
    have f2 := st_free h1 2
    by_cases hlt : k < nb
    · have e1 : IntKind.i64.wrap (512 * (ns : Int)) = 512 * (ns : Int) := IntWalk.i64_in _ (by omega)
      have n0 : (0 : Int) ≤ 512 * (ns : Int) := by omega
      have H1 := Lib.hid h1
      clear h1 HX HB
      go_wp2_with fail
      have mk := make8 (512 * ns) (by omega)
      rw [show ((512 * ns : Nat) : Int) = 512 * (ns : Int) from by simp] at mk
      have tx := text8 (512 * ns) wr.heap.size (wr.alloc (.cells (madeCells #[.int .u8 0] (512 * ns)) 5)).drew (heap_alloc_new wr _)
      have x2a := ((Ch.refl (fun _ => False) wr).alloc (.cells (madeCells #[.int .u8 0] (512 * ns)) 5)).cell x2
      have x2b := (((Ch.refl (fun _ => False) wr).alloc (.cells (madeCells #[.int .u8 0] (512 * ns)) 5)).alloc (.cells #[.string (noughts (512 * ns))] 9)).cell x2
      go_region_law ((refine stp_append rowStr (((H1.out.swap.alloc (.cells (madeCells #[.int .u8 0] (512 * ns)) 5)).alloc (.cells #[.string (noughts (512 * ns))] 9)).drew) (by rfl) _ _ (by rfl) (by rfl) ⟨wr.heap.size + 1, 0, none⟩ 1 1 [.string (noughts (512 * ns))] (by rfl) rfl (lit1b wr _ _ _) (one1 _) (by decide) (by unfold maxLen; omega) (by omega) ?_); intro g cap w3 hst hch; have HST := Lib.hid hst; have u2 : _ = some sv := st_cell hst.swap 2; have u1 : _ = some (Value.int .i64 (ns : Int)) := st_cell hst.third 1; have q2 := st_free hst.swap 2; clear hst hch)
      all_goals
        go_wp2_with fail
        go_roundw
        case rel => exact ⟨k + 1, by omega, by go_num, _, new_more HST.out⟩
        case measure => simp [intOf] <;> omega
    · obtain rfl : k = nb := by omega
      have H1 := Lib.hid h1
      clear h1 HX HB hlt hk
      go_wp2_with fail
      go_ret2
      exact ⟨X, rfl, (new_shut HG.out (As := aVar P _ _ :: As) H1.out).swap.drop⟩
end
end Go.Proofs.Ytkebilddoanhgaa.dev
