/-
  Layer 4, the program's New.
-/
import Derived.Test.YtoiankgafclbdaaDoorDrvL
namespace Go.Proofs.YtoiankgafclbdaaDoor.dev
open Go.ChangeShapes Go.WideShapes Go.ChangeAt Go.RowKit mem
set_option linter.unusedVariables false

section
variable {w wr : World} {As : List Ast} {X : Nat} {D : DevM} {r : PRep}

theorem pnew_bad (h : St w wr As) (b s : Int) (hb : InI64 b) (hs : InI64 s) (hg : ¬ geoOk b s) :
    Calls Tryd.prog 14 #[.agg #[.int .i64 b, .int .i64 s]] wr fun e w' => e = .returned (.tuple #[.pointer none, .int .i64 1]) ∧ St w w' As := by
  have HC := Lib.hid (pcheck_any (h.alloc (.cells #[.int .i64 b, .int .i64 s] 36)) b s)
  rw [if_neg hg] at HC
  clear h hb hs hg
  go_enter Tryd.func14, Tryd.ntmps14
  go_wp2_with (go_at_call 41; refine HC.out.mono ?_; rintro e w' ⟨rfl, h1⟩; have H1 := Lib.hid h1; clear h1)
  go_ret2
  exact ⟨rfl, H1.out⟩

def newR (sv : Value) (mb : Nat) : PRep := ⟨0, .slice none 0 0, [], 0, 0, sv, mb, 0, fun _ => .slice none 0 0, []⟩
theorem new_end {W : World} {nb ns mb : Nat} {sv : Value} {G : Ast} (h : St w W (aVar X (pHead (DevM.new nb ns) (newR sv mb)) 90 :: aMap mb 0 (fun _ => none) :: aRow 9 1 sv nb (strs (List.replicate nb (noughts (512 * ns)))) :: G :: As)) :
    St w W (pParts X (DevM.new nb ns) (newR sv mb) ++ As) := by
  have h1 := h.third.swap
  have h2 := st_norows h1 (pRow (DevM.new nb ns) (newR sv mb)) (fun n => ⟨World.ownsRow_nil _ _ _ _, fun g => by simp [newR, Value.ownBlock]⟩) (List.range nb)
  have h3 := St.behind (As := [_, _, _]) h2
  have h4 : St w W (_ :: _ :: _ :: _ :: As) := h3.fifth.drop
  have h5 : St w W (aShare 3 1 (.slice none 0 0) 0 [] [] :: _) := st_share (st_pushrow h4)
  have h6 := St.behind (As := [_, _, _, _]) h5
  have e : mapV (DevM.new nb ns) (newR sv mb) = fun _ => none := by funext n; simp [mapV, DevM.new, DevM.ws, wsFrom]
  unfold pParts
  rw [e]
  exact h6
theorem new_known {nb ns : Nat} (hg : geoOk nb ns) (sv : Value) (mb : Nat) : PKnown (DevM.new nb ns) (newR sv mb) :=
  ⟨new_ok hg, .inl ⟨rfl, rfl⟩, crash0, Nat.zero_le _, Nat.le_refl _, fun n _ => rfl⟩

set_option maxRecDepth 8000 in
set_option maxHeartbeats 1000000 in
theorem pnew_ok (h : St w wr As) (nb ns : Nat) (hg : geoOk nb ns) :
    Calls Tryd.prog 14 #[.agg #[.int .i64 (nb : Int), .int .i64 (ns : Int)]] wr fun e w' => ∃ X, e = .returned (.tuple #[pt X, .int .i64 0]) ∧ St w w' (pDev X (DevM.new nb ns) :: As) := by
  have h1 := st_new h [.int .i64 (nb : Int), .int .i64 (ns : Int)] 36
  have HC := Lib.hid (pcheck_any h1 nb ns)
  rw [if_pos hg] at HC
  have HG := Lib.hid hg
  obtain ⟨g1, g2, g3, g4⟩ := hg
  have hrep : ∀ W, Calls Tryd.prog 42 #[.string ⟨#[0]⟩, .int .i64 ((ns : Int) * 512)] W fun e w' => e = .returned (.string (noughts (512 * ns))) ∧ Below W.heap.size W w' := fun W => by
    have := Tryd.strings_Repeat ⟨#[0]⟩ (512 * ns) W (by omega) (by show 1 * (512 * ns) ≤ _; omega)
    rw [repeat_nought, show ((512 * ns : Nat) : Int) = (ns : Int) * 512 from by omega] at this
    exact this
  have HREP := Lib.hid hrep
  have e1 : IntKind.i64.wrap ((ns : Int) * 512) = (ns : Int) * 512 := IntWalk.i64_in _ (by omega)
  have hmm := @run_makeMap Tryd.prog
  have HN := Lib.hid (show 16 ≤ nb ∧ nb ≤ 4096 by omega)
  clear h h1 hrep g1 g2 g3 g4
  go_enter Tryd.func14, Tryd.ntmps14
  go_wp2_with (first
    | (go_at_call 41; refine HC.out.mono ?_; rintro e w1 ⟨rfl, h1⟩; have H1 := Lib.hid h1; have x0 : _ = some (Value.int .i64 (nb : Int)) := st_cell h1 0; have x1 : _ = some (Value.int .i64 (ns : Int)) := st_cell h1 1; clear h1)
    | (go_at_call 42; refine (HREP.out _).mono ?_; rintro e w2 ⟨rfl, hb⟩; have h2 := (H1.out.same (Ch.of_below hb)).alloc (.cells #[.string (noughts (512 * ns))] 9); have H2 := Lib.hid h2; have y0 : _ = some (Value.int .i64 (nb : Int)) := st_cell h2 0; have y1 : _ = some (Value.string (noughts (512 * ns))) := st_cell (st_new (H1.out.same (Ch.of_below hb)) [.string (noughts (512 * ns))] 9) 0; clear h2 hb)
    | (go_at_call 43; refine (prepeat_any H2.out _ nb (noughts (512 * ns)) y1 HN.out.1 HN.out.2).mono ?_; rintro e w3 ⟨v, rfl, h3⟩; obtain ⟨ao, cap, rfl⟩ := st_shape h3; have H3 := Lib.hid (st_mapnew h3); clear h3))
  go_ret2
  have h4 := st_new H3.out [.int .i64 0, .slice none 0 0, .int .i64 0, .int .u8 0, .int .i64 ((ns : Int) * 512), .slice ao nb cap, .map (some w3.heap.size), .int .i64 0, .bool false, .int .i64 0, .int .i64 0] 90
  have e2 : ((ns : Int) * 512) = ((512 * ns : Nat) : Int) := by omega
  rw [e2, World.size_alloc] at h4
  refine ⟨_, rfl, pdev_shut (newR (.slice ao nb cap) w3.heap.size) (new_known HG.out _ _) ?_⟩
  rw [e2]
  exact new_end h4
end
end Go.Proofs.YtoiankgafclbdaaDoor.dev
