/-
  Layer 4, the law's own: a crash as it is handed in, with a mark behind.
-/
import Derived.Test.YtjmjmekmaamclaaDoorDevQ
namespace Go.Proofs.YtjmjmekmaamclaaDoor.dev
open Go.ChangeShapes Go.WideShapes Go.ChangeAt Go.RowKit mem
set_option linter.unusedVariables false

theorem one987 : ∀ u ∈ [Value.int .i64 987], u.oneCell' = true := by
  intro u hu; rw [List.mem_singleton] at hu; subst hu; rfl
theorem cell987 {w wr : World} {As : List Ast} {A : Ast} {B : Nat} {E : TypeId} (h : St w wr (A :: aVar B [.int .i64 987] E :: As)) : ∀ j u, [Value.int .i64 987][j]? = some u → wr.cell? ((⟨B, 0, none⟩ : Addr).add j) = some u := by
  intro j u hj
  rw [Addr.add_mid, Nat.zero_add, st_cell h.swap j]
  exact hj
theorem size57 : (Tryd.prog.info? 53).map (·.size) = some 3 := by kernel_rfl
theorem elI : Tryd.prog.elem 46 = 3 := by kernel_rfl
theorem sizeI (W : World) : (sizeOf (Tryd.prog.elem 46)).run Tryd.prog W = .ok 1 W := by
  rw [elI]
  kernel_rfl
theorem cut_row (g len n cap : Nat) (h : n < cap) (W : World) :
    (Instr.slice 46 (.slice (some ⟨g, 0, none⟩) len cap) none (some (.int .i64 (n : Int))) none).run Tryd.prog W = .ok (.slice (some ⟨g, 0, none⟩) n cap) W := by
  have := run_slice_h (P := Tryd.prog) (w := W) 46 (some ⟨g, 0, none⟩) len cap (by rw [elI]; exact Tryd.underlying46) .i64 (n : Int) (by omega) (by omega)
  rw [this, sizeI W]
  show Result.ok (sliced (some ⟨g, 0, none⟩) 0 (n : Int).toNat cap 1) W = _
  rw [Int.toNat_natCast]
  unfold sliced
  rw [if_neg (by omega)]
  rfl
section
variable {w wr : World} {As : List Ast}
/-- the ints that were handed in, with a mark behind -/
abbrev aKeep (g cap : Nat) (ks : List Int) : Ast := aRow 3 1 (.slice (some ⟨g, 0, none⟩) (ks.length + 1) cap) (ks.length + 1) (intsV ks ++ [.int .i64 987])

end
end Go.Proofs.YtjmjmekmaamclaaDoor.dev
