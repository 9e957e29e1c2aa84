/-
  Layer 4, the program's closures: what a block has, by what was written last; by what survives.
-/
import Derived.Test.YtjmjmekmaamclaaDoorDrvA
namespace Go.Proofs.YtjmjmekmaamclaaDoor.dev
open Go.ChangeShapes Go.WideShapes Go.ChangeAt Go.RowKit mem
set_option linter.unusedVariables false

theorem sep_mem {W : World} {α : Type} {f : α → Ast} : ∀ {L : List α} {U : Tok → Prop}, Sep W (L.map f) U → ∀ x ∈ L, ∃ F, (f x).p W F
  | [], _, _, x, hx => by cases hx
  | a :: L, U, ⟨F, V, h1, h2, _, _⟩, x, hx => by
    rcases List.mem_cons.1 hx with rfl | hx
    · exact ⟨F, h1⟩
    · exact sep_mem h2 x hx

/-- the parts of a device whose safe blocks are s and whose map is the object M -/
def pPartsG (X : Nat) (D : DevM) (r : PRep) (s : List ByteArray) (M : Ast) : List Ast :=
  [aVar X (pHead D r) 90, aRow 9 1 r.sv D.nb (strs s), M, aMany (pRows D r), aShare 3 1 r.kv r.ks.length (intsV r.ks) r.q]

/-- what a closure sees of it -/
structure CSees (W : World) (X : Nat) (D : DevM) (r : PRep) (s : List ByteArray) : Prop where
  c5 : W.cell? ⟨X, 5, none⟩ = some r.sv
  c6 : W.cell? ⟨X, 6, none⟩ = some (.map (some r.mb))
  c7 : W.cell? ⟨X, 7, none⟩ = some (.int .i64 (D.cache.length : Int))
  hs : ∃ g cap, r.sv = .slice (some ⟨g, 0, none⟩) D.nb cap ∧ ∀ i, i < D.nb → W.cell? ⟨g, i, none⟩ = some (.string (s.getD i empty))
  map : MapAt W r.mb r.mc (mapV D r)
  rows : ∀ n, n < D.nb → W.ownsRow 0 132 2 (r.rv n) (D.ws n).length (wcells (D.ws n))
theorem CSees.ch {W W' : World} {X : Nat} {D : DevM} {r : PRep} {s : List ByteArray} (h : CSees W X D r s) (hc : Ch (fun _ => False) W W') : CSees W' X D r s where
  c5 := hc.cell h.c5
  c6 := hc.cell h.c6
  c7 := hc.cell h.c7
  hs := by obtain ⟨g, cap, hv, k⟩ := h.hs; exact ⟨g, cap, hv, fun i hi => hc.cell (k i hi)⟩
  map := h.map.ch hc fun h => h
  rows := fun n hn => row_kept (h.rows n hn) hc fun _ _ h => h
theorem csees {w wr : World} {As : List Ast} {X : Nat} {D : DevM} {r : PRep} {s : List ByteArray} {M : Ast} (a : PKnown D r) (hl : s.length = D.nb) (hM : ∀ F, M.p wr F → MapAt wr r.mb r.mc (mapV D r)) (h : St w wr (pPartsG X D r s M ++ As)) : CSees wr X D r s where
  c5 := st_cell h 5
  c6 := st_cell h 6
  c7 := st_cell h 7
  hs := by
    have h1 := h.swap
    obtain ⟨g, cap, hv, _⟩ := st_form h1 (by have := a.ok.nb0; omega)
    refine ⟨g, cap, hv, fun i hi => ?_⟩
    rw [st_at h1 hv i (by omega)]
    exact strs_at _ _ (by omega)
  map := by obtain ⟨F, h⟩ := h.third.get; exact hM F h
  rows := fun n hn => by
    obtain ⟨F, h⟩ := h.fourth.get
    obtain ⟨F', h', _⟩ := sep_mem h n (List.mem_range.2 hn)
    exact h'
theorem mapV_get {D : DevM} {r : PRep} (a : PKnown D r) (n : Nat) : (mapV D r n).getD (.slice none 0 0) = r.rv n := by
  unfold mapV
  by_cases e : D.ws n = []
  · rw [if_pos e, a.none n e]; rfl
  · rw [if_neg e]; rfl
/-- a row's shape, and its cells -/
theorem row_shape {W : World} {D : DevM} {r : PRep} {n : Nat} (h : W.ownsRow 0 132 2 (r.rv n) (D.ws n).length (wcells (D.ws n))) (hn : 0 < (D.ws n).length) :
    ∃ g cap, r.rv n = .slice (some ⟨g, 0, none⟩) (D.ws n).length cap ∧ ∀ i (hi : i < (D.ws n).length), W.cell? ⟨g, i * 2, none⟩ = some (.int .i64 (((D.ws n)[i]).1 : Int)) ∧ W.cell? ⟨g, i * 2 + 1, none⟩ = some (.string ((D.ws n)[i]).2) := by
  rcases h.2 with ⟨_, h2⟩ | ⟨g, cap, cur, hv, hb, hh, c1, hr⟩
  · omega
  · refine ⟨g, cap, hv, fun i hi => ?_⟩
    rw [hv] at h
    obtain ⟨w1, w2⟩ := wcells_at (D.ws n) i hi
    exact ⟨by rw [h.cellAt (i * 2) (by omega)]; exact w1, by rw [h.cellAt (i * 2 + 1) (by omega)]; exact w2⟩

set_option maxRecDepth 8000 in
set_option maxHeartbeats 1000000 in
theorem pnewest1_any {W : World} {X P : Nat} {D : DevM} {r : PRep} {s : List ByteArray} (S : CSees W X D r s) (a : PKnown D r) (hP : W.cell? ⟨P, 0, none⟩ = some (pt X)) (n : Nat) (hn : n < D.nb) (hl : D.cache.length ≤ 1073741824) :
    Calls Tryd.prog 73 #[.int .i64 (n : Int), .pointer (some ⟨P, 0, none⟩)] W fun e w' => e = .returned (.string (lastOf (D.ws n) (s.getD n empty))) ∧ W = w' := by
  have c6 := S.c6
  have hlk : (Instr.lookup 86 (.map (some r.mb)) (.int .i64 (n : Int)) false).run Tryd.prog W = .ok (r.rv n) W := by
    have := map_look S.map Tryd.underlying86 (Tryd.zeroValue130 W) n (by have := a.ok.nb1; omega)
    rw [mapV_get a n] at this
    exact this
  by_cases e : D.ws n = []
  · rw [a.none n e] at hlk
    have c5 := S.c5
    obtain ⟨g, cap, hv, hg⟩ := S.hs
    rw [hv] at c5
    have hc := hg n hn
    have n0 : (0 : Int) ≤ n := by omega
    have n1 : (n : Int) < D.nb := by omega
    rw [e]
    have nb1 : (D.nb : Int) ≤ 4096 := by have := a.ok.nb1; omega
    clear S a hl e hg hn
    go_enter Tryd.func73, Tryd.ntmps73
    go_wp2_with fail
    go_ret
    exact ⟨rfl, rfl⟩
  · have hpos : 0 < (D.ws n).length := by
      rcases h : D.ws n with _ | ⟨x, l⟩
      · exact absurd h e
      · simp
    obtain ⟨g, cap, hv, hg⟩ := row_shape (S.rows n hn) hpos
    rw [hv] at hlk
    have hd := (hg ((D.ws n).length - 1) (by omega)).2
    have hle := ws_len n D.cache 0
    rw [lastOf_get _ _ hpos]
    generalize (D.ws n)[(D.ws n).length - 1].2 = dt at hd
    have hk : (D.ws n).length ≤ 1073741824 := by show (wsFrom n 0 D.cache).length ≤ _; omega
    obtain ⟨k, hk2⟩ : ∃ k, (D.ws n).length = k + 1 := ⟨(D.ws n).length - 1, by omega⟩
    rw [hk2] at hlk hd hk
    rw [show k + 1 - 1 = k from by omega] at hd
    have k0 : (0 : Int) ≤ k := by omega
    have k1 : (k : Int) ≤ 1073741823 := by omega
    have e1 : ((k : Int) + 1 == 0) = false := by rw [beq_eq_false_iff_ne]; omega
    have e2 : IntKind.i64.wrap (k : Int) = (k : Int) := by rw [IntKind.wrap_i64]; omega
    clear S a hl e hg hn hle hpos hv hk2 hk
    go_enter Tryd.func73, Tryd.ntmps73
    go_wp2_with fail
    go_ret
    exact ⟨rfl, rfl⟩
end Go.Proofs.YtjmjmekmaamclaaDoor.dev
