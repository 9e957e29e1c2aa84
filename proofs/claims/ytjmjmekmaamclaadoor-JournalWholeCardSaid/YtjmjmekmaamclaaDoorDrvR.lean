/-
  Layer 4, the program's device in memory; Check, Blocks, Size, Down, Calls, Reads, Unflushed, refused, there, Restart, counted.
-/
import Derived.Test.YtjmjmekmaamclaaDoorHA
import Derived.Test.YtjmjmekmaamclaaDoorDrvM
import Derived.Test.YtjmjmekmaamclaaDoorDevS
import Derived.Test.YtjmjmekmaamclaaDoorDevC
import Derived.Outline
namespace Go.Proofs.YtjmjmekmaamclaaDoor.dev
open Go.ChangeShapes Go.WideShapes Go.ChangeAt Go.RowKit mem
set_option linter.unusedVariables false

structure PRep where
  left : Nat
  kv : Value
  ks : List Int
  torn : Int
  mask : Nat
  sv : Value
  mb : Nat
  mc : Nat
  rv : Nat → Value
  q : List Bool
def pHead (D : DevM) (r : PRep) : List Value :=
  [.int .i64 (r.left : Int), r.kv, .int .i64 r.torn, .int .u8 (r.mask : Int), .int .i64 (512 * D.ns : Nat), r.sv, .map (some r.mb), .int .i64 (D.cache.length : Int), .bool D.down, .int .i64 (D.calls : Int), .int .i64 (D.reads : Int)]
/-- the writes of each block, as the map has them -/
def mapV (D : DevM) (r : PRep) (n : Nat) : Option Value := if D.ws n = [] then none else some (r.rv n)
/-- the writes of block n -/
def pRow (D : DevM) (r : PRep) (n : Nat) : Ast := aRow 132 2 (r.rv n) (D.ws n).length (wcells (D.ws n))
def pRows (D : DevM) (r : PRep) : List Ast := (List.range D.nb).map (pRow D r)
def pParts (X : Nat) (D : DevM) (r : PRep) : List Ast :=
  [aVar X (pHead D r) 90, aRow 9 1 r.sv D.nb (strs D.safe), aMap r.mb r.mc (mapV D r), aMany (pRows D r), aShare 3 1 r.kv r.ks.length (intsV r.ks) r.q]
structure PKnown (D : DevM) (r : PRep) : Prop where
  ok : D.Ok
  plan : PlanIs D.plan r.left r.ks r.torn r.mask
  crash : CrashOk r.ks r.torn r.mask
  left : r.left ≤ 9223372036854775807
  mc : r.mc ≤ D.cache.length
  none : ∀ n, D.ws n = [] → r.rv n = .slice Option.none 0 0
/-- the program's device at block X -/
def pDev (X : Nat) (D : DevM) : Ast := aEx fun r => aAnd (PKnown D r) (aMany (pParts X D r))

section
variable {w wr : World} {As : List Ast} {X : Nat} {D : DevM} {r : PRep}
theorem pdev_open (h : St w wr (pDev X D :: As)) : ∃ r, PKnown D r ∧ St w wr (pParts X D r ++ As) := by
  obtain ⟨r, h⟩ := h.open'
  obtain ⟨a, h⟩ := h.know
  exact ⟨r, a, h.append⟩
theorem pdev_shut (r : PRep) (a : PKnown D r) (h : St w wr (pParts X D r ++ As)) : St w wr (pDev X D :: As) := (h.gather.tell a).shut r

/-- what a walk reads of its head -/
structure PSees (W : World) (X : Nat) (D : DevM) (r : PRep) : Prop where
  c0 : W.cell? ⟨X, 0, none⟩ = some (.int .i64 (r.left : Int))
  c1 : W.cell? ⟨X, 1, none⟩ = some r.kv
  c2 : W.cell? ⟨X, 2, none⟩ = some (.int .i64 r.torn)
  c3 : W.cell? ⟨X, 3, none⟩ = some (.int .u8 (r.mask : Int))
  c4 : W.cell? ⟨X, 4, none⟩ = some (.int .i64 (512 * D.ns : Nat))
  c5 : W.cell? ⟨X, 5, none⟩ = some r.sv
  c6 : W.cell? ⟨X, 6, none⟩ = some (.map (some r.mb))
  c7 : W.cell? ⟨X, 7, none⟩ = some (.int .i64 (D.cache.length : Int))
  c8 : W.cell? ⟨X, 8, none⟩ = some (.bool D.down)
  c9 : W.cell? ⟨X, 9, none⟩ = some (.int .i64 (D.calls : Int))
  c10 : W.cell? ⟨X, 10, none⟩ = some (.int .i64 (D.reads : Int))
  fr : ∀ i, W.frozen? ⟨X, i, none⟩ = false
  hs : ∃ g cap, r.sv = .slice (some ⟨g, 0, none⟩) D.nb cap ∧ ∀ i, i < D.nb → W.cell? ⟨g, i, none⟩ = some (.string (D.safe.getD i empty))
theorem psees (a : PKnown D r) (h : St w wr (pParts X D r ++ As)) : PSees wr X D r where
  c0 := st_cell h 0
  c1 := st_cell h 1
  c2 := st_cell h 2
  c3 := st_cell h 3
  c4 := st_cell h 4
  c5 := st_cell h 5
  c6 := st_cell h 6
  c7 := st_cell h 7
  c8 := st_cell h 8
  c9 := st_cell h 9
  c10 := st_cell h 10
  fr := st_free h
  hs := by
    have h1 := h.swap
    obtain ⟨g, cap, hv, _⟩ := st_form h1 (by have := a.ok.nb0; omega)
    refine ⟨g, cap, hv, fun i hi => ?_⟩
    rw [st_at h1 hv i (by omega)]
    exact strs_at _ _ (by rw [a.ok.safe]; exact hi)

theorem pknown_like {E : DevM} {q : PRep} (a : PKnown D r) (h1 : E.nb = D.nb) (h2 : E.ns = D.ns) (h3 : E.safe = D.safe) (h4 : E.cache = D.cache) (h5 : E.plan = D.plan) : PKnown E r :=
  ⟨a.ok.like h1 h2 h3 h4 h5, by rw [h5]; exact a.plan, a.crash, a.left, by rw [h4]; exact a.mc, by unfold DevM.ws; rw [h4]; exact a.none⟩

theorem pcheck_any (h : St w wr As) (b s : Int) : Calls Tryd.prog 41 #[.agg #[.int .i64 b, .int .i64 s]] wr fun e w' => e = .returned (.int .i64 (if geoOk b s then 0 else 1)) ∧ St w w' As := by
  by_cases c : geoOk b s
  · rw [if_pos c]
    obtain ⟨h1, h2, h3, h4⟩ := c
    go_enter Tryd.func41, Tryd.ntmps41
    go_wp2_with fail
    go_ret
    exact ⟨rfl, h.alloc _⟩
  · rw [if_neg c]
    by_cases c1 : b < 16
    · clear c
      go_enter Tryd.func41, Tryd.ntmps41
      go_wp2_with fail
      go_ret
      exact ⟨rfl, h.alloc _⟩
    · by_cases c2 : 4096 < b
      · clear c
        go_enter Tryd.func41, Tryd.ntmps41
        go_wp2_with fail
        go_ret
        exact ⟨rfl, h.alloc _⟩
      · by_cases c3 : s < 1
        · clear c
          go_enter Tryd.func41, Tryd.ntmps41
          go_wp2_with fail
          go_ret
          exact ⟨rfl, h.alloc _⟩
        · have c4 : 8 < s := by unfold geoOk at c; omega
          clear c
          go_enter Tryd.func41, Tryd.ntmps41
          go_wp2_with fail
          go_ret
          exact ⟨rfl, h.alloc _⟩

theorem psize_any (h : St w wr (pDev X D :: As)) :
    Calls Tryd.prog 19 #[pt X] wr fun e w' => e = .returned (.int .i64 (512 * D.ns : Nat)) ∧ ∃ q, w' = wr.drewN q := by
  obtain ⟨r, a, h1⟩ := pdev_open h
  have c4 := (psees a h1).c4
  clear h h1 a
  go_enter Tryd.func19, Tryd.ntmps19
  go_wp2_with fail
  go_ret
  exact ⟨rfl, 0, rfl⟩
theorem pblocks_any (h : St w wr (pDev X D :: As)) :
    Calls Tryd.prog 52 #[pt X] wr fun e w' => e = .returned (.int .i64 (D.nb : Int)) ∧ ∃ q, w' = wr.drewN q := by
  obtain ⟨r, a, h1⟩ := pdev_open h
  have c5 := (psees a h1).c5
  obtain ⟨g, cap, hv, _⟩ := (psees a h1).hs
  rw [hv] at c5
  clear h h1 a
  go_enter Tryd.func52, Tryd.ntmps52
  go_wp2_with fail
  go_ret
  exact ⟨rfl, 0, rfl⟩
theorem pdown_any (h : St w wr (pDev X D :: As)) :
    Calls Tryd.prog 22 #[pt X] wr fun e w' => e = .returned (.bool D.down) ∧ ∃ q, w' = wr.drewN q := by
  obtain ⟨r, a, h1⟩ := pdev_open h
  have c8 := (psees a h1).c8
  clear h h1 a
  go_enter Tryd.func22, Tryd.ntmps22
  go_wp2_with fail
  go_ret
  exact ⟨rfl, 0, rfl⟩
/-- refused -/
theorem prefused_any (b : Bool) (W : World) (c8 : W.cell? ⟨X, 8, none⟩ = some (.bool b)) :
    Calls Tryd.prog 46 #[pt X] W fun e w' => e = .returned (.int .i64 (if b = true then 8 else 0)) ∧ W = w' := by
  cases b
  · go_enter Tryd.func46, Tryd.ntmps46
    go_wp2_with fail
    go_ret
    exact ⟨rfl, rfl⟩
  · go_enter Tryd.func46, Tryd.ntmps46
    go_wp2_with fail
    go_ret
    exact ⟨rfl, rfl⟩
/-- there -/
theorem pthere_any (n : Int) (nb cap : Nat) (ao : Option Addr) (W : World) (c5 : W.cell? ⟨X, 5, none⟩ = some (.slice ao nb cap)) :
    Calls Tryd.prog 71 #[pt X, .int .i64 n] W fun e w' => e = .returned (.bool (decide (0 ≤ n ∧ n < nb))) ∧ W = w' := by
  by_cases c : n < 0
  · rw [decide_eq_false (by omega)]
    go_enter Tryd.func71, Tryd.ntmps71
    go_wp2_with fail
    go_ret
    exact ⟨rfl, rfl⟩
  · have c' : 0 ≤ n := by omega
    by_cases d : n < nb
    · rw [decide_eq_true (by omega)]
      go_enter Tryd.func71, Tryd.ntmps71
      go_wp2_with fail
      go_ret
      exact ⟨rfl, rfl⟩
    · have d' : (nb : Int) ≤ n := by omega
      rw [decide_eq_false (by omega)]
      go_enter Tryd.func71, Tryd.ntmps71
      go_wp2_with fail
      go_ret
      exact ⟨rfl, rfl⟩

theorem pdev_reads (h : St w wr (pParts X D r ++ As)) (k : Nat) : St w (wr.setCell ⟨X, 10, none⟩ (.int .i64 (k : Int))) (pParts X { D with reads := k } r ++ As) := st_set h 10 _
theorem pdev_calls (h : St w wr (pParts X D r ++ As)) (k : Nat) : St w (wr.setCell ⟨X, 9, none⟩ (.int .i64 (k : Int))) (pParts X { D with calls := k } r ++ As) := st_set h 9 _
theorem pdev_down (h : St w wr (pParts X D r ++ As)) (b : Bool) : St w (wr.setCell ⟨X, 8, none⟩ (.bool b)) (pParts X { D with down := b } r ++ As) := st_set h 8 _
theorem pdev_left (h : St w wr (pParts X D r ++ As)) (k : Nat) : St w (wr.setCell ⟨X, 0, none⟩ (.int .i64 (k : Int))) (pParts X D { r with left := k } ++ As) := st_set h 0 _

theorem prestart_any (h : St w wr (pDev X D :: As)) :
    Calls Tryd.prog 26 #[pt X] wr fun e w' => e = .returned (.int .i64 D.restart.2) ∧ St w w' (pDev X D.restart.1 :: As) := by
  obtain ⟨r, a, h1⟩ := pdev_open h
  have hS := psees a h1
  have c8 := hS.c8
  have hfr := hS.fr 8
  unfold DevM.restart
  by_cases d : D.down = true
  · rw [if_pos d]
    rw [d] at c8
    have H2 := Lib.hid (pdev_shut r (pknown_like (q := r) (E := { D with down := false }) a rfl rfl rfl rfl rfl) (pdev_down h1 false))
    clear hS d h h1 a
    go_enter Tryd.func26, Tryd.ntmps26
    go_wp2_with fail
    go_ret
    exact ⟨rfl, H2.out⟩
  · rw [if_neg d]
    have d' : D.down = false := by simpa using d
    rw [d'] at c8
    clear hS d d'
    go_enter Tryd.func26, Tryd.ntmps26
    go_wp2_with fail
    go_ret
    exact ⟨rfl, h⟩
end
end Go.Proofs.YtjmjmekmaamclaaDoor.dev
