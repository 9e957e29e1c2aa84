/-
  Layer 4, the document's device in memory; Check, Size, Now, Read, has, Restart.
-/
import Derived.Test.YtkebilddoanhgaaHeap
import Derived.Test.YtkebilddoanhgaaDevM
import Derived.Outline
namespace Go.Proofs.Ytkebilddoanhgaa.dev
open Go.ChangeShapes Go.WideShapes Go.ChangeAt Go.RowKit mem
set_option linter.unusedVariables false

def strs (l : List ByteArray) : List Value := l.map .string
def wcells (c : List (Nat × ByteArray)) : List Value := c.flatMap fun x => [.int .i64 (x.1 : Int), .string x.2]
def intsV (ks : List Int) : List Value := ks.map (.int .i64)
theorem strs_len (l : List ByteArray) : (strs l).length = l.length := by simp [strs]
theorem strs_at (l : List ByteArray) (i : Nat) (h : i < l.length) : (strs l)[i]? = some (.string (l.getD i empty)) := by
  simp [strs, List.getElem?_map, List.getElem?_eq_getElem h, List.getD_eq_getElem?_getD]
theorem intsV_len (l : List Int) : (intsV l).length = l.length := by simp [intsV]
theorem intsV_at (l : List Int) (i : Nat) (h : i < l.length) : (intsV l)[i]? = some (.int .i64 (l[i]'h)) := by
  simp [intsV, List.getElem?_map, List.getElem?_eq_getElem h]
theorem wcells_len (c : List (Nat × ByteArray)) : (wcells c).length = c.length * 2 := by
  induction c with
  | nil => rfl
  | cons x c ih =>
    rw [show wcells (x :: c) = [.int .i64 (x.1 : Int), .string x.2] ++ wcells c from by simp [wcells], List.length_append, ih, List.length_cons]
    simp; omega
theorem wcells_append (a b : List (Nat × ByteArray)) : wcells (a ++ b) = wcells a ++ wcells b := by simp [wcells]
theorem wcells_cons (x : Nat × ByteArray) (b : List (Nat × ByteArray)) : wcells (x :: b) = [.int .i64 (x.1 : Int), .string x.2] ++ wcells b := by simp [wcells]
theorem wcells_at (c : List (Nat × ByteArray)) (i : Nat) (h : i < c.length) : (wcells c)[i * 2]? = some (.int .i64 ((c[i]).1 : Int)) ∧ (wcells c)[i * 2 + 1]? = some (.string (c[i]).2) := by
  have e : wcells c = wcells (c.take i) ++ (([.int .i64 ((c[i]).1 : Int), .string (c[i]).2] : List Value) ++ wcells (c.drop (i + 1))) := by
    have e : c = c.take i ++ (c[i] :: c.drop (i + 1)) := by rw [← List.drop_eq_getElem_cons h, List.take_append_drop]
    have e2 := congrArg wcells e
    rw [wcells_append] at e2
    rw [wcells_cons] at e2
    exact e2
  have l : (wcells (c.take i)).length = i * 2 := by rw [wcells_len, List.length_take]; omega
  rw [e]
  refine ⟨?_, ?_⟩
  · rw [List.getElem?_append_right (by omega), l, Nat.sub_self]; rfl
  · rw [List.getElem?_append_right (by omega), l, show i * 2 + 1 - i * 2 = 1 from by omega]; rfl

/-- how the plan stands in memory -/
def PlanIs (p : Option Plan) (at' : Nat) (ks : List Int) (torn : Int) (mask : Nat) : Prop :=
  (p = none ∧ at' = 0) ∨ ∃ q, p = some q ∧ 1 ≤ q.at' ∧ at' = q.at' ∧ ks = q.keep ∧ torn = q.torn ∧ mask = q.mask
structure RRep where
  sv : Value
  cv : Value
  kv : Value
  at' : Nat
  ks : List Int
  torn : Int
  mask : Nat
def rHead (D : DevM) (r : RRep) : List Value :=
  [.int .i64 (D.nb : Int), .int .i64 (D.ns : Int), r.sv, r.cv, .int .i64 (r.at' : Int), r.kv, .int .i64 r.torn, .int .u8 (r.mask : Int), .bool D.down, .int .i64 (D.calls : Int), .int .i64 (D.reads : Int)]
def rParts (X : Nat) (D : DevM) (r : RRep) : List Ast :=
  [aVar X (rHead D r) 50, aRow 9 1 r.sv D.nb (strs D.safe), aRow 96 2 r.cv D.cache.length (wcells D.cache), aRow 3 1 r.kv r.ks.length (intsV r.ks)]
def RKnown (D : DevM) (r : RRep) : Prop := D.Ok ∧ PlanIs D.plan r.at' r.ks r.torn r.mask ∧ CrashOk r.ks r.torn r.mask ∧ r.at' ≤ 9223372036854775807
/-- the document's device at block X -/
def rDev (X : Nat) (D : DevM) : Ast := aEx fun r => aAnd (RKnown D r) (aMany (rParts X D r))

section
variable {w wr : World} {As : List Ast} {X : Nat} {D : DevM} {r : RRep}
theorem rdev_open (h : St w wr (rDev X D :: As)) : ∃ r, RKnown D r ∧ St w wr (rParts X D r ++ As) := by
  obtain ⟨r, h⟩ := h.open'
  obtain ⟨a, h⟩ := h.know
  exact ⟨r, a, h.append⟩
theorem rdev_shut (r : RRep) (a : RKnown D r) (h : St w wr (rParts X D r ++ As)) : St w wr (rDev X D :: As) := (h.gather.tell a).shut r
theorem rdev_ok (h : St w wr (rDev X D :: As)) : D.Ok := by obtain ⟨r, a, _⟩ := rdev_open h; exact a.1

/-- what a walk reads of it -/
structure RSees (W : World) (X : Nat) (D : DevM) (r : RRep) : Prop where
  c0 : W.cell? ⟨X, 0, none⟩ = some (.int .i64 (D.nb : Int))
  c1 : W.cell? ⟨X, 1, none⟩ = some (.int .i64 (D.ns : Int))
  c2 : W.cell? ⟨X, 2, none⟩ = some r.sv
  c3 : W.cell? ⟨X, 3, none⟩ = some r.cv
  c4 : W.cell? ⟨X, 4, none⟩ = some (.int .i64 (r.at' : Int))
  c5 : W.cell? ⟨X, 5, none⟩ = some r.kv
  c6 : W.cell? ⟨X, 6, none⟩ = some (.int .i64 r.torn)
  c7 : W.cell? ⟨X, 7, none⟩ = some (.int .u8 (r.mask : Int))
  c8 : W.cell? ⟨X, 8, none⟩ = some (.bool D.down)
  c9 : W.cell? ⟨X, 9, none⟩ = some (.int .i64 (D.calls : Int))
  c10 : W.cell? ⟨X, 10, none⟩ = some (.int .i64 (D.reads : Int))
  fr : ∀ i, W.frozen? ⟨X, i, none⟩ = false
  hs : ∃ g cap, r.sv = .slice (some ⟨g, 0, none⟩) D.nb cap ∧ ∀ i, i < D.nb → W.cell? ⟨g, i, none⟩ = some (.string (D.safe.getD i empty))
  hc : ∃ ao cap, r.cv = .slice ao D.cache.length cap ∧ ∀ i (hi : i < D.cache.length), ∃ g, ao = some ⟨g, 0, none⟩ ∧ W.cell? ⟨g, i * 2, none⟩ = some (.int .i64 ((D.cache[i]).1 : Int)) ∧ W.cell? ⟨g, i * 2 + 1, none⟩ = some (.string (D.cache[i]).2)
  hk : ∃ ao cap, r.kv = .slice ao r.ks.length cap ∧ ∀ i (hi : i < r.ks.length), ∃ g, ao = some ⟨g, 0, none⟩ ∧ W.cell? ⟨g, i, none⟩ = some (.int .i64 (r.ks[i]))

theorem rsees (a : RKnown D r) (h : St w wr (rParts X D r ++ As)) : RSees wr X D r where
  c0 := st_cell h 0
  c1 := st_cell h 1
  c2 := st_cell h 2
  c3 := st_cell h 3
  c4 := st_cell h 4
  c5 := st_cell h 5
  c6 := st_cell h 6
  c7 := st_cell h 7
  c8 := st_cell h 8
  c9 := st_cell h 9
  c10 := st_cell h 10
  fr := st_free h
  hs := by
    have h1 := h.swap
    obtain ⟨g, cap, hv, _⟩ := st_form h1 (by have := a.1.nb0; omega)
    refine ⟨g, cap, hv, fun i hi => ?_⟩
    rw [st_at h1 hv i (by omega)]
    exact strs_at _ _ (by rw [a.1.safe]; exact hi)
  hc := by
    have h1 := h.third
    obtain ⟨ao, cap, hv⟩ := st_shape h1
    refine ⟨ao, cap, hv, fun i hi => ?_⟩
    obtain ⟨g, cap', hv', _⟩ := st_form h1 (by omega)
    rw [hv'] at hv
    simp only [Value.slice.injEq] at hv
    obtain ⟨rfl, _, _⟩ := hv
    obtain ⟨w1, w2⟩ := wcells_at D.cache i hi
    exact ⟨g, rfl, by rw [st_at h1 hv' _ (by omega)]; exact w1, by rw [st_at h1 hv' _ (by omega)]; exact w2⟩
  hk := by
    have h1 := h.fourth
    obtain ⟨ao, cap, hv⟩ := st_shape h1
    refine ⟨ao, cap, hv, fun i hi => ?_⟩
    obtain ⟨g, cap', hv', _⟩ := st_form h1 (by omega)
    rw [hv'] at hv
    simp only [Value.slice.injEq] at hv
    obtain ⟨rfl, _, _⟩ := hv
    exact ⟨g, rfl, by rw [st_at h1 hv' _ (by omega)]; exact intsV_at _ _ hi⟩
end

theorem rcheck_any (b s : Int) (w : World) : Calls Try.prog 7 #[.agg #[.int .i64 b, .int .i64 s]] w fun e w' => e = .returned (.int .i64 (if geoOk b s then 0 else 1)) ∧ Ch (fun _ => False) w w' := by
  by_cases c : geoOk b s
  · rw [if_pos c]
    obtain ⟨h1, h2, h3, h4⟩ := c
    go_enter Try.func7, Try.ntmps7
    go_wp2_with fail
    go_ret
    exact ⟨rfl, (Ch.refl _ _).alloc _⟩
  · rw [if_neg c]
    by_cases c1 : b < 16
    · clear c
      go_enter Try.func7, Try.ntmps7
      go_wp2_with fail
      go_ret
      exact ⟨rfl, (Ch.refl _ _).alloc _⟩
    · by_cases c2 : 4096 < b
      · clear c
        go_enter Try.func7, Try.ntmps7
        go_wp2_with fail
        go_ret
        exact ⟨rfl, (Ch.refl _ _).alloc _⟩
      · by_cases c3 : s < 1
        · clear c
          go_enter Try.func7, Try.ntmps7
          go_wp2_with fail
          go_ret
          exact ⟨rfl, (Ch.refl _ _).alloc _⟩
        · have c4 : 8 < s := by unfold geoOk at c; omega
          clear c
          go_enter Try.func7, Try.ntmps7
          go_wp2_with fail
          go_ret
          exact ⟨rfl, (Ch.refl _ _).alloc _⟩

theorem rsize_any (X ns : Nat) (w : World) (hc : w.cell? ⟨X, 1, none⟩ = some (.int .i64 (ns : Int))) (hn : ns ≤ 8) : Calls Try.prog 13 #[.pointer (some ⟨X, 0, none⟩)] w fun e w' => e = .returned (.int .i64 (512 * ns : Nat)) ∧ w = w' := by
  have e : IntKind.i64.wrap (512 * (ns : Int)) = ((512 * ns : Nat) : Int) := by rw [IntKind.wrap_i64]; omega
  have n0 : (0 : Int) ≤ ns := by omega
  have n1 : (ns : Int) ≤ 8 := by omega
  go_enter Try.func13, Try.ntmps13
  go_wp2_with fail
  go_ret
  exact ⟨by simp, rfl⟩

theorem look_more (c : List (Nat × ByteArray)) (n : Nat) (s : ByteArray) (k : Nat) (h : k < c.length) : look (c.take (k + 1)) n s = if (c[k]).1 = n then (c[k]).2 else look (c.take k) n s := by
  rw [List.take_succ_eq_append_getElem h, look_snoc]

theorem rnow_any (X : Nat) (D : DevM) (r : RRep) (n : Nat) (w : World) (a : D.Ok) (h : RSees w X D r) (hn : n < D.nb) (hl : D.cache.length ≤ 1073741824) :
    Calls Try.prog 57 #[.pointer (some ⟨X, 0, none⟩), .int .i64 (n : Int)] w fun e w' => e = .returned (.string (D.now n)) ∧ w = w' := by
  obtain ⟨gs, caps, hsv, hs⟩ := h.hs
  obtain ⟨ao, capc, hcv, hc⟩ := h.hc
  have c2 := h.c2
  have c3 := h.c3
  rw [hsv] at c2
  rw [hcv] at c3
  have hsn := hs n hn
  have hnb := a.nb1
  have n0 : (0 : Int) ≤ n := by omega
  have n1 : (n : Int) < D.nb := by omega
  unfold DevM.now
  obtain ⟨s0, es⟩ : ∃ s0, s0 = D.safe.getD n empty := ⟨_, rfl⟩
  rw [← es] at hsn ⊢
  obtain ⟨c, ec⟩ : ∃ c, c = D.cache := ⟨_, rfl⟩
  rw [← ec] at c3 hl ⊢
  have HC : Hid (∀ i (hi : i < c.length), ∃ g, ao = some ⟨g, 0, none⟩ ∧ w.cell? ⟨g, i * 2, none⟩ = some (.int .i64 ((c[i]).1 : Int)) ∧ w.cell? ⟨g, i * 2 + 1, none⟩ = some (.string (c[i]).2)) := by subst ec; exact Lib.hid hc
  have l0 : (c.length : Int) ≤ 1073741824 := by omega
  have hn64 : (n : Int) ≤ 4096 := by omega
  clear es ec hc hs h hsv hcv a
  go_enter Try.func57, Try.ntmps57
  go_wp2_with fail
  go_loop [5, 6] (fun x i => ∃ k : Nat, k ≤ c.length ∧ i = .int .i64 ↑k ∧ x = .string (look (c.take k) n s0)) (fun _ i => c.length - (intOf i).toNat)
  case atStart => exact ⟨0, Nat.zero_le _, rfl, rfl⟩
  case round =>
    obtain ⟨k, hk, rfl, rfl⟩ := hrel
    by_cases hlt : k < c.length
    · obtain ⟨g, rfl, w1, w2⟩ := HC.out k hlt
      have HM := Lib.hid (look_more c n s0 k hlt)
      generalize look (c.take k) n s0 = s1 at HM
      by_cases e : (c[k]).1 = n
      · rw [if_pos e] at HM
        rw [e] at w1
        have HY := Lib.hid (show (c[k]).2 = (c[k]).2 from rfl)
        generalize (c[k]).2 = y at w2 HM
        clear HY e
        go_wp2_with fail
        go_round
        case rel => exact ⟨k + 1, by omega, by go_num, by rw [HM.out]⟩
        case measure => simp [intOf] <;> omega
      · rw [if_neg e] at HM
        generalize (c[k]).2 = y at w2
        generalize (c[k]).1 = m at w1 e
        have t : ((m : Int) == (n : Int)) = false := by rw [beq_eq_false_iff_ne]; omega
        clear e
        go_wp2_with fail
        go_round
        case rel => exact ⟨k + 1, by omega, by go_num, by rw [HM.out]⟩
        case measure => simp [intOf] <;> omega
    · rw [List.take_of_length_le (show c.length ≤ k from by omega)]
      obtain rfl : k = c.length := by omega
      clear hlt hk
      go_wp2_with fail
      go_ret
      exact ⟨rfl, rfl⟩
end Go.Proofs.Ytkebilddoanhgaa.dev
