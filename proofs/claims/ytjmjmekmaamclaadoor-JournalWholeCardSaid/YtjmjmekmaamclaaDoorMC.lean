/-
  Layer 5, the program: the ring's places, gone through by a function: its calls of the round.
-/
import Derived.Test.YtjmjmekmaamclaaDoorMB
import Derived.RangeFuncNested
import Derived.RangeFuncBound
import Derived.RangeFuncCalls
import Derived.RangeFuncLeaves
import Derived.Shelf.Abstract
import Derived.Shelf.RegionOpen
import Derived.OwnWalkIn
import Derived.TacticsInMore
import Derived.LoopNIn
import Derived.LoopIn
namespace Go.Proofs.YtjmjmekmaamclaaDoor.jrn
open Go.ChangeShapes Go.WideShapes Go.ChangeAt Go.RowKit Go.Shelf mem dev sums
set_option linter.unusedVariables false
attribute [local go_sem] Oper.semAt_some

abbrev itObj (i1 i2 i3 X : Nat) (R : Rg) (s : JSt) (n : Nat) : List Ast := [aVar i1 (rgCells X R) 63, aVar i2 (stCells s) 69, aVar i3 [.int .i64 (n : Int)] 3]

section
variable {w wr : World} {R : Rg} {X : Nat} {s : JSt} {n i1 i2 i3 l : Nat} {M : Nat → List Ast} {Mx : List Ast}
set_option maxHeartbeats 4000000 in
set_option maxRecDepth 8000 in
theorem places1_in (a : R.Ok) (m : Nat) (ht : s.h.tail ≤ 4096) (hu : s.used ≤ 4096) (hn : n ≤ 1024)
    (hY : ∀ k W, k < n → St w W (itObj i1 i2 i3 X R s n ++ M k) → YieldAt Fence.wide m Tryd.prog l #[.int .i64 (k : Int), .int .i64 (R.place (s.h.tail + s.used + k) : Nat)] W fun e W' =>
      ∃ b : Bool, e = .returned (.bool b) ∧ St w W' (itObj i1 i2 i3 X R s n ++ (if b = true then M (k + 1) else Mx)))
    (h : St w wr (itObj i1 i2 i3 X R s n ++ M 0)) :
    CallsIn Fence.wide (m + 1) Tryd.prog 84 #[.func (.yield l) #[] #[], pt i1, pt i2, pt i3] wr fun e W' => (∃ v, e = .returned v) ∧ (St w W' (itObj i1 i2 i3 X R s n ++ M n) ∨ St w W' (itObj i1 i2 i3 X R s n ++ Mx)) := by
  have hp := ring_pos a
  have hb := ring_big a
  have HR : Hid (∀ W L, St w W L → Calls Tryd.prog 54 #[rgV X R] W fun e w' => e = .returned (.int .i64 (R.ring : Int)) ∧ St w w' L) := Lib.hid fun W L k => ring_st a k X
  have hbe := behind_st a h s ht hu (X := X)
  have hpl : ∀ k, ((R.place (s.h.tail + s.used + k) : Nat) : Int) = (R.st : Int) + 2 + (((s.h.tail + s.used) % R.ring : Nat) + (k : Int)) % R.ring := fun k => by
    rw [← place_mod]
    unfold Rg.place
    simp
  have hq2 : (s.h.tail + s.used) % R.ring < R.ring := Nat.mod_lt _ hp
  generalize (s.h.tail + s.used) % R.ring = q at hbe hpl hq2
  have HBE := Lib.hid hbe
  have HPL := Lib.hid hpl
  have q0 : (0 : Int) ≤ q := by omega
  have q1 : (q : Int) ≤ 4096 := by omega
  have r0 : ¬ R.ring = 0 := by omega
  have r1 : ¬ (R.ring : Int) = 0 := by omega
  have r2 : (0 : Int) ≤ R.ring := by omega
  have r3 : (R.ring : Int) ≤ 4096 := by omega
  have HPOS := Lib.hid hp
  have hmx : Tryd.prog.follows .mixedOrders = true := by kernel_rfl
  have c10 : _ = some (pt X) := st_cell h 0
  have c11 : _ = some (Value.int .i64 (R.st : Int)) := st_cell h 1
  have c12 : _ = some (Value.int .i64 (R.ln : Int)) := st_cell h 2
  have d0 : _ = some (Value.int .u64 (s.h.own : Int)) := st_cell h.swap 0
  have d1 : _ = some (Value.int .i64 (s.h.tail : Int)) := st_cell h.swap 1
  have d2 : _ = some (Value.int .u64 (s.h.num : Int)) := st_cell h.swap 2
  have d3 : _ = some (Value.int .i64 (s.at' : Int)) := st_cell h.swap 3
  have d4 : _ = some (Value.int .i64 (s.used : Int)) := st_cell h.swap 4
  have d5 : _ = some (Value.int .u64 (s.num : Int)) := st_cell h.swap 5
  have HY := Lib.hid hY
  have z0 : (R.st : Int) ≤ 4096 := by have := a.fit; have := a.nb; omega
  have n1 : (n : Int) ≤ 1024 := by omega
  clear h hY hbe hpl hq2 hp hb
  refine callsIn_of_wp Tryd.func84 rfl trivial ?_ rfl
  simp only [Tryd.ntmps84, List.size_toArray, List.length_cons, List.length_nil, Nat.reduceAdd, Nat.reduceSub, Array.replicate_succ, Array.replicate_zero, List.push_toArray, List.append_toArray, List.nil_append, List.cons_append]
  gi_wp2_with (refine ⟨trivial, ?_⟩; gi_at_call 64; refine (callsIn_wide.2 HBE.out).mono ?_; rintro e w2 ⟨rfl, hst⟩; have H2 := Lib.hid hst; have y0 : _ = some (Value.int .i64 (n : Int)) := st_cell hst.third 0; clear hst)
  gi_loopw [11] (fun i W => ∃ k : Nat, k ≤ n ∧ i = .int .i64 ↑k ∧ St w W (itObj i1 i2 i3 X R s n ++ M k)) (fun i _ => n - (intOf i).toNat)
  case atStart => exact ⟨0, Nat.zero_le _, rfl, H2.out⟩
  case round =>
    obtain ⟨k, hk, rfl, hst⟩ := hrel
    clear H2 HBE c10 c11 c12 d0 d1 d2 d3 d4 d5 y0
    by_cases hlt : k < n
    · have k1 : (k : Int) < n := by omega
      have c10 : _ = some (pt X) := st_cell hst 0
      have c11 : _ = some (Value.int .i64 (R.st : Int)) := st_cell hst 1
      have c12 : _ = some (Value.int .i64 (R.ln : Int)) := st_cell hst 2
      have H3 := Lib.hid hst
      clear hst
      have s1 : IntKind.i64.wrap ((R.st : Int) + 2) = (R.st : Int) + 2 := IntWalk.i64_in _ (by omega)
      have s2 : IntKind.i64.wrap ((q : Int) + k) = (q : Int) + k := IntWalk.i64_in _ (by omega)
      have s4 : (0 : Int) ≤ (q : Int) + k := by omega
      have s5 : ((q : Int) + k).tmod R.ring = ((q : Int) + k) % R.ring := Int.tmod_eq_emod_of_nonneg s4
      have s3 : IntKind.i64.wrap ((R.st : Int) + 2 + ((q : Int) + k) % R.ring) = (R.st : Int) + 2 + ((q : Int) + k) % R.ring := by
        have h1 := Int.emod_nonneg ((q : Int) + k) r1
        have h2 := Int.emod_lt_of_pos ((q : Int) + k) (show (0 : Int) < R.ring by omega)
        exact IntWalk.i64_in _ (by omega)
      gi_wp2
      gi_region_with_o (first
        | (refine ⟨trivial, ?_⟩; gi_at_call 54; refine (callsIn_wide.2 (HR.out _ _ (by first | exact H3.out.drew | exact H3.out | exact H3.out.drewN _))).mono ?_; rintro e w4 ⟨rfl, hst⟩; obtain ⟨fn, tmps, asg, body, hy, hRd⟩ := HY.out k w4 hlt hst; rw [HPL.out] at hy; have c10 : _ = some (pt X) := st_cell hst 0; have c11 : _ = some (Value.int .i64 (R.st : Int)) := st_cell hst 1; have c12 : _ = some (Value.int .i64 (R.ln : Int)) := st_cell hst 2; clear hst)
        | (refine hRd.mono ?_; rintro e w5 ⟨b, rfl, hst⟩; have H5 := Lib.hid hst; clear hst hRd))
      all_goals
        cases b with
        | true =>
          gi_wp2
          go_roundw
          case rel => exact ⟨k + 1, by omega, by go_num, H5.out⟩
          case measure => simp [intOf] <;> omega
        | false =>
          gi_wp2
          refine bodyPost_ret (results_none rfl _ _ _) rfl ?_
          exact ⟨⟨_, rfl⟩, .inr H5.out⟩
    · obtain rfl : k = n := by omega
      have H2 := Lib.hid hst
      clear hst hlt hk
      gi_wp2
      go_end0
      exact ⟨⟨_, rfl⟩, .inl H2.out⟩
end
end Go.Proofs.YtjmjmekmaamclaaDoor.jrn
/-
  Layer 5, the program: a range over the ring's places, over objects side by side.
-/
namespace Go.Proofs.YtjmjmekmaamclaaDoor.jrn
open Go.ChangeShapes Go.WideShapes Go.ChangeAt Go.RowKit Go.Shelf mem dev sums
set_option linter.unusedVariables false

theorem ch_put {W : World} {l : Nat} {o o' : Obj} {F : Nat → Prop} (h : W.heap[l]? = some o) (hF : F l) : Ch F W (W.putObj l o') :=
  ⟨rfl, rfl, rfl, by rw [World.putObj_size]; exact Nat.le_refl _, fun k _ hk => World.putObj_heap_other (fun e => by subst e; exact hk hF)⟩
theorem st_putobj {w wr : World} {As : List Ast} {l : Nat} {o : Obj} (o' : Obj) (h : St w wr (aBlk l o :: As)) : St w (wr.putObj l o') (aBlk l o' :: As) :=
  h.step fun F ⟨hb, hF⟩ => ⟨F, ⟨World.putObj_heap_same (lt_of_block hb), hF⟩, ch_put hb (fun q => (hF _).2 rfl), fun g hg => .inl hg⟩
theorem st_obj {w wr : World} {As : List Ast} (h : St w wr As) (o : Obj) : St w (wr.alloc o) (aBlk wr.heap.size o :: As) :=
  h.push ((Ch.refl _ wr).alloc _) (A := aBlk wr.heap.size o) (F := fun g => g.1 = wr.heap.size) ⟨heap_alloc_new wr _, fun g => Iff.rfl⟩ fun g hg => by omega

theorem st_swapl {w W : World} {A B C : List Ast} (h : St w W (A ++ (B ++ C))) : St w W (B ++ (A ++ C)) := by
  have h1 := St.behind (As := B) (Bs := C) h.gather
  exact (h1.gather.rest fun V k => k.ungather).append
/-- how a round's body may be left -/
def roundTo (w : World) (N X T : List Ast) : Exit → Act → World → Prop
  | .normal, _, W => St w W (N ++ T)
  | .ret, _, W => St w W (X ++ T)
  | _, _, _ => False

section
variable {w W0 : World} {R : Rg} {X : Nat} {s : JSt} {n i1 i2 i3 : Nat} {L : Nat → List Ast} {Lx : List Ast}
theorem range_places (a : R.Ok) (ht : s.h.tail ≤ 4096) (hu : s.used ≤ 4096) (hn : n ≤ 1024) {g : Operand} {p1 p2 : Tmp} {assign body : Code} {Q : Exit → Act → World → Prop} {act : Act}
    (hg : act.eval g = .func (.func 84) #[] #[pt i1, pt i2, pt i3])
    (h : St w W0 (itObj i1 i2 i3 X R s n ++ L 0)) (a₁ : Nat → Act)
    (hassign : ∀ (l k : Nat) (W : World) (K : Act → World → Prop), k < n → K (a₁ k) W →
      assign.wpIn (Fence.wide.inRound l) 1 Tryd.prog (Exit.then K (fun _ _ _ => False)) { tmps := (act.tmps.setIfInBounds p1 (.int .i64 (k : Int))).setIfInBounds p2 (.int .i64 (R.place (s.h.tail + s.used + k) : Nat)), defers := [] } W)
    (hbody : ∀ (l k : Nat) (W : World) (T : List Ast), k < n → St w W (L k ++ T) → body.wpIn (Fence.wide.inRound l) 1 Tryd.prog (roundTo w (L (k + 1)) Lx T) (a₁ k) W)
    (hdone : ∀ (D : Nat) (W : World), St w W (L n ++ [aBlk D (.deferred (some []))]) → Q .normal { act with defers := { target := .collected D, args := #[] } :: act.defers } W)
    (hstop : ∀ (D : Nat) (W : World), St w W (Lx ++ [aBlk D (.deferred (some []))]) → Code.ret.wp Tryd.prog Q { act with defers := { target := .collected D, args := #[] } :: act.defers } W) :
    (Code.rangeFunc g #[p1, p2] assign body).wp Tryd.prog Q act W0 := by
  refine wpIn_wide (n := 3) |>.1 (wpIn_rangeFunc ?_)
  intro fn hfn
  obtain ⟨rec, hrec⟩ : ∃ rec : LoopState → Option Code → Loop, rec = fun st pe => { state := st, pending := pe, fn, tmps := act.tmps, params := #[p1, p2], assign, body, defers := W0.heap.size } := ⟨_, rfl⟩
  obtain ⟨D, hD⟩ : ∃ D, D = W0.heap.size := ⟨_, rfl⟩
  obtain ⟨l, hl⟩ : ∃ l, l = W0.heap.size + 1 := ⟨_, rfl⟩
  obtain ⟨W1, hW1⟩ : ∃ W1, (W0.alloc (.deferred (some []))).alloc (.loop (rec .ready none)) = W1 := ⟨_, rfl⟩
  have h1 : St w W1 (itObj i1 i2 i3 X R s n ++ (L 0 ++ [aBlk l (.loop (rec .ready none)), aBlk D (.deferred (some []))])) := by
    have k1 := st_obj (st_obj h (.deferred (some []))) (.loop (rec .ready none))
    rw [World.size_alloc, ← hl, ← hD, hW1] at k1
    have k2 := St.behind (As := itObj i1 i2 i3 X R s n ++ L 0) (Bs := [aBlk D (.deferred (some []))]) (by
      have := (k1.swap)
      have h3 : St w W1 (aBlk D (.deferred (some [])) :: (aBlk l (.loop (rec .ready none)) :: (itObj i1 i2 i3 X R s n ++ L 0)) ++ []) := by simpa using this
      have h4 := St.behind (As := aBlk l (.loop (rec .ready none)) :: (itObj i1 i2 i3 X R s n ++ L 0)) (Bs := []) h3
      simpa using h4)
    simpa using k2
  -- the loop's record to the front
  have fr : ∀ {W : World} {o : Obj} {K : List Ast}, St w W (itObj i1 i2 i3 X R s n ++ (K ++ [aBlk l o, aBlk D (.deferred (some []))])) → St w W (aBlk l o :: (itObj i1 i2 i3 X R s n ++ K ++ [aBlk D (.deferred (some []))])) := fun {W o K} k => by
    have k' : St w W ((itObj i1 i2 i3 X R s n ++ K) ++ aBlk l o :: [aBlk D (.deferred (some []))]) := by simpa using k
    exact k'.front
  have bk : ∀ {W : World} {o : Obj} {K : List Ast}, St w W (aBlk l o :: (itObj i1 i2 i3 X R s n ++ K ++ [aBlk D (.deferred (some []))])) → St w W (itObj i1 i2 i3 X R s n ++ (K ++ [aBlk l o, aBlk D (.deferred (some []))])) := fun {W o K} k => by
    have k' := St.behind (As := itObj i1 i2 i3 X R s n ++ K) (Bs := [aBlk D (.deferred (some []))]) k
    simpa using k'
  refine ⟨l, [{ target := .collected D, args := #[] }], W1, { target := .fn (.func 84) #[pt i1, pt i2, pt i3], args := #[.func (.yield l) #[] #[]] }, W1, 84,
    #[.func (.yield l) #[] #[]] ++ #[pt i1, pt i2, pt i3], W1, ?_, ?_, ?_, ?_, fun hh => (by cases hh), ?_⟩
  · rw [← hW1, hrec, hl, hD]; exact run_enterLoop_outer _ _ _ _ _
  · simp only [resolve, hg]
    simp [go_sem]
  · intro f' hf'; exact trivial
  · simp [invoke, go_sem]
  · refine (places1_in (l := l) (M := fun k => L k ++ [aBlk l (.loop (rec .ready none)), aBlk D (.deferred (some []))]) (Mx := Lx ++ [aBlk l (.loop (rec .done (some .ret))), aBlk D (.deferred (some []))]) a 1 ht hu hn ?_ h1).mono ?_
    · intro k W hk hst
      have hlb := st_blk (fr hst)
      have hy := run_yield (P := Tryd.prog) (args := #[.int .i64 (k : Int), .int .i64 (R.place (s.h.tail + s.used + k) : Nat)]) hlb (by rw [hrec]; rfl)
      rw [hrec] at hy
      refine ⟨fn, _, assign, body, hy, roundIn_of_wpIn trivial ?_⟩
      have ha := hassign l k W (fun a₂ w₁ => ∃ w₂, (Instr.beginRound l).run Tryd.prog w₁ = .ok () w₂ ∧ body.wpIn (Fence.wide.inRound l) 1 Tryd.prog (roundPost Tryd.prog l fun e W' => ∃ b : Bool, e = .returned (.bool b) ∧ St w W' (itObj i1 i2 i3 X R s n ++ (if b = true then L (k + 1) ++ [aBlk l (.loop (rec .ready none)), aBlk D (.deferred (some []))] else Lx ++ [aBlk l (.loop (rec .done (some .ret))), aBlk D (.deferred (some []))]))) a₂ w₂) hk ⟨_, run_beginRound hlb (by rw [hrec]), ?_⟩
      · rw [hrec] at ha ⊢
        have e : ((#[p1, p2] : Array Tmp).zip #[Value.int .i64 (k : Int), Value.int .i64 (R.place (s.h.tail + s.used + k) : Nat)]).foldl (fun tmps (x : Tmp × Value) => match x with | (t, a) => tmps.setIfInBounds t a) act.tmps = (act.tmps.setIfInBounds p1 (.int .i64 (k : Int))).setIfInBounds p2 (.int .i64 (R.place (s.h.tail + s.used + k) : Nat)) := by
          rw [show ((#[p1, p2] : Array Tmp).zip #[Value.int .i64 (k : Int), Value.int .i64 (R.place (s.h.tail + s.used + k) : Nat)]) = #[(p1, .int .i64 (k : Int)), (p2, .int .i64 (R.place (s.h.tail + s.used + k) : Nat))] from by first | (rw [List.zip_toArray]; rfl) | simp [Array.zip, Array.zipWith] | (apply Array.ext'; simp)]
          simp
        rw [← e] at ha
        exact ha
      · have hst2 := bk (st_putobj (.loop { rec .ready none with state := .busy }) (fr hst))
        have hst3 := st_swapl hst2
        refine wpIn_mono (hbody l k _ _ hk hst3) ?_
        intro e a' W' hp
        cases e with
        | normal =>
          have hst4 := fr (st_swapl hp)
          refine ⟨_, _, run_endRound none (st_blk hst4), true, rfl, ?_⟩
          rw [if_pos rfl]
          have h5 := bk (st_putobj (.loop (rec .ready none)) hst4)
          rw [hrec] at h5 ⊢
          exact h5
        | ret =>
          have hst4 := fr (st_swapl hp)
          refine ⟨_, _, run_endRound (some .ret) (st_blk hst4), false, rfl, ?_⟩
          rw [if_neg (by decide)]
          have h5 := bk (st_putobj (.loop (rec .done (some .ret))) hst4)
          rw [hrec] at h5 ⊢
          exact h5
        | exit id => exact hp.elim
        | goto t => exact hp.elim
        | panic ch => exact hp.elim
        | outgrown => exact hp.elim
    · rintro e W2 ⟨⟨v, rfl⟩, hst | hst⟩
      · have hlb := st_blk (fr hst)
        refine ⟨none, _, by have := run_endLoop (P := Tryd.prog) hlb (by rw [hrec]; simp); rw [hrec] at this; exact this, hdone D _ ?_⟩
        have h5 := (st_putobj (.loop (rec .exhausted none)) (fr hst)).drop
        rw [hrec] at h5
        exact h5.drop.drop.drop
      · have hlb := st_blk (fr hst)
        refine ⟨some .ret, _, by have := run_endLoop (P := Tryd.prog) hlb (by rw [hrec]; simp); rw [hrec] at this; exact this, wpIn_wide.2 (hstop D _ ?_)⟩
        have h5 := (st_putobj (.loop (rec .exhausted (some .ret))) (fr hst)).drop
        rw [hrec] at h5
        exact h5.drop.drop.drop
end
end Go.Proofs.YtjmjmekmaamclaaDoor.jrn
/-
  Layer 5, the program: read.
-/
namespace Go.Proofs.YtjmjmekmaamclaaDoor.jrn
open Go.ChangeShapes Go.WideShapes Go.ChangeAt Go.RowKit Go.Shelf mem dev sums
set_option linter.unusedVariables false
attribute [local go_sem] Oper.semAt_some

/-- a device that is up, all of whose writes on the way are outside a region, whose blocks are the region's -/
structure Up (R : Rg) (D : DevM) : Prop where
  ok : D.Ok
  nb : D.nb = R.nb
  ns : D.ns = R.ns
  down : D.down = false
  cache : ∀ x ∈ D.cache, ¬ R.inR x.1
def DevM.more (D : DevM) (k : Nat) : DevM := { D with reads := D.reads + k }
theorem more_zero (D : DevM) : DevM.more D 0 = D := rfl
theorem more_more (D : DevM) (j k : Nat) : DevM.more (DevM.more D j) k = DevM.more D (j + k) := by simp [DevM.more, Nat.add_assoc]
theorem more_one (D : DevM) (k : Nat) : { DevM.more D k with reads := (DevM.more D k).reads + 1 } = DevM.more D (k + 1) := rfl
theorem Up.more {R : Rg} {D : DevM} (u : Up R D) (k : Nat) : Up R (DevM.more D k) := ⟨⟨u.ok.nb0, u.ok.nb1, u.ok.ns0, u.ok.ns1, u.ok.safe, u.ok.ssz, u.ok.csz, u.ok.plan⟩, u.nb, u.ns, u.down, u.cache⟩
theorem Up.room {R : Rg} {D : DevM} (u : Up R D) {j k : Nat} (h : D.Room (j + k)) : (DevM.more D j).Room k :=
  ⟨by have := h.calls; show D.calls + k ≤ _; omega, by have := h.reads; show D.reads + j + k ≤ _; omega, by show D.cache.length + k ≤ _; have := h.cache; omega⟩
section
variable {w wr : World} {As : List Ast} {R : Rg} {X : Nat} {D : DevM} {s : JSt}
theorem up_read (a : R.Ok) (u : Up R D) (h : St w wr (pDev X D :: As)) (n : Nat) (hi : R.inR n) (hR : D.Room 1) :
    Calls Tryd.prog 44 #[pt X, .int .i64 (n : Int)] wr fun e w' => e = .returned (.tuple #[.string (D.safe.getD n empty), .int .i64 0]) ∧ St w w' (pDev X (DevM.more D 1) :: As) := by
  have hn : n < R.nb := by have := hi.2; have := a.fit; omega
  have hb : isBlock D (n : Int) := ⟨by omega, by have := u.nb; omega⟩
  have e : D.read (n : Int) = (DevM.more D 1, D.safe.getD n empty, 0) := by
    unfold DevM.read
    rw [if_neg (by rw [u.down]; decide), if_pos hb]
    show ({ D with reads := D.reads + 1 }, D.now ((n : Int).toNat), (0 : Int)) = _
    have hnow : D.now n = D.safe.getD n empty := look_none (fun x hx e => u.cache x hx (by rw [e]; exact hi)) _
    rw [Int.toNat_natCast, hnow]
    rfl
  have := pread_any h (n : Int) ⟨by omega, by have := u.nb; have := u.ok.nb1; omega⟩ hR
  rw [e] at this
  exact this

def textsOf (R : Rg) (S : List ByteArray) (p n : Nat) : List ByteArray := (List.range n).map fun i => pl R S (p + i)
def textsK (R : Rg) (S : List ByteArray) (p n k : Nat) : List ByteArray := textsOf R S p k ++ List.replicate (n - k) ⟨#[]⟩
theorem textsK_len (R : Rg) (S : List ByteArray) (p n k : Nat) (h : k ≤ n) : (textsK R S p n k).length = n := by simp [textsK, textsOf]; omega
theorem textsK_more (R : Rg) (S : List ByteArray) (p n k : Nat) (h : k < n) : (textsK R S p n k).set k (pl R S (p + k)) = textsK R S p n (k + 1) := by
  unfold textsK textsOf
  rw [List.set_append_right _ _ (by simp), List.length_map, List.length_range, Nat.sub_self, List.range_succ, List.map_append, List.append_assoc]
  congr 1
  rw [show n - k = (n - (k + 1)) + 1 from by omega, List.replicate_succ]
  rfl
theorem strs_set (l : List ByteArray) (k : Nat) (x : ByteArray) : (dev.strs l).set k (.string x) = dev.strs (l.set k x) := by simp [dev.strs, List.map_set]

theorem places_st (h : St w wr As) (n : Nat) :
    Calls Tryd.prog 63 #[rgV X R, stV s, .int .i64 (n : Int)] wr fun e w' => ∃ i1 i2 i3, e = .returned (.func (Fn.func 84) #[] #[pt i1, pt i2, pt i3]) ∧ St w w' (itObj i1 i2 i3 X R s n ++ As) := by
  have h1 := st_new (st_new (st_new h (rgCells X R) 63) (stCells s) 69) [.int .i64 (n : Int)] 3
  simp only [World.size_alloc] at h1
  have H1 := Lib.hid h1
  clear h h1
  go_enter Tryd.func63, Tryd.ntmps63
  go_wp2_with fail
  go_ret
  exact ⟨_, _, _, rfl, H1.out.third.rest fun V k => k.swap⟩

abbrev readL (R : Rg) (D : DevM) (s : JSt) (X n B b3 b4 b6 b7 b8 : Nat) (As : List Ast) (k : Nat) : List Ast :=
  [aRow 9 1 (.slice (some ⟨B, 0, none⟩) n n) n (dev.strs (textsK R D.safe (s.h.tail + s.used) n k)), pDev X (DevM.more D k), aVar b8 [.slice (some ⟨B, 0, none⟩) n n] 43, aVar b7 [.int .i64 0] 23, aVar b6 [.slice none 0 0] 43, aVar b4 (stCells s) 69, aVar b3 (rgCells X R) 63] ++ As

set_option maxHeartbeats 4000000 in
set_option maxRecDepth 8000 in
theorem read_st (a : R.Ok) (u : Up R D) (h : St w wr (pDev X D :: As)) (ht : s.h.tail ≤ 4096) (hu : s.used ≤ 4096) (n : Nat) (hn : n ≤ 1024) (hR : D.Room n) :
    Calls Tryd.prog 75 #[rgV X R, stV s, .int .i64 (n : Int)] wr fun e w' => ∃ v, e = .returned (.tuple #[v, .int .i64 0]) ∧ St w w' (aTexts v (textsOf R D.safe (s.h.tail + s.used) n) :: pDev X (DevM.more D n) :: As) := by
  have h1 := st_new (st_new (st_new (st_new h (rgCells X R) 63) (stCells s) 69) [.slice none 0 0] 43) [.int .i64 0] 23
  have h2 := st_made h1 9 (.string ⟨#[]⟩) 1 n rfl (by omega)
  rw [made_one _ _ rfl, Nat.mul_one] at h2
  simp only [World.size_alloc] at h2
  have h3 := st_new h2 [.slice (some ⟨wr.heap.size + 1 + 1 + 1 + 1, 0, none⟩) n n] 43
  simp only [World.size_alloc] at h3
  have hmk := fun W => make_run rowStrJ n (by omega) (by omega) .i64 .i64 W
  have HH := Lib.hid h3
  have HU := Lib.hid u
  have HRM := Lib.hid hR
  have n0 : (n : Int) ≤ 1024 := by omega
  clear h h1 h2 h3 u hR
  refine callsIn_wide.1 (callsIn_of_wp_marks (n := 3) Tryd.func75 rfl trivial (wpIn_wide.2 ?_))
  simp only [Tryd.ntmps75, List.size_toArray, List.length_cons, List.length_nil, Nat.reduceAdd, Nat.reduceSub, Array.replicate_succ, Array.replicate_zero, List.push_toArray, List.append_toArray, List.nil_append, List.cons_append]
  go_wp2_with (go_at_call 63; refine (places_st HH.out n).mono ?_; rintro e w2 ⟨i1, i2, i3, rfl, hst⟩; have H2 := Lib.hid hst; clear hst HH)
  clear hmk
  generalize wr.heap.size + 1 + 1 + 1 + 1 + 1 = b8 at H2 ⊢
  generalize wr.heap.size + 1 + 1 + 1 + 1 = B at H2 ⊢
  generalize wr.heap.size + 1 + 1 + 1 = b7 at H2 ⊢
  generalize wr.heap.size + 1 + 1 = b6 at H2 ⊢
  generalize wr.heap.size + 1 = b4 at H2 ⊢
  generalize wr.heap.size = b3 at H2 ⊢
  refine range_places (w := w) (R := R) (X := X) (s := s) (n := n) (i1 := i1) (i2 := i2) (i3 := i3) (L := readL R D s X n B b3 b4 b6 b7 b8 As) (Lx := [aAnd False (aMany [])]) a ht hu hn rfl ?start ?a1 ?assign ?body ?done ?stop
  case start =>
    have k1 := st_swapl (A := itObj i1 i2 i3 X R s n) (B := [_, _, _, _, _, _, _] ++ As) (C := []) (by rw [List.append_nil]; exact H2.out)
    have k2 := (St.front (As := [_, _, _, _, _, _]) k1).third
    have k3 := st_swapl (A := [_, _, _, _, _, _, _] ++ As) (B := itObj i1 i2 i3 X R s n) (C := []) k2
    rw [List.append_nil] at k3
    have e : textsK R D.safe (s.h.tail + s.used) n 0 = List.replicate n ⟨#[]⟩ := by simp [textsK, textsOf]
    have e2 : dev.strs (List.replicate n ⟨#[]⟩) = List.replicate n (Value.string ⟨#[]⟩) := by simp [dev.strs]
    unfold readL
    rw [e, e2]
    exact k3
  case assign =>
    intro l k W K hk hK
    gi_wp2
    exact hK
  case body =>
    intro l k W T hk hst
    have hst : St w W (aRow 9 1 (.slice (some ⟨B, 0, none⟩) n n) n (dev.strs (textsK R D.safe (s.h.tail + s.used) n k)) :: pDev X (DevM.more D k) :: aVar b8 [.slice (some ⟨B, 0, none⟩) n n] 43 :: aVar b7 [.int .i64 0] 23 :: aVar b6 [.slice none 0 0] 43 :: aVar b4 (stCells s) 69 :: aVar b3 (rgCells X R) 63 :: (As ++ T)) := hst
    have f3 : _ = some (pt X) := st_cell (St.front (As := [_, _, _, _, _, _]) hst) 0
    have HRD := Lib.hid (up_read a (HU.out.more k) hst.swap (R.place (s.h.tail + s.used + k)) (place_inR a _) (HU.out.room (room_less' HRM.out (by omega))))
    have HN : Hid ((textsK R D.safe (s.h.tail + s.used) n k).length = n) := Lib.hid (textsK_len _ _ _ _ _ (by omega))
    have HMORE := Lib.hid (textsK_more R D.safe (s.h.tail + s.used) n k hk)
    have HPL : Hid (D.safe.getD (R.place (s.h.tail + s.used + k)) empty = pl R D.safe (s.h.tail + s.used + k)) := Lib.hid rfl
    have k1 : (k : Int) < n := by omega
    generalize R.place (s.h.tail + s.used + k) = p at HRD HPL ⊢
    generalize textsK R D.safe (s.h.tail + s.used) n k = tk at HN HMORE HRD hst
    clear hst
    gi_wp2_with (refine ⟨trivial, ?_⟩; gi_at_call 44; refine (CallsIn.inRound l (callsIn_wide.2 HRD.out)).mono ?_; rintro e w3 ⟨rfl, hst⟩; rw [more_more] at hst; have f8 : _ = some (Value.slice (some ⟨B, 0, none⟩) n n) := st_cell hst.third 0; have y0 := (st_at hst.swap rfl k (by omega)).trans (strs_at tk k (by rw [HN.out]; exact hk)); have y1 := st_unfrozen hst.swap k; have hput := st_put (u := .string (pl R D.safe (s.h.tail + s.used + k))) (i := k) hst.swap (by omega); rw [strs_set, HMORE.out, ← HPL.out] at hput; have H5 := Lib.hid hput; clear hst hput)
    exact H5.out
  case done =>
    intro Dq W hst
    have hst : St w W (aRow 9 1 (.slice (some ⟨B, 0, none⟩) n n) n (dev.strs (textsK R D.safe (s.h.tail + s.used) n n)) :: pDev X (DevM.more D n) :: aVar b8 [.slice (some ⟨B, 0, none⟩) n n] 43 :: aVar b7 [.int .i64 0] 23 :: aVar b6 [.slice none 0 0] 43 :: aVar b4 (stCells s) 69 :: aVar b3 (rgCells X R) 63 :: (As ++ [aBlk Dq (.deferred (some []))])) := hst
    have f8 : _ = some (Value.slice (some ⟨B, 0, none⟩) n n) := st_cell hst.third 0
    have f7 : _ = some (Value.int .i64 0) := st_cell hst.fourth 0
    have g7 := st_free hst.fourth 0
    have f6 : _ = some (Value.slice none 0 0) := st_cell hst.fifth 0
    have g6 := st_free hst.fifth 0
    have h6 := st_set hst.fifth 0 (.slice (some ⟨B, 0, none⟩) n n)
    have f7b : (W.setCell ⟨b6, 0, none⟩ (.slice (some ⟨B, 0, none⟩) n n)).cell? ⟨b7, 0, none⟩ = some (.int .i64 0) := st_cell h6.fifth 0
    have h7 := st_set h6.fifth 0 (.int .i64 0)
    have H7 := Lib.hid h7
    clear hst h6 h7
    go_wp2_with fail
    have k8 : St w _ (aBlk Dq (.deferred (some [])) :: (([_, _, _, _, _, _, _] ++ As) ++ [])) := St.front (As := [_, _, _, _, _, _, _] ++ As) (Bs := []) (by simpa using H7.out)
    have hK := st_blk k8
    have k9 := (st_putobj (.deferred none) k8).drop
    rw [List.append_nil] at k9
    have c6 : _ = some (Value.slice (some ⟨B, 0, none⟩) n n) := st_cell k9.swap 0
    have c7 : _ = some (Value.int .i64 0) := st_cell k9 0
    have K9 := Lib.hid k9
    have HK := Lib.hid hK
    clear k8 k9 hK
    refine ⟨by simp, .inl ⟨_, _, rfl, run_takeDeferred HK.out, ?_⟩⟩
    refine ⟨.tuple #[.slice (some ⟨B, 0, none⟩) n n, .int .i64 0], ?_, _, rfl, ?_⟩
    · simp [results, Tryd.f75, go_sem, c6, c7]
    · have k10 : St w _ (aRow 9 1 (.slice (some ⟨B, 0, none⟩) n n) n (dev.strs (textsK R D.safe (s.h.tail + s.used) n n)) :: pDev X (DevM.more D n) :: As) :=
        (St.behind (As := [_]) (Bs := As) ((K9.out.drop.drop).third.drop.third.drop.third.drop.swap))
      have e : textsK R D.safe (s.h.tail + s.used) n n = textsOf R D.safe (s.h.tail + s.used) n := by simp [textsK]
      have el : (textsOf R D.safe (s.h.tail + s.used) n).length = n := by simp [textsOf]
      rw [e] at k10
      unfold aTexts
      rw [el]
      exact k10
  case stop =>
    intro Dq W hst
    exact (St.know hst).1.elim
end
end Go.Proofs.YtjmjmekmaamclaaDoor.jrn
/-
  Layer 5, the program: most.
-/
namespace Go.Proofs.YtjmjmekmaamclaaDoor.jrn
open Go.ChangeShapes Go.WideShapes Go.ChangeAt Go.RowKit mem dev sums
set_option linter.unusedVariables false

def Rg.most (R : Rg) : Nat := R.ln - 4
section
variable {w wr : World} {As : List Ast} {R : Rg} {X : Nat} {D : DevM}
set_option maxHeartbeats 2000000 in
set_option maxRecDepth 8000 in
theorem most_st (a : R.Ok) (h : St w wr (pDev X D :: As)) (hns : D.ns = R.ns) :
    Calls Tryd.prog 37 #[rgV X R] wr fun e w' => e = .returned (.int .i64 (R.most : Int)) ∧ St w w' (pDev X D :: As) := by
  have h1 := st_new h (rgCells X R) 63
  have H1 := Lib.hid h1
  have c0 : _ = some (pt X) := st_cell h1 0
  have c1 : _ = some (Value.int .i64 (R.st : Int)) := st_cell h1 1
  have c2 : _ = some (Value.int .i64 (R.ln : Int)) := st_cell h1 2
  have HR : Hid (∀ W L, St w W L → Calls Tryd.prog 54 #[rgV X R] W fun e w' => e = .returned (.int .i64 (R.ring : Int)) ∧ St w w' L) := Lib.hid fun W L k => ring_st a k X
  have HSI : Hid (∀ W Bs, St w W (pDev X D :: Bs) → Calls Tryd.prog 19 #[pt X] W fun e w' => e = .returned (.int .i64 (R.z : Int)) ∧ ∃ q, w' = W.drewN q) := Lib.hid fun W Bs k => by
    have := psize_any k
    rw [hns] at this
    exact this
  have hz := z_big a
  have hz2 : R.z ≤ 4096 := by have := a.ns1; unfold Rg.z; omega
  have HRO : Hid (∀ W, Calls Tryd.prog 61 #[.int .i64 (R.z : Int)] W fun e w' => e = .returned (.int .i64 (((R.z - 20) / 4 : Nat) : Int)) ∧ w' = W) := Lib.hid fun W => room_any R.z (by omega) hz2 W
  have h6 := a.six
  have hf := a.few
  have r0 : (R.ring : Int) = (R.ln : Int) - 2 := by unfold Rg.ring; omega
  have HM : Hid ((R.most : Int) = max 0 (min ((R.ring : Int) - 2) (((R.z - 20) / 4 : Nat) : Int))) := Lib.hid (by unfold Rg.most Rg.ring; omega)
  have e1 : IntKind.i64.wrap ((R.ring : Int) - 2) = (R.ring : Int) - 2 := IntWalk.i64_in _ (by omega)
  generalize R.most = M at HM ⊢
  generalize (((R.z - 20) / 4 : Nat) : Int) = ro at HRO HM
  generalize (R.ring : Int) = ri at HR HM e1
  clear h h1 hns hz hz2 h6 hf r0 a
  go_enter Tryd.func37, Tryd.ntmps37
  go_upto_region 1 with fail
  generalize wr.heap.size = B at H1 c0 c1 c2 ⊢
  go_region_held3 (fun w' => w'.cell? ⟨B, 0, none⟩ = some (pt X) ∧ w'.cell? ⟨B, 1, none⟩ = some (.int .i64 (R.st : Int)) ∧ w'.cell? ⟨B, 2, none⟩ = some (.int .i64 (R.ln : Int))) (go_keep) (first
    | ((go_at_call 54; refine (HR.out _ _ (by first | exact H2.out | exact H2.out.drew | exact H2.out.drewN _ | exact H1.out | exact H1.out.drew | exact H1.out.drewN _)).mono ?_; rintro e w2 ⟨rfl, hst⟩; have m0 : _ = some (pt X) := st_cell hst 0; have m1 : _ = some (Value.int .i64 (R.st : Int)) := st_cell hst 1; have m2 : _ = some (Value.int .i64 (R.ln : Int)) := st_cell hst 2; have H2 := Lib.hid hst; clear hst))
    | ((go_at_call 19; refine (HSI.out _ _ (by first | exact H2.out.swap | exact H2.out.drew.swap | exact (H2.out.drewN _).swap | exact H1.out.swap | exact H1.out.drew.swap | exact (H1.out.drewN _).swap)).mono ?_; rintro e w2 ⟨rfl, q, rfl⟩))
    | ((go_at_call 61; refine (HRO.out _).mono ?_; rintro e w3 ⟨rfl, rfl⟩)))
  all_goals
    go_wp2_with fail
    go_ret
    exact ⟨by rw [HM.out]; rfl, (by first | exact H2.out.drop | exact H2.out.drop.drew | exact H2.out.drop.drewN _)⟩
end
end Go.Proofs.YtjmjmekmaamclaaDoor.jrn
/-
  Layer 5, the program: what stands behind what is used; ahead of standing.
-/
namespace Go.Proofs.YtjmjmekmaamclaaDoor.jrn
open Go.ChangeShapes Go.WideShapes Go.ChangeAt Go.RowKit mem dev sums
set_option linter.unusedVariables false

def datasOf (R : Rg) (S : List ByteArray) (p n : Nat) : List ByteArray := (List.range n).map fun i => pl R S (p + 1 + i)
open Classical in
/-- the transaction that stands behind what is used: its writes, or none -/
noncomputable def standM (R : Rg) (S : List ByteArray) (p num used : Nat) : List Wr :=
  let ts := targetsOf (pl R S p) num R.most
  if ts = [] ∨ R.ring - used < ts.length + 2 then []
  else if NoBad ts (datasOf R S p ts.length) ts.length ∧ MayW R (unL ts (datasOf R S p ts.length)) ∧ Begins (pl R S (p + 1 + ts.length)) num then unL ts (datasOf R S p ts.length) else []
theorem targetsOf_len (t : ByteArray) (n most : Nat) : (targetsOf t n most).length ≤ most := by
  unfold targetsOf
  split
  · split
    · simpa
    · exact Nat.zero_le _
  · exact Nat.zero_le _
theorem targetsOf_lt (t : ByteArray) (n most : Nat) : ∀ x ∈ targetsOf t n most, x < 4294967296 := by
  intro x hx
  unfold targetsOf at hx
  split at hx
  · split at hx
    · obtain ⟨i, _, rfl⟩ := List.mem_map.1 hx
      exact tgtAt_lt t i
    · cases hx
  · cases hx
theorem pl_size {R : Rg} (a : R.Ok) {D : DevM} (u : Up R D) (p : Nat) : (pl R D.safe p).size = R.z := by
  unfold pl
  rw [u.ok.getD (by rw [u.nb]; exact place_lt a p), u.ns]
  rfl
/-- a part of a slice of texts -/
theorem strs_part {W : World} {ao : Option Addr} {xs : List ByteArray} {cap : Nat} {g : Nat} (h : StrsIn W (.slice (some ⟨g, 0, none⟩) xs.length cap) xs) (i j : Nat) (hj : i + j ≤ xs.length) (c : Nat) :
    StrsIn W (.slice (some ⟨g, i, none⟩) j c) ((xs.drop i).take j) := by
  have hlen : ((xs.drop i).take j).length = j := by rw [List.length_take, List.length_drop]; omega
  obtain ⟨ao', cap', e, hc⟩ := h
  cases e
  refine ⟨_, c, by rw [hlen], fun k hk => ⟨g, i, rfl, ?_⟩⟩
  rw [hlen] at hk
  obtain ⟨b, o, e2, hx⟩ := hc (i + k) (by omega)
  cases e2
  rw [Nat.zero_add] at hx
  rw [hx]
  simp

section
variable {w wr : World} {As : List Ast} {R : Rg} {X : Nat} {D : DevM} {s : JSt}
theorem read_row (a : R.Ok) (u : Up R D) (h : St w wr (pDev X D :: As)) (ht : s.h.tail ≤ 4096) (hu : s.used ≤ 4096) (n : Nat) (hn : n ≤ 1024) (hR : D.Room n) :
    Calls Tryd.prog 75 #[rgV X R, stV s, .int .i64 (n : Int)] wr fun e w' => ∃ v, e = .returned (.tuple #[v, .int .i64 0]) ∧ St w w' (aRow 9 1 v n (dev.strs (textsOf R D.safe (s.h.tail + s.used) n)) :: pDev X (DevM.more D n) :: As) := by
  have := read_st a u h ht hu n hn hR
  have el : (textsOf R D.safe (s.h.tail + s.used) n).length = n := by simp [textsOf]
  unfold aTexts at this
  rwa [el] at this
theorem read_more (a : R.Ok) (u : Up R D) {j : Nat} (h : St w wr (pDev X (DevM.more D j) :: As)) (ht : s.h.tail ≤ 4096) (hu : s.used ≤ 4096) (n : Nat) (m : Int) (hm : m = n) (hn : n ≤ 1024) (hR : D.Room (j + n)) :
    Calls Tryd.prog 75 #[rgV X R, stV s, .int .i64 m] wr fun e w' => ∃ v, e = .returned (.tuple #[v, .int .i64 0]) ∧ St w w' (aRow 9 1 v n (dev.strs (textsOf R D.safe (s.h.tail + s.used) n)) :: pDev X (DevM.more D (j + n)) :: As) := by
  subst hm
  have := read_row a (u.more j) h ht hu n hn (u.room hR)
  rw [more_more] at this
  exact this
theorem elS : Tryd.prog.elem 43 = 9 := by kernel_rfl
theorem sizeS (W : World) : (sizeOf (Tryd.prog.elem 43)).run Tryd.prog W = .ok 1 W := by
  rw [elS]
  kernel_rfl
/-- texts[1:n] of a slice -/
theorem mid_slice (g len n cap : Nat) (h : 1 ≤ n) (h2 : n < cap) (m : Int) (hm : m = n) (W : World) :
    (Instr.slice 43 (.slice (some ⟨g, 0, none⟩) len cap) (some (.int .i64 1)) (some (.int .i64 m)) none).run Tryd.prog W = .ok (.slice (some ⟨g, 1, none⟩) (n - 1) (cap - 1)) W := by
  subst hm
  have := run_slice_lh (P := Tryd.prog) (w := W) 43 (some ⟨g, 0, none⟩) len cap (by rw [elS]; exact Tryd.underlying43) .i64 .i64 1 (n : Int) (by omega) (by omega) (by omega)
  rw [this, sizeS W]
  show Result.ok (sliced (some ⟨g, 0, none⟩) (1 : Int).toNat (n : Int).toNat cap 1) W = _
  rw [Int.toNat_natCast]
  unfold sliced
  rw [if_neg (by show ¬ cap = 1; omega), Option.map_some, Addr.add_mid]
  rfl
theorem fst_slice (g len n cap : Nat) (h : 1 ≤ n) (h2 : n < cap) (m : Int) (hm : m = n) (W : World) :
    (Instr.slice 43 (.slice (some ⟨g, 0, none⟩) len cap) none (some (.int .i64 m)) none).run Tryd.prog W = .ok (.slice (some ⟨g, 0, none⟩) n cap) W := by
  subst hm
  have := run_slice_h (P := Tryd.prog) (w := W) 43 (some ⟨g, 0, none⟩) len cap (by rw [elS]; exact Tryd.underlying43) .i64 (n : Int) (by omega) (by omega)
  rw [this, sizeS W]
  show Result.ok (sliced (some ⟨g, 0, none⟩) 0 (n : Int).toNat cap 1) W = _
  rw [Int.toNat_natCast]
  unfold sliced
  rw [if_neg (by omega)]
  rfl
theorem texts_mid (R : Rg) (S : List ByteArray) (p L : Nat) : ((textsOf R S p (L + 2)).drop 1).take L = datasOf R S p L := by
  apply List.ext_getElem
  · simp [textsOf, datasOf]
  · intro i h1 h2
    simp only [textsOf, datasOf, List.getElem_take, List.getElem_drop, List.getElem_map, List.getElem_range]
    congr 1; omega
theorem texts_fst (R : Rg) (S : List ByteArray) (p L : Nat) : (textsOf R S p (L + 2)).take (L + 1) = pl R S p :: datasOf R S p L := by
  apply List.ext_getElem
  · simp [textsOf, datasOf]
  · intro i h1 h2
    cases i with
    | zero => simp [textsOf]
    | succ i => simp [textsOf, datasOf]; congr 1; omega
theorem texts_last (R : Rg) (S : List ByteArray) (p L : Nat) : (textsOf R S p (L + 2))[L + 1]? = some (pl R S (p + 1 + L)) := by
  simp [textsOf]
  congr 1; omega
theorem wrs_in {v : Value} {l : List Wr} (h : St w wr (aWrs v l :: As)) : WrsIn wr v l := by
  rcases (st_row h).2 with ⟨h1, h2⟩ | ⟨g, cap, cur, hv, hr⟩
  · have : l = [] := by
      have := h2
      cases l with
      | nil => rfl
      | cons a b => exact absurd h2.symm (by simp)
    subst this
    exact ⟨none, 0, h1, fun i hi => absurd hi (by simp)⟩
  · refine ⟨_, cap, hv, fun i hi => ⟨g, 0, rfl, ?_, ?_⟩⟩
    · rw [Nat.zero_add, st_at h hv (i * 2) (by omega)]
      exact (wcells_at l i hi).1
    · rw [Nat.zero_add, st_at h hv (i * 2 + 1) (by omega)]
      exact (wcells_at l i hi).2
theorem unesc_ok (t : Nat) (d : ByteArray) (ht : t < 4294967296) (hd : d.size ≤ 4096) : (unesc t d).1 ≤ 4294967296 ∧ (unesc t d).2.size ≤ 4611686018427387904 := by
  unfold unesc
  split
  · refine ⟨by show t - esc ≤ _; omega, ?_⟩
    show (mk2 ++ d.extract 2 d.size).size ≤ _
    rw [ByteArray.size_append, ByteArray.size_extract]
    have : mk2.size = 2 := by decide
    omega
  · exact ⟨by show t ≤ _; omega, by show d.size ≤ _; omega⟩
theorem unL_ok (ts : List Nat) (ds : List ByteArray) (ht : ∀ t ∈ ts, t < 4294967296) (hd : ∀ d ∈ ds, d.size ≤ 4096) : ∀ x ∈ unL ts ds, x.1 ≤ 4294967296 ∧ x.2.size ≤ 4611686018427387904 := by
  intro x hx
  unfold unL at hx
  obtain ⟨i, hi, rfl⟩ := List.mem_iff_getElem.1 hx
  rw [List.getElem_zipWith]
  exact unesc_ok _ _ (ht _ (List.getElem_mem _)) (hd _ (List.getElem_mem _))
end
end Go.Proofs.YtjmjmekmaamclaaDoor.jrn
/-
  Layer 5, the program: a region that draws its order, whose operations read and whose callees keep a list of objects: walked once.
-/
namespace Go.Proofs.YtjmjmekmaamclaaDoor.jrn
open Go.ChangeShapes Go.WideShapes Go.ChangeAt Go.RowKit mem dev sums
set_option linter.unusedVariables false

/-- a world in which the objects of a list stand -/
structure Kept (w : World) (L : List Ast) where
  V : World
  h : St w V L
section
variable {w W : World} {L : List Ast}
theorem wp_region_kept {id : Nat} {Q : Exit → Act → World → Prop} {a : Act} {l : List Oper} (h9 : St w W L) (hm : Tryd.prog.follows .mixedOrders = true) (hB : Region.lexB .any l.toArray = true)
    (h : wpQuiet Tryd.prog l.toArray (fun W' => ∃ V : Kept w L, W' = V.V) (fun a' => ∀ W', (∃ V : Kept w L, W' = V.V) → Q .normal a' W') l a) : (Code.region id l.toArray true).wp Tryd.prog Q a W :=
  wp_region_quiet (C := fun W' => ∃ V : Kept w L, W' = V.V) hm hB ⟨⟨_, h9.drew⟩, rfl⟩ (by simpa using h)
theorem kept_call {f : FuncId} {xs : Array Value} {v : Value} (V : Kept w L) (h : Calls Tryd.prog f xs V.V fun e w' => e = .returned v ∧ St w w' L) :
    Calls Tryd.prog f xs V.V fun e w' => e = .returned v ∧ ∃ V' : Kept w L, w' = V'.V := h.mono fun _ _ q => ⟨q.1, ⟨_, q.2⟩, rfl⟩
end
end Go.Proofs.YtjmjmekmaamclaaDoor.jrn
/-
  Layer 5, plain: what stands behind what is used: the transaction where one is laid, nothing where the ring is fresh.
-/
namespace Go.Proofs.YtjmjmekmaamclaaDoor.jrn
open dev sums
set_option linter.unusedVariables false

theorem seg_begins (t : ByteArray) (n : Nat) : Begins (seg t 0) n ↔ Begins t n := by
  unfold Begins seg
  rw [show 512 * 0 = 0 from rfl, Nat.zero_add]
  have : (t.extract 0 512).extract 0 12 = t.extract 0 12 := by
    apply ba_ext
    rw [ext_data, ext_data, ext_data, List.drop_zero, List.drop_zero, Nat.sub_zero, Nat.sub_zero, List.take_take, Nat.min_eq_left (by omega)]
  rw [this]
theorem begins_rec (n : Nat) (texts : List ByteArray) (z : Nat) : Begins (recB n texts z) n := by
  unfold Begins recB pad
  rw [ByteArray.append_assoc]
  have := ba_take (begC n) (be 4 (crcM (texts.flatMap (fun t => t.data.toList))) ++ noughts (z - (begC n ++ be 4 (crcM (texts.flatMap (fun t => t.data.toList)))).size))
  rwa [begC_size] at this
theorem count_desc (n : Nat) (ts : List Nat) (z : Nat) (h : ts.length < 4294967296) : countOf (descB n ts z) = ts.length := by
  unfold countOf descB summed pad descT
  have e : (mkD ++ be 8 n ++ be 4 ts.length ++ tgts ts ++ be 4 (crcB (mkD ++ be 8 n ++ be 4 ts.length ++ tgts ts))) = mkD ++ be 8 n ++ be 4 ts.length ++ (tgts ts ++ be 4 (crcB (mkD ++ be 8 n ++ be 4 ts.length ++ tgts ts))) := by rw [ByteArray.append_assoc (a := mkD ++ be 8 n ++ be 4 ts.length)]
  rw [e, ByteArray.append_assoc (a := mkD ++ be 8 n ++ be 4 ts.length)]
  rw [ba_sub (mkD ++ be 8 n) (be 4 ts.length) _ 12 16 (by rw [ByteArray.size_append, be_size]; rfl) (by rw [ByteArray.size_append, be_size, be_size]; rfl)]
  exact num_be_lt (by omega)
theorem tgts_split (ts : List Nat) (i : Nat) (h : i < ts.length) : tgts ts = tgts (ts.take i) ++ be 4 ts[i] ++ tgts (ts.drop (i + 1)) := by
  apply ba_ext
  rw [app_data, app_data]
  show (ts.flatMap fun t => beL 4 t) = ((ts.take i).flatMap fun t => beL 4 t) ++ beL 4 ts[i] ++ ((ts.drop (i + 1)).flatMap fun t => beL 4 t)
  conv => lhs; rw [← List.take_append_drop i ts, List.drop_eq_getElem_cons h]
  rw [List.flatMap_append, List.flatMap_cons, List.append_assoc]
theorem tgt_desc (n : Nat) (ts : List Nat) (z : Nat) (i : Nat) (h : i < ts.length) (hl : ts[i] < 4294967296) : tgtAt (descB n ts z) i = ts[i] := by
  unfold tgtAt descB summed pad descT
  generalize hc : be 4 (crcB (mkD ++ be 8 n ++ be 4 ts.length ++ tgts ts)) = c
  generalize noughts _ = x
  have e : mkD ++ be 8 n ++ be 4 ts.length ++ tgts ts ++ c ++ x = (mkD ++ be 8 n ++ be 4 ts.length ++ tgts (ts.take i)) ++ be 4 ts[i] ++ (tgts (ts.drop (i + 1)) ++ c ++ x) := by
    conv => lhs; rw [tgts_split ts i h]
    simp only [ByteArray.append_assoc]
  have hs : (mkD ++ be 8 n ++ be 4 ts.length ++ tgts (ts.take i)).size = 16 + 4 * i := by
    rw [ByteArray.size_append, ByteArray.size_append, ByteArray.size_append, be_size, be_size, tgts_size, List.length_take, Nat.min_eq_left (by omega)]
    rfl
  rw [e, ba_sub _ (be 4 ts[i]) _ (16 + 4 * i) (20 + 4 * i) hs.symm (by rw [hs, be_size]; omega)]
  exact num_be_lt (by omega)
theorem targets_desc (n : Nat) (ts : List Nat) (z most : Nat) (hz : 20 + 4 * ts.length ≤ z) (hz2 : z ≤ 4096) (hm : ts.length ≤ most) (hl : ∀ t ∈ ts, t < 4294967296) : targetsOf (descB n ts z) n most = ts := by
  have e : (List.range ts.length).map (tgtAt (descB n ts z)) = ts := by
    apply List.ext_getElem
    · simp
    · intro i h1 h2
      rw [List.getElem_map, List.getElem_range]
      exact tgt_desc n ts z i h2 (hl _ (List.getElem_mem h2))
  unfold targetsOf
  rw [count_desc n ts z (by omega), if_pos hm, e, descB_size n ts hz, if_pos rfl]
theorem tgt_small {w : Wr} (h : w.1 ≤ 4096) : tgt w < 4294967296 := by unfold tgt esc; split <;> omega
theorem tgt_esc {w : Wr} (h : w.1 ≤ 4096) : esc ≤ tgt w ↔ Marked w.2 := by
  unfold tgt esc
  split <;> rename_i c
  · exact ⟨fun _ => c, fun _ => by omega⟩
  · exact ⟨fun k => by omega, fun k => absurd k c⟩
theorem ring_back {w : Wr} (h : w.1 ≤ 4096) (hs : 2 ≤ w.2.size) : unesc (tgt w) (inRing (tgt w) w.2) = w := by
  unfold unesc inRing
  by_cases c : esc ≤ tgt w
  · have hm := (tgt_esc h).1 c
    rw [if_pos c, if_pos c]
    have e1 : tgt w - esc = w.1 := by unfold tgt; rw [if_pos hm]; omega
    have e2 : (un2 ++ w.2.extract 2 w.2.size).extract 2 (un2 ++ w.2.extract 2 w.2.size).size = w.2.extract 2 w.2.size := by
      apply ba_ext
      rw [ext_data, app_data, ByteArray.size_append]
      have hu : un2.data.toList.length = 2 := rfl
      rw [← hu, List.drop_left, List.take_of_length_le (by rw [data_len]; have : un2.size = 2 := rfl; omega)]
    rw [e1, e2]
    refine Prod.ext rfl ?_
    show mk2 ++ w.2.extract 2 w.2.size = w.2
    rw [← hm]
    apply ba_ext
    rw [app_data, ext_data, ext_data, List.drop_zero, Nat.sub_zero, List.take_of_length_le (l := w.2.data.toList.drop 2) (by rw [List.length_drop, data_len]; omega), List.take_append_drop]
  · rw [if_neg c, if_neg c]
    refine Prod.ext ?_ rfl
    show tgt w = w.1
    unfold tgt
    rw [if_neg fun k => c ((tgt_esc h).2 k)]
theorem ring_good {w : Wr} (h : w.1 ≤ 4096) : ¬ BadE (tgt w) (inRing (tgt w) w.2) := by
  rintro ⟨c, m⟩
  unfold inRing at m
  rw [if_neg c] at m
  exact c ((tgt_esc h).2 m)

section
variable {R : Rg} (a : R.Ok) {S : List ByteArray} {p n used : Nat} {l : List Wr}
include a
omit a in
theorem stand_fresh (hf : Fresh R S n) (hn : n < 18446744073709551616) : standM R S p n used = [] := by
  unfold standM
  have hb : ∀ q, ¬ Begins (pl R S q) n := fun q k => hf q n (Nat.le_refl _) hn ((seg_begins _ _).2 k)
  simp only []
  split
  · rfl
  · rw [if_neg fun h => hb _ h.2.2]
theorem valid_small (v : ValidW R l) : ∀ w ∈ l, w.1 ≤ 4096 ∧ 2 ≤ w.2.size ∧ w.2.size = R.z := fun w hw => by
  have h := v.each w hw
  have := a.nb
  have := z_big a
  exact ⟨by omega, by rw [h.2.2]; omega, h.2.2⟩
theorem stand_ring (v : ValidW R l) : NoBad (l.map tgt) (dataOf l) (l.map tgt).length ∧ unL (l.map tgt) (dataOf l) = l := by
  constructor
  · intro i h h' _
    simp only [List.getElem_map, dataOf]
    exact ring_good (valid_small a v _ (List.getElem_mem _)).1
  · unfold unL dataOf
    apply List.ext_getElem
    · simp
    · intro i h1 h2
      simp only [List.getElem_zipWith, List.getElem_map]
      have := valid_small a v _ (List.getElem_mem h2)
      exact ring_back this.1 this.2.1
omit a in
theorem laid_desc (v : Laid R S p n l) : pl R S p = descB n (l.map tgt) R.z := v.txt 0 (by rw [txn_len]; omega)
omit a in
theorem laid_data (v : Laid R S p n l) : datasOf R S p l.length = dataOf l := by
  apply List.ext_getElem
  · simp [datasOf, dataOf]
  · intro i h1 h2
    have hi : i < l.length := by simpa [dataOf] using h2
    have := v.txt (i + 1) (by rw [txn_len]; omega)
    simp only [datasOf, List.getElem_map, List.getElem_range]
    rw [show p + 1 + i = p + (i + 1) from by omega, this]
    simp [txn]
omit a in
theorem laid_begins (v : Laid R S p n l) : Begins (pl R S (p + 1 + l.length)) n := by
  rw [← seg_begins, v.rec', seg_begins]
  exact begins_rec _ _ _
theorem stand_targets (v : ValidW R l) (k : Laid R S p n l) : targetsOf (pl R S p) n R.most = l.map tgt := by
  have h1 := v.few
  have h2 := z_big a
  have h3 := a.few
  rw [laid_desc k]
  refine targets_desc n _ R.z R.most (by rw [List.length_map]; omega) (by have := a.ns1; unfold Rg.z; omega) (by rw [List.length_map]; unfold Rg.most; omega) fun t ht => ?_
  obtain ⟨w, hw, rfl⟩ := List.mem_map.1 ht
  exact tgt_small (valid_small a v w hw).1
theorem stand_laid (v : ValidW R l) (k : Laid R S p n l) (hu : used + (l.length + 2) ≤ R.ring) : standM R S p n used = l := by
  have hr := stand_ring a v
  have hlen : (l.map tgt).length = l.length := List.length_map ..
  unfold standM
  simp only []
  rw [stand_targets a v k, hlen, laid_data k, hr.2]
  rw [hlen] at hr
  rw [if_neg (by
    rintro (h | h)
    · exact v.ne (List.map_eq_nil_iff.1 h)
    · omega), if_pos ⟨hr.1, ⟨fun w hw => v.each w hw, v.nodup⟩, laid_begins k⟩]
theorem rec_laid (v : ValidW R l) (k : Laid R S p n l) : let ts := targetsOf (pl R S p) n R.most
    ts ≠ [] → ts.length + 2 ≤ R.ring - used → Begins (pl R S (p + 1 + ts.length)) n → seg (pl R S (p + 1 + ts.length)) 0 = seg (recB n (pl R S p :: datasOf R S p ts.length) R.z) 0 := by
  intro ts _ _ _
  have e : ts = l.map tgt := stand_targets a v k
  rw [e, List.length_map, laid_data k, k.rec', laid_desc k]
  rfl
omit a in
theorem rec_fresh (hf : Fresh R S n) (hn : n < 18446744073709551616) : let ts := targetsOf (pl R S p) n R.most
    ts ≠ [] → ts.length + 2 ≤ R.ring - used → Begins (pl R S (p + 1 + ts.length)) n → seg (pl R S (p + 1 + ts.length)) 0 = seg (recB n (pl R S p :: datasOf R S p ts.length) R.z) 0 := by
  intro ts _ _ hb
  exact absurd ((seg_begins _ _).2 hb) (hf _ n (Nat.le_refl _) hn)
end
end Go.Proofs.YtjmjmekmaamclaaDoor.jrn
/-
  Layer 5, the program: found.
-/
namespace Go.Proofs.YtjmjmekmaamclaaDoor.jrn
open Go.ChangeShapes Go.WideShapes Go.ChangeAt Go.RowKit mem dev sums
set_option linter.unusedVariables false

def fstep (R : Rg) (t : ByteArray) (k : Nat) (c : JSt × Bool) : JSt × Bool :=
  if (headRes t R.ring).2 = true ∧ (c.2 = false ∨ c.1.h.own < (headRes t R.ring).1.own) then (⟨(headRes t R.ring).1, k, 0, (headRes t R.ring).1.num⟩, true) else c
def zeroSt : JSt := ⟨⟨0, 0, 0⟩, 0, 0, 0⟩
/-- what the first so many heads tell -/
def fnd (R : Rg) (S : List ByteArray) : Nat → JSt × Bool
  | 0 => (zeroSt, false)
  | k + 1 => fstep R (S.getD (R.st + k) empty) k (fnd R S k)

section
variable {R : Rg} (a : R.Ok) {S : List ByteArray} {h : Hd} {at' : Nat} {L : List (List Wr)} {was : List ByteArray}
theorem res_head {h : Hd} (a : R.Ok) (ho : h.Ok R.ring) : headRes (headB h R.z) R.ring = (h, true) := by
  have hz := z_big a
  have hr := ring_big a
  have e := head_fields ho hr (show 28 ≤ R.z by omega)
  unfold headRes
  rw [e, if_pos ho.tail, headB_size h (by omega)]
  simp
theorem res_noughts (a : R.Ok) : (headRes (noughts R.z) R.ring).2 = false := by
  have := noughts_nohead R.ring R.z
  unfold isHead at this
  unfold headRes
  split
  · rename_i c
    exact decide_eq_false fun k => this ⟨c, k⟩
  · rfl
/-- on a device of the kind, the head that is found is the one that counts -/
theorem fnd_dur (a : R.Ok) (d : Dur R S h at' L was) : fnd R S 2 = (⟨h, at', 0, h.num⟩, true) := by
  have h1 := res_head a d.hok
  have hs := d.slot
  have ho := d.other
  have ha := d.at1
  have hat : at' = 0 ∨ at' = 1 := by omega
  rcases hat with rfl | rfl
  · have e0 : fnd R S 1 = (⟨h, 0, 0, h.num⟩, true) := by
      show fstep R (S.getD (R.st + 0) empty) 0 (zeroSt, false) = _
      unfold fstep
      rw [hs, h1, if_pos ⟨rfl, .inl rfl⟩]
    show fstep R (S.getD (R.st + 1) empty) 1 (fnd R S 1) = _
    rw [e0]
    unfold fstep
    rcases ho with ho | ⟨h', k1, k2, ho⟩
    · rw [show R.st + (1 - 0) = R.st + 1 from rfl] at ho
      rw [ho, if_neg fun k => by rw [res_noughts a] at k; exact Bool.noConfusion k.1]
    · rw [show R.st + (1 - 0) = R.st + 1 from rfl] at ho
      rw [ho, res_head a k1, if_neg]
      rintro ⟨_, k | k⟩
      · exact Bool.noConfusion k
      · have : h.own < h'.own := k
        omega
  · show fstep R (S.getD (R.st + 1) empty) 1 (fstep R (S.getD (R.st + 0) empty) 0 (zeroSt, false)) = _
    rw [hs]
    rw [show R.st + (1 - 1) = R.st + 0 from rfl] at ho
    rcases ho with ho | ⟨h', k1, k2, ho⟩
    · have e0 : fstep R (S.getD (R.st + 0) empty) 0 (zeroSt, false) = (zeroSt, false) := by
        unfold fstep
        rw [ho, if_neg fun k => by rw [res_noughts a] at k; exact Bool.noConfusion k.1]
      rw [e0]
      unfold fstep
      rw [h1, if_pos ⟨rfl, .inl rfl⟩]
    · have e0 : fstep R (S.getD (R.st + 0) empty) 0 (zeroSt, false) = (⟨h', 0, 0, h'.num⟩, true) := by
        unfold fstep
        rw [ho, res_head a k1, if_pos ⟨rfl, .inl rfl⟩]
      rw [e0]
      unfold fstep
      rw [h1, if_pos ⟨rfl, .inr k2⟩]
end
end Go.Proofs.YtjmjmekmaamclaaDoor.jrn
