/-
  Layer 4, the program's goDown, counted.
-/
import Derived.Test.YtjmjmekmaamclaaDoorDrvE
import Derived.Test.YtjmjmekmaamclaaDoorDevG
namespace Go.Proofs.YtjmjmekmaamclaaDoor.dev
open Go.ChangeShapes Go.WideShapes Go.ChangeAt Go.RowKit mem
set_option linter.unusedVariables false

theorem lastOf_size {z : Nat} : ∀ (l : List (Nat × ByteArray)) (s : ByteArray), s.size = z → (∀ x ∈ l, x.2.size = z) → (lastOf l s).size = z
  | [], s, h, _ => h
  | x :: l, s, h, hl => lastOf_size l x.2 (hl x List.mem_cons_self) fun y hy => hl y (List.mem_cons_of_mem _ hy)
theorem blk_cell {W : World} {b : Nat} {cs : List Value} {t : TypeId} (h : W.heap[b]? = some (.cells cs.toArray t (0, 0))) (i : Nat) : W.cell? ⟨b, i, none⟩ = cs[i]? := by
  rw [cell_of_row _ _ _ _ _ _ h]
  simp
theorem newest_has {X P : Nat} {D : DevM} {r : PRep} (a : PKnown D r) (hl : D.cache.length ≤ 1073741824) :
    HasK 73 (fun v => #[v, pt P]) X D r (aVar P [pt X] 32) (fun n s => lastOf (D.ws n) s) where
  call := fun n S _ _ ⟨F, hB, _⟩ hn => (pnewest1_any S a (blk_cell hB 0) n hn hl).mono fun e w' ⟨h1, h2⟩ => ⟨h1, by subst h2; exact Ch.refl _ _⟩
  nil := fun n h t => by rw [h]; rfl
  size := fun n t ht => lastOf_size _ _ ht fun x hx => (ws_size a.ok x hx).1
theorem surv_has {X P1 P2 P3 kb kc : Nat} {kv : Value} {ks : List Int} {torn : Int} {mask : Nat} {D : DevM} {r : PRep} (a : PKnown D r) (hl : D.cache.length ≤ 1073741824) (C : CrashOk ks torn mask) :
    HasK 90 (fun v => #[v, pt P1, pt P2, pt P3]) X D r (aMany (survB X kv ks torn mask D.cache.length P1 P2 P3 kb kc)) (fun n s => survs ks torn mask (D.ws n) s) where
  call := fun n S hs hsl ⟨F, F1, V1, ⟨hb1, _⟩, ⟨F2, V2, ⟨hb2, _⟩, ⟨F3, V3, ⟨hb3, _⟩, ⟨F4, V4, ⟨hm, _⟩, _⟩, _⟩, _⟩, _⟩ hn =>
    psurv1_any (kv := kv) S a hs hsl (blk_cell hb1 0) (blk_cell hb2 1) (blk_cell hb2 2) (blk_cell hb3 0) hm C.mask n hn hl
  nil := fun n h t => by rw [h]; rfl
  size := fun n t ht => survs_size _ _ ht fun x hx => (ws_size a.ok x hx).1

theorem ints_ch {W W' : World} {kv : Value} {ks : List Int} (h : IntsIn W kv ks) (hc : Ch (fun _ => False) W W') : IntsIn W' kv ks := by
  obtain ⟨ao, cap, hv, k⟩ := h
  exact ⟨ao, cap, hv, fun i hi => by obtain ⟨b, o, e, hcell⟩ := k i hi; exact ⟨b, o, e, hc.cell hcell⟩⟩
/-- a share of a row of ints is a slice of ints -/
theorem share_ints {w W : World} {As : List Ast} {kv : Value} {ks : List Int} {q : List Bool} (h : St w W (aShare 3 1 kv ks.length (intsV ks) q :: As)) : IntsIn W kv ks := by
  rcases (st_shared h).2 with ⟨h1, h2⟩ | ⟨g, cap, cur, hv, hr⟩
  · exact ⟨none, 0, by rw [h1, h2], fun i hi => by omega⟩
  · refine ⟨_, cap, hv, fun i hi => ⟨g, 0, rfl, ?_⟩⟩
    have h1 := st_shared h
    subst hv
    rw [Nat.zero_add, h1.cellAt i (by omega)]
    exact intsV_at _ _ hi

/-- no plan -/
def unplanned (r : PRep) : PRep := { r with left := 0, kv := .slice none 0 0, ks := [], torn := 0, mask := 0, q := [] }
theorem crash0 : CrashOk [] 0 0 := ⟨fun k h => (by cases h), by decide, ⟨by decide, by decide⟩, by decide⟩
theorem unplanned_known {D : DevM} {r : PRep} (a : PKnown D r) : PKnown { D with plan := none } (unplanned r) :=
  ⟨⟨a.ok.nb0, a.ok.nb1, a.ok.ns0, a.ok.ns1, a.ok.safe, a.ok.ssz, a.ok.csz, fun p hp => (by cases hp)⟩, .inl ⟨rfl, rfl⟩, crash0, by show 0 ≤ _; omega, a.mc, a.none⟩
theorem unplanned_end {w W : World} {As : List Ast} {X : Nat} {D : DevM} {r : PRep} (h : St w W (pParts X D r ++ As)) :
    St w ((((W.setCell ⟨X, 0, none⟩ (.int .i64 0)).setCell ⟨X, 1, none⟩ (.slice none 0 0)).setCell ⟨X, 2, none⟩ (.int .i64 0)).setCell ⟨X, 3, none⟩ (.int .u8 0)) (pParts X { D with plan := none } (unplanned r) ++ As) := by
  have h1 := st_set (st_set (st_set (st_set h 0 (.int .i64 0)) 1 (.slice none 0 0)) 2 (.int .i64 0)) 3 (.int .u8 0)
  have h2 := h1.fifth.drop
  have h3 : St w _ (aShare 3 1 (.slice none 0 0) 0 [] [] :: _) := st_share (st_pushrow h2)
  have h4 := St.behind (As := [_, _, _, _]) h3
  exact h4

set_option maxRecDepth 8000 in
set_option maxHeartbeats 2000000 in
theorem pgodown_any {w wr : World} {As : List Ast} {X : Nat} {D : DevM} {r : PRep} (h : St w wr (pParts X D r ++ As)) (a : PKnown D r) {kv : Value} {ks : List Int} {torn : Int} {mask : Nat} (hk : IntsIn wr kv ks) (C : CrashOk ks torn mask) (hl : D.cache.length ≤ 1073741824) :
    Calls Tryd.prog 48 #[pt X, .agg #[kv, .int .i64 torn, .int .u8 (mask : Int)]] wr fun e w' => e = .returned (.tuple #[]) ∧ ∃ r', PKnown (D.fall ks torn mask) r' ∧ St w w' (pParts X (D.fall ks torn mask) r' ++ As) := by
  have h1 := h.alloc (.cells #[kv, .int .i64 torn, .int .u8 (mask : Int)] 53)
  have HS := Lib.hid (psurviving_any (torn := torn) (mask := mask) h1 (ints_ch hk ((Ch.refl _ _).alloc _)) (psees a h1).c7 C hl)
  have HA := Lib.hid a
  have HC := Lib.hid C
  have HL := Lib.hid hl
  clear h h1 a hk C hl
  go_enter Tryd.func48, Tryd.ntmps48
  go_wp2_with fail
  refine HS.out.mono ?_
  rintro e w2 ⟨P1, P2, P3, kb, kc, rfl, hch, h2⟩
  have HT := Lib.hid (psettle_any h2 HA.out (surv_has (kv := kv) HA.out HL.out HC.out) (.inr ⟨rfl, P1, P2, P3, rfl, rfl⟩))
  clear h2 hch
  go_wp2_with fail
  refine HT.out.mono ?_
  rintro e w3 ⟨rfl, mb, h3⟩
  have hkn := settled_known (val := fun n s => survs ks torn mask (D.ws n) s) HA.out (fun n t ht => survs_size _ _ ht fun x hx => (ws_size HA.out.ok x hx).1) mb
  have hS := psees hkn h3
  have x0 := hS.c0
  have x1 := hS.c1
  have x2 := hS.c2
  have x3 := hS.c3
  have x8 := hS.c8
  have f0 := hS.fr 0
  have f1 := hS.fr 1
  have f2 := hS.fr 2
  have f3 := hS.fr 3
  have f8 := hS.fr 8
  have HU := Lib.hid (pdev_down (unplanned_end h3) true)
  have HKU := Lib.hid (unplanned_known hkn)
  clear h3 hkn hS HS HT
  go_wp2_with fail
  go_end0
  have e : D.fall ks torn mask = ({ ({ settled D (fun n s => survs ks torn mask (D.ws n) s) with plan := none } : DevM) with down := true } : DevM) := by
    unfold DevM.fall settled
    rw [← fallen_mapped HA.out.ok ks torn mask]
  rw [e]
  exact ⟨rfl, unplanned (settledR r mb), pknown_like (q := r) HKU.out rfl rfl rfl rfl rfl, HU.out⟩

section
variable {w wr : World} {As : List Ast} {X : Nat} {D : DevM} {r : PRep}
def pAt (r : PRep) (m : Nat) : PRep := { r with left := m }
/-- what stands behind 'counted' -/
structure PCounted (D : DevM) (r : PRep) (m : Nat) : Prop where
  known : PKnown D.counted.1 (pAt r m)
  plan : ∀ p, D.counted.2 = some p → p.keep = r.ks ∧ p.torn = r.torn ∧ p.mask = r.mask
theorem pcounted_kn (a : PKnown D r) {m : Nat} (hm : m ≤ 9223372036854775807) (hp : PlanIs D.counted.1.plan m r.ks r.torn r.mask) : PKnown D.counted.1 (pAt r m) := by
  obtain ⟨s1, s2, s3, s4, s5, s6, s7⟩ := counted_same D
  exact ⟨a.ok.counted, hp, a.crash, hm, by rw [s4]; exact a.mc, fun n h => a.none n (by unfold DevM.ws at h ⊢; rw [s4] at h; exact h)⟩
theorem pcounted_none (a : PKnown D r) (h : r.left = 0) : D.counted = ({ D with calls := D.calls + 1 }, none) ∧ PCounted D r 0 := by
  have hp : D.plan = none := by
    rcases a.plan with ⟨h1, _⟩ | ⟨q, h1, h2, h3, _⟩
    · exact h1
    · omega
  have e : D.counted = ({ D with calls := D.calls + 1 }, none) := by unfold DevM.counted; rw [hp]
  refine ⟨e, ⟨pcounted_kn a (Nat.zero_le _) ?_, fun p hp => by rw [e] at hp; cases hp⟩⟩
  rw [e]
  exact .inl ⟨hp, rfl⟩
theorem pcounted_one (a : PKnown D r) (h : r.left = 1) : (∃ p, D.counted = ({ D with calls := D.calls + 1, plan := none }, some p)) ∧ PCounted D r 0 := by
  rcases a.plan with ⟨h1, h2⟩ | ⟨q, h1, h2, h3, h4, h5, h6⟩
  · omega
  · have e : D.counted = ({ D with calls := D.calls + 1, plan := none }, some q) := by unfold DevM.counted; rw [h1]; simp only []; rw [if_pos (by omega)]
    refine ⟨⟨q, e⟩, ⟨pcounted_kn a (Nat.zero_le _) ?_, fun p hp => ?_⟩⟩
    · rw [e]
      exact .inl ⟨rfl, rfl⟩
    · rw [e] at hp
      cases hp
      exact ⟨h4.symm, h5.symm, h6.symm⟩
theorem pcounted_more (a : PKnown D r) (h : 2 ≤ r.left) : (∃ p, D.counted = ({ D with calls := D.calls + 1, plan := some p }, none)) ∧ PCounted D r (r.left - 1) := by
  rcases a.plan with ⟨h1, h2⟩ | ⟨q, h1, h2, h3, h4, h5, h6⟩
  · omega
  · have e : D.counted = ({ D with calls := D.calls + 1, plan := some { q with at' := q.at' - 1 } }, none) := by unfold DevM.counted; rw [h1]; simp only []; rw [if_neg (by omega)]
    refine ⟨⟨_, e⟩, ⟨pcounted_kn a (by have := a.left; omega) ?_, fun p hp => by rw [e] at hp; cases hp⟩⟩
    rw [e]
    exact .inr ⟨_, rfl, by show 1 ≤ q.at' - 1; omega, by show r.left - 1 = q.at' - 1; omega, h4, h5, h6⟩

theorem pcounted_any (h : St w wr (pParts X D r ++ As)) (a : PKnown D r) (hc : D.calls + 1 ≤ 4611686018427387904) :
    Calls Tryd.prog 49 #[pt X] wr fun e w' => e = .returned (.bool D.counted.2.isSome) ∧ ∃ m, PCounted D r m ∧ St w w' (pParts X D.counted.1 (pAt r m) ++ As) := by
  have hS := psees a h
  have c9 := hS.c9
  have c0 := hS.c0
  have f9 := hS.fr 9
  have f0 := hS.fr 0
  have e1 : IntKind.i64.wrap ((D.calls : Int) + 1) = (D.calls : Int) + 1 := IntWalk.i64_in _ (by omega)
  have r0 : (0 : Int) ≤ D.calls := by omega
  have r1 : (D.calls : Int) ≤ 4611686018427387903 := by omega
  have h9 := pdev_calls h (D.calls + 1)
  rw [show ((D.calls + 1 : Nat) : Int) = (D.calls : Int) + 1 from by simp] at h9
  have a4 := a.left
  have nx : ¬ (9 : Nat) = 0 := by omega
  by_cases z : r.left = 0
  · obtain ⟨e, hC⟩ := pcounted_none a z
    have H1 := Lib.hid hC
    have H9 := Lib.hid h9
    have HE := Lib.hid e
    have HZ := Lib.hid z
    rw [z] at c0
    clear hC h9 hS h a hc a4 e z
    go_enter Tryd.func49, Tryd.ntmps49
    go_wp2_with fail
    go_ret
    refine ⟨by rw [HE.out]; rfl, 0, H1.out, ?_⟩
    rw [HE.out, show pAt r 0 = r from by unfold pAt; rw [← HZ.out]]
    exact H9.out
  · by_cases z1 : r.left = 1
    · obtain ⟨⟨p, e⟩, hC⟩ := pcounted_one a z1
      have H1 := Lib.hid hC
      have h94 := pdev_left h9 0
      have H9 := Lib.hid h94
      have HE := Lib.hid e
      rw [z1] at c0
      clear hC h9 h94 hS h a hc a4 e z z1
      go_enter Tryd.func49, Tryd.ntmps49
      go_wp2_with fail
      go_ret
      refine ⟨by rw [HE.out]; rfl, 0, H1.out, ?_⟩
      rw [HE.out]
      exact H9.out
    · obtain ⟨⟨p, e⟩, hC⟩ := pcounted_more a (by omega)
      have H1 := Lib.hid hC
      obtain ⟨m, hm⟩ : ∃ m, r.left = m + 2 := ⟨r.left - 2, by omega⟩
      have h94 := pdev_left h9 (m + 1)
      rw [show ((m + 1 : Nat) : Int) = (m : Int) + 1 from by simp] at h94
      have H9 := Lib.hid h94
      have HE := Lib.hid e
      have HM := Lib.hid hm
      rw [hm, show ((m + 2 : Nat) : Int) = (m : Int) + 2 from by simp] at c0
      have e2 : IntKind.i64.wrap ((m : Int) + 2 - 1) = (m : Int) + 1 := by rw [show (m : Int) + 2 - 1 = (m : Int) + 1 from by omega]; exact IntWalk.i64_in _ (by omega)
      have t1 : (((m : Int) + 2) == 0) = false := by rw [beq_eq_false_iff_ne]; omega
      have t2 : (((m : Int) + 1) == 0) = false := by rw [beq_eq_false_iff_ne]; omega
      have m0 : (0 : Int) ≤ m := by omega
      have m1 : (m : Int) + 2 ≤ 9223372036854775807 := by omega
      clear hC h9 h94 hS h a hc a4 e z z1 hm
      go_enter Tryd.func49, Tryd.ntmps49
      go_wp2_with fail
      go_ret
      refine ⟨by rw [HE.out]; rfl, m + 1, by have := H1.out; rwa [HM.out] at this, ?_⟩
      rw [HE.out]
      exact H9.out
end
end Go.Proofs.YtjmjmekmaamclaaDoor.dev
