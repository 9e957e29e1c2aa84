/-
  Layer 4, the program's settle: what a closure tells becomes safe.
-/
import Derived.Test.YtjmjmekmaamclaaDoorDrvD
namespace Go.Proofs.YtjmjmekmaamclaaDoor.dev
open Go.ChangeShapes Go.WideShapes Go.ChangeAt Go.RowKit mem
set_option linter.unusedVariables false

/-- a closure (the function k over captured variables) tells what each block has -/
structure HasK (k : FuncId) (args : Value → Array Value) (X : Nat) (D : DevM) (r : PRep) (B : Ast) (val : Nat → ByteArray → ByteArray) : Prop where
  call : ∀ {W : World} {s : List ByteArray} (n : Nat), CSees W X D r s → (∀ y ∈ s, y.size = 512 * D.ns) → s.length = D.nb → (∃ F, B.p W F) → n < D.nb →
    Calls Tryd.prog k (args (.int .i64 (n : Int))) W fun e w' => e = .returned (.string (val n (s.getD n empty))) ∧ Ch (fun _ => False) W w'
  nil : ∀ n, D.ws n = [] → ∀ t, val n t = t
  size : ∀ n t, t.size = 512 * D.ns → (val n t).size = 512 * D.ns

theorem mapped_sz {val : Nat → ByteArray → ByteArray} {z nb : Nat} {s : List ByteArray} (h : ∀ n t, t.size = z → (val n t).size = z) (hs : ∀ y ∈ s, y.size = z) (hl : s.length = nb) : ∀ y ∈ mapped val nb s, y.size = z := by
  intro y hy
  simp only [mapped, List.mem_map, List.mem_range] at hy
  obtain ⟨n, hn, rfl⟩ := hy
  exact h n _ (hs _ (getD_mem (by omega)))
theorem midway_sz {val : Nat → ByteArray → ByteArray} {z nb : Nat} {L : Nat → Bool} {s : List ByteArray} (h : ∀ n t, t.size = z → (val n t).size = z) (hs : ∀ y ∈ s, y.size = z) (hl : s.length = nb) : ∀ y ∈ midway val nb L s, y.size = z :=
  mapped_sz (fun n t ht => by split; exact ht; exact h n t ht) hs hl
/-- no writes -/
theorem sep_norows (W : World) (f : Nat → Ast) (hf : ∀ n, (f n).p W fun _ => False) : ∀ L : List Nat, Sep W (L.map f) fun _ => False
  | [] => fun g h => h
  | n :: L => ⟨fun _ => False, fun _ => False, hf n, sep_norows W f hf L, fun g h => h.elim, fun g => by simp⟩
theorem st_norows {w wr : World} {As : List Ast} (h : St w wr As) (f : Nat → Ast) (hf : ∀ n, (f n).p wr fun _ => False) (L : List Nat) : St w wr (aMany (L.map f) :: As) :=
  h.push (Ch.refl _ wr) (A := aMany (L.map f)) (F := fun _ => False) (sep_norows wr f hf L) fun g h => h.elim

/-- behind it: the blocks, no writes, a new map -/
def settled (D : DevM) (val : Nat → ByteArray → ByteArray) : DevM := { D with safe := mapped val D.nb D.safe, cache := [] }
def settledR (r : PRep) (mb : Nat) : PRep := { r with mb := mb, mc := 0, rv := fun _ => .slice none 0 0 }
theorem settled_known {D : DevM} {r : PRep} {val : Nat → ByteArray → ByteArray} (a : PKnown D r) (h : ∀ n t, t.size = 512 * D.ns → (val n t).size = 512 * D.ns) (mb : Nat) : PKnown (settled D val) (settledR r mb) :=
  ⟨⟨a.ok.nb0, a.ok.nb1, a.ok.ns0, a.ok.ns1, mapped_len _ _ _, mapped_sz h a.ok.ssz a.ok.safe, fun x hx => (by cases hx), a.ok.plan⟩, a.plan, a.crash, a.left, Nat.le_refl _, fun n _ => rfl⟩
theorem settled_end {w W : World} {As : List Ast} {X mb : Nat} {D : DevM} {r : PRep} {val : Nat → ByteArray → ByteArray} (h : St w W (aVar X (pHead D { r with mb := mb } |>.set 7 (.int .i64 0)) 90 :: aMap mb 0 (fun _ => none) :: aRow 9 1 r.sv D.nb (strs (mapped val D.nb D.safe)) :: aShare 3 1 r.kv r.ks.length (intsV r.ks) r.q :: As)) :
    St w W (pParts X (settled D val) (settledR r mb) ++ As) := by
  have h1 := st_norows h (pRow (settled D val) (settledR r mb)) (fun n => ⟨World.ownsRow_nil _ _ _ _, fun g => by simp [settledR, Value.ownBlock]⟩) (List.range D.nb)
  have e : mapV (settled D val) (settledR r mb) = fun _ => none := by funext n; simp [mapV, settled, DevM.ws, wsFrom]
  have h2 : St w W (aMany (pRows (settled D val) (settledR r mb)) :: aVar X (pHead (settled D val) (settledR r mb)) 90 :: aMap mb 0 (mapV (settled D val) (settledR r mb)) :: aRow 9 1 r.sv D.nb (strs (mapped val D.nb D.safe)) :: aShare 3 1 r.kv r.ks.length (intsV r.ks) r.q :: As) := by
    rw [e]; exact h1
  exact h2.swap.rest fun V k => (k.swap.tail fun V k => k.swap).swap

theorem st_ne {w W : World} {As : List Ast} {b g n n' cap size : Nat} {o : Obj} {t : TypeId} {xs : List Value} (h : St w W (aBlk b o :: aRow t size (.slice (some ⟨g, 0, none⟩) n cap) n' xs :: As)) : ¬ b = g := by
  obtain ⟨U, ⟨F, V, ⟨_, h1⟩, ⟨F2, V2, ⟨_, k1⟩, _, _, k4⟩, h3, _⟩, _⟩ := h
  intro e
  subst e
  exact h3 (b, []) ((h1 _).2 rfl) ((k4 _).2 (.inl ((k1 _).2 rfl)))
theorem start_order {w W : World} {A1 A2 A3 A4 A5 A6 : Ast} {As : List Ast} (h : St w W (A3 :: A6 :: A1 :: A2 :: A4 :: A5 :: As)) : St w W (A1 :: A2 :: A3 :: A4 :: A5 :: A6 :: As) := by
  have h1 := h.swap
  have h2 : St w W ([A3, A1, A2, A4, A5] ++ A6 :: As) := St.behind (As := [A3, A1, A2, A4, A5]) h1
  exact (h2.third.third : St w W (A1 :: A2 :: A3 :: A4 :: A5 :: A6 :: As))
theorem end_order {w W : World} {A1 A2 A4 A5 A6 : Ast} {b rr c cnt : Nat} {V : Nat → Option Value} {L : Nat → Bool} {As : List Ast} (h : St w W (A1 :: A2 :: aRange b rr c V L cnt :: A4 :: A5 :: A6 :: As)) : St w W (A1 :: A2 :: A5 :: As) := by
  have h1 := h.third.drop.third.drop
  exact (h1.fourth.drop : St w W (A1 :: A2 :: A5 :: As))
set_option maxRecDepth 8000 in
set_option maxHeartbeats 4000000 in
theorem psettle_any {w wr : World} {As : List Ast} {X : Nat} {D : DevM} {r : PRep} {B : Ast} {val : Nat → ByteArray → ByteArray} {k : FuncId} {args : Value → Array Value} {caps : Array Value} (h : St w wr (B :: (pParts X D r ++ As))) (a : PKnown D r) (HK : HasK k args X D r B val)
    (hw : (k = 73 ∧ ∃ P, caps = #[pt P] ∧ args = fun v => #[v, pt P]) ∨ (k = 90 ∧ ∃ P1 P2 P3, caps = #[pt P1, pt P2, pt P3] ∧ args = fun v => #[v, pt P1, pt P2, pt P3])) :
    Calls Tryd.prog 50 #[pt X, .func (Fn.func k) #[] caps] wr fun e w' => e = .returned (.tuple #[]) ∧ ∃ mb, St w w' (pParts X (settled D val) (settledR r mb) ++ As) := by
  have H := Lib.hid h
  have HA := Lib.hid a
  have HHK := Lib.hid HK
  have hS := psees a h.drop
  have c6 := hS.c6
  have hmm := @run_makeMap Tryd.prog
  clear h a HK hS
  rcases hw with ⟨rfl, P, rfl, rfl⟩ | ⟨rfl, P1, P2, P3, rfl, rfl⟩
  all_goals
    go_enter Tryd.func50, Tryd.ntmps50
    go_wp2_with (at_range; refine lst_range H.out.fourth Tryd.underlying86 rfl _ rfl rfl ?_; intro w1 rr cnt h1 hch hr; have H1 := Lib.hid h1; clear h1 hch hr; go_frame)
    go_loopw [4] (fun _ W' => ∃ L cnt, St w W' (pPartsG X D r (midway val D.nb L D.safe) (aRange r.mb rr r.mc (mapV D r) L cnt) ++ (B :: As))) (fun _ W' => W'.rangeLeft r.mb rr)
    case atStart =>
      refine ⟨fun n => (mapV D r n).isSome, cnt, ?_⟩
      have e : midway val D.nb (fun n => (mapV D r n).isSome) D.safe = D.safe := midway_start HA.out.ok.safe fun n hn h => HHK.out.nil n (by
        unfold mapV at h
        by_cases e : D.ws n = []
        · exact e
        · rw [if_neg e] at h; cases h)
      rw [e]
      exact start_order H1.out
    case round =>
      obtain ⟨L, cnt2, h1⟩ := hrel
      have hleft := st_left h1.third
      have HL := Lib.hid hleft
      have H2 := Lib.hid h1
      clear h1 hleft H1
      go_wp2_with (at_next; refine lst_next H2.out.third rfl _ rfl rfl ?_ ?_)
      · intro h0 hl0
        have e : midway val D.nb L D.safe = mapped val D.nb D.safe := midway_end fun n hn => hl0 n (by have := HA.out.ok.nb1; omega)
        have h2 := H2.out
        rw [e] at h2
        have H3 := Lib.hid (st_mapnew (end_order h2))
        have x6 : _ = some (Value.map (some r.mb)) := st_cell H3.out.swap 6
        have x7 : _ = some (Value.int .i64 (D.cache.length : Int)) := st_cell H3.out.swap 7
        have f6 := st_free H3.out.swap 6
        have f7 := st_free H3.out.swap 7
        clear h2 e H2 hl0
        go_wp2_with fail
        go_end0
        refine ⟨rfl, wr.heap.size, settled_end ?_⟩
        have h5 := st_set (st_set H3.out.swap 6 (.map (some wr.heap.size))) 7 (.int .i64 0)
        exact h5
      · intro n x w3 cnt3 hn hl hv hlt h3 hch hen
        have hnb : n < D.nb := by
          rcases Nat.lt_or_ge n D.nb with h | h
          · exact h
          · have := ws_out HA.out.ok h
            unfold mapV at hv
            rw [if_pos this] at hv
            cases hv
        have hord : St w w3 (pPartsG X D r (midway val D.nb L D.safe) (aRange r.mb rr r.mc (mapV D r) (fun m => L m && !decide (m = n)) cnt3) ++ (B :: As)) := h3.swap.rest fun V k => k.swap
        have hsz := midway_sz (L := L) HHK.out.size HA.out.ok.ssz HA.out.ok.safe
        have hS := csees (M := aRange r.mb rr r.mc (mapV D r) (fun m => L m && !decide (m = n)) cnt3) HA.out (midway_len _ _ _ _) (fun F h => h.1.map) hord
        have c5 := hS.c5
        obtain ⟨g, cap, hsv, hgc⟩ := hS.hs
        rw [hsv] at c5
        have HCALL := Lib.hid (fun (W : World) (h : Ch (fun _ => False) w3 W) => HHK.out.call n (hS.ch h) hsz (midway_len _ _ _ _) (by
          obtain ⟨F, hB⟩ := (h3.same h).drop.drop.drop.drop.drop.get
          exact ⟨F, hB⟩) hnb)
        rw [midway_get hnb hl] at HCALL
        have HPUT := Lib.hid (fun (W : World) (x : ByteArray) (h : Ch (fun _ => False) w3 W) => by
          have h4 := (h3.same h).third
          rw [hsv] at h4
          have h5 := st_put (u := .string x) h4 (show n < D.nb * 1 by omega)
          rw [← strs_set] at h5
          exact (h5.third : St w _ (aVar X (pHead D r) 90 :: aRow 9 1 (.slice (some ⟨g, 0, none⟩) D.nb cap) D.nb (strs ((midway val D.nb L D.safe).set n x)) :: aRange r.mb rr r.mc (mapV D r) (fun m => L m && !decide (m = n)) cnt3 :: _)))
        have HCELL := Lib.hid (fun (W : World) (h : Ch (fun _ => False) w3 W) => h.cell (hgc n hnb))
        have HFRZ := Lib.hid (fun (W : World) (h : Ch (fun _ => False) w3 W) => by
          have h4 := (h3.same h).third
          rw [hsv] at h4
          exact st_unfrozen h4 n)
        have hxg : ¬ X = g := by
          have h4 := hord
          unfold pPartsG at h4
          rw [hsv] at h4
          exact st_ne h4
        have hgx : ¬ g = X := fun e => hxg e.symm
        have n0 : (0 : Int) ≤ n := by omega
        have n1 : (n : Int) < D.nb := by omega
        have nb1 : (D.nb : Int) ≤ 4096 := by have := HA.out.ok.nb1; omega
        have HSTEP := Lib.hid (midway_step (val := val) (nb := D.nb) (L := L) (s := D.safe) hnb)
        generalize hx : val n (D.safe.getD n empty) = x0 at HCALL HSTEP
        have HSV := Lib.hid hsv
        have HLEFT := Lib.hid (show cnt3 < cnt2 from hlt)
        have HST3 := Lib.hid h3
        clear hx hord hsz hS hgc hv hlt h3 hch hl H2 hsv
        go_wp2_with fail
        go_region_held3 (fun W => W.cell? ⟨X, 5, none⟩ = some (.slice (some ⟨g, 0, none⟩) D.nb cap)) (go_keep)
          (first
            | ((go_at_call 73; refine (HCALL.out _ (by first | exact Ch.refl _ _ | exact (Ch.refl _ _).drew | exact (Ch.refl _ _).drewN _)).mono ?_; rintro e w4 ⟨rfl, h4⟩; have h5 : Ch (fun _ => False) w3 w4 := ⟨h4.os, h4.tape, h4.output, h4.size, h4.block⟩; have H5 := Lib.hid h5; have x5 := h5.cell c5; have y1 := HCELL.out _ h5; have y2 := HFRZ.out _ h5; clear h4 h5))
            | ((go_at_call 90; refine (HCALL.out _ (by first | exact Ch.refl _ _ | exact (Ch.refl _ _).drew | exact (Ch.refl _ _).drewN _)).mono ?_; rintro e w4 ⟨rfl, h4⟩; have h5 : Ch (fun _ => False) w3 w4 := ⟨h4.os, h4.tape, h4.output, h4.size, h4.block⟩; have H5 := Lib.hid h5; have x5 := h5.cell c5; have y1 := HCELL.out _ h5; have y2 := HFRZ.out _ h5; clear h4 h5)))
        go_roundw
        case rel => exact ⟨_, _, _, _, _, _, _, _, _, _, _, _, _, _, ⟨_, cnt3, by
          have h6 := HPUT.out w4 x0 H5.out
          rw [HSTEP.out] at h6
          unfold pPartsG
          rw [HSV.out]
          exact h6⟩, rfl⟩
        case measure =>
          have h6 := st_left (HPUT.out w4 x0 H5.out).third
          rw [h6, HL.out]
          exact HLEFT.out
end Go.Proofs.YtjmjmekmaamclaaDoor.dev
