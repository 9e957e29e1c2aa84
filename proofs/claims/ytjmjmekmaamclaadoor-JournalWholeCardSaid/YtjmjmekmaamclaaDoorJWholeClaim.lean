/-
  JournalWhole answers true for any length, any number of sectors and any list of days, whatever the world and the tape: a transaction happens wholly or not at all, wherever the device goes down, and what was acknowledged stays, as chapter 5 says. Conditions: the two tables of package sums stand, when the call begins, as the program's own text lays them; the card ties that to the text.
-/
import Derived.Test.YtjmjmekmaamclaaDoorCards
import Derived.Test.YtjmjmekmaamclaaDoorMV
import Derived.Test.YtjmjmekmaamclaaDoorMR
import Derived.Test.YtjmjmekmaamclaaDoorJyArg
import Derived.ProofKit
import Derived.SevenTiedAt
import Derived.OpenShut
import Derived.Carry
import Derived.SizedLaws
namespace Go.Proofs.YtjmjmekmaamclaaDoor.journalWhole
open Go.ChangeShapes Go.WideShapes Go.ChangeAt Go.RowKit mem dev

theorem own : ownKnob Tryd.prog.godebug = none := by kernel_rfl

set_option maxRecDepth 100000 in
theorem lifted (os : Os) (started : os.Started) (H : Type) (enc : TypeId × Value → H) :
    ReturnsInHanded {} Tryd.checked os 4 .any (fun w args => (Rows.journalWholeSpec.pre enc Tryd.prog Tryd.f4 [] false w args ∧ laidMetH Tryd.prog sums.laid2 w) ∧ sizedMet enc Tryd.prog Tryd.f4 (OpenSpec.ofChange Rows.journalWholeSpec) false w args) (Rows.journalWholeSpec.post enc Tryd.prog Tryd.f4 false true false false) := by
  refine returnsInHanded_of_change_and (C := Tryd.checked) (X := fun w _ => laidMetH Tryd.prog sums.laid2 w) (fun _ _ _ hh h => h.of_heap hh) own started (by kernel_rfl) Tryd.func4
    (ChangeSpec.witness_shaped (enc := enc) (C := Tryd.checked) (os := os) (X := fun w _ => laidMetH Tryd.prog sums.laid2 w) false (World.doorLaid Tryd.prog 400 os) #[.int .i64 0, .int .i64 0, .slice none 0 0] 8 rfl (World.shaped_of_RefB (by kernel_rfl) (by kernel_rfl)) (by kernel_rfl) (by kernel_rfl) (by kernel_rfl) (sums.door_met2 os _)) ?_
  intro W base args ds gs before hval0 hW hcnd hsz0 hL _
  have hsz : (DataW.weightsEach Tryd.prog (Tryd.f4.params.toList ++ Rows.journalWholeSpec.plain.varTypes Tryd.prog) (ds ++ gs)).all (· ≤ reachBytes) = true := hsz0
  clear hsz0
  have hval : ∀ (j : Nat) t v, Tryd.f4.params[j]? = some t → args[j]? = some v → Value.okWide Tryd.prog W .any base t v := hval0
  have hW' := hW
  obtain ⟨p, q, hA0, hV, rfl, hfz, hnd⟩ := hW
  have hA : DataW.TrodAll enc Tryd.prog W 0 (fun _ => true) true Tryd.f4.params.toList args.toList ds p := hA0
  rw [Tryd.params4] at hA hval hsz
  obtain ⟨v0, v1, v2, d0, d1, d2, p0, p1, p2, rfl, rfl, rfl, h0, h1, h2⟩ := trodAll_three hA
  obtain ⟨rfl, rfl⟩ := trodVars_none hV
  have h0k := h0
  have h1k := h1
  have h2k := h2
  have F2 : jrn.Fits 42 d2 := jrn.fits_of (j := 2) hsz rfl rfl
  obtain ⟨fuel0, g0⟩ := h0
  obtain ⟨a2, n2, c2, rfl⟩ := okWide_slice Tryd.underlying42 (hval 2 42 v2 rfl rfl)
  obtain ⟨fuel1, g1⟩ := h1
  obtain ⟨fuel2, g2⟩ := h2
  obtain ⟨u2, l, e2, o2, hl, k2⟩ := jrn.days_open g2 F2
  obtain ⟨n, e0, _, w0⟩ := DataW.trod_int Tryd.underlying3 g0
  obtain ⟨m, e1, _, w1⟩ := DataW.trod_int Tryd.underlying3 g1
  obtain rfl : u2 = .slice a2 n2 c2 := by simpa [Value.cells] using e2.symm
  obtain ⟨b', rfl⟩ := okWide_int Tryd.underlying3 (hval 0 3 v0 rfl rfl)
  obtain rfl : b' = n := by simpa [Value.cells] using e0
  obtain ⟨b1, rfl⟩ := okWide_int Tryd.underlying3 (hval 1 3 v1 rfl rfl)
  obtain rfl : b1 = m := by simpa [Value.cells] using e1
  have hlt : ∀ x ∈ p0 ++ (p1 ++ (p2 ++ [])), x.block < W.heap.size := fun x hx => by simpa using hW'.lt x (by simpa using hx)
  refine (jrn.whole_law (sums.of_laidH2 hL) b' (jrn.wf64 w0) b1 (jrn.wf64 w1) (.slice a2 n2 c2) l o2 hl k2).mono fun e W' ⟨he, hst⟩ => ?_
  subst he
  have hb : Below W.heap.size W W' := hst.ch.below
  exact ⟨_, rfl, _, _, _, [], _, [], hW', trodAll_cons_mk (shut_bool Tryd.underlying4 _) trodAll_mk0,
    trodAll_cons_mk (Below.trod jrn.laidOut (by kernel_rfl) (of_decide_eq_true (by kernel_rfl)) h0k hb fun x hx => hlt x (by simp [hx]))
      (trodAll_cons_mk (Below.trod jrn.laidOut (by kernel_rfl) (of_decide_eq_true (by kernel_rfl)) h1k hb fun x hx => hlt x (by simp [hx]))
        (trodAll_cons_mk (Below.trod jrn.laidOut (by kernel_rfl) (of_decide_eq_true (by kernel_rfl)) h2k hb fun x hx => hlt x (by simp [hx])) trodAll_mk0)), hV, hb.frame _, fun h => by cases h⟩

theorem proved : Rows.JournalWholeSaid :=
  OpenClaim.holds_of_wide 4 Tryd.f4 rfl rfl rfl rfl rfl rfl rfl ⟨rfl, rfl, rfl, rfl, rfl⟩ rfl rfl rfl rfl rfl (by kernel_rfl) Tryd.func4 (by kernel_rfl)
    (of_decide_eq_true (by kernel_rfl)) (by unfold Func.isWrapper; first | (rw [if_pos (by decide +kernel)]; kernel_rfl) | (rw [if_neg (by decide +kernel)]; exact ⟨rfl, rfl⟩))
    (fun os started H enc _ => lifted os started H enc)

/-- the card: the listed tables are tied to the program's own text -/
theorem card : Rows.JournalWholeCardSaid :=
  Claim7.holds_tied_plain_at .later [] [.data, .data] true Rows.journalWholeCard.stood.harness false
    proved (fun _ h => by cases h) (by kernel_rfl) (fun _ h => by cases h) journalWhole_row_tie rfl ⟨rfl, rfl⟩ (by kernel_rfl) rfl
    (fun f fn hf hfn => by
      obtain rfl : f = 4 := Option.some.inj ((show Tryd.prog.funcNamed "wattle/wattlelaw05.JournalWhole" = some 4 by kernel_rfl).symm.trans hf) |>.symm
      obtain rfl : fn = Tryd.f4 := (Option.some.inj (Tryd.func4.symm.trans hfn)).symm
      exact ⟨by kernel_rfl, fun j t ht => by
        have hall : (Tryd.f4.params.toList.all fun u => !Tryd.prog.wantsStandIn u) = true := by kernel_rfl
        have hm : t ∈ Tryd.f4.params.toList := by simpa using Array.mem_of_getElem? ht
        exact (show Tryd.prog.wantsStandIn t = false by simpa using List.all_eq_true.1 hall t hm)⟩)
    (by kernel_rfl)
end Go.Proofs.YtjmjmekmaamclaaDoor.journalWhole
