/-
  Layer 4, the document's device: Plan.
-/
import Derived.Test.YtoiankgafclbdaaDoorDevI
namespace Go.Proofs.YtoiankgafclbdaaDoor.dev
open Go.ChangeShapes Go.WideShapes Go.ChangeAt Go.RowKit mem
set_option linter.unusedVariables false

section
variable {w wr : World} {As : List Ast} {X : Nat} {D : DevM} {r : RRep}

theorem ints_one (ks : List Int) : ∀ u ∈ intsV ks, u.oneCell' = true := by
  intro u hu
  simp only [intsV, List.mem_map] at hu
  obtain ⟨k, _, rfl⟩ := hu
  rfl
theorem ints_news {W : World} {b o : Nat} {len cap : Nat} {ks : List Int} (h : IntsIn W (.slice (some ⟨b, o, none⟩) len cap) ks) : ∀ j u, (intsV ks)[j]? = some u → W.cell? ((⟨b, o, none⟩ : Addr).add j) = some u := by
  intro j u hj
  obtain ⟨ao, cap', hv, hc⟩ := h
  have hlt : j < ks.length := by
    have := (List.getElem?_eq_some_iff.1 hj).1
    rwa [intsV_len] at this
  obtain ⟨b', o', hao, hcell⟩ := hc j hlt
  simp only [Value.slice.injEq] at hv
  rw [← hv.1] at hao
  simp only [Option.some.injEq, Addr.mk.injEq, and_true] at hao
  obtain ⟨rfl, rfl⟩ := hao
  rw [Addr.add_mid, hcell, ← hj, intsV_at ks j hlt]
theorem IntsIn.kept {W : World} {v : Value} {ks : List Int} (h : IntsIn w v ks) (hc : Ch (fun _ => False) w W) : IntsIn W v ks := by
  obtain ⟨ao, cap, hv, h⟩ := h
  exact ⟨ao, cap, hv, fun i hi => by obtain ⟨b, o, h1, h2⟩ := h i hi; exact ⟨b, o, h1, hc.cell h2⟩⟩

theorem setPlan_down {n : Int} {ks : List Int} {torn : Int} {mask : Nat} (d : D.down = true) : D.setPlan n ks torn mask = (D, 8) := by unfold DevM.setPlan; rw [if_pos d]
theorem setPlan_arg {n : Int} {ks : List Int} {torn : Int} {mask : Nat} (d : D.down = false) (h : n < 0) : D.setPlan n ks torn mask = (D, 1) := by unfold DevM.setPlan; rw [if_neg (by rw [d]; decide), if_pos h]
theorem setPlan_ok {n : Nat} {ks : List Int} {torn : Int} {mask : Nat} (d : D.down = false) : D.setPlan n ks torn mask = ({ D with plan := if (n : Int) = 0 then none else some ⟨n, ks, torn, mask⟩ }, 0) := by
  unfold DevM.setPlan; rw [if_neg (by rw [d]; decide), if_neg (by omega), Int.toNat_natCast]

theorem known_plan {n : Nat} {kv : Value} {ks : List Int} {torn : Int} {mask : Nat} (a : RKnown D r) (hn : n ≤ 9223372036854775807) (C : CrashOk ks torn mask) :
    RKnown { D with plan := if (n : Int) = 0 then none else some ⟨n, ks, torn, mask⟩ } { rAt r n with kv := kv, ks := ks, torn := torn, mask := mask } := by
  obtain ⟨b1, b2, b3, b4, b5, b6, b7, b8⟩ := a.1
  refine ⟨⟨b1, b2, b3, b4, b5, b6, b7, fun p hp => ?_⟩, ?_, C, hn⟩
  · simp only at hp
    split at hp
    · cases hp
    · cases hp
      exact ⟨by show 1 ≤ n; omega, hn, C⟩
  · by_cases z : (n : Int) = 0
    · rw [if_pos z]; exact .inl ⟨rfl, by show n = 0; omega⟩
    · rw [if_neg z]; exact .inr ⟨_, rfl, by show 1 ≤ n; omega, rfl, rfl, rfl, rfl⟩

theorem ch_other {W W' : World} {B : Nat} (h : Ch (fun g => some B = some g) W W') {a : Addr} {v : Value} (hne : a.block ≠ B) (hc : W.cell? a = some v) : W'.cell? a = some v := by
  rw [World.cell?_of_block (w := W) (h.block a.block (World.block_lt_of_cell? W a hc) fun e => hne (Option.some.inj e).symm)]
  exact hc

end
end Go.Proofs.YtoiankgafclbdaaDoor.dev
