/-
  Layer 4, the document's device: Plan.
-/
import Derived.Test.YtjmjmekmaamclaaDoorDevI
namespace Go.Proofs.YtjmjmekmaamclaaDoor.dev
open Go.ChangeShapes Go.WideShapes Go.ChangeAt Go.RowKit mem
set_option linter.unusedVariables false

section
variable {w wr : World} {As : List Ast} {X : Nat} {D : DevM} {r : RRep}

theorem ints_one (ks : List Int) : ∀ u ∈ intsV ks, u.oneCell' = true := by
  intro u hu
  simp only [intsV, List.mem_map] at hu
  obtain ⟨k, _, rfl⟩ := hu
  rfl
theorem ints_news {W : World} {b o : Nat} {len cap : Nat} {ks : List Int} (h : IntsIn W (.slice (some ⟨b, o, none⟩) len cap) ks) : ∀ j u, (intsV ks)[j]? = some u → W.cell? ((⟨b, o, none⟩ : Addr).add j) = some u := by
  intro j u hj
  obtain ⟨ao, cap', hv, hc⟩ := h
  have hlt : j < ks.length := by
    have := (List.getElem?_eq_some_iff.1 hj).1
    rwa [intsV_len] at this
  obtain ⟨b', o', hao, hcell⟩ := hc j hlt
  simp only [Value.slice.injEq] at hv
  rw [← hv.1] at hao
  simp only [Option.some.injEq, Addr.mk.injEq, and_true] at hao
  obtain ⟨rfl, rfl⟩ := hao
  rw [Addr.add_mid, hcell, ← hj, intsV_at ks j hlt]
theorem IntsIn.kept {W : World} {v : Value} {ks : List Int} (h : IntsIn w v ks) (hc : Ch (fun _ => False) w W) : IntsIn W v ks := by
  obtain ⟨ao, cap, hv, h⟩ := h
  exact ⟨ao, cap, hv, fun i hi => by obtain ⟨b, o, h1, h2⟩ := h i hi; exact ⟨b, o, h1, hc.cell h2⟩⟩

theorem setPlan_down {n : Int} {ks : List Int} {torn : Int} {mask : Nat} (d : D.down = true) : D.setPlan n ks torn mask = (D, 8) := by unfold DevM.setPlan; rw [if_pos d]
theorem setPlan_arg {n : Int} {ks : List Int} {torn : Int} {mask : Nat} (d : D.down = false) (h : n < 0) : D.setPlan n ks torn mask = (D, 1) := by unfold DevM.setPlan; rw [if_neg (by rw [d]; decide), if_pos h]
theorem setPlan_ok {n : Nat} {ks : List Int} {torn : Int} {mask : Nat} (d : D.down = false) : D.setPlan n ks torn mask = ({ D with plan := if (n : Int) = 0 then none else some ⟨n, ks, torn, mask⟩ }, 0) := by
  unfold DevM.setPlan; rw [if_neg (by rw [d]; decide), if_neg (by omega), Int.toNat_natCast]

theorem known_plan {n : Nat} {kv : Value} {ks : List Int} {torn : Int} {mask : Nat} (a : RKnown D r) (hn : n ≤ 9223372036854775807) (C : CrashOk ks torn mask) :
    RKnown { D with plan := if (n : Int) = 0 then none else some ⟨n, ks, torn, mask⟩ } { rAt r n with kv := kv, ks := ks, torn := torn, mask := mask } := by
  obtain ⟨b1, b2, b3, b4, b5, b6, b7, b8⟩ := a.1
  refine ⟨⟨b1, b2, b3, b4, b5, b6, b7, fun p hp => ?_⟩, ?_, C, hn⟩
  · simp only at hp
    split at hp
    · cases hp
    · cases hp
      exact ⟨by show 1 ≤ n; omega, hn, C⟩
  · by_cases z : (n : Int) = 0
    · rw [if_pos z]; exact .inl ⟨rfl, by show n = 0; omega⟩
    · rw [if_neg z]; exact .inr ⟨_, rfl, by show 1 ≤ n; omega, rfl, rfl, rfl, rfl⟩

theorem ch_other {W W' : World} {B : Nat} (h : Ch (fun g => some B = some g) W W') {a : Addr} {v : Value} (hne : a.block ≠ B) (hc : W.cell? a = some v) : W'.cell? a = some v := by
  rw [World.cell?_of_block (w := W) (h.block a.block (World.block_lt_of_cell? W a hc) fun e => hne (Option.some.inj e).symm)]
  exact hc

end
end Go.Proofs.YtjmjmekmaamclaaDoor.dev
/-
  Layer 4, the document's device: over, Corrupt.
-/
namespace Go.Proofs.YtjmjmekmaamclaaDoor.dev
open Go.ChangeShapes Go.WideShapes Go.ChangeAt Go.RowKit mem
set_option linter.unusedVariables false

/-- one block's writes overwritten -/
def mend (n : Nat) (f : ByteArray → ByteArray) (x : Nat × ByteArray) : Nat × ByteArray := if x.1 = n then (x.1, f x.2) else x
def mendK (n : Nat) (f : ByteArray → ByteArray) (c : List (Nat × ByteArray)) (k : Nat) : List (Nat × ByteArray) := (c.take k).map (mend n f) ++ c.drop k
theorem mendK_len (n : Nat) (f : ByteArray → ByteArray) (c : List (Nat × ByteArray)) (k : Nat) : (mendK n f c k).length = c.length := by
  simp only [mendK, List.length_append, List.length_map, List.length_take, List.length_drop]; omega
theorem mendK_zero (n : Nat) (f : ByteArray → ByteArray) (c : List (Nat × ByteArray)) : mendK n f c 0 = c := by simp [mendK]
theorem mendK_full (n : Nat) (f : ByteArray → ByteArray) (c : List (Nat × ByteArray)) : mendK n f c c.length = c.map (mend n f) := by simp [mendK]
theorem mendK_at (n : Nat) (f : ByteArray → ByteArray) (c : List (Nat × ByteArray)) (k : Nat) (h : k < c.length) : (mendK n f c k)[k]'(by rw [mendK_len]; exact h) = c[k] := by
  have hl : ((c.take k).map (mend n f)).length = k := by rw [List.length_map, List.length_take]; omega
  apply Option.some.inj
  rw [← List.getElem?_eq_getElem, ← List.getElem?_eq_getElem]
  unfold mendK
  rw [List.getElem?_append_right (by omega), hl, Nat.sub_self, List.getElem?_drop, Nat.add_zero]
theorem mendK_set (n : Nat) (f : ByteArray → ByteArray) (c : List (Nat × ByteArray)) (k : Nat) (h : k < c.length) : (mendK n f c k).set k (mend n f c[k]) = mendK n f c (k + 1) := by
  have hl : ((c.take k).map (mend n f)).length = k := by rw [List.length_map, List.length_take]; omega
  unfold mendK
  rw [List.set_append_right _ _ (by omega), hl, Nat.sub_self, List.take_succ_eq_append_getElem h, List.map_append, List.append_assoc, List.drop_eq_getElem_cons h]
  rfl
theorem mendK_skip (n : Nat) (f : ByteArray → ByteArray) (c : List (Nat × ByteArray)) (k : Nat) (h : k < c.length) (hne : ¬ (c[k]).1 = n) : mendK n f c (k + 1) = mendK n f c k := by
  rw [← mendK_set n f c k h]
  have e : mend n f c[k] = (mendK n f c k)[k]'(by rw [mendK_len]; exact h) := by rw [mendK_at n f c k h]; unfold mend; rw [if_neg hne]
  rw [e, List.set_getElem_self]
theorem wcells_set (c : List (Nat × ByteArray)) (k : Nat) (h : k < c.length) (y : ByteArray) : (wcells c).set (k * 2 + 1) (.string y) = wcells (c.set k ((c[k]).1, y)) := by
  have e : c = c.take k ++ (c[k] :: c.drop (k + 1)) := by rw [← List.drop_eq_getElem_cons h, List.take_append_drop]
  have l : (wcells (c.take k)).length = k * 2 := by rw [wcells_len, List.length_take]; omega
  have e2 : c.set k ((c[k]).1, y) = c.take k ++ (((c[k]).1, y) :: c.drop (k + 1)) := by rw [List.set_eq_take_append_cons_drop, if_pos h]
  rw [e2, wcells_append, wcells_cons]
  conv => lhs; rw [e, wcells_append, wcells_cons]
  rw [List.set_append_right _ _ (by omega), l, show k * 2 + 1 - k * 2 = 1 from by omega]
  rfl

section
variable {w wr : World} {As : List Ast} {X : Nat} {D : DevM} {r : RRep}
def withCache (D : DevM) (c : List (Nat × ByteArray)) : DevM := { D with cache := c }
end
end Go.Proofs.YtjmjmekmaamclaaDoor.dev
