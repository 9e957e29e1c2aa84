/-
  Layer 4, the document's device: it goes down.
-/
import Derived.Test.YtjmjmekmaamclaaDoorDevB
import Derived.Deep.RegionHeld3
namespace Go.Proofs.YtjmjmekmaamclaaDoor.dev
open Go.ChangeShapes Go.WideShapes Go.ChangeAt Go.RowKit mem
set_option linter.unusedVariables false

def withSafe (D : DevM) (s : List ByteArray) : DevM := { D with safe := s }
theorem fallen_take (ks : List Int) (torn : Int) (mask : Nat) (c : List (Nat × ByteArray)) (s : List ByteArray) (k : Nat) (h : k < c.length) :
    fallen ks torn mask 0 (c.take (k + 1)) s = fallStep ks torn mask k (c[k]) (fallen ks torn mask 0 (c.take k) s) := by
  rw [List.take_succ_eq_append_getElem h, fallen_snoc, Nat.zero_add, List.length_take, Nat.min_eq_left (Nat.le_of_lt h)]

/-- the blocks that a fall turns -/
def fallF (X : Nat) (r : RRep) : Nat → Prop := fun g => g = X ∨ r.sv.ownBlock = some g

section
variable {w wb : World} {As : List Ast} {X : Nat} {D : DevM} {r : RRep}

theorem strs_set (s : List ByteArray) (n : Nat) (v : ByteArray) : strs (s.set n v) = (strs s).set n (.string v) := by simp [strs, List.map_set]
theorem getD_fallen {ks : List Int} {torn : Int} {mask k n : Nat} {dt : ByteArray} {sk : List ByteArray} (ht : (k : Int) = torn) : fallStep ks torn mask k (n, dt) sk = sk.set n (mix mask (sk.getD n empty) dt) := by
  unfold fallStep; rw [if_pos ht]
theorem keep_fallen {ks : List Int} {torn : Int} {mask k n : Nat} {dt : ByteArray} {sk : List ByteArray} (ht : ¬ (k : Int) = torn) (hk : (k : Int) ∈ ks) : fallStep ks torn mask k (n, dt) sk = sk.set n dt := by
  unfold fallStep; rw [if_neg ht, if_pos hk]
theorem lose_fallen {ks : List Int} {torn : Int} {mask k n : Nat} {dt : ByteArray} {sk : List ByteArray} (ht : ¬ (k : Int) = torn) (hk : ¬ (k : Int) ∈ ks) : fallStep ks torn mask k (n, dt) sk = sk := by
  unfold fallStep; rw [if_neg ht, if_neg hk]

theorem fallen_ok (a : D.Ok) (ks : List Int) (torn : Int) (mask k : Nat) : (withSafe D (fallen ks torn mask 0 (D.cache.take k) D.safe)).Ok :=
  ⟨a.nb0, a.nb1, a.ns0, a.ns1, by show (fallen _ _ _ _ _ _).length = _; rw [fallen_len]; exact a.safe, fallen_sz _ _ _ a.ssz fun x hx => by rw [a.safe]; exact a.csz x (List.mem_of_mem_take hx), a.csz, a.plan⟩

theorem ch_setCells' {F : Nat → Prop} {a : World} {b : Nat} (hb : F b ∨ a.heap.size ≤ b) : ∀ (vs : List Value) (o : Nat) (W : World), Ch F a W → Ch F a (W.setCells b o vs)
  | [], _, _, h => h
  | v :: r, o, W, h => ch_setCells' hb r (o + 1) _ (h.setCell hb v)
theorem buf_text {W : World} {B cap : Nat} {l : List UInt8} {Bs : List Ast} (h : St w W (aBuf B l :: Bs)) :
    (convert 119 9 (.slice (some ⟨B, 0, none⟩) l.length cap)).run Tryd.prog W = .ok (.string ⟨l.toArray⟩) W :=
  run_convert_bytes_back (P := Tryd.prog) W 119 9 5 ⟨B, 0, none⟩ cap l Tryd.underlying119 Tryd.underlying5 Tryd.underlying9 fun j hj => by
    rw [Addr.add_mid, Nat.zero_add]
    exact buf_cell h j hj

end
end Go.Proofs.YtjmjmekmaamclaaDoor.dev
