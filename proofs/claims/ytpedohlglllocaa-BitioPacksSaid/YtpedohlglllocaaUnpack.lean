/-
  Layer 1: the contract of Unpack, where it answers numbers.
-/
import Derived.Test.YtpedohlglllocaaUnpackA
import Derived.Outline
namespace Go.Proofs.Ytpedohlglllocaa.bits
open Go.ChangeShapes Go.WideShapes Go.ChangeAt Go.RowKit

def nums (s : ByteArray) (n c : Nat) : List Nat := (List.range c).map fun i => fld s (i * n) n

theorem length_nums (s : ByteArray) (n c : Nat) : (nums s n c).length = c := by simp [nums]

/-- the first k numbers, and 0 for the rest -/
def unpart (zs : List Nat) (k : Nat) : List Value := u64s (zs.take k ++ List.replicate (zs.length - k) 0)

theorem unpart_zero (zs : List Nat) : unpart zs 0 = List.replicate zs.length (.int .u64 0) := by simp [unpart, u64s]
theorem unpart_all (zs : List Nat) : unpart zs zs.length = u64s zs := by simp [unpart]
theorem unpart_step (zs : List Nat) (k : Nat) (h : k < zs.length) : (unpart zs k).set k (.int .u64 ((zs[k] : Nat) : Int)) = unpart zs (k + 1) := by
  unfold unpart u64s
  rw [show (Value.int .u64 ((zs[k] : Nat) : Int)) = (fun z : Nat => Value.int .u64 ((z : Nat) : Int)) zs[k] from rfl, ← List.map_set]
  congr 1
  rw [List.take_succ_eq_append_getElem h, List.set_append, List.length_take, if_neg (by omega), show k - min k zs.length = 0 from by omega, show zs.length - k = (zs.length - (k + 1)) + 1 from by omega, List.replicate_succ, List.set_cons_zero, List.append_assoc]
  rfl

def UnpackEnd (s : ByteArray) (n c : Nat) (w : World) (e : Ending) (w' : World) : Prop :=
  ∃ g, e = .returned (.tuple #[.slice (some ⟨g, 0, none⟩) c c, .int .i64 0]) ∧ w.heap.size ≤ g ∧ w'.ownsRow 0 30 1 (.slice (some ⟨g, 0, none⟩) c c) c (u64s (nums s n c)) ∧ Ch (fun _ => False) w w'

set_option maxHeartbeats 1000000 in
theorem unpack_ok (s : ByteArray) (n c : Nat) (w : World) (h1 : 1 ≤ n) (h2 : n ≤ 64) (h : c ≤ 134217728 / n) (hs : s.size = (c * n + 7) / 8) (hz : fld s (c * n) (8 * s.size - c * n) = 0) :
    Calls Try.prog 27 #[.string s, .int .i64 n, .int .i64 c] w (UnpackEnd s n c w) := by
  obtain ⟨hP, hc⟩ := prod_le h1 h
  obtain ⟨P, hPP⟩ : ∃ P : Nat, P = c * n := ⟨_, rfl⟩
  have HPP := Lib.hid hPP
  rw [← hPP] at hP hz hs
  have HZ0 := Lib.hid hz
  clear hz
  have e1 : IntKind.i64.wrap ((c : Int) * (n : Int)) = (P : Int) := by
    rw [show (c : Int) * (n : Int) = (P : Int) from by rw [hPP]; simp]; exact IntWalk.i64_in _ (by omega)
  have e2 : wrap64 ((c : Int) * (n : Int)) = (P : Int) := by rw [← PlainAid.i64_is]; exact e1
  have hnn : (1 : Int) ≤ (n : Int) := by omega
  have hd : (c : Int) ≤ 134217728 / (n : Int) := by
    rw [show (134217728 : Int) / (n : Int) = ((134217728 / n : Nat) : Int) from by simp]; omega
  have t1 : ((s.size : Int) != ((P : Int) + 7) / 8) = false := by rw [bne_eq_false_iff_eq]; omega
  have hs8 : s.size ≤ 16777217 := by omega
  obtain ⟨m, hm⟩ : ∃ m : Nat, m = 8 * s.size - P := ⟨_, rfl⟩
  have HZ : Hid (fld s P m = 0) := Lib.hid (by rw [hm]; exact HZ0.out)
  have e3 : 8 * (s.size : Int) - (P : Int) = (m : Int) := by omega
  have HT : Hid (∀ W : World, W.cell? ⟨w.heap.size, 0, none⟩ = some (.string s) → Calls Try.prog 42 #[.int .i64 P, .int .i64 m, .pointer (some ⟨w.heap.size, 0, none⟩)] W fun e w' => e = .returned (.int .u64 0) ∧ ∃ q, w' = W.drewN q) :=
    Lib.hid fun W hW => (take_any s w.heap.size P m W (by omega) hW (by omega) (by omega)).mono fun e w' ⟨h, hq⟩ => ⟨by rw [h, HZ.out]; rfl, hq⟩
  have hPs : P ≤ 8 * s.size := by omega
  have HTT : Hid (∀ (W : World) (k : Nat), k < c → W.cell? ⟨w.heap.size, 0, none⟩ = some (.string s) → Calls Try.prog 42 #[.int .i64 ((k * n : Nat) : Int), .int .i64 n, .pointer (some ⟨w.heap.size, 0, none⟩)] W fun e w' => e = .returned (.int .u64 (fld s (k * n) n)) ∧ ∃ q, w' = W.drewN q) :=
    Lib.hid fun W k hk hW => take_any s w.heap.size (k * n) n W (by omega) hW h2 (by
      have h3 : (k + 1) * n ≤ c * n := Nat.mul_le_mul_right _ hk
      rw [Nat.add_mul] at h3
      omega)
  have HK : Hid (∀ k, k < c → k * n ≤ 134217728) := Lib.hid fun k hk => by
    have h3 : k * n ≤ c * n := Nat.mul_le_mul_right _ (by omega)
    omega
  clear hPP h hs hm
  obtain ⟨i0, hi, hz0, hz1, hz2⟩ := info_parts Try.info30
  go_enter Try.func27, Try.ntmps27
  go_wp2_with (first | (go_at_call 39; refine (bytesOf_nat _ (by omega) _).mono ?_; rintro e w' ⟨rfl, rfl⟩) | (go_at_call 37; refine (taker_any _ _).mono ?_; rintro e w' ⟨rfl, rfl⟩) | (go_at_call 42; refine (HT.out _ (by simp)).mono ?_; rintro e w' ⟨rfl, q, rfl⟩) | (at_make; refine wpList_make_full _ rfl _ _ 56 rfl 0 30 i0 (.int .u64 0) 1 Try.underlying56 hi hz0 hz1 _ _ _ _ c rfl rfl rfl rfl (by rw [hz2]; omega) (by unfold maxLen; omega) (by omega) ?_; intro w1 hown hgrow))
  have HN : Hid (w.heap.size < w1.heap.size ∧ w1.heap[w.heap.size]? = some (.cells #[.string s] 9 (0, 0))) := Lib.hid (by
    have hsz := hgrow.size
    have hb := hgrow.block w.heap.size (by simp) (by simp)
    refine ⟨by simp at hsz; omega, hb.trans ?_⟩
    exact heap_alloc_new w _)
  have HC : Hid (Ch (fun _ => False) w w1) := Lib.hid ((((Ch.refl (fun _ => False) w).alloc (.cells #[.string s] 9)).drewN q).grown hgrow (fun k h => by cases h))
  have HO : Hid (w1.ownsRow 0 30 1 (.slice (some ⟨w.heap.size + 1, 0, none⟩) c c) c (unpart (nums s n c) 0)) := Lib.hid (by
    rw [unpart_zero, length_nums]
    have h := hown
    rw [show (Value.int IntKind.u64 0).cells = #[Value.int IntKind.u64 0] from rfl, toList_madeCells_one, Nat.mul_one] at h
    simpa using h)
  clear hown hgrow
  obtain ⟨g, hg⟩ : ∃ g, g = w.heap.size + 1 := ⟨_, rfl⟩
  rw [← hg] at HO ⊢
  have HG : Hid (w.heap.size < g) := Lib.hid (by omega)
  have HLN := Lib.hid (length_nums s n c)
  clear hg
  go_loopw [49] (fun i wr => ∃ k : Nat, k ≤ c ∧ i = .int .i64 ↑k ∧ wr.ownsRow 0 30 1 (.slice (some ⟨g, 0, none⟩) c c) c (unpart (nums s n c) k) ∧ wr.heap[w.heap.size]? = some (.cells #[.string s] 9 (0, 0)) ∧ Ch (fun _ => False) w wr) (fun i _ => c - (intOf i).toNat)
  case atStart => exact ⟨0, Nat.zero_le _, rfl, HO.out, HN.out.2, HC.out⟩
  case round =>
    obtain ⟨k, hk, rfl, ho, ht, hch⟩ := hrel
    have HO1 := Lib.hid ho
    have HT1 := Lib.hid ht
    have HC1 := Lib.hid hch
    clear ho ht hch
    by_cases hlt : k < c
    · have hkl : k < (nums s n c).length := by rw [HLN.out]; exact hlt
      obtain ⟨u, hu⟩ : ∃ u, (unpart (nums s n c) k)[k]? = some u := ⟨_, List.getElem?_eq_getElem (by simp [unpart, u64s, HLN.out]; omega)⟩
      have hcell : wr.cell? ⟨g, k, none⟩ = some u := by rw [HO1.out.cellAt k (by omega)]; exact hu
      have hfz := HO1.out.frozenAt k
      have hkn := HK.out k hlt
      have HV := Lib.hid (show (nums s n c)[k] = fld s (k * n) n from by simp [nums])
      have HTk := Lib.hid (HTT.out wr k hlt (cell_of_one HT1.out))
      obtain ⟨K, hK⟩ : ∃ K : Nat, K = k * n := ⟨_, rfl⟩
      rw [← hK] at hkn HTk HV
      have e4 : IntKind.i64.wrap ((k : Int) * (n : Int)) = (K : Int) := by
        rw [show (k : Int) * (n : Int) = (K : Int) from by rw [hK]; simp]; exact IntWalk.i64_in _ (by omega)
      have e5 : wrap64 ((k : Int) * (n : Int)) = (K : Int) := by rw [← PlainAid.i64_is]; exact e4
      have HST := Lib.hid (unpart_step (nums s n c) k hkl)
      clear hK hu
      go_wp2_with (go_at_call 42; refine HTk.out.mono ?_; rintro e w' ⟨rfl, q1, rfl⟩)
      go_roundw
      case rel =>
        refine ⟨k + 1, by omega, by go_num, ?_, ?_, ?_⟩
        · have h := (World.ownsRow.stored (w := wr.drewN q1) HO1.out k (.int .u64 ((fld s K n : Nat) : Int))).1
          rw [← HV.out, HST.out] at h
          rw [← HV.out]
          exact h
        · rw [Below.heap_setCell _ _ _ _ (by have := HG.out; simp; omega)]
          exact HT1.out
        · exact (HC1.out.drewN q1).setCell (.inr (Nat.le_of_lt HG.out)) _
      case measure => simp [intOf]; omega
    · have hkc : k = (nums s n c).length := by rw [HLN.out]; omega
      have HR : Hid (wr.ownsRow 0 30 1 (.slice (some ⟨g, 0, none⟩) c c) c (u64s (nums s n c))) := Lib.hid (by
        have h := HO1.out
        rw [hkc, unpart_all] at h
        exact h)
      clear hkc
      go_wp2_with fail
      go_ret2
      exact ⟨g, rfl, Nat.le_of_lt HG.out, HR.out, HC1.out⟩
end Go.Proofs.Ytpedohlglllocaa.bits
