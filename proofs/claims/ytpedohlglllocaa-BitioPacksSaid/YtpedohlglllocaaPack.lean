/-
  Layer 1: the contract of Pack.
-/
import Derived.Test.YtpedohlglllocaaBitR
import Derived.Outline
namespace Go.Proofs.Ytpedohlglllocaa.bits
open Go.ChangeShapes Go.WideShapes Go.ChangeAt Go.RowKit

/-- a slice value that reads as these values -/
structure Sl (w : World) (v : Value) (ao : Option Addr) (cap : Nat) (vs : List Value) : Prop where
  val : v = .slice ao vs.length cap
  cells : ∀ i, i < vs.length → ∃ b o, ao = some ⟨b, o, none⟩ ∧ w.cell? ⟨b, o + i, none⟩ = vs[i]?

def flat (zs : List Nat) (n : Nat) : List Bool := zs.flatMap fun z => ofNum z n

theorem flat_snoc (zs : List Nat) (n k : Nat) (h : k < zs.length) : flat (zs.take (k + 1)) n = flat (zs.take k) n ++ ofNum zs[k] n := by
  unfold flat
  rw [List.take_succ_eq_append_getElem h, List.flatMap_append, List.flatMap_singleton]

theorem length_flat (zs : List Nat) (n : Nat) : (flat zs n).length = zs.length * n := by
  induction zs with
  | nil => simp [flat]
  | cons z zs ih =>
    have : flat (z :: zs) n = ofNum z n ++ flat zs n := by simp [flat]
    rw [this, List.length_append, ih, length_ofNum, List.length_cons, Nat.add_mul]
    omega

def u64s (zs : List Nat) : List Value := zs.map fun z : Nat => Value.int .u64 ((z : Nat) : Int)

theorem cell_lt {w : World} {a : Addr} {v : Value} (h : w.cell? a = some v) : a.block < w.heap.size := World.block_lt_of_cell? w a h

theorem pack_arg (ao : Option Addr) (len cap : Nat) (n : Int) (w : World) (h : n < 1 ∨ 64 < n ∨ (134217728 / n < (len : Int))) :
    Calls Try.prog 25 #[.slice ao len cap, .int .i64 n] w fun e w' => e = .returned (.tuple #[.string ByteArray.empty, .int .i64 1]) ∧ w = w' := by
  by_cases h1 : n < 1
  · clear h
    go_enter Try.func25, Try.ntmps25
    go_wp2_with fail
    go_ret2
    exact ⟨rfl, rfl⟩
  · by_cases h2 : 64 < n
    · clear h
      go_enter Try.func25, Try.ntmps25
      go_wp2_with fail
      go_ret2
      exact ⟨rfl, rfl⟩
    · have h3 : 134217728 / n < (len : Int) := by omega
      clear h
      go_enter Try.func25, Try.ntmps25
      go_wp2_with fail
      go_ret2
      exact ⟨rfl, rfl⟩

theorem bytesOf_nat (n : Nat) (h1 : n ≤ 4611686018427387904) (w : World) :
    Calls Try.prog 39 #[.int .i64 n] w fun e w' => e = .returned (.int .i64 ((n + 7) / 8 : Nat)) ∧ w = w' :=
  (bytesOf_any n (by omega) (by omega) w).mono fun _ _ ⟨h, hw⟩ => ⟨by rw [h]; congr 2, hw⟩

theorem Wr.made {w w1 : World} {g cap : Nat} (h : w1.ownsRow 0 5 1 (.slice (some ⟨g, 0, none⟩) 0 cap) 0 []) (hg : w.grownBy w1 none) (hgs : g = w.heap.size) :
    Wr (w1.alloc (.cells #[.slice (some ⟨g, 0, none⟩) 0 cap, .int .i64 0] 70)) w1.heap.size (fun k => k = w1.heap.size ∨ k = g) [] (.slice (some ⟨g, 0, none⟩) 0 cap) [] := by
  have hl := (h.lt g rfl).2
  have hs := hg.size
  exact ⟨packs_nil, heap_alloc_new w1 _, h.alloc _, .inl rfl, fun k hk => by simp [Value.ownBlock] at hk; exact .inr hk.symm, by simp [Value.ownBlock]; omega, by simp, fun k hk => by simp; omega⟩

/-- what Pack answers -/
def PackEnd (zs : List Nat) (n : Nat) (e : Ending) : Prop :=
  (∃ L, (∀ z ∈ zs, z < 2 ^ n) ∧ Packs L (flat zs n) ∧ e = .returned (.tuple #[.string ⟨L.toArray⟩, .int .i64 0])) ∨ ((¬ ∀ z ∈ zs, z < 2 ^ n) ∧ e = .returned (.tuple #[.string ByteArray.empty, .int .i64 1]))

set_option maxHeartbeats 1000000 in
theorem pack_any (lv : Value) (ao : Option Addr) (cap : Nat) (zs : List Nat) (n : Nat) (w : World) (hsl : Sl w lv ao cap (u64s zs)) (hz : ∀ z ∈ zs, z < 18446744073709551616) (hn1 : 1 ≤ n) (hn : n ≤ 64) (hlen : zs.length ≤ 134217728 / n) :
    Calls Try.prog 25 #[lv, .int .i64 n] w fun e w' =>
      PackEnd zs n e ∧ Ch (fun _ => False) w w' := by
  obtain ⟨i0, hi, hz0, hz1, hz2⟩ := info_parts Try.info5
  obtain ⟨hval, hcells⟩ := hsl
  have hul : (u64s zs).length = zs.length := by simp [u64s]
  rw [hul] at hval hcells
  subst hval
  obtain ⟨len, hle⟩ : ∃ len : Nat, len = zs.length := ⟨_, rfl⟩
  rw [← hle] at hcells hlen ⊢
  have hP : len * n ≤ 134217728 := by
    have h1 : len * n ≤ 134217728 / n * n := Nat.mul_le_mul_right _ hlen
    have h2 := Nat.div_mul_le_self 134217728 n
    omega
  have hl27 : len ≤ 134217728 := Nat.le_trans (Nat.le_mul_of_pos_right len hn1) hP
  obtain ⟨P, hPP⟩ : ∃ P : Nat, P = len * n := ⟨_, rfl⟩
  rw [← hPP] at hP
  have e1 : IntKind.i64.wrap ((len : Int) * (n : Int)) = (P : Int) := by
    rw [show (len : Int) * (n : Int) = (P : Int) from by rw [hPP]; simp]; exact IntWalk.i64_in _ (by omega)
  have e2 : wrap64 ((len : Int) * (n : Int)) = (P : Int) := by rw [← PlainAid.i64_is]; exact e1
  have hnn : (1 : Int) ≤ (n : Int) := by omega
  have hd : (len : Int) ≤ 134217728 / (n : Int) := by
    rw [show (134217728 : Int) / (n : Int) = ((134217728 / n : Nat) : Int) from by simp]; omega
  have HLE := Lib.hid hle
  have HPP := Lib.hid hPP
  clear hlen hPP hul hle
  go_enter Try.func25, Try.ntmps25
  go_wp2_with (first | (go_at_call 39; refine (bytesOf_nat _ (by omega) _).mono ?_; rintro e w' ⟨rfl, rfl⟩) | (at_make; refine wpList_make_own _ rfl _ _ 68 rfl 0 5 i0 (.int .u8 0) 1 Try.underlying68 hi hz0 hz1 _ _ _ ((P + 7) / 8) rfl rfl (by omega) (by rw [hz2]; omega) (by unfold maxLen; omega) (by omega) ?_; intro w1 hown hgrow))
  have HW := Lib.hid (Wr.made hown hgrow rfl)
  have HC := Lib.hid (((Ch.refl (fun _ => False) w).grown hgrow (fun k h => by cases h)).alloc (.cells #[.slice (some ⟨w.heap.size, 0, none⟩) 0 ((P + 7) / 8), .int .i64 0] 70))
  have HN : Hid (∀ k, (k = w1.heap.size ∨ k = w.heap.size) → False ∨ w.heap.size ≤ k) := Lib.hid fun k hk => by have := hgrow.size; right; omega
  clear hown hgrow
  obtain ⟨B, hB⟩ : ∃ B, B = w1.heap.size := ⟨_, rfl⟩
  rw [← hB] at HW HN ⊢
  clear hB
  generalize w1.alloc (.cells #[.slice (some ⟨w.heap.size, 0, none⟩) 0 ((P + 7) / 8), .int .i64 0] 70) = w2 at HW HC ⊢
  go_loopw [31] (fun i wr => ∃ k : Nat, k ≤ len ∧ i = .int .i64 ↑k ∧ (∀ z ∈ zs.take k, z < 2 ^ n) ∧ ∃ F sv L, Wr wr B F (flat (zs.take k) n) sv L ∧ Ch (fun _ => False) w wr ∧ ∀ g, F g → False ∨ w.heap.size ≤ g) (fun i _ => len - (intOf i).toNat)
  case atStart => exact ⟨0, Nat.zero_le _, rfl, by simp, _, _, _, by simpa [flat] using HW.out, HC.out, HN.out⟩
  case round =>
    obtain ⟨k, hk, rfl, hfit, F, sv, L, hW, hC, hN⟩ := hrel
    have HF := Lib.hid hfit
    have HW1 := Lib.hid hW
    have HC1 := Lib.hid hC
    have HN1 := Lib.hid hN
    clear hfit hW hC hN HW HC HN
    by_cases hlt : k < len
    · obtain ⟨b, o, rfl, hc⟩ := hcells k hlt
      have hkz : k < zs.length := by have := HLE.out; omega
      rw [show (u64s zs)[k]? = some (.int .u64 ((zs[k] : Nat) : Int)) from by simp [u64s, hkz]] at hc
      have hc1 : wr.cell? ⟨b, o + k, none⟩ = some (.int .u64 ((zs[k] : Nat) : Int)) := by
        have hl := cell_lt hc
        rw [World.cell?_of_block (w := w) (HC1.out.block b hl (fun h => h))]
        exact hc
      have hzk := hz zs[k] (List.getElem_mem hkz)
      have HM := Lib.hid (List.getElem_mem hkz)
      have HS := Lib.hid (flat_snoc zs n k hkz)
      have HT := Lib.hid (List.take_succ_eq_append_getElem hkz)
      generalize hzz : zs[k] = z at hc1 hzk HM HS HT
      clear hc hcells hzz
      have hzi : (z : Int) ≤ 18446744073709551615 := by omega
      by_cases hf : z < 2 ^ n
      · have hft := fits_any z n hzk (by omega) (by omega)
        rw [show decide (z < 2 ^ (n : Int).toNat) = true from by simpa using hf] at hft
        have hbl : (flat (zs.take k) n).length + n ≤ 134217728 := by
          rw [length_flat, List.length_take]
          have h1 : (k + 1) * n ≤ len * n := Nat.mul_le_mul_right _ hlt
          have h2 : min k zs.length = k := by omega
          rw [h2]
          have := HPP.out
          rw [Nat.add_mul] at h1
          omega
        have HP := Lib.hid (put_any z n B F _ sv L wr HW1.out hn hf hbl)
        have Hfz := Lib.hid hf
        clear hf hbl
        go_wp2_with (first | (go_at_call 35; refine (hft _).mono ?_; rintro e w' ⟨rfl, rfl⟩) | (go_at_call 36; refine HP.out.mono ?_; rintro e w3 ⟨rfl, hq⟩; have HQ := Lib.hid hq; clear hq))
        go_roundw
        case rel =>
          obtain ⟨F3, v3, L3, hW3, hC3, hN3⟩ := HQ.out
          refine ⟨k + 1, by omega, by go_num, ?_, F3, v3, L3, ?_, HC1.out.trans hC3 HN1.out, ?_⟩
          · rw [HT.out]
            intro y hy
            rcases List.mem_append.1 hy with h | h
            · exact HF.out y h
            · rw [List.mem_singleton.1 h]; exact Hfz.out
          · rw [HS.out]; exact hW3
          · intro g hg
            rcases hN3 g hg with h | h
            · exact HN1.out g h
            · exact .inr (Nat.le_trans HC1.out.size h)
        case measure => simp [intOf]; omega
      · have hft := fits_any z n hzk (by omega) (by omega)
        rw [show decide (z < 2 ^ (n : Int).toNat) = false from by simpa using hf] at hft
        have HX := Lib.hid hf
        clear hf
        go_wp2_with (go_at_call 35; refine (hft _).mono ?_; rintro e w' ⟨rfl, rfl⟩)
        go_ret2
        exact ⟨.inr ⟨fun h => HX.out (h z HM.out), rfl⟩, HC1.out⟩
    · have hkl : k = zs.length := by have := HLE.out; omega
      have HTX := Lib.hid (wtext_any HW1.out)
      have HA : Hid (∀ z ∈ zs, z < 2 ^ n) := Lib.hid (by have := HF.out; rw [hkl, List.take_length] at this; exact this)
      have HPK : Hid (Packs L (flat zs n)) := Lib.hid (by have := HW1.out.packs; rw [hkl, List.take_length] at this; exact this)
      clear hkl hcells
      go_wp2_with (go_at_call 11; refine HTX.out.mono ?_; rintro e w' ⟨rfl, rfl⟩)
      go_ret2
      exact ⟨.inl ⟨L, HA.out, HPK.out, rfl⟩, HC1.out⟩
end Go.Proofs.Ytpedohlglllocaa.bits
