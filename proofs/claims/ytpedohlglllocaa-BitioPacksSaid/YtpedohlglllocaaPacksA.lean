/-
  BitioPacks: what the calls answer, the program's and the document's by one word; there and back.
-/
import Derived.Test.YtpedohlglllocaaRefU
namespace Go.Proofs.Ytpedohlglllocaa.bits
open Go.ChangeShapes Go.WideShapes Go.ChangeAt Go.RowKit
set_option linter.unusedVariables false

/-- may these numbers be packed? -/
def Fit (zs : List Nat) (N : Int) : Prop := 1 ≤ N ∧ N ≤ 64 ∧ (∀ z ∈ zs, z < 2 ^ N.toNat) ∧ zs.length * N.toNat ≤ 134217728

def POut (zs : List Nat) (N : Int) (e : Ending) : Prop :=
  (∃ L, Fit zs N ∧ Packs L (flat zs N.toNat) ∧ e = .returned (.tuple #[.string ⟨L.toArray⟩, .int .i64 0])) ∨ (¬ Fit zs N ∧ e = .returned (.tuple #[.string ByteArray.empty, .int .i64 1]))

theorem pout_arg {zs : List Nat} {N : Int} {e : Ending} (h : N < 1 ∨ 64 < N) (he : e = .returned (.tuple #[.string ByteArray.empty, .int .i64 1])) : POut zs N e := .inr ⟨fun hf => by have := hf.1; have := hf.2.1; omega, he⟩

theorem len_le {len n : Nat} (hn : 1 ≤ n) : len ≤ 134217728 / n ↔ len * n ≤ 134217728 := by
  rw [Nat.le_div_iff_mul_le (by omega)]

theorem packP (ao : Option Addr) (cap : Nat) (zs : List Nat) (N : Int) (w : World) (hr : Reads w ao (u64s zs)) (hz : ∀ z ∈ zs, z < 18446744073709551616) :
    Calls Try.prog 25 #[.slice ao zs.length cap, .int .i64 N] w fun e w' => POut zs N e ∧ Ch (fun _ => False) w w' := by
  have hul : (u64s zs).length = zs.length := by simp [u64s]
  by_cases h1 : N < 1 ∨ 64 < N
  · exact (pack_arg ao zs.length cap N w (by omega)).mono fun _ _ ⟨he, hw⟩ => ⟨pout_arg h1 he, by subst hw; exact Ch.refl _ _⟩
  · obtain ⟨n, rfl⟩ := Int.eq_ofNat_of_zero_le (show 0 ≤ N from by omega)
    by_cases h2 : zs.length ≤ 134217728 / n
    · have hs : Sl w (.slice ao zs.length cap) ao cap (u64s zs) := ⟨by rw [hul], fun i hi => hr i hi⟩
      refine (pack_any _ ao cap zs n w hs hz (by omega) (by omega) h2).mono fun e w' ⟨he, hc⟩ => ⟨?_, hc⟩
      rcases he with ⟨L, hf, hp, he⟩ | ⟨hf, he⟩
      · exact .inl ⟨L, ⟨by omega, by omega, hf, (len_le (by omega)).1 h2⟩, hp, he⟩
      · exact .inr ⟨fun h => hf h.2.2.1, he⟩
    · refine (pack_arg ao zs.length cap n w (.inr (.inr ?_))).mono fun e w' ⟨he, hw⟩ => ⟨.inr ⟨fun h => h2 ((len_le (by omega)).2 h.2.2.2), he⟩, by subst hw; exact Ch.refl _ _⟩
      rw [show (134217728 : Int) / (n : Int) = ((134217728 / n : Nat) : Int) from by simp]; omega

theorem rpackP (ao : Option Addr) (cap : Nat) (zs : List Nat) (N : Int) (w : World) (hr : Reads w ao (u64s zs)) (hz : ∀ z ∈ zs, z < 18446744073709551616) (hl : zs.length ≤ 9223372036854775807) :
    Calls Try.prog 26 #[.slice ao zs.length cap, .int .i64 N] w fun e w' => POut zs N e ∧ Ch (fun _ => False) w w' := by
  by_cases h1 : N < 1 ∨ 64 < N
  · exact (rpack_arg ao zs.length cap N w h1).mono fun _ _ ⟨he, hw⟩ => ⟨pout_arg h1 he, by subst hw; exact Ch.refl _ _⟩
  · obtain ⟨n, rfl⟩ := Int.eq_ofNat_of_zero_le (show 0 ≤ N from by omega)
    refine (rpack_any ao cap zs n w hr hz (by omega) (by omega) hl).mono fun e w' ⟨he, hc⟩ => ⟨?_, hc⟩
    rcases he with ⟨L, hf, hm, hp, he⟩ | ⟨hf, he⟩
    · exact .inl ⟨L, ⟨by omega, by omega, hf, hm⟩, hp, he⟩
    · exact .inr ⟨fun h => hf h.2.2, he⟩

/-- the two answers are one -/
theorem pout_eq {zs : List Nat} {N : Int} {e f : Ending} (h : POut zs N e) (g : POut zs N f) : e = f := by
  rcases h with ⟨L, hf, hp, rfl⟩ | ⟨hf, rfl⟩
  · rcases g with ⟨M, _, hq, rfl⟩ | ⟨hg, _⟩
    · rw [hp.unique hq]
    · exact absurd hf hg
  · rcases g with ⟨M, hg, _, _⟩ | ⟨_, rfl⟩
    · exact absurd hg hf
    · rfl

/-- is the text one that Pack makes of so many numbers of such a width? -/
def Good (s : ByteArray) (n c : Nat) : Prop := c ≤ 134217728 / n ∧ s.size = (c * n + 7) / 8 ∧ fld s (c * n) (8 * s.size - c * n) = 0

noncomputable def UX (s : ByteArray) (N C : Int) : Int := if N < 1 ∨ 64 < N ∨ C < 0 then 1 else (open Classical in if Good s N.toNat C.toNat then 0 else 4)
noncomputable def UZ (s : ByteArray) (N C : Int) : List Nat := if N < 1 ∨ 64 < N ∨ C < 0 then [] else (open Classical in if Good s N.toNat C.toNat then nums s N.toNat C.toNat else [])

def UOut (s : ByteArray) (N C : Int) (e : Ending) (w' : World) : Prop :=
  ∃ ao cap, e = .returned (.tuple #[.slice ao (UZ s N C).length cap, .int .i64 (UX s N C)]) ∧ Reads w' ao (u64s (UZ s N C))

theorem uout_arg {s : ByteArray} {N C : Int} {e : Ending} {w : World} (h : N < 1 ∨ 64 < N ∨ C < 0) (he : e = .returned (.tuple #[.slice none 0 0, .int .i64 1])) : UOut s N C e w := by
  unfold UOut UX UZ
  rw [if_pos h, if_pos h]
  exact ⟨none, 0, he, fun i hi => by simp [u64s] at hi⟩

theorem uout_bad {s : ByteArray} {n c : Nat} {e : Ending} {w : World} (h : ¬ ((n : Int) < 1 ∨ 64 < (n : Int) ∨ (c : Int) < 0)) (hg : ¬ Good s n c) (he : e = .returned (.tuple #[.slice none 0 0, .int .i64 4])) : UOut s n c e w := by
  unfold UOut UX UZ
  rw [if_neg h, if_neg h, Int.toNat_natCast, Int.toNat_natCast, if_neg hg, if_neg hg]
  exact ⟨none, 0, he, fun i hi => by simp [u64s] at hi⟩

theorem reads_row {w : World} {ao : Option Addr} {cap c : Nat} {zs : List Nat} (hc : zs.length = c) (h : w.ownsRow 0 30 1 (.slice ao c cap) c (u64s zs)) : Reads w ao (u64s zs) := by
  intro i hi
  have hl : (u64s zs).length = c := by simp [u64s, hc]
  rcases h.2 with ⟨h1, h2⟩ | ⟨g, cap', cur, h1, _⟩
  · omega
  · simp only [Value.slice.injEq] at h1
    obtain ⟨rfl, _, rfl⟩ := h1
    exact ⟨g, 0, rfl, by rw [Nat.zero_add]; exact h.cellAt i (by omega)⟩

theorem uout_good {s : ByteArray} {n c : Nat} {e : Ending} {w : World} (h : ¬ ((n : Int) < 1 ∨ 64 < (n : Int) ∨ (c : Int) < 0)) (hg : Good s n c) {a : Value} (he : e = .returned (.tuple #[a, .int .i64 0])) (hr : w.ownsRow 0 30 1 a c (u64s (nums s n c))) : UOut s n c e w := by
  obtain ⟨ao, cap, rfl⟩ := row_shapeU hr
  unfold UOut UX UZ
  rw [if_neg h, if_neg h, Int.toNat_natCast, Int.toNat_natCast, if_pos hg, if_pos hg, length_nums]
  exact ⟨ao, cap, he, reads_row (length_nums s n c) hr⟩

theorem unpackP (s : ByteArray) (N C : Int) (w : World) (hs : s.size ≤ 1152921504606846975) :
    Calls Try.prog 27 #[.string s, .int .i64 N, .int .i64 C] w fun e w' => UOut s N C e w' ∧ Ch (fun _ => False) w w' := by
  by_cases h1 : N < 1 ∨ 64 < N ∨ C < 0
  · exact (unpack_arg s N C w h1).mono fun _ _ ⟨he, hw⟩ => ⟨uout_arg h1 he, by subst hw; exact Ch.refl _ _⟩
  · obtain ⟨n, rfl⟩ := Int.eq_ofNat_of_zero_le (show 0 ≤ N from by omega)
    obtain ⟨c, rfl⟩ := Int.eq_ofNat_of_zero_le (show 0 ≤ C from by omega)
    by_cases h2 : c ≤ 134217728 / n
    · by_cases h3 : s.size = (c * n + 7) / 8
      · by_cases h4 : fld s (c * n) (8 * s.size - c * n) = 0
        · exact (unpack_ok s n c w (by omega) (by omega) h2 h3 h4).mono fun _ _ ⟨g, he, _, hr, hc⟩ => ⟨uout_good h1 ⟨h2, h3, h4⟩ he hr, hc⟩
        · exact (unpack_fill s n c w (by omega) (by omega) h2 h3 h4).mono fun _ _ ⟨he, hc⟩ => ⟨uout_bad h1 (fun hg => h4 hg.2.2) he, hc⟩
      · exact (unpack_len s n c w (by omega) (by omega) h2 hs h3).mono fun _ _ ⟨he, hw⟩ => ⟨uout_bad h1 (fun hg => h3 hg.2.1) he, by subst hw; exact Ch.refl _ _⟩
    · refine (unpack_many s n c w (by omega) (by omega) (by omega) ?_).mono fun _ _ ⟨he, hw⟩ => ⟨uout_bad h1 (fun hg => h2 hg.1) he, by subst hw; exact Ch.refl _ _⟩
      rw [show (134217728 : Int) / (n : Int) = ((134217728 / n : Nat) : Int) from by simp]; omega

theorem runpackP (s : ByteArray) (N C : Int) (w : World) (hs : s.size ≤ 1152921504606846975) :
    Calls Try.prog 28 #[.string s, .int .i64 N, .int .i64 C] w fun e w' => UOut s N C e w' ∧ Ch (fun _ => False) w w' := by
  by_cases h1 : N < 1 ∨ 64 < N ∨ C < 0
  · exact (runpack_arg s N C w h1).mono fun _ _ ⟨he, hw⟩ => ⟨uout_arg h1 he, by subst hw; exact Ch.refl _ _⟩
  · obtain ⟨n, rfl⟩ := Int.eq_ofNat_of_zero_le (show 0 ≤ N from by omega)
    obtain ⟨c, rfl⟩ := Int.eq_ofNat_of_zero_le (show 0 ≤ C from by omega)
    by_cases h2 : c ≤ 134217728 / n
    · by_cases h3 : s.size = (c * n + 7) / 8
      · refine (runpack_any s n c w (by omega) (by omega) h2 h3).mono fun e w' ⟨hc, h⟩ => ⟨?_, hc⟩
        rcases h with ⟨h4, he⟩ | ⟨h4, a, he, hr⟩
        · exact uout_bad h1 (fun hg => h4 hg.2.2) he
        · exact uout_good h1 ⟨h2, h3, h4⟩ he hr
      · exact (runpack_len s n c w (by omega) (by omega) h2 hs h3).mono fun _ _ ⟨he, hw⟩ => ⟨uout_bad h1 (fun hg => h3 hg.2.1) he, by subst hw; exact Ch.refl _ _⟩
    · refine (runpack_many s n c w (by omega) (by omega) (by omega) ?_).mono fun _ _ ⟨he, hw⟩ => ⟨uout_bad h1 (fun hg => h2 hg.1) he, by subst hw; exact Ch.refl _ _⟩
      rw [show (134217728 : Int) / (n : Int) = ((134217728 / n : Nat) : Int) from by simp]; omega

theorem flat_split (zs : List Nat) (n i : Nat) (h : i < zs.length) : ∃ r, flat zs n = flat (zs.take i) n ++ (ofNum zs[i] n ++ r) := by
  refine ⟨flat (zs.drop (i + 1)) n, ?_⟩
  have e : zs = zs.take i ++ (zs[i] :: zs.drop (i + 1)) := by rw [List.getElem_cons_drop, List.take_append_drop]
  have h2 : flat zs n = flat (zs.take i ++ (zs[i] :: zs.drop (i + 1))) n := by rw [← e]
  rw [h2]
  unfold flat
  rw [List.flatMap_append, List.flatMap_cons]

/-- there and back -/
theorem back_good {zs : List Nat} {N : Int} {L : List UInt8} (hf : Fit zs N) (hp : Packs L (flat zs N.toNat)) : UX ⟨L.toArray⟩ N zs.length = 0 ∧ UZ ⟨L.toArray⟩ N zs.length = zs := by
  obtain ⟨h1, h2, h3, h4⟩ := hf
  obtain ⟨n, rfl⟩ := Int.eq_ofNat_of_zero_le (show 0 ≤ N from by omega)
  rw [Int.toNat_natCast] at h3 h4 hp
  have hl := length_flat zs n
  have hg : Good ⟨L.toArray⟩ n zs.length := by
    refine ⟨(len_le (by omega)).2 h4, ?_, ?_⟩
    · rw [size_text, hp.len, hl]
    · have := fld_rest hp
      rw [hl] at this
      rw [size_text]
      exact this
  have hneg : ¬ ((n : Int) < 1 ∨ 64 < (n : Int) ∨ ((zs.length : Nat) : Int) < 0) := by omega
  unfold UX UZ
  rw [if_neg hneg, if_neg hneg, Int.toNat_natCast, Int.toNat_natCast, if_pos hg, if_pos hg]
  refine ⟨rfl, ?_⟩
  apply List.ext_getElem
  · rw [length_nums]
  · intro i hi1 hi2
    obtain ⟨r, hr⟩ := flat_split zs n i hi2
    have hfl := fld_of hp hr
    rw [length_flat, List.length_take, show min i zs.length = i from by omega] at hfl
    simp only [nums, List.getElem_map, List.getElem_range]
    rw [hfl, Nat.mod_eq_of_lt (h3 _ (List.getElem_mem hi2))]
end Go.Proofs.Ytpedohlglllocaa.bits
