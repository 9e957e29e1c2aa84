/-
  Layer 4, the document's Fill and Same.
-/
import Derived.Test.YtjmjmekmaamclaaDoorDB
namespace Go.Proofs.YtjmjmekmaamclaaDoor.dev
open Go.ChangeShapes Go.WideShapes Go.ChangeAt Go.RowKit mem
set_option linter.unusedVariables false

/-- a text again and again, so many bytes of it -/
def fillL (l : List UInt8) (n : Nat) : List UInt8 := (List.range n).map fun i => l.getD (i % l.length) 0
def fillB (s : ByteArray) : List UInt8 := if s.size = 0 then [0] else s.data.toList
def fillM (s : ByteArray) (n : Nat) : ByteArray := ⟨(fillL (fillB s) n).toArray⟩
theorem fillL_len (l : List UInt8) (n : Nat) : (fillL l n).length = n := by simp [fillL]
theorem fillM_size (s : ByteArray) (n : Nat) : (fillM s n).size = n := by
  show (fillL (fillB s) n).toArray.size = n
  rw [List.size_toArray, fillL_len]
theorem fillL_self (l : List UInt8) : fillL l l.length = l := by
  apply List.ext_getElem?
  intro i
  by_cases h : i < l.length
  · simp [fillL, List.getElem?_range h, Nat.mod_eq_of_lt h, List.getD_eq_getElem?_getD, List.getElem?_eq_getElem h]
  · rw [List.getElem?_eq_none (by rw [fillL_len]; omega), List.getElem?_eq_none (by omega)]
theorem fillL_twice (l : List UInt8) (L : Nat) (h : L % l.length = 0) : fillL l L ++ fillL l L = fillL l (L + L) := by
  apply List.ext_getElem?
  intro i
  by_cases h1 : i < L
  · rw [List.getElem?_append_left (by rw [fillL_len]; exact h1)]
    simp [fillL, List.getElem?_range h1, List.getElem?_range (show i < L + L from by omega)]
  · by_cases h2 : i < L + L
    · rw [List.getElem?_append_right (by rw [fillL_len]; omega), fillL_len]
      have e : (i - L) % l.length = i % l.length := by
        have : i = (i - L) + L := by omega
        conv => rhs; rw [this]
        rw [Nat.add_mod, h, Nat.add_zero, Nat.mod_mod]
      simp [fillL, List.getElem?_range (show i - L < L from by omega), List.getElem?_range h2, e]
    · rw [List.getElem?_eq_none (by rw [List.length_append, fillL_len]; omega), List.getElem?_eq_none (by rw [fillL_len]; omega)]
theorem fillL_take (l : List UInt8) (n L : Nat) (h : n ≤ L) : (fillL l L).take n = fillL l n := by
  unfold fillL
  rw [← List.map_take, List.take_range, Nat.min_eq_left h]

theorem bytes_of_list (l : List UInt8) : (⟨l.toArray⟩ : ByteArray).size = l.length := by
  show l.toArray.size = _
  rw [List.size_toArray]
theorem bytes_add (a b : List UInt8) : (⟨a.toArray⟩ : ByteArray) ++ ⟨b.toArray⟩ = ⟨(a ++ b).toArray⟩ := by
  apply ByteArray.ext
  simp
theorem bytes_mk (s : ByteArray) : s = ⟨s.data.toList.toArray⟩ := by cases s; simp
theorem toList_ne {s : ByteArray} (h : ¬ s.size = 0) : s.toList.isEmpty = false := by
  rw [ByteArray.toList_eq, List.isEmpty_eq_false_iff]
  intro hh
  apply h
  show s.data.size = 0
  rw [← Array.length_toList, hh]; rfl
theorem bytes_cut (l : List UInt8) (n : Nat) : (⟨l.toArray⟩ : ByteArray).extract 0 n = ⟨(l.take n).toArray⟩ := by
  apply ByteArray.ext
  simp

set_option maxHeartbeats 1000000 in
theorem rfill_any (s : ByteArray) (n : Nat) (hn : 1 ≤ n) (hn2 : n ≤ 4096) (hs : s.size ≤ 9223372036854775807) (w : World) :
    Calls Tryd.prog 15 #[.string s, .int .i64 (n : Int)] w fun e w' => e = .returned (.string (fillM s n)) ∧ w = w' := by
  have n0 : (1 : Int) ≤ n := by omega
  have n1 : (n : Int) ≤ 4096 := by omega
  have HCUT := Lib.hid fun (l : List UInt8) (h : n ≤ l.length) (wx : World) => (show (Instr.slice 9 (.string ⟨l.toArray⟩) none (some (.int .i64 (n : Int))) none).run Tryd.prog wx = .ok (.string ⟨(l.take n).toArray⟩) wx by
    rw [run_slice_string_to_if (P := Tryd.prog) wx 9 _ .i64 n Tryd.underlying9, if_pos ⟨by omega, by rw [bytes_of_list]; omega⟩, Int.toNat_natCast, bytes_cut])
  obtain ⟨F, hF⟩ : ∃ F, F = fillM s n := ⟨_, rfl⟩
  have HF := Lib.hid hF
  rw [← hF]
  have HFB : Hid (0 < (fillB s).length) := Lib.hid (by
    unfold fillB
    split
    · decide
    · rename_i h; rw [Array.length_toList]; exact Nat.pos_of_ne_zero h)
  have HSB : Hid ((fillB s).length ≤ 9223372036854775807) := Lib.hid (by
    unfold fillB
    split
    · decide
    · rw [Array.length_toList]; exact hs)
  by_cases z : s.size = 0
  · have hse : s = (⟨#[]⟩ : ByteArray) := by
      cases s with
      | mk d =>
        have : d = #[] := Array.eq_empty_of_size_eq_zero z
        rw [this]
    have hb : (⟨#[0]⟩ : ByteArray) = ⟨(fillL (fillB s) (fillB s).length).toArray⟩ := by rw [fillL_self]; unfold fillB; rw [if_pos z]
    have HB := Lib.hid hb
    subst hse
    clear hb hF hs z
    go_enter Tryd.func15, Tryd.ntmps15
    go_wp2_with fail
    go_loop [0] (fun x => ∃ (L : Nat) (T : ByteArray), x = .string T ∧ Hid (T = ⟨(fillL (fillB (⟨#[]⟩ : ByteArray)) L).toArray⟩ ∧ L % (fillB (⟨#[]⟩ : ByteArray)).length = 0) ∧ Hid (T.size = L) ∧ 0 < L ∧ L ≤ 9223372036854775807) (fun x => n - (match x with | .string t => t.size | _ => 0))
    case atStart => exact ⟨(fillB (⟨#[]⟩ : ByteArray)).length, _, rfl, Lib.hid ⟨HB.out, Nat.mod_self _⟩, Lib.hid ((congrArg ByteArray.size HB.out).trans (by rw [bytes_of_list, fillL_len])), HFB.out, HSB.out⟩
    case round =>
      obtain ⟨L, T, rfl, hT, hZ, hL0, hL1⟩ := hrel
      by_cases hlt : L < n
      · have q0 : (L : Int) < n := by omega
        have q1 : ¬ 9223372036854775807 < L + L := by omega
        have HTT : Hid (T ++ T = ⟨(fillL (fillB (⟨#[]⟩ : ByteArray)) (L + L)).toArray⟩ ∧ (L + L) % (fillB (⟨#[]⟩ : ByteArray)).length = 0) := Lib.hid ⟨by
          have h := hT.out.1
          rw [h, bytes_add, fillL_twice _ _ hT.out.2], by simp [Nat.add_mod, hT.out.2]⟩
        have HZZ : Hid ((T ++ T).size = L + L) := Lib.hid (by rw [ByteArray.size_append, hZ.out])
        have hz := hZ.out
        go_wp2_with fail
        exact ⟨⟨L + L, _, rfl, HTT, HZZ, by omega, by omega⟩, by show n - (T ++ T).size < n - T.size; rw [HZZ.out, hZ.out]; omega⟩
      · have q0 : ¬ (L : Int) < n := by omega
        have q1 : (n : Int) ≤ L := by omega
        have hz := hZ.out
        have HC := HCUT.out (fillL (fillB (⟨#[]⟩ : ByteArray)) L) (by rw [fillL_len]; omega)
        rw [← hT.out.1, fillL_take _ _ _ (show n ≤ L from by omega)] at HC
        have HC := HC w
        clear hlt
        go_wp2_with fail
        go_ret
        exact ⟨by rw [HF.out, fillM]; rfl, rfl⟩
  · have HB : Hid (s = ⟨(fillL (fillB s) (fillB s).length).toArray⟩) := Lib.hid (by
      rw [fillL_self]; unfold fillB; rw [if_neg z])
    have he : s.toList.isEmpty = false := toList_ne z
    clear hF hs z
    go_enter Tryd.func15, Tryd.ntmps15
    go_wp2_with fail
    go_loop [0] (fun x => ∃ (L : Nat) (T : ByteArray), x = .string T ∧ Hid (T = ⟨(fillL (fillB s) L).toArray⟩ ∧ L % (fillB s).length = 0) ∧ Hid (T.size = L) ∧ 0 < L ∧ L ≤ 9223372036854775807) (fun x => n - (match x with | .string t => t.size | _ => 0))
    case atStart => exact ⟨(fillB s).length, _, rfl, Lib.hid ⟨HB.out, Nat.mod_self _⟩, Lib.hid ((congrArg ByteArray.size HB.out).trans (by rw [bytes_of_list, fillL_len])), HFB.out, HSB.out⟩
    case round =>
      obtain ⟨L, T, rfl, hT, hZ, hL0, hL1⟩ := hrel
      by_cases hlt : L < n
      · have q0 : (L : Int) < n := by omega
        have q1 : ¬ 9223372036854775807 < L + L := by omega
        have HTT : Hid (T ++ T = ⟨(fillL (fillB s) (L + L)).toArray⟩ ∧ (L + L) % (fillB s).length = 0) := Lib.hid ⟨by
          have h := hT.out.1
          rw [h, bytes_add, fillL_twice _ _ hT.out.2], by simp [Nat.add_mod, hT.out.2]⟩
        have HZZ : Hid ((T ++ T).size = L + L) := Lib.hid (by rw [ByteArray.size_append, hZ.out])
        have hz := hZ.out
        go_wp2_with fail
        exact ⟨⟨L + L, _, rfl, HTT, HZZ, by omega, by omega⟩, by show n - (T ++ T).size < n - T.size; rw [HZZ.out, hZ.out]; omega⟩
      · have q0 : ¬ (L : Int) < n := by omega
        have q1 : (n : Int) ≤ L := by omega
        have hz := hZ.out
        have HC := HCUT.out (fillL (fillB s) L) (by rw [fillL_len]; omega)
        rw [← hT.out.1, fillL_take _ _ _ (show n ≤ L from by omega)] at HC
        have HC := HC w
        clear hlt
        go_wp2_with fail
        go_ret
        exact ⟨by rw [HF.out, fillM]; rfl, rfl⟩
end Go.Proofs.YtjmjmekmaamclaaDoor.dev
