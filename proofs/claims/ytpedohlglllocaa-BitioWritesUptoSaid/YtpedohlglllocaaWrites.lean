/-
  BitioWrites answers true: the walk.
-/
import Derived.Test.YtpedohlglllocaaWritesB
import Derived.Test.YtpedohlglllocaaRefT
import Derived.Test.YtpedohlglllocaaAwake
import Derived.Deep.RegionHeld3
import Derived.Outline
namespace Go.Proofs.Ytpedohlglllocaa.bits
open Go.ChangeShapes Go.WideShapes Go.ChangeAt Go.RowKit
set_option linter.unusedVariables false

/-- a slice of Puts: all four fields of each -/
structure Puts4 (w : World) (lv : Value) (ao : Option Addr) (len cap : Nat) (K : Nat → Int) (V : Nat → Nat) (N : Nat → Int) (T : Nat → ByteArray) : Prop where
  val : lv = .slice ao len cap
  cells : ∀ i, i < len → ∃ b o, ao = some ⟨b, o, none⟩ ∧ w.cell? ⟨b, o + i * 4, none⟩ = some (.int .i64 (K i)) ∧ w.cell? ⟨b, o + i * 4 + 1, none⟩ = some (.int .u64 (V i : Int)) ∧ w.cell? ⟨b, o + i * 4 + 2, none⟩ = some (.int .i64 (N i)) ∧ w.cell? ⟨b, o + i * 4 + 3, none⟩ = some (.string (T i))
  fit : ∀ i, i < len → V i < 18446744073709551616 ∧ (T i).size ≤ 17592186044416

theorem ch_cell4 {w wr : World} (hc : Ch (fun _ => False) w wr) {p : Addr} {v : Value} (hp : w.cell? p = some v) : wr.cell? p = some v := by
  rw [World.cell?_of_block (w := w) (hc.block p.block (World.block_lt_of_cell? w p hp) (fun h => h))]
  exact hp

/-- the three writers, new -/
theorem duo_start (w : World) : Duo [] w (((w.alloc (.cells #[.slice none 0 0, .int .i64 0] 70)).alloc (.cells #[.slice none 0 0, .int .i64 0] 70)).alloc (.cells #[.slice none 0 0] 28)) w.heap.size (w.heap.size + 2) (w.heap.size + 1) [] [] [] := by
  obtain ⟨w1, h1⟩ : ∃ w1, w1 = w.alloc (.cells #[.slice none 0 0, .int .i64 0] 70) := ⟨_, rfl⟩
  obtain ⟨w2, h2⟩ : ∃ w2, w2 = w1.alloc (.cells #[.slice none 0 0, .int .i64 0] 70) := ⟨_, rfl⟩
  have s1 : w1.heap.size = w.heap.size + 1 := by subst h1; simp
  have s2 : w2.heap.size = w.heap.size + 2 := by subst h2; simp [s1]
  have a1 : Wr w1 w.heap.size (fun g => g = w.heap.size) [] (.slice none 0 0) [] := by subst h1; exact Wr.new w
  have a2 : Wr w2 (w.heap.size + 1) (fun g => g = w.heap.size + 1) [] (.slice none 0 0) [] := by
    have := Wr.new w1
    rw [s1] at this
    subst h2
    exact this
  have a1' : Wr w2 w.heap.size (fun g => g = w.heap.size) [] (.slice none 0 0) [] := by subst h2; exact a1.alloc _
  rw [← h1, ← h2]
  have c1 : Ch (fun _ => False) w w2 := by subst h2; subst h1; exact ((Ch.refl _ w).alloc _).alloc _
  clear h1 h2 a1 s1
  refine ⟨_, fun g => g = w.heap.size + 2, _, _, _, .slice none 0 0, _, _, a1'.alloc _, ⟨by rw [← s2]; exact heap_alloc_new w2 _, World.ownsRow_nil _ _ _ _, rfl, fun g hg => by simp [Value.ownBlock] at hg, by simp [Value.ownBlock], by simp, fun g hg => by subst hg; simp [s2]⟩, a2.alloc _, fun g a b => by omega, fun g a b => by omega, fun g a b => by omega, fun g a => by omega, fun g a => by omega, fun g a => by omega, c1.alloc _, fun p hp => by cases hp⟩

/-- what a round asks behind the two writes -/
theorem duo_open {w wr : World} {B Q O : Nat} {bs bo : List Bool} (h : Duo [] w wr B Q O bs bs bo) : ∃ (S : ByteArray) (ao : Option Addr) (cap ln : Nat), ln = bs.length ∧
    Calls Try.prog 11 #[.pointer (some ⟨B, 0, none⟩)] wr (fun e w' => e = .returned (.tuple #[.string S, .int .i64 0]) ∧ wr = w') ∧
    ∀ wq, Ch (fun _ => False) wr wq → wq.cell? ⟨Q, 0, none⟩ = some (.slice ao ln cap) ∧ Calls Try.prog 12 #[.slice ao ln cap] wq (fun e w' => e = .returned (.string S) ∧ Ch (fun _ => False) wr w') ∧
      Calls Try.prog 13 #[.pointer (some ⟨B, 0, none⟩)] wq (fun e w' => e = .returned (.int .i64 ln) ∧ wq = w') ∧ Calls Try.prog 13 #[.pointer (some ⟨O, 0, none⟩)] wq (fun e w' => e = .returned (.int .i64 bo.length) ∧ wq = w') := by
  obtain ⟨FB, FQ, FO, sv, L, qv, ov, OL, h1, h2, h3, d1, d2, d3, n1, n2, n3, hc, hg⟩ := h
  obtain ⟨ao, cap, rfl⟩ := shape_row h2.row
  refine ⟨⟨L.toArray⟩, ao, cap, _, rfl, wtext_any h1, fun wq hq => ?_⟩
  have k2 := h2.kept hq fun _ _ h => h
  refine ⟨cell_of_one k2.head, (rtext_any ao bs cap wq h2.max ?_).mono fun e w' ⟨⟨L2, hp, he⟩, hc2⟩ => ⟨by rw [he, hp.unique h1.packs], hq.trans hc2 fun _ h => h.elim⟩, wlen_any (h1.kept hq fun _ _ h => h), wlen_any (h3.kept hq fun _ _ h => h)⟩
  intro i hi
  rcases row_form k2.row with ⟨_, h0⟩ | ⟨g, cap2, hv, _⟩
  · omega
  · cases hv
    refine ⟨g, 0, rfl, ?_⟩
    have := k2.row.cellAt i (by omega)
    rw [Nat.zero_add]
    exact this

theorem length_put7 (bo : List Bool) (k : Nat) (h : bo.length = 7 * k) : (bo ++ ofNum 3 7).length = 7 * (k + 1) := by
  rw [List.length_append, length_ofNum, h]
  omega

set_option maxRecDepth 100000 in
set_option maxHeartbeats 1600000 in
theorem writes_walk (lv : Value) (ao : Option Addr) (len cap : Nat) (K : Nat → Int) (V : Nat → Nat) (N : Nat → Int) (T : Nat → ByteArray) (w : World) (hp : Puts4 w lv ao len cap K V N T) (hlen : len ≤ 9223372036854775807) :
    Calls Try.prog 3 #[lv] w fun e w' => e = .returned (.bool true) ∧ Ch (fun _ => False) w w' := by
  obtain ⟨hval, hcells, hfit⟩ := hp
  subst hval
  go_enter Try.func3, Try.ntmps3
  go_wp2_with (go_at_call 8; refine (new_any _).mono ?_; rintro e w' ⟨rfl, rfl⟩)
  have HT := Lib.hid (duo_start w)
  obtain ⟨B, hB⟩ : ∃ B, B = w.heap.size := ⟨_, rfl⟩
  obtain ⟨O, hO⟩ : ∃ O, O = w.heap.size + 1 := ⟨_, rfl⟩
  obtain ⟨Q, hQ⟩ : ∃ Q, Q = w.heap.size + 1 + 1 := ⟨_, rfl⟩
  rw [show w.heap.size + 2 = w.heap.size + 1 + 1 from rfl, ← hQ, ← hO, ← hB] at HT
  rw [← hQ, ← hO, ← hB]
  generalize ((w.alloc (.cells #[.slice none 0 0, .int .i64 0] 70)).alloc (.cells #[.slice none 0 0, .int .i64 0] 70)).alloc (.cells #[.slice none 0 0] 28) = w3 at HT ⊢
  clear hB hO hQ
  go_loopw [6] (fun i wr => ∃ k : Nat, k ≤ len ∧ k ≤ 100 ∧ i = .int .i64 ↑k ∧ ∃ bs bo, bo.length = 7 * k ∧ Duo [] w wr B Q O bs bs bo) (fun i _ => 100 - (intOf i).toNat)
  case atStart => exact ⟨0, Nat.zero_le _, Nat.zero_le _, rfl, [], [], rfl, HT.out⟩
  case round =>
    obtain ⟨k, hk, hk2, rfl, bs, bo, hbo, hT⟩ := hrel
    have HBO := Lib.hid hbo
    have HT1 := Lib.hid hT
    clear hT HT hbo
    by_cases hlt : k < len
    · by_cases hlt2 : k < 100
      · obtain ⟨b, o, rfl, hc0, hc1, hc2, hc3⟩ := hcells k hlt
        obtain ⟨hV, hTz⟩ := hfit k hlt
        have hc0' := ch_cell4 HT1.out.ch hc0
        have hc1' := ch_cell4 HT1.out.ch hc1
        have hc2' := ch_cell4 HT1.out.ch hc2
        have hc3' := ch_cell4 HT1.out.ch hc3
        have HP := Lib.hid (vput_any HT1.out (K k) (V k) (N k) (T k) hV hTz)
        have HB7 := Lib.hid (show bo.length + 7 ≤ 134217728 from by rw [HBO.out]; omega)
        generalize oOne bs (K k) (V k) (N k) (T k) = bs2 at HP
        generalize K k = kk at hc0 hc0' HP
        generalize V k = vv at hc1 hc1' HP
        generalize N k = nn at hc2 hc2' HP
        generalize T k = tt at hc3 hc3' HP
        clear hc0 hc1 hc2 hc3 hcells hfit hV hTz
        go_wp2_with (first | (go_at_call 9; refine HP.out.mono ?_; rintro e w4 ⟨rfl, hq⟩; have HT2 := Lib.hid hq; clear hq) | (go_at_call 10; refine (duo_putO HT2.out HB7.out).mono ?_; rintro e w5 ⟨rfl, hq⟩; have HT3 := Lib.hid hq; clear hq))
        obtain ⟨S, qao, qcap, ln, hln, hTX, hOP⟩ := duo_open HT3.out
        refine hTX.mono ?_
        rintro e w6 ⟨rfl, rfl⟩
        have HOP := Lib.hid hOP
        have hcQ := (hOP w5 (Ch.refl _ _)).1
        clear hTX hOP hln
        go_wp2_with fail
        go_region_held3 (fun w' => w'.cell? ⟨Q, 0, none⟩ = some (.slice qao ln qcap))
          (first | exact hcQ | exact (HOP.out _ HC4.out).1)
          ((first
            | (go_at_call 12; refine (HOP.out _ ((Ch.refl _ _).drew)).2.1.mono ?_; rintro e w7 ⟨rfl, hq⟩; have HC4 := Lib.hid hq; clear hq)
            | (go_at_call 13; refine (HOP.out _ HC4.out).2.2.1.mono ?_; rintro e w8 ⟨rfl, rfl⟩)))
        go_wp2_with fail
        go_roundw
        case rel => exact ⟨k + 1, by omega, by omega, by go_num, bs2, _, length_put7 bo k HBO.out, HT3.out.same HC4.out⟩
        case measure => simp [intOf] <;> omega
      · obtain ⟨S, qao, qcap, ln, hln, hTX, hOP⟩ := duo_open HT1.out
        have HLO := Lib.hid (hOP wr (Ch.refl _ _)).2.2.2
        clear hTX hOP hln hcells hfit
        rw [HBO.out] at HLO
        obtain rfl : k = 100 := by omega
        have hl2 : (100 : Int) < (len : Int) := by omega
        have hl3 : ¬ (len : Int) ≤ 100 := by omega
        have hl4 : ¬ (len : Int) < 100 := by omega
        have hl5 : (100 : Int) ≤ (len : Int) := by omega
        clear hlt hlt2 hk hk2
        go_wp2_with (first | (go_at_call 13; refine HLO.out.mono ?_; rintro e w8 ⟨rfl, rfl⟩))
        refine (awake_any _).mono ?_
        rintro e w9 ⟨rfl, hC9⟩
        have HC9 := Lib.hid (HT1.out.ch.trans hC9 fun _ h => h.elim)
        clear hC9
        go_wp2_with fail
        go_ret
        exact ⟨rfl, HC9.out⟩
    · obtain ⟨S, qao, qcap, ln, hln, hTX, hOP⟩ := duo_open HT1.out
      have HLO := Lib.hid (hOP wr (Ch.refl _ _)).2.2.2
      clear hTX hOP hln hcells hfit
      rw [HBO.out] at HLO
      obtain rfl : k = len := by omega
      have hl2 : (k : Int) ≤ 100 := by omega
      clear hlt hk
      go_wp2_with (first | (go_at_call 13; refine HLO.out.mono ?_; rintro e w8 ⟨rfl, rfl⟩))
      refine (awake_any _).mono ?_
      rintro e w9 ⟨rfl, hC9⟩
      have HC9 := Lib.hid (HT1.out.ch.trans hC9 fun _ h => h.elim)
      clear hC9
      go_wp2_with fail
      go_ret
      exact ⟨rfl, HC9.out⟩
end Go.Proofs.Ytpedohlglllocaa.bits
