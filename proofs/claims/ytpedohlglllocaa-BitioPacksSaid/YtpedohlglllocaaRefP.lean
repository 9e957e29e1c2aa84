/-
  Layer 1: same, and the document's Pack.
-/
import Derived.Test.YtpedohlglllocaaRefT
import Derived.Test.YtpedohlglllocaaRefW
import Derived.Test.YtpedohlglllocaaPack
import Derived.Outline
namespace Go.Proofs.Ytpedohlglllocaa.bits
open Go.ChangeShapes Go.WideShapes Go.ChangeAt Go.RowKit
set_option linter.unusedVariables false

/-- what a slice value reads as -/
def Reads (w : World) (ao : Option Addr) (vs : List Value) : Prop := ∀ i, i < vs.length → ∃ b o, ao = some ⟨b, o, none⟩ ∧ w.cell? ⟨b, o + i, none⟩ = vs[i]?

theorem Reads.kept {w w' : World} {ao : Option Addr} {vs : List Value} (h : Reads w ao vs) (hc : Ch (fun _ => False) w w') : Reads w' ao vs := by
  intro i hi
  obtain ⟨b, o, h1, h2⟩ := h i hi
  refine ⟨b, o, h1, ?_⟩
  have h3 : vs[i]? = some vs[i] := List.getElem?_eq_getElem hi
  rw [World.cell?_of_block (w := w) (hc.block b (World.block_lt_of_cell? w ⟨b, o + i, none⟩ (by rw [h2, h3])) (fun h => h))]
  exact h2

theorem same_ne (ao bo : Option Addr) (la lb ca cb : Nat) (w : World) (h : la ≠ lb) :
    Calls Try.prog 29 #[.slice ao la ca, .slice bo lb cb] w fun e w' => e = .returned (.bool false) ∧ ∃ q, w' = w.drewN q := by
  have t1 : ((la : Int) != (lb : Int)) = true := by rw [bne_iff_ne]; omega
  have t2 : ((la : Int) == (lb : Int)) = false := by rw [beq_eq_false_iff_ne]; omega
  go_enter Try.func29, Try.ntmps29
  go_wp2_with fail
  go_ret
  exact ⟨rfl, 0, rfl⟩

set_option maxHeartbeats 1600000 in
/-- the same numbers -/
theorem same_eq (ao bo : Option Addr) (ca cb : Nat) (zs : List Nat) (w : World) (ha : Reads w ao (u64s zs)) (hb : Reads w bo (u64s zs)) (hl : zs.length ≤ 9223372036854775807) :
    Calls Try.prog 29 #[.slice ao zs.length ca, .slice bo zs.length cb] w fun e w' => e = .returned (.bool true) ∧ ∃ q, w' = w.drewN q := by
  have hul : (u64s zs).length = zs.length := by simp [u64s]
  unfold Reads at ha hb
  rw [hul] at ha hb
  obtain ⟨len, hlen⟩ : ∃ len, len = zs.length := ⟨_, rfl⟩
  rw [← hlen] at ha hb hl ⊢
  have HLEN := Lib.hid hlen
  clear hlen hul
  go_enter Try.func29, Try.ntmps29
  go_wp2_with fail
  go_loopw [5] (fun i wr => ∃ k : Nat, k ≤ len ∧ i = .int .i64 ↑k ∧ ∃ q, wr = w.drewN q) (fun i _ => len - (intOf i).toNat)
  case atStart => exact ⟨0, Nat.zero_le _, rfl, 0, rfl⟩
  case round =>
    obtain ⟨k, hk, rfl, q, rfl⟩ := hrel
    by_cases hlt : k < len
    · obtain ⟨b1, o1, rfl, hc1⟩ := ha k hlt
      obtain ⟨b2, o2, rfl, hc2⟩ := hb k hlt
      have hkz : k < zs.length := by have := HLEN.out; omega
      rw [show (u64s zs)[k]? = some (.int .u64 ((zs[k] : Nat) : Int)) from by simp [u64s, hkz]] at hc1 hc2
      generalize zs[k] = z at hc1 hc2
      clear ha hb
      go_wp2_with fail
      go_quiet (fail)
      go_wp2_with fail
      go_roundw
      case rel => exact ⟨k + 1, by omega, by go_num, _, rfl⟩
      case measure => simp [intOf] <;> omega
    · clear ha hb
      go_wp2_with fail
      go_ret
      exact ⟨rfl, q, rfl⟩

theorem row_reads {w : World} {ao : Option Addr} {cap : Nat} {l : List Bool} (h : w.ownsRow 0 4 1 (.slice ao l.length cap) l.length (bools l)) : ∀ i, i < l.length → ∃ b o, ao = some ⟨b, o, none⟩ ∧ w.cell? ⟨b, o + i, none⟩ = (bools l)[i]? := by
  intro i hi
  rcases h.2 with ⟨h1, h2⟩ | ⟨g, cap', cur, h1, _⟩
  · omega
  · simp only [Value.slice.injEq] at h1
    obtain ⟨rfl, _, rfl⟩ := h1
    exact ⟨g, 0, rfl, by rw [Nat.zero_add]; exact h.cellAt i (by omega)⟩

/-- a Put of the document's that does not go through -/
theorem wwput_no {w : World} {Q : Nat} {F : Nat → Prop} {sv : Value} {bs : List Bool} (h : Ww w Q F sv bs) (v n : Nat) (hn : n ≤ 64) (hv : v < 18446744073709551616) (hno : 2 ^ n ≤ v ∨ 134217728 < bs.length + n) :
    Calls Try.prog 33 #[.pointer (some ⟨Q, 0, none⟩), .int .u64 v, .int .i64 n] w fun e w' => (∃ x : Int, e = .returned (.int .i64 x) ∧ x ≠ 0) ∧ w = w' := by
  by_cases h1 : 2 ^ n ≤ v
  · exact (wwput_arg v n Q w hv (.inr (.inr (by simpa using h1)))).mono fun _ _ ⟨he, hw⟩ => ⟨⟨1, he, by omega⟩, hw⟩
  · exact (wwput_full h v n hn (by omega) (by omega)).mono fun _ _ ⟨he, hw⟩ => ⟨⟨3, he, by omega⟩, hw⟩

/-- what packing answers, the program's and the document's -/
def PackAns (zs : List Nat) (n : Nat) (e : Ending) : Prop :=
  (∃ L, (∀ z ∈ zs, z < 2 ^ n) ∧ zs.length * n ≤ 134217728 ∧ Packs L (flat zs n) ∧ e = .returned (.tuple #[.string ⟨L.toArray⟩, .int .i64 0])) ∨
    ((¬ ((∀ z ∈ zs, z < 2 ^ n) ∧ zs.length * n ≤ 134217728)) ∧ e = .returned (.tuple #[.string ByteArray.empty, .int .i64 1]))

theorem rpack_arg (ao : Option Addr) (len cap : Nat) (n : Int) (w : World) (h : n < 1 ∨ 64 < n) :
    Calls Try.prog 26 #[.slice ao len cap, .int .i64 n] w fun e w' => e = .returned (.tuple #[.string ByteArray.empty, .int .i64 1]) ∧ w = w' := by
  by_cases h1 : n < 1
  · clear h
    go_enter Try.func26, Try.ntmps26
    go_wp2_with fail
    go_ret2
    exact ⟨rfl, rfl⟩
  · have h2 : 64 < n := by omega
    clear h
    go_enter Try.func26, Try.ntmps26
    go_wp2_with fail
    go_ret2
    exact ⟨rfl, rfl⟩

theorem Ww.new (w : World) : Ww (w.alloc (.cells #[.slice none 0 0] 28)) w.heap.size (fun g => g = w.heap.size) (.slice none 0 0) [] :=
  ⟨heap_alloc_new w _, World.ownsRow_nil _ _ _ _, rfl, fun g hg => by simp [Value.ownBlock] at hg, by simp [Value.ownBlock], by simp, fun g hg => by subst hg; simp⟩

set_option maxHeartbeats 1600000 in
theorem rpack_any (ao : Option Addr) (cap : Nat) (zs : List Nat) (n : Nat) (w : World) (hr : Reads w ao (u64s zs)) (hz : ∀ z ∈ zs, z < 18446744073709551616) (hn1 : 1 ≤ n) (hn : n ≤ 64) (hlen : zs.length ≤ 9223372036854775807) :
    Calls Try.prog 26 #[.slice ao zs.length cap, .int .i64 n] w fun e w' => PackAns zs n e ∧ Ch (fun _ => False) w w' := by
  have hul : (u64s zs).length = zs.length := by simp [u64s]
  unfold Reads at hr
  rw [hul] at hr
  obtain ⟨len, hle⟩ : ∃ len : Nat, len = zs.length := ⟨_, rfl⟩
  rw [← hle] at hr hlen ⊢
  have HLE := Lib.hid hle
  clear hul hle
  have hnn : (1 : Int) ≤ (n : Int) := by omega
  go_enter Try.func26, Try.ntmps26
  go_wp2_with fail
  have HW := Lib.hid (Ww.new w)
  have HC := Lib.hid ((Ch.refl (fun _ => False) w).alloc (.cells #[.slice none 0 0] 28))
  obtain ⟨Q, hQ⟩ : ∃ Q, Q = w.heap.size := ⟨_, rfl⟩
  have HN : Hid (∀ k, k = w.heap.size → False ∨ w.heap.size ≤ k) := Lib.hid fun k hk => by right; omega
  rw [← hQ] at HW ⊢
  generalize w.alloc (.cells #[.slice none 0 0] 28) = w2 at HW HC ⊢
  go_loopw [7] (fun i wr => ∃ k : Nat, k ≤ len ∧ i = .int .i64 ↑k ∧ (∀ z ∈ zs.take k, z < 2 ^ n) ∧ k * n ≤ 134217728 ∧ ∃ F sv, Ww wr Q F sv (flat (zs.take k) n) ∧ Ch (fun _ => False) w wr ∧ ∀ g, F g → False ∨ w.heap.size ≤ g) (fun i _ => len - (intOf i).toNat)
  case atStart => exact ⟨0, Nat.zero_le _, rfl, by simp, by omega, _, _, by simpa [flat] using HW.out, HC.out, fun g hg => .inr (by rw [hQ] at hg; omega)⟩
  case round =>
    obtain ⟨k, hk, rfl, hfit, hkn, F, sv, hW, hC, hNN⟩ := hrel
    have HF := Lib.hid hfit
    have HKN := Lib.hid hkn
    have HW1 := Lib.hid hW
    have HC1 := Lib.hid hC
    have HN1 := Lib.hid hNN
    clear hfit hkn hW hC hNN HW HC HN
    by_cases hlt : k < len
    · obtain ⟨b, o, rfl, hc⟩ := hr k hlt
      have hkz : k < zs.length := by have := HLE.out; omega
      rw [show (u64s zs)[k]? = some (.int .u64 ((zs[k] : Nat) : Int)) from by simp [u64s, hkz]] at hc
      have hc1 : wr.cell? ⟨b, o + k, none⟩ = some (.int .u64 ((zs[k] : Nat) : Int)) := by
        rw [World.cell?_of_block (w := w) (HC1.out.block b (World.block_lt_of_cell? w _ hc) (fun h => h))]
        exact hc
      have hzk := hz zs[k] (List.getElem_mem hkz)
      have HM := Lib.hid (List.getElem_mem hkz)
      have HS := Lib.hid (flat_snoc zs n k hkz)
      have HT := Lib.hid (List.take_succ_eq_append_getElem hkz)
      have HFL : Hid ((flat (zs.take k) n).length = k * n) := Lib.hid (by rw [length_flat, List.length_take, show min k zs.length = k from by omega])
      generalize hzz : zs[k] = z at hc1 hzk HM HS HT
      clear hc hr hzz hQ
      by_cases hgo : z < 2 ^ n ∧ k * n + n ≤ 134217728
      · obtain ⟨hg1, hg2⟩ := hgo
        have HG1 := Lib.hid hg1
        have HG2 := Lib.hid hg2
        have HP := Lib.hid (wwput_ok HW1.out z n (by omega) hn hg1 (by rw [HFL.out]; exact hg2))
        clear hg1 hg2
        go_wp2_with fail
        refine HP.out.mono ?_
        rintro e w3 ⟨rfl, hq⟩
        have HQ := Lib.hid hq
        clear hq
        go_wp2_with fail
        go_roundw
        case rel =>
          obtain ⟨F3, v3, hW3, hC3, hN3⟩ := HQ.out
          refine ⟨k + 1, by omega, by go_num, ?_, by have := HG2.out; rw [Nat.add_mul]; omega, F3, v3, ?_, HC1.out.trans hC3 HN1.out, ?_⟩
          · rw [HT.out]
            intro y hy
            rcases List.mem_append.1 hy with h | h
            · exact HF.out y h
            · rw [List.mem_singleton.1 h]; exact HG1.out
          · rw [HS.out]; exact hW3
          · intro g hg
            rcases hN3 g hg with h | h
            · exact HN1.out g h
            · exact .inr (Nat.le_trans HC1.out.size h)
        case measure => simp [intOf] <;> omega
      · have HX : Hid (¬ ((∀ z ∈ zs, z < 2 ^ n) ∧ zs.length * n ≤ 134217728)) := Lib.hid (fun h => hgo ⟨h.1 z HM.out, by
          have h2 : (k + 1) * n ≤ zs.length * n := Nat.mul_le_mul_right _ (by omega)
          rw [Nat.add_mul] at h2
          omega⟩)
        have HP := Lib.hid (wwput_no HW1.out z n hn hzk (by rw [HFL.out]; omega))
        clear hgo
        go_wp2_with fail
        refine HP.out.mono ?_
        rintro e w3 ⟨⟨x, rfl, hx⟩, rfl⟩
        have t1 : (x != 0) = true := by rw [bne_iff_ne]; exact hx
        have t2 : (x == 0) = false := by rw [beq_eq_false_iff_ne]; exact hx
        clear hx
        go_wp2_with fail
        go_ret2
        exact ⟨.inr ⟨HX.out, rfl⟩, HC1.out⟩
    · have hkl : k = zs.length := by have := HLE.out; omega
      have hc0 := cell_of_one HW1.out.head
      obtain ⟨ao2, cap2, hsv⟩ := shape_row HW1.out.row
      subst hsv
      have HTX := Lib.hid (rtext_any ao2 (flat (zs.take k) n) cap2 wr HW1.out.max (row_reads HW1.out.row))
      have HA : Hid (∀ z ∈ zs, z < 2 ^ n) := Lib.hid (by have := HF.out; rw [hkl, List.take_length] at this; exact this)
      have HB : Hid (zs.length * n ≤ 134217728) := Lib.hid (by have := HKN.out; rw [hkl] at this; exact this)
      have HK : Hid (zs.take k = zs) := Lib.hid (by rw [hkl, List.take_length])
      clear hkl hr hQ
      go_wp2_with fail
      refine HTX.out.mono ?_
      rintro e w3 ⟨⟨L, hL, rfl⟩, hC3⟩
      have HL := Lib.hid hL
      have HC3 := Lib.hid (HC1.out.trans hC3 fun _ h => h.elim)
      clear hL hC3
      go_wp2_with fail
      go_ret2
      exact ⟨.inl ⟨L, HA.out, HB.out, by have := HL.out; rw [HK.out] at this; exact this, rfl⟩, HC3.out⟩
end Go.Proofs.Ytpedohlglllocaa.bits
