/-
  A slice of Puts that came in, opened: all four fields, and how long the texts are.
-/
import Derived.Test.YtpedohlglllocaaWrites
import Derived.Test.YtpedohlglllocaaRows
import Derived.Deep.Slices
import Derived.Deep.Fields
import Derived.ChangeSame
namespace Go.Proofs.Ytpedohlglllocaa.bits
open Go.ChangeShapes Go.WideShapes Go.ChangeAt Go.RowKit Go.Deep
set_option linter.unusedVariables false

theorem laid_out4 : laidOutB Try.prog = true := by kernel_rfl

/-- what one Put of a slice holds -/
def PutAt4 (W : World) (a : Addr) (i : Nat) (K : Int) (V : Nat) (N : Int) (T : ByteArray) : Prop :=
  W.cell? (a.add (i * 4)) = some (.int .i64 K) ∧ W.cell? (a.add (i * 4 + 1)) = some (.int .u64 (V : Int)) ∧ W.cell? (a.add (i * 4 + 2)) = some (.int .i64 N) ∧ W.cell? (a.add (i * 4 + 3)) = some (.string T) ∧ V < 18446744073709551616

theorem wf_u64' {n : Int} (h : (Lit.int .u64 n).wf = true) : 0 ≤ n ∧ n ≤ 18446744073709551615 := by
  simpa [Lit.wf, IntKind.min, IntKind.max, IntKind.signed, IntKind.bits] using h

theorem bulk_mem {H : Type} {d : DataW H} : ∀ {l : List (DataW H)}, d ∈ l → Rows.uptoBulk d ≤ Rows.uptoBulkAll l := by
  intro l
  induction l with
  | nil => intro h; cases h
  | cons a l ih =>
    intro h
    rw [Rows.uptoBulkAll]
    rcases List.mem_cons.1 h with rfl | h
    · omega
    · have := ih h; omega

theorem put_cells4 {H : Type} {enc : TypeId × Value → H} {W : World} {n : Nat} {a : Addr} {i : Nat} {cs : List Value} {x : DataW H × List MemPlace} (hc : W.cells? 0 (a.add (i * 4)) 4 = some cs) (h : DataW.trod enc Try.prog W 0 (fun _ => true) true n 32 cs = some x) :
    ∃ K V N T, PutAt4 W a i K V N T ∧ T.size ≤ Rows.uptoBulk x.1 := by
  obtain ⟨_, hl, hcell⟩ := World.cells?_some hc
  obtain ⟨xs, m, _, hx, _, hxl, hf⟩ := DataW.trod_struct Try.underlying32 h
  match cs, hl with
  | [c0, c1, c2, c3], _ =>
    have f0 := hf 0 _ rfl
    have f1 := hf 1 _ rfl
    have f2 := hf 2 _ rfl
    have f3 := hf 3 _ rfl
    match xs, hxl with
    | [y0, y1, y2, y3], _ =>
      have g0 : DataW.trod enc Try.prog W 0 (fun _ => true) true m 3 [c0] = some y0 := f0
      have g1 : DataW.trod enc Try.prog W 0 (fun _ => true) true m 30 [c1] = some y1 := f1
      have g2 : DataW.trod enc Try.prog W 0 (fun _ => true) true m 3 [c2] = some y2 := f2
      have g3 : DataW.trod enc Try.prog W 0 (fun _ => true) true m 9 [c3] = some y3 := f3
      obtain ⟨k0, e0, _, w0⟩ := DataW.trod_int Try.underlying3 g0
      obtain ⟨k1, e1, _, w1⟩ := DataW.trod_int Try.underlying30 g1
      obtain ⟨k2, e2, _, w2⟩ := DataW.trod_int Try.underlying3 g2
      obtain ⟨s3, e3, q3, w3⟩ := DataW.trod_string Try.underlying9 g3
      have b1 := wf_u64' w1
      have h0 := hcell 0 (by omega)
      have h1 := hcell 1 (by omega)
      have h2 := hcell 2 (by omega)
      have h3 := hcell 3 (by omega)
      rw [add_add] at h0 h1 h2 h3
      simp only [List.cons.injEq, and_true] at e0 e1 e2 e3
      subst e0 e1 e2 e3
      refine ⟨k0, k1.toNat, k2, s3, ⟨by simpa using h0, ?_, h2, h3, by omega⟩, ?_⟩
      · rw [show ((k1.toNat : Nat) : Int) = k1 from by omega]
        exact h1
      · subst hx
        have hb : Rows.uptoBulk y3.1 ≤ Rows.uptoBulkAll ([y0, y1, y2, y3].map (·.1)) := bulk_mem (List.mem_map_of_mem (by simp))
        have e : s3.data.toList.length = s3.size := by rw [Array.length_toList]; rfl
        have hy : Rows.uptoBulk y3.1 = s3.size + 1 := by rw [q3, Rows.uptoBulk, e]
        show s3.size ≤ Rows.uptoBulk (DataW.agg ([y0, y1, y2, y3].map (·.1)))
        rw [Rows.uptoBulk]
        omega

theorem puts_open4 {H : Type} {enc : TypeId × Value → H} {W : World} {fuel : Nat} {a0 : Option Addr} {len cap : Nat} {x : DataW H × List MemPlace} (h : DataW.trod enc Try.prog W 0 (fun _ => true) true fuel 22 [.slice a0 len cap] = some x) :
    len ≤ maxLen ∧ ∃ (K : Nat → Int) (V : Nat → Nat) (N : Nat → Int) (T : Nat → ByteArray), ∀ i, i < len → ∃ b o, a0 = some ⟨b, o, none⟩ ∧ PutAt4 W ⟨b, o, none⟩ i (K i) (V i) (N i) (T i) ∧ (T i).size ≤ Rows.uptoBulk x.1 := by
  rcases open_slice Try.underlying22 h with ⟨hcs, _⟩ | ⟨a, len', cap', m, n, D, Pl, hcs, _, hl, hm, hmm, hx, hi⟩
  · simp only [List.cons.injEq, Value.slice.injEq, and_true] at hcs
    obtain ⟨rfl, rfl, rfl⟩ := hcs
    exact ⟨Nat.zero_le _, fun _ => 0, fun _ => 0, fun _ => 0, fun _ => ByteArray.empty, fun i hi => absurd hi (by omega)⟩
  · simp only [List.cons.injEq, Value.slice.injEq, and_true] at hcs
    obtain ⟨rfl, rfl, rfl⟩ := hcs
    have hmc : m = cap := hmm
    have each : ∀ i, i < len → ∃ q : Int × Nat × Int × ByteArray, PutAt4 W a i q.1 q.2.1 q.2.2.1 q.2.2.2 ∧ q.2.2.2.size ≤ Rows.uptoBulk x.1 := by
      intro i hil
      obtain ⟨cs', hc, ht⟩ := hi i (by omega)
      obtain ⟨K, V, N, T, hp, hb⟩ := put_cells4 hc ht
      refine ⟨(K, V, N, T), hp, ?_⟩
      have h2 : Rows.uptoBulk (D i) ≤ Rows.uptoBulkAll ((List.range len).map D) := bulk_mem (List.mem_map_of_mem (List.mem_range.2 hil))
      rw [hx]
      have hb2 : T.size ≤ Rows.uptoBulk (D i) := hb
      show T.size ≤ Rows.uptoBulk (DataW.slice _ _)
      rw [Rows.uptoBulk]
      omega
    refine ⟨Nat.le_trans hl hm, fun i => if h : i < len then (Classical.choose (each i h)).1 else 0, fun i => if h : i < len then (Classical.choose (each i h)).2.1 else 0, fun i => if h : i < len then (Classical.choose (each i h)).2.2.1 else 0, fun i => if h : i < len then (Classical.choose (each i h)).2.2.2 else ByteArray.empty, fun i hil => ?_⟩
    have h0 := (Classical.choose_spec (each 0 (by omega))).1
    have hsp : a.spot = none := by
      have := h0.1
      rw [Nat.zero_mul, show a.add 0 = a from rfl] at this
      cases hs : a.spot with
      | none => rfl
      | some s => unfold World.cell? at this; split at this <;> simp [hs] at this
    obtain ⟨ab, ao, asp⟩ := a
    simp only at hsp
    subst hsp
    refine ⟨ab, ao, rfl, ?_⟩
    have hs := Classical.choose_spec (each i hil)
    simpa only [dif_pos hil] using hs

theorem add_plain4 (b o n : Nat) : (⟨b, o, none⟩ : Addr).add n = ⟨b, o + n, none⟩ := by unfold Addr.add; split <;> simp_all

theorem puts_view4 {W : World} {a0 : Option Addr} {len cap M : Nat} {K : Nat → Int} {V : Nat → Nat} {N : Nat → Int} {T : Nat → ByteArray} (hM : M ≤ 1048576) (h : ∀ i, i < len → ∃ b o, a0 = some ⟨b, o, none⟩ ∧ PutAt4 W ⟨b, o, none⟩ i (K i) (V i) (N i) (T i) ∧ (T i).size ≤ M) :
    Puts4 W (.slice a0 len cap) a0 len cap K V N T := by
  refine ⟨rfl, fun i hi => ?_, fun i hi => ?_⟩
  · obtain ⟨b, o, e, ⟨h0, h1, h2, h3, _⟩, _⟩ := h i hi
    rw [add_plain4] at h0 h1 h2 h3
    exact ⟨b, o, e, h0, h1, h2, h3⟩
  · obtain ⟨b, o, e, ⟨h0, h1, h2, h3, h4⟩, h5⟩ := h i hi
    exact ⟨h4, by omega⟩
end Go.Proofs.Ytpedohlglllocaa.bits
