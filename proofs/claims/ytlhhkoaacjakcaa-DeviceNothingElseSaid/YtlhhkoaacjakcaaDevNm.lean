/-
  Layer 4, plain: what DeviceNothingElse reckons: is a block wholly old or one of the writes, and each of its sectors; how many blocks are neither.
-/
import Derived.Test.YtlhhkoaacjakcaaDevX
import Derived.Test.YtlhhkoaacjakcaaDevQ
namespace Go.Proofs.Ytlhhkoaacjakcaa.dev
open Go.ChangeShapes Go.WideShapes Go.ChangeAt Go.RowKit mem
set_option linter.unusedVariables false

def wholeB (C : List (Nat × ByteArray)) (f s : ByteArray) (n k : Nat) : Bool := decide (f = s) || (C.take k).any fun x => decide (x.1 = n) && decide (f = x.2)
theorem whole_zero (C : List (Nat × ByteArray)) (f s : ByteArray) (n : Nat) : wholeB C f s n 0 = decide (f = s) := by simp [wholeB]
theorem whole_more (C : List (Nat × ByteArray)) (f s : ByteArray) (n k : Nat) (h : k < C.length) : wholeB C f s n (k + 1) = (wholeB C f s n k || (decide ((C[k]).1 = n) && decide (f = (C[k]).2))) := by
  unfold wholeB
  rw [List.take_succ_eq_append_getElem h, List.any_append, Bool.or_assoc]
  simp
theorem whole_of {C : List (Nat × ByteArray)} {s0 : List ByteArray} {n : Nat} {f : ByteArray} (h : Whole C s0 n f) : wholeB C f (s0.getD n empty) n C.length = true := by
  unfold wholeB
  rw [List.take_length]
  rcases h with h | ⟨x, hx, h1, h2⟩
  · rw [decide_eq_true h]; rfl
  · rw [Bool.or_eq_true]
    exact .inr (List.any_eq_true.2 ⟨x, hx, by rw [decide_eq_true h1, decide_eq_true h2]; rfl⟩)
abbrev ex (b : ByteArray) (a : Nat) : ByteArray := b.extract a (a + 512)
def sectB (C : List (Nat × ByteArray)) (f s : ByteArray) (n a k : Nat) : Bool := decide (ex f a = ex s a) || (C.take k).any fun x => decide (x.1 = n) && decide (ex f a = ex x.2 a)
theorem sect_zero (C : List (Nat × ByteArray)) (f s : ByteArray) (n a : Nat) : sectB C f s n a 0 = decide (ex f a = ex s a) := by simp [sectB]
theorem sect_more (C : List (Nat × ByteArray)) (f s : ByteArray) (n a k : Nat) (h : k < C.length) : sectB C f s n a (k + 1) = (sectB C f s n a k || (decide ((C[k]).1 = n) && decide (ex f a = ex (C[k]).2 a))) := by
  unfold sectB
  rw [List.take_succ_eq_append_getElem h, List.any_append, Bool.or_assoc]
  simp
theorem sect_of {C : List (Nat × ByteArray)} {s0 s : List ByteArray} {ns n j : Nat} (h : Sects C s0 ns s) (hn : n < s0.length) (hj : j < ns) : sectB C (s.getD n empty) (s0.getD n empty) n (512 * j) C.length = true := by
  unfold sectB
  rw [List.take_length]
  rcases h n j hn hj with h | ⟨x, hx, h1, h2⟩
  · rw [decide_eq_true (show ex (s.getD n empty) (512 * j) = ex (s0.getD n empty) (512 * j) from h)]; rfl
  · replace h2 : ex (s.getD n empty) (512 * j) = ex x.2 (512 * j) := h2
    rw [Bool.or_eq_true]
    exact .inr (List.any_eq_true.2 ⟨x, hx, by rw [decide_eq_true h1, decide_eq_true h2]; rfl⟩)
/-- how many of the first k blocks are not whole: only block n0 may be -/
def tornB (n0 : Nat) (b : Bool) (k : Nat) : Nat := if n0 < k ∧ b = false then 1 else 0
theorem torn_zero (n0 : Nat) (b : Bool) : tornB n0 b 0 = 0 := if_neg (by omega)
theorem torn_le (n0 : Nat) (b : Bool) (k : Nat) : tornB n0 b k ≤ 1 := by unfold tornB; split <;> omega
theorem torn_more (n0 : Nat) (wb : Nat → Bool) (k : Nat) (h : ∀ n, ¬ n = n0 → wb n = true) : tornB n0 (wb n0) (k + 1) = tornB n0 (wb n0) k + (if wb k = true then 0 else 1) := by
  unfold tornB
  by_cases e : k = n0
  · subst e
    cases hb : wb k
    · rw [if_pos ⟨by omega, rfl⟩, if_neg (by omega), if_neg (by decide)]
    · rw [if_neg (by simp), if_neg (by simp), if_pos rfl]
  · rw [h k e, if_pos rfl]
    by_cases q : n0 < k ∧ wb n0 = false
    · rw [if_pos q, if_pos ⟨by omega, q.2⟩]
    · rw [if_neg q, if_neg (fun p => q ⟨by omega, p.2⟩)]
structure FellSo (nb ns : Nat) (C : List (Nat × ByteArray)) (SI F : List ByteArray) (n0 : Nat) : Prop where
  lenF : F.length = nb
  lenS : SI.length = nb
  szF : ∀ n, n < nb → (F.getD n empty).size = 512 * ns
  szS : ∀ n, n < nb → (SI.getD n empty).size = 512 * ns
  szC : ∀ x ∈ C, x.1 < nb ∧ x.2.size = 512 * ns
  sect : ∀ n j, n < nb → j < ns → sectB C (F.getD n empty) (SI.getD n empty) n (512 * j) C.length = true
  whole : ∀ n, ¬ n = n0 → wholeB C (F.getD n empty) (SI.getD n empty) n C.length = true
theorem fell_so {nb ns : Nat} {C : List (Nat × ByteArray)} {D : DevM} (a : Written nb ns C D) (ks : List Int) (torn : Int) (mask : Nat) : ∃ n0, FellSo nb ns C D.safe (fallen ks torn mask 0 C D.safe) n0 := by
  have l0 : D.safe.length = nb := a.ok.safe.trans a.enb
  have z0 : ∀ y ∈ D.safe, y.size = 512 * ns := fun y hy => by rw [← a.ens]; exact a.ok.ssz y hy
  have hl : (fallen ks torn mask 0 C D.safe).length = nb := by rw [fallen_len]; exact l0
  have hz := fallen_sz (ks := ks) (torn := torn) (mask := mask) C 0 D.safe z0 fun x hx => by rw [l0]; exact a.num x hx
  have hs : Sects C D.safe ns (fallen ks torn mask 0 C D.safe) := sects_fallen C 0 D.safe (fun x hx => ⟨hx, by rw [l0]; exact (a.num x hx).1, (a.num x hx).2⟩) (fun n k _ _ => .inl rfl) rfl z0
  obtain ⟨n0, hw⟩ : Near C D.safe (fallen ks torn mask 0 C D.safe) := good_fallen C 0 D.safe (fun x hx => hx) (fun n => .inl rfl)
  exact ⟨n0, hl, l0, fun n hn => hz _ (getD_mem (by omega)), fun n hn => z0 _ (getD_mem (by omega)), a.num, fun n j hn hj => sect_of hs (by omega) hj, fun n hn => whole_of (hw n hn)⟩
theorem slice_ex (s : ByteArray) (a : Nat) (h : a + 512 ≤ s.size) (w : World) :
    (Instr.slice 9 (.string s) (some (.int .i64 (a : Int))) (some (.int .i64 ((a : Int) + 512))) none).run Try.prog w = .ok (.string (ex s a)) w := by
  have := run_slice_string (P := Try.prog) w 9 s .i64 .i64 (a : Int) ((a : Int) + 512) Try.underlying9 (by omega) (by omega) (by omega)
  rw [this, show ((a : Int) + 512).toNat = a + 512 from by omega, show ((a : Int)).toNat = a from by omega]
end Go.Proofs.Ytlhhkoaacjakcaa.dev
