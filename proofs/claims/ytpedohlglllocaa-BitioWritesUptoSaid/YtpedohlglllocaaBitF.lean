/-
  Layer 1: the contracts of a writer's other calls: New, Len, Text, Bit, Add.
-/
import Derived.Test.YtpedohlglllocaaBitE
import Derived.Laws.BytesArg
namespace Go.Proofs.Ytpedohlglllocaa.bits
open Go.ChangeShapes Go.WideShapes Go.ChangeAt Go.RowKit

theorem new_any (w : World) : Calls Try.prog 8 #[] w fun e w' => e = .returned (.pointer (some ⟨w.heap.size, 0, none⟩)) ∧ w' = w.alloc (.cells #[.slice none 0 0, .int .i64 0] 70) := by
  go_enter Try.func8, Try.ntmps8
  go_wp2_with fail
  go_ret
  exact ⟨rfl, rfl⟩

theorem Wr.new (w : World) : Wr (w.alloc (.cells #[.slice none 0 0, .int .i64 0] 70)) w.heap.size (fun g => g = w.heap.size) [] (.slice none 0 0) [] :=
  ⟨packs_nil, heap_alloc_new w _, World.ownsRow_nil _ _ _ _, rfl, fun g hg => by simp [Value.ownBlock] at hg, by simp [Value.ownBlock], by simp, fun g hg => by subst hg; simp⟩

/-- the blocks of F have not turned: the writer is as it was -/
theorem Wr.kept {w w' : World} {B : Nat} {F G : Nat → Prop} {b : List Bool} {v : Value} {L : List UInt8} (h : Wr w B F b v L) (hc : Ch G w w') (hd : ∀ g, F g → ¬ G g) : Wr w' B F b v L := by
  have hb : ∀ k, F k → w'.heap[k]? = w.heap[k]? := fun k hk => hc.block k (h.live k hk) (hd k hk)
  refine ⟨h.packs, by rw [hb B h.mine]; exact h.head, ?_, h.mine, h.rowMine, h.apart, h.max, fun g hg => Nat.lt_of_lt_of_le (h.live g hg) hc.size⟩
  obtain ⟨h1, h2⟩ := h.row
  refine ⟨h1, ?_⟩
  rcases h2 with h2 | ⟨g, cap, cur, hv, hg, hh, r⟩
  · exact .inl h2
  · exact .inr ⟨g, cap, cur, hv, hg, by rw [hb g (h.rowMine g (by rw [hv]; rfl))]; exact hh, r⟩

theorem Wr.alloc {w : World} {B : Nat} {F : Nat → Prop} {b : List Bool} {v : Value} {L : List UInt8} (h : Wr w B F b v L) (o : Obj) : Wr (w.alloc o) B F b v L :=
  h.kept ((Ch.refl (fun _ => False) w).alloc o) fun _ _ h => h
theorem Wr.drewN {w : World} {B : Nat} {F : Nat → Prop} {b : List Bool} {v : Value} {L : List UInt8} (h : Wr w B F b v L) (n : Nat) : Wr (w.drewN n) B F b v L :=
  h.kept ((Ch.refl (fun _ => False) w).drewN n) fun _ _ h => h

theorem Wr.text {w : World} {B : Nat} {F : Nat → Prop} {b : List Bool} {v : Value} {L : List UInt8} (h : Wr w B F b v L) : (convert 68 9 v).run Try.prog w = .ok (.string ⟨L.toArray⟩) w := by
  obtain ⟨h1, h2⟩ := h.row
  rcases h2 with ⟨rfl, h2⟩ | ⟨g, cap, cur, hv, _⟩
  · rw [run_convert_bytes_nil w 68 5 Try.underlying68 Try.underlying5 0 0 9 Try.underlying9]
    have : L = [] := List.length_eq_zero_iff.1 h2
    subst this
    rfl
  · subst hv
    have hr := run_convert_bytes_arg (P := Try.prog) w 68 5 Try.underlying68 Try.underlying5 g 0 L.length cap (L.map fun c => (c.toNat : Int)) (by simp) (fun i hi => by
      rw [Nat.zero_add, h.row.cellAt i (by omega)]
      simp [byteCells, List.getElem?_eq_getElem hi, List.getD]) 9 Try.underlying9
    rw [hr]
    congr 3
    simp [strOfNums, Function.comp_def]

theorem wlen_nil (w : World) : Calls Try.prog 13 #[.pointer none] w fun e w' => e = .returned (.int .i64 0) ∧ w = w' := by
  go_enter Try.func13, Try.ntmps13
  go_wp2_with fail
  go_ret
  exact ⟨rfl, rfl⟩

theorem wlen_any {w : World} {B : Nat} {F : Nat → Prop} {b : List Bool} {v : Value} {L : List UInt8} (h : Wr w B F b v L) :
    Calls Try.prog 13 #[.pointer (some ⟨B, 0, none⟩)] w fun e w' => e = .returned (.int .i64 b.length) ∧ w = w' := by
  have hc1 := two_cell1 h.head
  clear h
  go_enter Try.func13, Try.ntmps13
  go_wp2_with fail
  go_ret
  exact ⟨rfl, rfl⟩

theorem wtext_nil (w : World) : Calls Try.prog 11 #[.pointer none] w fun e w' => e = .returned (.tuple #[.string ByteArray.empty, .int .i64 2]) ∧ w = w' := by
  go_enter Try.func11, Try.ntmps11
  go_wp2_with fail
  go_ret2
  exact ⟨rfl, rfl⟩

theorem wtext_any {w : World} {B : Nat} {F : Nat → Prop} {b : List Bool} {v : Value} {L : List UInt8} (h : Wr w B F b v L) :
    Calls Try.prog 11 #[.pointer (some ⟨B, 0, none⟩)] w fun e w' => e = .returned (.tuple #[.string ⟨L.toArray⟩, .int .i64 0]) ∧ w = w' := by
  have hc0 := two_cell0 h.head
  have ht := h.text
  clear h
  go_enter Try.func11, Try.ntmps11
  go_wp2_with fail
  go_ret2
  exact ⟨rfl, rfl⟩

theorem wbit_nil (x : Bool) (w : World) : Calls Try.prog 30 #[.pointer none, .bool x] w fun e w' => e = .returned (.int .i64 2) ∧ w = w' := by
  cases x
  all_goals
    go_enter Try.func30, Try.ntmps30
    go_wp2_with (go_at_call 10; refine (wput_nil _ _ _).mono ?_; rintro e w' ⟨rfl, rfl⟩)
    go_ret
    exact ⟨rfl, rfl⟩

theorem wbit_full (x : Bool) {w : World} {B : Nat} {F : Nat → Prop} {b : List Bool} {v : Value} {L : List UInt8} (h : Wr w B F b v L) (hm : b.length = 134217728) :
    Calls Try.prog 30 #[.pointer (some ⟨B, 0, none⟩), .bool x] w fun e w' => e = .returned (.int .i64 3) ∧ w = w' := by
  have H1 := Lib.hid (wput_full 1 1 B F b v L w h (by omega) (by omega) (by omega))
  have H0 := Lib.hid (wput_full 0 1 B F b v L w h (by omega) (by omega) (by omega))
  clear h hm
  cases x
  · go_enter Try.func30, Try.ntmps30
    go_wp2_with (go_at_call 10; refine H0.out.mono ?_; rintro e w' ⟨rfl, rfl⟩)
    go_ret
    exact ⟨rfl, rfl⟩
  · go_enter Try.func30, Try.ntmps30
    go_wp2_with (go_at_call 10; refine H1.out.mono ?_; rintro e w' ⟨rfl, rfl⟩)
    go_ret
    exact ⟨rfl, rfl⟩

theorem wbit_ok (x : Bool) {w : World} {B : Nat} {F : Nat → Prop} {b : List Bool} {v : Value} {L : List UInt8} (h : Wr w B F b v L) (hm : b.length < 134217728) :
    Calls Try.prog 30 #[.pointer (some ⟨B, 0, none⟩), .bool x] w fun e w' => e = .returned (.int .i64 0) ∧ ∃ F' sv' L', Wr w' B F' (b ++ [x]) sv' L' ∧ Ch F w w' ∧ ∀ g, F' g → F g ∨ w.heap.size ≤ g := by
  have H1 := Lib.hid (wput_ok 1 1 B F b v L w h (by omega) (by omega) (by omega))
  have H0 := Lib.hid (wput_ok 0 1 B F b v L w h (by omega) (by omega) (by omega))
  clear h hm
  cases x
  · go_enter Try.func30, Try.ntmps30
    go_wp2_with (go_at_call 10; refine H0.out.mono ?_; rintro e w' ⟨rfl, hq⟩; have HQ := Lib.hid hq; clear hq)
    go_ret
    exact ⟨rfl, HQ.out⟩
  · go_enter Try.func30, Try.ntmps30
    go_wp2_with (go_at_call 10; refine H1.out.mono ?_; rintro e w' ⟨rfl, hq⟩; have HQ := Lib.hid hq; clear hq)
    go_ret
    exact ⟨rfl, HQ.out⟩

theorem wadd_nil (s : ByteArray) (n : Int) (w : World) : Calls Try.prog 31 #[.pointer none, .string s, .int .i64 n] w fun e w' => e = .returned (.int .i64 2) ∧ w = w' := by
  go_enter Try.func31, Try.ntmps31
  go_wp2_with fail
  go_ret
  exact ⟨rfl, rfl⟩

theorem wadd_arg (s : ByteArray) (n : Int) (B : Nat) (w : World) (hs : s.size ≤ 1152921504606846975) (h : n < 0 ∨ 8 * (s.size : Int) < n) :
    Calls Try.prog 31 #[.pointer (some ⟨B, 0, none⟩), .string s, .int .i64 n] w fun e w' => e = .returned (.int .i64 1) ∧ w = w' := by
  by_cases h1 : n < 0
  · go_enter Try.func31, Try.ntmps31
    go_wp2_with fail
    go_ret
    exact ⟨rfl, rfl⟩
  · have h2 : 8 * (s.size : Int) < n := by omega
    clear h
    go_enter Try.func31, Try.ntmps31
    go_wp2_with fail
    go_ret
    exact ⟨rfl, rfl⟩

theorem wadd_full (s : ByteArray) (n : Nat) (B : Nat) (F : Nat → Prop) (b : List Bool) (sv : Value) (L : List UInt8) (w : World) (hw : Wr w B F b sv L) (hs : s.size ≤ 1152921504606846975) (hn : n ≤ 8 * s.size) (hmax : 134217728 < b.length + n) :
    Calls Try.prog 31 #[.pointer (some ⟨B, 0, none⟩), .string s, .int .i64 n] w fun e w' => e = .returned (.int .i64 3) ∧ w = w' := by
  have hc1 := two_cell1 hw.head
  have hm := hw.max
  obtain ⟨ln, hln⟩ : ∃ ln : Nat, ln = b.length := ⟨_, rfl⟩
  rw [← hln] at hc1 hm
  have h1 : ((134217728 : Int) - (ln : Int)) < (n : Int) := by omega
  have h2 : (n : Int) ≤ 8 * (s.size : Int) := by omega
  clear hln hw hmax
  go_enter Try.func31, Try.ntmps31
  go_wp2_with fail
  go_ret
  exact ⟨rfl, rfl⟩

theorem taker_any (s : ByteArray) (w : World) : Calls Try.prog 37 #[.string s] w fun e w' => e = .returned (.func (Fn.func 42) #[] #[.pointer (some ⟨w.heap.size, 0, none⟩)]) ∧ w' = w.alloc (.cells #[.string s] 9) := by
  go_enter Try.func37, Try.ntmps37
  go_wp2_with fail
  go_ret
  exact ⟨rfl, rfl⟩
end Go.Proofs.Ytpedohlglllocaa.bits
