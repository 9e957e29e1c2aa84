/-
  Layer 5, the law JournalWhole: a device that fell, and is opened, again and again; its calls.
-/
import Derived.Test.YtjmjmekmaamclaaDoorMK
import Derived.Test.YtjmjmekmaamclaaDoorMU
import Derived.Test.YtjmjmekmaamclaaDoorMR
namespace Go.Proofs.YtjmjmekmaamclaaDoor.jrn
open Go.ChangeShapes Go.WideShapes Go.ChangeAt Go.RowKit mem dev sums
set_option linter.unusedVariables false
theorem rec_mono {R : Rg} {k k' : Nat} {S was : List ByteArray} (h : Rec R k S was) (hk : k ≤ k') : Rec R k' S was := by
  obtain ⟨hd, a, L, d, h1, h2⟩ := h
  exact ⟨hd, a, L, d, by omega, by omega⟩
theorem Holds.mono {R : Rg} {D : DevM} {s : JSt} {was : List ByteArray} {k k' m : Nat} (H : Holds R D s was k m) (h : k ≤ k') : Holds R D s was k' m :=
  ⟨H.live, H.quiet, by have := H.own; omega, by have := H.num; omega, H.used, H.at1, H.tail, H.len⟩
theorem down_less {R : Rg} {D : DevM} {m k : Nat} (v : Down R D m) (h : k ≤ m) : Down R D k := ⟨v.ok, v.nb, v.ns, v.down, v.cache, v.plan, room_less' v.room h⟩
/-- fallen: what a journal will tell when it is opened anew -/
structure FellW (R : Rg) (D : DevM) (was : List ByteArray) (k m : Nat) : Prop where
  down : Down R D m
  told : Rec R k D.safe was
  len : was.length = R.nb
/-- restarted -/
structure RiseW (R : Rg) (D : DevM) (was : List ByteArray) (k m : Nat) : Prop where
  live : Live R D m
  cache : D.cache = []
  told : Rec R k D.safe was
  len : was.length = R.nb
theorem FellW.less {R : Rg} {D : DevM} {was : List ByteArray} {k k' m m' : Nat} (F : FellW R D was k m) (hk : k ≤ k' := by omega) (hm : m' ≤ m := by omega) : FellW R D was k' m' := ⟨down_less F.down hm, rec_mono F.told hk, F.len⟩
section
variable {w wr : World} {As : List Ast} {R : Rg} {X J : Nat} {D : DevM} {was : List ByteArray} {k m : Nat}
theorem fell_restart (h : St w wr (pDev X D :: As)) (F : FellW R D was k m) :
    Calls Tryd.prog 26 #[pt X] wr fun e w' => ∃ D', e = .returned (.int .i64 0) ∧ (RiseW R D' was k m ∧ D'.plan = none) ∧ St w w' (pDev X D' :: As) := by
  obtain ⟨s1, s2, s3, s4, s5⟩ := down_restart F.down
  have := prestart_any h
  rw [s1] at this
  exact this.mono fun e w' t => ⟨_, t.1, ⟨⟨s2, s4, by rw [s3]; exact F.told, F.len⟩, s5⟩, t.2⟩
theorem rise_plan {K : Ast} (h : St w wr (pDev X D :: K :: As)) (F : RiseW R D was k m) (n : Int) (hn : 0 ≤ n) (hn2 : n ≤ 9223372036854775807) (kv : Value) (ks : List Int) (torn : Int) (mask : Nat) (hk : ∀ W F, K.p W F → IntsIn W kv ks) (C : CrashOk ks torn mask) :
    Calls Tryd.prog 20 #[pt X, .int .i64 n, .agg #[kv, .int .i64 torn, .int .u8 (mask : Int)]] wr fun e w' => ∃ D', e = .returned (.int .i64 0) ∧ RiseW R D' was k m ∧ St w w' (pDev X D' :: K :: As) := by
  obtain ⟨p1, p2, p3, p4, p5⟩ := live_plan F.live hn hn2 C
  have := pplan_any h n kv ks torn mask ⟨by omega, by omega⟩ hk C
  rw [p2] at this
  exact this.mono fun e w' t => ⟨_, t.1, ⟨p1, by rw [p4]; exact F.cache, by rw [p5]; exact F.told, F.len⟩, t.2⟩
theorem holds_plan_law {s : JSt} {K : Ast} (h : St w wr (pDev X D :: K :: As)) (H : Holds R D s was k m) (n : Int) (hn : 0 ≤ n) (hn2 : n ≤ 9223372036854775807) (kv : Value) (ks : List Int) (torn : Int) (mask : Nat) (hk : ∀ W F, K.p W F → IntsIn W kv ks) (C : CrashOk ks torn mask) :
    Calls Tryd.prog 20 #[pt X, .int .i64 n, .agg #[kv, .int .i64 torn, .int .u8 (mask : Int)]] wr fun e w' => ∃ D', e = .returned (.int .i64 0) ∧ (Holds R D' s was k m ∧ (n = 0 → D'.plan = none)) ∧ St w w' (pDev X D' :: K :: As) := by
  obtain ⟨p1, p2, p3, _⟩ := holds_plan H hn hn2 C
  have := pplan_any h n kv ks torn mask ⟨by omega, by omega⟩ hk C
  rw [p2] at this
  exact this.mono fun e w' t => ⟨_, t.1, ⟨p1, fun h0 => by rw [p3, if_pos h0]⟩, t.2⟩
theorem rise_open (a : R.Ok) (g : Halves w) (h : St w wr (pDev X D :: As)) (F : RiseW R D was k (m + 300000)) (hk : k < 9223372036854775806) :
    Calls Tryd.prog 7 #[pt X, .int .i64 (R.st : Int), .int .i64 (R.ln : Int)] wr fun e w' => ∃ (v : Value) (n x : Int) (D' : DevM), e = .returned (.tuple #[v, .int .i64 n, .int .i64 x]) ∧
      ((x = 0 ∧ ∃ J s, v = pt J ∧ Holds R D' s was (k + 1) m ∧ s.used = 0 ∧ D'.cache = [] ∧ (D.plan = none → D'.plan = none) ∧ St w w' (pDev X D' :: aJrn J X R s false :: As)) ∨
       (x = 8 ∧ v = .pointer none ∧ D.plan ≠ none ∧ FellW R D' was (k + 1) m ∧ St w w' (pDev X D' :: As))) := by
  obtain ⟨hd, at', L, d, h1, h2⟩ := F.told
  refine (open_law a g h d F.cache F.len F.live h1 h2 hk).mono fun e w' q => ?_
  obtain ⟨D', ⟨J, he, H, hc, hp, hst⟩ | ⟨he, hp, dn, rc, hst⟩⟩ := q
  · refine ⟨pt J, _, 0, D', he, .inl ⟨rfl, J, _, rfl, H, ?_, hc, hp, hst⟩⟩
    unfold openJ
    split
    · rename_i c
      subst c
      rfl
    · rfl
  · exact ⟨.pointer none, 0, 8, D', he, .inr ⟨rfl, rfl, hp, ⟨dn, rc, F.len⟩, hst⟩⟩
/-- What opened's calls do, over things that say no more of themselves: F fallen, V up without a plan, U up, H opened, E opened without a plan. -/
structure OpCalls (w : World) (As : List Ast) (X ln : Nat) (kv : Value) (ks : List Int) (torn : Int) (mask : Nat) (F V U : Nat → DevM → Prop) (H E : DevM → JSt → Prop) (K : JSt → Nat → Ast) : Prop where
  down : ∀ W i D, F i D → St w W (pDev X D :: As) → Calls Tryd.prog 22 #[pt X] W fun e w' => e = .returned (.bool true) ∧ St w w' (pDev X D :: As)
  rest : ∀ W i D, F i D → St w W (pDev X D :: As) → Calls Tryd.prog 26 #[pt X] W fun e w' => ∃ D', e = .returned (.int .i64 0) ∧ V i D' ∧ St w w' (pDev X D' :: As)
  crash : ∀ W D, St w W (pDev X D :: As) → Calls Tryd.prog 21 #[.agg #[kv, .int .i64 torn, .int .u8 (mask : Int)]] W fun e w' => ∃ cv, e = .returned (.agg #[cv, .int .i64 torn, .int .u8 (mask : Int)]) ∧ St w w' (pDev X D :: aKept cv ks :: As)
  plan : ∀ W i D n cv, 0 ≤ n → n ≤ 9223372036854775807 → V i D → St w W (pDev X D :: aKept cv ks :: As) → Calls Tryd.prog 20 #[pt X, .int .i64 n, .agg #[cv, .int .i64 torn, .int .u8 (mask : Int)]] W fun e w' => ∃ D', e = .returned (.int .i64 0) ∧ U i D' ∧ St w w' (pDev X D' :: As)
  open1 : ∀ W i D, i ≤ 5 → U i D → St w W (pDev X D :: As) → Calls Tryd.prog 7 #[pt X, .int .i64 3, .int .i64 (ln : Int)] W fun e w' => ∃ (v : Value) (n x : Int) (D' : DevM), e = .returned (.tuple #[v, .int .i64 n, .int .i64 x]) ∧ ((x = 0 ∧ ∃ J s, v = pt J ∧ H D' s ∧ St w w' (pDev X D' :: K s J :: As)) ∨ (x = 8 ∧ v = .pointer none ∧ F (i + 1) D' ∧ St w w' (pDev X D' :: As)))
  open0 : ∀ W i D, i ≤ 5 → V i D → St w W (pDev X D :: As) → Calls Tryd.prog 7 #[pt X, .int .i64 3, .int .i64 (ln : Int)] W fun e w' => ∃ (n : Int) (J : Nat) (D' : DevM) (s : JSt), e = .returned (.tuple #[pt J, .int .i64 n, .int .i64 0]) ∧ H D' s ∧ St w w' (pDev X D' :: K s J :: As)
  plan0 : ∀ W D s J, H D s → St w W (pDev X D :: K s J :: As) → Calls Tryd.prog 20 #[pt X, .int .i64 0, .agg #[.slice none 0 0, .int .i64 0, .int .u8 0]] W fun e w' => ∃ D', e = .returned (.int .i64 0) ∧ E D' s ∧ St w w' (pDev X D' :: K s J :: As)
theorem op_calls (g : Halves w) (ln ns : Nat) (h6 : 6 ≤ ln) (h14 : ln ≤ 14) (hn1 : 1 ≤ ns) (hn2 : ns ≤ 8) (X : Nat) (kv : Value) (ks : List Int) (torn : Int) (mask : Nat) (hk : IntsIn w kv ks) (C : CrashOk ks torn mask) (was : List ByteArray) (k m : Nat) (hkk : k < 9000000000000000000) :
    OpCalls w As X ln kv ks torn mask (fun i D => FellW (lawR ln ns) D was (k + i) (m + 3000000 - 300000 * i)) (fun i D => RiseW (lawR ln ns) D was (k + i) (m + 3000000 - 300000 * i) ∧ D.plan = none) (fun i D => RiseW (lawR ln ns) D was (k + i) (m + 3000000 - 300000 * i))
      (fun D s => Holds (lawR ln ns) D s was (k + 6) m) (fun D s => Holds (lawR ln ns) D s was (k + 6) m ∧ D.plan = none) (fun s J => aJrn J X (lawR ln ns) s false) := by
  have a := lawR_ok ln ns h6 h14 hn1 hn2
  refine { down := fun W i D F st => ?_, rest := fun W i D F st => fell_restart st F, crash := fun W D st => ?_, plan := fun W i D n cv h0 h1 V st => ?_, open1 := fun W i D hi U st => ?_, open0 := fun W i D hi V st => ?_, plan0 := fun W D s J H st => ?_ }
  · have := pdown_any st
    rw [F.down.down] at this
    exact this.mono fun e w' q => by obtain ⟨he, q, rfl⟩ := q; exact ⟨he, st.drewN q⟩
  · exact (lcrash_any st kv ks torn mask hk C).mono fun e w' q => by obtain ⟨cv, he, hst⟩ := q; exact ⟨cv, he, hst.swap⟩
  · exact (rise_plan st V.1 n h0 h1 cv ks torn mask (fun W F h => ints_of_row h.1) C).mono fun e w' q => by
      obtain ⟨D', he, hU, hst⟩ := q
      exact ⟨D', he, hU, St.re (L := [_, _]) [0] [1] hst⟩
  · refine (rise_open (m := m + 3000000 - 300000 * (i + 1)) a g st (show RiseW (lawR ln ns) D was (k + i) (m + 3000000 - 300000 * (i + 1) + 300000) from by
      have e : m + 3000000 - 300000 * (i + 1) + 300000 = m + 3000000 - 300000 * i := by omega
      rw [e]; exact U) (by omega)).mono fun e w' q => ?_
    obtain ⟨v, n, x, D', he, ⟨hx, J, s, hv, H, _, _, _, hst⟩ | ⟨hx, hv, _, F, hst⟩⟩ := q
    · exact ⟨v, n, x, D', he, .inl ⟨hx, J, s, hv, (H.mono (show k + i + 1 ≤ k + 6 by omega)).less (by omega), hst⟩⟩
    · exact ⟨v, n, x, D', he, .inr ⟨hx, hv, F, hst⟩⟩
  · refine (rise_open (m := m + 3000000 - 300000 * (i + 1)) a g st (show RiseW (lawR ln ns) D was (k + i) (m + 3000000 - 300000 * (i + 1) + 300000) from by
      have e : m + 3000000 - 300000 * (i + 1) + 300000 = m + 3000000 - 300000 * i := by omega
      rw [e]; exact V.1) (by omega)).mono fun e w' q => ?_
    obtain ⟨v, n, x, D', he, ⟨hx, J, s, hv, H, _, _, _, hst⟩ | ⟨_, _, hp, _⟩⟩ := q
    · subst hx hv
      exact ⟨n, J, D', s, he, (H.mono (show k + i + 1 ≤ k + 6 by omega)).less (by omega), hst⟩
    · exact absurd V.2 hp
  · refine (holds_plan_law st H 0 (by omega) (by omega) (.slice none 0 0) [] 0 0 ints_none crash_zero).mono fun e w' q => ?_
    obtain ⟨D', he, ⟨hH, hp⟩, hst⟩ := q
    exact ⟨D', he, ⟨hH, hp rfl⟩, hst⟩
end
end Go.Proofs.YtjmjmekmaamclaaDoor.jrn
