/-
  Layer 5, the law JournalWhole: its calls.
-/
import Derived.Test.YtjmjmekmaamclaaDoorJxB
namespace Go.Proofs.YtjmjmekmaamclaaDoor.jrn
open Go.ChangeShapes Go.WideShapes Go.ChangeAt Go.RowKit mem dev sums
set_option linter.unusedVariables false
section
variable {w wr : World} {As : List Ast} {R : Rg} {X J : Nat} {D : DevM}
theorem pcommit_dead {s : JSt} (h : St w wr (aJrn J X R s true :: As)) (v : Value) :
    Calls Tryd.prog 9 #[pt J, v] wr fun e w' => e = .returned (.int .i64 16) ∧ St w w' (aJrn J X R s true :: As) := by
  have HR := Lib.hid (refused_st h)
  have H := Lib.hid h
  clear h
  rw [if_pos rfl] at HR
  go_enter Tryd.func9, Tryd.ntmps9
  go_wp2_with ((go_at_call 35; refine HR.out.mono ?_; rintro e w2 ⟨rfl, rfl⟩))
  go_ret
  exact ⟨rfl, H.out⟩
theorem pull_law (a : R.Ok) {s : JSt} {was : List ByteArray} {k m : Nat} {K : Ast} (h : St w wr (pDev X D :: K :: As)) (H : Holds R D s was k m) (kv : Value) (ks : List Int) (torn : Int) (mask : Nat) (hk : ∀ W F, K.p W F → IntsIn W kv ks) (C : CrashOk ks torn mask) :
    Calls Tryd.prog 23 #[pt X, .agg #[kv, .int .i64 torn, .int .u8 (mask : Int)]] wr fun e w' => ∃ D', e = .returned (.int .i64 0) ∧ FellW R D' was k m ∧ St w w' (pDev X D' :: K :: As) := by
  obtain ⟨p1, p2, p3⟩ := holds_pull a H ks torn mask
  have := ppull_any h kv ks torn mask hk C (room_less' H.live.room (by omega))
  rw [p1] at this
  exact this.mono fun e w' t => ⟨_, t.1, ⟨p2, p3, H.len⟩, t.2⟩
/-- opened twice, nothing is done again at the second time -/
structure StillW (R : Rg) (D : DevM) (was : List ByteArray) (k m : Nat) : Prop where
  live : Live R D m
  cache : D.cache = []
  told : ∃ hd at', Dur R D.safe hd at' [] was ∧ hd.own ≤ k ∧ hd.num ≤ k
  len : was.length = R.nb
theorem still_of {s : JSt} {was : List ByteArray} {k m : Nat} (H : Holds R D s was k m) (h0 : s.used = 0) (hc : D.cache = []) : StillW R D was k m := by
  obtain ⟨L, q⟩ := H.quiet
  have hL : L = [] := by
    cases L with
    | nil => rfl
    | cons x L =>
      have h1 := q.used
      rw [h0] at h1
      have h1 : 0 = x.length + 2 + total L := h1
      omega
  subst hL
  refine ⟨H.live, hc, ⟨s.h, s.at', q.dur, H.own, by have := H.num; have h2 := q.num; simp at h2; omega⟩, H.len⟩
theorem still_open (a : R.Ok) (g : Halves w) {was : List ByteArray} {k m : Nat} (h : St w wr (pDev X D :: As)) (S : StillW R D was k (m + 300000)) (hp : D.plan = none) (hk : k < 9223372036854775806) :
    Calls Tryd.prog 7 #[pt X, .int .i64 (R.st : Int), .int .i64 (R.ln : Int)] wr fun e w' => ∃ J D' s, e = .returned (.tuple #[pt J, .int .i64 0, .int .i64 0]) ∧ Holds R D' s was (k + 1) m ∧ St w w' (pDev X D' :: aJrn J X R s false :: As) := by
  obtain ⟨hd, at', d, h1, h2⟩ := S.told
  refine (open_law a g h d S.cache S.len S.live h1 (by simpa using h2) hk).mono fun e w' q => ?_
  obtain ⟨D', ⟨J, he, H, _, _, hst⟩ | ⟨_, hp2, _⟩⟩ := q
  · exact ⟨J, D', _, he, H, hst⟩
  · exact absurd hp hp2

theorem kept_in0 (v : Value) (ks : List Int) : ∀ (W : World) F, (aKept v ks).p W F → IntsIn W v ks := fun W F h => ints_of_row h.1
theorem sep_none {W : World} {U : Tok → Prop} (k : Sep W As U) : Sep W (aMany [] :: As) U :=
  ⟨fun _ => False, U, fun g h => h, k, fun g h => h.elim, fun g => ⟨.inr, fun h => h.elim False.elim id⟩⟩
def roomW (k : Nat) : Nat := 880000000 - 5000000 * k
/-- JournalWhole's calls, over things that say no more of themselves: P a day begins, Q behind its checkpoint, R planned, S committed, Fl fallen, T open again, Fe Ge He Te at the end -/
structure WholeCalls (w : World) (ln ns : Nat) (N D1 : DevM) (P0 : DevM → JSt → Prop) (P Q : Nat → DevM → JSt → List ByteArray → Prop) (R S : Nat → Bool → DevM → JSt → List ByteArray → Prop) (Fl : Nat → DevM → List ByteArray → Prop) (T : Nat → DevM → JSt → List ByteArray → Prop) (Fe Ge He : DevM → List ByteArray → Prop) (Te : DevM → JSt → List ByteArray → Prop) (K KD : JSt → Nat → Nat → Ast) : Prop where
  new : ∀ W As, St w W As → Calls Tryd.prog 14 #[.agg #[.int .i64 24, .int .i64 (ns : Int)]] W fun e w' => ∃ X, e = .returned (.tuple #[pt X, .int .i64 0]) ∧ St w w' (pDev X N :: As)
  fmt : ∀ W X As, St w W (pDev X N :: As) → Calls Tryd.prog 8 #[pt X, .int .i64 3, .int .i64 (ln : Int)] W fun e w' => e = .returned (.int .i64 0) ∧ St w w' (pDev X D1 :: As)
  awk : ∀ W As, St w W As → Calls Tryd.prog 16 #[] W fun e w' => e = .returned (.bool true) ∧ St w w' As
  open1 : ∀ W X As, St w W (pDev X D1 :: As) → Calls Tryd.prog 7 #[pt X, .int .i64 3, .int .i64 (ln : Int)] W fun e w' => ∃ J D2 s, e = .returned (.tuple #[pt J, .int .i64 0, .int .i64 0]) ∧ P0 D2 s ∧ St w w' (pDev X D2 :: K s J X :: As)
  model0 : ∀ W X J D s As, P0 D s → St w W (pDev X D :: K s J X :: As) → Calls Tryd.prog 17 #[pt X, .int .i64 (ln : Int)] W fun e w' => ∃ v was, e = .returned v ∧ P 0 D s was ∧ St w w' (aRow 9 1 v 24 (dev.strs was) :: pDev X D :: K s J X :: As)
  len : ∀ k D s was, P k D s was → was.length = 24
  check : ∀ W k D s was X J As, k < 12 → P k D s was → St w W (pDev X D :: K s J X :: As) → Calls Tryd.prog 10 #[pt J] W fun e w' => ∃ D' s', e = .returned (.int .i64 0) ∧ Q k D' s' was ∧ St w w' (pDev X D' :: K s' J X :: As)
  skip : ∀ k D s was, P k D s was → Q k D s was
  lenQ : ∀ k D s was, Q k D s was → was.length = 24
  size : ∀ W k X D s was As, Q k D s was → St w W (pDev X D :: As) → Calls Tryd.prog 19 #[pt X] W fun e w' => e = .returned (.int .i64 (512 * ns : Nat)) ∧ St w w' (pDev X D :: As)
  plan : ∀ W k X D s was n cv ks torn mask As, 0 ≤ n → n ≤ 9223372036854775807 → CrashOk ks torn mask → Q k D s was → St w W (pDev X D :: aKept cv ks :: As) → Calls Tryd.prog 20 #[pt X, .int .i64 n, .agg #[cv, .int .i64 torn, .int .u8 ((mask : Nat) : Int)]] W fun e w' => ∃ D', e = .returned (.int .i64 0) ∧ R k true D' s was ∧ St w w' (pDev X D' :: As)
  noplan : ∀ k D s was, Q k D s was → R k false D s was
  commit : ∀ W k pl D s was u out X J As, k < 12 → R k pl D s was → PutsGood ln (512 * ns) out → St w W (aWrs u out :: pDev X D :: K s J X :: As) → Calls Tryd.prog 9 #[pt J, u] W fun e w' => ∃ (x : Int) (D' : DevM), e = .returned (.int .i64 x) ∧
    ((x = 0 ∧ D'.down = false ∧ ∃ s', S k pl D' s' (app out was) ∧ St w w' (aWrs u out :: pDev X D' :: K s' J X :: As)) ∨ (x = 8 ∧ pl = true ∧ D'.down = true ∧ (∃ was2, (was2 = was ∨ was2 = app out was) ∧ Fl k D' was2) ∧ St w w' (aWrs u out :: pDev X D' :: KD s J X :: As)))
  down : ∀ W X D As, St w W (pDev X D :: As) → Calls Tryd.prog 22 #[pt X] W fun e w' => e = .returned (.bool D.down) ∧ St w w' (pDev X D :: As)
  pull : ∀ W k pl X D s was cv ks torn mask As, CrashOk ks torn mask → S k pl D s was → St w W (pDev X D :: aKept cv ks :: As) → Calls Tryd.prog 23 #[pt X, .agg #[cv, .int .i64 torn, .int .u8 ((mask : Nat) : Int)]] W fun e w' => ∃ D', e = .returned (.int .i64 0) ∧ D'.down = true ∧ Fl k D' was ∧ St w w' (pDev X D' :: As)
  dead : ∀ W s J X u As, St w W (KD s J X :: As) → Calls Tryd.prog 9 #[pt J, u] W fun e w' => e = .returned (.int .i64 16) ∧ St w w' (KD s J X :: As)
  opened : ∀ W k X D was kv ks torn mask zv zs As, k < 12 → IntsIn w kv ks → CrashOk ks torn mask → IntsIn w zv zs → (∀ z ∈ zs, InI64 z) → zs.length ≤ 17592186043904 → Fl k D was → St w W (pDev X D :: As) → Calls Tryd.prog 24 #[pt X, .int .i64 (ln : Int), .agg #[kv, .int .i64 torn, .int .u8 ((mask : Nat) : Int)], zv] W fun e w' => ∃ J D' s, e = .returned (pt J) ∧ T k D' s was ∧ St w w' (pDev X D' :: K s J X :: As)
  stay : ∀ k D s was, S k false D s was → T k D s was
  lenT : ∀ k D s was, T k D s was → was.length = 24
  model : ∀ W k X D s was As, k < 12 → T k D s was → St w W (pDev X D :: As) → Calls Tryd.prog 17 #[pt X, .int .i64 (ln : Int)] W fun e w' => ∃ v, e = .returned v ∧ St w w' (aRow 9 1 v 24 (dev.strs was) :: pDev X D :: As)
  next : ∀ k D s was, k < 12 → T k D s was → P (k + 1) D s was
  pull2 : ∀ W k X D s was As, k ≤ 12 → P k D s was → St w W (pDev X D :: As) → Calls Tryd.prog 23 #[pt X, .agg #[.slice none 0 0, .int .i64 (-1), .int .u8 0]] W fun e w' => ∃ D', e = .returned (.int .i64 0) ∧ Fe D' was ∧ St w w' (pDev X D' :: As)
  rest2 : ∀ W X D was As, Fe D was → St w W (pDev X D :: As) → Calls Tryd.prog 26 #[pt X] W fun e w' => ∃ D', e = .returned (.int .i64 0) ∧ Ge D' was ∧ St w w' (pDev X D' :: As)
  open2 : ∀ W X D was As, Ge D was → St w W (pDev X D :: As) → Calls Tryd.prog 7 #[pt X, .int .i64 3, .int .i64 (ln : Int)] W fun e w' => ∃ J n D', e = .returned (.tuple #[pt J, .int .i64 n, .int .i64 0]) ∧ He D' was ∧ St w w' (pDev X D' :: As)
  open3 : ∀ W X D was As, He D was → St w W (pDev X D :: As) → Calls Tryd.prog 7 #[pt X, .int .i64 3, .int .i64 (ln : Int)] W fun e w' => ∃ J D' s, e = .returned (.tuple #[pt J, .int .i64 0, .int .i64 0]) ∧ Te D' s was ∧ St w w' (pDev X D' :: As)
  model2 : ∀ W X D s was As, Te D s was → St w W (pDev X D :: As) → Calls Tryd.prog 17 #[pt X, .int .i64 (ln : Int)] W fun e w' => ∃ v, e = .returned v ∧ St w w' (aRow 9 1 v 24 (dev.strs was) :: pDev X D :: As)
set_option maxHeartbeats 4000000 in
theorem whole_calls (g : Halves w) (ln ns : Nat) (h6 : 6 ≤ ln) (h14 : ln ≤ 14) (hn1 : 1 ≤ ns) (hn2 : ns ≤ 3) : ∃ N D1 P0 P Q R S Fl T Fe Ge He Te K KD, WholeCalls w ln ns N D1 P0 P Q R S Fl T Fe Ge He Te K KD := by
  have a := lawR_ok ln ns h6 h14 hn1 (by omega)
  obtain ⟨f0, f1, f2, f3, f4⟩ := new_format ln ns h6 h14 hn1 (by omega)
  refine ⟨DevM.new 24 ns, (runS (DevM.new 24 ns) (formatS (lawR ln ns))).1,
    fun D s => Holds (lawR ln ns) D s (was0 24 ns) 2 890000000 ∧ D.plan = none,
    fun k D s was => Holds (lawR ln ns) D s was (20 * k + 2) (roomW k) ∧ D.plan = none ∧ Outs ln was,
    fun k D s was => Holds (lawR ln ns) D s was (20 * k + 3) (roomW k - 1000) ∧ D.plan = none ∧ Outs ln was,
    fun k pl D s was => Holds (lawR ln ns) D s was (20 * k + 3) (roomW k - 1000) ∧ (pl = false → D.plan = none) ∧ Outs ln was,
    fun k pl D s was => Holds (lawR ln ns) D s was (20 * k + 4) (roomW k - 2000) ∧ (pl = false → D.plan = none) ∧ Outs ln was,
    fun k D was => FellW (lawR ln ns) D was (20 * k + 4) (roomW k - 2000) ∧ Outs ln was,
    fun k D s was => Holds (lawR ln ns) D s was (20 * k + 10) (roomW k - 3002000) ∧ D.plan = none ∧ Outs ln was,
    fun D was => FellW (lawR ln ns) D was 242 800000000 ∧ Outs ln was,
    fun D was => RiseW (lawR ln ns) D was 242 800000000 ∧ D.plan = none ∧ Outs ln was,
    fun D was => StillW (lawR ln ns) D was 243 790000000 ∧ D.plan = none ∧ Outs ln was,
    fun D s was => Holds (lawR ln ns) D s was 244 780000000 ∧ Outs ln was,
    fun s J X => aJrn J X (lawR ln ns) s false, fun s J X => aJrn J X (lawR ln ns) s true, ?_⟩
  refine { new := fun W As k => pnew_ok k 24 ns ⟨by omega, by omega, by omega, by omega⟩, fmt := fun W X As k => ?_, awk := fun W As k => lawake_st g k, open1 := fun W X As k => ?_, model0 := fun W X J D s As q k => ?_, len := fun k D s was q => q.2.2.len, check := fun W k D s was X J As hk q st => ?_, skip := fun k D s was q => ⟨(q.1.mono (by omega)).less (by omega), q.2⟩, lenQ := fun k D s was q => q.2.2.len, size := fun W k X D s was As q st => ?_, plan := fun W k X D s was n cv ks torn mask As h0 h1 C q st => ?_, noplan := fun k D s was q => ⟨q.1, fun _ => q.2.1, q.2.2⟩, commit := fun W k pl D s was u out X J As hk q hg st => ?_, down := fun W X D As st => ?_, pull := fun W k pl X D s was cv ks torn mask As C q st => ?_, dead := fun W s J X u As st => pcommit_dead st u, opened := fun W k X D was kv ks torn mask zv zs As hk h1 C h2 h3 h4 q st => ?_, stay := fun k D s was q => ⟨(q.1.mono (by omega)).less (by omega), q.2.1 rfl, q.2.2⟩, lenT := fun k D s was q => q.2.2.len, model := fun W k X D s was As hk q st => ?_, next := fun k D s was hk q => ⟨(q.1.mono (by omega)).less (by unfold roomW; omega), q.2⟩, pull2 := fun W k X D s was As hk q st => ?_, rest2 := fun W X D was As q st => ?_, open2 := fun W X D was As q st => ?_, open3 := fun W X D was As q st => ?_, model2 := fun W X D s was As q st => ?_ }
  · have lv := new_live ln ns hn1 (by omega)
    have := pformat_st a g k rfl rfl rfl lv.ok (room_less' lv.room (by omega))
    rw [f0] at this
    exact this
  · refine (open_law (k := 1) (m := 890000000) a g k f4 f3 (was0_len _ _) (f1.less (by omega)) (by show 1 ≤ 1; omega) (by show 1 + 0 ≤ 1; omega) (by omega)).mono fun e w' q => ?_
    obtain ⟨D2, ⟨J, he, H, _, hp, hst⟩ | ⟨_, hp, _⟩⟩ := q
    · exact ⟨J, D2, _, he, ⟨H, hp f2⟩, hst⟩
    · exact absurd f2 hp
  · obtain ⟨H, o⟩ := holds_out (by omega) q.1
    refine (lmodel_st k H.live.nb (room_less' H.live.room (by omega)) ln (by omega)).mono fun e w' t => ?_
    obtain ⟨v, he, hst⟩ := t
    exact ⟨v, _, he, ⟨H.less (by unfold roomW; omega), q.2, o⟩, hst⟩
  · have hr : roomW k = (roomW k - 400) + 400 := by unfold roomW; omega
    have H : Holds (lawR ln ns) D s was (20 * k + 2) ((roomW k - 400) + 400) := by rw [← hr]; exact q.1
    exact (check_law a g st H (by omega) q.2.1).mono fun e w' t => by
      obtain ⟨D', he, H2, hp, hst⟩ := t
      exact ⟨D', _, he, ⟨H2.less (by omega), hp, q.2.2⟩, hst⟩
  · have := psize_any st
    rw [q.1.live.ns] at this
    exact this.mono fun e w' t => by
      obtain ⟨he, n, rfl⟩ := t
      exact ⟨he, st.drewN n⟩
  · exact (holds_plan_law st q.1 n h0 h1 cv ks torn mask (kept_in0 cv ks) C).mono fun e w' t => by
      obtain ⟨D', he, ⟨hH, _⟩, hst⟩ := t
      exact ⟨D', he, ⟨hH, fun h => (by cases h), q.2.2⟩, St.re (L := [_, _]) [0] [1] hst⟩
  · have hr : roomW k - 1000 = (roomW k - 2000) + 400 + 600 := by unfold roomW; omega
    have H : Holds (lawR ln ns) D s was (20 * k + 3) ((roomW k - 2000) + 400) := q.1.less (by omega)
    have hv := puts_valid (ns := ns) h6 hg
    refine (commit_law (l := out) a g (St.re (L := [_, _, _]) [1, 2, 0] [] st) H (by omega) u (l0_in (W := W)) hv).mono fun e w' t => ?_
    obtain ⟨x, D', he, ⟨hx, H3, hp3, _, hst⟩ | ⟨hx, hp3, dn, rc, hst⟩⟩ := t
    · refine ⟨x, D', he, .inl ⟨hx, H3.live.up, _, ⟨H3, fun h => hp3 (q.2.1 h), outs_app q.2.2 hg.each⟩, St.re (L := [_, _, _]) [2, 0, 1] [] hst⟩⟩
    · refine ⟨x, D', he, .inr ⟨hx, ?_, dn.down, ?_, St.re (L := [_, _, _]) [2, 0, 1] [] hst⟩⟩
      · cases pl with
        | true => rfl
        | false => exact absurd (q.2.1 rfl) hp3
      · rcases rc with rc | rc
        · exact ⟨was, .inl rfl, ⟨dn, rc, q.1.len⟩, q.2.2⟩
        · exact ⟨_, .inr rfl, ⟨dn, rc, by rw [app_len2]; exact q.1.len⟩, outs_app q.2.2 hg.each⟩
  · exact (pdown_any st).mono fun e w' t => by
      obtain ⟨he, n, rfl⟩ := t
      exact ⟨he, st.drewN n⟩
  · exact (pull_law a st q.1 cv ks torn mask (kept_in0 cv ks) C).mono fun e w' t => by
      obtain ⟨D', he, hF, hst⟩ := t
      exact ⟨D', he, hF.down.down, ⟨hF, q.2.2⟩, St.re (L := [_, _]) [0] [1] hst⟩
  · have hr : roomW k - 2000 = (roomW k - 3002000) + 3000000 := by unfold roomW; omega
    have hF : FellW (lawR ln ns) D was (20 * k + 4) ((roomW k - 3002000) + 3000000) := by rw [← hr]; exact q.1
    exact (opened_law g ln ns h6 h14 hn1 (by omega) h1 C (by omega) st hF zv zs h2 h3 h4).mono fun e w' t => by
      obtain ⟨J, D', s, he, ⟨hH, hp⟩, hst⟩ := t
      exact ⟨J, D', s, he, ⟨hH, hp, q.2⟩, hst⟩
  · have hm := holds_model q.1 q.2.2
    have := lmodel_st st q.1.live.nb (room_less' q.1.live.room (by omega)) ln (by omega)
    rw [hm] at this
    exact this
  · have h3 : St w W (pDev X D :: aMany [] :: As) := st.rest fun V k => sep_none k
    exact (pull_law a h3 q.1 (.slice none 0 0) [] (-1) 0 ints_none crash_none).mono fun e w' t => by
      obtain ⟨D', he, hF, hst⟩ := t
      exact ⟨D', he, ⟨hF.less (by omega) (by unfold roomW; omega), q.2.2⟩, St.re (L := [_, _]) [0] [1] hst⟩
  · exact (fell_restart st q.1).mono fun e w' t => by
      obtain ⟨D', he, ⟨hR, hp⟩, hst⟩ := t
      exact ⟨D', he, ⟨hR, hp, q.2⟩, hst⟩
  · have hR : RiseW (lawR ln ns) D was 242 (790000000 + 300000) := ⟨q.1.live.less (by omega), q.1.cache, q.1.told, q.1.len⟩
    exact (rise_open a g st hR (by omega)).mono fun e w' t => by
      obtain ⟨v, n, x, D', he, ⟨hx, J, s, hv, H, hu, hc, hp, hst⟩ | ⟨_, _, hp, _⟩⟩ := t
      · subst hx hv
        exact ⟨J, n, D', he, ⟨still_of H hu hc, hp q.2.1, q.2.2⟩, St.re (L := [_, _]) [0] [1] hst⟩
      · exact absurd q.2.1 hp
  · have hS : StillW (lawR ln ns) D was 243 (780000000 + 300000) := ⟨q.1.live.less (by omega), q.1.cache, q.1.told, q.1.len⟩
    exact (still_open a g st hS q.2.1 (by omega)).mono fun e w' t => by
      obtain ⟨J, D', s, he, H, hst⟩ := t
      exact ⟨J, D', s, he, ⟨H, q.2.2⟩, St.re (L := [_, _]) [0] [1] hst⟩
  · have hm := holds_model q.1 q.2
    have := lmodel_st st q.1.live.nb (room_less' q.1.live.room (by omega)) ln (by omega)
    rw [hm] at this
    exact this
end
end Go.Proofs.YtjmjmekmaamclaaDoor.jrn
