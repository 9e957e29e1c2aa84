/-
  Layer 4, the program's newest, surviving: closures are made.
-/
import Derived.Test.YtjmjmekmaamclaaDoorDrvC
namespace Go.Proofs.YtjmjmekmaamclaaDoor.dev
open Go.ChangeShapes Go.WideShapes Go.ChangeAt Go.RowKit mem
set_option linter.unusedVariables false

theorem pnewest_any (X : Nat) (W : World) :
    Calls Tryd.prog 51 #[pt X] W fun e w' => e = .returned (.func (Fn.func 73) #[] #[.pointer (some ⟨W.heap.size, 0, none⟩)]) ∧ w' = W.alloc (.cells #[pt X] 32) := by
  go_enter Tryd.func51, Tryd.ntmps51
  go_wp2_with fail
  go_ret
  exact ⟨rfl, rfl⟩

theorem keptV_none (cnt : Nat) : keptV [] cnt = fun _ => none := by funext n; simp [keptV]
theorem keptV_more (ks : List Int) (cnt j m : Nat) (h : j < ks.length) (e : ks[j] = (m : Int)) (hm : m < cnt) : upd (keptV (ks.take j) cnt) m (.agg #[]) = keptV (ks.take (j + 1)) cnt := by
  funext n
  unfold upd keptV
  rw [List.take_succ_eq_append_getElem h, e]
  by_cases c : n = m
  · subst c; simp [hm]
  · have : ¬ (n : Int) = m := by omega
    simp [c, this]
theorem keptV_skip (ks : List Int) (cnt j : Nat) (h : j < ks.length) (e : ¬ (0 ≤ ks[j] ∧ ks[j] < cnt)) : keptV (ks.take j) cnt = keptV (ks.take (j + 1)) cnt := by
  funext n
  unfold keptV
  rw [List.take_succ_eq_append_getElem h]
  by_cases c : (n : Int) = ks[j] ∧ n < cnt
  · omega
  · congr 1
    simp only [List.mem_append, List.mem_singleton, eq_iff_iff]
    constructor
    · exact fun h => ⟨.inl h.1, h.2⟩
    · rintro ⟨h1 | h1, h2⟩
      · exact ⟨h1, h2⟩
      · exact absurd ⟨h1, h2⟩ c

/-- what the closure of what survives holds -/
def survB (X : Nat) (kv : Value) (ks : List Int) (torn : Int) (mask cnt P1 P2 P3 kb kc : Nat) : List Ast :=
  [aVar P1 [pt X] 32, aVar P2 [kv, .int .i64 torn, .int .u8 (mask : Int)] 53, aVar P3 [.map (some kb)] 106, aMap kb kc (keptV ks cnt)]

set_option maxRecDepth 8000 in
set_option maxHeartbeats 2000000 in
theorem psurviving_any {w W : World} {L : List Ast} {X cnt : Nat} {kv : Value} {ks : List Int} {torn : Int} {mask : Nat} (h : St w W L) (hk : IntsIn W kv ks) (c7 : W.cell? ⟨X, 7, none⟩ = some (.int .i64 (cnt : Int))) (C : CrashOk ks torn mask) (hc : cnt ≤ 1073741824) :
    Calls Tryd.prog 72 #[pt X, .agg #[kv, .int .i64 torn, .int .u8 (mask : Int)]] W fun e w' => ∃ P1 P2 P3 kb kc,
      e = .returned (.func (Fn.func 90) #[] #[pt P1, pt P2, pt P3]) ∧ Ch (fun _ => False) W w' ∧ St w w' (aMany (survB X kv ks torn mask cnt P1 P2 P3 kb kc) :: L) := by
  obtain ⟨ao, cap, rfl, hcells⟩ := hk
  have h1 := st_new (st_mapnew (st_new (st_new h [pt X] 32) [.slice ao ks.length cap, .int .i64 torn, .int .u8 (mask : Int)] 53)) [.map (some (W.heap.size + 2))] 106
  have hch := (((((Ch.refl (fun _ => False) W).alloc (.cells #[pt X] 32)).alloc (.cells #[.slice ao ks.length cap, .int .i64 torn, .int .u8 (mask : Int)] 53)).alloc (.map #[] 0)).alloc (.cells #[.map (some (W.heap.size + 2))] 106))
  have HCH := Lib.hid hch
  simp only [World.size_alloc] at h1
  have H1 := Lib.hid h1
  have HCELLS := Lib.hid hcells
  have HLEN := Lib.hid C.len
  have HKIN := Lib.hid C.kin
  have hlen : (ks.length : Int) ≤ 17592186043904 := by have := C.len; omega
  have hcnt : (cnt : Int) ≤ 1073741824 := by omega
  have HC7 := Lib.hid c7
  have hmm := @run_makeMap Tryd.prog
  clear h h1 hch hcells C hc
  go_enter Tryd.func72, Tryd.ntmps72
  go_wp2_with fail
  go_loopw [12] (fun i W' => ∃ j c : Nat, j ≤ ks.length ∧ c ≤ j ∧ i = .int .i64 ↑j ∧ St w W' (aVar (W.heap.size + 3) [.map (some (W.heap.size + 2))] 106 :: aMap (W.heap.size + 2) c (keptV (ks.take j) cnt) :: aVar (W.heap.size + 1) [.slice ao ks.length cap, .int .i64 torn, .int .u8 (mask : Int)] 53 :: aVar W.heap.size [pt X] 32 :: L) ∧ Ch (fun g => g = W.heap.size + 2) W W') (fun i _ => ks.length - (intOf i).toNat)
  case atStart => exact ⟨0, 0, Nat.zero_le _, Nat.le_refl _, rfl, by rw [List.take_zero, keptV_none]; exact H1.out, HCH.out.mono fun _ h => h.elim⟩
  case round =>
    obtain ⟨j, c, hj, hcj, rfl, h1, hch⟩ := hrel
    have z3 := st_cell h1 0
    have z1 := st_cell h1.fourth 0
    simp only [List.getElem?_cons_zero] at z3 z1
    have c7' : wr.cell? ⟨X, 7, none⟩ = some (.int .i64 (cnt : Int)) := by
      have hlt := World.block_lt_of_cell? W _ HC7.out
      rw [World.cell?_of_block (w := W) (hch.block X hlt (by show ¬ X = _; have : X < W.heap.size := hlt; omega))]
      exact HC7.out
    have H2 := Lib.hid h1
    have HCH2 := Lib.hid hch
    have j0 : (0 : Int) ≤ j := by omega
    clear H1 HCH
    by_cases hlt : j < ks.length
    · obtain ⟨b, o, rfl, hcell⟩ := HCELLS.out j hlt
      have hcell' : wr.cell? ⟨b, o + j, none⟩ = some (.int .i64 (ks[j])) := by
        have hlt' := World.block_lt_of_cell? W _ hcell
        rw [World.cell?_of_block (w := W) (hch.block b hlt' (by show ¬ b = _; have : b < W.heap.size := hlt'; omega))]
        exact hcell
      have HIN := Lib.hid (HKIN.out _ (List.getElem_mem hlt))
      have HMORE := Lib.hid (fun m => keptV_more ks cnt j m hlt)
      have HSKIP := Lib.hid (keptV_skip ks cnt j hlt)
      have j1 : (j : Int) < ks.length := by omega
      generalize ks[j] = x at hcell hcell' HIN HMORE HSKIP
      clear h1 hch hcell HC7
      by_cases e : 0 ≤ x ∧ x < cnt
      · obtain ⟨m, rfl⟩ := Int.eq_ofNat_of_zero_le e.1
        have e1 : (m : Int) < cnt := e.2
        have e2 : (0 : Int) ≤ m := e.1
        have HM := Lib.hid (show m ≤ 9223372036854775807 ∧ c < maxLen by have := HLEN.out; unfold maxLen; omega)
        have HMC := Lib.hid (show m < cnt by omega)
        clear e
        go_wp2_with (at_mapUpdate; refine lst_mapput H2.out.swap Tryd.underlying106 m HM.out.1 HM.out.2 (.agg #[]) rfl _ _ _ rfl rfl rfl rfl ?_; intro w3 h3 hch3; have H3 := Lib.hid h3; have HCH3 := Lib.hid hch3; clear h3 hch3)
        go_roundw
        case rel => exact ⟨j + 1, c + 1, by omega, by omega, by go_num, by rw [← HMORE.out m rfl HMC.out]; exact H3.out.swap, HCH2.out.trans HCH3.out fun _ h => .inl h⟩
        case measure => simp [intOf] <;> omega
      · have HE := Lib.hid e
        by_cases e0 : x < 0
        · clear e
          go_wp2_with fail
          go_roundw
          case rel => exact ⟨j + 1, c, by omega, by omega, by go_num, by rw [← HSKIP.out HE.out]; exact H2.out, HCH2.out⟩
          case measure => simp [intOf] <;> omega
        · have e1 : (cnt : Int) ≤ x := by omega
          have e2 : 0 ≤ x := by omega
          clear e
          go_wp2_with fail
          go_roundw
          case rel => exact ⟨j + 1, c, by omega, by omega, by go_num, by rw [← HSKIP.out HE.out]; exact H2.out, HCH2.out⟩
          case measure => simp [intOf] <;> omega
    · obtain rfl : j = ks.length := by omega
      clear hlt hj h1 hch
      go_wp2_with fail
      go_ret
      refine ⟨W.heap.size, W.heap.size + 1, W.heap.size + 3, W.heap.size + 2, c, rfl, ?_, ?_⟩
      · have := HCH2.out
        exact ⟨this.os, this.tape, this.output, this.size, fun k hk _ => this.block k hk (by show ¬ k = _; omega)⟩
      · have h2 := H2.out
        rw [List.take_length] at h2
        have h3 : St w wr ([aVar W.heap.size [pt X] 32, aVar (W.heap.size + 1) [.slice ao ks.length cap, .int .i64 torn, .int .u8 (mask : Int)] 53, aVar (W.heap.size + 3) [.map (some (W.heap.size + 2))] 106, aMap (W.heap.size + 2) c (keptV ks cnt)] ++ L) := by
          have := h2.fourth
          exact this.rest fun V k => (k.tail fun V k => k.swap).swap
        exact h3.gather
end Go.Proofs.YtjmjmekmaamclaaDoor.dev
