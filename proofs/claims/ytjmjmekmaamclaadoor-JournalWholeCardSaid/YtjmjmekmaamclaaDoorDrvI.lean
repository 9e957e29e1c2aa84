/-
  Layer 4, the program's Plan.
-/
import Derived.Test.YtjmjmekmaamclaaDoorDrvH
import Derived.Test.YtjmjmekmaamclaaDoorDB
namespace Go.Proofs.YtjmjmekmaamclaaDoor.dev
open Go.ChangeShapes Go.WideShapes Go.ChangeAt Go.RowKit mem
set_option linter.unusedVariables false

section
variable {w wr : World} {As : List Ast} {X : Nat} {D : DevM} {r : PRep}

theorem row_zero {W : World} {base size n : Nat} {t : TypeId} {v : Value} {xs : List Value} (h : W.ownsRow base t size v n xs) : W.ownsRow 0 t size v n xs := by
  refine ⟨h.1, ?_⟩
  rcases h.2 with h2 | ⟨g, cap, cur, hv, hb, r⟩
  · exact .inl h2
  · exact .inr ⟨g, cap, cur, hv, Nat.zero_le _, r⟩
theorem st_pushown {W W' : World} {size n : Nat} {t : TypeId} {v : Value} {xs : List Value} (h : St w W As) (hc : Below W.heap.size W W') (ho : W'.ownsRow W.heap.size t size v n xs) : St w W' (aRow t size v n xs :: As) :=
  h.push (Ch.of_below hc) (A := aRow t size v n xs) (F := fun g => v.ownBlock = some g.1) ⟨row_zero ho, fun g => Iff.rfl⟩ fun g hg => (ho.lt g.1 hg).1

theorem clone_ints {W : World} {kv : Value} {ks : List Int} (h : IntsIn W kv ks) (hl : ks.length ≤ 17592186043904) :
    Calls Tryd.prog 47 #[kv] W fun e w' => ∃ v', e = .returned v' ∧ w'.ownsRow W.heap.size 3 1 v' ks.length (intsV ks) ∧ Below W.heap.size W w' := by
  obtain ⟨ao, cap, rfl, hc⟩ := h
  by_cases e : ks = []
  · subst e
    cases ao with
    | none => exact (Tryd.slices_Clone_int_nil 0 cap W).mono fun e w' ⟨h1, h2⟩ => ⟨_, h1, by subst h2; exact ⟨World.ownsRow_nil _ _ _ _, Below.refl _ _⟩⟩
    | some a => exact (Tryd.slices_Clone_int_zero a cap W).mono fun e w' ⟨v', h1, h2, h3, h4⟩ => ⟨v', h1, h2, h4⟩
  · have hpos : 0 < ks.length := List.length_pos_iff.2 e
    obtain ⟨b, o, rfl, _⟩ := hc 0 hpos
    refine (Tryd.slices_Clone_int b o ks.length cap ks W (Nat.le_refl _) (by omega) fun j hj => ?_).mono fun e w' ⟨v', h1, h2, h3, h4⟩ => ⟨v', h1, ?_, h4⟩
    · obtain ⟨b', o', e', hcell⟩ := hc j hj
      cases e'
      rw [hcell, List.getD_eq_getElem?_getD, List.getElem?_eq_getElem hj]
      rfl
    · rw [List.take_length] at h2
      exact h2

def plannedR (r : PRep) (n : Nat) (v : Value) (ks : List Int) (torn : Int) (mask : Nat) : PRep := { r with left := n, kv := v, ks := ks, torn := torn, mask := mask, q := [] }
theorem planned_end {W : World} {v : Value} {ks : List Int} {torn : Int} {mask n : Nat} {Bs : List Ast} {p : Option Plan} (h : St w W (aRow 3 1 v ks.length (intsV ks) :: (pParts X D r ++ Bs))) :
    St w ((((W.setCell ⟨X, 0, none⟩ (.int .i64 (n : Int))).setCell ⟨X, 1, none⟩ v).setCell ⟨X, 2, none⟩ (.int .i64 torn)).setCell ⟨X, 3, none⟩ (.int .u8 (mask : Int))) (pParts X { D with plan := p } (plannedR r n v ks torn mask) ++ Bs) := by
  have h2 := St.behind (As := pParts X D r) h
  have h3 : St w W (_ :: _ :: _ :: _ :: aRow 3 1 v ks.length (intsV ks) :: Bs) := h2.fifth.drop
  have h4 := st_share h3.fifth
  have h5 := St.behind (As := [_, _, _, _]) h4
  have h6 := st_set (st_set (st_set (st_set h5 0 (.int .i64 (n : Int))) 1 v) 2 (.int .i64 torn)) 3 (.int .u8 (mask : Int))
  exact h6
theorem planned_known (a : PKnown D r) {n mask : Nat} {v : Value} {ks : List Int} {torn : Int} (C : CrashOk ks torn mask) (h1 : 1 ≤ n) (h2 : n ≤ 9223372036854775807) : PKnown { D with plan := some ⟨n, ks, torn, mask⟩ } (plannedR r n v ks torn mask) :=
  ⟨⟨a.ok.nb0, a.ok.nb1, a.ok.ns0, a.ok.ns1, a.ok.safe, a.ok.ssz, a.ok.csz, fun p hp => by cases hp; exact ⟨h1, h2, C⟩⟩, .inr ⟨_, rfl, h1, rfl, rfl, rfl, rfl⟩, C, h2, a.mc, a.none⟩

theorem setPlan_zero {ks : List Int} {torn : Int} {mask : Nat} (d : D.down = false) : D.setPlan 0 ks torn mask = ({ D with plan := none }, 0) := by unfold DevM.setPlan; rw [if_neg (by rw [d]; decide), if_neg (by decide), if_pos rfl]
theorem setPlan_some {m : Nat} {ks : List Int} {torn : Int} {mask : Nat} (d : D.down = false) (h : 1 ≤ m) : D.setPlan m ks torn mask = ({ D with plan := some ⟨m, ks, torn, mask⟩ }, 0) := by
  unfold DevM.setPlan; rw [if_neg (by rw [d]; decide), if_neg (by omega), if_neg (by omega), Int.toNat_natCast]

set_option maxRecDepth 8000 in
set_option maxHeartbeats 2000000 in
theorem pplan_any {K : Ast} (h : St w wr (pDev X D :: K :: As)) (n : Int) (kv : Value) (ks : List Int) (torn : Int) (mask : Nat) (hn64 : InI64 n) (hk : ∀ W F, K.p W F → IntsIn W kv ks) (C : CrashOk ks torn mask) :
    Calls Tryd.prog 20 #[pt X, .int .i64 n, .agg #[kv, .int .i64 torn, .int .u8 (mask : Int)]] wr fun e w' => e = .returned (.int .i64 (D.setPlan n ks torn mask).2) ∧ St w w' (pDev X (D.setPlan n ks torn mask).1 :: K :: As) := by
  obtain ⟨r, a, h1⟩ := pdev_open h
  have hints : IntsIn wr kv ks := by obtain ⟨F, hF⟩ := h.drop.get; exact hk _ _ hF
  have h2 := St.behind (As := pParts X D r) (st_new h1 [kv, .int .i64 torn, .int .u8 (mask : Int)] 53)
  have H := Lib.hid (h.alloc (.cells #[kv, .int .i64 torn, .int .u8 (mask : Int)] 53))
  have hS := psees a h2
  have HREF := Lib.hid (prefused_any D.down _ hS.c8)
  by_cases d : D.down = true
  · rw [setPlan_down d]
    rw [d] at HREF
    clear d h h1 h2 a hk hints C hS hn64
    go_enter Tryd.func20, Tryd.ntmps20
    go_wp2_with (go_at_call 46; refine HREF.out.mono ?_; rintro e w' ⟨rfl, rfl⟩)
    go_ret
    exact ⟨rfl, H.out⟩
  · have d' : D.down = false := by simpa using d
    rw [d'] at HREF
    by_cases n0 : n < 0
    · rw [setPlan_arg d' n0]
      clear d h h1 h2 a hk hints C hS hn64 d'
      go_enter Tryd.func20, Tryd.ntmps20
      go_wp2_with (go_at_call 46; refine HREF.out.mono ?_; rintro e w' ⟨rfl, rfl⟩)
      go_ret
      exact ⟨rfl, H.out⟩
    · obtain ⟨m, rfl⟩ := Int.eq_ofNat_of_zero_le (show 0 ≤ n by omega)
      have x0 := hS.c0
      have x1 := hS.c1
      have x2 := hS.c2
      have x3 := hS.c3
      have f0 := hS.fr 0
      have f1 := hS.fr 1
      have f2 := hS.fr 2
      have f3 := hS.fr 3
      have h3 := unplanned_end h2
      have hkn := unplanned_known a
      have m0 : (0 : Int) ≤ m := by omega
      have hm64 := hn64.2
      by_cases z : m = 0
      · subst z
        have e : D.setPlan ((0 : Nat) : Int) ks torn mask = ({ D with plan := none }, 0) := setPlan_zero d'
        rw [e]
        have HF := Lib.hid (pdev_shut _ hkn (h3.front.drop))
        clear d h h1 h2 a hk hints C hS hn64 d' n0 h3 hkn e hm64
        go_enter Tryd.func20, Tryd.ntmps20
        go_wp2_with (go_at_call 46; refine HREF.out.mono ?_; rintro e w' ⟨rfl, rfl⟩)
        go_ret
        exact ⟨rfl, HF.out⟩
      · rw [setPlan_some d' (by omega)]
        have m1 : (0 : Int) < m := by omega
        have hne : ¬ X = wr.heap.size := by have := st_lt h1; omega
        have hen : ¬ wr.heap.size = X := fun e => hne e.symm
        have HB := Lib.hid h3.front
        have hb0 : _ = some kv := st_cell h3.front 0
        have HCL := Lib.hid (fun (W : World) (h : IntsIn W kv ks) => clone_ints h C.len)
        have HI := Lib.hid (fun (W : World) (h : St w W (aVar wr.heap.size [kv, .int .i64 torn, .int .u8 (mask : Int)] 53 :: (pParts X { D with plan := none } (unplanned r) ++ (K :: As)))) => (by obtain ⟨F, hF⟩ := (h.drop.drop.drop.drop.drop.drop).get; exact hk _ _ hF : IntsIn W kv ks))
        have HPK := Lib.hid (fun v => planned_known (v := v) hkn C (show 1 ≤ m by omega) (by omega))
        clear d h h1 h2 a hk hints C hS hn64 d' n0 h3 hkn hm64 z
        go_enter Tryd.func20, Tryd.ntmps20
        go_wp2_with (first
          | (go_at_call 46; refine HREF.out.mono ?_; rintro e w' ⟨rfl, rfl⟩)
          | (go_at_call 47; refine (HCL.out _ (HI.out _ HB.out)).mono ?_; rintro e w2 ⟨v', rfl, ho, hbe⟩; have h4 := st_pushown HB.out hbe ho; obtain ⟨ao2, cap2, rfl⟩ := st_shape h4; have H4 := Lib.hid h4.swap; have z0 : _ = some (Value.int .i64 0) := st_cell h4.third 0; have z1 : _ = some (Value.slice none 0 0) := st_cell h4.third 1; have z2 : _ = some (Value.int .i64 0) := st_cell h4.third 2; have z3 : _ = some (Value.int .u8 0) := st_cell h4.third 3; have k0 := st_free h4.third 0; have k1 := st_free h4.third 1; have k2 := st_free h4.third 2; have k3 := st_free h4.third 3; have y0 : _ = some kv := st_cell H4.out 0; have y1 : _ = some (Value.int .i64 torn) := st_cell H4.out 1; have y2 : _ = some (Value.int .u8 (mask : Int)) := st_cell H4.out 2; have g0 := st_free H4.out 0; clear ho hbe h4))
        go_ret
        have h5 := st_set H4.out 0 (.slice ao2 ks.length cap2)
        have h6 := planned_end (n := m) (torn := torn) (mask := mask) (p := some ⟨m, ks, torn, mask⟩) h5.drop
        exact ⟨rfl, pdev_shut _ (HPK.out _) h6⟩
end
end Go.Proofs.YtjmjmekmaamclaaDoor.dev
