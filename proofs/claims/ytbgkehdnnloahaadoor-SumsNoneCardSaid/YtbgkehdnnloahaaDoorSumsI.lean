/-
  Layer 3: the law SumsTold over any program that answers as SumsOk says.
-/
import Derived.Test.YtbgkehdnnloahaaDoorSumsH
namespace Go.Proofs.YtbgkehdnnloahaaDoor.sums
open Go.ChangeShapes Go.WideShapes Go.ChangeAt Go.RowKit
set_option linter.unusedVariables false

theorem bl_cell {B : Nat} {w w' : World} (h : Below B w w') {a : Addr} {v : Value} (hb : a.block < B) (hc : w.cell? a = some v) : w'.cell? a = some v := by
  rw [← hc]
  unfold World.cell?
  rw [h.block a.block hb]

theorem alloc_more (w : World) (o : Obj) : w.heap.size < (w.alloc o).heap.size := by
  show w.heap.size < (w.heap.push o).size
  rw [Array.size_push]; omega

/-- the next call; x0 x1 x2: the box; z: the box is old -/


theorem plain_add2 (b o n : Nat) : (⟨b, o, none⟩ : Addr).add n = ⟨b, o + n, none⟩ := by unfold Addr.add; split <;> simp_all

theorem bytes_laid (W : World) (f : ByteArray) (c : Nat) (ty : TypeId) :
    Below W.heap.size W (W.alloc (.cells (bytesRow f c) ty ((bytesRow f c).size, (bytesRow f c).size + 1))).drew ∧ W.heap.size < (W.alloc (.cells (bytesRow f c) ty ((bytesRow f c).size, (bytesRow f c).size + 1))).drew.heap.size ∧
    (∀ i x, f.data.toList[i]? = some x → (W.alloc (.cells (bytesRow f c) ty ((bytesRow f c).size, (bytesRow f c).size + 1))).drew.cell? ⟨W.heap.size, i, none⟩ = some (.int .u8 ((x.toNat : Nat) : Int))) ∧
    ∀ i, i < f.size → (W.alloc (.cells (bytesRow f c) ty ((bytesRow f c).size, (bytesRow f c).size + 1))).drew.frozen? ⟨W.heap.size, i, none⟩ = false := by
  have h : (W.alloc (.cells (bytesRow f c) ty ((bytesRow f c).size, (bytesRow f c).size + 1))).drew.heap[W.heap.size]? = some (.cells (bytesRow f c) ty ((bytesRow f c).size, (bytesRow f c).size + 1)) := heap_alloc_new W _
  refine ⟨bl_drew (bl_alloc (Below.refl _ _) _), alloc_more W _, fun i x hx => ?_, fun i hi => ?_⟩
  · rw [cell_of_row _ _ _ _ _ _ h]
    obtain ⟨hi, he⟩ := List.getElem?_eq_some_iff.1 hx
    have hi' : i < f.data.size := by simpa using hi
    unfold bytesRow
    rw [Array.getElem?_append_left (by simpa using hi'), Array.getElem?_map, Array.getElem?_eq_getElem hi']
    rw [Array.getElem_toList] at he
    rw [he]
    rfl
  · have : f.size ≤ (bytesRow f c).size := by
      unfold bytesRow
      rw [Array.size_append, Array.size_map]
      exact Nat.le_add_right _ _
    simp only [World.frozen?, h]
    simp
    omega

theorem turned_cells {W : World} {nb i v : Nat} {l : List UInt8} (cb : ∀ i x, l[i]? = some x → W.cell? ⟨nb, i, none⟩ = some (.int .u8 ((x.toNat : Nat) : Int))) (hi : i < l.length) (hv : v < 256) :
    ∀ j (hj : j < (l.set i (UInt8.ofNat v)).length), (W.setCell ⟨nb, i, none⟩ (.int .u8 (v : Int))).cell? ((⟨nb, 0, none⟩ : Addr).add j) = some (.int .u8 (((l.set i (UInt8.ofNat v))[j].toNat : Nat) : Int)) := by
  intro j hj
  rw [plain_add2, Nat.zero_add]
  by_cases e : i = j
  · subst e
    rw [World.cell?_setCell_same' _ _ _ (by rw [cb i _ (List.getElem?_eq_getElem hi)]; rfl), List.getElem_set_self]
    rw [UInt8.toNat_ofNat', Nat.mod_eq_of_lt hv]
  · rw [World.cell?_setCell_other _ _ _ _ (by first | (simp; done) | (simp; omega)), List.getElem_set_ne e]
    rw [List.length_set] at hj
    exact cb j _ (List.getElem?_eq_getElem hj)

theorem xor_ne (x y : Nat) (h : y ≠ 0) : x ^^^ y ≠ x := by
  intro e
  have := xor_back2 x y
  rw [e, Nat.xor_self] at this
  exact h this.symm

theorem laid_size (kd : Nat) (q : ByteArray) : (⟨(laidL kd q.data.toList).toArray⟩ : ByteArray).size = 9 + q.size := by
  rw [size_mk, laid_len, Array.length_toList]; rfl

theorem told_any {G : World → Prop} (H : SumsOk0 G) (s t : ByteArray) (at' by' kd : Nat) (w : World) (g : G w) (hs : s.size ≤ 9223372036854775807) (ht : 2009 + t.size ≤ 9223372036854775807)
    (ha : at' < 65536) (hby : by' < 256) (hk : kd < 256) :
    Calls Tryd.prog 5 #[.string s, .string t, .agg #[.int .u16 at', .int .u8 by', .int .u8 kd]] w fun e w' => e = .returned (.bool true) ∧ Below w.heap.size w w' := by
  have HF := Lib.hid fun (q : ByteArray) (hq : q.size ≤ 2000) W (gW : G W) => H.frame kd q W hk (by omega) gW
  have HU := Lib.hid fun (q : ByteArray) (hq : q.size ≤ 9223372036854775807) W (gW : G W) => H.unframe q W hq gW
  have HW := Lib.hid fun W (gW : G W) => (awake_any H W gW).mono fun e W' h => (⟨h.1, h.2.1⟩ : _ ∧ Below W.heap.size W W')
  have HK := Lib.hid H.keep
  have b0 : (s.size : Int) ≤ 9223372036854775807 := by omega
  have HT := Lib.hid ht
  have HA := Lib.hid ha
  have HB := Lib.hid hby
  have HKD := Lib.hid hk
  have t1 : (t.size : Int) ≤ 9223372036854773798 := by omega
  clear hs H ht ha hby hk
  have b : Below w.heap.size w (w.alloc (.cells #[.int .u16 at', .int .u8 by', .int .u8 kd] 39)) := bl_alloc (Below.refl _ _) _
  have g0 := g
  replace g := HK.out _ _ g b
  have x0 : (w.alloc (.cells #[.int .u16 at', .int .u8 by', .int .u8 kd] 39)).cell? ⟨w.heap.size, 0, none⟩ = some (.int .u16 at') := by rw [cell_of_row _ _ _ _ _ _ (heap_alloc_new _ _)]; rfl
  have x1 : (w.alloc (.cells #[.int .u16 at', .int .u8 by', .int .u8 kd] 39)).cell? ⟨w.heap.size, 1, none⟩ = some (.int .u8 by') := by rw [cell_of_row _ _ _ _ _ _ (heap_alloc_new _ _)]; rfl
  have x2 : (w.alloc (.cells #[.int .u16 at', .int .u8 by', .int .u8 kd] 39)).cell? ⟨w.heap.size, 2, none⟩ = some (.int .u8 kd) := by rw [cell_of_row _ _ _ _ _ _ (heap_alloc_new _ _)]; rfl
  have z : w.heap.size < (w.alloc (.cells #[.int .u16 at', .int .u8 by', .int .u8 kd] 39)).heap.size := alloc_more w _
  go_enter Tryd.func5, Tryd.ntmps5
  by_cases c : 2000 < s.size
  · have c1 : (2000 : Int) < s.size := by omega
    have c2 : ¬ ((s.size : Int) ≤ 2000) := by omega
    have q1 : (s.extract 0 2000).size ≤ 2000 := by rw [ByteArray.size_extract]; omega
    go_wp2_with fail
    clear c c1 c2 b0
    generalize s.extract 0 2000 = q at q1 ⊢
    generalize w.alloc (.cells #[.int .u16 at', .int .u8 by', .int .u8 kd] 39) = w1 at b g x0 x1 x2 z ⊢
    have hf := HF.out q q1 w1 g
    rw [show frameM kd q = (⟨(laidL kd q.data.toList).toArray⟩, 0) from by unfold frameM; rw [if_neg (by omega)]] at hf
    obtain ⟨f, ff⟩ : ∃ f, f = (⟨(laidL kd q.data.toList).toArray⟩ : ByteArray) := ⟨_, rfl⟩
    have f1 : f.size = 9 + q.size := by rw [ff, laid_size]
    have hu : unframeM (f ++ t) = (kd, q, t, 0) := by
      rw [ff, bytes_eq t, bytes_app, unframe_laid kd _ _ HKD.out (by rw [Array.length_toList]; exact Nat.le_trans q1 (by omega)), ← bytes_eq q, ← bytes_eq t]
    have hft := HT.out
    have HU1 := Lib.hid fun W (gW : G W) => HU.out (f ++ t) (by rw [ByteArray.size_append]; omega) W gW
    rw [hu, show uEnd (kd, q, t, 0) = .returned (.tuple #[.int .u8 (kd : Nat), .string q, .string t, .int .i64 0]) from rfl] at HU1
    rw [← ff] at hf
    have FF := Lib.hid ff
    have fi : (f.size : Int) = 9 + q.size := by omega
    have qi : (q.size : Int) ≤ 2000 := by omega
    have f2 : ¬ 9223372036854775807 < f.size + t.size := by omega
    have F1 := Lib.hid f1
    have Q1 := Lib.hid q1
    clear HF hu hft ff q1 f1
    (refine (hf).mono ?_; rintro e W' ⟨rfl, bn⟩; replace g := HK.out _ _ g bn; replace b := bl_trans b bn; replace x0 := bl_cell bn z x0; replace x1 := bl_cell bn z x1; replace x2 := bl_cell bn z x2; replace z := Nat.lt_of_lt_of_le z bn.size; clear bn; go_wp2_with fail)
    obtain ⟨m, hm⟩ : ∃ m, m = at' % (5 + q.size) := ⟨_, rfl⟩
    have em : (at' : Int).tmod (9 + (q.size : Int) - 4) = (m : Int) := by
      rw [show 9 + (q.size : Int) - 4 = ((5 + q.size : Nat) : Int) from by omega, hm]
      exact (Int.ofNat_tmod _ _).symm
    have ml : m < 5 + q.size := by rw [hm]; exact Nat.mod_lt _ (by omega)
    have a0 : (0 : Int) ≤ at' := by omega
    have a1 : (at' : Int) ≤ 65535 := by have := HA.out; omega
    have hcv := fun W => run_bytes_of_string (P := Tryd.prog) W 9 40 5 (f ++ t) Tryd.underlying9 Tryd.underlying40 Tryd.underlying5
    have hfs : (f ++ t).size = f.size + t.size := ByteArray.size_append
    have ML := Lib.hid ml
    have HM := Lib.hid hm
    clear hm ml hfs
    by_cases c : m = 0
    · subst c
      have C := Lib.hid (show (0 : Nat) = 0 from rfl)
      (refine (HU1.out _ g).mono ?_; rintro e W' ⟨rfl, bn⟩; replace g := HK.out _ _ g bn; replace b := bl_trans b bn; replace x0 := bl_cell bn z x0; replace x1 := bl_cell bn z x1; replace x2 := bl_cell bn z x2; replace z := Nat.lt_of_lt_of_le z bn.size; clear bn; go_wp2_with fail)
      have L := bytes_laid W' (f ++ t) (grownCap W' (f.size + t.size) 0 5) 5
      generalize (W'.alloc (.cells (bytesRow (f ++ t) (grownCap W' (f.size + t.size) 0 5)) 5 ((bytesRow (f ++ t) (grownCap W' (f.size + t.size) 0 5)).size, (bytesRow (f ++ t) (grownCap W' (f.size + t.size) 0 5)).size + 1))).drew = W2 at L ⊢
      obtain ⟨bb, zb, cb, fb⟩ := L
      replace b := b.trans (bb.mono (Nat.le_of_lt z))
      replace x0 := bl_cell bb z x0
      replace x1 := bl_cell bb z x1
      replace x2 := bl_cell bb z x2
      have nz := z
      replace z := Nat.lt_of_lt_of_le z bb.size
      generalize grownCap W' (f.size + t.size) 0 5 = cap
      clear g hcv bb
      generalize W'.heap.size = nb at zb cb fb nz ⊢
      obtain ⟨r, hr⟩ : ∃ r, r = by' % 255 := ⟨_, rfl⟩
      have rl : r < 255 := by rw [hr]; exact Nat.mod_lt _ (by omega)
      have er : (by' : Int).tmod 255 = (r : Int) := by rw [hr]; exact (Int.ofNat_tmod _ _).symm
      have er2 : (by' : Int) % 255 = (r : Int) := by rw [hr]; simp
      have r0 : (0 : Int) ≤ r := by omega
      have r1 : (r : Int) ≤ 254 := by omega
      have ew : IntKind.u8.wrap ((r : Int) + 1) = (r : Int) + 1 := by rw [IntKind.wrap_u8]; omega
      have hsz : (f ++ t).data.toList.length = f.size + t.size := by rw [Array.length_toList]; exact ByteArray.size_append
      have hil : 0 < (f ++ t).data.toList.length := by rw [hsz, F1.out]; have := ML.out; omega
      obtain ⟨X, hX⟩ : ∃ X, (f ++ t).data.toList[0]? = some X := ⟨_, List.getElem?_eq_getElem hil⟩
      have hx := cb 0 X hX
      have hfz := fb 0 (by rw [ByteArray.size_append, F1.out]; have := ML.out; omega)
      have hxl := X.toNat_lt
      have HX := Lib.hid hX
      obtain ⟨x, xe⟩ : ∃ x, x = X.toNat := ⟨_, rfl⟩
      rw [← xe] at hx hxl
      have XE := Lib.hid xe
      have ev := u8_xor_nat x (r + 1) hxl (by omega)
      rw [show ((r + 1 : Nat) : Int) = (r : Int) + 1 from by omega] at ev
      obtain ⟨v, ve⟩ : ∃ v, v = x ^^^ (r + 1) := ⟨_, rfl⟩
      rw [← ve] at ev
      have VE := Lib.hid ve
      have XL := Lib.hid hxl
      have RL := Lib.hid rl
      have HIL := Lib.hid hil
      have HSZ := Lib.hid hsz
      have CB := Lib.hid cb
      have by0 : (0 : Int) ≤ by' := by omega
      have by1 : (by' : Int) ≤ 255 := by have := HB.out; omega
      have xi0 : (0 : Int) ≤ x := by omega
      have xi1 : (x : Int) ≤ 255 := by omega
      have ii1 : ((0 : Nat) : Int) < (f.size : Int) + t.size := by have := ML.out; have := F1.out; omega
      clear hr xe ve hxl rl hil hsz cb fb hX
      have FT : (f ++ t).data.toList = laidL kd q.data.toList ++ t.data.toList := by rw [FF.out, ByteArray.data_append, Array.toList_append]
      have qll : q.data.toList.length = q.size := by rw [Array.length_toList]; rfl
      have vl : v < 256 := by rw [VE.out]; exact Nat.xor_lt_two_pow (n := 8) XL.out (by have := RL.out; omega)
      have ht3 := turned_cells CB.out HIL.out vl
      have hcb : (convert 40 9 (.slice (some ⟨nb, 0, none⟩) (f.size + t.size) cap)).run Tryd.prog (W2.setCell ⟨nb, 0, none⟩ (.int .u8 (v : Int))).drew = .ok (.string ⟨((f ++ t).data.toList.set 0 (UInt8.ofNat v)).toArray⟩) (W2.setCell ⟨nb, 0, none⟩ (.int .u8 (v : Int))).drew := by
        have := run_convert_bytes_back (P := Tryd.prog) (W2.setCell ⟨nb, 0, none⟩ (.int .u8 (v : Int))).drew 40 9 5 ⟨nb, 0, none⟩ cap _ Tryd.underlying40 Tryd.underlying5 Tryd.underlying9 ht3
        rwa [List.length_set, HSZ.out] at this
      have hu2 : unframeM ⟨((f ++ t).data.toList.set 0 (UInt8.ofNat v)).toArray⟩ = formErr := by
        rw [FT]
        refine unframe_turned kd _ _ _ _ (by rw [qll]; have := Q1.out; omega) (by have := C.out; omega) (by rw [qll]; have := ML.out; omega) ?_
        intro y hy
        rw [← FT, HX.out] at hy
        intro e
        have e1 : X = UInt8.ofNat v := by rw [← e]; exact Option.some.inj hy
        have e2 : X.toNat = v := by rw [e1, UInt8.toNat_ofNat', Nat.mod_eq_of_lt vl]
        rw [← XE.out, VE.out] at e2
        exact xor_ne x (r + 1) (by omega) e2.symm
      have HU2 := Lib.hid fun W (gW : G W) => HU.out ⟨((f ++ t).data.toList.set 0 (UInt8.ofNat v)).toArray⟩ (by rw [size_mk, List.length_set, HSZ.out]; omega) W gW
      rw [hu2, show uEnd formErr = .returned (.tuple #[.int .u8 (0 : Nat), .string ⟨#[]⟩, .string ⟨#[]⟩, .int .i64 4]) from rfl] at HU2
      generalize (⟨((f ++ t).data.toList.set 0 (UInt8.ofNat v)).toArray⟩ : ByteArray) = S at hcb HU2
      have b3 : Below w.heap.size w (W2.setCell ⟨nb, 0, none⟩ (.int .u8 (v : Int))).drew := bl_drew (b.setCell (Nat.le_of_lt nz) _)
      have ne3 : ∀ o, (⟨nb, 0, none⟩ : Addr) ≠ ⟨w.heap.size, o, none⟩ := fun o e => by have := congrArg Addr.block e; simp only at this; omega
      have y0 : (W2.setCell ⟨nb, 0, none⟩ (.int .u8 (v : Int))).drew.cell? ⟨w.heap.size, 0, none⟩ = some (.int .u16 at') := by
        rw [show (W2.setCell ⟨nb, 0, none⟩ (.int .u8 (v : Int))).drew.cell? ⟨w.heap.size, 0, none⟩ = (W2.setCell ⟨nb, 0, none⟩ (.int .u8 (v : Int))).cell? ⟨w.heap.size, 0, none⟩ from rfl, World.cell?_setCell_other _ _ _ _ (ne3 0)]; exact x0
      obtain ⟨k, hk⟩ : ∃ k, k = at' % (9 + q.size) := ⟨_, rfl⟩
      have ek : (at' : Int).tmod (9 + (q.size : Int)) = (k : Int) := by
        rw [show 9 + (q.size : Int) = ((9 + q.size : Nat) : Int) from by omega, hk]
        exact (Int.ofNat_tmod _ _).symm
      have kl : k < 9 + q.size := by rw [hk]; exact Nat.mod_lt _ (by omega)
      have k0 : (0 : Int) ≤ k := by omega
      have k1 : (k : Int) ≤ 9 + q.size := by omega
      have k2 : (k : Int) ≤ f.size := by omega
      have hu3 : unframeM (f.extract 0 k) = formErr := by
        have := unframe_cut kd q.data.toList k (by rw [qll]; have := Q1.out; omega) (by rw [qll]; exact kl)
        rw [FF.out, ByteArray.extract_mk, List.drop_zero, Nat.sub_zero]
        exact this
      have HU3 := Lib.hid fun W (gW : G W) => HU.out (f.extract 0 k) (by rw [ByteArray.size_extract]; have := F1.out; omega) W gW
      rw [hu3, show uEnd formErr = .returned (.tuple #[.int .u8 (0 : Nat), .string ⟨#[]⟩, .string ⟨#[]⟩, .int .i64 4]) from rfl] at HU3
      have g3 := HK.out _ _ g0 b3
      have z3 : w.heap.size < (W2.setCell ⟨nb, 0, none⟩ (.int .u8 (v : Int))).drew.heap.size := by
        rw [World.size_drew, World.size_setCell]; exact z
      have KL := Lib.hid kl
      clear FT qll ht3 hu2 ne3 hk hu3 kl vl
      go_region
      all_goals
        generalize (W2.setCell ⟨nb, 0, none⟩ (.int .u8 (v : Int))).drew = W3 at hcb b3 y0 g3 z3 ⊢
        clear b x0 x1 x2 z hx hfz
        have g := g3
        have b := b3
        have x0 := y0
        have z := z3
        clear g3 b3 y0 z3
        go_wp2_with fail
        (refine (HU2.out _ g).mono ?_; rintro e W' ⟨rfl, bn⟩; replace g := HK.out _ _ g bn; replace b := bl_trans b bn; replace x0 := bl_cell bn z x0; replace z := Nat.lt_of_lt_of_le z bn.size; clear bn; go_wp2_with fail)
        (refine (HU3.out _ g).mono ?_; rintro e W' ⟨rfl, bn⟩; replace g := HK.out _ _ g bn; replace b := bl_trans b bn; replace x0 := bl_cell bn z x0; replace z := Nat.lt_of_lt_of_le z bn.size; clear bn; go_wp2_with fail)
        (refine (HW.out _ g).mono ?_; rintro e W' ⟨rfl, bn⟩; replace g := HK.out _ _ g bn; replace b := bl_trans b bn; replace x0 := bl_cell bn z x0; replace z := Nat.lt_of_lt_of_le z bn.size; clear bn; go_wp2_with fail)
        go_ret
        exact ⟨rfl, b⟩
    · have m0 : (0 : Int) < m := by omega
      have m1 : (m : Int) ≤ 2004 := by have := ML.out; omega
      have C := Lib.hid c
      clear c
      (refine (HU1.out _ g).mono ?_; rintro e W' ⟨rfl, bn⟩; replace g := HK.out _ _ g bn; replace b := bl_trans b bn; replace x0 := bl_cell bn z x0; replace x1 := bl_cell bn z x1; replace x2 := bl_cell bn z x2; replace z := Nat.lt_of_lt_of_le z bn.size; clear bn; go_wp2_with fail)
      have L := bytes_laid W' (f ++ t) (grownCap W' (f.size + t.size) 0 5) 5
      generalize (W'.alloc (.cells (bytesRow (f ++ t) (grownCap W' (f.size + t.size) 0 5)) 5 ((bytesRow (f ++ t) (grownCap W' (f.size + t.size) 0 5)).size, (bytesRow (f ++ t) (grownCap W' (f.size + t.size) 0 5)).size + 1))).drew = W2 at L ⊢
      obtain ⟨bb, zb, cb, fb⟩ := L
      replace b := b.trans (bb.mono (Nat.le_of_lt z))
      replace x0 := bl_cell bb z x0
      replace x1 := bl_cell bb z x1
      replace x2 := bl_cell bb z x2
      have nz := z
      replace z := Nat.lt_of_lt_of_le z bb.size
      generalize grownCap W' (f.size + t.size) 0 5 = cap
      clear g hcv bb
      rw [show ((m : Int) + 4) = ((m + 4 : Nat) : Int) from by omega]
      generalize W'.heap.size = nb at zb cb fb nz ⊢
      obtain ⟨r, hr⟩ : ∃ r, r = by' % 255 := ⟨_, rfl⟩
      have rl : r < 255 := by rw [hr]; exact Nat.mod_lt _ (by omega)
      have er : (by' : Int).tmod 255 = (r : Int) := by rw [hr]; exact (Int.ofNat_tmod _ _).symm
      have er2 : (by' : Int) % 255 = (r : Int) := by rw [hr]; simp
      have r0 : (0 : Int) ≤ r := by omega
      have r1 : (r : Int) ≤ 254 := by omega
      have ew : IntKind.u8.wrap ((r : Int) + 1) = (r : Int) + 1 := by rw [IntKind.wrap_u8]; omega
      have hsz : (f ++ t).data.toList.length = f.size + t.size := by rw [Array.length_toList]; exact ByteArray.size_append
      have hil : (m + 4) < (f ++ t).data.toList.length := by rw [hsz, F1.out]; have := ML.out; omega
      obtain ⟨X, hX⟩ : ∃ X, (f ++ t).data.toList[(m + 4)]? = some X := ⟨_, List.getElem?_eq_getElem hil⟩
      have hx := cb (m + 4) X hX
      have hfz := fb (m + 4) (by rw [ByteArray.size_append, F1.out]; have := ML.out; omega)
      have hxl := X.toNat_lt
      have HX := Lib.hid hX
      obtain ⟨x, xe⟩ : ∃ x, x = X.toNat := ⟨_, rfl⟩
      rw [← xe] at hx hxl
      have XE := Lib.hid xe
      have ev := u8_xor_nat x (r + 1) hxl (by omega)
      rw [show ((r + 1 : Nat) : Int) = (r : Int) + 1 from by omega] at ev
      obtain ⟨v, ve⟩ : ∃ v, v = x ^^^ (r + 1) := ⟨_, rfl⟩
      rw [← ve] at ev
      have VE := Lib.hid ve
      have XL := Lib.hid hxl
      have RL := Lib.hid rl
      have HIL := Lib.hid hil
      have HSZ := Lib.hid hsz
      have CB := Lib.hid cb
      have by0 : (0 : Int) ≤ by' := by omega
      have by1 : (by' : Int) ≤ 255 := by have := HB.out; omega
      have xi0 : (0 : Int) ≤ x := by omega
      have xi1 : (x : Int) ≤ 255 := by omega
      have ii1 : ((m + 4 : Nat) : Int) < (f.size : Int) + t.size := by have := ML.out; have := F1.out; omega
      clear hr xe ve hxl rl hil hsz cb fb hX
      have FT : (f ++ t).data.toList = laidL kd q.data.toList ++ t.data.toList := by rw [FF.out, ByteArray.data_append, Array.toList_append]
      have qll : q.data.toList.length = q.size := by rw [Array.length_toList]; rfl
      have vl : v < 256 := by rw [VE.out]; exact Nat.xor_lt_two_pow (n := 8) XL.out (by have := RL.out; omega)
      have ht3 := turned_cells CB.out HIL.out vl
      have hcb : (convert 40 9 (.slice (some ⟨nb, 0, none⟩) (f.size + t.size) cap)).run Tryd.prog (W2.setCell ⟨nb, (m + 4), none⟩ (.int .u8 (v : Int))).drew = .ok (.string ⟨((f ++ t).data.toList.set (m + 4) (UInt8.ofNat v)).toArray⟩) (W2.setCell ⟨nb, (m + 4), none⟩ (.int .u8 (v : Int))).drew := by
        have := run_convert_bytes_back (P := Tryd.prog) (W2.setCell ⟨nb, (m + 4), none⟩ (.int .u8 (v : Int))).drew 40 9 5 ⟨nb, 0, none⟩ cap _ Tryd.underlying40 Tryd.underlying5 Tryd.underlying9 ht3
        rwa [List.length_set, HSZ.out] at this
      have hu2 : unframeM ⟨((f ++ t).data.toList.set (m + 4) (UInt8.ofNat v)).toArray⟩ = formErr := by
        rw [FT]
        refine unframe_turned kd _ _ _ _ (by rw [qll]; have := Q1.out; omega) (by have := C.out; omega) (by rw [qll]; have := ML.out; omega) ?_
        intro y hy
        rw [← FT, HX.out] at hy
        intro e
        have e1 : X = UInt8.ofNat v := by rw [← e]; exact Option.some.inj hy
        have e2 : X.toNat = v := by rw [e1, UInt8.toNat_ofNat', Nat.mod_eq_of_lt vl]
        rw [← XE.out, VE.out] at e2
        exact xor_ne x (r + 1) (by omega) e2.symm
      have HU2 := Lib.hid fun W (gW : G W) => HU.out ⟨((f ++ t).data.toList.set (m + 4) (UInt8.ofNat v)).toArray⟩ (by rw [size_mk, List.length_set, HSZ.out]; omega) W gW
      rw [hu2, show uEnd formErr = .returned (.tuple #[.int .u8 (0 : Nat), .string ⟨#[]⟩, .string ⟨#[]⟩, .int .i64 4]) from rfl] at HU2
      generalize (⟨((f ++ t).data.toList.set (m + 4) (UInt8.ofNat v)).toArray⟩ : ByteArray) = S at hcb HU2
      have b3 : Below w.heap.size w (W2.setCell ⟨nb, (m + 4), none⟩ (.int .u8 (v : Int))).drew := bl_drew (b.setCell (Nat.le_of_lt nz) _)
      have ne3 : ∀ o, (⟨nb, (m + 4), none⟩ : Addr) ≠ ⟨w.heap.size, o, none⟩ := fun o e => by have := congrArg Addr.block e; simp only at this; omega
      have y0 : (W2.setCell ⟨nb, (m + 4), none⟩ (.int .u8 (v : Int))).drew.cell? ⟨w.heap.size, 0, none⟩ = some (.int .u16 at') := by
        rw [show (W2.setCell ⟨nb, (m + 4), none⟩ (.int .u8 (v : Int))).drew.cell? ⟨w.heap.size, 0, none⟩ = (W2.setCell ⟨nb, (m + 4), none⟩ (.int .u8 (v : Int))).cell? ⟨w.heap.size, 0, none⟩ from rfl, World.cell?_setCell_other _ _ _ _ (ne3 0)]; exact x0
      obtain ⟨k, hk⟩ : ∃ k, k = at' % (9 + q.size) := ⟨_, rfl⟩
      have ek : (at' : Int).tmod (9 + (q.size : Int)) = (k : Int) := by
        rw [show 9 + (q.size : Int) = ((9 + q.size : Nat) : Int) from by omega, hk]
        exact (Int.ofNat_tmod _ _).symm
      have kl : k < 9 + q.size := by rw [hk]; exact Nat.mod_lt _ (by omega)
      have k0 : (0 : Int) ≤ k := by omega
      have k1 : (k : Int) ≤ 9 + q.size := by omega
      have k2 : (k : Int) ≤ f.size := by omega
      have hu3 : unframeM (f.extract 0 k) = formErr := by
        have := unframe_cut kd q.data.toList k (by rw [qll]; have := Q1.out; omega) (by rw [qll]; exact kl)
        rw [FF.out, ByteArray.extract_mk, List.drop_zero, Nat.sub_zero]
        exact this
      have HU3 := Lib.hid fun W (gW : G W) => HU.out (f.extract 0 k) (by rw [ByteArray.size_extract]; have := F1.out; omega) W gW
      rw [hu3, show uEnd formErr = .returned (.tuple #[.int .u8 (0 : Nat), .string ⟨#[]⟩, .string ⟨#[]⟩, .int .i64 4]) from rfl] at HU3
      have g3 := HK.out _ _ g0 b3
      have z3 : w.heap.size < (W2.setCell ⟨nb, (m + 4), none⟩ (.int .u8 (v : Int))).drew.heap.size := by
        rw [World.size_drew, World.size_setCell]; exact z
      have KL := Lib.hid kl
      clear FT qll ht3 hu2 ne3 hk hu3 kl vl
      go_region
      all_goals
        generalize (W2.setCell ⟨nb, (m + 4), none⟩ (.int .u8 (v : Int))).drew = W3 at hcb b3 y0 g3 z3 ⊢
        clear b x0 x1 x2 z hx hfz
        have g := g3
        have b := b3
        have x0 := y0
        have z := z3
        clear g3 b3 y0 z3
        go_wp2_with fail
        (refine (HU2.out _ g).mono ?_; rintro e W' ⟨rfl, bn⟩; replace g := HK.out _ _ g bn; replace b := bl_trans b bn; replace x0 := bl_cell bn z x0; replace z := Nat.lt_of_lt_of_le z bn.size; clear bn; go_wp2_with fail)
        (refine (HU3.out _ g).mono ?_; rintro e W' ⟨rfl, bn⟩; replace g := HK.out _ _ g bn; replace b := bl_trans b bn; replace x0 := bl_cell bn z x0; replace z := Nat.lt_of_lt_of_le z bn.size; clear bn; go_wp2_with fail)
        (refine (HW.out _ g).mono ?_; rintro e W' ⟨rfl, bn⟩; replace g := HK.out _ _ g bn; replace b := bl_trans b bn; replace x0 := bl_cell bn z x0; replace z := Nat.lt_of_lt_of_le z bn.size; clear bn; go_wp2_with fail)
        go_ret
        exact ⟨rfl, b⟩
  · have c1 : ¬ (2000 : Int) < s.size := by omega
    have c2 : ((s.size : Int) ≤ 2000) := by omega
    have q1 : s.size ≤ 2000 := by omega
    go_wp2_with fail
    clear c c1 c2 b0
    generalize s = q at q1 ⊢
    generalize w.alloc (.cells #[.int .u16 at', .int .u8 by', .int .u8 kd] 39) = w1 at b g x0 x1 x2 z ⊢
    have hf := HF.out q q1 w1 g
    rw [show frameM kd q = (⟨(laidL kd q.data.toList).toArray⟩, 0) from by unfold frameM; rw [if_neg (by omega)]] at hf
    obtain ⟨f, ff⟩ : ∃ f, f = (⟨(laidL kd q.data.toList).toArray⟩ : ByteArray) := ⟨_, rfl⟩
    have f1 : f.size = 9 + q.size := by rw [ff, laid_size]
    have hu : unframeM (f ++ t) = (kd, q, t, 0) := by
      rw [ff, bytes_eq t, bytes_app, unframe_laid kd _ _ HKD.out (by rw [Array.length_toList]; exact Nat.le_trans q1 (by omega)), ← bytes_eq q, ← bytes_eq t]
    have hft := HT.out
    have HU1 := Lib.hid fun W (gW : G W) => HU.out (f ++ t) (by rw [ByteArray.size_append]; omega) W gW
    rw [hu, show uEnd (kd, q, t, 0) = .returned (.tuple #[.int .u8 (kd : Nat), .string q, .string t, .int .i64 0]) from rfl] at HU1
    rw [← ff] at hf
    have FF := Lib.hid ff
    have fi : (f.size : Int) = 9 + q.size := by omega
    have qi : (q.size : Int) ≤ 2000 := by omega
    have f2 : ¬ 9223372036854775807 < f.size + t.size := by omega
    have F1 := Lib.hid f1
    have Q1 := Lib.hid q1
    clear HF hu hft ff q1 f1
    (refine (hf).mono ?_; rintro e W' ⟨rfl, bn⟩; replace g := HK.out _ _ g bn; replace b := bl_trans b bn; replace x0 := bl_cell bn z x0; replace x1 := bl_cell bn z x1; replace x2 := bl_cell bn z x2; replace z := Nat.lt_of_lt_of_le z bn.size; clear bn; go_wp2_with fail)
    obtain ⟨m, hm⟩ : ∃ m, m = at' % (5 + q.size) := ⟨_, rfl⟩
    have em : (at' : Int).tmod (9 + (q.size : Int) - 4) = (m : Int) := by
      rw [show 9 + (q.size : Int) - 4 = ((5 + q.size : Nat) : Int) from by omega, hm]
      exact (Int.ofNat_tmod _ _).symm
    have ml : m < 5 + q.size := by rw [hm]; exact Nat.mod_lt _ (by omega)
    have a0 : (0 : Int) ≤ at' := by omega
    have a1 : (at' : Int) ≤ 65535 := by have := HA.out; omega
    have hcv := fun W => run_bytes_of_string (P := Tryd.prog) W 9 40 5 (f ++ t) Tryd.underlying9 Tryd.underlying40 Tryd.underlying5
    have hfs : (f ++ t).size = f.size + t.size := ByteArray.size_append
    have ML := Lib.hid ml
    have HM := Lib.hid hm
    clear hm ml hfs
    by_cases c : m = 0
    · subst c
      have C := Lib.hid (show (0 : Nat) = 0 from rfl)
      (refine (HU1.out _ g).mono ?_; rintro e W' ⟨rfl, bn⟩; replace g := HK.out _ _ g bn; replace b := bl_trans b bn; replace x0 := bl_cell bn z x0; replace x1 := bl_cell bn z x1; replace x2 := bl_cell bn z x2; replace z := Nat.lt_of_lt_of_le z bn.size; clear bn; go_wp2_with fail)
      have L := bytes_laid W' (f ++ t) (grownCap W' (f.size + t.size) 0 5) 5
      generalize (W'.alloc (.cells (bytesRow (f ++ t) (grownCap W' (f.size + t.size) 0 5)) 5 ((bytesRow (f ++ t) (grownCap W' (f.size + t.size) 0 5)).size, (bytesRow (f ++ t) (grownCap W' (f.size + t.size) 0 5)).size + 1))).drew = W2 at L ⊢
      obtain ⟨bb, zb, cb, fb⟩ := L
      replace b := b.trans (bb.mono (Nat.le_of_lt z))
      replace x0 := bl_cell bb z x0
      replace x1 := bl_cell bb z x1
      replace x2 := bl_cell bb z x2
      have nz := z
      replace z := Nat.lt_of_lt_of_le z bb.size
      generalize grownCap W' (f.size + t.size) 0 5 = cap
      clear g hcv bb
      generalize W'.heap.size = nb at zb cb fb nz ⊢
      obtain ⟨r, hr⟩ : ∃ r, r = by' % 255 := ⟨_, rfl⟩
      have rl : r < 255 := by rw [hr]; exact Nat.mod_lt _ (by omega)
      have er : (by' : Int).tmod 255 = (r : Int) := by rw [hr]; exact (Int.ofNat_tmod _ _).symm
      have er2 : (by' : Int) % 255 = (r : Int) := by rw [hr]; simp
      have r0 : (0 : Int) ≤ r := by omega
      have r1 : (r : Int) ≤ 254 := by omega
      have ew : IntKind.u8.wrap ((r : Int) + 1) = (r : Int) + 1 := by rw [IntKind.wrap_u8]; omega
      have hsz : (f ++ t).data.toList.length = f.size + t.size := by rw [Array.length_toList]; exact ByteArray.size_append
      have hil : 0 < (f ++ t).data.toList.length := by rw [hsz, F1.out]; have := ML.out; omega
      obtain ⟨X, hX⟩ : ∃ X, (f ++ t).data.toList[0]? = some X := ⟨_, List.getElem?_eq_getElem hil⟩
      have hx := cb 0 X hX
      have hfz := fb 0 (by rw [ByteArray.size_append, F1.out]; have := ML.out; omega)
      have hxl := X.toNat_lt
      have HX := Lib.hid hX
      obtain ⟨x, xe⟩ : ∃ x, x = X.toNat := ⟨_, rfl⟩
      rw [← xe] at hx hxl
      have XE := Lib.hid xe
      have ev := u8_xor_nat x (r + 1) hxl (by omega)
      rw [show ((r + 1 : Nat) : Int) = (r : Int) + 1 from by omega] at ev
      obtain ⟨v, ve⟩ : ∃ v, v = x ^^^ (r + 1) := ⟨_, rfl⟩
      rw [← ve] at ev
      have VE := Lib.hid ve
      have XL := Lib.hid hxl
      have RL := Lib.hid rl
      have HIL := Lib.hid hil
      have HSZ := Lib.hid hsz
      have CB := Lib.hid cb
      have by0 : (0 : Int) ≤ by' := by omega
      have by1 : (by' : Int) ≤ 255 := by have := HB.out; omega
      have xi0 : (0 : Int) ≤ x := by omega
      have xi1 : (x : Int) ≤ 255 := by omega
      have ii1 : ((0 : Nat) : Int) < (f.size : Int) + t.size := by have := ML.out; have := F1.out; omega
      clear hr xe ve hxl rl hil hsz cb fb hX
      have FT : (f ++ t).data.toList = laidL kd q.data.toList ++ t.data.toList := by rw [FF.out, ByteArray.data_append, Array.toList_append]
      have qll : q.data.toList.length = q.size := by rw [Array.length_toList]; rfl
      have vl : v < 256 := by rw [VE.out]; exact Nat.xor_lt_two_pow (n := 8) XL.out (by have := RL.out; omega)
      have ht3 := turned_cells CB.out HIL.out vl
      have hcb : (convert 40 9 (.slice (some ⟨nb, 0, none⟩) (f.size + t.size) cap)).run Tryd.prog (W2.setCell ⟨nb, 0, none⟩ (.int .u8 (v : Int))).drew = .ok (.string ⟨((f ++ t).data.toList.set 0 (UInt8.ofNat v)).toArray⟩) (W2.setCell ⟨nb, 0, none⟩ (.int .u8 (v : Int))).drew := by
        have := run_convert_bytes_back (P := Tryd.prog) (W2.setCell ⟨nb, 0, none⟩ (.int .u8 (v : Int))).drew 40 9 5 ⟨nb, 0, none⟩ cap _ Tryd.underlying40 Tryd.underlying5 Tryd.underlying9 ht3
        rwa [List.length_set, HSZ.out] at this
      have hu2 : unframeM ⟨((f ++ t).data.toList.set 0 (UInt8.ofNat v)).toArray⟩ = formErr := by
        rw [FT]
        refine unframe_turned kd _ _ _ _ (by rw [qll]; have := Q1.out; omega) (by have := C.out; omega) (by rw [qll]; have := ML.out; omega) ?_
        intro y hy
        rw [← FT, HX.out] at hy
        intro e
        have e1 : X = UInt8.ofNat v := by rw [← e]; exact Option.some.inj hy
        have e2 : X.toNat = v := by rw [e1, UInt8.toNat_ofNat', Nat.mod_eq_of_lt vl]
        rw [← XE.out, VE.out] at e2
        exact xor_ne x (r + 1) (by omega) e2.symm
      have HU2 := Lib.hid fun W (gW : G W) => HU.out ⟨((f ++ t).data.toList.set 0 (UInt8.ofNat v)).toArray⟩ (by rw [size_mk, List.length_set, HSZ.out]; omega) W gW
      rw [hu2, show uEnd formErr = .returned (.tuple #[.int .u8 (0 : Nat), .string ⟨#[]⟩, .string ⟨#[]⟩, .int .i64 4]) from rfl] at HU2
      generalize (⟨((f ++ t).data.toList.set 0 (UInt8.ofNat v)).toArray⟩ : ByteArray) = S at hcb HU2
      have b3 : Below w.heap.size w (W2.setCell ⟨nb, 0, none⟩ (.int .u8 (v : Int))).drew := bl_drew (b.setCell (Nat.le_of_lt nz) _)
      have ne3 : ∀ o, (⟨nb, 0, none⟩ : Addr) ≠ ⟨w.heap.size, o, none⟩ := fun o e => by have := congrArg Addr.block e; simp only at this; omega
      have y0 : (W2.setCell ⟨nb, 0, none⟩ (.int .u8 (v : Int))).drew.cell? ⟨w.heap.size, 0, none⟩ = some (.int .u16 at') := by
        rw [show (W2.setCell ⟨nb, 0, none⟩ (.int .u8 (v : Int))).drew.cell? ⟨w.heap.size, 0, none⟩ = (W2.setCell ⟨nb, 0, none⟩ (.int .u8 (v : Int))).cell? ⟨w.heap.size, 0, none⟩ from rfl, World.cell?_setCell_other _ _ _ _ (ne3 0)]; exact x0
      obtain ⟨k, hk⟩ : ∃ k, k = at' % (9 + q.size) := ⟨_, rfl⟩
      have ek : (at' : Int).tmod (9 + (q.size : Int)) = (k : Int) := by
        rw [show 9 + (q.size : Int) = ((9 + q.size : Nat) : Int) from by omega, hk]
        exact (Int.ofNat_tmod _ _).symm
      have kl : k < 9 + q.size := by rw [hk]; exact Nat.mod_lt _ (by omega)
      have k0 : (0 : Int) ≤ k := by omega
      have k1 : (k : Int) ≤ 9 + q.size := by omega
      have k2 : (k : Int) ≤ f.size := by omega
      have hu3 : unframeM (f.extract 0 k) = formErr := by
        have := unframe_cut kd q.data.toList k (by rw [qll]; have := Q1.out; omega) (by rw [qll]; exact kl)
        rw [FF.out, ByteArray.extract_mk, List.drop_zero, Nat.sub_zero]
        exact this
      have HU3 := Lib.hid fun W (gW : G W) => HU.out (f.extract 0 k) (by rw [ByteArray.size_extract]; have := F1.out; omega) W gW
      rw [hu3, show uEnd formErr = .returned (.tuple #[.int .u8 (0 : Nat), .string ⟨#[]⟩, .string ⟨#[]⟩, .int .i64 4]) from rfl] at HU3
      have g3 := HK.out _ _ g0 b3
      have z3 : w.heap.size < (W2.setCell ⟨nb, 0, none⟩ (.int .u8 (v : Int))).drew.heap.size := by
        rw [World.size_drew, World.size_setCell]; exact z
      have KL := Lib.hid kl
      clear FT qll ht3 hu2 ne3 hk hu3 kl vl
      go_region
      all_goals
        generalize (W2.setCell ⟨nb, 0, none⟩ (.int .u8 (v : Int))).drew = W3 at hcb b3 y0 g3 z3 ⊢
        clear b x0 x1 x2 z hx hfz
        have g := g3
        have b := b3
        have x0 := y0
        have z := z3
        clear g3 b3 y0 z3
        go_wp2_with fail
        (refine (HU2.out _ g).mono ?_; rintro e W' ⟨rfl, bn⟩; replace g := HK.out _ _ g bn; replace b := bl_trans b bn; replace x0 := bl_cell bn z x0; replace z := Nat.lt_of_lt_of_le z bn.size; clear bn; go_wp2_with fail)
        (refine (HU3.out _ g).mono ?_; rintro e W' ⟨rfl, bn⟩; replace g := HK.out _ _ g bn; replace b := bl_trans b bn; replace x0 := bl_cell bn z x0; replace z := Nat.lt_of_lt_of_le z bn.size; clear bn; go_wp2_with fail)
        (refine (HW.out _ g).mono ?_; rintro e W' ⟨rfl, bn⟩; replace g := HK.out _ _ g bn; replace b := bl_trans b bn; replace x0 := bl_cell bn z x0; replace z := Nat.lt_of_lt_of_le z bn.size; clear bn; go_wp2_with fail)
        go_ret
        exact ⟨rfl, b⟩
    · have m0 : (0 : Int) < m := by omega
      have m1 : (m : Int) ≤ 2004 := by have := ML.out; omega
      have C := Lib.hid c
      clear c
      (refine (HU1.out _ g).mono ?_; rintro e W' ⟨rfl, bn⟩; replace g := HK.out _ _ g bn; replace b := bl_trans b bn; replace x0 := bl_cell bn z x0; replace x1 := bl_cell bn z x1; replace x2 := bl_cell bn z x2; replace z := Nat.lt_of_lt_of_le z bn.size; clear bn; go_wp2_with fail)
      have L := bytes_laid W' (f ++ t) (grownCap W' (f.size + t.size) 0 5) 5
      generalize (W'.alloc (.cells (bytesRow (f ++ t) (grownCap W' (f.size + t.size) 0 5)) 5 ((bytesRow (f ++ t) (grownCap W' (f.size + t.size) 0 5)).size, (bytesRow (f ++ t) (grownCap W' (f.size + t.size) 0 5)).size + 1))).drew = W2 at L ⊢
      obtain ⟨bb, zb, cb, fb⟩ := L
      replace b := b.trans (bb.mono (Nat.le_of_lt z))
      replace x0 := bl_cell bb z x0
      replace x1 := bl_cell bb z x1
      replace x2 := bl_cell bb z x2
      have nz := z
      replace z := Nat.lt_of_lt_of_le z bb.size
      generalize grownCap W' (f.size + t.size) 0 5 = cap
      clear g hcv bb
      rw [show ((m : Int) + 4) = ((m + 4 : Nat) : Int) from by omega]
      generalize W'.heap.size = nb at zb cb fb nz ⊢
      obtain ⟨r, hr⟩ : ∃ r, r = by' % 255 := ⟨_, rfl⟩
      have rl : r < 255 := by rw [hr]; exact Nat.mod_lt _ (by omega)
      have er : (by' : Int).tmod 255 = (r : Int) := by rw [hr]; exact (Int.ofNat_tmod _ _).symm
      have er2 : (by' : Int) % 255 = (r : Int) := by rw [hr]; simp
      have r0 : (0 : Int) ≤ r := by omega
      have r1 : (r : Int) ≤ 254 := by omega
      have ew : IntKind.u8.wrap ((r : Int) + 1) = (r : Int) + 1 := by rw [IntKind.wrap_u8]; omega
      have hsz : (f ++ t).data.toList.length = f.size + t.size := by rw [Array.length_toList]; exact ByteArray.size_append
      have hil : (m + 4) < (f ++ t).data.toList.length := by rw [hsz, F1.out]; have := ML.out; omega
      obtain ⟨X, hX⟩ : ∃ X, (f ++ t).data.toList[(m + 4)]? = some X := ⟨_, List.getElem?_eq_getElem hil⟩
      have hx := cb (m + 4) X hX
      have hfz := fb (m + 4) (by rw [ByteArray.size_append, F1.out]; have := ML.out; omega)
      have hxl := X.toNat_lt
      have HX := Lib.hid hX
      obtain ⟨x, xe⟩ : ∃ x, x = X.toNat := ⟨_, rfl⟩
      rw [← xe] at hx hxl
      have XE := Lib.hid xe
      have ev := u8_xor_nat x (r + 1) hxl (by omega)
      rw [show ((r + 1 : Nat) : Int) = (r : Int) + 1 from by omega] at ev
      obtain ⟨v, ve⟩ : ∃ v, v = x ^^^ (r + 1) := ⟨_, rfl⟩
      rw [← ve] at ev
      have VE := Lib.hid ve
      have XL := Lib.hid hxl
      have RL := Lib.hid rl
      have HIL := Lib.hid hil
      have HSZ := Lib.hid hsz
      have CB := Lib.hid cb
      have by0 : (0 : Int) ≤ by' := by omega
      have by1 : (by' : Int) ≤ 255 := by have := HB.out; omega
      have xi0 : (0 : Int) ≤ x := by omega
      have xi1 : (x : Int) ≤ 255 := by omega
      have ii1 : ((m + 4 : Nat) : Int) < (f.size : Int) + t.size := by have := ML.out; have := F1.out; omega
      clear hr xe ve hxl rl hil hsz cb fb hX
      have FT : (f ++ t).data.toList = laidL kd q.data.toList ++ t.data.toList := by rw [FF.out, ByteArray.data_append, Array.toList_append]
      have qll : q.data.toList.length = q.size := by rw [Array.length_toList]; rfl
      have vl : v < 256 := by rw [VE.out]; exact Nat.xor_lt_two_pow (n := 8) XL.out (by have := RL.out; omega)
      have ht3 := turned_cells CB.out HIL.out vl
      have hcb : (convert 40 9 (.slice (some ⟨nb, 0, none⟩) (f.size + t.size) cap)).run Tryd.prog (W2.setCell ⟨nb, (m + 4), none⟩ (.int .u8 (v : Int))).drew = .ok (.string ⟨((f ++ t).data.toList.set (m + 4) (UInt8.ofNat v)).toArray⟩) (W2.setCell ⟨nb, (m + 4), none⟩ (.int .u8 (v : Int))).drew := by
        have := run_convert_bytes_back (P := Tryd.prog) (W2.setCell ⟨nb, (m + 4), none⟩ (.int .u8 (v : Int))).drew 40 9 5 ⟨nb, 0, none⟩ cap _ Tryd.underlying40 Tryd.underlying5 Tryd.underlying9 ht3
        rwa [List.length_set, HSZ.out] at this
      have hu2 : unframeM ⟨((f ++ t).data.toList.set (m + 4) (UInt8.ofNat v)).toArray⟩ = formErr := by
        rw [FT]
        refine unframe_turned kd _ _ _ _ (by rw [qll]; have := Q1.out; omega) (by have := C.out; omega) (by rw [qll]; have := ML.out; omega) ?_
        intro y hy
        rw [← FT, HX.out] at hy
        intro e
        have e1 : X = UInt8.ofNat v := by rw [← e]; exact Option.some.inj hy
        have e2 : X.toNat = v := by rw [e1, UInt8.toNat_ofNat', Nat.mod_eq_of_lt vl]
        rw [← XE.out, VE.out] at e2
        exact xor_ne x (r + 1) (by omega) e2.symm
      have HU2 := Lib.hid fun W (gW : G W) => HU.out ⟨((f ++ t).data.toList.set (m + 4) (UInt8.ofNat v)).toArray⟩ (by rw [size_mk, List.length_set, HSZ.out]; omega) W gW
      rw [hu2, show uEnd formErr = .returned (.tuple #[.int .u8 (0 : Nat), .string ⟨#[]⟩, .string ⟨#[]⟩, .int .i64 4]) from rfl] at HU2
      generalize (⟨((f ++ t).data.toList.set (m + 4) (UInt8.ofNat v)).toArray⟩ : ByteArray) = S at hcb HU2
      have b3 : Below w.heap.size w (W2.setCell ⟨nb, (m + 4), none⟩ (.int .u8 (v : Int))).drew := bl_drew (b.setCell (Nat.le_of_lt nz) _)
      have ne3 : ∀ o, (⟨nb, (m + 4), none⟩ : Addr) ≠ ⟨w.heap.size, o, none⟩ := fun o e => by have := congrArg Addr.block e; simp only at this; omega
      have y0 : (W2.setCell ⟨nb, (m + 4), none⟩ (.int .u8 (v : Int))).drew.cell? ⟨w.heap.size, 0, none⟩ = some (.int .u16 at') := by
        rw [show (W2.setCell ⟨nb, (m + 4), none⟩ (.int .u8 (v : Int))).drew.cell? ⟨w.heap.size, 0, none⟩ = (W2.setCell ⟨nb, (m + 4), none⟩ (.int .u8 (v : Int))).cell? ⟨w.heap.size, 0, none⟩ from rfl, World.cell?_setCell_other _ _ _ _ (ne3 0)]; exact x0
      obtain ⟨k, hk⟩ : ∃ k, k = at' % (9 + q.size) := ⟨_, rfl⟩
      have ek : (at' : Int).tmod (9 + (q.size : Int)) = (k : Int) := by
        rw [show 9 + (q.size : Int) = ((9 + q.size : Nat) : Int) from by omega, hk]
        exact (Int.ofNat_tmod _ _).symm
      have kl : k < 9 + q.size := by rw [hk]; exact Nat.mod_lt _ (by omega)
      have k0 : (0 : Int) ≤ k := by omega
      have k1 : (k : Int) ≤ 9 + q.size := by omega
      have k2 : (k : Int) ≤ f.size := by omega
      have hu3 : unframeM (f.extract 0 k) = formErr := by
        have := unframe_cut kd q.data.toList k (by rw [qll]; have := Q1.out; omega) (by rw [qll]; exact kl)
        rw [FF.out, ByteArray.extract_mk, List.drop_zero, Nat.sub_zero]
        exact this
      have HU3 := Lib.hid fun W (gW : G W) => HU.out (f.extract 0 k) (by rw [ByteArray.size_extract]; have := F1.out; omega) W gW
      rw [hu3, show uEnd formErr = .returned (.tuple #[.int .u8 (0 : Nat), .string ⟨#[]⟩, .string ⟨#[]⟩, .int .i64 4]) from rfl] at HU3
      have g3 := HK.out _ _ g0 b3
      have z3 : w.heap.size < (W2.setCell ⟨nb, (m + 4), none⟩ (.int .u8 (v : Int))).drew.heap.size := by
        rw [World.size_drew, World.size_setCell]; exact z
      have KL := Lib.hid kl
      clear FT qll ht3 hu2 ne3 hk hu3 kl vl
      go_region
      all_goals
        generalize (W2.setCell ⟨nb, (m + 4), none⟩ (.int .u8 (v : Int))).drew = W3 at hcb b3 y0 g3 z3 ⊢
        clear b x0 x1 x2 z hx hfz
        have g := g3
        have b := b3
        have x0 := y0
        have z := z3
        clear g3 b3 y0 z3
        go_wp2_with fail
        (refine (HU2.out _ g).mono ?_; rintro e W' ⟨rfl, bn⟩; replace g := HK.out _ _ g bn; replace b := bl_trans b bn; replace x0 := bl_cell bn z x0; replace z := Nat.lt_of_lt_of_le z bn.size; clear bn; go_wp2_with fail)
        (refine (HU3.out _ g).mono ?_; rintro e W' ⟨rfl, bn⟩; replace g := HK.out _ _ g bn; replace b := bl_trans b bn; replace x0 := bl_cell bn z x0; replace z := Nat.lt_of_lt_of_le z bn.size; clear bn; go_wp2_with fail)
        (refine (HW.out _ g).mono ?_; rintro e W' ⟨rfl, bn⟩; replace g := HK.out _ _ g bn; replace b := bl_trans b bn; replace x0 := bl_cell bn z x0; replace z := Nat.lt_of_lt_of_le z bn.size; clear bn; go_wp2_with fail)
        go_ret
        exact ⟨rfl, b⟩
end Go.Proofs.YtbgkehdnnloahaaDoor.sums
