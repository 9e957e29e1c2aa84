/-
  Layer 4, the law's own: written: a device, some writes safe, some not.
-/
import Derived.Test.YtlhhkoaacjakcaaDevAw
import Derived.Deep.Cut
import Derived.Deep.CutRange
import Derived.Deep.CutBlock
import Derived.Deep.DeepCutAuto
namespace Go.Proofs.Ytlhhkoaacjakcaa.dev
open Go.ChangeShapes Go.WideShapes Go.ChangeAt Go.RowKit mem
set_option linter.unusedVariables false

/-- a slice of writes, wherever it lies -/
def PutsIn (W : World) (v : Value) (ps : List (Int × ByteArray)) : Prop :=
  ∃ ao cap, v = .slice ao ps.length cap ∧ ∀ i (hi : i < ps.length), ∃ b o, ao = some ⟨b, o, none⟩ ∧ W.cell? ⟨b, o + i * 2, none⟩ = some (.int .i64 (ps[i]).1) ∧ W.cell? ⟨b, o + i * 2 + 1, none⟩ = some (.string (ps[i]).2)
theorem PutsIn.kept {w W : World} {v : Value} {ps : List (Int × ByteArray)} (h : PutsIn w v ps) (hc : Ch (fun _ => False) w W) : PutsIn W v ps := by
  obtain ⟨ao, cap, rfl, h⟩ := h
  exact ⟨ao, cap, rfl, fun i hi => by obtain ⟨b, o, e, h1, h2⟩ := h i hi; exact ⟨b, o, e, hc.cell h1, hc.cell h2⟩⟩
structure PutsOk (ps : List (Int × ByteArray)) : Prop where
  len : ps.length ≤ 17592186043904
  num : ∀ p ∈ ps, InI64 p.1 ∧ p.2.size ≤ 9223372036854775807

/-- the number laid into 0 .. 7, from which the geometry is made -/
def eight (b : Int) : Int := (b.tmod 8 + 8).tmod 8
theorem eight_in (b : Int) : 0 ≤ eight b ∧ eight b ≤ 7 := by
  have h2 := Int.lt_tmod_of_pos b (show (0 : Int) < 8 by omega)
  have h1 := Int.tmod_lt_of_pos (b.tmod 8 + 8) (show (0 : Int) < 8 by omega)
  have h3 := Int.tmod_nonneg 8 (show 0 ≤ b.tmod 8 + 8 by omega)
  exact ⟨h3, by unfold eight; omega⟩
def blockOf (nb : Nat) (n : Int) : Int := (n.tmod nb + nb).tmod nb
theorem blockOf_in (nb : Nat) (n : Int) (h : 0 < nb) : 0 ≤ blockOf nb n ∧ blockOf nb n < nb := by
  have h1 := Int.tmod_lt_of_pos (n.tmod nb + nb) (show (0 : Int) < nb by omega)
  have h2 : -(nb : Int) < n.tmod nb := by have := Int.lt_tmod_of_pos n (show (0 : Int) < nb by omega); omega
  exact ⟨Int.tmod_nonneg _ (by omega), h1⟩
def putM (nb ns : Nat) (p : Int × ByteArray) : Nat × ByteArray := ((blockOf nb p.1).toNat, fillM p.2 (512 * ns))
/-- so many writes more -/
def wroteM (D : DevM) (ps : List (Int × ByteArray)) (k : Nat) : DevM := { D with calls := D.calls + k, cache := D.cache ++ (ps.take k).map (putM D.nb D.ns) }
theorem wroteM_zero (D : DevM) (ps : List (Int × ByteArray)) : wroteM D ps 0 = D := by simp [wroteM]
theorem counted_plain {D : DevM} (hp : D.plan = none) : D.counted = ({ D with calls := D.calls + 1 }, none) := by unfold DevM.counted; rw [hp]
theorem wroteM_more (D : DevM) (ps : List (Int × ByteArray)) (k : Nat) (h : k < ps.length) (hd : D.down = false) (hp : D.plan = none) (hb : 0 < D.nb) :
    (wroteM D ps k).write (blockOf D.nb (ps[k]).1) (fillM (ps[k]).2 (512 * D.ns)) = (wroteM D ps (k + 1), 0) := by
  have hz : (fillM (ps[k]).2 (512 * D.ns)).size = 512 * (wroteM D ps k).ns := fillM_size _ _
  rw [write_none (D := wroteM D ps k) hd (blockOf_in D.nb _ hb) hz (counted_plain (D := wroteM D ps k) hp)]
  unfold wroteM putM
  rw [List.take_succ_eq_append_getElem h, List.map_append, ← List.append_assoc]
  rfl
theorem wroteM_room (D : DevM) (ps : List (Int × ByteArray)) (k m : Nat) (h : D.Room (m + k)) : (wroteM D ps k).Room m :=
  ⟨by show D.calls + k + m ≤ _; have := h.calls; omega, by show D.reads + m ≤ _; have := h.reads; omega, by show (D.cache ++ _).length + m ≤ _; rw [List.length_append, List.length_map, List.length_take]; have := h.cache; omega⟩

section
variable {w wr : World} {As : List Ast} {dev : Nat → DevM → Ast}
abbrev aPuts (v : Value) (c : List (Nat × ByteArray)) : Ast := aRow 70 2 v c.length (wcells c)

theorem put_write (ok : DevOk dev) {D : DevM} {ps : List (Int × ByteArray)} {k nb ns : Nat} {X : Nat} {R : List Ast} (hk : k < ps.length) (hd : D.down = false) (hp : D.plan = none) (hb : 0 < nb) (hb2 : nb ≤ 4096) (hs2 : ns ≤ 8) (en : D.nb = nb) (es : D.ns = ns) (hR : (wroteM D ps k).Room 1) :
    ∀ W', St w W' (dev X (wroteM D ps k) :: R) → Calls Try.prog 20 #[pt X, .int .i64 (((ps[k]).1.tmod nb + nb).tmod nb), .string (fillM (ps[k]).2 (512 * ns))] W' fun e w' => e = .returned (.int .i64 0) ∧ St w w' (dev X (wroteM D ps (k + 1)) :: R) := by
  intro W' h
  subst en es
  have hi := blockOf_in D.nb (ps[k]).1 hb
  have := ok.write h (blockOf D.nb (ps[k]).1) (fillM (ps[k]).2 (512 * D.ns)) ⟨by omega, by omega⟩ (by rw [fillM_size]; omega) hR
  rw [wroteM_more D ps k hk hd hp hb] at this
  exact this
theorem mod_wraps (n : Int) (nb : Nat) (h : InI64 n) (hb : 0 < nb) (hb2 : nb ≤ 4096) : IntKind.i64.wrap (n.tmod nb) = n.tmod nb ∧ IntKind.i64.wrap (n.tmod nb + nb) = n.tmod nb + nb ∧ IntKind.i64.wrap ((n.tmod nb + nb).tmod nb) = (n.tmod nb + nb).tmod nb := by
  have h1 := Int.lt_tmod_of_pos n (show (0 : Int) < nb by omega)
  have h2 := Int.tmod_lt_of_pos n (show (0 : Int) < nb by omega)
  have h3 := blockOf_in nb n hb
  unfold blockOf at h3
  exact ⟨IntWalk.i64_in _ (by omega), IntWalk.i64_in _ (by omega), IntWalk.i64_in _ (by omega)⟩

theorem rowPut : RowOf 64 70 (.agg #[.int .i64 0, .string ⟨#[]⟩]) 2 24 := ⟨Try.underlying64, by kernel_rfl, rfl, by decide⟩
theorem puts_push {W : World} {v : Value} {c : List (Nat × ByteArray)} {i : Int} {F : ByteArray} {Bs : List Ast} (h : St w W (aRow 70 2 v (c.length + 1) (wcells c ++ [.int .i64 i, .string F]) :: Bs)) (h0 : 0 ≤ i) : St w W (aPuts v (c ++ [(i.toNat, F)]) :: Bs) := by
  unfold aPuts
  rw [wcells_append, List.length_append, show wcells [(i.toNat, F)] = [.int .i64 i, .string F] from by simp [wcells, Int.toNat_of_nonneg h0]]
  exact h

set_option maxHeartbeats 4000000 in
set_option maxRecDepth 8000 in
theorem written_any (ok : DevOk dev) (h : St w wr As) (b s : Int) (hb : InI64 b) (hs : InI64 s) (v1 v2 : Value) (safe more : List (Int × ByteArray)) (h1 : PutsIn w v1 safe) (h2 : PutsIn w v2 more) (C1 : PutsOk safe) (C2 : PutsOk more)
    (nb ns : Nat) (hnb : (nb : Int) = 16 + eight b) (hns : (ns : Int) = 1 + eight s) (S D : DevM) (hS : S = (wroteM (DevM.new nb ns) safe (min 60 safe.length)).flush.1) (hD : D = wroteM S more (min 60 more.length)) :
    Calls Try.prog 32 #[.int .i64 b, .int .i64 s, v1, v2] wr fun e w' => ∃ X vi vl, e = .returned (.tuple #[pt X, vi, vl]) ∧
      St w w' (aRow 9 1 vi nb (strs S.image) :: dev X D :: aPuts vl ((more.take 60).map (putM nb ns)) :: As) := by
  have H1 := Lib.hid h1
  have H2 := Lib.hid h2
  obtain ⟨b1, b2⟩ := hb
  obtain ⟨s1, s2⟩ := hs
  obtain ⟨ao, cap, rfl, hc⟩ := h1
  obtain ⟨ao2, cap2, rfl, hc2⟩ := h2
  have hnew := st_new h [.int .i64 (nb : Int), .int .i64 (ns : Int)] 33
  have eb := eight_in b
  have es := eight_in s
  have g : geoOk nb ns := ⟨by omega, by omega, by omega, by omega⟩
  have HNEW := Lib.hid (ok.new_ok hnew nb ns g)
  have x1 := Int.lt_tmod_of_pos b (show (0 : Int) < 8 by omega)
  have x2 := Int.tmod_lt_of_pos b (show (0 : Int) < 8 by omega)
  have y1 := Int.lt_tmod_of_pos s (show (0 : Int) < 8 by omega)
  have y2 := Int.tmod_lt_of_pos s (show (0 : Int) < 8 by omega)
  have e1 : IntKind.i64.wrap (b.tmod 8) = b.tmod 8 := IntWalk.i64_in _ (by omega)
  have e2 : IntKind.i64.wrap (b.tmod 8 + 8) = b.tmod 8 + 8 := IntWalk.i64_in _ (by omega)
  have e3 : IntKind.i64.wrap ((b.tmod 8 + 8).tmod 8) = (b.tmod 8 + 8).tmod 8 := IntWalk.i64_in _ (by unfold eight at eb; omega)
  have e4 : IntKind.i64.wrap (16 + (b.tmod 8 + 8).tmod 8) = nb := by rw [IntWalk.i64_in _ (by unfold eight at eb; omega)]; unfold eight at hnb; omega
  have f1 : IntKind.i64.wrap (s.tmod 8) = s.tmod 8 := IntWalk.i64_in _ (by omega)
  have f2 : IntKind.i64.wrap (s.tmod 8 + 8) = s.tmod 8 + 8 := IntWalk.i64_in _ (by omega)
  have f3 : IntKind.i64.wrap ((s.tmod 8 + 8).tmod 8) = (s.tmod 8 + 8).tmod 8 := IntWalk.i64_in _ (by unfold eight at es; omega)
  have f4 : IntKind.i64.wrap (1 + (s.tmod 8 + 8).tmod 8) = ns := by rw [IntWalk.i64_in _ (by unfold eight at es; omega)]; unfold eight at hns; omega
  clear hc hc2 h hnew hnb hns x1 x2 y1 y2 eb es b1 b2 s1 s2
  go_enter Try.func32, Try.ntmps32
  go_upto_block 0 with ((go_at_call 8; refine HNEW.out.mono ?_; rintro e w1 ⟨X, rfl, hst⟩; have HS := Lib.hid hst; clear hst))
  have HG := Lib.hid g
  have nz : ¬ (nb : Int) = 0 := by have := g.1; omega
  have nz1 : ¬ nb = 0 := by have := g.1; omega
  have nz2 : ((nb : Int) == 0) = false := by rw [beq_eq_false_iff_ne]; exact nz
  have HC1 := Lib.hid C1
  have HC2 := Lib.hid C2
  have hm1 : min 60 safe.length ≤ 60 := by omega
  have n60 : (safe.length : Int) ≤ 17592186043904 := by have := C1.len; omega
  have n61 : (more.length : Int) ≤ 17592186043904 := by have := C2.len; omega
  generalize wr.heap.size = P at HS ⊢
  have HD0 : Hid ((DevM.new nb ns).down = false ∧ (DevM.new nb ns).plan = none ∧ (DevM.new nb ns).nb = nb ∧ (DevM.new nb ns).ns = ns ∧ (DevM.new nb ns).Room 1000) := Lib.hid ⟨rfl, rfl, rfl, rfl, ⟨(by decide : 0 + 1000 ≤ 4611686018427387904), (by decide : 0 + 1000 ≤ 4611686018427387904), (by decide : 0 + 1000 ≤ 1073741824)⟩⟩
  clear g e1 e2 e3 e4 f1 f2 f3 f4 HNEW C1 C2 hm1
  go_cut [14] (fun u wc => St w wc (dev X (wroteM (DevM.new nb ns) safe (min 60 safe.length)) :: aVar P [.int .i64 (nb : Int), .int .i64 (ns : Int)] 33 :: As))
  case first =>
    go_wp2_with fail
    go_loopw [14] (fun i W => ∃ k : Nat, k ≤ min 60 safe.length ∧ i = .int .i64 ↑k ∧ St w W (dev X (wroteM (DevM.new nb ns) safe k) :: aVar P [.int .i64 (nb : Int), .int .i64 (ns : Int)] 33 :: As)) (fun i _ => 60 - (intOf i).toNat)
    case atStart => exact ⟨0, Nat.zero_le _, rfl, by rw [wroteM_zero]; exact HS.out⟩
    case round =>
      obtain ⟨k, hk, rfl, hst⟩ := hrel
      by_cases hlt : k < min 60 safe.length
      · have q0 : k < safe.length := by omega
        have q1 : k < 60 := by omega
        have q2 : (k : Int) < safe.length := by omega
        have q3 : (k : Int) < 60 := by omega
        obtain ⟨a1, c1, ee, hc⟩ := H1.out
        cases ee
        obtain ⟨b0, o, rfl, hn0, hd0⟩ := hc k q0
        have hn := hst.ch.cell hn0
        have hd := hst.ch.cell hd0
        have HN0 := Lib.hid hn0
        have HD1 := Lib.hid hd0
        have HW := Lib.hid (put_write (w := w) (X := X) ok (R := aVar P [.int .i64 (nb : Int), .int .i64 (ns : Int)] 33 :: As) q0 HD0.out.1 HD0.out.2.1 (by have := HG.out.1; omega) (by have := HG.out.2.1; omega) (by have := HG.out.2.2.2; omega) HD0.out.2.2.1 HD0.out.2.2.2.1 (wroteM_room _ _ _ _ (room_less HD0.out.2.2.2.2 (by omega))))
        have HPK := Lib.hid (HC1.out.num _ (List.getElem_mem q0))
        have g0 : _ = some (Value.int .i64 (nb : Int)) := st_cell hst.swap 0
        have HS0 := Lib.hid hst
        clear hn0 hd0
        generalize safe[k] = p at hn hd HW HPK HN0 HD1
        obtain ⟨n, d⟩ := p
        obtain ⟨r1, r2, r3⟩ := mod_wraps n nb HPK.out.1 (by have := HG.out.1; omega) (by have := HG.out.2.1; omega)
        have HFL : Hid (∀ W, Calls Try.prog 31 #[.string d, .int .i64 (512 * ns : Nat)] W fun e w' => e = .returned (.string (fillM d (512 * ns))) ∧ W = w') := Lib.hid fun W => rfill_any d (512 * ns) (by have := HG.out.2.2.1; omega) (by have := HG.out.2.2.2; omega) HPK.out.2 W
        clear hst hc
        go_upto_region 8 with fail
        go_region_held3 (fun w' => w'.cell? ⟨b0, o + k * 2, none⟩ = some (.int .i64 n) ∧ w'.cell? ⟨b0, o + k * 2 + 1, none⟩ = some (.string d) ∧ w'.cell? ⟨P, 0, none⟩ = some (.int .i64 (nb : Int))) (go_keep) (first
          | ((go_at_call 16; refine (ok.size (by first | exact HS0.out | exact (HS0.out).drew | exact (HS0.out).drewN _ | exact ((HS0.out).drew).drewN _ | exact ((HS0.out).drewN _).drew)).mono ?_; rintro e w2 ⟨rfl, q, rfl⟩))
          | ((go_at_call 31; refine (HFL.out _).mono ?_; rintro e w2 ⟨rfl, rfl⟩))
          | ((go_at_call 20; refine (HW.out _ (by first | exact HS0.out | exact (HS0.out).drew | exact (HS0.out).drewN _ | exact ((HS0.out).drew).drewN _ | exact ((HS0.out).drewN _).drew)).mono ?_; rintro e w3 ⟨rfl, hst3⟩; have hn3 := hst3.ch.cell HN0.out; have hd3 := hst3.ch.cell HD1.out; have g3 : _ = some (Value.int .i64 (nb : Int)) := st_cell hst3.swap 0; have HS3 := Lib.hid hst3; clear hst3)))
        go_wp2_with fail
        go_roundw
        case rel => exact ⟨k + 1, by omega, by go_num, HS3.out⟩
        case measure => simp [intOf] <;> omega
      · obtain rfl : k = min 60 safe.length := by omega
        have HS3 := Lib.hid hst
        clear hst hk
        by_cases q : safe.length ≤ 60
        · have HSM := HS3
          rw [Nat.min_eq_right q] at hlt HS3 ⊢
          have q2 : ¬ safe.length < safe.length := Nat.lt_irrefl _
          go_wp2_with fail
          go_meet
          exact HSM.out
        · have HSM := HS3
          rw [Nat.min_eq_left (by omega)] at hlt HS3 ⊢
          have q2 : (60 : Int) < safe.length := by omega
          go_wp2_with fail
          go_meet
          exact HSM.out
  case rest =>
    have HS3 := Lib.hid hcut
    clear hcut HS
    have hfl := flush_none (D := wroteM (DevM.new nb ns) safe (min 60 safe.length)) rfl (counted_plain rfl)
    have HFLU : Hid (Calls Try.prog 21 #[pt X] wc fun e w' => e = .returned (.int .i64 0) ∧ St w w' (dev X S :: aVar P [.int .i64 (nb : Int), .int .i64 (ns : Int)] 33 :: As)) := Lib.hid (by
      have := ok.flush HS3.out (wroteM_room _ _ _ _ (room_less HD0.out.2.2.2.2 (by omega)))
      rw [hS]
      rw [hfl] at this ⊢
      exact this)
    have HSD : Hid (S.down = false ∧ S.plan = none ∧ S.nb = nb ∧ S.ns = ns ∧ S.Room 900) := Lib.hid (by
      rw [hS, hfl]
      refine ⟨rfl, rfl, rfl, rfl, ?_, (by decide : 0 + 900 ≤ 4611686018427387904), (by decide : 0 + 900 ≤ 1073741824)⟩
      show 0 + min 60 safe.length + 1 + 900 ≤ _
      omega)
    have HDD := Lib.hid hD
    clear hfl hS hD HD0 HS3
    go_upto_block 2 with (first
      | ((go_at_call 21; refine HFLU.out.mono ?_; rintro e w2 ⟨rfl, hst⟩; have HS2 := Lib.hid hst; clear hst))
      | ((go_at_call 30; refine (ok.image HS2.out (room_less HSD.out.2.2.2.2 (by omega))).mono ?_; rintro e w4 ⟨vi, rfl, hst⟩; have HS4 := Lib.hid hst; clear hst)))
    have HS5 : Hid (St w w4 (aPuts (.slice none 0 0) [] :: aRow 9 1 vi nb (strs S.image) :: dev X (wroteM S more 0) :: aVar P [.int .i64 (nb : Int), .int .i64 (ns : Int)] 33 :: As)) := Lib.hid (by
      rw [wroteM_zero]
      have := HS4.out
      rw [HSD.out.2.2.1] at this
      exact st_pushrow this)
    clear HS4 HFLU
    go_cut [16, 17] (fun l u wc => St w wc (aPuts l ((more.take 60).map (putM nb ns)) :: aRow 9 1 vi nb (strs S.image) :: dev X (wroteM S more (min 60 more.length)) :: aVar P [.int .i64 (nb : Int), .int .i64 (ns : Int)] 33 :: As))
    case first =>
      go_wp2_with fail
      go_loopw [16, 17] (fun l i W => ∃ k : Nat, k ≤ min 60 more.length ∧ i = .int .i64 ↑k ∧ St w W (aPuts l ((more.take k).map (putM nb ns)) :: aRow 9 1 vi nb (strs S.image) :: dev X (wroteM S more k) :: aVar P [.int .i64 (nb : Int), .int .i64 (ns : Int)] 33 :: As)) (fun _ i _ => 60 - (intOf i).toNat)
      case atStart => exact ⟨0, Nat.zero_le _, rfl, HS5.out⟩
      case round =>
        obtain ⟨k, hk, rfl, hst⟩ := hrel
        by_cases hlt : k < min 60 more.length
        · have q0 : k < more.length := by omega
          have q1 : k < 60 := by omega
          have q2 : (k : Int) < more.length := by omega
          have q3 : (k : Int) < 60 := by omega
          obtain ⟨a1, c1, ee, hc⟩ := H2.out
          cases ee
          obtain ⟨b0, o, rfl, hn0, hd0⟩ := hc k q0
          have hn := hst.ch.cell hn0
          have hd := hst.ch.cell hd0
          have HN0 := Lib.hid hn0
          have HD1 := Lib.hid hd0
          have HMORE : Hid ((more.take (k + 1)).map (putM nb ns) = (more.take k).map (putM nb ns) ++ [putM nb ns more[k]]) := Lib.hid (by rw [List.take_succ_eq_append_getElem q0, List.map_append]; rfl)
          have HLEN : Hid (((more.take k).map (putM nb ns)).length = k) := Lib.hid (by rw [List.length_map, List.length_take]; omega)
          have HW := Lib.hid fun R => put_write (w := w) (X := X) ok (R := R) q0 HSD.out.1 HSD.out.2.1 (by have := HG.out.1; omega) (by have := HG.out.2.1; omega) (by have := HG.out.2.2.2; omega) HSD.out.2.2.1 HSD.out.2.2.2.1 (wroteM_room _ _ _ _ (room_less HSD.out.2.2.2.2 (by omega)))
          have HPK := Lib.hid (HC2.out.num _ (List.getElem_mem q0))
          have g0 : _ = some (Value.int .i64 (nb : Int)) := st_cell hst.fourth 0
          have HS0 := Lib.hid hst
          have HPI := Lib.hid (blockOf_in nb (more[k]).1 (by have := HG.out.1; omega))
          clear hn0 hd0
          generalize more[k] = p at hn hd HW HPK HN0 HD1 HMORE HPI
          obtain ⟨n, d⟩ := p
          obtain ⟨r1, r2, r3⟩ := mod_wraps n nb HPK.out.1 (by have := HG.out.1; omega) (by have := HG.out.2.1; omega)
          have HFL : Hid (∀ W, Calls Try.prog 31 #[.string d, .int .i64 (512 * ns : Nat)] W fun e w' => e = .returned (.string (fillM d (512 * ns))) ∧ W = w') := Lib.hid fun W => rfill_any d (512 * ns) (by have := HG.out.2.2.1; omega) (by have := HG.out.2.2.2; omega) HPK.out.2 W
          have HSZ : Hid (∀ W, St w W (dev X (wroteM S more k) :: aPuts u16 ((more.take k).map (putM nb ns)) :: aRow 9 1 vi nb (strs S.image) :: aVar P [.int .i64 (nb : Int), .int .i64 (ns : Int)] 33 :: As) → Calls Try.prog 16 #[pt X] W fun e w' => e = .returned (.int .i64 (512 * ns : Nat)) ∧ ∃ q, w' = W.drewN q) := Lib.hid fun W h => by
            have := ok.size h
            rw [show (wroteM S more k).ns = ns from HSD.out.2.2.2.1] at this
            exact this
          clear hst hc
          go_upto_region 17 with fail
          go_cut [18] (fun a wx => ∃ B, a = pt B ∧ St w wx (aVar B [.int .i64 ((n.tmod nb + nb).tmod nb), .string (fillM d (512 * ns))] 70 :: aPuts u16 ((more.take k).map (putM nb ns)) :: aRow 9 1 vi nb (strs S.image) :: dev X (wroteM S more k) :: aVar P [.int .i64 (nb : Int), .int .i64 (ns : Int)] 33 :: As))
          case first =>
            have hz := st_new HS0.out [.int .i64 0, .string ⟨#[]⟩] 70
            have z0 : _ = some (Value.int .i64 0) := st_cell hz 0
            have z1 : _ = some (Value.string ⟨#[]⟩) := st_cell hz 1
            have y0 := st_free hz 0
            have y1 := st_free hz 1
            have zq0 : ∀ q, ((wr.drewN q).alloc (.cells #[.int .i64 0, .string ⟨#[]⟩] 70)).cell? ⟨wr.heap.size, 0, none⟩ = some (Value.int .i64 0) := fun q => st_cell (st_new (HS0.out.drewN q) [.int .i64 0, .string ⟨#[]⟩] 70) 0
            have zq1 : ∀ q, ((wr.drewN q).alloc (.cells #[.int .i64 0, .string ⟨#[]⟩] 70)).cell? ⟨wr.heap.size, 1, none⟩ = some (Value.string ⟨#[]⟩) := fun q => st_cell (st_new (HS0.out.drewN q) [.int .i64 0, .string ⟨#[]⟩] 70) 1
            have yq : ∀ q i, ((wr.drewN q).alloc (.cells #[.int .i64 0, .string ⟨#[]⟩] 70)).frozen? ⟨wr.heap.size, i, none⟩ = false := fun q i => st_free (st_new (HS0.out.drewN q) [.int .i64 0, .string ⟨#[]⟩] 70) i
            have hz' := st_new HS0.out.drew [.int .i64 0, .string ⟨#[]⟩] 70
            have zd0 : _ = some (Value.int .i64 0) := st_cell hz' 0
            have zd1 : _ = some (Value.string ⟨#[]⟩) := st_cell hz' 1
            have yd0 := st_free hz' 0
            have yd1 := st_free hz' 1
            clear hz hz'
            have ne0 := World.new_ne wr _ hn
            have ne1 := World.new_ne wr _ hd
            have ne2 := World.new_ne wr _ g0
            go_region_held3 (fun w' => w'.cell? ⟨b0, o + k * 2, none⟩ = some (.int .i64 n) ∧ w'.cell? ⟨b0, o + k * 2 + 1, none⟩ = some (.string d) ∧ w'.cell? ⟨P, 0, none⟩ = some (.int .i64 (nb : Int))) (go_keep) (first
              | ((go_at_call 16; refine (HSZ.out _ (by first | exact HS0.out.third | exact (HS0.out.third).drew | exact (HS0.out.third).drewN _ | exact (HS0.out.third).alloc _ | exact ((HS0.out.third).drew).alloc _ | exact ((HS0.out.third).drewN _).alloc _ | exact ((HS0.out.third).alloc _).drew | exact ((HS0.out.third).alloc _).drewN _ | exact (((HS0.out.third).drew).alloc _).drew | exact (((HS0.out.third).drew).alloc _).drewN _ | exact (((HS0.out.third).drewN _).alloc _).drew | exact (((HS0.out.third).drewN _).alloc _).drewN _)).mono ?_; rintro e w2 ⟨rfl, q, rfl⟩))
              | ((go_at_call 31; refine (HFL.out _).mono ?_; rintro e w2 ⟨rfl, rfl⟩)))
            all_goals
              go_wp2_with fail
              go_meet
              refine ⟨_, rfl, ?_⟩
              first
                | exact st_set (st_set (st_new (HS0.out.drewN _) _ _) 0 _) 1 _
                | exact st_set (st_set ((st_new HS0.out _ _).drewN _) 0 _) 1 _
                | exact st_set (st_set ((st_new HS0.out.drew _ _).drewN _) 0 _) 1 _
                | exact st_set (st_set (st_new HS0.out.drew _ _) 0 _) 1 _
                | exact st_set (st_set ((st_new HS0.out.drew _ _).drew) 0 _) 1 _
                | exact st_set (st_set ((st_new (HS0.out.drewN _) _ _).drew) 0 _) 1 _
                | exact st_set (st_set ((st_new (HS0.out.drewN _) _ _).drewN _) 0 _) 1 _
          case rest =>
            obtain ⟨B, rfl, hst⟩ := hcut
            have c0 : _ = some (Value.int .i64 ((n.tmod nb + nb).tmod nb)) := st_cell hst 0
            have c1 : _ = some (Value.string (fillM d (512 * ns))) := st_cell hst 1
            have HS6 := Lib.hid hst.fourth
            clear hst HS0 hn hd g0 r1 r2 r3
            go_wp2_with (first
              | ((go_at_call 20; refine (HW.out _ _ HS6.out).mono ?_; rintro e w7 ⟨rfl, hst7⟩; have d0 : _ = some (Value.int .i64 ((n.tmod nb + nb).tmod nb)) := st_cell hst7.swap 0; have d1 : _ = some (Value.string (fillM d (512 * ns))) := st_cell hst7.swap 1; have HS7 := Lib.hid (hst7.third.alloc (.cells #[.int .i64 ((n.tmod nb + nb).tmod nb), .string (fillM d (512 * ns))] 70)); clear hst7 c0 c1))
              | (refine lst_append rowPut HS7.out rfl _ _ rfl rfl ⟨w7.heap.size, 0, none⟩ 1 1 [.int .i64 ((n.tmod nb + nb).tmod nb), .string (fillM d (512 * ns))] rfl rfl (lit2 w7 _ _ _) (one2 _ _) (by decide) (by rw [HLEN.out]; unfold maxLen; omega) (by rw [HLEN.out]; omega) ?_; intro g4 cap4 w8 hst8 _; have HS8 := Lib.hid hst8; clear hst8))
            refine ⟨⟨k + 1, by omega, by go_num, ?_⟩, by simp [intOf] <;> omega⟩
            have hp := puts_push HS8.out HPI.out.1
            rw [show min k more.length = ((more.take k).map (putM nb ns)).length from by rw [List.length_map, List.length_take], HMORE.out]
            exact (hp.third.drop).third.swap
        · obtain rfl : k = min 60 more.length := by omega
          have HSM : Hid (St w wr (aPuts u16 ((more.take 60).map (putM nb ns)) :: aRow 9 1 vi nb (strs S.image) :: dev X (wroteM S more (min 60 more.length)) :: aVar P [.int .i64 (nb : Int), .int .i64 (ns : Int)] 33 :: As)) := Lib.hid (by
            rw [show more.take 60 = more.take (min 60 more.length) from by rw [List.take_eq_take_iff]; omega]
            exact hst)
          clear hst hk
          by_cases q : more.length ≤ 60
          · rw [Nat.min_eq_right q] at hlt ⊢
            have q2 : ¬ more.length < more.length := Nat.lt_irrefl _
            go_wp2_with fail
            go_meet
            exact HSM.out
          · rw [Nat.min_eq_left (by omega)] at hlt ⊢
            have q2 : (60 : Int) < more.length := by omega
            go_wp2_with fail
            go_meet
            exact HSM.out
    case rest =>
      have HSF := Lib.hid hcut
      clear hcut
      go_wp2_with fail
      ((try simp only [Exit.inBlock, Exit.then]); refine bodyPost_ret (results_tmp3 rfl _ _ _) rfl ?_)
      refine ⟨X, vi, _, rfl, ?_⟩
      rw [HDD.out]
      exact (HSF.out.fourth.drop).third.third
end
end Go.Proofs.Ytlhhkoaacjakcaa.dev
