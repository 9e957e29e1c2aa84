/-
  CodesNone answers true: the walk.
-/
import Derived.Test.YtgcediipkojdbaaNoneTwo
import Derived.Outline
namespace Go.Proofs.Ytgcediipkojdbaa.bits
open Go.ChangeShapes Go.WideShapes Go.ChangeAt Go.RowKit
set_option linter.unusedVariables false

/-- the bits that CodesNone puts -/
def nb1 : List Bool := [] ++ cbits 1 0 281474976710654
def nb2 : List Bool := nb1 ++ cbits 3 16 281474976710654
def nb3 : List Bool := nb2 ++ cbits 4 281474976710655 281474976710654
def nb4 : List Bool := nb3 ++ cbits 4 1 0
def nb5 : List Bool := nb4 ++ cbits 2 0 281474976710654

theorem nb_fits : fits2 1 0 281474976710654 = true ∧ fits2 3 16 281474976710654 = true ∧ fits2 4 281474976710655 281474976710654 = true ∧ fits2 4 1 0 = true ∧ fits2 2 0 281474976710654 = true ∧ fits2 1 0 281474976710655 = false ∧ fits2 0 0 65535 = true ∧ fits2 0 0 65536 = false := by decide

theorem nb_len : nb1.length ≤ 65536 ∧ nb2.length ≤ 131072 ∧ nb3.length ≤ 196608 ∧ nb4.length ≤ 262144 ∧ nb5.length ≤ 327680 := by
  obtain ⟨f1, f2, f3, f4, f5, _⟩ := nb_fits
  have l1 := cbits_len (fits2_of f1).1 (fits2_of f1).2
  have l2 := cbits_len (fits2_of f2).1 (fits2_of f2).2
  have l3 := cbits_len (fits2_of f3).1 (fits2_of f3).2
  have l4 := cbits_len (fits2_of f4).1 (fits2_of f4).2
  have l5 := cbits_len (fits2_of f5).1 (fits2_of f5).2
  unfold nb5 nb4 nb3 nb2 nb1
  simp only [List.length_append, List.length_nil]
  omega

theorem nbe1 : nb5 = [] ++ (cbits 1 0 281474976710654 ++ (cbits 3 16 281474976710654 ++ (cbits 4 281474976710655 281474976710654 ++ (cbits 4 1 0 ++ cbits 2 0 281474976710654)))) := by
  show [] ++ cbits 1 0 281474976710654 ++ cbits 3 16 281474976710654 ++ cbits 4 281474976710655 281474976710654 ++ cbits 4 1 0 ++ cbits 2 0 281474976710654 = _
  simp only [List.append_assoc]
theorem nbe2 : nb5 = nb1 ++ (cbits 3 16 281474976710654 ++ (cbits 4 281474976710655 281474976710654 ++ (cbits 4 1 0 ++ cbits 2 0 281474976710654))) := by
  show nb1 ++ cbits 3 16 281474976710654 ++ cbits 4 281474976710655 281474976710654 ++ cbits 4 1 0 ++ cbits 2 0 281474976710654 = _
  simp only [List.append_assoc]
theorem nbe3 : nb5 = nb2 ++ (cbits 4 281474976710655 281474976710654 ++ (cbits 4 1 0 ++ cbits 2 0 281474976710654)) := by
  show nb2 ++ cbits 4 281474976710655 281474976710654 ++ cbits 4 1 0 ++ cbits 2 0 281474976710654 = _
  simp only [List.append_assoc]
theorem nbe4 : nb5 = nb3 ++ (cbits 4 1 0 ++ cbits 2 0 281474976710654) := by
  show nb3 ++ cbits 4 1 0 ++ cbits 2 0 281474976710654 = _
  rw [List.append_assoc]
theorem nbe5 : nb5 = nb4 ++ (cbits 2 0 281474976710654 ++ []) := by
  show nb4 ++ cbits 2 0 281474976710654 = _
  rw [List.append_nil]

theorem none_len : (cbits 0 0 65535).length = 65536 := by
  show (unary 65535).length = 65536
  rw [length_unary]

set_option maxHeartbeats 4000000 in
set_option maxRecDepth 100000 in
theorem none2_walk (w : World) : Calls Try.prog 7 #[] w fun e w' => e = .returned (.bool true) ∧ Ch (fun _ => False) w w' := by
  obtain ⟨f1, f2, f3, f4, f5, f6, f7, f8⟩ := nb_fits
  obtain ⟨l1, l2, l3, l4, l5⟩ := nb_len
  have F1 := Lib.hid f1; have F2 := Lib.hid f2; have F3 := Lib.hid f3; have F4 := Lib.hid f4; have F5 := Lib.hid f5; have F6 := Lib.hid f6; have F7 := Lib.hid f7; have F8 := Lib.hid f8
  have L5 := Lib.hid l5
  have HM := Lib.hid (show ([] : List Bool).length + (cbits 1 0 281474976710654).length ≤ 134217728 ∧ nb1.length + (cbits 3 16 281474976710654).length ≤ 134217728 ∧ nb2.length + (cbits 4 281474976710655 281474976710654).length ≤ 134217728 ∧ nb3.length + (cbits 4 1 0).length ≤ 134217728 ∧ nb4.length + (cbits 2 0 281474976710654).length ≤ 134217728 from by
    have l1 := cbits_len (fits2_of f1).1 (fits2_of f1).2
    have l2 := cbits_len (fits2_of f2).1 (fits2_of f2).2
    have l3 := cbits_len (fits2_of f3).1 (fits2_of f3).2
    have l4 := cbits_len (fits2_of f4).1 (fits2_of f4).2
    have l5 := cbits_len (fits2_of f5).1 (fits2_of f5).2
    refine ⟨by simp only [List.length_nil]; omega, by omega, by omega, by omega, by omega⟩)
  clear f1 f2 f3 f4 f5 f6 f7 f8 l1 l2 l3 l4 l5
  have HB := Lib.hid (code_block w 1 0)
  have HC := Lib.hid ((Ch.refl (fun _ => False) w).alloc (.cells #[.int .u8 1, .int .u64 0] 35))
  have hcA := two_cell0 (code_block w 1 0)
  have hcB := two_cell1 (code_block w 1 0)
  go_enter Try.func7, Try.ntmps7
  go_wp2_with fail
  generalize w.alloc (.cells #[.int .u8 1, .int .u64 0] 35) = w1 at HB HC hcA hcB ⊢
  refine (cput_nil 1 0 1 w1).mono ?_
  rintro e w2 ⟨rfl, h2⟩
  have HB2 := Lib.hid ((h2.block w.heap.size (lt_of_block HB.out) (fun h => h)).trans HB.out)
  have HC2 := Lib.hid (HC.out.trans h2 fun _ h => h.elim)
  have hcA := two_cell0 HB2.out
  have hcB := two_cell1 HB2.out
  clear h2 HB HC
  go_wp2_with fail
  refine (read_nil 1 0 w2).mono ?_
  rintro e w3 ⟨rfl, h2⟩
  have HB3 := Lib.hid ((h2.block w.heap.size (lt_of_block HB2.out) (fun h => h)).trans HB2.out)
  have HC3 := Lib.hid (HC2.out.trans h2 fun _ h => h.elim)
  clear h2 HB2 HC2
  go_wp2_with fail
  refine (nw_new (gs := [(w.heap.size, .cells #[.int .u8 1, .int .u64 0] 35 (0, 0))]) HC3.out (fun p hp => by rw [List.mem_singleton.1 hp]; exact HB3.out)).mono ?_
  rintro e w4 ⟨B, rfl, hN⟩
  have HN0 := Lib.hid hN
  have hcA := two_cell0 (hN.held (List.mem_singleton.2 rfl))
  have hcB := two_cell1 (hN.held (List.mem_singleton.2 rfl))
  clear hN HB3 HC3
  go_wp2_with fail
  refine (nw_put HN0.out 1 0 281474976710654 (by omega) (by omega) F1.out HM.out.1).mono ?_
  rintro e w' ⟨rfl, hq⟩
  have HN1 := Lib.hid (show NW _ _ _ _ nb1 from hq)
  have hcA := two_cell0 (hq.held (List.mem_singleton.2 rfl))
  have hcB := two_cell1 (hq.held (List.mem_singleton.2 rfl))
  clear hq HN0
  go_wp2_with fail
  refine (nw_arg HN1.out 1 0 281474976710655 (by omega) (by omega) F6.out).mono ?_
  rintro e w' ⟨rfl, hq⟩
  have HN2 := Lib.hid (show NW _ _ _ _ nb1 from hq)
  have hcA := two_cell0 (hq.held (List.mem_singleton.2 rfl))
  have hcB := two_cell1 (hq.held (List.mem_singleton.2 rfl))
  clear hq HN1
  go_wp2_with fail
  refine (nw_put HN2.out 3 16 281474976710654 (by omega) (by omega) F2.out HM.out.2.1).mono ?_
  rintro e w' ⟨rfl, hq⟩
  have HN3 := Lib.hid (show NW _ _ _ _ nb2 from hq)
  have hcA := two_cell0 (hq.held (List.mem_singleton.2 rfl))
  have hcB := two_cell1 (hq.held (List.mem_singleton.2 rfl))
  clear hq HN2
  go_wp2_with fail
  refine (nw_put HN3.out 4 281474976710655 281474976710654 (by omega) (by omega) F3.out HM.out.2.2.1).mono ?_
  rintro e w' ⟨rfl, hq⟩
  have HN4 := Lib.hid (show NW _ _ _ _ nb3 from hq)
  have hcA := two_cell0 (hq.held (List.mem_singleton.2 rfl))
  have hcB := two_cell1 (hq.held (List.mem_singleton.2 rfl))
  clear hq HN3
  go_wp2_with fail
  refine (nw_put HN4.out 4 1 0 (by omega) (by omega) F4.out HM.out.2.2.2.1).mono ?_
  rintro e w' ⟨rfl, hq⟩
  have HN5 := Lib.hid (show NW _ _ _ _ nb4 from hq)
  have hcA := two_cell0 (hq.held (List.mem_singleton.2 rfl))
  have hcB := two_cell1 (hq.held (List.mem_singleton.2 rfl))
  clear hq HN4
  go_wp2_with fail
  refine (nw_put HN5.out 2 0 281474976710654 (by omega) (by omega) F5.out HM.out.2.2.2.2).mono ?_
  rintro e w' ⟨rfl, hq⟩
  have HN6 := Lib.hid (show NW _ _ _ _ nb5 from hq)
  have hcA := two_cell0 (hq.held (List.mem_singleton.2 rfl))
  have hcB := two_cell1 (hq.held (List.mem_singleton.2 rfl))
  clear hq HN5
  go_wp2_with fail
  obtain ⟨L, hL, hT⟩ := nw_text HN6.out
  have HK := Lib.hid hL
  refine hT.mono ?_
  rintro e w7 ⟨rfl, rfl⟩
  clear hL hT
  go_wp2_with fail
  refine (nw_open HN6.out.ch (fun p hp => HN6.out.held hp) ⟨L.toArray⟩ (packs_size HK.out (by have := L5.out; omega))).mono ?_
  rintro e w8 ⟨R, T, rfl, hR, _⟩
  have HR0 := Lib.hid (show NR _ _ _ _ _ _ ([] : List Bool).length from hR)
  have hcA := two_cell0 (hR.held (List.mem_singleton.2 rfl))
  have hcB := two_cell1 (hR.held (List.mem_singleton.2 rfl))
  clear hR HN6
  go_wp2_with fail
  refine (nr_read HR0.out 1 0 281474976710654 (fits2_of F1.out).1 (fits2_of F1.out).2 (packs_at (a := []) (b := cbits 1 0 281474976710654) (c := cbits 3 16 281474976710654 ++ (cbits 4 281474976710655 281474976710654 ++ (cbits 4 1 0 ++ cbits 2 0 281474976710654))) HK.out nbe1)).mono ?_
  rintro e w' ⟨rfl, hq⟩
  rw [← List.length_append] at hq
  have HR1 := Lib.hid (show NR _ _ _ _ _ _ (nb1 : List Bool).length from hq)
  have hcA := two_cell0 (hq.held (List.mem_singleton.2 rfl))
  have hcB := two_cell1 (hq.held (List.mem_singleton.2 rfl))
  clear hq HR0
  go_wp2_with fail
  refine (nr_read HR1.out 3 16 281474976710654 (fits2_of F2.out).1 (fits2_of F2.out).2 (packs_at (a := nb1) (b := cbits 3 16 281474976710654) (c := cbits 4 281474976710655 281474976710654 ++ (cbits 4 1 0 ++ cbits 2 0 281474976710654)) HK.out nbe2)).mono ?_
  rintro e w' ⟨rfl, hq⟩
  rw [← List.length_append] at hq
  have HR2 := Lib.hid (show NR _ _ _ _ _ _ (nb2 : List Bool).length from hq)
  have hcA := two_cell0 (hq.held (List.mem_singleton.2 rfl))
  have hcB := two_cell1 (hq.held (List.mem_singleton.2 rfl))
  clear hq HR1
  go_wp2_with fail
  refine (nr_read HR2.out 4 281474976710655 281474976710654 (fits2_of F3.out).1 (fits2_of F3.out).2 (packs_at (a := nb2) (b := cbits 4 281474976710655 281474976710654) (c := cbits 4 1 0 ++ cbits 2 0 281474976710654) HK.out nbe3)).mono ?_
  rintro e w' ⟨rfl, hq⟩
  rw [← List.length_append] at hq
  have HR3 := Lib.hid (show NR _ _ _ _ _ _ (nb3 : List Bool).length from hq)
  have hcA := two_cell0 (hq.held (List.mem_singleton.2 rfl))
  have hcB := two_cell1 (hq.held (List.mem_singleton.2 rfl))
  clear hq HR2
  go_wp2_with fail
  refine (nr_read HR3.out 4 1 0 (fits2_of F4.out).1 (fits2_of F4.out).2 (packs_at (a := nb3) (b := cbits 4 1 0) (c := cbits 2 0 281474976710654) HK.out nbe4)).mono ?_
  rintro e w' ⟨rfl, hq⟩
  rw [← List.length_append] at hq
  have HR4 := Lib.hid (show NR _ _ _ _ _ _ (nb4 : List Bool).length from hq)
  have hcA := two_cell0 (hq.held (List.mem_singleton.2 rfl))
  have hcB := two_cell1 (hq.held (List.mem_singleton.2 rfl))
  clear hq HR3
  go_wp2_with fail
  refine (nr_read HR4.out 2 0 281474976710654 (fits2_of F5.out).1 (fits2_of F5.out).2 (packs_at (a := nb4) (b := cbits 2 0 281474976710654) (c := []) HK.out nbe5)).mono ?_
  rintro e w' ⟨rfl, hq⟩
  rw [← List.length_append] at hq
  have HR5 := Lib.hid (show NR _ _ _ _ _ _ (nb5 : List Bool).length from hq)
  have hcA := two_cell0 (hq.held (List.mem_singleton.2 rfl))
  have hcB := two_cell1 (hq.held (List.mem_singleton.2 rfl))
  clear hq HR4
  go_wp2_with fail
  refine (check_any 5 0 _ (by omega) (by omega)).mono ?_
  rintro e w' ⟨rfl, rfl⟩
  have HR6 := Lib.hid (HR5.out.same ((Ch.refl (fun _ => False) _).alloc (.cells #[.int .u8 5, .int .u64 0] 35)))
  rw [show ck 5 0 = 1 from by decide]
  clear HR5
  go_wp2_with fail
  refine (check_any 3 0 _ (by omega) (by omega)).mono ?_
  rintro e w' ⟨rfl, rfl⟩
  have HR7 := Lib.hid (HR6.out.same ((Ch.refl (fun _ => False) _).alloc (.cells #[.int .u8 3, .int .u64 0] 35)))
  rw [show ck 3 0 = 1 from by decide]
  clear HR6
  go_wp2_with fail
  refine (check_any 3 17 _ (by omega) (by omega)).mono ?_
  rintro e w' ⟨rfl, rfl⟩
  have HR8 := Lib.hid (HR7.out.same ((Ch.refl (fun _ => False) _).alloc (.cells #[.int .u8 3, .int .u64 17] 35)))
  rw [show ck 3 17 = 1 from by decide]
  clear HR7
  go_wp2_with fail
  refine (check_any 0 1 _ (by omega) (by omega)).mono ?_
  rintro e w' ⟨rfl, rfl⟩
  have HR9 := Lib.hid (HR8.out.same ((Ch.refl (fun _ => False) _).alloc (.cells #[.int .u8 0, .int .u64 1] 35)))
  rw [show ck 0 1 = 1 from by decide]
  clear HR8
  go_wp2_with fail
  refine (len_ok 0 0 65535 _ (by omega) (by omega) F7.out).mono ?_
  rintro e w' ⟨rfl, hq⟩
  have HRa := Lib.hid (HR9.out.same hq)
  rw [none_len]
  clear hq HR9
  go_wp2_with fail
  refine (len_bad 0 0 65536 _ (by omega) (by omega) F8.out).mono ?_
  rintro e w' ⟨rfl, hq⟩
  have HRb := Lib.hid (HRa.out.same hq)
  clear hq HRa
  go_wp2_with fail
  refine (awake2_any _).mono ?_
  rintro e w9 ⟨rfl, hq⟩
  have HQ := Lib.hid (HRb.out.ch.trans hq fun _ h => h.elim)
  clear hq HRb
  go_wp2_with fail
  go_ret
  exact ⟨rfl, HQ.out⟩
end Go.Proofs.Ytgcediipkojdbaa.bits
