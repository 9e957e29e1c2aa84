/-
  Layer 4, the document's device: Corrupt.
-/
import Derived.Test.YtkebilddoanhgaaDevK
namespace Go.Proofs.Ytkebilddoanhgaa.dev
open Go.ChangeShapes Go.WideShapes Go.ChangeAt Go.RowKit mem
set_option linter.unusedVariables false

section
variable {w wr : World} {As : List Ast} {X : Nat} {D : DevM} {r : RRep}

def corruptOk (D : DevM) (n at' : Int) (d : ByteArray) : Prop := isBlock D n ∧ 0 ≤ at' ∧ at' ≤ 512 * D.ns ∧ (d.size : Int) ≤ 512 * D.ns - at'
theorem corrupt_arg {n at' : Int} {d : ByteArray} (h : ¬ corruptOk D n at' d) : D.corrupt n at' d = (D, 1) := by unfold DevM.corrupt; exact if_neg h
theorem corrupt_ok {n k : Nat} {d : ByteArray} (h : corruptOk D n k d) : D.corrupt n k d = ({ D with safe := D.safe.set n (over (D.safe.getD n empty) k d), cache := D.cache.map (mend n fun s => over s k d) }, 0) := by
  have h' : isBlock D n ∧ (0 : Int) ≤ k ∧ (k : Int) ≤ 512 * D.ns ∧ (d.size : Int) ≤ 512 * D.ns - k := h
  unfold DevM.corrupt
  rw [if_pos h', Int.toNat_natCast, Int.toNat_natCast]
  rfl
theorem corrupt_known (a : RKnown D r) {n k : Nat} {d : ByteArray} (hn : n < D.nb) (h : k + d.size ≤ 512 * D.ns) (j : Nat) : RKnown (withCache (withSafe D (D.safe.set n (over (D.safe.getD n empty) k d))) (mendK n (fun s => over s k d) D.cache j)) r := by
  obtain ⟨⟨b1, b2, b3, b4, b5, b6, b7, b8⟩, a2⟩ := a
  refine ⟨⟨b1, b2, b3, b4, by show (D.safe.set _ _).length = _; rw [List.length_set]; exact b5, fun s hs => ?_, fun x hx => ?_, b8⟩, a2⟩
  · rcases List.mem_or_eq_of_mem_set hs with e | rfl
    · exact b6 s e
    · have hz := b6 _ (getD_mem (n := n) (by rw [b5]; exact hn))
      rw [over_size _ _ _ (by rw [hz]; exact h)]
      exact hz
  · rcases List.mem_append.1 hx with e | e
    · obtain ⟨y, hy, rfl⟩ := List.mem_map.1 e
      have h7 := b7 y (List.mem_of_mem_take hy)
      unfold mend
      split
      · exact ⟨h7.1, by show (over y.2 k d).size = _; rw [over_size _ _ _ (by rw [h7.2]; exact h)]; exact h7.2⟩
      · exact h7
    · exact b7 x (List.mem_of_mem_drop e)

set_option maxRecDepth 8000 in
set_option maxHeartbeats 4000000 in
theorem rcorrupt_any (h : St w wr (rDev X D :: As)) (n at' : Int) (d : ByteArray) (hn : n ≤ 9223372036854775807 ∧ -9223372036854775808 ≤ n) (ha : at' ≤ 9223372036854775807 ∧ -9223372036854775808 ≤ at') (hd : d.size ≤ 9223372036854775807) (hR : D.Room 0) :
    Calls Try.prog 34 #[.pointer (some ⟨X, 0, none⟩), .int .i64 n, .int .i64 at', .string d] wr fun e w' => e = .returned (.int .i64 (D.corrupt n at' d).2) ∧ St w w' (rDev X (D.corrupt n at' d).1 :: As) := by
  obtain ⟨r, a, h1⟩ := rdev_open h
  have hS := rsees a h1
  have c0 := hS.c0
  have c1 := hS.c1
  obtain ⟨R, hRes⟩ : ∃ R, R = D.corrupt n at' d := ⟨_, rfl⟩
  rw [← hRes]
  have HRES := Lib.hid hRes
  clear hRes
  have H := Lib.hid h
  have HZS := Lib.hid (rsize_any X D.ns wr c1 a.1.ns1)
  have nsi : (D.ns : Int) ≤ 8 := by have := a.1.ns1; omega
  have nbi : (D.nb : Int) ≤ 4096 := by have := a.1.nb1; omega
  have di : (d.size : Int) ≤ 9223372036854775807 := by omega
  obtain ⟨hn1, hn2⟩ := hn
  obtain ⟨ha1, ha2⟩ := ha
  by_cases b0 : n < 0
  · have HX := Lib.hid (show ¬ corruptOk D n at' d from fun h => by have := h.1.1; omega)
    clear hS h h1 a hR hd
    go_enter Try.func34, Try.ntmps34
    go_wp2_with (go_at_call 13; refine HZS.out.mono ?_; rintro e w' ⟨rfl, rfl⟩)
    go_ret
    rw [HRES.out, corrupt_arg HX.out]
    exact ⟨rfl, H.out⟩
  · by_cases b1 : (D.nb : Int) ≤ n
    · have b2 : 0 ≤ n := by omega
      have HX := Lib.hid (show ¬ corruptOk D n at' d from fun h => by have := h.1.2; omega)
      clear hS h h1 a hR b0 hd
      go_enter Try.func34, Try.ntmps34
      go_wp2_with (go_at_call 13; refine HZS.out.mono ?_; rintro e w' ⟨rfl, rfl⟩)
      go_ret
      rw [HRES.out, corrupt_arg HX.out]
      exact ⟨rfl, H.out⟩
    · obtain ⟨m, rfl⟩ := Int.eq_ofNat_of_zero_le (show 0 ≤ n from by omega)
      have m1 : (m : Int) < D.nb := by omega
      have m0 : (0 : Int) ≤ m := by omega
      by_cases b2 : at' < 0
      · have HX := Lib.hid (show ¬ corruptOk D m at' d from fun h => by have := h.2.1; omega)
        clear hS h h1 a hR b0 b1 hd
        go_enter Try.func34, Try.ntmps34
        go_wp2_with (go_at_call 13; refine HZS.out.mono ?_; rintro e w' ⟨rfl, rfl⟩)
        go_ret
        rw [HRES.out, corrupt_arg HX.out]
        exact ⟨rfl, H.out⟩
      · obtain ⟨k, rfl⟩ := Int.eq_ofNat_of_zero_le (show 0 ≤ at' from by omega)
        have k0 : (0 : Int) ≤ k := by omega
        have z1 : (0 : Int) ≤ 512 * (D.ns : Int) := by omega
        by_cases b3 : 512 * (D.ns : Int) < k
        · have HX := Lib.hid (show ¬ corruptOk D m k d from fun h => by have := h.2.2.1; omega)
          clear hS h h1 a hR b0 b1 b2 hd
          go_enter Try.func34, Try.ntmps34
          go_wp2_with (go_at_call 13; refine HZS.out.mono ?_; rintro e w' ⟨rfl, rfl⟩)
          go_ret
          rw [HRES.out, corrupt_arg HX.out]
          exact ⟨rfl, H.out⟩
        · have b3' : (k : Int) ≤ 512 * (D.ns : Int) := by omega
          by_cases b4 : 512 * (D.ns : Int) - k < d.size
          · have HX := Lib.hid (show ¬ corruptOk D m k d from fun h => by have := h.2.2.2; omega)
            clear hS h h1 a hR b0 b1 b2 b3 hd
            go_enter Try.func34, Try.ntmps34
            go_wp2_with (go_at_call 13; refine HZS.out.mono ?_; rintro e w' ⟨rfl, rfl⟩)
            go_ret
            rw [HRES.out, corrupt_arg HX.out]
            exact ⟨rfl, H.out⟩
          · have b4' : (d.size : Int) ≤ 512 * (D.ns : Int) - k := by omega
            have HX := Lib.hid (show corruptOk D m k d from ⟨⟨m0, m1⟩, k0, b3', by omega⟩)
            have hm : m < D.nb := by omega
            have hkd : k + d.size ≤ 512 * D.ns := by omega
            obtain ⟨gs, caps, hsv, hss⟩ := hS.hs
            have c2 := hS.c2
            rw [hsv] at c2
            have d3 := hss m hm
            have hfz := rparts_free (D := D) (s := D.safe) h1 hsv m
            have HKN := Lib.hid fun j => corrupt_known a hm hkd j
            have HOV := Lib.hid fun (s : ByteArray) (hs : s.size = 512 * D.ns) (W : World) => rover_any s k d (by omega) (by have := a.1.ns1; omega) W
            have HG := Lib.hid (a.1.getD hm)
            have HCS := Lib.hid a.1.csz
            have HN := Lib.hid fun q => rparts_safe (D := D) (s := D.safe) (h1.drewN q) hsv hm (over (D.safe.getD m empty) k d)
            have hl' : (D.cache.length : Int) ≤ 1073741824 := by have := hR.cache; omega
            have HOS := Lib.hid fun W => HOV.out _ HG.out W
            obtain ⟨sm, hsm⟩ : ∃ sm, sm = over (D.safe.getD m empty) k d := ⟨_, rfl⟩
            rw [← hsm] at HN HOS HKN
            have HSM := Lib.hid hsm.symm
            clear hsm
            have HS0 := Lib.hid (show D.safe.getD m empty = D.safe.getD m empty from rfl)
            generalize hs0 : D.safe.getD m empty = s0 at d3 HG HOS
            clear hs0 HS0
            clear hS h h1 a hR b0 b1 b2 b3 b4 hss hd hsv hm hkd
            go_enter Try.func34, Try.ntmps34
            go_wp2_with (go_at_call 13; refine HZS.out.mono ?_; rintro e w' ⟨rfl, rfl⟩)
            go_region_with (go_at_call 60; refine (HOS.out _).mono ?_; rintro e w' ⟨rfl, q, rfl⟩)
            all_goals
              go_wp2_with fail
              go_loopw [9] (fun i W => ∃ j : Nat, j ≤ D.cache.length ∧ i = .int .i64 ↑j ∧ St w W (rParts X (withCache (withSafe D (D.safe.set m sm)) (mendK m (fun s => over s k d) D.cache j)) r ++ As)) (fun i _ => D.cache.length - (intOf i).toNat)
              case atStart => exact ⟨0, Nat.zero_le _, rfl, by rw [mendK_zero]; exact HN.out _⟩
              case round =>
                obtain ⟨j, hj, rfl, h1⟩ := hrel
                have hS := rsees (HKN.out j) h1
                have e3 := hS.c3
                obtain ⟨aoc, capc, hcv, hcc⟩ := hS.hc
                have hcv' : r.cv = .slice aoc (mendK m (fun s => over s k d) D.cache j).length capc := hcv
                rw [hcv', mendK_len] at e3
                have e3' : wr.cell? ⟨X, 3, none⟩ = some (.slice aoc D.cache.length capc) := e3
                by_cases hlt : j < D.cache.length
                · have hlt2 : j < (mendK m (fun s => over s k d) D.cache j).length := by rw [mendK_len]; exact hlt
                  obtain ⟨gc, rfl, x1, x2⟩ := hcc j hlt2
                  have x1' : wr.cell? ⟨gc, j * 2, none⟩ = some (.int .i64 ((D.cache[j]).1 : Int)) := by rw [← mendK_at m (fun s => over s k d) D.cache j hlt]; exact x1
                  have x2' : wr.cell? ⟨gc, j * 2 + 1, none⟩ = some (.string (D.cache[j]).2) := by rw [← mendK_at m (fun s => over s k d) D.cache j hlt]; exact x2
                  have HOJ := Lib.hid fun W => HOV.out _ ((HCS.out _ (List.getElem_mem hlt)).2) W
                  by_cases e : (D.cache[j]).1 = m
                  · have h2 := fun q => rparts_wrote (h1.drewN q) hcv' hlt2 (over (D.cache[j]).2 k d)
                    have hfz2 := (rparts_wrote h1 hcv' hlt2 (over (D.cache[j]).2 k d)).2
                    have HM := Lib.hid (mendK_set m (fun s => over s k d) D.cache j hlt)
                    have HE := Lib.hid (show mend m (fun s => over s k d) D.cache[j] = ((D.cache[j]).1, over (D.cache[j]).2 k d) by unfold mend; rw [if_pos e])
                    rw [mendK_at m (fun s => over s k d) D.cache j hlt, ← HE.out, HM.out] at h2
                    have HNX := Lib.hid fun q => (h2 q).1
                    rw [e] at x1'
                    generalize over (D.cache[j]).2 k d = dn at HNX HOJ
                    generalize (D.cache[j]).2 = dt at x2' HOJ
                    clear x1 x2 e3 hcc hcv hcv' hS h1 e h2 HM HE
                    go_wp2_with fail
                    go_region_with (go_at_call 60; refine (HOJ.out _).mono ?_; rintro e w' ⟨rfl, q, rfl⟩)
                    all_goals
                      go_wp2_with fail
                      go_roundw
                      case rel => exact ⟨j + 1, by omega, by go_num, HNX.out _⟩
                      case measure => simp [intOf] <;> omega
                  · have HM := Lib.hid (mendK_skip m (fun s => over s k d) D.cache j hlt e)
                    have H1 := Lib.hid h1
                    generalize (D.cache[j]).1 = p at x1' e
                    have t : ((p : Int) == (m : Int)) = false := by rw [beq_eq_false_iff_ne]; omega
                    clear x1 x2 x2' e3 hcc hcv hcv' hS h1 e
                    go_wp2_with fail
                    go_roundw
                    case rel => exact ⟨j + 1, by omega, by go_num, by rw [HM.out]; exact H1.out⟩
                    case measure => simp [intOf] <;> omega
                · obtain rfl : j = D.cache.length := by omega
                  have HK1 := Lib.hid (HKN.out D.cache.length)
                  rw [mendK_full] at h1 HK1
                  have H1 := Lib.hid h1
                  clear hlt hj hcc hcv hcv' hS h1 e3
                  go_wp2_with fail
                  go_ret
                  rw [HRES.out, corrupt_ok HX.out, HSM.out]
                  exact ⟨rfl, rdev_shut r HK1.out H1.out⟩
end
end Go.Proofs.Ytkebilddoanhgaa.dev
