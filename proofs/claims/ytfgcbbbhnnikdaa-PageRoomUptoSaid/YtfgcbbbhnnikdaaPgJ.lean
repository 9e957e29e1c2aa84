/-
  Layer 7: numbers in bytes, pieces of a text, of the program and of the document.
-/
import Derived.Test.YtfgcbbbhnnikdaaPgI
import Derived.Laws.IdiomStrings
import Derived.Laws.IdiomCopy
import Derived.Lib.LazyBuf
import Derived.Laws.MakeOwn
import Derived.Laws.BitsAllLaws
import Derived.Deep.RegionHeld3
namespace Go.Proofs.Ytfgcbbbhnnikdaa.pg
open Go.ChangeShapes Go.WideShapes Go.ChangeAt Go.RowKit mem
set_option linter.unusedVariables false

/-- a slice is made -/
theorem make_run {T E : TypeId} {z : Value} {size bytes : Nat} (R : RowOf T E z size bytes) (n : Nat) (hb : n * bytes ≤ 140737488355328) (h63 : n ≤ 9223372036854775807) (kl kc : IntKind) (W : World) :
    (Instr.makeSlice T (.int kl (n : Int)) (.int kc (n : Int))).run Try.prog W = .ok (.slice (some ⟨W.heap.size, 0, none⟩) n n) (W.alloc (.cells (madeCells z.cells (n * size)) E)) := by
  obtain ⟨i, hi, hz, h1, h2⟩ := info_parts R.inf
  have hb' : ((bytes * n : Nat) : Int) ≤ 281474976710656 := by rw [Nat.mul_comm]; omega
  rw [Int.natCast_mul] at hb'
  have := run_make (P := Try.prog) W T E i z R.ht hi hz kl kc n n (by omega) (by omega) (by rw [h2]; exact hb') (by omega)
  rw [Int.toNat_natCast, h1] at this
  exact this
theorem st_made {w wr : World} {As : List Ast} (h : St w wr As) (E : TypeId) (z : Value) (size n : Nat) (hz : z.cells.size = size) (h63 : n ≤ 9223372036854775807) :
    St w (wr.alloc (.cells (madeCells z.cells (n * size)) E)) (aRow E size (.slice (some ⟨wr.heap.size, 0, none⟩) n n) n (madeCells z.cells (n * size)).toList :: As) :=
  h.push ((Ch.refl _ wr).alloc _) (A := aRow E size (.slice (some ⟨wr.heap.size, 0, none⟩) n n) n (madeCells z.cells (n * size)).toList) (F := fun g => g.1 = wr.heap.size)
    ⟨World.ownsRow_lit wr _ n (Nat.zero_le _) (by unfold maxLen; omega) (size_madeCells _ _), fun g => by simp only [Value.ownBlock, Option.some.injEq]; exact eq_comm⟩ fun g hg => by omega
theorem made_one (z : Value) (n : Nat) (h : z.cells = #[z]) : (madeCells z.cells (n * 1)).toList = List.replicate n z := by
  rw [h, Nat.mul_one]; exact toList_madeCells_one z n
theorem rowByte : RowOf 90 5 (.int .u8 0) 1 1 := ⟨Try.underlying90, by kernel_rfl, rfl, by decide⟩
def cellsOf (l : List UInt8) : List Value := l.map fun x => .int .u8 ((x.toNat : Nat) : Int)
theorem cellsOf_len (l : List UInt8) : (cellsOf l).length = l.length := by simp [cellsOf]
theorem cellsOf_set (l : List UInt8) (k : Nat) (b : UInt8) : (cellsOf l).set k (.int .u8 ((b.toNat : Nat) : Int)) = cellsOf (l.set k b) := by simp [cellsOf, List.map_set]
def mid (n v k : Nat) : List UInt8 := (beL n v).take k ++ List.replicate (n - k) 0
theorem mid_zero (n v : Nat) : mid n v 0 = List.replicate n 0 := by simp [mid]
theorem mid_all (n v : Nat) : mid n v n = beL n v := by
  unfold mid
  rw [List.take_of_length_le (by rw [beL_len]; omega), Nat.sub_self]; simp
theorem mid_len (n v k : Nat) (h : k ≤ n) : (mid n v k).length = n := by
  unfold mid; rw [List.length_append, List.length_take, beL_len, List.length_replicate]; omega
theorem mid_more (n v k : Nat) (h : k < n) (hl : k < (beL n v).length) : (mid n v k).set k (beL n v)[k] = mid n v (k + 1) := by
  unfold mid
  rw [List.set_append_right _ _ (by rw [List.length_take, beL_len]; omega), List.length_take, beL_len, show k - min k n = 0 from by omega, List.take_succ_eq_append_getElem hl, List.append_assoc]
  congr 1
  rw [show n - k = (n - (k + 1)) + 1 from by omega, List.replicate_succ]
  rfl
theorem beL_at : ∀ (n v k : Nat) (h : k < (beL n v).length), (beL n v)[k] = UInt8.ofNat (v / 256 ^ (n - 1 - k))
  | 0, v, k, h => by simp [beL] at h
  | n + 1, v, 0, h => rfl
  | n + 1, v, k + 1, h => by
    have h' : k < (beL n v).length := by simpa [beL] using h
    show (beL n v)[k] = _
    rw [beL_at n v k h', show n + 1 - 1 - (k + 1) = n - 1 - k from by omega]

set_option maxRecDepth 8000 in
theorem number_any (n v : Nat) (hn : n ≤ 4) (hv : v < 4294967296) (W : World) :
    Calls Try.prog 78 #[.int .u32 (v : Int), .int .i64 (n : Int)] W fun e w' => e = .returned (.string (be n v)) ∧ Ch0 W w' := by
  have hmk := make_run rowByte n (by omega) (by omega) .i64 .i64 W
  have h0 := st_made (St.nil (w := W) (Ch.refl _ W)) 5 (.int .u8 0) 1 n rfl (by omega)
  rw [made_one _ _ rfl] at h0
  have e0 : List.replicate n (Value.int .u8 0) = cellsOf (mid n v 0) := by rw [mid_zero]; simp [cellsOf]
  rw [e0, Nat.mul_one] at h0
  have H0 := Lib.hid h0
  have n0 : (0 : Int) ≤ n := by omega
  have n8 : (n : Int) ≤ 4 := by omega
  have v0 : (0 : Int) ≤ v := by omega
  have v1 : (v : Int) ≤ 4294967295 := by omega
  clear h0 e0 hn hv
  go_enter Try.func78, Try.ntmps78
  go_wp2_with fail
  go_loopw [6] (fun i wr => ∃ k : Nat, k ≤ n ∧ i = .int .i64 ↑k ∧ St W wr [aRow 5 1 (.slice (some ⟨W.heap.size, 0, none⟩) n n) n (cellsOf (mid n v k))]) (fun i _ => n - (intOf i).toNat)
  case atStart => exact ⟨0, Nat.zero_le _, rfl, H0.out⟩
  case round =>
    obtain ⟨k, hk, rfl, hst⟩ := hrel
    by_cases hlt : k < n
    · have hl : k < (beL n v).length := by rw [beL_len]; exact hlt
      have hcell := st_at hst rfl k (by omega)
      have hlen : (mid n v k).length = n := mid_len n v k hk
      have hc2 : (cellsOf (mid n v k))[k]? = some (.int .u8 (((mid n v k)[k]'(by omega)).toNat : Nat)) := by simp [cellsOf, List.getElem?_eq_getElem (show k < (mid n v k).length by omega)]
      rw [hc2] at hcell
      have hfr := st_unfrozen hst k
      have hput := st_put (u := .int .u8 ((((beL n v)[k]'hl).toNat : Nat) : Int)) hst (i := k) (by omega)
      rw [cellsOf_set, mid_more n v k hlt hl] at hput
      have k0 : (0 : Int) ≤ k := by omega
      have k1 : (k : Int) < n := by omega
      have e1 : IntKind.i64.wrap ((n : Int) - 1) = (n : Int) - 1 := IntWalk.i64_in _ (by omega)
      have e2 : IntKind.i64.wrap ((n : Int) - 1 - k) = ((n - 1 - k : Nat) : Int) := by rw [IntWalk.i64_in _ (by omega)]; omega
      have e3 : IntKind.i64.wrap (8 * ((n - 1 - k : Nat) : Int)) = ((8 * (n - 1 - k) : Nat) : Int) := by rw [IntWalk.i64_in _ (by omega)]; omega
      have hval : (v : Int) / 2 ^ (8 * (n - 1 - k)) % 256 = ((((beL n v)[k]'hl).toNat : Nat) : Int) := by
        rw [beL_at, UInt8.toNat_ofNat', show (256 : Nat) = 2 ^ 8 from rfl, ← Nat.pow_mul, show ((2 : Int) ^ (8 * (n - 1 - k))) = ((2 ^ (8 * (n - 1 - k)) : Nat) : Int) from (Int.natCast_pow 2 _).symm]
        omega
      generalize (((beL n v)[k]'hl).toNat : Nat) = y at hval hput
      generalize (mid n v k)[k]'(by omega) = x0 at hcell
      have HP := Lib.hid hput
      have HV := Lib.hid hval
      have q0 : (0 : Int) ≤ ((8 * (n - 1 - k) : Nat) : Int) := by omega
      have q1 : ((8 * (n - 1 - k) : Nat) : Int) ≤ 24 := by omega
      clear hst hput hc2 hval hlen
      go_wp2_with fail
      go_roundw
      case rel => exact ⟨k + 1, by omega, by go_num, by rw [HV.out]; exact HP.out⟩
      case measure => simp [intOf] <;> omega
    · obtain rfl : k = n := by omega
      rw [mid_all] at hst
      have hcv := run_convert_bytes_back (P := Try.prog) wr 90 9 5 ⟨W.heap.size, 0, none⟩ k (beL k v) Try.underlying90 Try.underlying5 Try.underlying9 (fun j hj => by
        have hj' : j < k := by rwa [beL_len] at hj
        rw [Addr.add_mid, Nat.zero_add, st_at hst rfl j (by omega)]
        simp [cellsOf, List.getElem?_eq_getElem hj])
      rw [beL_len] at hcv
      have HC := Lib.hid hst.ch
      clear hst hmk hk hlt
      go_wp2_with fail
      go_ret
      exact ⟨rfl, HC.out⟩
def takeV (k : Nat) (s : ByteArray) : Value :=
  match takeM k s with
  | some (a, b) => .tuple #[.string a, .string b, .bool true]
  | none => .tuple #[.string ⟨#[]⟩, .string ⟨#[]⟩, .bool false]
theorem take_any (s : ByteArray) (k : Nat) (hs : s.size ≤ 9223372036854775807) (hk : k ≤ 9223372036854775807) (W : World) :
    Calls Try.prog 86 #[.string s, .int .i64 (k : Int)] W fun e w' => e = .returned (takeV k s) ∧ ∃ q, w' = W.drewN q := by
  unfold takeV
  by_cases c : k ≤ s.size
  · rw [takeM_some c]
    have s1 : ∀ wx, (Instr.slice 9 (.string s) none (some (.int .i64 (k : Int))) none).run Try.prog wx = .ok (.string (s.extract 0 k)) wx := fun wx => by
      rw [run_slice_string_to_if (P := Try.prog) wx 9 s .i64 k Try.underlying9, if_pos ⟨by omega, by omega⟩, Int.toNat_natCast]
    have s2 : ∀ wx, (Instr.slice 9 (.string s) (some (.int .i64 (k : Int))) none none).run Try.prog wx = .ok (.string (s.extract k s.size)) wx := fun wx => by
      rw [run_slice_string_from_if (P := Try.prog) wx 9 s .i64 _ Try.underlying9, if_pos ⟨by omega, by omega⟩, Int.toNat_natCast]
    have c1 : ¬ (s.size : Int) < k := by omega
    generalize s.extract 0 k = a at s1 ⊢
    generalize s.extract k s.size = b at s2 ⊢
    clear c hs hk
    go_enter Try.func86, Try.ntmps86
    go_upto_region 3 with fail
    go_quiet (fail)
    go_wp2_with fail
    go_ret3
    exact ⟨rfl, ⟨_, rfl⟩⟩
  · rw [takeM_none c]
    have c1 : (s.size : Int) < k := by omega
    clear c hs hk
    go_enter Try.func86, Try.ntmps86
    go_wp2_with fail
    go_ret3
    exact ⟨rfl, ⟨0, rfl⟩⟩
theorem numL_snoc (l : List UInt8) (b : UInt8) : numL (l ++ [b]) = numL l * 256 + b.toNat := by
  unfold numL
  rw [List.foldl_append]
  rfl
theorem num_take (s : ByteArray) (k : Nat) (h : k < s.data.toList.length) : numL (s.data.toList.take (k + 1)) = numL (s.data.toList.take k) * 256 + (s.data.toList[k]'h).toNat := by
  rw [List.take_succ_eq_append_getElem h, numL_snoc]
theorem value_any (s : ByteArray) (hs : s.size ≤ 4) (W : World) :
    Calls Try.prog 85 #[.string s] W fun e w' => e = .returned (.int .i64 (num s : Nat)) ∧ w' = W := by
  have HS := Lib.hid hs
  have s4 : (s.size : Int) ≤ 4 := by omega
  have HN : Hid (numL (s.data.toList.take s.size) = num s) := Lib.hid (by rw [List.take_of_length_le (by rw [data_len]; omega)]; rfl)
  clear hs
  go_enter Try.func85, Try.ntmps85
  go_wp2_with fail
  go_loopw [3, 4] (fun a i wr => ∃ k : Nat, k ≤ s.size ∧ i = .int .i64 ↑k ∧ a = .int .i64 (numL (s.data.toList.take k) : Nat) ∧ W = wr) (fun _ i _ => s.size - (intOf i).toNat)
  case atStart => exact ⟨0, Nat.zero_le _, rfl, rfl, rfl⟩
  case round =>
    obtain ⟨k, hk, rfl, rfl, rfl⟩ := hrel
    by_cases hlt : k < s.size
    · have hl : k < s.data.toList.length := by rw [data_len]; exact hlt
      have hnt := num_take s k hl
      have hb := numL_lt (s.data.toList.take k)
      have hlen : (s.data.toList.take k).length = k := by rw [List.length_take]; omega
      rw [hlen] at hb
      have hp : 256 ^ k ≤ 256 ^ 3 := Nat.pow_le_pow_right (by decide) (by have := HS.out; omega)
      have hx : ∀ (h : k < s.data.size), (s.data[k]'h).toNat = (s.data.toList[k]'hl).toNat := fun h => by simp
      have hb2 : (s.data.toList[k]'hl).toNat < 256 := UInt8.toNat_lt _
      have e1 : IntKind.i64.wrap ((k : Int) + 1) = (k : Int) + 1 := IntWalk.i64_in _ (by omega)
      have HLT := Lib.hid hlt
      have k1 : (k : Int) < s.size := by omega
      have k0 : (0 : Int) ≤ k := by omega
      have HNT := Lib.hid hnt
      have m1 : numL (s.data.toList.take k) < 16777216 := Nat.lt_of_lt_of_le hb (Nat.le_trans hp (by decide))
      generalize numL (s.data.toList.take k) = m at m1 HNT ⊢
      have e2 : IntKind.i64.wrap (256 * (m : Int)) = 256 * (m : Int) := IntWalk.i64_in _ (by omega)
      have HV : Hid (∀ h : k < s.size, wrap64 (256 * (m : Int) + wrap64 ((s[k]'h).toNat : Int)) = ((numL (s.data.toList.take (k + 1)) : Nat) : Int)) := Lib.hid fun h => by
        have hg : (s[k]'h).toNat = (s.data.toList[k]'hl).toNat := by rw [Array.getElem_toList]; rfl
        have hb3 := UInt8.toNat_lt (s[k]'h)
        rw [IntWalk.wrap64_in ((s[k]'h).toNat : Int) (by omega), IntWalk.wrap64_in _ (by omega), HNT.out, hg]
        omega
      clear hk hlt hnt hb hp hlen
      go_wp2_with fail
      go_roundw
      case rel => exact ⟨k + 1, by have := HLT.out; omega, by go_num, congrArg (Value.int .i64) (HV.out HLT.out), by first | trivial | rfl⟩
      case measure => simp [intOf] <;> omega
    · obtain rfl : k = s.size := by omega
      rw [HN.out]
      clear hk hlt
      go_wp2_with fail
      go_ret
      exact ⟨rfl, rfl⟩
end Go.Proofs.Ytfgcbbbhnnikdaa.pg
