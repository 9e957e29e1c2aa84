/-
  Layer 5, the program: numbers in bytes, and back; filled.
-/
import Derived.Test.YtjmjmekmaamclaaDoorMA
import Derived.Test.YtjmjmekmaamclaaDoorHA
import Derived.Test.YtjmjmekmaamclaaDoorDevB
import Derived.Test.YtjmjmekmaamclaaDoorCA
import Derived.Test.YtjmjmekmaamclaaDoorShelf
import Derived.Laws.MakeOwn
import Derived.Laws.BitsAllLaws
import Derived.Test.YtjmjmekmaamclaaDoorDG
import Derived.Test.YtjmjmekmaamclaaDoorDevT
import Derived.Test.YtjmjmekmaamclaaDoorDrvI
import Derived.Test.YtjmjmekmaamclaaDoorDevQ
import Derived.Maps.Views
namespace Go.Proofs.YtjmjmekmaamclaaDoor.jrn
open Go.ChangeShapes Go.WideShapes Go.ChangeAt Go.RowKit mem dev sums
set_option linter.unusedVariables false

abbrev Ch0 := Ch (fun _ => False)

/-- a slice is made -/
theorem make_run {T E : TypeId} {z : Value} {size bytes : Nat} (R : RowOf T E z size bytes) (n : Nat) (hb : n * bytes ≤ 140737488355328) (h63 : n ≤ 9223372036854775807) (kl kc : IntKind) (W : World) :
    (Instr.makeSlice T (.int kl (n : Int)) (.int kc (n : Int))).run Tryd.prog W = .ok (.slice (some ⟨W.heap.size, 0, none⟩) n n) (W.alloc (.cells (madeCells z.cells (n * size)) E)) := by
  obtain ⟨i, hi, hz, h1, h2⟩ := info_parts R.inf
  have hb' : ((bytes * n : Nat) : Int) ≤ 281474976710656 := by rw [Nat.mul_comm]; omega
  rw [Int.natCast_mul] at hb'
  have := run_make (P := Tryd.prog) W T E i z R.ht hi hz kl kc n n (by omega) (by omega) (by rw [h2]; exact hb') (by omega)
  rw [Int.toNat_natCast, h1] at this
  exact this
theorem st_made {w wr : World} {As : List Ast} (h : St w wr As) (E : TypeId) (z : Value) (size n : Nat) (hz : z.cells.size = size) (h63 : n ≤ 9223372036854775807) :
    St w (wr.alloc (.cells (madeCells z.cells (n * size)) E)) (aRow E size (.slice (some ⟨wr.heap.size, 0, none⟩) n n) n (madeCells z.cells (n * size)).toList :: As) :=
  h.push ((Ch.refl _ wr).alloc _) (A := aRow E size (.slice (some ⟨wr.heap.size, 0, none⟩) n n) n (madeCells z.cells (n * size)).toList) (F := fun g => g.1 = wr.heap.size)
    ⟨World.ownsRow_lit wr _ n (Nat.zero_le _) (by unfold maxLen; omega) (size_madeCells _ _), fun g => by simp only [Value.ownBlock, Option.some.injEq]; exact eq_comm⟩ fun g hg => by omega
theorem made_one (z : Value) (n : Nat) (h : z.cells = #[z]) : (madeCells z.cells (n * 1)).toList = List.replicate n z := by
  rw [h, Nat.mul_one]; exact toList_madeCells_one z n

theorem rowByte : RowOf 119 5 (.int .u8 0) 1 1 := ⟨Tryd.underlying119, by kernel_rfl, rfl, by decide⟩

def mid (n v k : Nat) : List UInt8 := (beL n v).take k ++ List.replicate (n - k) 0
theorem mid_zero (n v : Nat) : mid n v 0 = List.replicate n 0 := by simp [mid]
theorem mid_all (n v : Nat) : mid n v n = beL n v := by
  unfold mid
  rw [List.take_of_length_le (by rw [beL_len]; omega), Nat.sub_self]; simp
theorem mid_len (n v k : Nat) (h : k ≤ n) : (mid n v k).length = n := by
  unfold mid; rw [List.length_append, List.length_take, beL_len, List.length_replicate]; omega
theorem mid_more (n v k : Nat) (h : k < n) (hl : k < (beL n v).length) : (mid n v k).set k (beL n v)[k] = mid n v (k + 1) := by
  unfold mid
  rw [List.set_append_right _ _ (by rw [List.length_take, beL_len]; omega), List.length_take, beL_len, show k - min k n = 0 from by omega, List.take_succ_eq_append_getElem hl, List.append_assoc]
  congr 1
  rw [show n - k = (n - (k + 1)) + 1 from by omega, List.replicate_succ]
  rfl
theorem beL_at : ∀ (n v k : Nat) (h : k < (beL n v).length), (beL n v)[k] = UInt8.ofNat (v / 256 ^ (n - 1 - k))
  | 0, v, k, h => by simp [beL] at h
  | n + 1, v, 0, h => rfl
  | n + 1, v, k + 1, h => by
    have h' : k < (beL n v).length := by simpa [beL] using h
    show (beL n v)[k] = _
    rw [beL_at n v k h', show n + 1 - 1 - (k + 1) = n - 1 - k from by omega]
theorem cellsOf_set (l : List UInt8) (k : Nat) (b : UInt8) : (cellsOf l).set k (.int .u8 ((b.toNat : Nat) : Int)) = cellsOf (l.set k b) := by simp [cellsOf, List.map_set]

set_option maxRecDepth 8000 in
theorem bytesOf_any (n v : Nat) (hn : n = 4 ∨ n = 8) (hv : v < 18446744073709551616) (W : World) :
    Calls Tryd.prog 60 #[.int .u64 (v : Int), .int .i64 (n : Int)] W fun e w' => e = .returned (.string (be n v)) ∧ Ch0 W w' := by
  have hmk := make_run rowByte n (by omega) (by omega) .i64 .i64 W
  have h0 := st_made (St.nil (w := W) (Ch.refl _ W)) 5 (.int .u8 0) 1 n rfl (by omega)
  rw [made_one _ _ rfl] at h0
  have e0 : List.replicate n (Value.int .u8 0) = cellsOf (mid n v 0) := by rw [mid_zero]; simp [cellsOf]
  rw [e0, Nat.mul_one] at h0
  have H0 := Lib.hid h0
  have n0 : (0 : Int) ≤ n := by omega
  have n8 : (n : Int) ≤ 8 := by omega
  have v0 : (0 : Int) ≤ v := by omega
  have v1 : (v : Int) ≤ 18446744073709551615 := by omega
  have HN := Lib.hid hn
  clear h0 e0 hn hv
  go_enter Tryd.func60, Tryd.ntmps60
  go_wp2_with fail
  go_loopw [11] (fun i wr => ∃ k : Nat, k ≤ n ∧ i = .int .i64 ↑k ∧ St W wr [aRow 5 1 (.slice (some ⟨W.heap.size, 0, none⟩) n n) n (cellsOf (mid n v k))]) (fun i _ => n - (intOf i).toNat)
  case atStart => exact ⟨0, Nat.zero_le _, rfl, H0.out⟩
  case round =>
    obtain ⟨k, hk, rfl, hst⟩ := hrel
    by_cases hlt : k < n
    · have hl : k < (beL n v).length := by rw [beL_len]; exact hlt
      have hcell := st_at hst rfl k (by omega)
      have hlen : (mid n v k).length = n := mid_len n v k hk
      have hc2 : (cellsOf (mid n v k))[k]? = some (.int .u8 (((mid n v k)[k]'(by omega)).toNat : Nat)) := by simp [cellsOf, List.getElem?_eq_getElem (show k < (mid n v k).length by omega)]
      rw [hc2] at hcell
      have hfr := st_unfrozen hst k
      have hput := st_put (u := .int .u8 ((((beL n v)[k]'hl).toNat : Nat) : Int)) hst (i := k) (by omega)
      rw [cellsOf_set, mid_more n v k hlt hl] at hput
      have k0 : (0 : Int) ≤ k := by omega
      have k1 : (k : Int) < n := by omega
      have e1 : IntKind.i64.wrap ((n : Int) - 1) = (n : Int) - 1 := IntWalk.i64_in _ (by omega)
      have e2 : IntKind.i64.wrap ((n : Int) - 1 - k) = ((n - 1 - k : Nat) : Int) := by rw [IntWalk.i64_in _ (by omega)]; omega
      have e3 : IntKind.i64.wrap (8 * ((n - 1 - k : Nat) : Int)) = ((8 * (n - 1 - k) : Nat) : Int) := by rw [IntWalk.i64_in _ (by omega)]; omega
      have hval : (v : Int) / 2 ^ (8 * (n - 1 - k)) % 256 = ((((beL n v)[k]'hl).toNat : Nat) : Int) := by
        rw [beL_at, UInt8.toNat_ofNat', show (256 : Nat) = 2 ^ 8 from rfl, ← Nat.pow_mul, show ((2 : Int) ^ (8 * (n - 1 - k))) = ((2 ^ (8 * (n - 1 - k)) : Nat) : Int) from (Int.natCast_pow 2 _).symm]
        omega
      generalize (((beL n v)[k]'hl).toNat : Nat) = y at hval hput
      generalize (mid n v k)[k]'(by omega) = x0 at hcell
      have HP := Lib.hid hput
      have HV := Lib.hid hval
      have q0 : (0 : Int) ≤ ((8 * (n - 1 - k) : Nat) : Int) := by omega
      have q1 : ((8 * (n - 1 - k) : Nat) : Int) ≤ 64 := by omega
      clear hst hput hc2 hval hlen
      go_wp2_with fail
      go_roundw
      case rel => exact ⟨k + 1, by omega, by go_num, by rw [HV.out]; exact HP.out⟩
      case measure => simp [intOf] <;> omega
    · obtain rfl : k = n := by omega
      rw [mid_all] at hst
      have hcv := run_convert_bytes_back (P := Tryd.prog) wr 119 9 5 ⟨W.heap.size, 0, none⟩ k (beL k v) Tryd.underlying119 Tryd.underlying5 Tryd.underlying9 (fun j hj => by
        have hj' : j < k := by rwa [beL_len] at hj
        rw [Addr.add_mid, Nat.zero_add, st_at hst rfl j (by omega)]
        simp [cellsOf, List.getElem?_eq_getElem hj])
      rw [beL_len] at hcv
      have HC := Lib.hid hst.ch
      clear hst hmk hk hlt
      go_wp2_with fail
      go_ret
      exact ⟨rfl, HC.out⟩
end Go.Proofs.YtjmjmekmaamclaaDoor.jrn
/-
  Layer 5, the program: numberOf, filled, summed, beginning, begins, room, ring, inRing.
-/
namespace Go.Proofs.YtjmjmekmaamclaaDoor.jrn
open Go.ChangeShapes Go.WideShapes Go.ChangeAt Go.RowKit mem dev sums
set_option linter.unusedVariables false

theorem numL_snoc (l : List UInt8) (b : UInt8) : numL (l ++ [b]) = numL l * 256 + b.toNat := by simp [numL]
theorem numL_lt : ∀ l : List UInt8, numL l < 256 ^ l.length := by
  intro l
  induction l with
  | nil => simp [numL]
  | cons b l ih =>
    have hb := b.toNat_lt
    rw [numL_cons, List.length_cons, Nat.pow_succ]
    have : b.toNat * 256 ^ l.length ≤ 255 * 256 ^ l.length := Nat.mul_le_mul_right _ (by omega)
    omega
theorem or_byte (a b : Nat) (hb : b < 256) : a * 256 ||| b = a * 256 + b := by
  have := Nat.two_pow_add_eq_or_of_lt (i := 8) (b := b) hb a
  rw [show (2 : Nat) ^ 8 = 256 from rfl, Nat.mul_comm] at this
  exact this.symm

set_option maxRecDepth 8000 in
theorem numberOf_any (t : ByteArray) (ht : t.size ≤ 8) (W : World) :
    Calls Tryd.prog 74 #[.string t] W fun e w' => e = .returned (.int .u64 (num t : Nat)) ∧ w' = W := by
  have hl := data_len t
  have t0 : (t.size : Int) ≤ 8 := by omega
  have HL := Lib.hid hl
  clear hl
  go_enter Tryd.func74, Tryd.ntmps74
  go_wp2_with fail
  go_loop [3, 7] (fun x i => ∃ k : Nat, k ≤ t.size ∧ i = .int .i64 ↑k ∧ x = .int .u64 ((numL (t.data.toList.take k) : Nat) : Int)) (fun _ i => t.size - (intOf i).toNat)
  case atStart => exact ⟨0, by omega, rfl, rfl⟩
  case round =>
    obtain ⟨k, hk, rfl, rfl⟩ := hrel
    by_cases hlt : k < t.size
    · have hlt' : k < t.data.toList.length := by rw [HL.out]; exact hlt
      have hs : numL (t.data.toList.take (k + 1)) = numL (t.data.toList.take k) * 256 + (t[k]'hlt).toNat := by
        rw [List.take_succ_eq_append_getElem hlt', numL_snoc]
        rfl
      have hb := numL_lt (t.data.toList.take k)
      rw [List.length_take, HL.out, Nat.min_eq_left (by omega)] at hb
      have h7 : (256 : Nat) ^ k ≤ 256 ^ 7 := Nat.pow_le_pow_right (by decide) (by omega)
      have h7' : (256 : Nat) ^ 7 = 72057594037927936 := by decide
      obtain ⟨x, hx⟩ : ∃ x, x = numL (t.data.toList.take k) := ⟨_, rfl⟩
      rw [← hx] at hs hb ⊢
      have hxb : x < 72057594037927936 := by omega
      have hby := (t[k]'hlt).toNat_lt
      have e1 : IntKind.u64.wrap ((x : Int) * 256) = ((x * 256 : Nat) : Int) := by rw [IntKind.wrap_u64]; omega
      have HE2 : Hid (bits .or .u64 ((x : Int) * 256) (((t[k]'hlt).toNat : Nat) : Int) = ((x * 256 + (t[k]'hlt).toNat : Nat) : Int)) := Lib.hid (by
        rw [show ((x : Int) * 256) = ((x * 256 : Nat) : Int) from by omega, u64_or_nat _ _ (by omega) (by omega), or_byte _ _ hby])
      have HS := Lib.hid hs
      have x0 : (0 : Int) ≤ x := by omega
      have x1 : (x : Int) ≤ 72057594037927935 := by omega
      clear hx hb h7 h7' hxb hs hlt'
      go_wp2_with fail
      go_round
      case rel => exact ⟨k + 1, by omega, by go_num, by rw [HS.out, HE2.out]⟩
      case measure => simp [intOf] <;> omega
    · obtain rfl : k = t.size := by omega
      have e : t.data.toList.take t.size = t.data.toList := List.take_of_length_le (by rw [HL.out]; omega)
      rw [e]
      clear hlt hk
      go_wp2_with fail
      go_ret
      exact ⟨rfl, rfl⟩

section
variable {w wr : World} {As : List Ast}
theorem bytesOf_st (h : St w wr As) (n v : Nat) (hn : n = 4 ∨ n = 8) (hv : v < 18446744073709551616) :
    Calls Tryd.prog 60 #[.int .u64 (v : Int), .int .i64 (n : Int)] wr fun e w' => e = .returned (.string (be n v)) ∧ St w w' As :=
  (bytesOf_any n v hn hv wr).mono fun e w' k => ⟨k.1, h.same k.2⟩

/-- a number in so many bytes, the width as a call has it -/
def beI (n : Int) (v : Nat) : ByteArray := be n.toNat v
theorem bytesI_st (h : St w wr As) (n : Int) (v : Nat) (hn : n = 4 ∨ n = 8) (hv : v < 18446744073709551616) :
    Calls Tryd.prog 60 #[.int .u64 (v : Int), .int .i64 n] wr fun e w' => e = .returned (.string (beI n v)) ∧ St w w' As := by
  have := bytesOf_st h n.toNat v (by omega) hv
  rwa [show ((n.toNat : Nat) : Int) = n from by omega] at this
theorem filled_st (h : St w wr As) (t : ByteArray) (z : Nat) (ht : t.size ≤ z) (hz : z ≤ 4096) :
    Calls Tryd.prog 32 #[.string t, .int .i64 (z : Int)] wr fun e w' => e = .returned (.string (pad t z)) ∧ St w w' As := by
  have hrep : ∀ W, Calls Tryd.prog 42 #[.string ⟨#[0]⟩, .int .i64 ((z : Int) - t.size)] W fun e w' => e = .returned (.string (noughts (z - t.size))) ∧ Below W.heap.size W w' := fun W => by
    have := Tryd.strings_Repeat ⟨#[0]⟩ (z - t.size) W (by omega) (by show 1 * (z - t.size) ≤ _; omega)
    rw [repeat_nought, show ((z - t.size : Nat) : Int) = (z : Int) - t.size from by omega] at this
    exact this
  have HREP := Lib.hid hrep
  have e1 : IntKind.i64.wrap ((z : Int) - t.size) = (z : Int) - t.size := IntWalk.i64_in _ (by omega)
  have hns : (noughts (z - t.size)).size = z - t.size := noughts_size _
  have g0 : ¬ 9223372036854775807 < t.size + (noughts (z - t.size)).size := by rw [hns]; omega
  have HP : Hid (pad t z = t ++ noughts (z - t.size)) := Lib.hid rfl
  generalize noughts (z - t.size) = q at HREP g0 HP
  have H := Lib.hid h
  clear hrep hns h ht hz
  go_enter Tryd.func32, Tryd.ntmps32
  go_wp2_with (go_at_call 42; refine (HREP.out _).mono ?_; rintro e w2 ⟨rfl, hb⟩; have H2 := Lib.hid (H.out.same (Ch.of_below hb)); clear hb)
  go_ret
  exact ⟨by rw [HP.out]; rfl, H2.out⟩

theorem summed_st {w0 : World} (g : Halves w0) (h : St w0 wr As) (t : ByteArray) (z : Nat) (ht : t.size + 4 ≤ z) (hz : z ≤ 4096) :
    Calls Tryd.prog 59 #[.string t, .int .i64 (z : Int)] wr fun e w' => e = .returned (.string (summed t z)) ∧ St w0 w' As := by
  have HC := Lib.hid (crc_prog t (by omega) wr (g.keep (Ch.below h.ch)))
  have hl := crc_lt t.data.toList
  have HS : Hid (summed t z = pad (t ++ be 4 (crcM t.data.toList)) z) := Lib.hid rfl
  generalize crcM t.data.toList = c at HC hl HS
  have hb4 := be_size 4 c
  have g0 : ¬ 9223372036854775807 < t.size + (be 4 c).size := by rw [hb4]; omega
  have hsz : (t ++ be 4 c).size ≤ z := by rw [ByteArray.size_append, hb4]; omega
  have HB : Hid (∀ W, St w0 W As → Calls Tryd.prog 60 #[.int .u64 (c : Int), .int .i64 4] W fun e w' => e = .returned (.string (be 4 c)) ∧ St w0 w' As) := Lib.hid fun W k => bytesOf_st k 4 c (.inl rfl) (by omega)
  generalize be 4 c = b at HB g0 hsz HS
  have HF : Hid (∀ W, St w0 W As → Calls Tryd.prog 32 #[.string (t ++ b), .int .i64 (z : Int)] W fun e w' => e = .returned (.string (pad (t ++ b) z)) ∧ St w0 w' As) := Lib.hid fun W k => filled_st k (t ++ b) z hsz hz
  have H := Lib.hid h
  have c0 : (0 : Int) ≤ c := by omega
  have c1 : (c : Int) ≤ 4294967295 := by omega
  clear hl h ht hz hb4 hsz g
  go_enter Tryd.func59, Tryd.ntmps59
  go_wp2_with (first
    | (go_at_call 80; refine HC.out.mono ?_; rintro e w2 ⟨rfl, hb⟩; have H2 := Lib.hid (H.out.same (Ch.of_below hb)); clear hb)
    | (go_at_call 60; refine (HB.out _ H2.out).mono ?_; rintro e w3 ⟨rfl, hb⟩; have H3 := Lib.hid hb; clear hb)
    | (go_at_call 32; refine (HF.out _ H3.out).mono ?_; rintro e w4 ⟨rfl, hb⟩; have H4 := Lib.hid hb; clear hb))
  go_ret
  exact ⟨by rw [HS.out]; rfl, H4.out⟩

theorem beginning_st (h : St w wr As) (n : Nat) (hn : n < 18446744073709551616) :
    Calls Tryd.prog 92 #[.int .u64 (n : Int)] wr fun e w' => e = .returned (.string (begC n)) ∧ St w w' As := by
  have HB := Lib.hid (bytesOf_st h 8 n (.inr rfl) hn)
  have hb8 := be_size 8 n
  have HS : Hid (begC n = (⟨#[87, 74, 67, 49]⟩ : ByteArray) ++ be 8 n) := Lib.hid rfl
  generalize be 8 n = b at HB hb8 HS
  have g0 : ¬ 9223372036854775807 < 4 + b.size := by omega
  have g1 : ¬ 9223372036854775807 < b.size + 4 := by omega
  clear h hn
  go_enter Tryd.func92, Tryd.ntmps92
  go_wp2_with (go_at_call 60; refine HB.out.mono ?_; rintro e w3 ⟨rfl, hb⟩; have H3 := Lib.hid hb; clear hb)
  go_ret
  exact ⟨by rw [HS.out]; rfl, H3.out⟩

theorem prefix_any (s p : ByteArray) (hs : p.size ≤ s.size) (W : World) :
    Calls Tryd.prog 66 #[.string s, .string p] W fun e w' => e = .returned (.bool (decide (s.extract 0 p.size = p))) ∧ w' = W := by
  have := Tryd.strings_HasPrefix s p W
  rw [← Lib.hasPrefix_raw, decide_eq_true hs, Bool.true_and, bytes_beq] at this
  exact this
theorem marked_any (s : ByteArray) (hs : 2 ≤ s.size) (W : World) :
    Calls Tryd.prog 66 #[.string s, .string ⟨#[87, 74]⟩] W fun e w' => e = .returned (.bool (decide (Marked s))) ∧ w' = W :=
  prefix_any s ⟨#[87, 74]⟩ hs W

theorem begins_st (h : St w wr As) (t : ByteArray) (n : Nat) (hn : n < 18446744073709551616) (ht : 12 ≤ t.size) :
    Calls Tryd.prog 78 #[.string t, .int .u64 (n : Int)] wr fun e w' => e = .returned (.bool (decide (Begins t n))) ∧ St w w' As := by
  have HB := Lib.hid (beginning_st h n hn)
  have HP : Hid (∀ W, Calls Tryd.prog 66 #[.string t, .string (begC n)] W fun e w' => e = .returned (.bool (decide (Begins t n))) ∧ w' = W) := Lib.hid fun W => by
    have := prefix_any t (begC n) (by rw [begC_size]; exact ht) W
    rw [begC_size] at this
    exact this
  generalize decide (Begins t n) = B at HP ⊢
  generalize begC n = b at HB HP
  clear h hn ht
  go_enter Tryd.func78, Tryd.ntmps78
  go_wp2_with (first
    | (go_at_call 92; refine HB.out.mono ?_; rintro e w3 ⟨rfl, hb⟩; have H3 := Lib.hid hb; clear hb)
    | (go_at_call 66; refine (HP.out _).mono ?_; rintro e w4 ⟨rfl, rfl⟩))
  go_ret
  exact ⟨rfl, H3.out⟩

abbrev rgV (X : Nat) (R : Rg) : Value := .agg #[pt X, .int .i64 (R.st : Int), .int .i64 (R.ln : Int)]
abbrev rgCells (X : Nat) (R : Rg) : List Value := [pt X, .int .i64 (R.st : Int), .int .i64 (R.ln : Int)]
theorem ring_any {R : Rg} (a : R.Ok) (X : Nat) (W : World) :
    Calls Tryd.prog 54 #[rgV X R] W fun e w' => e = .returned (.int .i64 (R.ring : Int)) ∧ w' = W.alloc (.cells #[pt X, .int .i64 (R.st : Int), .int .i64 (R.ln : Int)] 63) := by
  have h6 := a.six
  have hf := a.few
  have e1 : IntKind.i64.wrap ((R.ln : Int) - 2) = ((R.ring : Nat) : Int) := by rw [IntWalk.i64_in _ (by omega)]; unfold Rg.ring; omega
  clear a
  go_enter Tryd.func54, Tryd.ntmps54
  go_wp2_with fail
  go_ret
  exact ⟨rfl, rfl⟩
theorem ring_st {R : Rg} (a : R.Ok) (h : St w wr As) (X : Nat) :
    Calls Tryd.prog 54 #[rgV X R] wr fun e w' => e = .returned (.int .i64 (R.ring : Int)) ∧ St w w' As :=
  (ring_any a X wr).mono fun e w' k => ⟨k.1, by rw [k.2]; exact h.alloc _⟩
theorem room_any (z : Nat) (hz : 20 ≤ z) (hz2 : z ≤ 4096) (W : World) :
    Calls Tryd.prog 61 #[.int .i64 (z : Int)] W fun e w' => e = .returned (.int .i64 (((z - 20) / 4 : Nat) : Int)) ∧ w' = W := by
  have z0 : (20 : Int) ≤ z := by omega
  have z1 : (z : Int) ≤ 4096 := by omega
  have e1 : IntKind.i64.wrap ((z : Int) - 4) = (z : Int) - 4 := IntWalk.i64_in _ (by omega)
  have HV : Hid ((((z - 20) / 4 : Nat) : Int) = ((z : Int) - 4 - 8 - 4 - 4) / 4) := Lib.hid (by omega)
  clear hz hz2
  go_enter Tryd.func61, Tryd.ntmps61
  go_wp2_with fail
  go_ret
  exact ⟨by rw [HV.out]; rfl, rfl⟩
end
end Go.Proofs.YtjmjmekmaamclaaDoor.jrn
/-
  Layer 5, the program: a head's block, and back; most; behind; targets.
-/
namespace Go.Proofs.YtjmjmekmaamclaaDoor.jrn
open Go.ChangeShapes Go.WideShapes Go.ChangeAt Go.RowKit mem dev sums
set_option linter.unusedVariables false

abbrev hdCells (h : Hd) : List Value := [.int .u64 (h.own : Int), .int .i64 (h.tail : Int), .int .u64 (h.num : Int)]
abbrev hdV (h : Hd) : Value := .agg #[.int .u64 (h.own : Int), .int .i64 (h.tail : Int), .int .u64 (h.num : Int)]
abbrev stCells (s : JSt) : List Value := [.int .u64 (s.h.own : Int), .int .i64 (s.h.tail : Int), .int .u64 (s.h.num : Int), .int .i64 (s.at' : Int), .int .i64 (s.used : Int), .int .u64 (s.num : Int)]
abbrev stV (s : JSt) : Value := .agg #[.int .u64 (s.h.own : Int), .int .i64 (s.h.tail : Int), .int .u64 (s.h.num : Int), .int .i64 (s.at' : Int), .int .i64 (s.used : Int), .int .u64 (s.num : Int)]

section
variable {w wr : World} {As : List Ast}
set_option maxHeartbeats 2000000 in
set_option maxRecDepth 8000 in
theorem block_st (g : Halves w) (h : St w wr As) (H : Hd) (z : Nat) (ho : H.own < 18446744073709551616) (ht : H.tail < 4294967296) (hn : H.num < 18446744073709551616) (hz : 28 ≤ z) (hz2 : z ≤ 4096) :
    Calls Tryd.prog 33 #[hdV H, .int .i64 (z : Int)] wr fun e w' => e = .returned (.string (headB H z)) ∧ St w w' As := by
  have H1 := Lib.hid (st_new h (hdCells H) 67)
  have c0 : _ = some (Value.int .u64 (H.own : Int)) := st_cell H1.out 0
  have c1 : _ = some (Value.int .i64 (H.tail : Int)) := st_cell H1.out 1
  have c2 : _ = some (Value.int .u64 (H.num : Int)) := st_cell H1.out 2
  have HO := Lib.hid ho
  have HT : Hid (H.tail < 18446744073709551616) := Lib.hid (by omega)
  have HN := Lib.hid hn
  have HS : Hid (∀ W L, St w W L → Calls Tryd.prog 59 #[.string (⟨#[87, 74, 72, 49]⟩ ++ beI 8 H.own ++ beI 4 H.tail ++ beI 8 H.num), .int .i64 (z : Int)] W fun e w' => e = .returned (.string (headB H z)) ∧ St w w' L) := Lib.hid fun W L k => summed_st g k (headT H) z (by rw [headT_size]; omega) hz2
  have s1 : (beI 8 H.own).size = 8 := be_size 8 H.own
  have s2 : (beI 4 H.tail).size = 4 := be_size 4 H.tail
  have s3 : (beI 8 H.num).size = 8 := be_size 8 H.num
  have t0 : (0 : Int) ≤ H.tail := by omega
  have t1 : (H.tail : Int) ≤ 4294967295 := by omega
  have e0 : IntKind.u64.wrap (H.tail : Int) = (H.tail : Int) := by rw [IntKind.wrap_u64]; omega
  generalize headB H z = out at HS ⊢
  have g0 : ¬ 9223372036854775807 < 4 + (beI 8 H.own).size := by omega
  have g1 : ¬ 9223372036854775807 < 4 + (beI 8 H.own).size + (beI 4 H.tail).size := by omega
  have g2 : ¬ 9223372036854775807 < 4 + (beI 8 H.own).size + (beI 4 H.tail).size + (beI 8 H.num).size := by omega
  clear h hz hz2 ho ht hn s1 s2 s3 g
  go_enter Tryd.func33, Tryd.ntmps33
  go_upto_region 1 with fail
  generalize wr.heap.size = B at H1 c0 c1 c2 ⊢
  go_region_held3 (fun w' => w'.cell? ⟨B, 0, none⟩ = some (.int .u64 (H.own : Int)) ∧ w'.cell? ⟨B, 1, none⟩ = some (.int .i64 (H.tail : Int)) ∧ w'.cell? ⟨B, 2, none⟩ = some (.int .u64 (H.num : Int))) (go_keep) (first
    | ((go_at_call 60; refine (bytesI_st (by first | exact H2.out | exact H2.out.drew | exact H2.out.drewN _ | exact H1.out | exact H1.out.drew | exact H1.out.drewN _) _ _ (by first | exact .inl rfl | exact .inr rfl) (by first | exact HO.out | exact HT.out | exact HN.out)).mono ?_; rintro e w2 ⟨rfl, hst⟩; have m0 : _ = some (Value.int .u64 (H.own : Int)) := st_cell hst 0; have m1 : _ = some (Value.int .i64 (H.tail : Int)) := st_cell hst 1; have m2 : _ = some (Value.int .u64 (H.num : Int)) := st_cell hst 2; have H2 := Lib.hid hst; clear hst))
    | ((go_at_call 59; refine (HS.out _ _ (by first | exact H2.out | exact H2.out.drew | exact H2.out.drewN _ | exact H1.out | exact H1.out.drew | exact H1.out.drewN _)).mono ?_; rintro e w2 ⟨rfl, hst⟩; have m0 : _ = some (Value.int .u64 (H.own : Int)) := st_cell hst 0; have m1 : _ = some (Value.int .i64 (H.tail : Int)) := st_cell hst 1; have m2 : _ = some (Value.int .u64 (H.num : Int)) := st_cell hst 2; have H2 := Lib.hid hst; clear hst)))
  all_goals
    go_wp2_with fail
    go_ret
    exact ⟨rfl, (by first | exact H2.out.drop | exact H2.out.drop.drew | exact H2.out.drop.drewN _)⟩
end
end Go.Proofs.YtjmjmekmaamclaaDoor.jrn
/-
  Layer 5, the program: headOf, most, behind, targetOf, inRing.
-/
namespace Go.Proofs.YtjmjmekmaamclaaDoor.jrn
open Go.ChangeShapes Go.WideShapes Go.ChangeAt Go.RowKit mem dev sums
set_option linter.unusedVariables false

def headRes (t : ByteArray) (ring : Nat) : Hd × Bool := if (fieldsOf t).tail < ring then (fieldsOf t, decide (headB (fieldsOf t) t.size = t)) else (⟨0, 0, 0⟩, false)
theorem num_lt (t : ByteArray) : num t < 256 ^ t.size := by
  have := numL_lt t.data.toList
  rwa [data_len] at this
theorem ext_two (t : ByteArray) (i j a b : Nat) (h : i + b ≤ j) : (t.extract i j).extract a b = t.extract (i + a) (i + b) := by
  apply ba_ext
  rw [ext_data, ext_data, ext_data, List.drop_take, List.drop_drop, List.take_take]
  congr 1
  omega
theorem num8 (t : ByteArray) (i : Nat) : num (t.extract i (i + 8)) < 18446744073709551616 := by
  have h := num_lt (t.extract i (i + 8))
  have : (256 : Nat) ^ (t.extract i (i + 8)).size ≤ 256 ^ 8 := Nat.pow_le_pow_right (by decide) (by rw [ByteArray.size_extract]; omega)
  have e : (256 : Nat) ^ 8 = 18446744073709551616 := by decide
  omega
theorem num4 (t : ByteArray) (i : Nat) : num (t.extract i (i + 4)) < 4294967296 := by
  have h := num_lt (t.extract i (i + 4))
  have : (256 : Nat) ^ (t.extract i (i + 4)).size ≤ 256 ^ 4 := Nat.pow_le_pow_right (by decide) (by rw [ByteArray.size_extract]; omega)
  have e : (256 : Nat) ^ 4 = 4294967296 := by decide
  omega

theorem results_ct {P : Program} {fn : Func} {p q : Tmp} {ty : TypeId} (h : fn.results = #[.cell p ty, .tmp q]) (tmps : Array Value) (w : World) (g : Nat) (t : TypeId) (cs : Array Value) (fr : Nat × Nat) (d : TypeDesc)
    (hp : tmps.getD p undef = .pointer (some ⟨g, 0, none⟩)) (hg : w.heap[g]? = some (.cells cs t fr))
    (hu : P.underlying ty = some d) (hd : (match d with | .struct _ | .array _ _ => true | _ => false) = true) (hi : (P.info? ty).map (·.size) = some cs.size) :
    (results fn tmps).run P w = .ok (.tuple #[.agg cs, tmps.getD q undef]) w := by
  have hp' : tmps[p]?.getD undef = .pointer (some ⟨g, 0, none⟩) := by simpa using hp
  simp [results, h, hp', asAddr, run_loadVar_row w g t ty cs fr d hg hu hd hi]
theorem results_ctt {P : Program} {fn : Func} {p q r : Tmp} {ty : TypeId} (h : fn.results = #[.cell p ty, .tmp q, .tmp r]) (tmps : Array Value) (w : World) (g : Nat) (t : TypeId) (cs : Array Value) (fr : Nat × Nat) (d : TypeDesc)
    (hp : tmps.getD p undef = .pointer (some ⟨g, 0, none⟩)) (hg : w.heap[g]? = some (.cells cs t fr))
    (hu : P.underlying ty = some d) (hd : (match d with | .struct _ | .array _ _ => true | _ => false) = true) (hi : (P.info? ty).map (·.size) = some cs.size) :
    (results fn tmps).run P w = .ok (.tuple #[.agg cs, tmps.getD q undef, tmps.getD r undef]) w := by
  have hp' : tmps[p]?.getD undef = .pointer (some ⟨g, 0, none⟩) := by simpa using hp
  simp [results, h, hp', asAddr, run_loadVar_row w g t ty cs fr d hg hu hd hi]
theorem sizeHd : (Tryd.prog.info? 67).map (·.size) = some 3 := by kernel_rfl
theorem sizeRg : (Tryd.prog.info? 63).map (·.size) = some 3 := by kernel_rfl
theorem sizeSt : (Tryd.prog.info? 69).map (·.size) = some 6 := by kernel_rfl

section
variable {w wr : World} {As : List Ast}
set_option maxHeartbeats 2000000 in
set_option maxRecDepth 8000 in
theorem headOf_st (g : Halves w) (h : St w wr As) (t : ByteArray) (ring : Nat) (hr : ring ≤ 4096) (hz : 28 ≤ t.size) (hz2 : t.size ≤ 4096) :
    Calls Tryd.prog 53 #[.string t, .int .i64 (ring : Int)] wr fun e w' => e = .returned (.tuple #[hdV (headRes t ring).1, .bool (headRes t ring).2]) ∧ St w w' As := by
  have hlen : ((t.extract 4 t.size).size : Int) = t.size - 4 := by rw [ByteArray.size_extract]; omega
  have x1 : (t.extract 4 t.size).extract 0 8 = t.extract 4 12 := ext_two t 4 t.size 0 8 (by omega)
  have x2 : (t.extract 4 t.size).extract 8 12 = t.extract 12 16 := ext_two t 4 t.size 8 12 (by omega)
  have x3 : (t.extract 4 t.size).extract 12 20 = t.extract 16 24 := ext_two t 4 t.size 12 20 (by omega)
  have n1 : num ((t.extract 4 t.size).extract 0 8) = (fieldsOf t).own := by rw [x1]; rfl
  have n2 : num ((t.extract 4 t.size).extract 8 12) = (fieldsOf t).tail := by rw [x2]; rfl
  have n3 : num ((t.extract 4 t.size).extract 12 20) = (fieldsOf t).num := by rw [x3]; rfl
  have b1 : (fieldsOf t).own < 18446744073709551616 := num8 t 4
  have b2 : (fieldsOf t).tail < 4294967296 := num4 t 12
  have b3 : (fieldsOf t).num < 18446744073709551616 := num8 t 16
  have HRES : Hid (headRes t ring = if (fieldsOf t).tail < ring then (fieldsOf t, decide (headB (fieldsOf t) t.size = t)) else (⟨0, 0, 0⟩, false)) := Lib.hid rfl
  generalize headRes t ring = res at HRES ⊢
  generalize fieldsOf t = F at n1 n2 n3 b1 b2 b3 HRES
  have N1 := Lib.hid n1
  have N2 := Lib.hid n2
  have N3 := Lib.hid n3
  have H1 := Lib.hid (st_new h [.int .u64 0, .int .i64 0, .int .u64 0] 67)
  have HB : Hid (∀ W L, St w W L → Calls Tryd.prog 33 #[hdV F, .int .i64 (t.size : Int)] W fun e w' => e = .returned (.string (headB F t.size)) ∧ St w w' L) := Lib.hid fun W L k => block_st g k F t.size b1 b2 b3 hz hz2
  have f0 : (0 : Int) ≤ F.tail := by omega
  have f1 : (F.tail : Int) ≤ 4294967295 := by omega
  have f2 : IntKind.i64.wrap (F.tail : Int) = F.tail := IntWalk.i64_in _ (by omega)
  have r0 : (0 : Int) ≤ ring := by omega
  have r1 : (ring : Int) ≤ 4096 := by omega
  have r2 : IntKind.u64.wrap (ring : Int) = ring := by rw [IntKind.wrap_u64]; omega
  have z0 : (28 : Int) ≤ t.size := by omega
  have z1 : (t.size : Int) ≤ 4096 := by omega
  generalize hf : t.extract 4 t.size = f at hlen N1 N2 N3
  have l0 : (20 : Int) ≤ f.size := by omega
  have l2 : (8 : Int) ≤ f.size := by omega
  have l3 : (12 : Int) ≤ f.size := by omega
  have l4 : (4 : Int) ≤ t.size := by omega
  have sl1 : ∀ W, (Instr.slice 9 (.string f) none (some (.int .i64 8)) none).run Tryd.prog W = .ok (.string (f.extract 0 8)) W := fun W => by
    have := run_slice_string_h (P := Tryd.prog) (w := W) 9 f Tryd.underlying9 .i64 8 (by omega) l2
    exact this
  have sl2 : ∀ W, (Instr.slice 9 (.string f) (some (.int .i64 8)) (some (.int .i64 12)) none).run Tryd.prog W = .ok (.string (f.extract 8 12)) W := fun W => run_slice_string (P := Tryd.prog) W 9 f .i64 .i64 8 12 Tryd.underlying9 (by omega) (by omega) l3
  have sl3 : ∀ W, (Instr.slice 9 (.string f) (some (.int .i64 12)) (some (.int .i64 20)) none).run Tryd.prog W = .ok (.string (f.extract 12 20)) W := fun W => run_slice_string (P := Tryd.prog) W 9 f .i64 .i64 12 20 Tryd.underlying9 (by omega) (by omega) l0
  have l1 : (f.size : Int) ≤ 4096 := by omega
  clear b1 b2 b3 hr hz hz2 n1 n2 n3 x1 x2 x3 h g
  go_enter Tryd.func53, Tryd.ntmps53
  go_upto_region 2 with fail
  go_quiet ((go_at_call 74; exact Calls.quiet_of_same (numberOf_any _ (by rw [ByteArray.size_extract]; omega) _)))
  rw [N1.out, N2.out, N3.out]
  generalize wr.heap.size = B at H1 ⊢
  by_cases c : F.tail < ring
  · have c1 : ¬ (ring : Int) ≤ F.tail := by omega
    have HC : Hid (res = (F, decide (headB F t.size = t))) := Lib.hid (by rw [HRES.out, if_pos c])
    clear c
    go_upto_region 6 with fail
    have h2 := st_new (H1.out.drewN nq) [.int .u64 (F.own : Int), .int .i64 (F.tail : Int), .int .u64 (F.num : Int)] 67
    rw [show ((wr.alloc (.cells #[.int .u64 0, .int .i64 0, .int .u64 0] 67)).drewN nq).heap.size = wr.heap.size + 1 from World.size_alloc _ _] at h2
    have hlt : B < wr.heap.size + 1 := by have := st_lt H1.out; rwa [World.size_alloc] at this
    generalize wr.heap.size + 1 = B2 at h2 hlt ⊢
    have ne1 : ¬ B = B2 := by omega
    have ne2 : ¬ B2 = B := by omega
    clear hlt
    have d0 : _ = some (Value.int .u64 (F.own : Int)) := st_cell h2 0
    have d1 : _ = some (Value.int .i64 (F.tail : Int)) := st_cell h2 1
    have d2 : _ = some (Value.int .u64 (F.num : Int)) := st_cell h2 2
    have H2 := Lib.hid h2
    clear h2
    go_region_held3 (fun w' => w'.cell? ⟨B2, 0, none⟩ = some (.int .u64 (F.own : Int)) ∧ w'.cell? ⟨B2, 1, none⟩ = some (.int .i64 (F.tail : Int)) ∧ w'.cell? ⟨B2, 2, none⟩ = some (.int .u64 (F.num : Int))) (go_keep) ((go_at_call 33; refine (HB.out _ _ (by first | exact H2.out | exact H2.out.drew | exact H2.out.drewN _)).mono ?_; rintro e w2 ⟨rfl, hst⟩; have m0 : _ = some (Value.int .u64 (F.own : Int)) := st_cell hst 0; have m1 : _ = some (Value.int .i64 (F.tail : Int)) := st_cell hst 1; have m2 : _ = some (Value.int .u64 (F.num : Int)) := st_cell hst 2; have z0 : _ = some (Value.int .u64 0) := st_cell hst.swap 0; have z1 : _ = some (Value.int .i64 0) := st_cell hst.swap 1; have z2 : _ = some (Value.int .u64 0) := st_cell hst.swap 2; have fz := st_free hst.swap; have H3 := Lib.hid hst.swap; clear hst))
    all_goals
      have hs := st_set (st_set (st_set H3.out 0 (.int .u64 (F.own : Int))) 1 (.int .i64 (F.tail : Int))) 2 (.int .u64 (F.num : Int))
      have HBK := Lib.hid (st_blk hs)
      have HS := Lib.hid hs.drop.drop
      clear hs
      go_wp2_with fail
      refine bodyPost_ret (results_ct rfl _ _ B 67 #[.int .u64 (F.own : Int), .int .i64 (F.tail : Int), .int .u64 (F.num : Int)] (0, 0) _ rfl HBK.out Tryd.underlying67 rfl sizeHd) rfl ?_
      exact ⟨by rw [HC.out, ← bytes_beq]; rfl, HS.out⟩
  · have c1 : (ring : Int) ≤ F.tail := by omega
    have HC : Hid (res = (⟨0, 0, 0⟩, false)) := Lib.hid (by rw [HRES.out, if_neg c])
    clear c
    have z0 : _ = some (Value.int .u64 0) := st_cell H1.out 0
    have z1 : _ = some (Value.int .i64 0) := st_cell H1.out 1
    have z2 : _ = some (Value.int .u64 0) := st_cell H1.out 2
    have fz := st_free H1.out
    go_wp2_with fail
    have hs := st_set (st_set (st_set (H1.out.drewN nq) 0 (.int .u64 0)) 1 (.int .i64 0)) 2 (.int .u64 0)
    have HBK := Lib.hid (st_blk hs)
    have HS := Lib.hid hs.drop
    clear hs
    refine bodyPost_ret (results_ct rfl _ _ B 67 #[.int .u64 0, .int .i64 0, .int .u64 0] (0, 0) _ rfl HBK.out Tryd.underlying67 rfl sizeHd) rfl ?_
    exact ⟨by rw [HC.out]; rfl, HS.out⟩
end
end Go.Proofs.YtjmjmekmaamclaaDoor.jrn
/-
  Layer 5, the program: behind, most, targetOf, inRing.
-/
namespace Go.Proofs.YtjmjmekmaamclaaDoor.jrn
open Go.ChangeShapes Go.WideShapes Go.ChangeAt Go.RowKit mem dev sums
set_option linter.unusedVariables false

section
variable {w wr : World} {As : List Ast} {R : Rg} {X : Nat} {D : DevM}
theorem inRing_any (t : Nat) (d : ByteArray) (ht : t < 4294967296) (hd : 2 ≤ d.size) (hd2 : d.size ≤ 4096) (W : World) :
    Calls Tryd.prog 82 #[.int .u32 (t : Int), .string d] W fun e w' => e = .returned (.string (inRing t d)) ∧ w' = W := by
  have e1 : bits .and .u32 (t : Int) 2147483648 = ((t &&& 2147483648 : Nat) : Int) := u32_and_nat t 2147483648 ht (by decide)
  have e2 : t &&& 2147483648 = if esc ≤ t then 2147483648 else 0 := by
    have h : t &&& 2147483648 = (t / 2147483648 % 2) * 2147483648 := by
      apply Nat.eq_of_testBit_eq
      intro i
      rw [Nat.testBit_and, show (2147483648 : Nat) = 2 ^ 31 from rfl, Nat.testBit_two_pow, Nat.testBit_mul_two_pow]
      by_cases hi : 31 = i
      · subst hi
        simp [Nat.testBit_eq_decide_div_mod_eq]
      · by_cases hl : 31 ≤ i
        · simp only [hi, decide_false, Bool.and_false, hl, decide_true, Bool.true_and]
          rw [Nat.testBit_lt_two_pow (by have : 2 ^ 1 ≤ 2 ^ (i - 31) := Nat.pow_le_pow_right (by decide) (by omega); omega)]
        · simp [hi, hl]
    rw [h]
    unfold esc
    split <;> omega
  rw [e2] at e1
  have HI : Hid (inRing t d = if esc ≤ t then (⟨#[0, 0]⟩ : ByteArray) ++ d.extract 2 d.size else d) := Lib.hid rfl
  have sl : ∀ W, (Instr.slice 9 (.string d) (some (.int .i64 2)) none none).run Tryd.prog W = .ok (.string (d.extract 2 d.size)) W := fun W => by
    have := run_slice_string_from_if (P := Tryd.prog) W 9 d .i64 2 Tryd.underlying9
    rw [this, if_pos ⟨by omega, by omega⟩]
    rfl
  generalize inRing t d = out at HI ⊢
  have t0 : (0 : Int) ≤ t := by omega
  have t1 : (t : Int) ≤ 4294967295 := by omega
  have d0 : (2 : Int) ≤ d.size := by omega
  have g0 : ¬ 9223372036854775807 < 2 + (d.extract 2 d.size).size := by rw [ByteArray.size_extract]; omega
  generalize d.extract 2 d.size = f at g0 sl HI
  clear e2 ht hd hd2
  by_cases c : esc ≤ t
  · rw [if_pos c] at e1 HI
    have e1 : bits .and .u32 (t : Int) 2147483648 = 2147483648 := e1
    clear c
    go_enter Tryd.func82, Tryd.ntmps82
    go_wp2_with fail
    go_ret
    exact ⟨by rw [HI.out]; rfl, rfl⟩
  · rw [if_neg c] at e1 HI
    have e1 : bits .and .u32 (t : Int) 2147483648 = 0 := e1
    clear c
    go_enter Tryd.func82, Tryd.ntmps82
    go_wp2_with fail
    go_ret
    exact ⟨by rw [HI.out]; rfl, rfl⟩

theorem or_top (a : Nat) (h : a < 2147483648) : a ||| 2147483648 = a + 2147483648 := by
  have := Nat.two_pow_add_eq_or_of_lt (i := 31) (b := a) h 1
  rw [Nat.mul_one] at this
  rw [Nat.or_comm, show (2147483648 : Nat) = 2 ^ 31 from rfl, ← this, Nat.add_comm]
theorem targetOf_st (h : St w wr As) (x : Wr) (hn : x.1 ≤ 4096) (hs : 2 ≤ x.2.size) :
    Calls Tryd.prog 81 #[.agg #[.int .i64 (x.1 : Int), .string x.2]] wr fun e w' => e = .returned (.int .u32 (tgt x : Nat)) ∧ St w w' As := by
  have H1 := Lib.hid (st_new h [.int .i64 (x.1 : Int), .string x.2] 39)
  have HM := Lib.hid fun W => marked_any x.2 hs W
  have HT : Hid (tgt x = if Marked x.2 then x.1 + esc else x.1) := Lib.hid rfl
  have e1 : bits .or .u32 (x.1 : Int) 2147483648 = ((x.1 + esc : Nat) : Int) := by
    rw [show (2147483648 : Int) = ((2147483648 : Nat) : Int) from rfl, u32_or_nat _ _ (by omega) (by decide), or_top _ (by omega)]; rfl
  have HE := Lib.hid e1
  obtain ⟨n, d⟩ := x
  have n0 : (0 : Int) ≤ n := by omega
  have n1 : (n : Int) ≤ 4096 := by show (n : Int) ≤ 4096; have : n ≤ 4096 := hn; omega
  generalize tgt (n, d) = out at HT ⊢
  have HT : Hid (out = if Marked d then n + esc else n) := HT
  have HM : Hid (∀ W, Calls Tryd.prog 66 #[.string d, .string ⟨#[87, 74]⟩] W fun e w' => e = .returned (.bool (decide (Marked d))) ∧ w' = W) := HM
  have HE : Hid (bits .or .u32 (n : Int) 2147483648 = ((n + esc : Nat) : Int)) := HE
  have H1 : Hid (St w (wr.alloc (.cells #[.int .i64 (n : Int), .string d] 39)) (aVar wr.heap.size [.int .i64 (n : Int), .string d] 39 :: As)) := H1
  clear h hn hs e1
  by_cases c : Marked d
  · rw [decide_eq_true c, if_pos c] at *
    go_enter Tryd.func81, Tryd.ntmps81
    go_wp2_with (go_at_call 66; refine (HM.out _).mono ?_; rintro e w4 ⟨rfl, rfl⟩)
    go_ret
    exact ⟨by rw [HT.out, ← HE.out]; rfl, H1.out.drop⟩
  · rw [decide_eq_false c, if_neg c] at *
    go_enter Tryd.func81, Tryd.ntmps81
    go_wp2_with (go_at_call 66; refine (HM.out _).mono ?_; rintro e w4 ⟨rfl, rfl⟩)
    go_ret
    exact ⟨by rw [HT.out]; rfl, H1.out.drop⟩

theorem behind_st (a : R.Ok) (h : St w wr As) (s : JSt) (ht : s.h.tail ≤ 4096) (hu : s.used ≤ 4096) :
    Calls Tryd.prog 64 #[rgV X R, stV s] wr fun e w' => e = .returned (.int .i64 ((s.h.tail + s.used) % R.ring : Nat)) ∧ St w w' As := by
  have h1 := st_new (st_new h (rgCells X R) 63) (stCells s) 69
  rw [World.size_alloc] at h1
  have c0 : _ = some (pt X) := st_cell h1.swap 0
  have c1 : _ = some (Value.int .i64 (R.st : Int)) := st_cell h1.swap 1
  have c2 : _ = some (Value.int .i64 (R.ln : Int)) := st_cell h1.swap 2
  have d1 : _ = some (Value.int .i64 (s.h.tail : Int)) := st_cell h1 1
  have d4 : _ = some (Value.int .i64 (s.used : Int)) := st_cell h1 4
  have H1 := Lib.hid h1
  have HR : Hid (∀ W L, St w W L → Calls Tryd.prog 54 #[rgV X R] W fun e w' => e = .returned (.int .i64 (R.ring : Int)) ∧ St w w' L) := Lib.hid fun W L k => ring_st a k X
  have hp := ring_pos a
  have hb := ring_big a
  have r0 : ¬ R.ring = 0 := by omega
  have r1 : ¬ (R.ring : Int) = 0 := by omega
  have e1 : IntKind.i64.wrap ((s.h.tail : Int) + s.used) = (s.h.tail : Int) + s.used := IntWalk.i64_in _ (by omega)
  have HV : Hid ((((s.h.tail + s.used) % R.ring : Nat) : Int) = ((s.h.tail : Int) + s.used) % R.ring) := Lib.hid (by simp)
  have b0 : (0 : Int) ≤ R.ring := by omega
  generalize R.ring = ring at HR HV r0 r1 b0
  clear h h1 ht hu hp hb a
  go_enter Tryd.func64, Tryd.ntmps64
  go_upto_region 1 with fail
  have hlt : wr.heap.size < wr.heap.size + 1 := by omega
  generalize wr.heap.size + 1 = B2 at H1 d1 d4 hlt ⊢
  generalize wr.heap.size = B1 at H1 c0 c1 c2 hlt ⊢
  go_region_held3 (fun w' => w'.cell? ⟨B1, 0, none⟩ = some (pt X) ∧ w'.cell? ⟨B1, 1, none⟩ = some (.int .i64 (R.st : Int)) ∧ w'.cell? ⟨B1, 2, none⟩ = some (.int .i64 (R.ln : Int)) ∧ w'.cell? ⟨B2, 1, none⟩ = some (.int .i64 (s.h.tail : Int)) ∧ w'.cell? ⟨B2, 4, none⟩ = some (.int .i64 (s.used : Int))) (go_keep) ((go_at_call 54; refine (HR.out _ _ (by first | exact H1.out | exact H1.out.drew | exact H1.out.drewN _)).mono ?_; rintro e w2 ⟨rfl, hst⟩; have m0 : _ = some (pt X) := st_cell hst.swap 0; have m1 : _ = some (Value.int .i64 (R.st : Int)) := st_cell hst.swap 1; have m2 : _ = some (Value.int .i64 (R.ln : Int)) := st_cell hst.swap 2; have m3 : _ = some (Value.int .i64 (s.h.tail : Int)) := st_cell hst 1; have m4 : _ = some (Value.int .i64 (s.used : Int)) := st_cell hst 4; have H3 := Lib.hid hst; clear hst))
  all_goals
    go_wp2_with fail
    go_ret
    exact ⟨by rw [HV.out]; rfl, (by first | exact H3.out.drop.drop | exact H3.out.drop.drop.drew | exact H3.out.drop.drop.drewN _)⟩
end
end Go.Proofs.YtjmjmekmaamclaaDoor.jrn
/-
  Layer 5, the program: steps as objects: functions that write a block, or flush; a list of them is run.
-/
namespace Go.Proofs.YtjmjmekmaamclaaDoor.jrn
open Go.ChangeShapes Go.WideShapes Go.ChangeAt Go.RowKit mem dev sums
set_option linter.unusedVariables false

/-- one of several parts, to the front, and back -/
theorem many_pull {w wr : World} {L As : List Ast} (h : St w wr (aMany L :: As)) (k : Nat) (hk : k < L.length) : St w wr (L[k] :: aMany (L.take k ++ L.drop (k + 1)) :: As) := by
  have h1 := h.append
  have e : L ++ As = L.take k ++ L[k] :: (L.drop (k + 1) ++ As) := by
    rw [← List.cons_append, ← List.drop_eq_getElem_cons hk, ← List.append_assoc, List.take_append_drop]
  rw [e] at h1
  have h2 := h1.front
  rw [← List.append_assoc] at h2
  exact h2.rest fun V k => k.gather
theorem many_push {w wr : World} {L As : List Ast} (k : Nat) (hk : k < L.length) (h : St w wr (L[k] :: aMany (L.take k ++ L.drop (k + 1)) :: As)) : St w wr (aMany L :: As) := by
  have h1 := h.rest fun V k => k.ungather
  rw [List.append_assoc] at h1
  have h2 := h1.behind
  have e : L ++ As = L.take k ++ L[k] :: (L.drop (k + 1) ++ As) := by
    rw [← List.cons_append, ← List.drop_eq_getElem_cons hk, ← List.append_assoc, List.take_append_drop]
  rw [← e] at h2
  exact h2.gather
theorem many_swap {w wr : World} {L M As : List Ast} (h : St w wr (aMany L :: aMany M :: As)) : St w wr (aMany (L ++ M) :: As) := by
  have h1 := h.append
  have h2 := h1.gather
  have h3 : St w wr (L ++ (M ++ As)) := by
    have h4 := (St.gather (As := L) (Bs := aMany M :: As) h1).swap.append
    have h5 := St.gather (As := M) (Bs := aMany L :: As) h4
    exact (h5.swap.rest fun V k => k.ungather).append
  rw [← List.append_assoc] at h3
  exact h3.gather

abbrev tFn : TypeId := 28
theorem rowStp : RowOf 77 tFn Value.nilFunc 1 8 := ⟨Tryd.underlying77, by kernel_rfl, rfl, by decide⟩

/-- what a step's function is, and what it holds -/
def fnOf (X : Nat) (b1 b2 b3 : Nat) : Stp → Value
  | .wr _ _ => .func (Fn.func 57) #[] #[pt b1, pt b2, pt b3]
  | .fl => .func (Fn.func 27) #[pt X] #[]
def boxesOf (X : Nat) (R : Rg) (b1 b2 b3 : Nat) : Stp → List Ast
  | .wr n t => [aVar b1 (rgCells X R) 63, aVar b2 [.int .i64 (n : Int)] 3, aVar b3 [.string t] 9]
  | .fl => []
def aStp (X : Nat) (R : Rg) (fv : Value) (s : Stp) : Ast := aEx fun b : Nat × Nat × Nat => aAnd (fv = fnOf X b.1 b.2.1 b.2.2 s) (aMany (boxesOf X R b.1 b.2.1 b.2.2 s))
/-- a slice of steps -/
def aSteps (X : Nat) (R : Rg) (v : Value) (l : List Stp) : Ast :=
  aEx fun fvs : List Value => aAnd (fvs.length = l.length ∧ ∀ u ∈ fvs, u.oneCell' = true) (aMany [aRow tFn 1 v l.length fvs, aMany (List.zipWith (aStp X R) fvs l)])

section
variable {w wr : World} {As : List Ast} {R : Rg} {X : Nat} {D : DevM} {l : List Stp} {v : Value}
theorem steps_open (h : St w wr (aSteps X R v l :: As)) : ∃ fvs : List Value, (fvs.length = l.length ∧ ∀ u ∈ fvs, u.oneCell' = true) ∧ St w wr (aRow tFn 1 v l.length fvs :: aMany (List.zipWith (aStp X R) fvs l) :: As) := by
  obtain ⟨fvs, h⟩ := h.open'
  obtain ⟨a, h⟩ := h.know
  exact ⟨fvs, a, h.append⟩
theorem steps_shut (fvs : List Value) (a : fvs.length = l.length ∧ ∀ u ∈ fvs, u.oneCell' = true) (h : St w wr (aRow tFn 1 v l.length fvs :: aMany (List.zipWith (aStp X R) fvs l) :: As)) : St w wr (aSteps X R v l :: As) :=
  ((St.gather (As := [_, _]) h).tell a).shut fvs
theorem steps_nil (h : St w wr As) : St w wr (aSteps X R (.slice none 0 0) [] :: As) :=
  steps_shut [] ⟨rfl, fun u hu => (by cases hu)⟩ (st_pushrow (St.gather (As := []) h))
theorem stp_one (fv : Value) (s : Stp) (h : St w wr (aStp X R fv s :: As)) : fv.oneCell' = true := by
  obtain ⟨b, h⟩ := h.open'
  obtain ⟨e, _⟩ := h.know
  rw [e]
  cases s <;> rfl
/-- behind an append: the new functions' parts stand with the elder ones' -/
theorem steps_more {fvs gvs : List Value} {m : List Stp} {v' : Value} {n : Nat} (a : fvs.length = l.length ∧ ∀ u ∈ fvs, u.oneCell' = true) (b : gvs.length = m.length ∧ ∀ u ∈ gvs, u.oneCell' = true) (hn : n = (l ++ m).length)
    (h : St w wr (aRow tFn 1 v' n (fvs ++ gvs) :: aMany (List.zipWith (aStp X R) fvs l) :: aMany (List.zipWith (aStp X R) gvs m) :: As)) : St w wr (aSteps X R v' (l ++ m) :: As) := by
  subst hn
  refine steps_shut (fvs ++ gvs) ⟨by rw [List.length_append, List.length_append, a.1, b.1], fun u hu => ?_⟩ ?_
  · rcases List.mem_append.1 hu with h | h
    · exact a.2 u h
    · exact b.2 u h
  · rw [List.zipWith_append a.1]
    obtain ⟨U, h1, h2⟩ := h
    refine ⟨U, h1.tail fun V k => ?_, h2⟩
    obtain ⟨F, V1, k1, ⟨F2, V2, j1, j2, j3, j4⟩, k3, k4⟩ := k
    refine ⟨fun g => F g ∨ F2 g, V2, Sep.append j1 k1 fun g x y => k3 g x ((j4 g).2 (.inl y)), j2, fun g x y => ?_, fun g => by rw [k4, j4, or_assoc]⟩
    rcases x with x | x
    · exact k3 g x ((j4 g).2 (.inr y))
    · exact j3 g x y

/-- behind an append of one function, with the box of a loop's variable beside it -/
theorem steps_one {fvs : List Value} {fv : Value} {s : Stp} {v' : Value} {n : Nat} (a : fvs.length = l.length ∧ ∀ u ∈ fvs, u.oneCell' = true) (hn : n = l.length + 1)
    (h : St w wr (aRow tFn 1 v' n (fvs ++ [fv]) :: aStp X R fv s :: aMany (List.zipWith (aStp X R) fvs l) :: As)) : St w wr (aSteps X R v' (l ++ [s]) :: As) := by
  have h1 := (h.rest (Bs := _ :: _ :: As) fun V k => k.swap).third
  have hone := stp_one _ _ h1
  have h2 : St w wr (aMany [aStp X R fv s] :: ([_, _] ++ As)) := St.gather (As := [_]) h1
  have h3 := h2.behind
  exact steps_more a ⟨rfl, fun u hu => by rw [List.mem_singleton.1 hu]; exact hone⟩ (by rw [List.length_append, List.length_singleton]; exact hn) h3
theorem stp_fl (h : St w wr As) : St w wr (aStp X R (.func (Fn.func 27) #[pt X] #[]) .fl :: As) :=
  ((St.gather (As := []) h).tell rfl).shut (0, 0, 0)
theorem write_st (h : St w wr As) (n : Nat) (t : ByteArray) :
    Calls Tryd.prog 31 #[rgV X R, .int .i64 (n : Int), .string t] wr fun e w' => ∃ b1 b2 b3, e = .returned (.func (Fn.func 57) #[] #[pt b1, pt b2, pt b3]) ∧ St w w' (aStp X R (.func (Fn.func 57) #[] #[pt b1, pt b2, pt b3]) (.wr n t) :: As) := by
  have h1 := st_new (st_new (st_new h (rgCells X R) 63) [.int .i64 (n : Int)] 3) [.string t] 9
  simp only [World.size_alloc] at h1
  have H1 := Lib.hid h1
  clear h h1
  go_enter Tryd.func31, Tryd.ntmps31
  go_wp2_with fail
  go_ret
  refine ⟨_, _, _, rfl, ?_⟩
  exact ((St.gather (As := [_, _, _]) (H1.out.third.rest fun V k => k.swap)).tell (φ := _ = fnOf X wr.heap.size (wr.heap.size + 1) (wr.heap.size + 1 + 1) (.wr n t)) rfl).shut (wr.heap.size, wr.heap.size + 1, wr.heap.size + 1 + 1)

theorem write1_st {b1 b2 b3 n : Nat} {t : ByteArray} (h : St w wr (aVar b1 (rgCells X R) 63 :: aVar b2 [.int .i64 (n : Int)] 3 :: aVar b3 [.string t] 9 :: pDev X D :: As)) (hn : n ≤ 4096) (ht : t.size ≤ 4096) (hR : D.Room 1) :
    Calls Tryd.prog 57 #[pt b1, pt b2, pt b3] wr fun e w' => e = .returned (.int .i64 (D.write (n : Int) t).2) ∧ St w w' (aVar b1 (rgCells X R) 63 :: aVar b2 [.int .i64 (n : Int)] 3 :: aVar b3 [.string t] 9 :: pDev X (D.write (n : Int) t).1 :: As) := by
  have c0 : _ = some (pt X) := st_cell h 0
  have c1 : _ = some (Value.int .i64 (n : Int)) := st_cell h.swap 0
  have c2 : _ = some (Value.string t) := st_cell h.third 0
  have HW := Lib.hid (pwrite_any h.fourth (n : Int) t ⟨by omega, by omega⟩ (by omega) hR)
  clear h hn ht
  go_enter Tryd.func57, Tryd.ntmps57
  go_wp2_with (go_at_call 58; refine HW.out.mono ?_; rintro e w' ⟨rfl, h1⟩; have H1 := Lib.hid h1; clear h1)
  go_ret
  refine ⟨rfl, ?_⟩
  have h2 := St.behind (As := [_, _, _]) H1.out
  exact h2

theorem zip_len {α β γ : Type} {f : α → β → γ} {a : List α} {b : List β} (h : a.length = b.length) : (List.zipWith f a b).length = b.length := by rw [List.length_zipWith, h, Nat.min_self]

/-- a step at the front, the device behind it -/
theorem step_call {fv : Value} {s : Stp} (h : St w wr (aStp X R fv s :: pDev X D :: As)) (hs : s.Ok D.nb (512 * D.ns)) (a : D.Ok) (hR : D.Room 1) :
    (∃ b1 b2 b3, fv = .func (Fn.func 57) #[] #[pt b1, pt b2, pt b3] ∧ Calls Tryd.prog 57 #[pt b1, pt b2, pt b3] wr fun e w' => e = .returned (.int .i64 (s.does D).2) ∧ St w w' (aStp X R fv s :: pDev X (s.does D).1 :: As)) ∨
    (fv = .func (Fn.func 27) #[pt X] #[] ∧ Calls Tryd.prog 27 #[pt X] wr fun e w' => e = .returned (.int .i64 (s.does D).2) ∧ St w w' (aStp X R fv s :: pDev X (s.does D).1 :: As)) := by
  obtain ⟨⟨b1, b2, b3⟩, h⟩ := h.open'
  obtain ⟨e, h⟩ := h.know
  have h : St w wr (aMany (boxesOf X R b1 b2 b3 s) :: pDev X D :: As) := h
  have e : fv = fnOf X b1 b2 b3 s := e
  cases s with
  | wr n t =>
    have hn := a.nb1
    have hz := a.ns1
    obtain ⟨s1, s2⟩ := hs
    refine .inl ⟨_, _, _, e, (write1_st h.append (by omega) (by omega) hR).mono fun e' w' k => ⟨k.1, ?_⟩⟩
    exact ((St.gather (As := [_, _, _]) k.2).tell e).shut (b1, b2, b3)
  | fl =>
    refine .inr ⟨e, (pflush_any (h.append) hR).mono fun e' w' k => ⟨k.1, ?_⟩⟩
    exact ((St.gather (As := []) k.2).tell e).shut (b1, b2, b3)
end
end Go.Proofs.YtjmjmekmaamclaaDoor.jrn
/-
  Layer 5, the program: a list of steps is run.
-/
namespace Go.Proofs.YtjmjmekmaamclaaDoor.jrn
open Go.ChangeShapes Go.WideShapes Go.ChangeAt Go.RowKit mem dev sums
set_option linter.unusedVariables false

theorem room_less' {D : DevM} {k m : Nat} (h : D.Room k) (hm : m ≤ k) : D.Room m := ⟨by have := h.calls; omega, by have := h.reads; omega, by have := h.cache; omega⟩

section
variable {w wr : World} {As : List Ast} {R : Rg} {X : Nat} {D : DevM} {l : List Stp} {v : Value}
/-- between two steps -/
structure Mid (D E : DevM) (l : List Stp) (k : Nat) : Prop where
  run : runS D l = runS E (l.drop k)
  up : E.down = false
  ok : E.Ok
  nb : E.nb = D.nb
  ns : E.ns = D.ns
  room : E.Room (l.length - k)
theorem mids_more {E : DevM} {k : Nat} (m : Mid D E l k) (hk : k < l.length) (hl : ∀ s ∈ l, s.Ok D.nb (512 * D.ns)) :
    ((l[k].does E).2 = 0 ∧ Mid D (l[k].does E).1 l (k + 1)) ∨ ((l[k].does E).2 = 8 ∧ runS D l = l[k].does E) := by
  have e : runS D l = if (l[k].does E).2 = 0 then runS (l[k].does E).1 (l.drop (k + 1)) else l[k].does E := by
    rw [m.run, List.drop_eq_getElem_cons hk]; rfl
  rcases step_cases E l[k] m.up (by rw [m.nb, m.ns]; exact hl _ (List.getElem_mem hk)) m.ok with ⟨h0, w⟩ | ⟨h8, f⟩
  · refine .inl ⟨h0, ⟨by rw [e, if_pos h0], w.up, w.ok, w.nb.trans m.nb, w.ns.trans m.ns, ⟨?_, ?_, ?_⟩⟩⟩
    · have := m.room.calls; rw [w.calls, List.length_singleton]; omega
    · have := m.room.reads; rw [w.reads]; omega
    · have := m.room.cache; have := w.cl; rw [List.length_singleton] at this; omega
  · exact .inr ⟨h8, by rw [e, if_neg (by rw [h8]; decide)]⟩

set_option maxHeartbeats 1000000 in
theorem run_st (h : St w wr (aSteps X R v l :: pDev X D :: As)) (hup : D.down = false) (hl : ∀ s ∈ l, s.Ok D.nb (512 * D.ns)) (a : D.Ok) (hR : D.Room l.length) (hlen : l.length ≤ 1073741824) :
    Calls Tryd.prog 34 #[v] wr fun e w' => e = .returned (.int .i64 (runS D l).2) ∧ St w w' (pDev X (runS D l).1 :: As) := by
  obtain ⟨fvs, hf, h⟩ := steps_open h
  obtain ⟨ao, cap, rfl⟩ := st_shape h
  have H0 := Lib.hid h
  have HF := Lib.hid hf
  have HL := Lib.hid hl
  have HM : Hid (Mid D D l 0) := Lib.hid ⟨by rw [List.drop_zero], hup, a, rfl, rfl, hR⟩
  have l0 : (l.length : Int) ≤ 1073741824 := by omega
  clear h hf hl hup a hR hlen
  go_enter Tryd.func34, Tryd.ntmps34
  go_wp2_with fail
  go_loopw [8] (fun i W => ∃ k : Nat, k ≤ l.length ∧ i = .int .i64 ↑k ∧ ∃ E, Mid D E l k ∧ St w W (aRow tFn 1 (.slice ao l.length cap) l.length fvs :: aMany (List.zipWith (aStp X R) fvs l) :: pDev X E :: As)) (fun i _ => l.length - (intOf i).toNat)
  case atStart => exact ⟨0, Nat.zero_le _, rfl, D, HM.out, H0.out⟩
  case round =>
    obtain ⟨k, hk, rfl, E, hm, hst⟩ := hrel
    clear H0 HM
    by_cases hlt : k < l.length
    · obtain ⟨g, cap', hv, _⟩ := st_form hst (by omega)
      cases hv
      have hlf : k < fvs.length := by rw [HF.out.1]; exact hlt
      have hc := st_at hst rfl k (by omega)
      rw [List.getElem?_eq_getElem hlf] at hc
      have hz : k < (List.zipWith (aStp X R) fvs l).length := by rw [zip_len HF.out.1]; exact hlt
      have hp := many_pull hst.swap k hz
      rw [List.getElem_zipWith] at hp
      have hq := hp.rest (Bs := _ :: _ :: _ :: As) fun V k => (k.tail fun V k => k.swap).swap
      have HBK : Hid (∀ W E', St w W (aStp X R fvs[k] l[k] :: pDev X E' :: aMany (List.take k (List.zipWith (aStp X R) fvs l) ++ List.drop (k + 1) (List.zipWith (aStp X R) fvs l)) :: aRow tFn 1 (.slice (some ⟨g, 0, none⟩) l.length cap) l.length fvs :: As) → St w W (aRow tFn 1 (.slice (some ⟨g, 0, none⟩) l.length cap) l.length fvs :: aMany (List.zipWith (aStp X R) fvs l) :: pDev X E' :: As)) := Lib.hid fun W E' k' => by
        have h1 := k'.rest (Bs := _ :: _ :: _ :: As) fun V k => (k.swap).tail fun V k => k.swap
        have h2 : St w W ((List.zipWith (aStp X R) fvs l)[k] :: aMany (List.take k (List.zipWith (aStp X R) fvs l) ++ List.drop (k + 1) (List.zipWith (aStp X R) fvs l)) :: aRow tFn 1 (.slice (some ⟨g, 0, none⟩) l.length cap) l.length fvs :: pDev X E' :: As) := by rw [List.getElem_zipWith]; exact h1
        exact (many_push k hz h2).swap
      have hcall := step_call hq (by rw [hm.nb, hm.ns]; exact HL.out _ (List.getElem_mem hlt)) hm.ok (room_less' hm.room (by omega))
      have HMM := Lib.hid (mids_more hm hlt HL.out)
      have HCALL := Lib.hid hcall
      have n1 : (k : Int) < l.length := by omega
      clear hst hp hq hcall hm
      generalize fvs[k] = fv at HBK HCALL hc
      generalize l[k] = s at HBK HMM HCALL
      clear hlf hz
      have hca := HCALL.out
      clear HCALL
      rcases hca with ⟨b1, b2, b3, hfv, hcall⟩ | ⟨hfv, hcall⟩
      · subst hfv
        have HCALL := Lib.hid hcall
        clear hcall
        rcases HMM.out with ⟨h0, hm⟩ | ⟨h8, hr⟩
        · have HM := Lib.hid hm
          rw [h0] at HCALL
          clear HMM hm h0
          go_wp2_with (go_at_call 57; refine HCALL.out.mono ?_; rintro e w1 ⟨rfl, h1⟩; have H1 := Lib.hid (HBK.out _ _ h1); clear h1)
          go_roundw
          case rel => exact ⟨k + 1, by omega, by go_num, _, HM.out, H1.out⟩
          case measure => simp [intOf] <;> omega
        · have HR := Lib.hid hr
          rw [h8] at HCALL
          have HH := Lib.hid h8
          clear HMM hr h8
          go_wp2_with (go_at_call 57; refine HCALL.out.mono ?_; rintro e w1 ⟨rfl, h1⟩; have H1 := Lib.hid (HBK.out _ _ h1); clear h1)
          go_ret
          exact ⟨by rw [HR.out, HH.out]; rfl, by rw [HR.out]; exact H1.out.drop.drop⟩
      · subst hfv
        have HCALL := Lib.hid hcall
        clear hcall
        rcases HMM.out with ⟨h0, hm⟩ | ⟨h8, hr⟩
        · have HM := Lib.hid hm
          rw [h0] at HCALL
          clear HMM hm h0
          go_wp2_with (go_at_call 27; refine HCALL.out.mono ?_; rintro e w1 ⟨rfl, h1⟩; have H1 := Lib.hid (HBK.out _ _ h1); clear h1)
          go_roundw
          case rel => exact ⟨k + 1, by omega, by go_num, _, HM.out, H1.out⟩
          case measure => simp [intOf] <;> omega
        · have HR := Lib.hid hr
          rw [h8] at HCALL
          have HH := Lib.hid h8
          clear HMM hr h8
          go_wp2_with (go_at_call 27; refine HCALL.out.mono ?_; rintro e w1 ⟨rfl, h1⟩; have H1 := Lib.hid (HBK.out _ _ h1); clear h1)
          go_ret
          exact ⟨by rw [HR.out, HH.out]; rfl, by rw [HR.out]; exact H1.out.drop.drop⟩
    · obtain rfl : k = l.length := by omega
      have hd : runS D l = (E, 0) := by rw [hm.run, List.drop_length]; rfl
      have HD := Lib.hid hd
      have HS := Lib.hid hst.drop.drop
      clear hst hm hlt hk hd
      go_wp2_with fail
      go_ret
      exact ⟨by rw [HD.out]; rfl, by rw [HD.out]; exact HS.out⟩
end
end Go.Proofs.YtjmjmekmaamclaaDoor.jrn
/-
  Layer 5, the program: descriptor, record.
-/
namespace Go.Proofs.YtjmjmekmaamclaaDoor.jrn
open Go.ChangeShapes Go.WideShapes Go.ChangeAt Go.RowKit mem dev sums
set_option linter.unusedVariables false

theorem bld_at {T e : TypeId} {B b : Nat} {p : Value} {bs : List Value} {W W' : World} (h : Lib.BuilderAt T e B b p bs W) (hc : Ch0 W W') : Lib.BuilderAt T e B b p bs W' := by
  obtain ⟨hB, v, hb, hown, hne⟩ := h
  exact ⟨hB, v, by rw [hc.block b (lt_of_block hb) (fun h => h)]; exact hb, row_kept hown hc fun _ _ h => h, hne⟩
theorem bld_keep {T e : TypeId} {B b : Nat} {bs : List Value} {W W' : World} (h : Lib.IsBuilder T e B b bs W) (hc : Ch0 W W') : Lib.IsBuilder T e B b bs W' := h.imp (fun h => bld_at h hc) (fun h => bld_at h hc)
theorem strCells_bytes (s : ByteArray) : Lib.strCells s = Lib.byteCells s.data.toList := rfl

/-- a slice of numbers of 32 bits, wherever it lies -/
def U32In (W : World) (v : Value) (ts : List Nat) : Prop :=
  ∃ ao cap, v = .slice ao ts.length cap ∧ ∀ i (hi : i < ts.length), ∃ b o, ao = some ⟨b, o, none⟩ ∧ W.cell? ⟨b, o + i, none⟩ = some (.int .u32 (ts[i] : Nat))
def descL (n : Nat) (ts : List Nat) (k : Nat) : ByteArray := mkD ++ be 8 n ++ be 4 ts.length ++ tgts (ts.take k)
theorem descL_more (n : Nat) (ts : List Nat) (k : Nat) (h : k < ts.length) : descL n ts (k + 1) = descL n ts k ++ be 4 ts[k] := by
  unfold descL
  have e : tgts (ts.take (k + 1)) = tgts (ts.take k) ++ be 4 ts[k] := by
    rw [List.take_succ_eq_append_getElem h]
    apply ba_ext
    rw [app_data]
    show (List.take k ts ++ [ts[k]]).flatMap (fun t => beL 4 t) = (List.take k ts).flatMap (fun t => beL 4 t) ++ beL 4 ts[k]
    rw [List.flatMap_append, List.flatMap_cons, List.flatMap_nil, List.append_nil]
  rw [e, ← ByteArray.append_assoc]
theorem descL_size (n : Nat) (ts : List Nat) (k : Nat) (h : k ≤ ts.length) : (descL n ts k).size = 16 + 4 * k := by
  unfold descL
  simp only [ByteArray.size_append, be_size, tgts_size, mkD_size, List.length_take]
  omega

set_option maxHeartbeats 1000000 in
set_option maxRecDepth 8000 in
theorem descriptor_any (w : World) (g : Halves w) (n : Nat) (hn : n < 18446744073709551616) (ts : List Nat) (v : Value) (hv : U32In w v ts) (ht : ∀ t ∈ ts, t < 4294967296) (z : Nat) (hz : 20 + 4 * ts.length ≤ z) (hz2 : z ≤ 4096) :
    Calls Tryd.prog 83 #[.int .u64 (n : Int), v, .int .i64 (z : Int)] w fun e w' => e = .returned (.string (descB n ts z)) ∧ Ch0 w w' := by
  obtain ⟨ao, cap, rfl, hc⟩ := hv
  have h0 : Lib.IsBuilder 121 5 w.heap.size w.heap.size [] (w.alloc (.cells #[.pointer none, .slice none 0 0] 121)) := Lib.fresh_isBuilder 121 5 w
  have b0 : Ch0 w (w.alloc (.cells #[.pointer none, .slice none 0 0] 121)) := (Ch.refl _ w).alloc _
  have H0 := Lib.hid h0
  have B0 := Lib.hid b0
  have HC := Lib.hid hc
  have HT := Lib.hid ht
  have HN := Lib.hid hn
  have HG := Lib.hid g
  have HZ := Lib.hid hz
  have HZ2 := Lib.hid hz2
  have hlen : ts.length ≤ 1024 := by omega
  have l0 : (ts.length : Int) ≤ 1024 := by omega
  have s8 : (beI 8 n).size = 8 := be_size 8 n
  have s4 : (beI 4 ts.length).size = 4 := be_size 4 ts.length
  have g0 : ¬ 9223372036854775807 < 4 + (beI 8 n).size := by omega
  have g1 : ¬ 9223372036854775807 < 4 + (beI 8 n).size + (beI 4 ts.length).size := by omega
  have HL : Hid (ts.length < 18446744073709551616) := Lib.hid (by omega)
  have HD0 : Hid ((⟨#[87, 74, 68, 49]⟩ : ByteArray) ++ beI 8 n ++ beI 4 ts.length = descL n ts 0) := Lib.hid (by
    show mkD ++ be 8 n ++ be 4 ts.length = _
    unfold descL
    apply ba_ext
    simp [tgts])
  have HSZ0 : Hid (((⟨#[87, 74, 68, 49]⟩ : ByteArray) ++ beI 8 n ++ beI 4 ts.length).size ≤ 4096) := Lib.hid (by rw [HD0.out, descL_size _ _ _ (by omega)]; omega)
  have e0 : IntKind.u64.wrap (ts.length : Int) = ts.length := by rw [IntKind.wrap_u64]; omega
  clear hc h0 b0 ht hn g hz hz2 s8 s4
  go_enter Tryd.func83, Tryd.ntmps83
  go_upto_block 1 with (first
    | ((go_at_call 60; refine (bytesI_st (by first | exact HB1.out | exact St.nil (Ch.refl _ _)) _ _ (by first | exact .inl rfl | exact .inr rfl) (by first | exact HN.out | exact HL.out)).mono ?_; rintro e w2 ⟨rfl, hst⟩; have HB1 := Lib.hid hst; clear hst))
    | ((go_at_call 68; refine (Tryd.Builder_WriteString w.heap.size w.heap.size [] _ _ (bld_keep H0.out HB1.out.ch) (by have := HSZ0.out; show 0 + _ ≤ _; omega) (B0.out.trans HB1.out.ch fun _ h => h.elim).size).mono ?_; rintro e W2 ⟨rfl, h2, b2⟩; have H2 := Lib.hid h2; have B2 := Lib.hid b2; clear h2 b2)))
  have c2 : Ch0 w W2 := Ch.of_below ((B0.out.trans HB1.out.ch fun _ h => h.elim).below.trans B2.out)
  have C2 := Lib.hid c2
  have HK : Hid (Lib.IsBuilder 121 5 w.heap.size w.heap.size (Lib.byteCells (descL n ts 0).data.toList) W2) := Lib.hid (by
    have := H2.out
    rw [HD0.out] at this
    exact .inr this)
  clear c2 H2 B2 HB1 H0 B0 HD0 HSZ0 HL
  go_loopw [21] (fun i W => ∃ k : Nat, k ≤ ts.length ∧ i = .int .i64 ↑k ∧ Lib.IsBuilder 121 5 w.heap.size w.heap.size (Lib.byteCells (descL n ts k).data.toList) W ∧ Ch0 w W) (fun i _ => ts.length - (intOf i).toNat)
  case atStart => exact ⟨0, Nat.zero_le _, rfl, HK.out, C2.out⟩
  case round =>
    obtain ⟨k, hk, rfl, h1, b1⟩ := hrel
    clear HK C2
    by_cases hlt : k < ts.length
    · obtain ⟨b, o, rfl, hcell⟩ := HC.out k hlt
      have hcell := b1.cell hcell
      have HTK := Lib.hid (HT.out _ (List.getElem_mem hlt))
      have HM := Lib.hid (descL_more n ts k hlt)
      have hsz := descL_size n ts k hk
      have H1 := Lib.hid h1
      have B1 := Lib.hid b1
      have HSZ : Hid ((Lib.byteCells (descL n ts k).data.toList).length + 4 ≤ 140737488355328) := Lib.hid (by rw [Lib.byteCells_length, data_len, hsz]; omega)
      have n1 : (k : Int) < ts.length := by omega
      generalize ts[k] = t at hcell HTK HM
      have HB4 : Hid ((beI 4 t).size = 4) := Lib.hid (be_size 4 t)
      have t0 : (0 : Int) ≤ t := by omega
      have t1 : (t : Int) ≤ 4294967295 := by have := HTK.out; omega
      have HT64 : Hid (t < 18446744073709551616) := Lib.hid (by have := HTK.out; omega)
      clear h1 b1 hsz
      go_wp2_with (first
        | ((go_at_call 60; refine (bytesI_st (St.nil (Ch.refl _ wr)) _ _ (.inl rfl) HT64.out).mono ?_; rintro e w2 ⟨rfl, hst⟩; have HB1 := Lib.hid hst; clear hst))
        | ((go_at_call 68; refine (Tryd.Builder_WriteString w.heap.size w.heap.size _ _ _ (bld_keep H1.out HB1.out.ch) (by have := HSZ.out; rw [HB4.out]; exact this) (B1.out.trans HB1.out.ch fun _ h => h.elim).size).mono ?_; rintro e W2 ⟨rfl, h2, b2⟩; have H2 := Lib.hid h2; have B2 := Lib.hid b2; clear h2 b2)))
      go_roundw
      case rel => exact ⟨k + 1, by omega, by go_num, by
        rw [HM.out, app_data, Lib.byteCells_append]
        exact .inr H2.out, Ch.of_below ((B1.out.trans HB1.out.ch fun _ h => h.elim).below.trans B2.out)⟩
      case measure => simp [intOf] <;> omega
    · obtain rfl : k = ts.length := by omega
      have H1 := Lib.hid h1
      have B1 := Lib.hid b1
      have HDT : Hid (descL n ts ts.length = descT n ts) := Lib.hid (by unfold descL descT; rw [List.take_of_length_le (Nat.le_refl _)])
      have hstr := Tryd.Builder_String_any w.heap.size w.heap.size _ _ h1 b1.size
      rw [← bytes_mk, HDT.out] at hstr
      have HSTR := Lib.hid hstr
      clear h1 b1 hk hlt hstr
      go_wp2_with (first
        | ((go_at_call 70; refine HSTR.out.mono ?_; rintro e w' ⟨rfl, b2⟩; have B2 : Hid (Ch0 w w') := Lib.hid (Ch.of_below (B1.out.below.trans b2)); clear b2))
        | ((go_at_call 59; refine (summed_st (w0 := w) HG.out (St.nil B2.out) (descT n ts) z (by rw [descT_size]; have := HZ.out; omega) HZ2.out).mono ?_; rintro e w3 ⟨rfl, h3⟩; have H3 := Lib.hid h3; clear h3)))
      go_ret
      exact ⟨rfl, H3.out.ch⟩
end Go.Proofs.YtjmjmekmaamclaaDoor.jrn
/-
  Layer 5, the program: record.
-/
namespace Go.Proofs.YtjmjmekmaamclaaDoor.jrn
open Go.ChangeShapes Go.WideShapes Go.ChangeAt Go.RowKit mem dev sums
set_option linter.unusedVariables false

abbrev flatB (l : List ByteArray) : List UInt8 := l.flatMap fun t => t.data.toList
theorem crc_more (l : List ByteArray) (k : Nat) (h : k < l.length) : onM (crcM (flatB (l.take k))) l[k].data.toList = crcM (flatB (l.take (k + 1))) := by
  have e : flatB (l.take (k + 1)) = flatB (l.take k) ++ l[k].data.toList := by
    unfold flatB
    rw [List.take_succ_eq_append_getElem h, List.flatMap_append, List.flatMap_cons, List.flatMap_nil, List.append_nil]
  rw [e]
  exact (onM_append 0 _ _).symm

set_option maxHeartbeats 1000000 in
set_option maxRecDepth 8000 in
theorem record_any (w : World) (g : Halves w) (n : Nat) (hn : n < 18446744073709551616) (l : List ByteArray) (v : Value) (hv : StrsIn w v l) (hl : l.length ≤ 1024) (hs : ∀ t ∈ l, t.size ≤ 4096) (z : Nat) (hz : 16 ≤ z) (hz2 : z ≤ 4096) :
    Calls Tryd.prog 79 #[.int .u64 (n : Int), v, .int .i64 (z : Int)] w fun e w' => e = .returned (.string (recB n l z)) ∧ Ch0 w w' := by
  obtain ⟨ao, cap, rfl, hc⟩ := hv
  have HC := Lib.hid hc
  have HN := Lib.hid hn
  have HG := Lib.hid g
  have HS := Lib.hid hs
  have HZ := Lib.hid hz
  have HZ2 := Lib.hid hz2
  have l0 : (l.length : Int) ≤ 1024 := by omega
  have h0 := crc_prog ⟨#[]⟩ (by decide) w g
  have e0 : crcM (⟨#[]⟩ : ByteArray).data.toList = crcM (flatB (l.take 0)) := by simp [flatB]
  rw [e0] at h0
  have H0 := Lib.hid h0
  clear hc hn g hl hs hz hz2 h0 e0
  go_enter Tryd.func79, Tryd.ntmps79
  go_upto_block 1 with (go_at_call 80; refine H0.out.mono ?_; rintro e w1 ⟨rfl, hb⟩; have C1 : Hid (Ch0 w w1) := Lib.hid (Ch.of_below hb); clear hb)
  clear H0
  go_loopw [7, 13] (fun x i W => ∃ k : Nat, k ≤ l.length ∧ i = .int .i64 ↑k ∧ x = .int .u32 ((crcM (flatB (l.take k)) : Nat) : Int) ∧ Ch0 w W) (fun _ i _ => l.length - (intOf i).toNat)
  case atStart => exact ⟨0, Nat.zero_le _, rfl, rfl, C1.out⟩
  case round =>
    obtain ⟨k, hk, rfl, rfl, b1⟩ := hrel
    clear C1
    by_cases hlt : k < l.length
    · obtain ⟨b, o, rfl, hcell⟩ := HC.out k hlt
      have hcell := b1.cell hcell
      have HSK := Lib.hid (HS.out _ (List.getElem_mem hlt))
      have HM := Lib.hid (crc_more l k hlt)
      have B1 := Lib.hid b1
      have n1 : (k : Int) < l.length := by omega
      have HCL := Lib.hid (crc_lt (flatB (l.take k)))
      generalize crcM (flatB (l.take k)) = c at HM HCL
      generalize l[k] = t at hcell HSK HM
      have HON := Lib.hid (on_prog c t HCL.out (by have := HSK.out; omega) wr (HG.out.keep b1.below))
      clear b1
      go_wp2_with ((go_at_call 93; refine HON.out.mono ?_; rintro e w2 ⟨rfl, b2⟩; have B2 : Hid (Ch0 w w2) := Lib.hid (B1.out.trans (Ch.of_below b2) fun _ h => h.elim); clear b2))
      go_roundw
      case rel => exact ⟨k + 1, by omega, by go_num, by rw [HM.out], B2.out⟩
      case measure => simp [intOf] <;> omega
    · obtain rfl : k = l.length := by omega
      rw [List.take_of_length_le (Nat.le_refl _)]
      have B1 := Lib.hid b1
      have hcl := crc_lt (flatB l)
      have HR : Hid (recB n l z = pad (begC n ++ beI 4 (crcM (flatB l))) z) := Lib.hid rfl
      have hsz : (begC n ++ beI 4 (crcM (flatB l))).size = 16 := by
        rw [ByteArray.size_append, begC_size]; show 12 + (be 4 _).size = 16; rw [be_size]
      have HSZ := Lib.hid hsz
      generalize crcM (flatB l) = c at HR HSZ hcl hsz
      have HCL : Hid (c < 18446744073709551616) := Lib.hid (by omega)
      have c0 : (0 : Int) ≤ c := by omega
      have c1 : (c : Int) ≤ 4294967295 := by omega
      have g0 : ¬ 9223372036854775807 < (begC n).size + (beI 4 c).size := by rw [ByteArray.size_append] at hsz; omega
      clear b1 hk hlt hcl hsz
      go_wp2_with (first
        | ((go_at_call 92; refine (beginning_st (St.nil B1.out) n HN.out).mono ?_; rintro e w2 ⟨rfl, hst⟩; have HB1 := Lib.hid hst; clear hst))
        | ((go_at_call 60; refine (bytesI_st HB1.out _ _ (.inl rfl) HCL.out).mono ?_; rintro e w3 ⟨rfl, hst⟩; have HB2 := Lib.hid hst; clear hst))
        | ((go_at_call 32; refine (filled_st HB2.out (begC n ++ beI 4 c) z (by have := HSZ.out; have := HZ.out; omega) HZ2.out).mono ?_; rintro e w4 ⟨rfl, hst⟩; have HB3 := Lib.hid hst; clear hst)))
      go_ret
      exact ⟨by rw [HR.out]; rfl, HB3.out.ch⟩
end Go.Proofs.YtjmjmekmaamclaaDoor.jrn
/-
  Layer 5, the program: home: the steps that write blocks to their places.
-/
namespace Go.Proofs.YtjmjmekmaamclaaDoor.jrn
open Go.ChangeShapes Go.WideShapes Go.ChangeAt Go.RowKit mem dev sums
set_option linter.unusedVariables false

/-- a slice of writes, wherever it lies -/
def WrsIn (W : World) (v : Value) (l : List Wr) : Prop :=
  ∃ ao cap, v = .slice ao l.length cap ∧ ∀ i (hi : i < l.length), ∃ b o, ao = some ⟨b, o, none⟩ ∧ W.cell? ⟨b, o + i * 2, none⟩ = some (.int .i64 (l[i].1 : Int)) ∧ W.cell? ⟨b, o + i * 2 + 1, none⟩ = some (.string l[i].2)
theorem wrs_take (l : List Wr) (k : Nat) (h : k < l.length) : wrs (l.take (k + 1)) = wrs (l.take k) ++ [.wr l[k].1 l[k].2] := by
  unfold wrs
  rw [List.take_succ_eq_append_getElem h, List.map_append]
  rfl
theorem wrs_len (l : List Wr) : (wrs l).length = l.length := by simp [wrs]

section
variable {w wr : World} {As : List Ast} {R : Rg} {X : Nat}
theorem home_lit (W : World) (b : Nat) (v : Value) (ty : TypeId) : ∀ j u, [v][j]? = some u → (W.alloc (.cells #[v] ty)).cell? ((⟨W.heap.size, 0, none⟩ : Addr).add j) = some u := by
  intro j u hj
  rw [Addr.add_mid, Nat.zero_add, cell_of_row _ _ _ _ _ _ (heap_alloc_new W _)]
  simpa using hj
set_option maxHeartbeats 1000000 in
set_option maxRecDepth 8000 in
/-- the writes lie in a world of which wr's objects are made -/
theorem home_st (h : St w wr As) (l : List Wr) (v : Value) (hv : ∀ W Bs, St w W (Bs ++ As) → WrsIn W v l) (hl : l.length ≤ 1024) :
    Calls Tryd.prog 56 #[rgV X R, v] wr fun e w' => ∃ u, e = .returned u ∧ St w w' (aSteps X R u (wrs l) :: As) := by
  obtain ⟨ao, cap, rfl, _⟩ := hv wr [] h
  have h1 := st_new h (rgCells X R) 63
  have H1 := Lib.hid (steps_nil (X := X) (R := R) h1)
  have HV := Lib.hid hv
  have l0 : (l.length : Int) ≤ 1024 := by omega
  have HL := Lib.hid hl
  clear h h1 hv hl
  go_enter Tryd.func56, Tryd.ntmps56
  go_upto_block 1 with fail
  generalize wr.heap.size = B at H1 ⊢
  go_loopw [5, 10] (fun u i W => ∃ k : Nat, k ≤ l.length ∧ i = .int .i64 ↑k ∧ St w W (aSteps X R u (wrs (l.take k)) :: aVar B (rgCells X R) 63 :: As)) (fun _ i _ => l.length - (intOf i).toNat)
  case atStart => exact ⟨0, Nat.zero_le _, rfl, H1.out⟩
  case round =>
    obtain ⟨k, hk, rfl, hst⟩ := hrel
    clear H1
    by_cases hlt : k < l.length
    · have hx : ∃ b o, ao = some ⟨b, o, none⟩ ∧ wr.cell? ⟨b, o + k * 2, none⟩ = some (.int .i64 (l[k].1 : Int)) ∧ wr.cell? ⟨b, o + k * 2 + 1, none⟩ = some (.string l[k].2) := by
        obtain ⟨ao', cap', hv', hc⟩ := HV.out _ [_, _] hst
        cases hv'
        exact hc k hlt
      obtain ⟨b, o, rfl, hc0, hc1⟩ := hx
      have HT := Lib.hid (wrs_take l k hlt)
      obtain ⟨fvs, ha, hst⟩ := steps_open hst
      obtain ⟨so, sc, rfl⟩ := st_shape hst
      have hwl := wrs_len (l.take k)
      have HA := Lib.hid ha
      have HST := Lib.hid hst
      have n1 : (k : Int) < l.length := by omega
      generalize l[k] = x at hc0 hc1 HT
      obtain ⟨n, d⟩ := x
      have h2 := st_new hst [.int .i64 (n : Int), .string d] 39
      have r0 : (wr.alloc (.cells #[.int .i64 (n : Int), .string d] 39)).cell? ⟨B, 0, none⟩ = some (pt X) := st_cell h2.fourth 0
      have r1 : (wr.alloc (.cells #[.int .i64 (n : Int), .string d] 39)).cell? ⟨B, 1, none⟩ = some (.int .i64 (R.st : Int)) := st_cell h2.fourth 1
      have r2 : (wr.alloc (.cells #[.int .i64 (n : Int), .string d] 39)).cell? ⟨B, 2, none⟩ = some (.int .i64 (R.ln : Int)) := st_cell h2.fourth 2
      have H2 := Lib.hid h2
      have lk : (wrs (l.take k)).length ≤ 1024 := by rw [hwl, List.length_take]; have := HL.out; omega
      have HLK := Lib.hid lk
      clear ha hst h2 hwl lk
      go_wp2_with (first
        | ((go_at_call 31; refine (write_st H2.out n d).mono ?_; rintro e w2 ⟨b1, b2, b3, rfl, hst⟩; have H3 := Lib.hid hst; clear hst))
        | ((refine lst_append rowStp (H3.out.third.alloc _) rfl _ _ rfl rfl ⟨w2.heap.size, 0, none⟩ 1 1 _ rfl rfl (home_lit w2 0 _ _) (by intro u hu; rw [List.mem_singleton.1 hu]; rfl) (by decide) (by have := HLK.out; unfold maxLen; omega) (by have := HLK.out; omega) ?_; intro g4 cap4 w4 hst4 _; have HN := Lib.hid hst4; clear hst4)))
      go_roundw
      case rel => exact ⟨k + 1, by omega, by go_num, by
        rw [HT.out]
        exact steps_one HA.out rfl HN.out.third.drop⟩
      case measure => simp [intOf] <;> omega
    · obtain rfl : k = l.length := by omega
      rw [List.take_of_length_le (Nat.le_refl _)] at hst
      have HS := Lib.hid hst.swap.drop
      clear hst hlt hk
      go_wp2_with fail
      go_ret
      exact ⟨_, rfl, HS.out⟩
end
end Go.Proofs.YtjmjmekmaamclaaDoor.jrn
/-
  Layer 5, the program: mayWrite; a set of numbers as an object.
-/
namespace Go.Proofs.YtjmjmekmaamclaaDoor.jrn
open Go.ChangeShapes Go.WideShapes Go.ChangeAt Go.RowKit mem dev sums
set_option linter.unusedVariables false

/-- how many are unlike, the last one first -/
def dcR : List Nat → Nat
  | [] => 0
  | n :: l => if n ∈ l then dcR l else dcR l + 1
theorem dcR_le : ∀ l, dcR l ≤ l.length
  | [] => Nat.le_refl _
  | n :: l => by have := dcR_le l; unfold dcR; rw [List.length_cons]; split <;> omega
theorem dcR_nodup : ∀ l, dcR l = l.length ↔ l.Nodup
  | [] => by simp [dcR]
  | n :: l => by
    have h1 := dcR_le l
    have h2 := dcR_nodup l
    rw [List.nodup_cons, List.length_cons]
    unfold dcR
    by_cases c : n ∈ l
    · rw [if_pos c]; exact ⟨fun h => by omega, fun h => absurd c h.1⟩
    · rw [if_neg c]; exact ⟨fun h => ⟨c, h2.1 (by omega)⟩, fun h => by rw [h2.2 h.2]⟩
def dc (l : List Nat) : Nat := dcR l.reverse
theorem dc_snoc (l : List Nat) (n : Nat) : dc (l ++ [n]) = if n ∈ l then dc l else dc l + 1 := by
  unfold dc
  rw [List.reverse_append, List.reverse_singleton, List.singleton_append, dcR]
  simp
theorem dc_nodup (l : List Nat) : dc l = l.length ↔ l.Nodup := by
  unfold dc
  rw [← List.length_reverse, dcR_nodup]
  exact (List.reverse_perm l).nodup_iff

def SetAt (w : World) (b : Nat) (ks : List Nat) : Prop := ∃ D, w.ownsMap Tryd.prog 3 raw b ks.length D ∧ Go.Maps.Tidy D ∧ (∀ n, n ≤ 9223372036854775807 → Maps.has D (ky n) = decide (n ∈ ks)) ∧ Maps.size D = dc ks
def aSet (b : Nat) (ks : List Nat) : Ast :=
  ⟨fun w F => SetAt w b ks ∧ ∀ g, F g ↔ g.1 = b, fun ⟨h, hF⟩ hc hd => ⟨by
      obtain ⟨D, h1, h2⟩ := h
      exact ⟨D, map_blk h1 (hc.block b h1.lt (hd (b, []) ((hF _).2 rfl))), h2⟩, hF⟩, fun h g hg => by rw [(h.2 g).1 hg]; obtain ⟨D, h1, _⟩ := h.1; exact h1.lt⟩

section
variable {w wr : World} {As : List Ast} {b : Nat} {ks : List Nat} {T E : TypeId}
theorem st_setnew (h : St w wr As) : St w (wr.alloc (.map #[] 0)) (aSet wr.heap.size [] :: As) :=
  h.push ((Ch.refl _ wr).alloc _) (A := aSet wr.heap.size []) (F := fun g => g.1 = wr.heap.size)
    ⟨⟨.map [], World.ownsMap_made wr Tryd.prog 3 raw, Go.Maps.tidy_empty, fun n _ => rfl, rfl⟩, fun g => Iff.rfl⟩ fun g hg => by omega
theorem set_put (h : St w wr (aSet b ks :: As)) (ht : Tryd.prog.underlying T = some (.map 3 E)) (n : Nat) (hn : n ≤ 9223372036854775807) (hc : ks.length < maxLen) (x : Value) :
    ∃ w', (Instr.mapUpdate T (.map (some b)) (.int .i64 (n : Int)) x).run Tryd.prog wr = .ok () w' ∧ St w w' (aSet b (ks ++ [n]) :: As) := by
  obtain ⟨F, ⟨D, h1, h2, h3, h4⟩, _⟩ := h.get
  obtain ⟨w', hrun, k1, hg⟩ := h1.update (R := raw) keyLaw ht hc (ky_key hn) (val := x) rfl
  refine ⟨w', hrun, h.step fun F ⟨_, hF⟩ => ⟨F, ⟨⟨_, by rw [List.length_append, List.length_singleton]; exact k1, ?_, fun m hm => ?_, ?_⟩, hF⟩, (Ch.refl _ _).grown hg fun k hk => ?_, fun g hg => .inl hg⟩⟩
  · exact h2.put (ky_lit hn) _
  · simp only [List.mem_append, List.mem_singleton]
    by_cases e : m = n
    · rw [e, Go.Maps.has_put_same h1.isMap (ky_lit hn)]; simp
    · rw [Go.Maps.has_put_other (fun h => e (ky_inj h)), h3 m hm]; simp [e]
  · rw [Go.Maps.size_put h2, h3 n hn, h4, dc_snoc]; simp
  · cases hk; exact .inl fun q => (hF _).2 rfl
theorem lst_setput (h : St w wr (aSet b ks :: As)) (ht : Tryd.prog.underlying T = some (.map 3 E)) (n : Nat) (hn : n ≤ 9223372036854775807) (hc : ks.length < maxLen) (x : Value)
    {ops : Array Oper} {rest : List Oper} {o : Oper} {a : Act} {Q : Exit → Act → World → Prop} (hgd : o.guard = none) (m i v : Operand) (ho : o.op = .mapUpdate T m i v) (hm : a.eval m = .map (some b)) (hi : a.eval i = .int .i64 (n : Int)) (hv : a.eval v = x)
    (k : ∀ w', St w w' (aSet b (ks ++ [n]) :: As) → wpList Tryd.prog ops Q rest (a.put o.dst undef) w') : wpList Tryd.prog ops Q (o :: rest) a wr :=
  wpList_plain hgd fun _ hK => by
    obtain ⟨w', hrun, h1⟩ := set_put h ht n hn hc x
    unfold Oper.wp
    simp [execOp, ho, hm, hi, hv, hrun, Result.andThen]
    exact hK _ _ (k w' h1)
theorem lst_setlen (h : St w wr (aSet b ks :: As)) (ht : Tryd.prog.underlying T = some (.map 3 E))
    {ops : Array Oper} {rest : List Oper} {o : Oper} {a : Act} {Q : Exit → Act → World → Prop} (hgd : o.guard = none) (m : Operand) (ho : o.op = .call { callee := .builtin .len, args := #[m], argTypes := #[T] }) (hm : a.eval m = .map (some b))
    (k : wpList Tryd.prog ops Q rest (a.put o.dst (.int .i64 (dc ks : Nat))) wr) : wpList Tryd.prog ops Q (o :: rest) a wr := by
  obtain ⟨F, ⟨D, h1, h2, h3, h4⟩, _⟩ := h.get
  rw [← h4] at k
  exact wpList_len_own wr hgd m T ho 3 E ht raw b ks.length D hm h1 k

variable {R : Rg} {X : Nat} {D : DevM}
def OkW (R : Rg) (w : Wr) : Prop := w.1 < R.nb ∧ ¬ R.inR w.1 ∧ w.2.size = R.z
instance (R : Rg) (w : Wr) : Decidable (OkW R w) := inferInstanceAs (Decidable (_ ∧ _))
def MayW (R : Rg) (l : List Wr) : Prop := (∀ w ∈ l, OkW R w) ∧ (l.map Prod.fst).Nodup
instance (R : Rg) (l : List Wr) : Decidable (MayW R l) := inferInstanceAs (Decidable (_ ∧ _))

set_option maxHeartbeats 2000000 in
set_option maxRecDepth 8000 in
theorem mayWrite_st (a : R.Ok) (h : St w wr (pDev X D :: As)) (hnb : D.nb = R.nb) (hns : D.ns = R.ns) (l : List Wr) (v : Value) (hv : ∀ W Bs, St w W (Bs ++ pDev X D :: As) → WrsIn W v l) (hl : l.length ≤ 1024) (hs : ∀ x ∈ l, x.1 ≤ 4294967296 ∧ x.2.size ≤ 4611686018427387904) :
    Calls Tryd.prog 36 #[rgV X R, v] wr fun e w' => e = .returned (.bool (decide (MayW R l))) ∧ St w w' (pDev X D :: As) := by
  obtain ⟨ao, cap, rfl, _⟩ := hv wr [] h
  have h1 := st_new h (rgCells X R) 63
  have h2 := st_setnew h1
  rw [World.size_alloc] at h2
  have H1 := Lib.hid h2
  have HV := Lib.hid hv
  have l0 : (l.length : Int) ≤ 1024 := by omega
  have HL := Lib.hid hl
  have HS := Lib.hid hs
  have hmm := @run_makeMap Tryd.prog
  have z0 : (R.st : Int) ≤ 4096 := by have := a.fit; have := a.nb; omega
  have z1 : (R.ln : Int) ≤ 4096 := by have := a.few; omega
  have z2 : (R.nb : Int) ≤ 4096 := by have := a.nb; omega
  have HZ : Hid (R.z = 512 * D.ns ∧ D.ns ≤ 8) := Lib.hid (by rw [hns]; exact ⟨rfl, a.ns1⟩)
  have HBL : Hid (∀ W Bs, St w W (pDev X D :: Bs) → Calls Tryd.prog 52 #[pt X] W fun e w' => e = .returned (.int .i64 (R.nb : Int)) ∧ ∃ q, w' = W.drewN q) := Lib.hid fun W Bs k => by rw [← hnb]; exact pblocks_any k
  have HSI : Hid (∀ W Bs, St w W (pDev X D :: Bs) → Calls Tryd.prog 19 #[pt X] W fun e w' => e = .returned (.int .i64 (R.z : Int)) ∧ ∃ q, w' = W.drewN q) := Lib.hid fun W Bs k => by
    have := psize_any k
    rw [← HZ.out.1] at this
    exact this
  have e0 : IntKind.i64.wrap ((R.st : Int) + R.ln) = (R.st : Int) + R.ln := IntWalk.i64_in _ (by omega)
  clear h h1 h2 hv hl hs a
  go_enter Tryd.func36, Tryd.ntmps36
  go_upto_block 1 with fail
  generalize wr.heap.size + 1 = B2 at H1 ⊢
  generalize wr.heap.size = B at H1 ⊢
  clear hmm
  go_loopw [12] (fun i W => ∃ k : Nat, k ≤ l.length ∧ i = .int .i64 ↑k ∧ (∀ x ∈ l.take k, OkW R x) ∧ St w W (aSet B2 ((l.take k).map Prod.fst) :: aVar B (rgCells X R) 63 :: pDev X D :: As)) (fun i _ => l.length - (intOf i).toNat)
  case atStart => exact ⟨0, Nat.zero_le _, rfl, fun x hx => (by cases hx), H1.out⟩
  case round =>
    obtain ⟨k, hk, rfl, hok, hst⟩ := hrel
    clear H1
    by_cases hlt : k < l.length
    · have hx : ∃ b o, ao = some ⟨b, o, none⟩ ∧ wr.cell? ⟨b, o + k * 2, none⟩ = some (.int .i64 (l[k].1 : Int)) ∧ wr.cell? ⟨b, o + k * 2 + 1, none⟩ = some (.string l[k].2) := by
        obtain ⟨ao', cap', hv', hc⟩ := HV.out _ [_, _] hst
        cases hv'
        exact hc k hlt
      obtain ⟨b, o, rfl, hc0, hc1⟩ := hx
      have n1 : (k : Int) < l.length := by omega
      have HSX := Lib.hid (HS.out _ (List.getElem_mem hlt))
      have HT : Hid (l.take (k + 1) = l.take k ++ [l[k]]) := Lib.hid (List.take_succ_eq_append_getElem hlt)
      have HNO : Hid (¬ OkW R l[k] → ¬ MayW R l) := Lib.hid fun h m => h (m.1 _ (List.getElem_mem hlt))
      have HOK := Lib.hid hok
      generalize l[k] = x at hc0 hc1 HT HSX HNO
      obtain ⟨n, d⟩ := x
      have h2 := st_new hst [.int .i64 (n : Int), .string d] 39
      have r0 : (wr.alloc (.cells #[.int .i64 (n : Int), .string d] 39)).cell? ⟨B, 0, none⟩ = some (pt X) := st_cell h2.third 0
      have r1 : (wr.alloc (.cells #[.int .i64 (n : Int), .string d] 39)).cell? ⟨B, 1, none⟩ = some (.int .i64 (R.st : Int)) := st_cell h2.third 1
      have r2 : (wr.alloc (.cells #[.int .i64 (n : Int), .string d] 39)).cell? ⟨B, 2, none⟩ = some (.int .i64 (R.ln : Int)) := st_cell h2.third 2
      have x0 : (wr.alloc (.cells #[.int .i64 (n : Int), .string d] 39)).cell? ⟨wr.heap.size, 0, none⟩ = some (.int .i64 (n : Int)) := st_cell h2 0
      have x1 : (wr.alloc (.cells #[.int .i64 (n : Int), .string d] 39)).cell? ⟨wr.heap.size, 1, none⟩ = some (.string d) := st_cell h2 1
      have H2 := Lib.hid h2
      have m0 : (0 : Int) ≤ n := by omega
      have m1 : ¬ (n : Int) < 0 := by omega
      clear hst h2 hok
      have nb0 : decide ((n : Int) < 0) = false := decide_eq_false m1
      have HI : ((n : Int) < R.st ∧ R.inR n = False) ∨ ((R.st : Int) ≤ n ∧ (n : Int) < (R.st : Int) + R.ln ∧ R.inR n = True) ∨ ((R.st : Int) ≤ n ∧ (R.st : Int) + R.ln ≤ n ∧ R.inR n = False) := by
        unfold Rg.inR
        by_cases c1 : (n : Int) < R.st
        · exact .inl ⟨c1, by simp; omega⟩
        · by_cases c2 : (n : Int) < (R.st : Int) + R.ln
          · exact .inr (.inl ⟨by omega, c2, by simp; omega⟩)
          · exact .inr (.inr ⟨by omega, by omega, by simp; omega⟩)
      by_cases cn : (R.nb : Int) ≤ n
      · have HNOT : Hid (decide (MayW R l) = false) := Lib.hid (decide_eq_false (HNO.out fun h => by have h : n < R.nb := h.1; omega))
        have nb1 : decide ((R.nb : Int) ≤ n) = true := decide_eq_true cn
        clear HOK HT HNO
        rcases HI with ⟨i1, _⟩ | ⟨i1, i2, _⟩ | ⟨i1, i2, _⟩
        · go_upto_region 6 with fail
          go_quiet (first | (go_at_call 52; exact Calls.quiet_of (HBL.out _ _ (H2.out.fourth.drewN _))) | (go_at_call 19; exact Calls.quiet_of (HSI.out _ _ (H2.out.fourth.drewN _))))
          go_wp2_with fail
          go_ret
          exact ⟨by rw [HNOT.out]; rfl, (H2.out.drop.drop.drop.drewN _)⟩
        · go_upto_region 6 with fail
          go_quiet (first | (go_at_call 52; exact Calls.quiet_of (HBL.out _ _ (H2.out.fourth.drewN _))) | (go_at_call 19; exact Calls.quiet_of (HSI.out _ _ (H2.out.fourth.drewN _))))
          go_wp2_with fail
          go_ret
          exact ⟨by rw [HNOT.out]; rfl, (H2.out.drop.drop.drop.drewN _)⟩
        · go_upto_region 6 with fail
          go_quiet (first | (go_at_call 52; exact Calls.quiet_of (HBL.out _ _ (H2.out.fourth.drewN _))) | (go_at_call 19; exact Calls.quiet_of (HSI.out _ _ (H2.out.fourth.drewN _))))
          go_wp2_with fail
          go_ret
          exact ⟨by rw [HNOT.out]; rfl, (H2.out.drop.drop.drop.drewN _)⟩
      · have nb1 : decide ((R.nb : Int) ≤ n) = false := decide_eq_false cn
        by_cases cs : d.size = R.z
        · have cs1 : ((d.size : Int) != R.z) = false := by rw [bne_eq_false_iff_eq]; omega
          rcases HI with ⟨i1, hin⟩ | ⟨i1, i2, hin⟩ | ⟨i1, i2, hin⟩
          · have HYES : Hid (OkW R (n, d)) := Lib.hid ⟨by show n < R.nb; omega, by show ¬ R.inR n; rw [hin]; exact id, cs⟩
            have HLE : Hid (n ≤ 9223372036854775807 ∧ ((l.take k).map Prod.fst).length < maxLen) := Lib.hid ⟨by have := HSX.out.1; have : n ≤ 4294967296 := this; omega, by rw [List.length_map, List.length_take]; have := HL.out; unfold maxLen; omega⟩
            clear hin cs HNO
            go_upto_region 6 with fail
            go_quiet (first | (go_at_call 52; exact Calls.quiet_of (HBL.out _ _ (H2.out.fourth.drewN _))) | (go_at_call 19; exact Calls.quiet_of (HSI.out _ _ (H2.out.fourth.drewN _))))
            go_wp2_with (at_mapUpdate; refine lst_setput (H2.out.swap.drewN _) Tryd.underlying106 n HLE.out.1 HLE.out.2 (.agg #[]) rfl _ _ _ rfl rfl rfl rfl ?_; intro w3 h3; have H3 := Lib.hid h3; clear h3)
            go_roundw
            case rel => exact ⟨k + 1, by omega, by go_num, by
              rw [HT.out]
              intro x hx
              rcases List.mem_append.1 hx with h | h
              · exact HOK.out x h
              · rw [List.mem_singleton.1 h]; exact HYES.out, by
              rw [HT.out, List.map_append]
              exact H3.out.swap.drop⟩
            case measure => simp [intOf] <;> omega
          · have HNOT : Hid (decide (MayW R l) = false) := Lib.hid (decide_eq_false (HNO.out fun h => by have h : ¬ R.inR n := h.2.1; rw [hin] at h; exact h trivial))
            clear HOK HT HNO hin cs
            go_upto_region 6 with fail
            go_quiet (first | (go_at_call 52; exact Calls.quiet_of (HBL.out _ _ (H2.out.fourth.drewN _))) | (go_at_call 19; exact Calls.quiet_of (HSI.out _ _ (H2.out.fourth.drewN _))))
            go_wp2_with fail
            go_ret
            exact ⟨by rw [HNOT.out]; rfl, (H2.out.drop.drop.drop.drewN _)⟩
          · have HYES : Hid (OkW R (n, d)) := Lib.hid ⟨by show n < R.nb; omega, by show ¬ R.inR n; rw [hin]; exact id, cs⟩
            have HLE : Hid (n ≤ 9223372036854775807 ∧ ((l.take k).map Prod.fst).length < maxLen) := Lib.hid ⟨by have := HSX.out.1; have : n ≤ 4294967296 := this; omega, by rw [List.length_map, List.length_take]; have := HL.out; unfold maxLen; omega⟩
            clear hin cs HNO
            go_upto_region 6 with fail
            go_quiet (first | (go_at_call 52; exact Calls.quiet_of (HBL.out _ _ (H2.out.fourth.drewN _))) | (go_at_call 19; exact Calls.quiet_of (HSI.out _ _ (H2.out.fourth.drewN _))))
            go_wp2_with (at_mapUpdate; refine lst_setput (H2.out.swap.drewN _) Tryd.underlying106 n HLE.out.1 HLE.out.2 (.agg #[]) rfl _ _ _ rfl rfl rfl rfl ?_; intro w3 h3; have H3 := Lib.hid h3; clear h3)
            go_roundw
            case rel => exact ⟨k + 1, by omega, by go_num, by
              rw [HT.out]
              intro x hx
              rcases List.mem_append.1 hx with h | h
              · exact HOK.out x h
              · rw [List.mem_singleton.1 h]; exact HYES.out, by
              rw [HT.out, List.map_append]
              exact H3.out.swap.drop⟩
            case measure => simp [intOf] <;> omega
        · have cs1 : ((d.size : Int) != R.z) = true := by rw [bne_iff_ne]; omega
          have HNOT : Hid (decide (MayW R l) = false) := Lib.hid (decide_eq_false (HNO.out fun h => cs h.2.2))
          clear HOK HT HNO
          rcases HI with ⟨i1, _⟩ | ⟨i1, i2, _⟩ | ⟨i1, i2, _⟩
          · go_upto_region 6 with fail
            go_quiet (first | (go_at_call 52; exact Calls.quiet_of (HBL.out _ _ (H2.out.fourth.drewN _))) | (go_at_call 19; exact Calls.quiet_of (HSI.out _ _ (H2.out.fourth.drewN _))))
            go_wp2_with fail
            go_ret
            exact ⟨by rw [HNOT.out]; rfl, (H2.out.drop.drop.drop.drewN _)⟩
          · go_upto_region 6 with fail
            go_quiet (first | (go_at_call 52; exact Calls.quiet_of (HBL.out _ _ (H2.out.fourth.drewN _))) | (go_at_call 19; exact Calls.quiet_of (HSI.out _ _ (H2.out.fourth.drewN _))))
            go_wp2_with fail
            go_ret
            exact ⟨by rw [HNOT.out]; rfl, (H2.out.drop.drop.drop.drewN _)⟩
          · go_upto_region 6 with fail
            go_quiet (first | (go_at_call 52; exact Calls.quiet_of (HBL.out _ _ (H2.out.fourth.drewN _))) | (go_at_call 19; exact Calls.quiet_of (HSI.out _ _ (H2.out.fourth.drewN _))))
            go_wp2_with fail
            go_ret
            exact ⟨by rw [HNOT.out]; rfl, (H2.out.drop.drop.drop.drewN _)⟩
    · obtain rfl : k = l.length := by omega
      rw [List.take_of_length_le (Nat.le_refl _)] at hst hok
      have H2 := Lib.hid hst
      have HOK := Lib.hid hok
      have hdc := dc_nodup (l.map Prod.fst)
      rw [List.length_map] at hdc
      clear hst hlt hk hok
      by_cases c : (l.map Prod.fst).Nodup
      · have hD : Hid (decide (MayW R l) = true) := Lib.hid (decide_eq_true ⟨HOK.out, c⟩)
        have hd := hdc.2 c
        clear hdc c
        go_wp2_with (at_len; refine lst_setlen H2.out Tryd.underlying106 rfl _ rfl rfl ?_; rw [hd])
        go_ret
        exact ⟨by rw [hD.out]; simp, H2.out.drop.drop⟩
      · have hD : Hid (decide (MayW R l) = false) := Lib.hid (decide_eq_false fun h => c h.2)
        have hd : ¬ dc (l.map Prod.fst) = l.length := fun h => c (hdc.1 h)
        have t : (((dc (l.map Prod.fst) : Nat) : Int) == (l.length : Int)) = false := by rw [beq_eq_false_iff_ne]; omega
        clear hdc c hd
        go_wp2_with (at_len; refine lst_setlen H2.out Tryd.underlying106 rfl _ rfl rfl ?_)
        go_ret
        exact ⟨by rw [hD.out]; rfl, H2.out.drop.drop⟩
end
end Go.Proofs.YtjmjmekmaamclaaDoor.jrn
/-
  Layer 5, the program: transaction.
-/
namespace Go.Proofs.YtjmjmekmaamclaaDoor.jrn
open Go.ChangeShapes Go.WideShapes Go.ChangeAt Go.RowKit mem dev sums
set_option linter.unusedVariables false

theorem rowTgt : RowOf 136 144 (.int .u32 0) 1 4 := ⟨Tryd.underlying136, by kernel_rfl, rfl, by decide⟩
theorem rowStrJ : RowOf 43 9 (.string ⟨#[]⟩) 1 16 := ⟨Tryd.underlying43, by kernel_rfl, rfl, by decide⟩
def u32s (ts : List Nat) : List Value := ts.map fun t => .int .u32 ((t : Nat) : Int)
theorem u32s_len (ts : List Nat) : (u32s ts).length = ts.length := by simp [u32s]
abbrev aTgts (v : Value) (ts : List Nat) : Ast := aRow 144 1 v ts.length (u32s ts)
abbrev aTexts (v : Value) (l : List ByteArray) : Ast := aRow 9 1 v l.length (dev.strs l)
theorem u32_in {w wr : World} {As : List Ast} {v : Value} {ts : List Nat} (h : St w wr (aTgts v ts :: As)) : U32In wr v ts := by
  rcases (st_row h).2 with ⟨h1, h2⟩ | ⟨g, cap, cur, hv, hr⟩
  · have : ts = [] := by
      cases ts with
      | nil => rfl
      | cons a b => cases h2
    subst this
    exact ⟨none, 0, h1, fun i hi => absurd hi (by simp)⟩
  · refine ⟨_, cap, hv, fun i hi => ⟨g, 0, rfl, ?_⟩⟩
    rw [Nat.zero_add, st_at h hv i (by omega)]
    simp [u32s, List.getElem?_eq_getElem hi]
theorem lit_one (W : World) (v : Value) (ty : TypeId) : ∀ j u, [v][j]? = some u → (W.alloc (.cells #[v] ty)).cell? ((⟨W.heap.size, 0, none⟩ : Addr).add j) = some u := home_lit W 0 v ty

theorem tgts_snoc (v : Value) (ts : List Nat) (t : Nat) : aRow 144 1 v (ts.length + 1) (u32s ts ++ [.int .u32 ((t : Nat) : Int)]) = aTgts v (ts ++ [t]) := by
  unfold aTgts
  rw [List.length_append, List.length_singleton, show u32s (ts ++ [t]) = u32s ts ++ [.int .u32 ((t : Nat) : Int)] from by simp [u32s]]
theorem texts_snoc (v : Value) (l : List ByteArray) (t : ByteArray) : aRow 9 1 v (l.length + 1) (dev.strs l ++ [.string t]) = aTexts v (l ++ [t]) := by
  unfold aTexts
  rw [List.length_append, List.length_singleton, show dev.strs (l ++ [t]) = dev.strs l ++ [.string t] from by simp [dev.strs]]
/-- a slice's literal -/
theorem st_lit {w wr : World} {As : List Ast} (h : St w wr As) (E : TypeId) (size n : Nat) (cs : List Value) (hl : cs.length = n * size) (h63 : n ≤ 9223372036854775807) :
    St w (wr.alloc (.cells cs.toArray E)) (aRow E size (.slice (some ⟨wr.heap.size, 0, none⟩) n n) n cs :: As) :=
  h.push ((Ch.refl _ wr).alloc _) (A := aRow E size (.slice (some ⟨wr.heap.size, 0, none⟩) n n) n cs) (F := fun g => g.1 = wr.heap.size)
    ⟨by
      have := World.ownsRow_lit (base := 0) (e := E) (size := size) wr cs.toArray n (Nat.zero_le _) (by unfold maxLen; omega) (by rw [List.size_toArray]; exact hl)
      exact this, fun g => by simp only [Value.ownBlock, Option.some.injEq]; exact eq_comm⟩ fun g hg => by omega

section
variable {w wr : World} {As : List Ast}
set_option maxHeartbeats 2000000 in
set_option maxRecDepth 8000 in
theorem transaction_st (g : Halves w) (h : St w wr As) (n : Nat) (hn : n < 18446744073709551616) (l : List Wr) (v : Value) (hv : ∀ W Bs, St w W (Bs ++ As) → WrsIn W v l) (hl : l.length ≤ 96) (hs : ∀ x ∈ l, x.1 ≤ 4096 ∧ 4 ≤ x.2.size ∧ x.2.size ≤ 4096) (z : Nat) (hz : 20 + 4 * l.length ≤ z) (hz2 : z ≤ 4096) :
    Calls Tryd.prog 62 #[.int .u64 (n : Int), v, .int .i64 (z : Int)] wr fun e w' => ∃ u, e = .returned u ∧ St w w' (aTexts u (txn n l z ++ [txnC n l z]) :: As) := by
  obtain ⟨ao, cap, rfl, _⟩ := hv wr [] h
  have h1 := st_lit h 9 1 1 [.string ⟨#[]⟩] rfl (by decide)
  have h2 := st_pushrow (t := 144) (size := 1) h1
  have H1 : Hid (St w (wr.alloc (.cells #[.string ⟨#[]⟩] 9)) (aTgts (.slice none 0 0) (([] : List Wr).map tgt) :: aTexts (.slice (some ⟨wr.heap.size, 0, none⟩) 1 1) (⟨#[]⟩ :: dataOf []) :: As)) := Lib.hid h2
  have HV := Lib.hid hv
  have HS := Lib.hid hs
  have HG := Lib.hid g
  have HN := Lib.hid hn
  have HZ := Lib.hid hz
  have HZ2 := Lib.hid hz2
  have HL := Lib.hid hl
  have l0 : (l.length : Int) ≤ 96 := by omega
  clear h h1 h2 hv hl hs g hn hz hz2
  go_enter Tryd.func62, Tryd.ntmps62
  go_upto_block 1 with fail
  go_loopw [7, 8, 15] (fun tv xv i W => ∃ k : Nat, k ≤ l.length ∧ i = .int .i64 ↑k ∧ St w W (aTgts tv ((l.take k).map tgt) :: aTexts xv (⟨#[]⟩ :: dataOf (l.take k)) :: As)) (fun _ _ i _ => l.length - (intOf i).toNat)
  case atStart => exact ⟨0, Nat.zero_le _, rfl, H1.out⟩
  case round =>
    obtain ⟨k, hk, rfl, hst⟩ := hrel
    clear H1
    by_cases hlt : k < l.length
    · have hx : ∃ b o, ao = some ⟨b, o, none⟩ ∧ wr.cell? ⟨b, o + k * 2, none⟩ = some (.int .i64 (l[k].1 : Int)) ∧ wr.cell? ⟨b, o + k * 2 + 1, none⟩ = some (.string l[k].2) := by
        obtain ⟨ao', cap', hv', hc⟩ := HV.out _ [_, _] hst
        cases hv'
        exact hc k hlt
      obtain ⟨b, o, rfl, hc0, hc1⟩ := hx
      have n1 : (k : Int) < l.length := by omega
      have HSX := Lib.hid (HS.out _ (List.getElem_mem hlt))
      have HT : Hid ((l.take (k + 1)).map tgt = (l.take k).map tgt ++ [tgt l[k]]) := Lib.hid (by rw [List.take_succ_eq_append_getElem hlt, List.map_append]; rfl)
      have HD : Hid (dataOf (l.take (k + 1)) = dataOf (l.take k) ++ [inRing (tgt l[k]) l[k].2]) := Lib.hid (by unfold dataOf; rw [List.take_succ_eq_append_getElem hlt, List.map_append]; rfl)
      have HTL : Hid (tgt l[k] < 4294967296) := Lib.hid (by have := HSX.out.1; unfold tgt esc; split <;> omega)
      obtain ⟨so, sc, rfl⟩ := st_shape hst
      obtain ⟨so2, sc2, rfl⟩ := st_shape hst.swap
      have HLK : Hid (((l.take k).map tgt).length ≤ 96 ∧ (⟨#[]⟩ :: dataOf (l.take k) : List ByteArray).length ≤ 97) := Lib.hid (by
        rw [List.length_map, List.length_cons]; unfold dataOf; rw [List.length_map, List.length_take]; have := HL.out; omega)
      have hst2 := hst
      generalize hTK : (l.take k).map tgt = tk at hst HT HLK
      generalize hDK : (⟨#[]⟩ :: dataOf (l.take k) : List ByteArray) = dk at hst HLK
      generalize l[k] = x at hc0 hc1 HT HSX HD HTL
      obtain ⟨m, d⟩ := x
      have h2 := st_new hst [.int .i64 (m : Int), .string d] 39
      have x0 : (wr.alloc (.cells #[.int .i64 (m : Int), .string d] 39)).cell? ⟨wr.heap.size, 0, none⟩ = some (.int .i64 (m : Int)) := st_cell h2 0
      have x1 : (wr.alloc (.cells #[.int .i64 (m : Int), .string d] 39)).cell? ⟨wr.heap.size, 1, none⟩ = some (.string d) := st_cell h2 1
      have H2 := Lib.hid h2
      clear hst hst2 h2
      go_wp2_with (first
        | ((go_at_call 81; refine (targetOf_st H2.out (m, d) HSX.out.1 (by have := HSX.out.2.1; have : 4 ≤ d.size := this; show 2 ≤ d.size; omega)).mono ?_; rintro e w2 ⟨rfl, hst⟩; have y1 : _ = some (Value.string d) := st_cell hst 1; have H3 := Lib.hid hst; clear hst))
        | ((refine lst_append rowTgt (H3.out.swap.alloc _) rfl _ _ rfl rfl ⟨w2.heap.size, 0, none⟩ 1 1 _ rfl rfl (lit_one w2 _ _) (by intro u hu; rw [List.mem_singleton.1 hu]; rfl) (by decide) (by have := HLK.out.1; unfold maxLen; omega) (by have := HLK.out.1; omega) ?_; intro g4 cap4 w4 hst4 _; have y2 : _ = some (Value.string d) := st_cell hst4.swap 1; have H4 := Lib.hid hst4; clear hst4))
        | ((go_at_call 82; refine (inRing_any _ d HTL.out (by have := HSX.out.2.1; have : 4 ≤ d.size := this; omega) HSX.out.2.2 _).mono ?_; rintro e w5 ⟨rfl, rfl⟩))
        | ((refine lst_append rowStrJ (H4.out.third.alloc _) rfl _ _ rfl rfl _ 1 1 _ rfl rfl (lit_one _ _ _) (by intro u hu; rw [List.mem_singleton.1 hu]; rfl) (by decide) (by have := HLK.out.2; unfold maxLen; omega) (by have := HLK.out.2; omega) ?_; intro g6 cap6 w6 hst6 _; have H6 := Lib.hid hst6; clear hst6)))
      go_roundw
      case rel => exact ⟨k + 1, by omega, by go_num, by
        rw [HT.out, HD.out]
        have h6 := H6.out.third.drop.swap
        rw [tgts_snoc, texts_snoc] at h6
        subst hTK hDK
        exact h6⟩
      case measure => simp [intOf] <;> omega
    · obtain rfl : k = l.length := by omega
      rw [List.take_of_length_le (Nat.le_refl _)] at hst
      have HS2 := Lib.hid hst
      clear hst hlt hk
      obtain ⟨g5, c5, rfl, _⟩ := st_form HS2.out.swap (by simp)
      obtain ⟨so, sc, rfl⟩ := st_shape HS2.out
      have hlen : (dataOf l).length = l.length := by simp [dataOf]
      have HTX : Hid (txn n l z = descB n (l.map tgt) z :: dataOf l) := Lib.hid rfl
      have HTC : Hid (txnC n l z = recB n (descB n (l.map tgt) z :: dataOf l) z) := Lib.hid rfl
      have HU := Lib.hid (u32_in HS2.out)
      have HGW := Lib.hid (HG.out.keep HS2.out.ch.below)
      have HTB : Hid (∀ t ∈ l.map tgt, t < 4294967296) := Lib.hid fun t ht => by
        obtain ⟨x, hx, rfl⟩ := List.mem_map.1 ht
        have := (HS.out x hx).1
        unfold tgt esc; split <;> omega
      have HML : Hid ((l.map tgt).length = l.length) := Lib.hid (List.length_map _)
      have HSZ : Hid (∀ t ∈ descB n (l.map tgt) z :: dataOf l, t.size ≤ 4096) := Lib.hid fun t ht => by
        rcases List.mem_cons.1 ht with rfl | ht
        · rw [descB_size _ _ (by rw [HML.out]; exact HZ.out)]; exact HZ2.out
        · obtain ⟨x, hx, rfl⟩ := List.mem_map.1 ht
          have h1 := HS.out x hx
          unfold inRing
          split
          · rw [ByteArray.size_append, ByteArray.size_extract]; have : un2.size = 2 := rfl; omega
          · exact h1.2.2
      have HDL : Hid ((descB n (l.map tgt) z :: dataOf l).length = l.length + 1) := Lib.hid (by rw [List.length_cons, hlen])
      have e1 : (((⟨#[]⟩ : ByteArray) :: dataOf l).length : Int) = (l.length : Int) + 1 := by rw [List.length_cons, hlen]; rfl
      have eN : ((⟨#[]⟩ : ByteArray) :: dataOf l).length = l.length + 1 := by rw [List.length_cons, hlen]
      generalize hDS : descB n (l.map tgt) z = ds at HTX HTC HSZ HDL
      have HDS := Lib.hid hDS
      have HS3 : Hid (St w wr (aTgts (.slice so (l.map tgt).length sc) (l.map tgt) :: aRow 9 1 (.slice (some ⟨g5, 0, none⟩) (l.length + 1) c5) (l.length + 1) (dev.strs ((⟨#[]⟩ : ByteArray) :: dataOf l)) :: As)) := Lib.hid (by
        have := HS2.out
        unfold aTexts at this
        rw [eN] at this
        exact this)
      have HDESC := Lib.hid (descriptor_any wr HGW.out n HN.out (l.map tgt) (.slice so l.length sc) (by have := HU.out; rwa [HML.out] at this) HTB.out z (by rw [HML.out]; exact HZ.out) HZ2.out)
      rw [HDS.out] at HDESC
      rw [eN]
      clear HS2 e1 eN hlen hDS
      go_wp2_with (first
        | ((go_at_call 83; with_reducible refine HDESC.out.mono ?_; rintro e w2 ⟨rfl, hc⟩; have hst := (HS3.out.same hc).swap; have y0 := st_at hst rfl 0 (by omega); have y1 := st_unfrozen hst 0; have h5 := st_put (u := .string ds) (i := 0) hst (by omega); have h5 : St w _ (aRow 9 1 (.slice (some ⟨g5, 0, none⟩) (l.length + 1) c5) (l.length + 1) (dev.strs (ds :: dataOf l)) :: aTgts (.slice so (l.map tgt).length sc) (l.map tgt) :: As) := h5; have HREC := Lib.hid (record_any _ (HG.out.keep h5.ch.below) n HN.out (ds :: dataOf l) (.slice (some ⟨g5, 0, none⟩) (l.length + 1) c5) (strs_in h5) (by rw [HDL.out]; have := HL.out; omega) HSZ.out z (by have := HZ.out; omega) HZ2.out); rw [← HTC.out] at HREC; have H5 := Lib.hid h5; clear hc hst h5))
        | ((go_at_call 79; with_reducible refine HREC.out.mono ?_; rintro e w3 ⟨rfl, hc⟩; have H6 := Lib.hid (H5.out.same hc); clear hc))
        | ((refine lst_append rowStrJ (H6.out.alloc _) rfl _ _ rfl rfl _ 1 1 _ rfl rfl (lit_one _ _ _) (by intro u hu; rw [List.mem_singleton.1 hu]; rfl) (by decide) (by have := HL.out; unfold maxLen; omega) (by have := HL.out; omega) ?_; intro g6 cap6 w6 hst6 _; have H7 := Lib.hid hst6; clear hst6)))
      go_ret
      refine ⟨_, rfl, ?_⟩
      have h7 := H7.out
      rw [← HDL.out, texts_snoc, ← HTX.out] at h7
      rw [txn_len] at h7
      exact h7.swap.drop
end
end Go.Proofs.YtjmjmekmaamclaaDoor.jrn
/-
  Layer 5, the program: targetsOf, unescaped.
-/
namespace Go.Proofs.YtjmjmekmaamclaaDoor.jrn
open Go.ChangeShapes Go.WideShapes Go.ChangeAt Go.RowKit mem dev sums
set_option linter.unusedVariables false

def tgL (t : ByteArray) (k n : Nat) : List Nat := (List.range k).map (tgtAt t) ++ List.replicate (n - k) 0
theorem tgL_len (t : ByteArray) (k n : Nat) (h : k ≤ n) : (tgL t k n).length = n := by simp [tgL]; omega
theorem tgL_more (t : ByteArray) (k n : Nat) (h : k < n) : (tgL t k n).set k (tgtAt t k) = tgL t (k + 1) n := by
  unfold tgL
  rw [List.set_append_right _ _ (by simp), List.length_map, List.length_range, Nat.sub_self, List.range_succ, List.map_append, List.append_assoc]
  congr 1
  rw [show n - k = (n - (k + 1)) + 1 from by omega, List.replicate_succ]
  rfl
theorem tgtAt_lt (t : ByteArray) (i : Nat) : tgtAt t i < 4294967296 := by
  unfold tgtAt
  rw [show 20 + 4 * i = 16 + 4 * i + 4 from by omega]
  exact num4 t _
theorem u32s_set (l : List Nat) (k x : Nat) : (u32s l).set k (.int .u32 ((x : Nat) : Int)) = u32s (l.set k x) := by simp [u32s, List.map_set]

section
variable {w wr : World} {As : List Ast}
set_option maxHeartbeats 2000000 in
set_option maxRecDepth 8000 in
theorem targetsOf_st (g : Halves w) (h : St w wr As) (t : ByteArray) (n : Nat) (hn : n < 18446744073709551616) (most : Nat) (hz : 20 + 4 * most ≤ t.size) (hz2 : t.size ≤ 4096) :
    Calls Tryd.prog 76 #[.string t, .int .u64 (n : Int), .int .i64 (most : Int)] wr fun e w' => ∃ v, e = .returned v ∧ St w w' (aTgts v (targetsOf t n most) :: As) := by
  have hcnt : countOf t < 4294967296 := num4 t 12
  have sl0 : ∀ W, (Instr.slice 9 (.string t) (some (.int .i64 12)) (some (.int .i64 16)) none).run Tryd.prog W = .ok (.string (t.extract 12 16)) W := fun W => run_slice_string (P := Tryd.prog) W 9 t .i64 .i64 12 16 Tryd.underlying9 (by omega) (by omega) (by omega)
  have HC0 : Hid (∀ W, Calls Tryd.prog 74 #[.string (t.extract 12 16)] W fun e w' => e = .returned (.int .u64 (countOf t : Nat)) ∧ w' = W) := Lib.hid fun W => numberOf_any _ (by rw [ByteArray.size_extract]; omega) W
  have HTO : Hid (targetsOf t n most = if countOf t ≤ most then (if descB n ((List.range (countOf t)).map (tgtAt t)) t.size = t then (List.range (countOf t)).map (tgtAt t) else []) else []) := Lib.hid rfl
  have H0 := Lib.hid h
  have HG := Lib.hid g
  have HN := Lib.hid hn
  have HZ := Lib.hid hz
  have HZ2 := Lib.hid hz2
  have m0 : (0 : Int) ≤ most := by omega
  have m1 : (most : Int) ≤ 4096 := by omega
  have e0 : IntKind.u64.wrap (most : Int) = most := by rw [IntKind.wrap_u64]; omega
  generalize hcq : countOf t = c at HC0 HTO hcnt
  have c0 : (0 : Int) ≤ c := by omega
  have c1 : (c : Int) ≤ 4294967295 := by omega
  clear hcnt h g hn hz hz2
  by_cases cm : c ≤ most
  · rw [if_pos cm] at HTO
    have cm1 : ¬ (most : Int) < c := by omega
    have hmk := fun W => make_run rowTgt c (by omega) (by omega) .u64 .u64 W
    have h1 := st_made H0.out 144 (.int .u32 0) 1 c rfl (by omega)
    rw [made_one _ _ rfl, show List.replicate c (Value.int .u32 0) = u32s (tgL t 0 c) from by simp [u32s, tgL], Nat.mul_one] at h1
    have H1 := Lib.hid h1
    have HCM := Lib.hid cm
    have cle : (c : Int) ≤ 4096 := by omega
    clear h1 cm
    go_enter Tryd.func76, Tryd.ntmps76
    go_upto_block 1 with (go_at_call 74; refine (HC0.out _).mono ?_; rintro e w2 ⟨rfl, rfl⟩)
    generalize w2.heap.size = B at H1 ⊢
    clear hmk
    rw [decide_eq_false (show ¬ most < c from by omega)]
    go_loopw [7, 10, 25] (fun av _ i W => ∃ k : Nat, k ≤ c ∧ i = .int .i64 ↑k ∧ av = .int .i64 (((12 + 4 * k : Nat) : Nat) : Int) ∧ St w W (aRow 144 1 (.slice (some ⟨B, 0, none⟩) c c) c (u32s (tgL t k c)) :: As)) (fun _ _ i _ => c - (intOf i).toNat)
    case atStart => exact ⟨0, Nat.zero_le _, rfl, rfl, H1.out⟩
    case round =>
      obtain ⟨k, hk, rfl, rfl, hst⟩ := hrel
      clear H1 HC0 sl0
      by_cases hlt : k < c
      · have hpz : 20 + 4 * k ≤ t.size := by have := HZ.out; have := HCM.out; omega
        have sl : ∀ W, (Instr.slice 9 (.string t) (some (.int .i64 (((12 + 4 * k : Nat) : Int) + 4))) (some (.int .i64 (((12 + 4 * k : Nat) : Int) + 4 + 4))) none).run Tryd.prog W = .ok (.string (t.extract (16 + 4 * k) (20 + 4 * k))) W := fun W => by
          have := run_slice_string (P := Tryd.prog) W 9 t .i64 .i64 (((12 + 4 * k : Nat) : Int) + 4) (((12 + 4 * k : Nat) : Int) + 4 + 4) Tryd.underlying9 (by omega) (by omega) (by omega)
          rw [this, show (((12 + 4 * k : Nat) : Int) + 4).toNat = 16 + 4 * k from by omega, show (((12 + 4 * k : Nat) : Int) + 4 + 4).toNat = 20 + 4 * k from by omega]
        have HNUM : Hid (∀ W, Calls Tryd.prog 74 #[.string (t.extract (16 + 4 * k) (20 + 4 * k))] W fun e w' => e = .returned (.int .u64 (tgtAt t k : Nat)) ∧ w' = W) := Lib.hid fun W => numberOf_any _ (by rw [ByteArray.size_extract]; omega) W
        have hx := tgtAt_lt t k
        have hput := st_put (u := .int .u32 ((tgtAt t k : Nat) : Int)) (i := k) hst (by omega)
        rw [u32s_set, tgL_more t k c hlt] at hput
        have HP := Lib.hid hput
        have hcell := st_at hst rfl k (by omega)
        have hc2 : (u32s (tgL t k c))[k]? = some (.int .u32 (((tgL t k c)[k]'(by rw [tgL_len _ _ _ hk]; exact hlt) : Nat) : Int)) := by
          unfold u32s
          rw [List.getElem?_map, List.getElem?_eq_getElem (by rw [tgL_len _ _ _ hk]; exact hlt)]
          rfl
        rw [hc2] at hcell
        have hfr := st_unfrozen hst k
        have p0 : ((12 + 4 * k : Nat) : Int) ≤ 4096 := by have := HZ2.out; omega
        have p1 : (0 : Int) ≤ ((12 + 4 * k : Nat) : Int) := by omega
        have HPV : Hid (((12 + 4 * k : Nat) : Int) + 4 = ((12 + 4 * (k + 1) : Nat) : Int)) := Lib.hid (by omega)
        generalize ((12 + 4 * k : Nat) : Int) = p at sl p0 p1 HPV ⊢
        generalize (tgL t k c)[k]'_ = old at hcell
        generalize tgtAt t k = x at HNUM hx HP
        generalize t.extract (16 + 4 * k) (20 + 4 * k) = f at sl HNUM
        have x0 : (0 : Int) ≤ x := by omega
        have x1 : (x : Int) ≤ 4294967295 := by omega
        have k0 : (0 : Int) ≤ k := by omega
        have k1 : (k : Int) < c := by omega
        have e1 : IntKind.u32.wrap (x : Int) = x := by rw [IntKind.wrap_u32]; omega
        clear hx hst hput hc2 hpz
        go_wp2_with ((go_at_call 74; refine (HNUM.out _).mono ?_; rintro e w3 ⟨rfl, rfl⟩))
        go_roundw
        case rel => exact ⟨k + 1, by omega, by go_num, by rw [← HPV.out], HP.out⟩
        case measure => simp [intOf] <;> omega
      · obtain rfl : k = c := by omega
        have hall : tgL t k k = (List.range k).map (tgtAt t) := by simp [tgL]
        rw [hall] at hst
        have hlen : ((List.range k).map (tgtAt t)).length = k := by simp
        have hu : U32In wr (.slice (some ⟨B, 0, none⟩) k k) ((List.range k).map (tgtAt t)) := by
          have := u32_in (v := .slice (some ⟨B, 0, none⟩) k k) (ts := (List.range k).map (tgtAt t)) (by unfold aTgts; rw [hlen]; exact hst)
          exact this
        have hdesc := descriptor_any wr (HG.out.keep hst.ch.below) n HN.out _ _ hu (fun y hy => by
          obtain ⟨i, _, rfl⟩ := List.mem_map.1 hy
          exact tgtAt_lt t i) t.size (by rw [hlen]; have := HZ.out; have := HCM.out; omega) HZ2.out
        have HDESC := Lib.hid hdesc
        have H2 := Lib.hid hst
        have HLEN := Lib.hid hlen
        clear hst hlt hk hall hdesc hu hlen
        generalize (List.range k).map (tgtAt t) = ts at HTO HDESC H2 HLEN
        generalize descB n ts t.size = ds at HTO HDESC
        by_cases e : ds = t
        · rw [if_pos e] at HTO
          have tb := bytes_beq ds t
          rw [decide_eq_true e] at tb
          have tb2 : (ds.toList != t.toList) = false := by rw [bne, tb]; rfl
          clear e
          go_wp2_with ((go_at_call 83; with_reducible refine HDESC.out.mono ?_; rintro e w4 ⟨rfl, hc⟩; have H3 := Lib.hid (H2.out.same hc); clear hc))
          go_ret
          refine ⟨_, rfl, ?_⟩
          rw [HTO.out]
          unfold aTgts
          rw [HLEN.out]
          exact H3.out
        · rw [if_neg e] at HTO
          have tb := bytes_beq ds t
          rw [decide_eq_false e] at tb
          have tb2 : (ds.toList != t.toList) = true := by rw [bne, tb]; rfl
          clear e
          go_wp2_with ((go_at_call 83; with_reducible refine HDESC.out.mono ?_; rintro e w4 ⟨rfl, hc⟩; have H3 := Lib.hid (H2.out.same hc); clear hc))
          go_ret
          refine ⟨_, rfl, ?_⟩
          rw [HTO.out]
          exact st_pushrow H3.out.drop
  · rw [if_neg cm] at HTO
    have cm1 : (most : Int) < c := by omega
    clear cm
    go_enter Tryd.func76, Tryd.ntmps76
    go_wp2_with (go_at_call 74; refine (HC0.out _).mono ?_; rintro e w2 ⟨rfl, rfl⟩)
    go_ret
    refine ⟨_, rfl, ?_⟩
    rw [HTO.out]
    exact st_pushrow H0.out
end
end Go.Proofs.YtjmjmekmaamclaaDoor.jrn
/-
  Layer 5, the program: unescaped.
-/
namespace Go.Proofs.YtjmjmekmaamclaaDoor.jrn
open Go.ChangeShapes Go.WideShapes Go.ChangeAt Go.RowKit mem dev sums
set_option linter.unusedVariables false

theorem rowWr : RowOf 40 39 (.agg #[.int .i64 0, .string ⟨#[]⟩]) 2 24 := ⟨Tryd.underlying40, by kernel_rfl, rfl, by decide⟩
abbrev aWrs (v : Value) (l : List Wr) : Ast := aRow 39 2 v l.length (wcells l)
theorem wcells_at2 (c : List Wr) (k : Nat) (h : k < c.length) : (wcells c)[k * 2]? = some (.int .i64 (c[k].1 : Int)) ∧ (wcells c)[k * 2 + 1]? = some (.string c[k].2) := by
  have e : c = c.take k ++ (c[k] :: c.drop (k + 1)) := by rw [← List.drop_eq_getElem_cons h, List.take_append_drop]
  have l : (wcells (c.take k)).length = k * 2 := by rw [wcells_len, List.length_take]; omega
  constructor
  · conv => lhs; rw [e, wcells_append, wcells_cons]
    rw [List.getElem?_append_right (by omega), l, Nat.sub_self]; rfl
  · conv => lhs; rw [e, wcells_append, wcells_cons]
    rw [List.getElem?_append_right (by omega), l, show k * 2 + 1 - k * 2 = 1 from by omega]; rfl
theorem wcells_set2 (c : List Wr) (k : Nat) (h : k < c.length) (x : Wr) : ((wcells c).set (k * 2) (.int .i64 (x.1 : Int))).set (k * 2 + 1) (.string x.2) = wcells (c.set k x) := by
  have e : c = c.take k ++ (c[k] :: c.drop (k + 1)) := by rw [← List.drop_eq_getElem_cons h, List.take_append_drop]
  have l : (wcells (c.take k)).length = k * 2 := by rw [wcells_len, List.length_take]; omega
  have e2 : c.set k x = c.take k ++ (x :: c.drop (k + 1)) := by rw [List.set_eq_take_append_cons_drop, if_pos h]
  rw [e2, wcells_append, wcells_cons]
  conv => lhs; rw [e, wcells_append, wcells_cons]
  rw [List.set_append_right _ _ (by omega), l, Nat.sub_self, List.set_append_right _ _ (by omega), l, show k * 2 + 1 - k * 2 = 1 from by omega]
  rfl
theorem made_wr (n : Nat) : (madeCells (Value.agg #[.int .i64 0, .string ⟨#[]⟩]).cells (n * 2)).toList = wcells (List.replicate n (0, ⟨#[]⟩)) := by
  apply List.ext_getElem?
  intro j
  have hlen : (wcells (List.replicate n ((0, ⟨#[]⟩) : Wr))).length = n * 2 := by rw [wcells_len, List.length_replicate]
  by_cases hj : j < n * 2
  · have hk : j / 2 < (List.replicate n ((0, ⟨#[]⟩) : Wr)).length := by rw [List.length_replicate]; omega
    have h2 := wcells_at2 (List.replicate n ((0, ⟨#[]⟩) : Wr)) (j / 2) hk
    rw [List.getElem_replicate] at h2
    have hm : (madeCells #[Value.int .i64 0, .string ⟨#[]⟩] (n * 2)).toList[j]? = some ((#[Value.int .i64 0, .string ⟨#[]⟩] : Array Value)[j % 2]!) := by simp [madeCells, hj]
    show (madeCells #[Value.int .i64 0, .string ⟨#[]⟩] (n * 2)).toList[j]? = _
    rw [hm]
    rcases Nat.mod_two_eq_zero_or_one j with e | e
    · rw [e, show j = j / 2 * 2 from by omega, h2.1]; rfl
    · rw [e, show j = j / 2 * 2 + 1 from by omega, h2.2]; rfl
  · rw [List.getElem?_eq_none (by rw [Array.length_toList, size_madeCells]; omega), List.getElem?_eq_none (by omega)]

def BadE (t : Nat) (d : ByteArray) : Prop := ¬ esc ≤ t ∧ Marked d
instance (t : Nat) (d : ByteArray) : Decidable (BadE t d) := inferInstanceAs (Decidable (_ ∧ _))
def NoBad (ts : List Nat) (ds : List ByteArray) (k : Nat) : Prop := ∀ i (h : i < ts.length) (h' : i < ds.length), i < k → ¬ BadE ts[i] ds[i]
def unL (ts : List Nat) (ds : List ByteArray) : List Wr := List.zipWith unesc ts ds
def unK (ts : List Nat) (ds : List ByteArray) (k : Nat) : List Wr := (unL ts ds).take k ++ List.replicate (ts.length - k) (0, ⟨#[]⟩)
theorem unL_len {ts : List Nat} {ds : List ByteArray} (h : ts.length = ds.length) : (unL ts ds).length = ts.length := by simp [unL, h]
theorem unK_len {ts : List Nat} {ds : List ByteArray} (h : ts.length = ds.length) (k : Nat) (hk : k ≤ ts.length) : (unK ts ds k).length = ts.length := by
  unfold unK; rw [List.length_append, List.length_take, unL_len h, List.length_replicate]; omega
theorem unK_more {ts : List Nat} {ds : List ByteArray} (h : ts.length = ds.length) (k : Nat) (hk : k < ts.length) : (unK ts ds k).set k (unesc ts[k] (ds[k]'(by omega))) = unK ts ds (k + 1) := by
  have hl := unL_len h
  unfold unK
  rw [List.set_append_right _ _ (by rw [List.length_take]; omega), List.length_take, show k - min k (unL ts ds).length = 0 from by omega, List.take_succ_eq_append_getElem (by omega), List.append_assoc]
  congr 1
  rw [show ts.length - k = (ts.length - (k + 1)) + 1 from by omega, List.replicate_succ]
  simp [unL]
theorem and_esc (t : Nat) : t &&& 2147483648 = (t / 2147483648 % 2) * 2147483648 := by
  apply Nat.eq_of_testBit_eq
  intro i
  rw [Nat.testBit_and, show (2147483648 : Nat) = 2 ^ 31 from rfl, Nat.testBit_two_pow, Nat.testBit_mul_two_pow]
  by_cases hi : 31 = i
  · subst hi
    simp [Nat.testBit_eq_decide_div_mod_eq]
  · by_cases hl : 31 ≤ i
    · simp only [hi, decide_false, Bool.and_false, hl, decide_true, Bool.true_and]
      rw [Nat.testBit_lt_two_pow (by have : 2 ^ 1 ≤ 2 ^ (i - 31) := Nat.pow_le_pow_right (by decide) (by omega); omega)]
    · simp [hi, hl]

section
variable {w wr : World} {As : List Ast}
theorem texts_cell {W : World} {v : Value} {xs : List ByteArray} (h : StrsIn W v xs) (i : Nat) (hi : i < xs.length) : ∃ b o cap, v = .slice (some ⟨b, o, none⟩) xs.length cap ∧ W.cell? ⟨b, o + i, none⟩ = some (.string xs[i]) := by
  obtain ⟨ao, cap, rfl, hc⟩ := h
  obtain ⟨b, o, rfl, hx⟩ := hc i hi
  exact ⟨b, o, cap, rfl, hx⟩

set_option maxHeartbeats 2000000 in
set_option maxRecDepth 8000 in
theorem unescaped_st (h : St w wr As) (ts : List Nat) (ds : List ByteArray) (tv dv : Value) (ht : ∀ W Bs, St w W (Bs ++ As) → U32In W tv ts) (hd : ∀ W Bs, St w W (Bs ++ As) → StrsIn W dv ds) (hlen : ts.length = ds.length) (hl : ts.length ≤ 1024) (htl : ∀ t ∈ ts, t < 4294967296) (hs : ∀ d ∈ ds, 4 ≤ d.size ∧ d.size ≤ 4096) :
    Calls Tryd.prog 77 #[tv, dv] wr fun e w' => (NoBad ts ds ts.length ∧ ∃ v, e = .returned (.tuple #[v, .bool true]) ∧ St w w' (aWrs v (unL ts ds) :: As)) ∨ (¬ NoBad ts ds ts.length ∧ e = .returned (.tuple #[.slice none 0 0, .bool false]) ∧ St w w' As) := by
  obtain ⟨ao, cap, rfl, _⟩ := ht wr [] h
  obtain ⟨bo, cap2, rfl, _⟩ := hd wr [] h
  have l0 : (ts.length : Int) ≤ 1024 := by omega
  have hmk := fun W => make_run rowWr ts.length (by omega) (by omega) .i64 .i64 W
  have h1 := st_made h 39 (.agg #[.int .i64 0, .string ⟨#[]⟩]) 2 ts.length rfl (by omega)
  rw [made_wr, show List.replicate ts.length ((0, ⟨#[]⟩) : Wr) = unK ts ds 0 from by simp [unK]] at h1
  have H1 := Lib.hid h1
  have HT := Lib.hid ht
  have HD := Lib.hid hd
  have HLEN := Lib.hid hlen
  have HTL := Lib.hid htl
  have HS := Lib.hid hs
  have HL := Lib.hid hl
  clear h h1 ht hd hl htl hs hlen
  go_enter Tryd.func77, Tryd.ntmps77
  go_upto_block 1 with fail
  generalize wr.heap.size = B at H1 ⊢
  clear hmk
  go_loopw [14] (fun i W => ∃ k : Nat, k ≤ ts.length ∧ i = .int .i64 ↑k ∧ NoBad ts ds k ∧ St w W (aRow 39 2 (.slice (some ⟨B, 0, none⟩) ts.length ts.length) ts.length (wcells (unK ts ds k)) :: As)) (fun i _ => ts.length - (intOf i).toNat)
  case atStart => exact ⟨0, Nat.zero_le _, rfl, fun i _ _ h => by omega, H1.out⟩
  case round =>
    obtain ⟨k, hk, rfl, hnb, hst⟩ := hrel
    clear H1
    by_cases hlt : k < ts.length
    · have hlt2 : k < ds.length := by rw [← HLEN.out]; exact hlt
      have hx : ∃ b o, ao = some ⟨b, o, none⟩ ∧ wr.cell? ⟨b, o + k, none⟩ = some (.int .u32 (ts[k] : Nat)) := by
        obtain ⟨ao', cap', hv', hc⟩ := HT.out _ [_] hst
        cases hv'
        exact hc k hlt
      obtain ⟨b, o, rfl, hct⟩ := hx
      have hy : ∃ b o, bo = some ⟨b, o, none⟩ ∧ wr.cell? ⟨b, o + k, none⟩ = some (.string ds[k]) := by
        obtain ⟨ao', cap', hv', hc⟩ := HD.out _ [_] hst
        cases hv'
        exact hc k hlt2
      obtain ⟨b2, o2, rfl, hcd⟩ := hy
      have hcd2 : ∀ u1 u2, ((wr.setCell ⟨B, k * 2, none⟩ u1).setCell ⟨B, k * 2 + 1, none⟩ u2).cell? ⟨b2, o2 + k, none⟩ = some (.string ds[k]) := fun u1 u2 => by
        obtain ⟨ao', cap', hv', hc⟩ := HD.out _ [_] (st_put (u := u2) (i := k * 2 + 1) (st_put (u := u1) (i := k * 2) hst (by omega)) (by omega))
        cases hv'
        obtain ⟨b3, o3, e, hx⟩ := hc k hlt2
        cases e
        exact hx
      have hul := unK_len HLEN.out k hk
      obtain ⟨w0, w1⟩ := wcells_at2 (unK ts ds k) k (by omega)
      have y0 := (st_at hst rfl (k * 2) (by omega)).trans w0
      have y1 := (st_at hst rfl (k * 2 + 1) (by omega)).trans w1
      have yf := st_unfrozen hst
      generalize (unK ts ds k)[k] = old at y0 y1
      have HSX := Lib.hid (HS.out _ (List.getElem_mem hlt2))
      have HTX := Lib.hid (HTL.out _ (List.getElem_mem hlt))
      have HMORE := Lib.hid (unK_more HLEN.out k hlt)
      have HSET : Hid (∀ x : Wr, wcells ((unK ts ds k).set k x) = ((wcells (unK ts ds k)).set (k * 2) (.int .i64 (x.1 : Int))).set (k * 2 + 1) (.string x.2)) := Lib.hid fun x => (wcells_set2 _ k (by omega) x).symm
      have HNB : Hid (¬ BadE ts[k] ds[k] → NoBad ts ds (k + 1)) := Lib.hid fun hb i hi hi' hlt => by
        by_cases e : i = k
        · subst e; exact hb
        · exact hnb i hi hi' (by omega)
      have HBAD : Hid (BadE ts[k] ds[k] → ¬ NoBad ts ds ts.length) := Lib.hid fun hb h => h k hlt hlt2 hlt hb
      have HST := Lib.hid hst
      have n1 : (k : Int) < ts.length := by omega
      have n2 : (k : Int) < ds.length := by omega
      generalize ts[k] = t at hct HTX HMORE HNB HBAD
      generalize ds[k] = d at hcd hcd2 HSX HMORE HNB HBAD
      have t0 : (0 : Int) ≤ t := by omega
      have t1 : (t : Int) ≤ 4294967295 := by have := HTX.out; omega
      have a1 : bits .andNot .u32 (t : Int) 2147483648 = ((t % 2147483648 : Nat) : Int) := by
        have := u32_andNot_nat t 2147483648 HTX.out (by decide)
        rw [show (4294967295 - 2147483648 : Nat) = 2 ^ 31 - 1 from rfl, Nat.and_two_pow_sub_one_eq_mod] at this
        exact this
      have a2 : bits .and .u32 (t : Int) 2147483648 = (((t / 2147483648 % 2) * 2147483648 : Nat) : Int) := by
        rw [show (2147483648 : Int) = ((2147483648 : Nat) : Int) from rfl, u32_and_nat t 2147483648 HTX.out (by decide), and_esc]
      have HU : Hid (unesc t d = if esc ≤ t then (t - esc, mk2 ++ d.extract 2 d.size) else (t, d)) := Lib.hid rfl
      clear hst hnb hul w0 w1
      by_cases c : esc ≤ t
      · have hc' : (2147483648 : Nat) ≤ t := c
        replace a1 : bits .andNot .u32 (t : Int) 2147483648 = ((t - esc : Nat) : Int) := by rw [a1]; unfold esc; have := HTX.out; omega
        replace a2 : bits .and .u32 (t : Int) 2147483648 = 2147483648 := by rw [a2]; have := HTX.out; omega
        have HOK := Lib.hid (HNB.out fun h => h.1 c)
        rw [HU.out, if_pos c] at HMORE
        have hf : 2 ≤ d.size := by have := HSX.out; omega
        have sl : ∀ W, (Instr.slice 9 (.string d) (some (.int .i64 2)) none none).run Tryd.prog W = .ok (.string (d.extract 2 d.size)) W := fun W => by
          have := run_slice_string_from_if (P := Tryd.prog) W 9 d .i64 2 Tryd.underlying9
          rw [this, if_pos ⟨by omega, by omega⟩]
          rfl
        have g0 : ¬ 9223372036854775807 < 2 + (d.extract 2 d.size).size := by rw [ByteArray.size_extract]; have := HSX.out; omega
        have hp := st_put (u := .int .i64 ((t - esc : Nat) : Int)) (i := k * 2) HST.out (by omega)
        have hp2 := st_put (u := .string d) (i := k * 2 + 1) hp (by omega)
        have z0 : _ = some (Value.string d) := (st_at hp2 rfl (k * 2 + 1) (by omega)).trans (by rw [List.getElem?_set_self (by rw [List.length_set]; have := st_len HST.out; omega)])
        have zf := st_unfrozen hp2
        generalize d.extract 2 d.size = f at sl g0 HMORE
        have q0 : (0 : Int) ≤ ((t - esc : Nat) : Int) := by omega
        have q1 : ((t - esc : Nat) : Int) ≤ 2147483648 := by unfold esc; have := HTX.out; omega
        generalize t - esc = te at a1 q0 q1 HMORE z0 zf hp2
        have HP2 := Lib.hid hp2
        have hcd3 := hcd2 (.int .i64 (te : Int)) (.string d)
        clear HNB HBAD HU c hc' hf hp hp2 hcd2
        go_wp2_with fail
        go_roundw
        case rel => exact ⟨k + 1, by omega, by go_num, HOK.out, by
          have h3 := st_put (u := .string (⟨#[87, 74]⟩ ++ f)) (i := k * 2 + 1) HP2.out (by omega)
          rw [List.set_set] at h3
          rw [← HMORE.out, HSET.out]
          exact h3⟩
        case measure => simp [intOf] <;> omega
      · have hc' : t < 2147483648 := Nat.lt_of_not_le c
        replace a1 : bits .andNot .u32 (t : Int) 2147483648 = (t : Int) := by rw [a1]; omega
        replace a2 : bits .and .u32 (t : Int) 2147483648 = 0 := by rw [a2]; omega
        rw [HU.out, if_neg c] at HMORE
        have HM := Lib.hid fun W => marked_any d (by have := HSX.out; omega) W
        have HC := Lib.hid c
        have hp := st_put (u := .int .i64 (t : Int)) (i := k * 2) HST.out (by omega)
        have hp2 := st_put (u := .string d) (i := k * 2 + 1) hp (by omega)
        have HP2 := Lib.hid hp2
        have hcd3 := hcd2 (.int .i64 (t : Int)) (.string d)
        clear HU hc' c hcd2 hp hp2
        by_cases m : Marked d
        · have HX := Lib.hid (HBAD.out ⟨HC.out, m⟩)
          rw [decide_eq_true m] at HM
          clear m HNB HBAD
          go_wp2_with (go_at_call 66; refine (HM.out _).mono ?_; rintro e w4 ⟨rfl, rfl⟩)
          go_ret2
          exact .inr ⟨HX.out, rfl, HP2.out.drop⟩
        · have HX := Lib.hid (HNB.out fun h => m h.2)
          rw [decide_eq_false m] at HM
          clear m HNB HBAD
          go_wp2_with (go_at_call 66; refine (HM.out _).mono ?_; rintro e w4 ⟨rfl, rfl⟩)
          go_roundw
          case rel => exact ⟨k + 1, by omega, by go_num, HX.out, by rw [← HMORE.out, HSET.out]; exact HP2.out⟩
          case measure => simp [intOf] <;> omega
    · obtain rfl : k = ts.length := by omega
      have H2 := Lib.hid hst
      have HNB := Lib.hid hnb
      have HALL : Hid (unK ts ds ts.length = unL ts ds) := Lib.hid (by unfold unK; rw [Nat.sub_self, List.take_of_length_le (by rw [unL_len HLEN.out]; exact Nat.le_refl _)]; simp)
      clear hst hnb hlt hk
      go_wp2_with fail
      go_ret2
      refine .inl ⟨HNB.out, _, rfl, ?_⟩
      have h2 := H2.out
      rw [HALL.out] at h2
      unfold aWrs
      rw [unL_len HLEN.out]
      exact h2
end
end Go.Proofs.YtjmjmekmaamclaaDoor.jrn
