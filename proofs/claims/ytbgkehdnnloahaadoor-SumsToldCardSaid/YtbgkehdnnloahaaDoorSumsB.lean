/-
  Layer 3, the document's answers: four, number.
-/
import Derived.Test.YtbgkehdnnloahaaDoorSumsA
import Derived.Laws.BytesArg
namespace Go.Proofs.YtbgkehdnnloahaaDoor.sums
open Go.ChangeShapes Go.WideShapes Go.ChangeAt Go.RowKit
set_option linter.unusedVariables false

def fourL (n : Nat) : List UInt8 := [UInt8.ofNat (n / 16777216), UInt8.ofNat (n / 65536), UInt8.ofNat (n / 256), UInt8.ofNat n]
def numL : List UInt8 → Nat
  | a :: b :: c :: d :: _ => a.toNat * 16777216 + b.toNat * 65536 + c.toNat * 256 + d.toNat
  | _ => 0

theorem num_four (n : Nat) (h : n < 4294967296) (l : List UInt8) : numL (fourL n ++ l) = n := by
  unfold fourL
  show (UInt8.ofNat (n / 16777216)).toNat * 16777216 + (UInt8.ofNat (n / 65536)).toNat * 65536 + (UInt8.ofNat (n / 256)).toNat * 256 + (UInt8.ofNat n).toNat = n
  simp only [UInt8.toNat_ofNat']
  omega
theorem numL_lt (l : List UInt8) : numL l < 4294967296 := by
  match l with
  | a :: b :: c :: d :: _ =>
    have h1 := a.toNat_lt
    have h2 := b.toNat_lt
    have h3 := c.toNat_lt
    have h4 := d.toNat_lt
    show a.toNat * 16777216 + b.toNat * 65536 + c.toNat * 256 + d.toNat < _
    omega
  | [] => show 0 < 4294967296; omega
  | [_] => show 0 < 4294967296; omega
  | [_, _] => show 0 < 4294967296; omega
  | [_, _, _] => show 0 < 4294967296; omega

theorem u8_mod (k : Nat) : UInt8.ofNat (k % 256) = UInt8.ofNat k := UInt8.toNat_inj.1 (by simp only [UInt8.toNat_ofNat']; omega)

theorem num_val (a b c d : Nat) (ha : a < 256) (hb : b < 256) (hc : c < 256) (hd : d < 256) :
    bits BinOp.or IntKind.u32 (bits BinOp.or IntKind.u32 (bits BinOp.or IntKind.u32 ((a : Int) % 4294967296 * 16777216 % 4294967296) ((b : Int) % 4294967296 * 65536 % 4294967296)) ((c : Int) % 4294967296 * 256 % 4294967296)) ((d : Int) % 4294967296) =
      ((a * 16777216 + b * 65536 + c * 256 + d : Nat) : Int) := by
  rw [show (a : Int) % 4294967296 * 16777216 % 4294967296 = ((a * 16777216 : Nat) : Int) from by omega, show (b : Int) % 4294967296 * 65536 % 4294967296 = ((b * 65536 : Nat) : Int) from by omega, show (c : Int) % 4294967296 * 256 % 4294967296 = ((c * 256 : Nat) : Int) from by omega, show (d : Int) % 4294967296 = (d : Int) from by omega]
  rw [u32_or_nat _ _ (by omega) (by omega), nat_join 24 _ _ (by omega) (by omega), u32_or_nat _ _ (by omega) (by omega), nat_join 16 _ _ (by omega) (by omega), u32_or_nat _ _ (by omega) (by omega), nat_join 8 _ _ (by omega) (by omega)]

theorem numL_list (l : List UInt8) (h : 4 ≤ l.length) : numL l = (l[0]'(by omega)).toNat * 16777216 + (l[1]'(by omega)).toNat * 65536 + (l[2]'(by omega)).toNat * 256 + (l[3]'(by omega)).toNat := by
  match l, h with
  | a :: b :: c :: d :: l, _ => rfl
theorem numL_at (s : ByteArray) (h4 : 4 ≤ s.size) : numL s.data.toList = (s[0]'(by omega)).toNat * 16777216 + (s[1]'(by omega)).toNat * 65536 + (s[2]'(by omega)).toNat * 256 + (s[3]'(by omega)).toNat :=
  numL_list s.data.toList (by simpa using h4)

theorem four_conv (n : Nat) (hn : n < 4294967296) (W : World) :
    (convert 40 9 (.slice (some ⟨W.heap.size, 0, none⟩) 4 4)).run Tryd.prog (W.alloc (.cells #[.int .u8 ((n : Int) / 16777216), .int .u8 ((n : Int) / 65536 % 256), .int .u8 ((n : Int) / 256 % 256), .int .u8 ((n : Int) % 256)] 5)) =
      .ok (.string ⟨(fourL n).toArray⟩) (W.alloc (.cells #[.int .u8 ((n : Int) / 16777216), .int .u8 ((n : Int) / 65536 % 256), .int .u8 ((n : Int) / 256 % 256), .int .u8 ((n : Int) % 256)] 5)) := by
  have hr := run_convert_bytes_arg (P := Tryd.prog) (W.alloc (.cells #[.int .u8 ((n : Int) / 16777216), .int .u8 ((n : Int) / 65536 % 256), .int .u8 ((n : Int) / 256 % 256), .int .u8 ((n : Int) % 256)] 5)) 40 5 Tryd.underlying40 Tryd.underlying5 W.heap.size 0 4 4 [(n : Int) / 16777216, (n : Int) / 65536 % 256, (n : Int) / 256 % 256, (n : Int) % 256] rfl (fun i hi => by
    have hb := heap_alloc_new W (.cells #[.int .u8 ((n : Int) / 16777216), .int .u8 ((n : Int) / 65536 % 256), .int .u8 ((n : Int) / 256 % 256), .int .u8 ((n : Int) % 256)] 5)
    match i, hi with
    | 0, _ => rw [cell_of_row _ _ _ _ _ _ hb]; rfl
    | 1, _ => rw [cell_of_row _ _ _ _ _ _ hb]; rfl
    | 2, _ => rw [cell_of_row _ _ _ _ _ _ hb]; rfl
    | 3, _ => rw [cell_of_row _ _ _ _ _ _ hb]; rfl) 9 Tryd.underlying9
  rw [hr]
  congr 3
  simp only [strOfNums, fourL, List.map_cons, List.map_nil]
  rw [show ((n : Int) / 16777216).toNat = n / 16777216 from by omega, show ((n : Int) / 65536 % 256).toNat = n / 65536 % 256 from by omega, show ((n : Int) / 256 % 256).toNat = n / 256 % 256 from by omega, show ((n : Int) % 256).toNat = n % 256 from by omega, u8_mod, u8_mod, u8_mod]

theorem four_any (n : Nat) (hn : n < 4294967296) (w : World) :
    Calls Tryd.prog 28 #[.int .u32 n] w fun e w' => e = .returned (.string ⟨(fourL n).toArray⟩) ∧ ∃ o, w' = w.alloc o := by
  have n0 : (0 : Int) ≤ n := by omega
  have n1 : (n : Int) ≤ 4294967295 := by omega
  have hcv := four_conv n hn w
  go_enter Tryd.func28, Tryd.ntmps28
  go_wp2_with fail
  go_ret
  exact ⟨rfl, _, rfl⟩

theorem number_any (s : ByteArray) (h4 : 4 ≤ s.size) (w : World) :
    Calls Tryd.prog 22 #[.string s] w fun e w' => e = .returned (.int .u32 (numL s.data.toList)) ∧ ∃ q, w' = w.drewN q := by
  have h0 : 0 < s.size := by omega
  have h1 : 1 < s.size := by omega
  have h2 : 2 < s.size := by omega
  have h3 : 3 < s.size := by omega
  have i0 : (0 : Int) < s.size := by omega
  have i1 : (1 : Int) < s.size := by omega
  have i2 : (2 : Int) < s.size := by omega
  have i3 : (3 : Int) < s.size := by omega
  go_enter Tryd.func22, Tryd.ntmps22
  go_wp2_with fail
  go_quiet (fail)
  go_wp2_with fail
  go_ret
  refine ⟨congrArg Ending.returned (congrArg (Value.int IntKind.u32) ?_), _, rfl⟩
  rw [numL_at s h4]
  exact num_val _ _ _ _ (UInt8.toNat_lt _) (UInt8.toNat_lt _) (UInt8.toNat_lt _) (UInt8.toNat_lt _)
end Go.Proofs.YtbgkehdnnloahaaDoor.sums
