/-
  Layer 1, the document's Text.
-/
import Derived.Test.YtpedohlglllocaaRefB
import Derived.Test.YtpedohlglllocaaBitF
import Derived.BigRegion
import Derived.Outline
namespace Go.Proofs.Ytpedohlglllocaa.bits
open Go.ChangeShapes Go.WideShapes Go.ChangeAt Go.RowKit
set_option linter.unusedVariables false

/-- one bit set in bytes whose later bits are 0 -/
theorem set_bit (L : List UInt8) (b : List Bool) (z : Nat) (h : bitsOf L = b ++ List.replicate (z + 1) false) (hj : b.length / 8 < L.length) (d : UInt8) (hd : d.toNat = L[b.length / 8].toNat ||| 2 ^ (7 - b.length % 8)) :
    bitsOf (L.set (b.length / 8) d) = b ++ [true] ++ List.replicate z false := by
  have hlen := congrArg List.length h
  simp only [length_bitsOf, List.length_append, List.length_replicate] at hlen
  obtain ⟨A, B, hL, hA⟩ : ∃ A B, L = A ++ [L[b.length / 8]] ++ B ∧ A.length = b.length / 8 := by
    refine ⟨L.take (b.length / 8), L.drop (b.length / 8 + 1), ?_, by rw [List.length_take]; omega⟩
    rw [List.append_assoc, List.singleton_append, List.getElem_cons_drop, List.take_append_drop]
  generalize hc : L[b.length / 8] = c at hL hd
  have hBl : L.length = A.length + 1 + B.length := by rw [hL]; simp; omega
  have h2 : bitsOf (A ++ [c]) ++ bitsOf B = b ++ (List.replicate (8 - b.length % 8) false ++ List.replicate (8 * B.length) false) := by
    rw [← bitsOf_append, ← hL, h, List.replicate_append_replicate]
    congr 2
    omega
  rw [← List.append_assoc] at h2
  have h3 := List.append_inj h2 (by simp only [length_bitsOf, List.length_append, List.length_replicate, List.length_cons, List.length_nil]; omega)
  have hf := fill_byte A c b (8 - b.length % 8) 1 1 (by omega) (by omega) (by omega) h3.1 d (by rw [hd, show 8 - b.length % 8 - 1 = 7 - b.length % 8 from by omega, Nat.one_mul])
  have hset : L.set (b.length / 8) d = A ++ [d] ++ B := by
    rw [hL, List.append_assoc, List.set_append, if_neg (by omega), hA, Nat.sub_self, List.singleton_append, List.set_cons_zero, List.append_assoc, List.singleton_append]
  rw [hset, bitsOf_append, hf, h3.2, List.append_assoc, List.append_assoc, List.append_assoc, List.replicate_append_replicate]
  rw [show ofNum 1 1 = [true] from rfl]
  congr 3
  omega

theorem bitsOf_zeros (n : Nat) : bitsOf (List.replicate n 0) = List.replicate (8 * n) false := by
  induction n with
  | zero => rfl
  | succ n ih => rw [List.replicate_succ, show (0 : UInt8) :: List.replicate n 0 = [0] ++ List.replicate n 0 from rfl, bitsOf_append, ih, bitsOf_one, show ofNum (0 : UInt8).toNat 8 = List.replicate 8 false from rfl, List.replicate_append_replicate]; congr 1; omega

theorem set_bitK (L : List UInt8) (b : List Bool) (k j sh z : Nat) (hb : b.length = k) (hj : j = k / 8) (hsh : sh = 7 - k % 8) (h : bitsOf L = b ++ List.replicate (z + 1) false) (hjl : j < L.length) (d : UInt8) (hd : d.toNat = L[j].toNat ||| 2 ^ sh) :
    bitsOf (L.set j d) = b ++ [true] ++ List.replicate z false := by
  subst hb hj hsh
  exact set_bit L b z h hjl d hd

theorem or_val8 (c sh : Nat) (hc : c < 256) (hs : sh ≤ 7) : bits BinOp.or IntKind.u8 (c : Int) (2 ^ sh % 256) = ((c ||| 2 ^ sh : Nat) : Int) := by
  have h1 : 2 ^ sh < 256 := Nat.lt_of_le_of_lt (Nat.pow_le_pow_right (n := 2) (by omega) hs) (by omega)
  rw [show (2 ^ sh % 256 : Int) = ((2 ^ sh : Nat) : Int) from by rw [Int.emod_eq_of_lt (Int.pow_nonneg (by omega)) (by rw [show (2 ^ sh : Int) = ((2 ^ sh : Nat) : Int) from by simp]; omega)]; simp, u8_or_nat _ _ hc h1]

def TextEnd (l : List Bool) (e : Ending) : Prop := ∃ L, Packs L l ∧ e = .returned (.string ⟨L.toArray⟩)

set_option maxHeartbeats 1600000 in
theorem rtext_any (ao : Option Addr) (l : List Bool) (cap : Nat) (w : World) (hl : l.length ≤ 134217728) (hcells : ∀ i, i < l.length → ∃ b o, ao = some ⟨b, o, none⟩ ∧ w.cell? ⟨b, o + i, none⟩ = (bools l)[i]?) :
    Calls Try.prog 12 #[.slice ao l.length cap] w fun e w' => TextEnd l e ∧ Ch (fun _ => False) w w' := by
  obtain ⟨i0, hi, hz0, hz1, hz2⟩ := info_parts Try.info5
  obtain ⟨len, hlen⟩ : ∃ len, len = l.length := ⟨_, rfl⟩
  rw [← hlen] at hcells hl ⊢
  have HLEN := Lib.hid hlen
  clear hlen
  obtain ⟨n, hn⟩ : ∃ n, n = (len + 7) / 8 := ⟨_, rfl⟩
  have HN := Lib.hid hn
  have hni : ((len : Int) + 7) / 8 = (n : Int) := by omega
  have hn2 : n ≤ 16777217 := by omega
  clear hn
  go_enter Try.func12, Try.ntmps12
  go_wp2_with (at_make; refine wpList_make_full _ rfl _ _ 68 rfl 0 5 i0 (.int .u8 0) 1 Try.underlying68 hi hz0 hz1 _ _ _ _ n rfl rfl (by omega) (by omega) (by rw [hz2]; omega) (by unfold maxLen; omega) (by omega) ?_; intro w1 hown hgrow)
  have HC : Hid (Ch (fun _ => False) w w1) := Lib.hid ((Ch.refl (fun _ => False) w).grown hgrow (fun k h => by cases h))
  obtain ⟨g, hg⟩ : ∃ g, g = w.heap.size := ⟨_, rfl⟩
  rw [← hg] at hown ⊢
  have HG : Hid (w.heap.size ≤ g) := Lib.hid (by omega)
  have HO : Hid (∃ L : List UInt8, L.length = n ∧ bitsOf L = l.take 0 ++ List.replicate (8 * n - 0) false ∧ w1.ownsRow 0 5 1 (.slice (some ⟨g, 0, none⟩) n n) n (byteCells L)) := Lib.hid (by
    refine ⟨List.replicate n 0, by simp, ?_, ?_⟩
    · rw [List.take_zero, List.nil_append, Nat.sub_zero]; exact bitsOf_zeros n
    · have h := hown
      rw [show (Value.int IntKind.u8 0).cells = #[Value.int IntKind.u8 0] from rfl, toList_madeCells_one, Nat.mul_one] at h
      simpa [byteCells] using h)
  clear hown hgrow hg
  go_loopw [4] (fun i wr => ∃ k : Nat, k ≤ len ∧ i = .int .i64 ↑k ∧ (∃ L : List UInt8, L.length = n ∧ bitsOf L = l.take k ++ List.replicate (8 * n - k) false ∧ wr.ownsRow 0 5 1 (.slice (some ⟨g, 0, none⟩) n n) n (byteCells L)) ∧ Ch (fun _ => False) w wr) (fun i _ => len - (intOf i).toNat)
  case atStart => exact ⟨0, Nat.zero_le _, rfl, HO.out, HC.out⟩
  case round =>
    obtain ⟨k, hk, rfl, ⟨L, hLn, hLb, hLo⟩, hch⟩ := hrel
    have HLn := Lib.hid hLn
    have HLb := Lib.hid hLb
    have HLo := Lib.hid hLo
    have HC1 := Lib.hid hch
    clear hLn hLb hLo hch HO HC
    by_cases hlt : k < len
    · obtain ⟨b, o, rfl, hc⟩ := hcells k hlt
      have hkl : k < l.length := by have := HLEN.out; omega
      rw [show (bools l)[k]? = some (.bool l[k]) from by simp [bools, hkl]] at hc
      have hc1 : wr.cell? ⟨b, o + k, none⟩ = some (.bool l[k]) := by
        rw [World.cell?_of_block (w := w) (HC1.out.block b (World.block_lt_of_cell? w _ hc) (fun h => h))]
        exact hc
      have HT := Lib.hid (List.take_succ_eq_append_getElem hkl)
      generalize hx : l[k] = x at hc1 HT
      clear hc hx hcells
      cases x
      · go_wp2_with fail
        go_roundw
        case rel =>
          refine ⟨k + 1, by omega, by go_num, ⟨L, HLn.out, ?_, HLo.out⟩, HC1.out⟩
          rw [HLb.out, HT.out, List.append_assoc, show 8 * n - k = (8 * n - (k + 1)) + 1 from by have := HN.out; omega, List.replicate_succ]
          rfl
        case measure => simp [intOf] <;> omega
      · obtain ⟨j, hj⟩ : ∃ j, j = k / 8 := ⟨_, rfl⟩
        obtain ⟨sh, hsh⟩ : ∃ sh, sh = 7 - k % 8 := ⟨_, rfl⟩
        have hjn : j < n := by have := HN.out; omega
        have hjL : j < L.length := by have := HLn.out; omega
        have hji : (j : Int) < (n : Int) := by omega
        have hcj : wr.cell? ⟨g, j, none⟩ = some (.int .u8 ((L[j]'hjL).toNat : Int)) := by
          rw [HLo.out.cellAt j (by omega)]
          simp [byteCells, hjL]
        have hfj := HLo.out.frozenAt j
        have ej : IntKind.i64.wrap ((k : Int) / 8) = (j : Int) := by rw [show (k : Int) / 8 = (j : Int) from by omega]; exact IntWalk.i64_in _ (by omega)
        have ej2 : (k : Int) / 8 = (j : Int) := by omega
        have es : IntKind.i64.wrap (7 - (k : Int) % 8) = (sh : Int) := by rw [show 7 - (k : Int) % 8 = (sh : Int) from by omega]; exact IntWalk.i64_in _ (by omega)
        have es2 : 7 - (k : Int) % 8 = (sh : Int) := by omega
        have hsh8 : sh ≤ 7 := by omega
        have HJ := Lib.hid hj
        have HSH := Lib.hid hsh
        obtain ⟨c, hcc⟩ : ∃ c, c = (L[j]'hjL).toNat := ⟨_, rfl⟩
        rw [← hcc] at hcj
        have HCC := Lib.hid hcc
        have hc8 : c < 256 := by rw [hcc]; exact UInt8.toNat_lt _
        clear hj hsh hcc
        go_wp2_with fail
        generalize hWr : wr = W2 at hcj hfj hc1 ⊢
        have HWR := Lib.hid hWr
        clear hWr
        go_region
        go_wp2_with fail
        go_roundw
        case rel =>
          have hwr := HWR.out
          subst hwr
          have h1 : 2 ^ sh < 256 := Nat.lt_of_le_of_lt (Nat.pow_le_pow_right (n := 2) (by omega) hsh8) (by omega)
          have hd : c ||| 2 ^ sh < 256 := Nat.or_lt_two_pow (n := 8) hc8 h1
          obtain ⟨d, hdd⟩ : ∃ d : UInt8, d.toNat = c ||| 2 ^ sh := ⟨UInt8.ofNat (c ||| 2 ^ sh), by rw [UInt8.toNat_ofNat']; omega⟩
          refine ⟨k + 1, by omega, by go_num, ⟨L.set j d, by rw [List.length_set]; exact HLn.out, ?_, ?_⟩, ?_⟩
          · rw [HT.out]
            exact set_bitK L (l.take k) k j sh (8 * n - (k + 1)) (by rw [List.length_take]; omega) HJ.out HSH.out (by rw [HLb.out]; congr 2; have := HN.out; omega) hjL d (by rw [hdd, HCC.out])
          · have h := (HLo.out.stored j (.int .u8 (d.toNat : Int))).1
            rw [or_val8 c sh hc8 hsh8, ← hdd]
            have e : byteCells (L.set j d) = (byteCells L).set j (.int .u8 (d.toNat : Int)) := by simp [byteCells, List.map_set]
            rw [e]
            exact h
          · exact (HC1.out.setCell (.inr HG.out) _).drew
        case measure => simp [intOf] <;> omega
    · have hkl : k = l.length := by have := HLEN.out; omega
      have HP : Hid (Packs L l) := Lib.hid ⟨8 * n - k, by have := HN.out; have := HLEN.out; omega, by have h := HLb.out; rw [hkl, List.take_length] at h; rw [h, hkl]⟩
      have hcv : (convert 68 9 (.slice (some ⟨g, 0, none⟩) n n)).run Try.prog wr = .ok (.string ⟨L.toArray⟩) wr := by
        have hLl := HLn.out
        have hr := run_convert_bytes_arg (P := Try.prog) wr 68 5 Try.underlying68 Try.underlying5 g 0 n n (L.map fun c => (c.toNat : Int)) (by simp [hLl]) (fun i hi => by
          rw [Nat.zero_add, HLo.out.cellAt i (by omega)]
          have hil : i < L.length := by omega
          simp [byteCells, List.getElem?_eq_getElem hil, List.getD]) 9 Try.underlying9
        rw [hr]
        congr 3
        simp [strOfNums, Function.comp_def]
      clear hkl hcells
      go_wp2_with fail
      go_ret
      exact ⟨⟨L, HP.out, rfl⟩, HC1.out⟩
end Go.Proofs.Ytpedohlglllocaa.bits
