/-
  Layer 4, the document's device: it goes down.
-/
import Derived.Test.YtkebilddoanhgaaDevB
import Derived.Deep.RegionHeld3
namespace Go.Proofs.Ytkebilddoanhgaa.dev
open Go.ChangeShapes Go.WideShapes Go.ChangeAt Go.RowKit mem
set_option linter.unusedVariables false

def withSafe (D : DevM) (s : List ByteArray) : DevM := { D with safe := s }
theorem fallen_take (ks : List Int) (torn : Int) (mask : Nat) (c : List (Nat × ByteArray)) (s : List ByteArray) (k : Nat) (h : k < c.length) :
    fallen ks torn mask 0 (c.take (k + 1)) s = fallStep ks torn mask k (c[k]) (fallen ks torn mask 0 (c.take k) s) := by
  rw [List.take_succ_eq_append_getElem h, fallen_snoc, Nat.zero_add, List.length_take, Nat.min_eq_left (Nat.le_of_lt h)]

/-- the blocks that a fall turns -/
def fallF (X : Nat) (r : RRep) : Nat → Prop := fun g => g = X ∨ r.sv.ownBlock = some g

section
variable {w wb : World} {As : List Ast} {X : Nat} {D : DevM} {r : RRep}

theorem strs_set (s : List ByteArray) (n : Nat) (v : ByteArray) : strs (s.set n v) = (strs s).set n (.string v) := by simp [strs, List.map_set]
theorem rparts_safe {W : World} {gs cap n : Nat} {s : List ByteArray} {Bs : List Ast} (h : St w W (rParts X (withSafe D s) r ++ Bs)) (hv : r.sv = .slice (some ⟨gs, 0, none⟩) D.nb cap) (hn : n < D.nb) (v : ByteArray) :
    St w (W.setCell ⟨gs, n, none⟩ (.string v)) (rParts X (withSafe D (s.set n v)) r ++ Bs) := by
  have h1 := h.swap
  unfold rParts at h1 ⊢
  simp only [hv] at h1
  have h2 : St w W (aRow 9 1 (.slice (some ⟨gs, 0, none⟩) D.nb cap) D.nb (strs s) :: aVar X (rHead (withSafe D s) r) 50 :: ([aRow 96 2 r.cv D.cache.length (wcells D.cache), aRow 3 1 r.kv r.ks.length (intsV r.ks)] ++ Bs)) := h1
  have h3 := (st_put (u := .string v) h2 (by omega : n < D.nb * 1)).swap
  rw [← strs_set, ← hv] at h3
  exact h3

theorem rparts_free {W : World} {gs cap : Nat} {s : List ByteArray} {Bs : List Ast} (h : St w W (rParts X (withSafe D s) r ++ Bs)) (hv : r.sv = .slice (some ⟨gs, 0, none⟩) D.nb cap) (i : Nat) : W.frozen? ⟨gs, i, none⟩ = false := by
  have h1 := h.swap
  unfold rParts at h1
  simp only [hv] at h1
  have h2 : St w W (aRow 9 1 (.slice (some ⟨gs, 0, none⟩) D.nb cap) D.nb (strs s) :: aVar X (rHead (withSafe D s) r) 50 :: ([aRow 96 2 r.cv D.cache.length (wcells D.cache), aRow 3 1 r.kv r.ks.length (intsV r.ks)] ++ Bs)) := h1
  exact st_unfrozen h2 i

theorem getD_fallen {ks : List Int} {torn : Int} {mask k n : Nat} {dt : ByteArray} {sk : List ByteArray} (ht : (k : Int) = torn) : fallStep ks torn mask k (n, dt) sk = sk.set n (mix mask (sk.getD n empty) dt) := by
  unfold fallStep; rw [if_pos ht]
theorem keep_fallen {ks : List Int} {torn : Int} {mask k n : Nat} {dt : ByteArray} {sk : List ByteArray} (ht : ¬ (k : Int) = torn) (hk : (k : Int) ∈ ks) : fallStep ks torn mask k (n, dt) sk = sk.set n dt := by
  unfold fallStep; rw [if_neg ht, if_pos hk]
theorem lose_fallen {ks : List Int} {torn : Int} {mask k n : Nat} {dt : ByteArray} {sk : List ByteArray} (ht : ¬ (k : Int) = torn) (hk : ¬ (k : Int) ∈ ks) : fallStep ks torn mask k (n, dt) sk = sk := by
  unfold fallStep; rw [if_neg ht, if_neg hk]

theorem fallen_ok (a : D.Ok) (ks : List Int) (torn : Int) (mask k : Nat) : (withSafe D (fallen ks torn mask 0 (D.cache.take k) D.safe)).Ok :=
  ⟨a.nb0, a.nb1, a.ns0, a.ns1, by show (fallen _ _ _ _ _ _).length = _; rw [fallen_len]; exact a.safe, fallen_sz _ _ _ a.ssz fun x hx => by rw [a.safe]; exact a.csz x (List.mem_of_mem_take hx), a.csz, a.plan⟩

theorem ch_setCells' {F : Nat → Prop} {a : World} {b : Nat} (hb : F b ∨ a.heap.size ≤ b) : ∀ (vs : List Value) (o : Nat) (W : World), Ch F a W → Ch F a (W.setCells b o vs)
  | [], _, _, h => h
  | v :: r, o, W, h => ch_setCells' hb r (o + 1) _ (h.setCell hb v)
theorem buf_text {W : World} {B cap : Nat} {l : List UInt8} {Bs : List Ast} (h : St w W (aBuf B l :: Bs)) :
    (convert 61 9 (.slice (some ⟨B, 0, none⟩) l.length cap)).run Try.prog W = .ok (.string ⟨l.toArray⟩) W :=
  run_convert_bytes_back (P := Try.prog) W 61 9 5 ⟨B, 0, none⟩ cap l Try.underlying61 Try.underlying5 Try.underlying9 fun j hj => by
    rw [Addr.add_mid, Nat.zero_add]
    exact buf_cell h j hj

theorem rfall_end {W : World} {ks : List Int} {torn : Int} {mask : Nat} {Bs : List Ast} (h : St w W (rParts X (withSafe D (fallen ks torn mask 0 D.cache D.safe)) r ++ Bs)) (a : RKnown D r) :
    ∃ r', RKnown (D.fall ks torn mask) r' ∧ St w (((W.setCell ⟨X, 3, none⟩ (.slice none 0 0)).setCell ⟨X, 4, none⟩ (.int .i64 0)).setCell ⟨X, 8, none⟩ (.bool true)) (rParts X (D.fall ks torn mask) r' ++ Bs) := by
  have h1 := st_set h 3 (.slice none 0 0)
  have h2 := st_set h1 4 (.int .i64 0)
  have h3 := st_set h2 8 (.bool true)
  refine ⟨{ r with cv := .slice none 0 0, at' := 0 }, ⟨a.1.fall ks torn mask, .inl ⟨rfl, rfl⟩, a.2.2.1, by show 0 ≤ _; omega⟩, ?_⟩
  have h4 := h3.third.drop
  exact (st_pushrow (t := 96) (size := 2) h4).third.third

set_option maxRecDepth 8000 in
set_option maxHeartbeats 4000000 in
theorem rfall_any (h : St w wb (rParts X D r ++ As)) (a : RKnown D r) (kv : Value) (ks : List Int) (torn : Int) (mask : Nat) (C : CrashOk ks torn mask)
    (HK : ∀ W, Ch (fallF X r) wb W → IntsIn W kv ks) (hl : D.cache.length ≤ 1073741824) :
    Calls Try.prog 54 #[.pointer (some ⟨X, 0, none⟩), .agg #[kv, .int .i64 torn, .int .u8 (mask : Int)]] wb fun e w' => e = .returned (.tuple #[]) ∧ ∃ r', RKnown (D.fall ks torn mask) r' ∧ St w w' (rParts X (D.fall ks torn mask) r' ++ As) := by
  have HA := Lib.hid a
  have HC := Lib.hid C
  have HKK := Lib.hid HK
  have m0 : (0 : Int) ≤ mask := by omega
  have m1 : (mask : Int) ≤ 255 := by have := C.mask; omega
  have hl' : (D.cache.length : Int) ≤ 1073741824 := by omega
  have HS := Lib.hid h
  clear C HK h a hl
  go_enter Try.func54, Try.ntmps54
  go_wp2_with fail
  go_loopw [4] (fun i W => ∃ k : Nat, k ≤ D.cache.length ∧ i = .int .i64 ↑k ∧ St w W (aVar wb.heap.size [kv, .int .i64 torn, .int .u8 (mask : Int)] 40 :: (rParts X (withSafe D (fallen ks torn mask 0 (D.cache.take k) D.safe)) r ++ As)) ∧ Ch (fallF X r) wb W) (fun i _ => D.cache.length - (intOf i).toNat)
  case atStart => exact ⟨0, Nat.zero_le _, rfl, st_new HS.out _ _, (Ch.refl _ _).alloc _⟩
  case round =>
    obtain ⟨k, hk, rfl, h1, h2⟩ := hrel
    have hok : (withSafe D (fallen ks torn mask 0 (D.cache.take k) D.safe)).Ok := fallen_ok HA.out.1 _ _ _ _
    have hS := rsees (⟨hok, HA.out.2⟩ : RKnown (withSafe D _) r) h1.drop
    have q0 := st_cell h1 0
    have q1 := st_cell h1 1
    have q2 := st_cell h1 2
    simp only [List.getElem?_cons_zero, List.getElem?_cons_succ] at q0 q1 q2
    have c3 := hS.c3
    obtain ⟨aoc, capc, hcv, hcc⟩ := hS.hc
    rw [hcv] at c3
    have c3' : wr.cell? ⟨X, 3, none⟩ = some (.slice aoc D.cache.length capc) := c3
    have hfr := hS.fr
    by_cases hlt : k < D.cache.length
    · obtain ⟨gc, rfl, x1, x2⟩ := hcc k hlt
      have hx := HA.out.1.csz _ (List.getElem_mem hlt)
      have x1' : wr.cell? ⟨gc, k * 2, none⟩ = some (.int .i64 ((D.cache[k]).1 : Int)) := x1
      have x2' : wr.cell? ⟨gc, k * 2 + 1, none⟩ = some (.string (D.cache[k]).2) := x2
      have H1 := Lib.hid h1
      have H2 := Lib.hid h2
      have HSS := Lib.hid hS
      have HF := Lib.hid (fallen_take ks torn mask D.cache D.safe k hlt)
      have HSL := Lib.hid hok
      clear x1 x2 c3 hcc hS h1 h2 hok hcv HS
      generalize fallen ks torn mask 0 (D.cache.take k) D.safe = sk at H1 HSS HF HSL
      have HX := Lib.hid (show D.cache[k] = ((D.cache[k]).1, (D.cache[k]).2) from rfl)
      generalize (D.cache[k]).1 = n at x1' hx HX
      generalize (D.cache[k]).2 = dt at x2' hx HX
      rw [HX.out] at HF
      obtain ⟨hn, hd⟩ := hx
      have h3 := st_new H1.out [.int .i64 (n : Int), .string dt] 96
      have hS3 := rsees (⟨HSL.out, HA.out.2⟩ : RKnown (withSafe D sk) r) h3.drop.drop
      have p0 := st_cell h3 0
      have p1 := st_cell h3 1
      have z0 := st_cell h3.swap 0
      have z1 := st_cell h3.swap 1
      have z2 := st_cell h3.swap 2
      simp only [List.getElem?_cons_zero, List.getElem?_cons_succ] at p0 p1 z0 z1 z2
      have d1 := hS3.c1
      have d2 := hS3.c2
      obtain ⟨gs, caps, hsv, hss⟩ := hS3.hs
      have d3 := hss n hn
      rw [hsv] at d2
      have d2' : (wr.alloc (.cells [.int .i64 (n : Int), .string dt].toArray 96)).cell? ⟨X, 2, none⟩ = some (.slice (some ⟨gs, 0, none⟩) D.nb caps) := d2
      have n0 : (0 : Int) ≤ n := by omega
      have n1 : (n : Int) < D.nb := by omega
      have nb1 : (D.nb : Int) ≤ 4096 := by have := HA.out.1.nb1; omega
      have H3 := Lib.hid h3
      have H32 := Lib.hid (H2.out.alloc (.cells [.int .i64 (n : Int), .string dt].toArray 96))
      have d3' : (wr.alloc (.cells [.int .i64 (n : Int), .string dt].toArray 96)).cell? ⟨gs, n, none⟩ = some (.string (sk.getD n empty)) := d3
      have HSV := Lib.hid hsv
      clear HX hS3 h3 hss d2 d3 hsv H1 H2 HSS
      obtain ⟨s0, es0⟩ : ∃ s0, s0 = sk.getD n empty := ⟨_, rfl⟩
      rw [← es0] at d3'
      have HE0 := Lib.hid es0
      clear es0
      by_cases e : (k : Int) = torn
      · have t : ((k : Int) == torn) = true := by rw [beq_iff_eq]; exact e
        have HE := Lib.hid e
        clear e
        go_wp2_with fail
        generalize wr.alloc (.cells #[.int .i64 (n : Int), .string dt] 96) = W1 at H3 H32 p0 p1 z0 z1 z2 d1 d2' d3' ⊢
        have hcv := fun (W : World) => run_bytes_of_string (P := Try.prog) W 9 61 5 s0 Try.underlying9 Try.underlying61 Try.underlying5
        have HZ0 : Hid (s0.size = 512 * D.ns) := Lib.hid (by rw [HE0.out]; exact HSL.out.getD hn)
        go_region
        have h4 := (buf_new H3.out s0 (grownCap W1.drew s0.size 0 5) 5).drew.drew
        have h42 := ((H32.out.alloc (.cells (bytesRow s0 (grownCap W1.drew s0.size 0 5)) 5 ((bytesRow s0 (grownCap W1.drew s0.size 0 5)).size, (bytesRow s0 (grownCap W1.drew s0.size 0 5)).size + 1))).drew).drew
        clear hcv
        generalize (W1.alloc (.cells (bytesRow s0 (grownCap W1.drew s0.size 0 5)) 5 ((bytesRow s0 (grownCap W1.drew s0.size 0 5)).size, (bytesRow s0 (grownCap W1.drew s0.size 0 5)).size + 1))).drew.drew = W2 at h4 h42 ⊢
        have hcap := grownCap_ge W1.drew s0.size 0 5
        generalize grownCap W1.drew s0.size 0 5 = bc at hcap ⊢
        rw [HZ0.out] at hcap
        have HCAP := Lib.hid hcap
        clear hcap
        have HB := Lib.hid H32.out.size
        generalize W1.heap.size = B at h4 HB ⊢
        generalize wr.heap.size = T at h4 ⊢
        have hz0 := HZ0.out
        rw [hz0]
        have H4 := Lib.hid h4
        have H42 := Lib.hid h42
        clear h4 h42 p0 p1 z0 z1 z2 d1 d2' d3' H3 H32 x1' x2' c3' hfr q0 q1 q2
        have dz : dt.data.toList.length = s0.data.toList.length := by
          have e1 : s0.data.toList.length = s0.size := by rw [Array.length_toList]; rfl
          have e2 : dt.data.toList.length = dt.size := by rw [Array.length_toList]; rfl
          omega
        have sz : s0.data.toList.length = 512 * D.ns := by rw [← hz0, Array.length_toList]; rfl
        have ns8 := HA.out.1.ns1
        go_wp2_with fail
        go_loopw [7] (fun i W => ∃ j : Nat, j ≤ D.ns ∧ i = .int .i64 ↑j ∧ St w W (aBuf B (mixL (fun s => decide (s < j) && mask.testBit s) s0.data.toList dt.data.toList) :: aVar T [.int .i64 (n : Int), .string dt] 96 :: aVar wb.heap.size [kv, .int .i64 torn, .int .u8 (mask : Int)] 40 :: (rParts X (withSafe D sk) r ++ As)) ∧ Ch (fallF X r) wb W) (fun i _ => D.ns - (intOf i).toNat)
        case atStart => exact ⟨0, Nat.zero_le _, rfl, by
          have : (fun s => decide (s < 0) && mask.testBit s) = fun _ => false := by funext s; simp
          rw [this, mixL_none]
          exact H4.out, H42.out⟩
        case round =>
          obtain ⟨j, hj, rfl, g1, g2⟩ := hrel
          have hS := rsees (⟨HSL.out, HA.out.2⟩ : RKnown (withSafe D sk) r) g1.drop.drop.drop
          have d1 := hS.c1
          have d2 := hS.c2
          rw [HSV.out] at d2
          have d1' : wr.cell? ⟨X, 1, none⟩ = some (.int .i64 (D.ns : Int)) := d1
          have d2' : wr.cell? ⟨X, 2, none⟩ = some (.slice (some ⟨gs, 0, none⟩) D.nb caps) := d2
          have p0 := st_cell g1.swap 0
          have p1 := st_cell g1.swap 1
          have z2 := st_cell g1.third 2
          simp only [List.getElem?_cons_zero, List.getElem?_cons_succ] at p0 p1 z2
          have G1 := Lib.hid g1
          have G2 := Lib.hid g2
          have j0 : (0 : Int) ≤ j := by omega
          have ns1 : (D.ns : Int) ≤ 8 := by omega
          clear g1 g2 d1 d2 hS H4 H42
          by_cases jl : j < D.ns
          · have jl8 : (j : Int) < 8 := by omega
            have cp := HCAP.out
            have hlen := mixL_len (fun s => decide (s < j) && mask.testBit s) s0.data.toList dt.data.toList
            by_cases bb : mask.testBit j = true
            · have t2 := bit_true bb
              have hM := mixL_more (fun s => mask.testBit s) s0.data.toList dt.data.toList j (by omega) dz bb
              have dsz : dt.size = 512 * D.ns := hd
              have sl1 := part_slice B (512 * D.ns) bc j (by omega)
              have sl2 := part_text dt j (by omega)
              have hseg := seg_list dt j
              have hsz : (dt.extract (512 * j) (512 * j + 512)).size = 512 := by rw [ByteArray.size_extract]; omega
              rw [← hseg] at hM
              have hcp := part_copy G1.out.drew (dt.extract (512 * j) (512 * j + 512)) (512 * j) (bc - 512 * j) 3 hsz (by omega)
              have hN := buf_copy G1.out.drew (dt.extract (512 * j) (512 * j + 512)).data.toList (512 * j) (by have e2 : (dt.extract (512 * j) (512 * j + 512)).data.toList.length = (dt.extract (512 * j) (512 * j + 512)).size := (by rw [Array.length_toList]; rfl); omega)
              have e3 : (dt.extract (512 * j) (512 * j + 512)).data.toList.length = 512 := by rw [Array.length_toList]; exact hsz
              rw [e3, hM] at hN
              have HN := Lib.hid hN
              have HN2 := Lib.hid (ch_setCells' (.inr HB.out) (cellsOf (dt.extract (512 * j) (512 * j + 512)).data.toList) (512 * j) _ G2.out.drew)
              generalize cellsOf (dt.extract (512 * j) (512 * j + 512)).data.toList = cs at hcp HN HN2
              generalize dt.extract (512 * j) (512 * j + 512) = seg at sl2 hcp
              have w1 : IntKind.i64.wrap (512 * (j : Int)) = 512 * (j : Int) := IntWalk.i64_in _ (by omega)
              have w2 : IntKind.i64.wrap (512 * (j : Int) + 512) = 512 * (j : Int) + 512 := IntWalk.i64_in _ (by omega)
              clear bb hM hseg hsz hN e3 hlen
              go_wp2_with fail
              go_region
              go_wp2_with fail
              go_roundw
              case rel => exact ⟨j + 1, by omega, by go_num, HN.out, HN2.out⟩
              case measure => simp [intOf] <;> omega
            · have bb' : mask.testBit j = false := by simpa using bb
              have t2 := bit_false bb'
              have HM := Lib.hid (mixL_skip (fun s => mask.testBit s) s0.data.toList dt.data.toList j bb')
              clear bb bb' hlen
              go_wp2_with fail
              go_roundw
              case rel => exact ⟨j + 1, by omega, by go_num, by rw [← HM.out]; exact G1.out, G2.out⟩
              case measure => simp [intOf] <;> omega
          · obtain rfl : j = D.ns := by omega
            have HM := Lib.hid (mixL_all (fun s => mask.testBit s) s0.data.toList dt.data.toList D.ns (by omega))
            rw [HM.out] at G1
            have hlen : (mixL (fun s => mask.testBit s) s0.data.toList dt.data.toList).length = 512 * D.ns := by rw [mixL_len, sz]
            have htx2 := buf_text (cap := bc) G1.out.drew
            have hmx : (⟨(mixL (fun s => mask.testBit s) s0.data.toList dt.data.toList).toArray⟩ : ByteArray) = mix mask s0 dt := rfl
            rw [hlen, hmx] at htx2
            have fz := (rsees (⟨HSL.out, HA.out.2⟩ : RKnown (withSafe D sk) r) G1.out.drop.drop.drop)
            obtain ⟨gs', caps', hsv', hss'⟩ := fz.hs
            rw [HSV.out] at hsv'
            simp only [Value.slice.injEq, Option.some.injEq, Addr.mk.injEq, true_and, and_true] at hsv'
            obtain ⟨rfl, _⟩ := hsv'
            have y0 : wr.cell? ⟨gs, n, none⟩ = some (.string (sk.getD n empty)) := hss' n hn
            have G3 := Lib.hid ((rparts_safe G1.out.drop.drop.behind HSV.out hn (mix mask s0 dt)).front.drew)
            have G32 := Lib.hid ((G2.out).setCell (p := ⟨gs, n, none⟩) (.inl (.inr (by rw [HSV.out]; rfl))) (.string (mix mask s0 dt))).drew
            have hfz := rparts_free G1.out.drop.drop.drop HSV.out n
            have HRES := Lib.hid (getD_fallen (mask := mask) (n := n) (dt := dt) (sk := sk) (ks := ks) HE.out)
            rw [← HE0.out] at HRES
            rw [HRES.out] at HF
            have G1b := Lib.hid (G1.out.drop.drop)
            clear hss' hlen hmx fz HM
            generalize mix mask s0 dt = mx at htx2 G3 G32 HF
            go_wp2_with fail
            go_region
            go_wp2_with fail
            go_roundw
            case rel => exact ⟨k + 1, by omega, by go_num, by rw [HF.out]; exact G3.out, G32.out⟩
            case measure => simp [intOf] <;> omega
      · have t : ((k : Int) == torn) = false := by rw [beq_eq_false_iff_ne]; exact e
        have HE := Lib.hid e
        have HHAS := Lib.hid fun (W : World) (hW : Ch (fallF X r) wb W) => rhas_any kv ks k W (HKK.out W hW) HC.out.len
        have k0 : (0 : Int) ≤ k := by omega
        have y3 := rparts_free H3.out.drop.drop HSV.out n
        by_cases mm : (k : Int) ∈ ks
        · have HRES := Lib.hid (keep_fallen (mask := mask) (n := n) (dt := dt) (sk := sk) e mm)
          rw [HRES.out] at HF
          have HD : Hid (decide ((k : Int) ∈ ks) = true) := Lib.hid (decide_eq_true mm)
          clear e mm
          go_wp2_with fail
          generalize wr.alloc (.cells #[.int .i64 (n : Int), .string dt] 96) = W1 at H3 H32 p0 p1 z0 z1 z2 d1 d2' d3' y3 ⊢
          have G3 := Lib.hid ((rparts_safe H3.out.drop.behind HSV.out hn dt).front.drew)
          have G32 := Lib.hid ((H32.out).setCell (p := ⟨gs, n, none⟩) (.inl (.inr (by rw [HSV.out]; rfl))) (.string dt)).drew
          refine (HHAS.out W1 H32.out).mono ?_
          rintro e W2 ⟨rfl, rfl⟩
          rw [HD.out]
          go_wp2_with fail
          go_region
          go_wp2_with fail
          go_roundw
          case rel => exact ⟨k + 1, by omega, by go_num, by rw [HF.out]; exact G3.out, G32.out⟩
          case measure => simp [intOf] <;> omega
        · have HRES := Lib.hid (lose_fallen (mask := mask) (n := n) (dt := dt) (sk := sk) e mm)
          rw [HRES.out] at HF
          have HD : Hid (decide ((k : Int) ∈ ks) = false) := Lib.hid (decide_eq_false mm)
          clear e mm
          go_wp2_with fail
          generalize wr.alloc (.cells #[.int .i64 (n : Int), .string dt] 96) = W1 at H3 H32 p0 p1 z0 z1 z2 d1 d2' d3' y3 ⊢
          refine (HHAS.out W1 H32.out).mono ?_
          rintro e W2 ⟨rfl, rfl⟩
          rw [HD.out]
          go_wp2_with fail
          go_roundw
          case rel => exact ⟨k + 1, by omega, by go_num, by rw [HF.out]; exact H3.out.drop, H32.out⟩
          case measure => simp [intOf] <;> omega
    · obtain rfl : k = D.cache.length := by omega
      rw [List.take_of_length_le (Nat.le_refl _)] at h1
      have f3 := hfr 3
      have f4 := hfr 4
      have f8 := hfr 8
      have e3 := hS.c3
      have e4 := hS.c4
      have e8 := hS.c8
      have h5 := h1.drop
      have HFIN := Lib.hid (rfall_end h5 HA.out)
      clear hS h1 h2 hok hfr hcc hcv c3 HS hlt
      go_wp2_with fail
      go_end0
      exact ⟨rfl, HFIN.out⟩
end
end Go.Proofs.Ytkebilddoanhgaa.dev
