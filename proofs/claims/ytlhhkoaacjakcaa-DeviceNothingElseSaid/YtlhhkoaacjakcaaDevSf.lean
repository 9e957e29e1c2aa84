/-
  Layer 4: the calls of DeviceSafe and DeviceNothingElse, as they go there.
-/
import Derived.Test.YtlhhkoaacjakcaaDevX
import Derived.Test.YtlhhkoaacjakcaaDevAw
namespace Go.Proofs.Ytlhhkoaacjakcaa.dev
open Go.ChangeShapes Go.WideShapes Go.ChangeAt Go.RowKit mem
set_option linter.unusedVariables false

section
variable {w wr : World} {As : List Ast} {dev : Nat → DevM → Ast}
abbrev aCrash (P : Nat) (kv : Value) (torn : Int) (mask : Nat) : Ast := aVar P [kv, .int .i64 torn, .int .u8 (mask : Int)] 40
abbrev aStrs (v : Value) (nb : Nat) (l : List ByteArray) : Ast := aRow 9 1 v nb (strs l)
abbrev aInts (v : Value) (l : List Int) : Ast := aRow 3 1 v l.length (intsV l)
theorem ints_keep (v : Value) (l : List Int) : ∀ W F, (aInts v l).p W F → IntsIn W v l := fun W F h => ints_of_row h.1
theorem ints_push {W : World} {v : Value} {l : List Int} {a b : Int} {Bs : List Ast} (h : St w W (aRow 3 1 v (l.length + 2) (intsV l ++ [.int .i64 a, .int .i64 b]) :: Bs)) : St w W (aInts v (l ++ [a, b]) :: Bs) := by
  unfold aInts
  rw [List.length_append, show intsV (l ++ [a, b]) = intsV l ++ [.int .i64 a, .int .i64 b] from by simp [intsV]]
  exact h

theorem st_sixth {A B C D E F : Ast} (h : St w wr (A :: B :: C :: D :: E :: F :: As)) : St w wr (F :: A :: B :: C :: D :: E :: As) := by
  obtain ⟨U, h1, h2⟩ := h
  exact ⟨U, (h1.tail fun V k => (k.tail fun V k => (k.tail fun V k => (k.tail fun V k => k.swap).swap).swap).swap).swap, h2⟩

variable {D : DevM} {C : List (Nat × ByteArray)} {nb ns X : Nat}
theorem s_unfl (ok : DevOk dev) (a : Written nb ns C D) (h : St w wr (dev X D :: As)) : Calls Try.prog 29 #[pt X] wr fun e w' => e = .returned (.int .i64 (C.length : Int)) ∧ ∃ q, w' = wr.drewN q := by
  have := ok.unflushed h (room_less a.room (by omega))
  rwa [a.cache] at this
theorem s_unfl0 (ok : DevOk dev) (a : Written nb ns C D) {ks : List Int} {torn : Int} {mask : Nat} (h : St w wr (dev X (fell D ks torn mask) :: As)) : Calls Try.prog 29 #[pt X] wr fun e w' => e = .returned (.int .i64 0) ∧ ∃ q, w' = wr.drewN q :=
  ok.unflushed h (fell_room (room_less a.room (by omega)) (by omega) _ _ _)
theorem s_pull (ok : DevOk dev) (a : Written nb ns C D) {g cap : Nat} {ks : List Int} {torn : Int} {mask : Nat} (CO : CrashOk ks torn mask) (h : St w wr (dev X D :: aKeep g cap ks :: As)) :
    Calls Try.prog 23 #[pt X, .agg #[.slice (some ⟨g, 0, none⟩) ks.length cap, .int .i64 torn, .int .u8 (mask : Int)]] wr fun e w' => e = .returned (.int .i64 0) ∧ St w w' (dev X (D.fall ks torn mask) :: As) := by
  have := ok.pull h (.slice (some ⟨g, 0, none⟩) ks.length cap) ks torn mask (keep_ints g cap ks) CO (room_less a.room (by omega))
  rw [pull_fall a.down] at this
  exact this.mono fun e w' h => ⟨h.1, h.2.swap.drop⟩
theorem s_pull2 (ok : DevOk dev) (a : Written nb ns C D) {v : Value} (h : St w wr (dev X D :: aInts v (evs C.length C.length) :: As)) :
    Calls Try.prog 23 #[pt X, .agg #[v, .int .i64 (-1), .int .u8 0]] wr fun e w' => e = .returned (.int .i64 0) ∧ St w w' (dev X (D.fall (evs C.length C.length) (-1) 0) :: As) := by
  have := ok.pull h v (evs C.length C.length) (-1) 0 (ints_keep v _) (evs_crash _ a.len) (room_less a.room (by omega))
  rw [pull_fall a.down] at this
  exact this.mono fun e w' h => ⟨h.1, h.2.swap.drop⟩
theorem s_restart (ok : DevOk dev) {ks : List Int} {torn : Int} {mask : Nat} (h : St w wr (dev X (D.fall ks torn mask) :: As)) :
    Calls Try.prog 25 #[pt X] wr fun e w' => e = .returned (.int .i64 0) ∧ St w w' (dev X (fell D ks torn mask) :: As) := by
  have := ok.restart h
  rwa [restart_fall] at this
theorem s_image (ok : DevOk dev) (a : Written nb ns C D) {ks : List Int} {torn : Int} {mask : Nat} (h : St w wr (dev X (fell D ks torn mask) :: As)) :
    Calls Try.prog 30 #[pt X] wr fun e w' => ∃ v, e = .returned v ∧ St w w' (aStrs v nb (fallen ks torn mask 0 C D.safe) :: dev X (fell D ks torn mask) :: As) := by
  have := ok.image h (fell_room (room_less a.room (by omega)) (by omega) _ _ _)
  rw [fell_image a.ok, a.cache] at this
  rw [← a.enb]
  exact this
theorem s_image2 (ok : DevOk dev) (a : Written nb ns C D) (h : St w wr (dev X (fell D (evs C.length C.length) (-1) 0) :: As)) :
    Calls Try.prog 30 #[pt X] wr fun e w' => ∃ v, e = .returned v ∧ St w w' (aStrs v nb D.image :: dev X (fell D (evs C.length C.length) (-1) 0) :: As) := by
  have := ok.image h (fell_room (room_less a.room (by omega)) (by omega) _ _ _)
  rw [fell_every a.ok _ _ (fun j hj => evs_all _ j (by rwa [a.cache] at hj))] at this
  rw [← a.enb]
  exact this
end
end Go.Proofs.Ytlhhkoaacjakcaa.dev
