/-
  Layer 4, the law's own: awake: a write, torn.
-/
import Derived.Test.YtkebilddoanhgaaDevW
import Derived.Test.YtkebilddoanhgaaDevZ
namespace Go.Proofs.Ytkebilddoanhgaa.dev
open Go.ChangeShapes Go.WideShapes Go.ChangeAt Go.RowKit mem
set_option linter.unusedVariables false

theorem data_app (a b : ByteArray) : (a ++ b).data.toList = a.data.toList ++ b.data.toList := by simp
theorem i64_of (x : Int) (h : -9223372036854775808 ≤ x) (h2 : x ≤ 9223372036854775807) : InI64 x := ⟨h, h2⟩
def aText : ByteArray := ⟨#[97]⟩
theorem fill_a (n : Nat) : fillL (fillB aText) n = List.replicate n 97 := by
  show fillL [97] n = _
  unfold fillL
  rw [List.eq_replicate_iff]
  refine ⟨by simp, fun b hb => ?_⟩
  obtain ⟨i, _, rfl⟩ := List.mem_map.1 hb
  simp [Nat.mod_one]
theorem torn_list : (List.range 1024).map (fun i => if (2 : Nat).testBit (i / 512) then (97 : UInt8) else 0) = List.replicate 512 0 ++ List.replicate 512 97 := by decide +kernel
theorem nought_data (n : Nat) : (noughts n).data.toList = List.replicate n 0 := rfl
theorem fillM_data (s : ByteArray) (n : Nat) : (fillM s n).data.toList = fillL (fillB s) n := rfl
theorem mix_data (m : Nat) (a b : ByteArray) : (mix m a b).data.toList = mixL (fun s => m.testBit s) a.data.toList b.data.toList := rfl
theorem torn_text : mix 2 (noughts 1024) (fillM aText 1024) = noughts 512 ++ fillM aText 512 := by
  apply ba_ext
  rw [mix_data, nought_data, fillM_data]
  have e : (noughts 512 ++ fillM aText 512).data.toList = List.replicate 512 0 ++ List.replicate 512 97 := by
    rw [data_app, nought_data, fillM_data, fill_a]
  rw [e, ← torn_list, fill_a]
  unfold mixL
  rw [List.length_replicate]
  apply List.map_congr_left
  intro i hi
  rw [List.mem_range] at hi
  simp only [List.getD_eq_getElem?_getD, List.getElem?_replicate, if_pos hi, Option.getD_some]

def aw1 : DevM := { DevM.new 16 2 with calls := 1, cache := [(3, fillM aText 1024)] }
def aw2 : DevM := aw1.fall [] 0 2
def aw3 : DevM := { aw2 with down := false }
def aw4 : DevM := { aw3 with reads := 1 }
theorem aw_write : (DevM.new 16 2).write 3 (fillM aText 1024) = (aw1, 0) :=
  write_none (E := { DevM.new 16 2 with calls := 1 }) rfl (by decide) (by rw [fillM_size]; rfl) rfl
theorem aw_pull : aw1.pull [] 0 2 = (aw2, 0) := rfl
theorem aw_restart : aw2.restart = (aw3, 0) := rfl
theorem aw_read : aw3.read 3 = (aw4, noughts 512 ++ fillM aText 512, 0) := by
  rw [← torn_text]
  rfl

section
variable {w wr : World} {As : List Ast} {dev : Nat → DevM → Ast}
theorem aw_room : (DevM.new 16 2).Room 10 := ⟨by decide, by decide, by decide⟩
theorem aw_room1 : aw1.Room 10 := ⟨by decide, by decide, by decide⟩
theorem aw_room3 : aw3.Room 10 := ⟨by decide, by decide, by decide⟩
theorem no_keep (K : Ast) : ∀ W F, K.p W F → IntsIn W (.slice none 0 0) [] := fun W F _ => ⟨none, 0, rfl, fun i hi => absurd hi (by simp)⟩
theorem crash_none (t : Int) (m : Nat) (ht : InI64 t) (hm : m < 256) : CrashOk [] t m := ⟨fun k hk => absurd hk (by simp), by decide, ht, hm⟩

end
end Go.Proofs.Ytkebilddoanhgaa.dev
