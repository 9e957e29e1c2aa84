/-
  No cell of these rows narrows 'for every input' (looked for: loops, veiled, ifaces, maps, wideKeys, modest, calm, conditions, laid).
  DERIVED. THE GIVEN ROWS OF THIS SEAT. 11 by the template 'for every input the law returns true; each argument reads behind the call as it read before'; 0 by the template 'total and deterministic' (their statements: YtfgcbbbhnnikdaaTotals.lean).
  GIVEN WITH THE SEED: the statements are not yours to turn. If you find one false, say at which input.
  Laid BY PROGRAM, IN A SANDBOX (cutbox-rows.mjs): the forced cells as the released guide's own fill.sh prints them over the translation d1431d698ecb6c16… (all of the seat's roots in one cut). By AI agents, Wed Nov 11 2026. No macro, syntax, notation, axiom, sorry.
-/
import Derived.Test.YtfgcbbbhnnikdaaChecked
import GoSem.Claim
import GoSem.ClaimJoined
import GoSem.ClaimMapViews
import Derived.JoinedTies
import Derived.KernelRfl
namespace Go.Proofs.Ytfgcbbbhnnikdaa
/- THE CELL 'sum', in the pinned program and in every row, IS THE sha256 OF THE DUMP (.gsa) THAT YtfgcbbbhnnikdaaProg.lean LOADS. Nothing in Lean hashes anything: it is a label: what it is worth is what the hold of that sum in a sandbox is worth. -/
noncomputable def Try.pinned : Pinned := { name := "ytfgcbbbhnnikdaa", sum := "d1431d698ecb6c16bbac432ebf100d44dd087391a38721a30dec7e655a975619", checked := Try.checked }
namespace Rows
def none {H : Type} : Left H := { results := [], args := [] }

/-- 'wattlelaw06.ExtentPlays': WHATEVER THE INPUT: true; the input reads as it did. -/
def extentPlaysSpec : ChangeSpec := { name := "extentPlays", fn := fun _ => fun
  | [d1, d2, d3, d4, d5] => { results := [.lit (.bool true)], args := [d1, d2, d3, d4, d5] }
  | _ => none }
def extentPlaysRow : OpenClaim := { program := "ytfgcbbbhnnikdaa", sum := "d1431d698ecb6c16bbac432ebf100d44dd087391a38721a30dec7e655a975619", func := "wattle/wattlelaw06.ExtentPlays", spec := "extentPlays", unfollowed := true, recurses := true, apart := false }
def ExtentPlaysSaid : Prop := extentPlaysRow.holds Try.pinned (OpenSpec.ofChange extentPlaysSpec)

/-- ITS FALSE NEIGHBOUR: 'it returns false'. Refute it at one input. -/
def extentPlaysWrong : ChangeSpec := { name := "extentPlays", fn := fun _ => fun
  | [d1, d2, d3, d4, d5] => { results := [.lit (.bool false)], args := [d1, d2, d3, d4, d5] }
  | _ => none }
def ExtentPlaysWrongFalsely : Prop := extentPlaysRow.holds Try.pinned (OpenSpec.ofChange extentPlaysWrong)

/-- 'wattlelaw06.ExtentBits': WHATEVER THE INPUT: true; the input reads as it did. -/
def extentBitsSpec : ChangeSpec := { name := "extentBits", fn := fun _ => fun
  | [d1, d2, d3] => { results := [.lit (.bool true)], args := [d1, d2, d3] }
  | _ => none }
def extentBitsRow : OpenClaim := { program := "ytfgcbbbhnnikdaa", sum := "d1431d698ecb6c16bbac432ebf100d44dd087391a38721a30dec7e655a975619", func := "wattle/wattlelaw06.ExtentBits", spec := "extentBits", unfollowed := true, recurses := true, apart := false }
def ExtentBitsSaid : Prop := extentBitsRow.holds Try.pinned (OpenSpec.ofChange extentBitsSpec)

/-- ITS FALSE NEIGHBOUR: 'it returns false'. Refute it at one input. -/
def extentBitsWrong : ChangeSpec := { name := "extentBits", fn := fun _ => fun
  | [d1, d2, d3] => { results := [.lit (.bool false)], args := [d1, d2, d3] }
  | _ => none }
def ExtentBitsWrongFalsely : Prop := extentBitsRow.holds Try.pinned (OpenSpec.ofChange extentBitsWrong)

/-- 'wattlelaw06.ExtentNames': WHATEVER THE INPUT: true; the input reads as it did. -/
def extentNamesSpec : ChangeSpec := { name := "extentNames", fn := fun _ => fun
  | [] => { results := [.lit (.bool true)], args := [] }
  | _ => none }
def extentNamesRow : OpenClaim := { program := "ytfgcbbbhnnikdaa", sum := "d1431d698ecb6c16bbac432ebf100d44dd087391a38721a30dec7e655a975619", func := "wattle/wattlelaw06.ExtentNames", spec := "extentNames", unfollowed := true, recurses := true, apart := false }
def ExtentNamesSaid : Prop := extentNamesRow.holds Try.pinned (OpenSpec.ofChange extentNamesSpec)

/-- ITS FALSE NEIGHBOUR: 'it returns false'. Refute it at one input. -/
def extentNamesWrong : ChangeSpec := { name := "extentNames", fn := fun _ => fun
  | [] => { results := [.lit (.bool false)], args := [] }
  | _ => none }
def ExtentNamesWrongFalsely : Prop := extentNamesRow.holds Try.pinned (OpenSpec.ofChange extentNamesWrong)

/-- 'wattlelaw06.ExtentNever': WHATEVER THE INPUT: true; the input reads as it did. -/
def extentNeverSpec : ChangeSpec := { name := "extentNever", fn := fun _ => fun
  | [d1, d2, d3] => { results := [.lit (.bool true)], args := [d1, d2, d3] }
  | _ => none }
def extentNeverRow : OpenClaim := { program := "ytfgcbbbhnnikdaa", sum := "d1431d698ecb6c16bbac432ebf100d44dd087391a38721a30dec7e655a975619", func := "wattle/wattlelaw06.ExtentNever", spec := "extentNever", unfollowed := true, recurses := true, apart := false }
def ExtentNeverSaid : Prop := extentNeverRow.holds Try.pinned (OpenSpec.ofChange extentNeverSpec)

/-- ITS FALSE NEIGHBOUR: 'it returns false'. Refute it at one input. -/
def extentNeverWrong : ChangeSpec := { name := "extentNever", fn := fun _ => fun
  | [d1, d2, d3] => { results := [.lit (.bool false)], args := [d1, d2, d3] }
  | _ => none }
def ExtentNeverWrongFalsely : Prop := extentNeverRow.holds Try.pinned (OpenSpec.ofChange extentNeverWrong)

/-- 'wattlelaw06.ExtentUndone': WHATEVER THE INPUT: true; the input reads as it did. -/
def extentUndoneSpec : ChangeSpec := { name := "extentUndone", fn := fun _ => fun
  | [d1, d2, d3, d4, d5] => { results := [.lit (.bool true)], args := [d1, d2, d3, d4, d5] }
  | _ => none }
def extentUndoneRow : OpenClaim := { program := "ytfgcbbbhnnikdaa", sum := "d1431d698ecb6c16bbac432ebf100d44dd087391a38721a30dec7e655a975619", func := "wattle/wattlelaw06.ExtentUndone", spec := "extentUndone", unfollowed := true, recurses := true, apart := false }
def ExtentUndoneSaid : Prop := extentUndoneRow.holds Try.pinned (OpenSpec.ofChange extentUndoneSpec)

/-- ITS FALSE NEIGHBOUR: 'it returns false'. Refute it at one input. -/
def extentUndoneWrong : ChangeSpec := { name := "extentUndone", fn := fun _ => fun
  | [d1, d2, d3, d4, d5] => { results := [.lit (.bool false)], args := [d1, d2, d3, d4, d5] }
  | _ => none }
def ExtentUndoneWrongFalsely : Prop := extentUndoneRow.holds Try.pinned (OpenSpec.ofChange extentUndoneWrong)

/-- 'wattlelaw06.ExtentBack': WHATEVER THE INPUT: true; the input reads as it did. -/
def extentBackSpec : ChangeSpec := { name := "extentBack", fn := fun _ => fun
  | [d1, d2, d3] => { results := [.lit (.bool true)], args := [d1, d2, d3] }
  | _ => none }
def extentBackRow : OpenClaim := { program := "ytfgcbbbhnnikdaa", sum := "d1431d698ecb6c16bbac432ebf100d44dd087391a38721a30dec7e655a975619", func := "wattle/wattlelaw06.ExtentBack", spec := "extentBack", unfollowed := true, recurses := true, apart := false }
def ExtentBackSaid : Prop := extentBackRow.holds Try.pinned (OpenSpec.ofChange extentBackSpec)

/-- ITS FALSE NEIGHBOUR: 'it returns false'. Refute it at one input. -/
def extentBackWrong : ChangeSpec := { name := "extentBack", fn := fun _ => fun
  | [d1, d2, d3] => { results := [.lit (.bool false)], args := [d1, d2, d3] }
  | _ => none }
def ExtentBackWrongFalsely : Prop := extentBackRow.holds Try.pinned (OpenSpec.ofChange extentBackWrong)

/-- 'wattlelaw07.PageEncodes': WHATEVER THE INPUT: true; the input reads as it did. -/
def pageEncodesSpec : ChangeSpec := { name := "pageEncodes", fn := fun _ => fun
  | [d1, d2] => { results := [.lit (.bool true)], args := [d1, d2] }
  | _ => none }
def pageEncodesRow : OpenClaim := { program := "ytfgcbbbhnnikdaa", sum := "d1431d698ecb6c16bbac432ebf100d44dd087391a38721a30dec7e655a975619", func := "wattle/wattlelaw07.PageEncodes", spec := "pageEncodes", unfollowed := true, recurses := true, apart := false }
def PageEncodesSaid : Prop := pageEncodesRow.holds Try.pinned (OpenSpec.ofChange pageEncodesSpec)

/-- ITS FALSE NEIGHBOUR: 'it returns false'. Refute it at one input. -/
def pageEncodesWrong : ChangeSpec := { name := "pageEncodes", fn := fun _ => fun
  | [d1, d2] => { results := [.lit (.bool false)], args := [d1, d2] }
  | _ => none }
def PageEncodesWrongFalsely : Prop := pageEncodesRow.holds Try.pinned (OpenSpec.ofChange pageEncodesWrong)

/-- 'wattlelaw07.PageDecodes': WHATEVER THE INPUT: true; the input reads as it did. -/
def pageDecodesSpec : ChangeSpec := { name := "pageDecodes", fn := fun _ => fun
  | [d] => { results := [.lit (.bool true)], args := [d] }
  | _ => none }
def pageDecodesRow : OpenClaim := { program := "ytfgcbbbhnnikdaa", sum := "d1431d698ecb6c16bbac432ebf100d44dd087391a38721a30dec7e655a975619", func := "wattle/wattlelaw07.PageDecodes", spec := "pageDecodes", unfollowed := true, recurses := true, apart := false }
def PageDecodesSaid : Prop := pageDecodesRow.holds Try.pinned (OpenSpec.ofChange pageDecodesSpec)

/-- ITS FALSE NEIGHBOUR: 'it returns false'. Refute it at one input. -/
def pageDecodesWrong : ChangeSpec := { name := "pageDecodes", fn := fun _ => fun
  | [d] => { results := [.lit (.bool false)], args := [d] }
  | _ => none }
def PageDecodesWrongFalsely : Prop := pageDecodesRow.holds Try.pinned (OpenSpec.ofChange pageDecodesWrong)

/-- 'wattlelaw07.PageBack': WHATEVER THE INPUT: true; the input reads as it did. -/
def pageBackSpec : ChangeSpec := { name := "pageBack", fn := fun _ => fun
  | [d1, d2, d3] => { results := [.lit (.bool true)], args := [d1, d2, d3] }
  | _ => none }
def pageBackRow : OpenClaim := { program := "ytfgcbbbhnnikdaa", sum := "d1431d698ecb6c16bbac432ebf100d44dd087391a38721a30dec7e655a975619", func := "wattle/wattlelaw07.PageBack", spec := "pageBack", unfollowed := true, recurses := true, apart := false }
def PageBackSaid : Prop := pageBackRow.holds Try.pinned (OpenSpec.ofChange pageBackSpec)

/-- ITS FALSE NEIGHBOUR: 'it returns false'. Refute it at one input. -/
def pageBackWrong : ChangeSpec := { name := "pageBack", fn := fun _ => fun
  | [d1, d2, d3] => { results := [.lit (.bool false)], args := [d1, d2, d3] }
  | _ => none }
def PageBackWrongFalsely : Prop := pageBackRow.holds Try.pinned (OpenSpec.ofChange pageBackWrong)

/-- 'wattlelaw07.PageRoom': WHATEVER THE INPUT: true; the input reads as it did. -/
def pageRoomSpec : ChangeSpec := { name := "pageRoom", fn := fun _ => fun
  | [d1, d2, d3] => { results := [.lit (.bool true)], args := [d1, d2, d3] }
  | _ => none }
def pageRoomRow : OpenClaim := { program := "ytfgcbbbhnnikdaa", sum := "d1431d698ecb6c16bbac432ebf100d44dd087391a38721a30dec7e655a975619", func := "wattle/wattlelaw07.PageRoom", spec := "pageRoom", unfollowed := true, recurses := true, apart := false }
def PageRoomSaid : Prop := pageRoomRow.holds Try.pinned (OpenSpec.ofChange pageRoomSpec)

/-- ITS FALSE NEIGHBOUR: 'it returns false'. Refute it at one input. -/
def pageRoomWrong : ChangeSpec := { name := "pageRoom", fn := fun _ => fun
  | [d1, d2, d3] => { results := [.lit (.bool false)], args := [d1, d2, d3] }
  | _ => none }
def PageRoomWrongFalsely : Prop := pageRoomRow.holds Try.pinned (OpenSpec.ofChange pageRoomWrong)

/-- 'wattlelaw07.PageNone': WHATEVER THE INPUT: true; the input reads as it did. -/
def pageNoneSpec : ChangeSpec := { name := "pageNone", fn := fun _ => fun
  | [] => { results := [.lit (.bool true)], args := [] }
  | _ => none }
def pageNoneRow : OpenClaim := { program := "ytfgcbbbhnnikdaa", sum := "d1431d698ecb6c16bbac432ebf100d44dd087391a38721a30dec7e655a975619", func := "wattle/wattlelaw07.PageNone", spec := "pageNone", unfollowed := true, recurses := true, apart := false }
def PageNoneSaid : Prop := pageNoneRow.holds Try.pinned (OpenSpec.ofChange pageNoneSpec)

/-- ITS FALSE NEIGHBOUR: 'it returns false'. Refute it at one input. -/
def pageNoneWrong : ChangeSpec := { name := "pageNone", fn := fun _ => fun
  | [] => { results := [.lit (.bool false)], args := [] }
  | _ => none }
def PageNoneWrongFalsely : Prop := pageNoneRow.holds Try.pinned (OpenSpec.ofChange pageNoneWrong)

/- THE SECOND FORM. 'bulk': how many values and letters a reading holds, each counted each time it is reached (what is shared counts as often as it is met; a slice's spare places count too). A statement '..UptoSaid' is the law's where the arguments, and the package variables that the reading takes, are together of bulk at most 1048576: NARROWER than '..Said'. Prove '..Said' where nothing that the law and all that it calls make is longer than what came in: it says more and counts as full. Else prove '..UptoSaid'. A law counts once. -/
mutual
def uptoBulk {H : Type} : DataW H → Nat
  | .lit (.string bytes) => bytes.length + 1
  | .lit _ => 1
  | .nil => 1
  | .ptr d => uptoBulk d + 1
  | .slice elems spare => uptoBulkAll elems + uptoBulkAll spare + 1
  | .agg parts => uptoBulkAll parts + 1
  | .iface _ d => uptoBulk d + 1
  | .map entries => uptoBulkEntries entries + 1
  | .held _ => 1
def uptoBulkAll {H : Type} : List (DataW H) → Nat
  | [] => 0
  | d :: r => uptoBulk d + uptoBulkAll r
def uptoBulkEntries {H : Type} : List (Lit × DataW H) → Nat
  | [] => 0
  | x :: r => uptoBulkEntry x + uptoBulkEntries r
def uptoBulkEntry {H : Type} : Lit × DataW H → Nat
  | (.string bytes, d) => bytes.length + uptoBulk d + 1
  | (_, d) => uptoBulk d + 1
 end
def uptoSmall : (H : Type) → List (DataW H) → Bool := fun _ ds => decide (uptoBulkAll ds ≤ 1048576)
def OpenSpec.upto (s : _root_.Go.ChangeSpec) : _root_.Go.OpenSpec := { _root_.Go.OpenSpec.ofChange s with cond := some uptoSmall }

/-- 'wattlelaw06.ExtentPlays', WHERE WHAT IT READS IS OF BULK AT MOST 1048576: true; the input reads as it did. -/
def extentPlaysUptoRow : OpenClaim := { program := "ytfgcbbbhnnikdaa", sum := "d1431d698ecb6c16bbac432ebf100d44dd087391a38721a30dec7e655a975619", func := "wattle/wattlelaw06.ExtentPlays", spec := "extentPlays", unfollowed := true, recurses := true, apart := false, narrowed := true }
def ExtentPlaysUptoSaid : Prop := extentPlaysUptoRow.holds Try.pinned (OpenSpec.upto extentPlaysSpec)

/-- 'wattlelaw06.ExtentBits', WHERE WHAT IT READS IS OF BULK AT MOST 1048576: true; the input reads as it did. -/
def extentBitsUptoRow : OpenClaim := { program := "ytfgcbbbhnnikdaa", sum := "d1431d698ecb6c16bbac432ebf100d44dd087391a38721a30dec7e655a975619", func := "wattle/wattlelaw06.ExtentBits", spec := "extentBits", unfollowed := true, recurses := true, apart := false, narrowed := true }
def ExtentBitsUptoSaid : Prop := extentBitsUptoRow.holds Try.pinned (OpenSpec.upto extentBitsSpec)

/-- 'wattlelaw06.ExtentNames', WHERE WHAT IT READS IS OF BULK AT MOST 1048576: true; the input reads as it did. -/
def extentNamesUptoRow : OpenClaim := { program := "ytfgcbbbhnnikdaa", sum := "d1431d698ecb6c16bbac432ebf100d44dd087391a38721a30dec7e655a975619", func := "wattle/wattlelaw06.ExtentNames", spec := "extentNames", unfollowed := true, recurses := true, apart := false, narrowed := true }
def ExtentNamesUptoSaid : Prop := extentNamesUptoRow.holds Try.pinned (OpenSpec.upto extentNamesSpec)

/-- 'wattlelaw06.ExtentNever', WHERE WHAT IT READS IS OF BULK AT MOST 1048576: true; the input reads as it did. -/
def extentNeverUptoRow : OpenClaim := { program := "ytfgcbbbhnnikdaa", sum := "d1431d698ecb6c16bbac432ebf100d44dd087391a38721a30dec7e655a975619", func := "wattle/wattlelaw06.ExtentNever", spec := "extentNever", unfollowed := true, recurses := true, apart := false, narrowed := true }
def ExtentNeverUptoSaid : Prop := extentNeverUptoRow.holds Try.pinned (OpenSpec.upto extentNeverSpec)

/-- 'wattlelaw06.ExtentUndone', WHERE WHAT IT READS IS OF BULK AT MOST 1048576: true; the input reads as it did. -/
def extentUndoneUptoRow : OpenClaim := { program := "ytfgcbbbhnnikdaa", sum := "d1431d698ecb6c16bbac432ebf100d44dd087391a38721a30dec7e655a975619", func := "wattle/wattlelaw06.ExtentUndone", spec := "extentUndone", unfollowed := true, recurses := true, apart := false, narrowed := true }
def ExtentUndoneUptoSaid : Prop := extentUndoneUptoRow.holds Try.pinned (OpenSpec.upto extentUndoneSpec)

/-- 'wattlelaw06.ExtentBack', WHERE WHAT IT READS IS OF BULK AT MOST 1048576: true; the input reads as it did. -/
def extentBackUptoRow : OpenClaim := { program := "ytfgcbbbhnnikdaa", sum := "d1431d698ecb6c16bbac432ebf100d44dd087391a38721a30dec7e655a975619", func := "wattle/wattlelaw06.ExtentBack", spec := "extentBack", unfollowed := true, recurses := true, apart := false, narrowed := true }
def ExtentBackUptoSaid : Prop := extentBackUptoRow.holds Try.pinned (OpenSpec.upto extentBackSpec)

/-- 'wattlelaw07.PageEncodes', WHERE WHAT IT READS IS OF BULK AT MOST 1048576: true; the input reads as it did. -/
def pageEncodesUptoRow : OpenClaim := { program := "ytfgcbbbhnnikdaa", sum := "d1431d698ecb6c16bbac432ebf100d44dd087391a38721a30dec7e655a975619", func := "wattle/wattlelaw07.PageEncodes", spec := "pageEncodes", unfollowed := true, recurses := true, apart := false, narrowed := true }
def PageEncodesUptoSaid : Prop := pageEncodesUptoRow.holds Try.pinned (OpenSpec.upto pageEncodesSpec)

/-- 'wattlelaw07.PageDecodes', WHERE WHAT IT READS IS OF BULK AT MOST 1048576: true; the input reads as it did. -/
def pageDecodesUptoRow : OpenClaim := { program := "ytfgcbbbhnnikdaa", sum := "d1431d698ecb6c16bbac432ebf100d44dd087391a38721a30dec7e655a975619", func := "wattle/wattlelaw07.PageDecodes", spec := "pageDecodes", unfollowed := true, recurses := true, apart := false, narrowed := true }
def PageDecodesUptoSaid : Prop := pageDecodesUptoRow.holds Try.pinned (OpenSpec.upto pageDecodesSpec)

/-- 'wattlelaw07.PageBack', WHERE WHAT IT READS IS OF BULK AT MOST 1048576: true; the input reads as it did. -/
def pageBackUptoRow : OpenClaim := { program := "ytfgcbbbhnnikdaa", sum := "d1431d698ecb6c16bbac432ebf100d44dd087391a38721a30dec7e655a975619", func := "wattle/wattlelaw07.PageBack", spec := "pageBack", unfollowed := true, recurses := true, apart := false, narrowed := true }
def PageBackUptoSaid : Prop := pageBackUptoRow.holds Try.pinned (OpenSpec.upto pageBackSpec)

/-- 'wattlelaw07.PageRoom', WHERE WHAT IT READS IS OF BULK AT MOST 1048576: true; the input reads as it did. -/
def pageRoomUptoRow : OpenClaim := { program := "ytfgcbbbhnnikdaa", sum := "d1431d698ecb6c16bbac432ebf100d44dd087391a38721a30dec7e655a975619", func := "wattle/wattlelaw07.PageRoom", spec := "pageRoom", unfollowed := true, recurses := true, apart := false, narrowed := true }
def PageRoomUptoSaid : Prop := pageRoomUptoRow.holds Try.pinned (OpenSpec.upto pageRoomSpec)

/-- 'wattlelaw07.PageNone', WHERE WHAT IT READS IS OF BULK AT MOST 1048576: true; the input reads as it did. -/
def pageNoneUptoRow : OpenClaim := { program := "ytfgcbbbhnnikdaa", sum := "d1431d698ecb6c16bbac432ebf100d44dd087391a38721a30dec7e655a975619", func := "wattle/wattlelaw07.PageNone", spec := "pageNone", unfollowed := true, recurses := true, apart := false, narrowed := true }
def PageNoneUptoSaid : Prop := pageNoneUptoRow.holds Try.pinned (OpenSpec.upto pageNoneSpec)

end Rows
end Go.Proofs.Ytfgcbbbhnnikdaa
