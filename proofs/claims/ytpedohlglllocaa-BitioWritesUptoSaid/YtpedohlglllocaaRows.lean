/-
  No cell of these rows narrows 'for every input' (looked for: loops, veiled, ifaces, maps, wideKeys, modest, calm, conditions, laid).
  DERIVED. THE GIVEN ROWS OF THIS SEAT. 5 by the template 'for every input the law returns true; each argument reads behind the call as it read before'; 0 by the template 'total and deterministic' (their statements: YtpedohlglllocaaTotals.lean).
  GIVEN WITH THE SEED: the statements are not yours to turn. If you find one false, say at which input.
  Laid BY PROGRAM, IN A SANDBOX (cutbox-rows.mjs): the forced cells as the released guide's own fill.sh prints them over the translation fda1641734890f91… (all of the seat's roots in one cut). By AI agents, Wed Nov 11 2026. No macro, syntax, notation, axiom, sorry.
-/
import Derived.Test.YtpedohlglllocaaChecked
import GoSem.Claim
import GoSem.ClaimJoined
import GoSem.ClaimMapViews
import Derived.JoinedTies
import Derived.KernelRfl
namespace Go.Proofs.Ytpedohlglllocaa
/- THE CELL 'sum', in the pinned program and in every row, IS THE sha256 OF THE DUMP (.gsa) THAT YtpedohlglllocaaProg.lean LOADS. Nothing in Lean hashes anything: it is a label: what it is worth is what the hold of that sum in a sandbox is worth. -/
noncomputable def Try.pinned : Pinned := { name := "ytpedohlglllocaa", sum := "fda1641734890f91acfd9153495b5f5e4264a2b18dc33acd5d1b9a4262dc36f7", checked := Try.checked }
namespace Rows
def none {H : Type} : Left H := { results := [], args := [] }

/-- 'wattlelaw01.BitioWrites': WHATEVER THE INPUT: true; the input reads as it did. -/
def bitioWritesSpec : ChangeSpec := { name := "bitioWrites", fn := fun _ => fun
  | [d] => { results := [.lit (.bool true)], args := [d] }
  | _ => none }
def bitioWritesRow : OpenClaim := { program := "ytpedohlglllocaa", sum := "fda1641734890f91acfd9153495b5f5e4264a2b18dc33acd5d1b9a4262dc36f7", func := "wattle/wattlelaw01.BitioWrites", spec := "bitioWrites", unfollowed := true, recurses := true, apart := false }
def BitioWritesSaid : Prop := bitioWritesRow.holds Try.pinned (OpenSpec.ofChange bitioWritesSpec)

/-- ITS FALSE NEIGHBOUR: 'it returns false'. Refute it at one input. -/
def bitioWritesWrong : ChangeSpec := { name := "bitioWrites", fn := fun _ => fun
  | [d] => { results := [.lit (.bool false)], args := [d] }
  | _ => none }
def BitioWritesWrongFalsely : Prop := bitioWritesRow.holds Try.pinned (OpenSpec.ofChange bitioWritesWrong)

/-- 'wattlelaw01.BitioReads': WHATEVER THE INPUT: true; the input reads as it did. -/
def bitioReadsSpec : ChangeSpec := { name := "bitioReads", fn := fun _ => fun
  | [d1, d2] => { results := [.lit (.bool true)], args := [d1, d2] }
  | _ => none }
def bitioReadsRow : OpenClaim := { program := "ytpedohlglllocaa", sum := "fda1641734890f91acfd9153495b5f5e4264a2b18dc33acd5d1b9a4262dc36f7", func := "wattle/wattlelaw01.BitioReads", spec := "bitioReads", unfollowed := true, recurses := true, apart := false }
def BitioReadsSaid : Prop := bitioReadsRow.holds Try.pinned (OpenSpec.ofChange bitioReadsSpec)

/-- ITS FALSE NEIGHBOUR: 'it returns false'. Refute it at one input. -/
def bitioReadsWrong : ChangeSpec := { name := "bitioReads", fn := fun _ => fun
  | [d1, d2] => { results := [.lit (.bool false)], args := [d1, d2] }
  | _ => none }
def BitioReadsWrongFalsely : Prop := bitioReadsRow.holds Try.pinned (OpenSpec.ofChange bitioReadsWrong)

/-- 'wattlelaw01.BitioPacks': WHATEVER THE INPUT: true; the input reads as it did. -/
def bitioPacksSpec : ChangeSpec := { name := "bitioPacks", fn := fun _ => fun
  | [d1, d2, d3] => { results := [.lit (.bool true)], args := [d1, d2, d3] }
  | _ => none }
def bitioPacksRow : OpenClaim := { program := "ytpedohlglllocaa", sum := "fda1641734890f91acfd9153495b5f5e4264a2b18dc33acd5d1b9a4262dc36f7", func := "wattle/wattlelaw01.BitioPacks", spec := "bitioPacks", unfollowed := true, recurses := true, apart := false }
def BitioPacksSaid : Prop := bitioPacksRow.holds Try.pinned (OpenSpec.ofChange bitioPacksSpec)

/-- ITS FALSE NEIGHBOUR: 'it returns false'. Refute it at one input. -/
def bitioPacksWrong : ChangeSpec := { name := "bitioPacks", fn := fun _ => fun
  | [d1, d2, d3] => { results := [.lit (.bool false)], args := [d1, d2, d3] }
  | _ => none }
def BitioPacksWrongFalsely : Prop := bitioPacksRow.holds Try.pinned (OpenSpec.ofChange bitioPacksWrong)

/-- 'wattlelaw01.BitioBack': WHATEVER THE INPUT: true; the input reads as it did. -/
def bitioBackSpec : ChangeSpec := { name := "bitioBack", fn := fun _ => fun
  | [d] => { results := [.lit (.bool true)], args := [d] }
  | _ => none }
def bitioBackRow : OpenClaim := { program := "ytpedohlglllocaa", sum := "fda1641734890f91acfd9153495b5f5e4264a2b18dc33acd5d1b9a4262dc36f7", func := "wattle/wattlelaw01.BitioBack", spec := "bitioBack", unfollowed := true, recurses := true, apart := false }
def BitioBackSaid : Prop := bitioBackRow.holds Try.pinned (OpenSpec.ofChange bitioBackSpec)

/-- ITS FALSE NEIGHBOUR: 'it returns false'. Refute it at one input. -/
def bitioBackWrong : ChangeSpec := { name := "bitioBack", fn := fun _ => fun
  | [d] => { results := [.lit (.bool false)], args := [d] }
  | _ => none }
def BitioBackWrongFalsely : Prop := bitioBackRow.holds Try.pinned (OpenSpec.ofChange bitioBackWrong)

/-- 'wattlelaw01.BitioNone': WHATEVER THE INPUT: true; the input reads as it did. -/
def bitioNoneSpec : ChangeSpec := { name := "bitioNone", fn := fun _ => fun
  | [] => { results := [.lit (.bool true)], args := [] }
  | _ => none }
def bitioNoneRow : OpenClaim := { program := "ytpedohlglllocaa", sum := "fda1641734890f91acfd9153495b5f5e4264a2b18dc33acd5d1b9a4262dc36f7", func := "wattle/wattlelaw01.BitioNone", spec := "bitioNone", unfollowed := true, recurses := true, apart := false }
def BitioNoneSaid : Prop := bitioNoneRow.holds Try.pinned (OpenSpec.ofChange bitioNoneSpec)

/-- ITS FALSE NEIGHBOUR: 'it returns false'. Refute it at one input. -/
def bitioNoneWrong : ChangeSpec := { name := "bitioNone", fn := fun _ => fun
  | [] => { results := [.lit (.bool false)], args := [] }
  | _ => none }
def BitioNoneWrongFalsely : Prop := bitioNoneRow.holds Try.pinned (OpenSpec.ofChange bitioNoneWrong)

/- THE SECOND FORM. 'bulk': how many values and letters a reading holds, each counted each time it is reached (what is shared counts as often as it is met; a slice's spare places count too). A statement '..UptoSaid' is the law's where the arguments, and the package variables that the reading takes, are together of bulk at most 1048576: NARROWER than '..Said'. Prove '..Said' where nothing that the law and all that it calls make is longer than what came in: it says more and counts as full. Else prove '..UptoSaid'. A law counts once. -/
mutual
def uptoBulk {H : Type} : DataW H → Nat
  | .lit (.string bytes) => bytes.length + 1
  | .lit _ => 1
  | .nil => 1
  | .ptr d => uptoBulk d + 1
  | .slice elems spare => uptoBulkAll elems + uptoBulkAll spare + 1
  | .agg parts => uptoBulkAll parts + 1
  | .iface _ d => uptoBulk d + 1
  | .map entries => uptoBulkEntries entries + 1
  | .held _ => 1
def uptoBulkAll {H : Type} : List (DataW H) → Nat
  | [] => 0
  | d :: r => uptoBulk d + uptoBulkAll r
def uptoBulkEntries {H : Type} : List (Lit × DataW H) → Nat
  | [] => 0
  | x :: r => uptoBulkEntry x + uptoBulkEntries r
def uptoBulkEntry {H : Type} : Lit × DataW H → Nat
  | (.string bytes, d) => bytes.length + uptoBulk d + 1
  | (_, d) => uptoBulk d + 1
 end
def uptoSmall : (H : Type) → List (DataW H) → Bool := fun _ ds => decide (uptoBulkAll ds ≤ 1048576)
def OpenSpec.upto (s : _root_.Go.ChangeSpec) : _root_.Go.OpenSpec := { _root_.Go.OpenSpec.ofChange s with cond := some uptoSmall }

/-- 'wattlelaw01.BitioWrites', WHERE WHAT IT READS IS OF BULK AT MOST 1048576: true; the input reads as it did. -/
def bitioWritesUptoRow : OpenClaim := { program := "ytpedohlglllocaa", sum := "fda1641734890f91acfd9153495b5f5e4264a2b18dc33acd5d1b9a4262dc36f7", func := "wattle/wattlelaw01.BitioWrites", spec := "bitioWrites", unfollowed := true, recurses := true, apart := false, narrowed := true }
def BitioWritesUptoSaid : Prop := bitioWritesUptoRow.holds Try.pinned (OpenSpec.upto bitioWritesSpec)

/-- 'wattlelaw01.BitioReads', WHERE WHAT IT READS IS OF BULK AT MOST 1048576: true; the input reads as it did. -/
def bitioReadsUptoRow : OpenClaim := { program := "ytpedohlglllocaa", sum := "fda1641734890f91acfd9153495b5f5e4264a2b18dc33acd5d1b9a4262dc36f7", func := "wattle/wattlelaw01.BitioReads", spec := "bitioReads", unfollowed := true, recurses := true, apart := false, narrowed := true }
def BitioReadsUptoSaid : Prop := bitioReadsUptoRow.holds Try.pinned (OpenSpec.upto bitioReadsSpec)

/-- 'wattlelaw01.BitioPacks', WHERE WHAT IT READS IS OF BULK AT MOST 1048576: true; the input reads as it did. -/
def bitioPacksUptoRow : OpenClaim := { program := "ytpedohlglllocaa", sum := "fda1641734890f91acfd9153495b5f5e4264a2b18dc33acd5d1b9a4262dc36f7", func := "wattle/wattlelaw01.BitioPacks", spec := "bitioPacks", unfollowed := true, recurses := true, apart := false, narrowed := true }
def BitioPacksUptoSaid : Prop := bitioPacksUptoRow.holds Try.pinned (OpenSpec.upto bitioPacksSpec)

/-- 'wattlelaw01.BitioBack', WHERE WHAT IT READS IS OF BULK AT MOST 1048576: true; the input reads as it did. -/
def bitioBackUptoRow : OpenClaim := { program := "ytpedohlglllocaa", sum := "fda1641734890f91acfd9153495b5f5e4264a2b18dc33acd5d1b9a4262dc36f7", func := "wattle/wattlelaw01.BitioBack", spec := "bitioBack", unfollowed := true, recurses := true, apart := false, narrowed := true }
def BitioBackUptoSaid : Prop := bitioBackUptoRow.holds Try.pinned (OpenSpec.upto bitioBackSpec)

/-- 'wattlelaw01.BitioNone', WHERE WHAT IT READS IS OF BULK AT MOST 1048576: true; the input reads as it did. -/
def bitioNoneUptoRow : OpenClaim := { program := "ytpedohlglllocaa", sum := "fda1641734890f91acfd9153495b5f5e4264a2b18dc33acd5d1b9a4262dc36f7", func := "wattle/wattlelaw01.BitioNone", spec := "bitioNone", unfollowed := true, recurses := true, apart := false, narrowed := true }
def BitioNoneUptoSaid : Prop := bitioNoneUptoRow.holds Try.pinned (OpenSpec.upto bitioNoneSpec)

end Rows
end Go.Proofs.Ytpedohlglllocaa
