/-
  No cell of these rows narrows 'for every input' (looked for: loops, veiled, ifaces, maps, wideKeys, modest, calm, conditions, laid).
  DERIVED. THE GIVEN ROWS OF THIS SEAT. 5 by the template 'for every input the law returns true; each argument reads behind the call as it read before'; 0 by the template 'total and deterministic' (their statements: YtgcediipkojdbaaTotals.lean).
  GIVEN WITH THE SEED: the statements are not yours to turn. If you find one false, say at which input.
  Laid BY PROGRAM, IN A SANDBOX (cutbox-rows.mjs): the forced cells as the released guide's own fill.sh prints them over the translation 1d553bd4155665ee… (all of the seat's roots in one cut). By AI agents, Wed Nov 11 2026. No macro, syntax, notation, axiom, sorry.
-/
import Derived.Test.YtgcediipkojdbaaChecked
import GoSem.Claim
import GoSem.ClaimJoined
import GoSem.ClaimMapViews
import Derived.JoinedTies
import Derived.KernelRfl
namespace Go.Proofs.Ytgcediipkojdbaa
/- THE CELL 'sum', in the pinned program and in every row, IS THE sha256 OF THE DUMP (.gsa) THAT YtgcediipkojdbaaProg.lean LOADS. Nothing in Lean hashes anything: it is a label: what it is worth is what the hold of that sum in a sandbox is worth. -/
noncomputable def Try.pinned : Pinned := { name := "ytgcediipkojdbaa", sum := "1d553bd4155665eeafc60d5947ef8f72ab082329d0f2f6765a1d1eb35b462205", checked := Try.checked }
namespace Rows
def none {H : Type} : Left H := { results := [], args := [] }

/-- 'wattlelaw02.CodesReads': WHATEVER THE INPUT: true; the input reads as it did. -/
def codesReadsSpec : ChangeSpec := { name := "codesReads", fn := fun _ => fun
  | [d1, d2] => { results := [.lit (.bool true)], args := [d1, d2] }
  | _ => none }
def codesReadsRow : OpenClaim := { program := "ytgcediipkojdbaa", sum := "1d553bd4155665eeafc60d5947ef8f72ab082329d0f2f6765a1d1eb35b462205", func := "wattle/wattlelaw02.CodesReads", spec := "codesReads", unfollowed := true, recurses := true, apart := false }
def CodesReadsSaid : Prop := codesReadsRow.holds Try.pinned (OpenSpec.ofChange codesReadsSpec)

/-- ITS FALSE NEIGHBOUR: 'it returns false'. Refute it at one input. -/
def codesReadsWrong : ChangeSpec := { name := "codesReads", fn := fun _ => fun
  | [d1, d2] => { results := [.lit (.bool false)], args := [d1, d2] }
  | _ => none }
def CodesReadsWrongFalsely : Prop := codesReadsRow.holds Try.pinned (OpenSpec.ofChange codesReadsWrong)

/-- 'wattlelaw02.CodesZigs': WHATEVER THE INPUT: true; the input reads as it did. -/
def codesZigsSpec : ChangeSpec := { name := "codesZigs", fn := fun _ => fun
  | [d1, d2, d3] => { results := [.lit (.bool true)], args := [d1, d2, d3] }
  | _ => none }
def codesZigsRow : OpenClaim := { program := "ytgcediipkojdbaa", sum := "1d553bd4155665eeafc60d5947ef8f72ab082329d0f2f6765a1d1eb35b462205", func := "wattle/wattlelaw02.CodesZigs", spec := "codesZigs", unfollowed := true, recurses := true, apart := false }
def CodesZigsSaid : Prop := codesZigsRow.holds Try.pinned (OpenSpec.ofChange codesZigsSpec)

/-- ITS FALSE NEIGHBOUR: 'it returns false'. Refute it at one input. -/
def codesZigsWrong : ChangeSpec := { name := "codesZigs", fn := fun _ => fun
  | [d1, d2, d3] => { results := [.lit (.bool false)], args := [d1, d2, d3] }
  | _ => none }
def CodesZigsWrongFalsely : Prop := codesZigsRow.holds Try.pinned (OpenSpec.ofChange codesZigsWrong)

/-- 'wattlelaw02.CodesBack': WHATEVER THE INPUT: true; the input reads as it did. -/
def codesBackSpec : ChangeSpec := { name := "codesBack", fn := fun _ => fun
  | [d] => { results := [.lit (.bool true)], args := [d] }
  | _ => none }
def codesBackRow : OpenClaim := { program := "ytgcediipkojdbaa", sum := "1d553bd4155665eeafc60d5947ef8f72ab082329d0f2f6765a1d1eb35b462205", func := "wattle/wattlelaw02.CodesBack", spec := "codesBack", unfollowed := true, recurses := true, apart := false }
def CodesBackSaid : Prop := codesBackRow.holds Try.pinned (OpenSpec.ofChange codesBackSpec)

/-- ITS FALSE NEIGHBOUR: 'it returns false'. Refute it at one input. -/
def codesBackWrong : ChangeSpec := { name := "codesBack", fn := fun _ => fun
  | [d] => { results := [.lit (.bool false)], args := [d] }
  | _ => none }
def CodesBackWrongFalsely : Prop := codesBackRow.holds Try.pinned (OpenSpec.ofChange codesBackWrong)

/-- 'wattlelaw02.CodesOnce': WHATEVER THE INPUT: true; the input reads as it did. -/
def codesOnceSpec : ChangeSpec := { name := "codesOnce", fn := fun _ => fun
  | [d1, d2] => { results := [.lit (.bool true)], args := [d1, d2] }
  | _ => none }
def codesOnceRow : OpenClaim := { program := "ytgcediipkojdbaa", sum := "1d553bd4155665eeafc60d5947ef8f72ab082329d0f2f6765a1d1eb35b462205", func := "wattle/wattlelaw02.CodesOnce", spec := "codesOnce", unfollowed := true, recurses := true, apart := false }
def CodesOnceSaid : Prop := codesOnceRow.holds Try.pinned (OpenSpec.ofChange codesOnceSpec)

/-- ITS FALSE NEIGHBOUR: 'it returns false'. Refute it at one input. -/
def codesOnceWrong : ChangeSpec := { name := "codesOnce", fn := fun _ => fun
  | [d1, d2] => { results := [.lit (.bool false)], args := [d1, d2] }
  | _ => none }
def CodesOnceWrongFalsely : Prop := codesOnceRow.holds Try.pinned (OpenSpec.ofChange codesOnceWrong)

/-- 'wattlelaw02.CodesNone': WHATEVER THE INPUT: true; the input reads as it did. -/
def codesNoneSpec : ChangeSpec := { name := "codesNone", fn := fun _ => fun
  | [] => { results := [.lit (.bool true)], args := [] }
  | _ => none }
def codesNoneRow : OpenClaim := { program := "ytgcediipkojdbaa", sum := "1d553bd4155665eeafc60d5947ef8f72ab082329d0f2f6765a1d1eb35b462205", func := "wattle/wattlelaw02.CodesNone", spec := "codesNone", unfollowed := true, recurses := true, apart := false }
def CodesNoneSaid : Prop := codesNoneRow.holds Try.pinned (OpenSpec.ofChange codesNoneSpec)

/-- ITS FALSE NEIGHBOUR: 'it returns false'. Refute it at one input. -/
def codesNoneWrong : ChangeSpec := { name := "codesNone", fn := fun _ => fun
  | [] => { results := [.lit (.bool false)], args := [] }
  | _ => none }
def CodesNoneWrongFalsely : Prop := codesNoneRow.holds Try.pinned (OpenSpec.ofChange codesNoneWrong)

/- THE SECOND FORM. 'bulk': how many values and letters a reading holds, each counted each time it is reached (what is shared counts as often as it is met; a slice's spare places count too). A statement '..UptoSaid' is the law's where the arguments, and the package variables that the reading takes, are together of bulk at most 1048576: NARROWER than '..Said'. Prove '..Said' where nothing that the law and all that it calls make is longer than what came in: it says more and counts as full. Else prove '..UptoSaid'. A law counts once. -/
mutual
def uptoBulk {H : Type} : DataW H → Nat
  | .lit (.string bytes) => bytes.length + 1
  | .lit _ => 1
  | .nil => 1
  | .ptr d => uptoBulk d + 1
  | .slice elems spare => uptoBulkAll elems + uptoBulkAll spare + 1
  | .agg parts => uptoBulkAll parts + 1
  | .iface _ d => uptoBulk d + 1
  | .map entries => uptoBulkEntries entries + 1
  | .held _ => 1
def uptoBulkAll {H : Type} : List (DataW H) → Nat
  | [] => 0
  | d :: r => uptoBulk d + uptoBulkAll r
def uptoBulkEntries {H : Type} : List (Lit × DataW H) → Nat
  | [] => 0
  | x :: r => uptoBulkEntry x + uptoBulkEntries r
def uptoBulkEntry {H : Type} : Lit × DataW H → Nat
  | (.string bytes, d) => bytes.length + uptoBulk d + 1
  | (_, d) => uptoBulk d + 1
 end
def uptoSmall : (H : Type) → List (DataW H) → Bool := fun _ ds => decide (uptoBulkAll ds ≤ 1048576)
def OpenSpec.upto (s : _root_.Go.ChangeSpec) : _root_.Go.OpenSpec := { _root_.Go.OpenSpec.ofChange s with cond := some uptoSmall }

/-- 'wattlelaw02.CodesReads', WHERE WHAT IT READS IS OF BULK AT MOST 1048576: true; the input reads as it did. -/
def codesReadsUptoRow : OpenClaim := { program := "ytgcediipkojdbaa", sum := "1d553bd4155665eeafc60d5947ef8f72ab082329d0f2f6765a1d1eb35b462205", func := "wattle/wattlelaw02.CodesReads", spec := "codesReads", unfollowed := true, recurses := true, apart := false, narrowed := true }
def CodesReadsUptoSaid : Prop := codesReadsUptoRow.holds Try.pinned (OpenSpec.upto codesReadsSpec)

/-- 'wattlelaw02.CodesZigs', WHERE WHAT IT READS IS OF BULK AT MOST 1048576: true; the input reads as it did. -/
def codesZigsUptoRow : OpenClaim := { program := "ytgcediipkojdbaa", sum := "1d553bd4155665eeafc60d5947ef8f72ab082329d0f2f6765a1d1eb35b462205", func := "wattle/wattlelaw02.CodesZigs", spec := "codesZigs", unfollowed := true, recurses := true, apart := false, narrowed := true }
def CodesZigsUptoSaid : Prop := codesZigsUptoRow.holds Try.pinned (OpenSpec.upto codesZigsSpec)

/-- 'wattlelaw02.CodesBack', WHERE WHAT IT READS IS OF BULK AT MOST 1048576: true; the input reads as it did. -/
def codesBackUptoRow : OpenClaim := { program := "ytgcediipkojdbaa", sum := "1d553bd4155665eeafc60d5947ef8f72ab082329d0f2f6765a1d1eb35b462205", func := "wattle/wattlelaw02.CodesBack", spec := "codesBack", unfollowed := true, recurses := true, apart := false, narrowed := true }
def CodesBackUptoSaid : Prop := codesBackUptoRow.holds Try.pinned (OpenSpec.upto codesBackSpec)

/-- 'wattlelaw02.CodesOnce', WHERE WHAT IT READS IS OF BULK AT MOST 1048576: true; the input reads as it did. -/
def codesOnceUptoRow : OpenClaim := { program := "ytgcediipkojdbaa", sum := "1d553bd4155665eeafc60d5947ef8f72ab082329d0f2f6765a1d1eb35b462205", func := "wattle/wattlelaw02.CodesOnce", spec := "codesOnce", unfollowed := true, recurses := true, apart := false, narrowed := true }
def CodesOnceUptoSaid : Prop := codesOnceUptoRow.holds Try.pinned (OpenSpec.upto codesOnceSpec)

/-- 'wattlelaw02.CodesNone', WHERE WHAT IT READS IS OF BULK AT MOST 1048576: true; the input reads as it did. -/
def codesNoneUptoRow : OpenClaim := { program := "ytgcediipkojdbaa", sum := "1d553bd4155665eeafc60d5947ef8f72ab082329d0f2f6765a1d1eb35b462205", func := "wattle/wattlelaw02.CodesNone", spec := "codesNone", unfollowed := true, recurses := true, apart := false, narrowed := true }
def CodesNoneUptoSaid : Prop := codesNoneUptoRow.holds Try.pinned (OpenSpec.upto codesNoneSpec)

end Rows
end Go.Proofs.Ytgcediipkojdbaa
