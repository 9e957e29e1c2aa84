/-
  NARROWER THAN 'FOR EVERY INPUT', by the rows' own cells (each row's printed sentence says how): SumsReads: laid · SumsGoes: laid · SumsTold: laid · SumsNone: laid.
  DERIVED. THE GIVEN ROWS OF THIS SEAT. 4 by the template 'for every input the law returns true; each argument reads behind the call as it read before'; 0 by the template 'total and deterministic' (their statements: YtbgkehdnnloahaaDoorTotals.lean).
  GIVEN WITH THE SEED: the statements are not yours to turn. If you find one false, say at which input.
  Laid BY PROGRAM, IN A SANDBOX (cutbox-rows.mjs): the forced cells as the released guide's own fill.sh prints them over the translation fbde266a5e92353d… (all of the seat's roots in one cut). By AI agents, Wed Nov 11 2026. No macro, syntax, notation, axiom, sorry.
-/
import Derived.Test.YtbgkehdnnloahaaDoorChecked
import GoSem.Claim
import GoSem.ClaimJoined
import GoSem.ClaimMapViews
import Derived.JoinedTies
import Derived.KernelRfl
namespace Go.Proofs.YtbgkehdnnloahaaDoor
/- THE CELL 'sum', in the pinned program and in every row, IS THE sha256 OF THE DUMP (.gsa) THAT YtbgkehdnnloahaaDoorProg.lean LOADS. Nothing in Lean hashes anything: it is a label: what it is worth is what the hold of that sum in a sandbox is worth. -/
noncomputable def Tryd.pinned : Pinned := { name := "ytbgkehdnnloahaadoor", sum := "fbde266a5e92353d9790260c39a563dcf6d91ce32880dc0cd98d2003d42fb6f0", checked := Tryd.checked }
namespace Rows
def none {H : Type} : Left H := { results := [], args := [] }

/- WHAT THE LISTED PACKAGE-LEVEL VARIABLES READ AS WHEN THE CALL BEGINS. Each datum BY PROGRAM (the guide's laid-datum.mjs) off the statement by which the dump's own 'gosem.cut.vars' lays the variable. In a bare row this is a premise. The card (YtbgkehdnnloahaaDoorCards.lean) ties it to the program's text. -/
def laid_math_bits_deBruijn32tab {H : Type} : DataW H := .agg [.lit (.int .u8 0), .lit (.int .u8 1), .lit (.int .u8 28), .lit (.int .u8 2), .lit (.int .u8 29), .lit (.int .u8 14), .lit (.int .u8 24), .lit (.int .u8 3), .lit (.int .u8 30), .lit (.int .u8 22), .lit (.int .u8 20), .lit (.int .u8 15), .lit (.int .u8 25), .lit (.int .u8 17), .lit (.int .u8 4), .lit (.int .u8 8), .lit (.int .u8 31), .lit (.int .u8 27), .lit (.int .u8 13), .lit (.int .u8 23), .lit (.int .u8 21), .lit (.int .u8 19), .lit (.int .u8 16), .lit (.int .u8 7), .lit (.int .u8 26), .lit (.int .u8 12), .lit (.int .u8 18), .lit (.int .u8 6), .lit (.int .u8 11), .lit (.int .u8 5), .lit (.int .u8 10), .lit (.int .u8 9)]
def laid_wattle_sums_lowerHalf {H : Type} : DataW H := .agg [.lit (.int .u32 0), .lit (.int .u32 4067132163), .lit (.int .u32 3778769143), .lit (.int .u32 324072436), .lit (.int .u32 3348797215), .lit (.int .u32 904991772), .lit (.int .u32 648144872), .lit (.int .u32 3570033899), .lit (.int .u32 2329499855), .lit (.int .u32 2024987596), .lit (.int .u32 1809983544), .lit (.int .u32 2575936315), .lit (.int .u32 1296289744), .lit (.int .u32 3207089363), .lit (.int .u32 2893594407), .lit (.int .u32 1578318884)]
def laid_wattle_sums_upperHalf {H : Type} : DataW H := .agg [.lit (.int .u32 0), .lit (.int .u32 274646895), .lit (.int .u32 549293790), .lit (.int .u32 820201905), .lit (.int .u32 1098587580), .lit (.int .u32 1361435347), .lit (.int .u32 1640403810), .lit (.int .u32 1905808397), .lit (.int .u32 2197175160), .lit (.int .u32 2460548119), .lit (.int .u32 2722870694), .lit (.int .u32 2987750089), .lit (.int .u32 3280807620), .lit (.int .u32 3553878443), .lit (.int .u32 3811616794), .lit (.int .u32 4084100981)]

/-- 'wattlelaw03.SumsReads': WHATEVER THE INPUT: true; the input reads as it did. -/
def sumsReadsSpec : ChangeSpec := { name := "sumsReads", fn := fun _ => fun
  | [d1, d2, d3] => { results := [.lit (.bool true)], args := [d1, d2, d3] }
  | _ => none }
def sumsReadsRow : OpenClaim := { program := "ytbgkehdnnloahaadoor", sum := "fbde266a5e92353d9790260c39a563dcf6d91ce32880dc0cd98d2003d42fb6f0", func := "wattle/wattlelaw03.SumsReads", spec := "sumsReads", unfollowed := true, recurses := true, named := ["wattle/sums.lowerHalf", "wattle/sums.upperHalf", "math/bits.deBruijn32tab"], apart := false, laid := [("math/bits.deBruijn32tab", laid_math_bits_deBruijn32tab), ("wattle/sums.lowerHalf", laid_wattle_sums_lowerHalf), ("wattle/sums.upperHalf", laid_wattle_sums_upperHalf)] }
def SumsReadsSaid : Prop := sumsReadsRow.holds Tryd.pinned (OpenSpec.ofChange sumsReadsSpec)

/-- ITS FALSE NEIGHBOUR: 'it returns false'. Refute it at one input. -/
def sumsReadsWrong : ChangeSpec := { name := "sumsReads", fn := fun _ => fun
  | [d1, d2, d3] => { results := [.lit (.bool false)], args := [d1, d2, d3] }
  | _ => none }
def SumsReadsWrongFalsely : Prop := sumsReadsRow.holds Tryd.pinned (OpenSpec.ofChange sumsReadsWrong)

/-- 'wattlelaw03.SumsGoes': WHATEVER THE INPUT: true; the input reads as it did. -/
def sumsGoesSpec : ChangeSpec := { name := "sumsGoes", fn := fun _ => fun
  | [d1, d2] => { results := [.lit (.bool true)], args := [d1, d2] }
  | _ => none }
def sumsGoesRow : OpenClaim := { program := "ytbgkehdnnloahaadoor", sum := "fbde266a5e92353d9790260c39a563dcf6d91ce32880dc0cd98d2003d42fb6f0", func := "wattle/wattlelaw03.SumsGoes", spec := "sumsGoes", unfollowed := true, recurses := true, named := ["wattle/sums.lowerHalf", "wattle/sums.upperHalf", "math/bits.deBruijn32tab"], apart := false, laid := [("math/bits.deBruijn32tab", laid_math_bits_deBruijn32tab), ("wattle/sums.lowerHalf", laid_wattle_sums_lowerHalf), ("wattle/sums.upperHalf", laid_wattle_sums_upperHalf)] }
def SumsGoesSaid : Prop := sumsGoesRow.holds Tryd.pinned (OpenSpec.ofChange sumsGoesSpec)

/-- ITS FALSE NEIGHBOUR: 'it returns false'. Refute it at one input. -/
def sumsGoesWrong : ChangeSpec := { name := "sumsGoes", fn := fun _ => fun
  | [d1, d2] => { results := [.lit (.bool false)], args := [d1, d2] }
  | _ => none }
def SumsGoesWrongFalsely : Prop := sumsGoesRow.holds Tryd.pinned (OpenSpec.ofChange sumsGoesWrong)

/-- 'wattlelaw03.SumsTold': WHATEVER THE INPUT: true; the input reads as it did. -/
def sumsToldSpec : ChangeSpec := { name := "sumsTold", fn := fun _ => fun
  | [d1, d2, d3] => { results := [.lit (.bool true)], args := [d1, d2, d3] }
  | _ => none }
def sumsToldRow : OpenClaim := { program := "ytbgkehdnnloahaadoor", sum := "fbde266a5e92353d9790260c39a563dcf6d91ce32880dc0cd98d2003d42fb6f0", func := "wattle/wattlelaw03.SumsTold", spec := "sumsTold", unfollowed := true, recurses := true, named := ["wattle/sums.lowerHalf", "wattle/sums.upperHalf"], apart := false, laid := [("wattle/sums.lowerHalf", laid_wattle_sums_lowerHalf), ("wattle/sums.upperHalf", laid_wattle_sums_upperHalf)] }
def SumsToldSaid : Prop := sumsToldRow.holds Tryd.pinned (OpenSpec.ofChange sumsToldSpec)

/-- ITS FALSE NEIGHBOUR: 'it returns false'. Refute it at one input. -/
def sumsToldWrong : ChangeSpec := { name := "sumsTold", fn := fun _ => fun
  | [d1, d2, d3] => { results := [.lit (.bool false)], args := [d1, d2, d3] }
  | _ => none }
def SumsToldWrongFalsely : Prop := sumsToldRow.holds Tryd.pinned (OpenSpec.ofChange sumsToldWrong)

/-- 'wattlelaw03.SumsNone': WHATEVER THE INPUT: true; the input reads as it did. -/
def sumsNoneSpec : ChangeSpec := { name := "sumsNone", fn := fun _ => fun
  | [] => { results := [.lit (.bool true)], args := [] }
  | _ => none }
def sumsNoneRow : OpenClaim := { program := "ytbgkehdnnloahaadoor", sum := "fbde266a5e92353d9790260c39a563dcf6d91ce32880dc0cd98d2003d42fb6f0", func := "wattle/wattlelaw03.SumsNone", spec := "sumsNone", unfollowed := true, recurses := true, named := ["wattle/sums.lowerHalf", "wattle/sums.upperHalf", "math/bits.deBruijn32tab"], apart := false, laid := [("math/bits.deBruijn32tab", laid_math_bits_deBruijn32tab), ("wattle/sums.lowerHalf", laid_wattle_sums_lowerHalf), ("wattle/sums.upperHalf", laid_wattle_sums_upperHalf)] }
def SumsNoneSaid : Prop := sumsNoneRow.holds Tryd.pinned (OpenSpec.ofChange sumsNoneSpec)

/-- ITS FALSE NEIGHBOUR: 'it returns false'. Refute it at one input. -/
def sumsNoneWrong : ChangeSpec := { name := "sumsNone", fn := fun _ => fun
  | [] => { results := [.lit (.bool false)], args := [] }
  | _ => none }
def SumsNoneWrongFalsely : Prop := sumsNoneRow.holds Tryd.pinned (OpenSpec.ofChange sumsNoneWrong)

/- THE SECOND FORM. 'bulk': how many values and letters a reading holds, each counted each time it is reached (what is shared counts as often as it is met; a slice's spare places count too). A statement '..UptoSaid' is the law's where the arguments, and the package variables that the reading takes, are together of bulk at most 1048576: NARROWER than '..Said'. Prove '..Said' where nothing that the law and all that it calls make is longer than what came in: it says more and counts as full. Else prove '..UptoSaid'. A law counts once. -/
mutual
def uptoBulk {H : Type} : DataW H → Nat
  | .lit (.string bytes) => bytes.length + 1
  | .lit _ => 1
  | .nil => 1
  | .ptr d => uptoBulk d + 1
  | .slice elems spare => uptoBulkAll elems + uptoBulkAll spare + 1
  | .agg parts => uptoBulkAll parts + 1
  | .iface _ d => uptoBulk d + 1
  | .map entries => uptoBulkEntries entries + 1
  | .held _ => 1
def uptoBulkAll {H : Type} : List (DataW H) → Nat
  | [] => 0
  | d :: r => uptoBulk d + uptoBulkAll r
def uptoBulkEntries {H : Type} : List (Lit × DataW H) → Nat
  | [] => 0
  | x :: r => uptoBulkEntry x + uptoBulkEntries r
def uptoBulkEntry {H : Type} : Lit × DataW H → Nat
  | (.string bytes, d) => bytes.length + uptoBulk d + 1
  | (_, d) => uptoBulk d + 1
 end
def uptoSmall : (H : Type) → List (DataW H) → Bool := fun _ ds => decide (uptoBulkAll ds ≤ 1048576)
def OpenSpec.upto (s : _root_.Go.ChangeSpec) : _root_.Go.OpenSpec := { _root_.Go.OpenSpec.ofChange s with cond := some uptoSmall }

/-- 'wattlelaw03.SumsReads', WHERE WHAT IT READS IS OF BULK AT MOST 1048576: true; the input reads as it did. -/
def sumsReadsUptoRow : OpenClaim := { program := "ytbgkehdnnloahaadoor", sum := "fbde266a5e92353d9790260c39a563dcf6d91ce32880dc0cd98d2003d42fb6f0", func := "wattle/wattlelaw03.SumsReads", spec := "sumsReads", unfollowed := true, recurses := true, named := ["wattle/sums.lowerHalf", "wattle/sums.upperHalf", "math/bits.deBruijn32tab"], apart := false, laid := [("math/bits.deBruijn32tab", laid_math_bits_deBruijn32tab), ("wattle/sums.lowerHalf", laid_wattle_sums_lowerHalf), ("wattle/sums.upperHalf", laid_wattle_sums_upperHalf)], narrowed := true }
def SumsReadsUptoSaid : Prop := sumsReadsUptoRow.holds Tryd.pinned (OpenSpec.upto sumsReadsSpec)

/-- 'wattlelaw03.SumsGoes', WHERE WHAT IT READS IS OF BULK AT MOST 1048576: true; the input reads as it did. -/
def sumsGoesUptoRow : OpenClaim := { program := "ytbgkehdnnloahaadoor", sum := "fbde266a5e92353d9790260c39a563dcf6d91ce32880dc0cd98d2003d42fb6f0", func := "wattle/wattlelaw03.SumsGoes", spec := "sumsGoes", unfollowed := true, recurses := true, named := ["wattle/sums.lowerHalf", "wattle/sums.upperHalf", "math/bits.deBruijn32tab"], apart := false, laid := [("math/bits.deBruijn32tab", laid_math_bits_deBruijn32tab), ("wattle/sums.lowerHalf", laid_wattle_sums_lowerHalf), ("wattle/sums.upperHalf", laid_wattle_sums_upperHalf)], narrowed := true }
def SumsGoesUptoSaid : Prop := sumsGoesUptoRow.holds Tryd.pinned (OpenSpec.upto sumsGoesSpec)

/-- 'wattlelaw03.SumsTold', WHERE WHAT IT READS IS OF BULK AT MOST 1048576: true; the input reads as it did. -/
def sumsToldUptoRow : OpenClaim := { program := "ytbgkehdnnloahaadoor", sum := "fbde266a5e92353d9790260c39a563dcf6d91ce32880dc0cd98d2003d42fb6f0", func := "wattle/wattlelaw03.SumsTold", spec := "sumsTold", unfollowed := true, recurses := true, named := ["wattle/sums.lowerHalf", "wattle/sums.upperHalf"], apart := false, laid := [("wattle/sums.lowerHalf", laid_wattle_sums_lowerHalf), ("wattle/sums.upperHalf", laid_wattle_sums_upperHalf)], narrowed := true }
def SumsToldUptoSaid : Prop := sumsToldUptoRow.holds Tryd.pinned (OpenSpec.upto sumsToldSpec)

/-- 'wattlelaw03.SumsNone', WHERE WHAT IT READS IS OF BULK AT MOST 1048576: true; the input reads as it did. -/
def sumsNoneUptoRow : OpenClaim := { program := "ytbgkehdnnloahaadoor", sum := "fbde266a5e92353d9790260c39a563dcf6d91ce32880dc0cd98d2003d42fb6f0", func := "wattle/wattlelaw03.SumsNone", spec := "sumsNone", unfollowed := true, recurses := true, named := ["wattle/sums.lowerHalf", "wattle/sums.upperHalf", "math/bits.deBruijn32tab"], apart := false, laid := [("math/bits.deBruijn32tab", laid_math_bits_deBruijn32tab), ("wattle/sums.lowerHalf", laid_wattle_sums_lowerHalf), ("wattle/sums.upperHalf", laid_wattle_sums_upperHalf)], narrowed := true }
def SumsNoneUptoSaid : Prop := sumsNoneUptoRow.holds Tryd.pinned (OpenSpec.upto sumsNoneSpec)

end Rows
end Go.Proofs.YtbgkehdnnloahaaDoor
