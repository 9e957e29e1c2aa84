/-
  Layer 4: what the program's device is to answer, call by call: contracts over an assertion of its own choice.
-/
import Derived.Test.YtjmjmekmaamclaaDoorDevU
import Derived.Test.YtjmjmekmaamclaaDoorDevH
import Derived.Test.YtjmjmekmaamclaaDoorDevI
import Derived.Test.YtjmjmekmaamclaaDoorDB
import Derived.Test.YtjmjmekmaamclaaDoorDevL
import Derived.Test.YtjmjmekmaamclaaDoorDevN
import Derived.Test.YtjmjmekmaamclaaDoorDevO
namespace Go.Proofs.YtjmjmekmaamclaaDoor.dev
open Go.ChangeShapes Go.WideShapes Go.ChangeAt Go.RowKit mem
set_option linter.unusedVariables false

abbrev pt (X : Nat) : Value := .pointer (some ⟨X, 0, none⟩)
/-- a call that the law may make of a device -/
structure OpM where
  kind : Int
  who : Int
  n : Int
  at' : Int
  data : ByteArray
  ks : List Int
  torn : Int
  mask : Nat
structure OpM.Ok (x : OpM) : Prop where
  kind : InI64 x.kind
  who : InI64 x.who
  n : InI64 x.n
  at' : InI64 x.at'
  data : x.data.size ≤ 9223372036854775807
  crash : CrashOk x.ks x.torn x.mask
/-- what becomes of a device by it -/
def DevM.does (D : DevM) (x : OpM) : DevM :=
  if x.kind = 0 then (D.write x.n (fillM x.data (512 * D.ns))).1
  else if x.kind = 1 then (D.write x.n x.data).1
  else if x.kind = 2 then D.flush.1
  else if x.kind = 3 then (D.read x.n).1
  else if x.kind = 4 then (D.setPlan x.at' x.ks x.torn x.mask).1
  else if x.kind = 5 then (D.pull x.ks x.torn x.mask).1
  else if x.kind = 6 then D.restart.1
  else if x.kind = 7 then (D.corrupt x.n x.at' x.data).1
  else D
def opCells (x : OpM) (kv : Value) : List Value := [.int .i64 x.kind, .int .i64 x.who, .int .i64 x.n, .int .i64 x.at', .string x.data, kv, .int .i64 x.torn, .int .u8 (x.mask : Int)]
end Go.Proofs.YtjmjmekmaamclaaDoor.dev
