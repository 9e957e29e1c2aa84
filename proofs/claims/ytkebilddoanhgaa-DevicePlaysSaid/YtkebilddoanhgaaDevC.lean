/-
  Layer 4: what the program's device is to answer, call by call: contracts over an assertion of its own choice.
-/
import Derived.Test.YtkebilddoanhgaaDevU
import Derived.Test.YtkebilddoanhgaaDevH
import Derived.Test.YtkebilddoanhgaaDevI
import Derived.Test.YtkebilddoanhgaaDevJ
import Derived.Test.YtkebilddoanhgaaDevL
import Derived.Test.YtkebilddoanhgaaDevN
import Derived.Test.YtkebilddoanhgaaDevO
namespace Go.Proofs.Ytkebilddoanhgaa.dev
open Go.ChangeShapes Go.WideShapes Go.ChangeAt Go.RowKit mem
set_option linter.unusedVariables false

abbrev pt (X : Nat) : Value := .pointer (some ⟨X, 0, none⟩)
/-- the calls' answers -/
structure DevOk (dev : Nat → DevM → Ast) : Prop where
  new_bad : ∀ {w wr As} (h : St w wr As) (b s : Int), InI64 b → InI64 s → ¬ geoOk b s →
    Calls Try.prog 4 #[.agg #[.int .i64 b, .int .i64 s]] wr fun e w' => e = .returned (.tuple #[.pointer none, .int .i64 1]) ∧ St w w' As
  new_ok : ∀ {w wr As} (h : St w wr As) (nb ns : Nat), geoOk nb ns →
    Calls Try.prog 4 #[.agg #[.int .i64 (nb : Int), .int .i64 (ns : Int)]] wr fun e w' => ∃ X, e = .returned (.tuple #[pt X, .int .i64 0]) ∧ St w w' (dev X (DevM.new nb ns) :: As)
  check : ∀ {w wr As} (h : St w wr As) (b s : Int), InI64 b → InI64 s →
    Calls Try.prog 6 #[.agg #[.int .i64 b, .int .i64 s]] wr fun e w' => e = .returned (.int .i64 (if geoOk b s then 0 else 1)) ∧ St w w' As
  blocks : ∀ {w wr As X D} (h : St w wr (dev X D :: As)),
    Calls Try.prog 11 #[pt X] wr fun e w' => e = .returned (.int .i64 (D.nb : Int)) ∧ ∃ q, w' = wr.drewN q
  size : ∀ {w wr As X D} (h : St w wr (dev X D :: As)),
    Calls Try.prog 12 #[pt X] wr fun e w' => e = .returned (.int .i64 (512 * D.ns : Nat)) ∧ ∃ q, w' = wr.drewN q
  down : ∀ {w wr As X D} (h : St w wr (dev X D :: As)),
    Calls Try.prog 36 #[pt X] wr fun e w' => e = .returned (.bool D.down) ∧ ∃ q, w' = wr.drewN q
  calls : ∀ {w wr As X D} (h : St w wr (dev X D :: As)), D.Room 0 →
    Calls Try.prog 37 #[pt X] wr fun e w' => e = .returned (.int .i64 (D.calls : Int)) ∧ ∃ q, w' = wr.drewN q
  reads : ∀ {w wr As X D} (h : St w wr (dev X D :: As)), D.Room 0 →
    Calls Try.prog 38 #[pt X] wr fun e w' => e = .returned (.int .i64 (D.reads : Int)) ∧ ∃ q, w' = wr.drewN q
  unflushed : ∀ {w wr As X D} (h : St w wr (dev X D :: As)), D.Room 0 →
    Calls Try.prog 39 #[pt X] wr fun e w' => e = .returned (.int .i64 (D.cache.length : Int)) ∧ ∃ q, w' = wr.drewN q
  read : ∀ {w wr As X D} (h : St w wr (dev X D :: As)) (n : Int), InI64 n → D.Room 1 →
    Calls Try.prog 25 #[pt X, .int .i64 n] wr fun e w' => e = .returned (.tuple #[.string (D.read n).2.1, .int .i64 (D.read n).2.2]) ∧ St w w' (dev X (D.read n).1 :: As)
  write : ∀ {w wr As X D} (h : St w wr (dev X D :: As)) (n : Int) (d : ByteArray), InI64 n → d.size ≤ 9223372036854775807 → D.Room 1 →
    Calls Try.prog 21 #[pt X, .int .i64 n, .string d] wr fun e w' => e = .returned (.int .i64 (D.write n d).2) ∧ St w w' (dev X (D.write n d).1 :: As)
  flush : ∀ {w wr As X D} (h : St w wr (dev X D :: As)), D.Room 1 →
    Calls Try.prog 23 #[pt X] wr fun e w' => e = .returned (.int .i64 D.flush.2) ∧ St w w' (dev X D.flush.1 :: As)
  plan : ∀ {w wr As X D K} (h : St w wr (dev X D :: K :: As)) (n : Int) (kv : Value) (ks : List Int) (torn : Int) (mask : Nat), InI64 n → (∀ W F, K.p W F → IntsIn W kv ks) → CrashOk ks torn mask →
    Calls Try.prog 27 #[pt X, .int .i64 n, .agg #[kv, .int .i64 torn, .int .u8 (mask : Int)]] wr fun e w' => e = .returned (.int .i64 (D.setPlan n ks torn mask).2) ∧ St w w' (dev X (D.setPlan n ks torn mask).1 :: K :: As)
  pull : ∀ {w wr As X D K} (h : St w wr (dev X D :: K :: As)) (kv : Value) (ks : List Int) (torn : Int) (mask : Nat), (∀ W F, K.p W F → IntsIn W kv ks) → CrashOk ks torn mask → D.Room 0 →
    Calls Try.prog 29 #[pt X, .agg #[kv, .int .i64 torn, .int .u8 (mask : Int)]] wr fun e w' => e = .returned (.int .i64 (D.pull ks torn mask).2) ∧ St w w' (dev X (D.pull ks torn mask).1 :: K :: As)
  restart : ∀ {w wr As X D} (h : St w wr (dev X D :: As)),
    Calls Try.prog 31 #[pt X] wr fun e w' => e = .returned (.int .i64 D.restart.2) ∧ St w w' (dev X D.restart.1 :: As)
  corrupt : ∀ {w wr As X D} (h : St w wr (dev X D :: As)) (n k : Int) (d : ByteArray), InI64 n → InI64 k → d.size ≤ 9223372036854775807 → D.Room 0 →
    Calls Try.prog 33 #[pt X, .int .i64 n, .int .i64 k, .string d] wr fun e w' => e = .returned (.int .i64 (D.corrupt n k d).2) ∧ St w w' (dev X (D.corrupt n k d).1 :: As)
  image : ∀ {w wr As X D} (h : St w wr (dev X D :: As)), D.Room 0 →
    Calls Try.prog 41 #[pt X] wr fun e w' => ∃ v, e = .returned v ∧ St w w' (aRow 9 1 v D.nb (strs D.image) :: dev X D :: As)
  twin : ∀ {w wr As X D} (h : St w wr (dev X D :: As)), D.Room 0 →
    Calls Try.prog 8 #[pt X] wr fun e w' => ∃ Y, e = .returned (pt Y) ∧ St w w' (dev Y D :: dev X D :: As)

/-- a call that the law may make of a device -/
structure OpM where
  kind : Int
  who : Int
  n : Int
  at' : Int
  data : ByteArray
  ks : List Int
  torn : Int
  mask : Nat
structure OpM.Ok (x : OpM) : Prop where
  kind : InI64 x.kind
  who : InI64 x.who
  n : InI64 x.n
  at' : InI64 x.at'
  data : x.data.size ≤ 9223372036854775807
  crash : CrashOk x.ks x.torn x.mask
/-- what becomes of a device by it -/
def DevM.does (D : DevM) (x : OpM) : DevM :=
  if x.kind = 0 then (D.write x.n (fillM x.data (512 * D.ns))).1
  else if x.kind = 1 then (D.write x.n x.data).1
  else if x.kind = 2 then D.flush.1
  else if x.kind = 3 then (D.read x.n).1
  else if x.kind = 4 then (D.setPlan x.at' x.ks x.torn x.mask).1
  else if x.kind = 5 then (D.pull x.ks x.torn x.mask).1
  else if x.kind = 6 then D.restart.1
  else if x.kind = 7 then (D.corrupt x.n x.at' x.data).1
  else D
def opCells (x : OpM) (kv : Value) : List Value := [.int .i64 x.kind, .int .i64 x.who, .int .i64 x.n, .int .i64 x.at', .string x.data, kv, .int .i64 x.torn, .int .u8 (x.mask : Int)]
end Go.Proofs.Ytkebilddoanhgaa.dev
