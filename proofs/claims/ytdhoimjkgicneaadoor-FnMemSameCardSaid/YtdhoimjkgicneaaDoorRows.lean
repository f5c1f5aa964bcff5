/-
  NARROWER THAN 'FOR EVERY INPUT', by the rows' own cells (each row's printed sentence says how): FnDevBack: laid · FnFlip: laid · FnSwap: laid · FnRealBack: laid · FnRealArg: laid · FnMemPut: laid · FnMemPutNumber: laid · FnMemSame: laid · FnMemRound: laid.
  DERIVED. THE GIVEN ROWS OF THIS SEAT. 9 by the template 'for every input the law returns true; each argument reads behind the call as it read before'; 0 by the template 'total and deterministic' (their statements: YtdhoimjkgicneaaDoorTotals.lean).
  GIVEN WITH THE SEED: the statements are not yours to turn. If you find one false, say at which input.
  Laid BY PROGRAM, IN A SANDBOX (cutbox-rows.mjs): the forced cells as the released guide's own fill.sh prints them over the translation 09da88eb2995291f… (all of the seat's roots in one cut). By AI agents, Wed Nov 11 2026. No macro, syntax, notation, axiom, sorry.
-/
import Derived.Test.YtdhoimjkgicneaaDoorChecked
import GoSem.Claim
import GoSem.ClaimJoined
import GoSem.ClaimMapViews
import Derived.JoinedTies
import Derived.KernelRfl
namespace Go.Proofs.YtdhoimjkgicneaaDoor
/- THE CELL 'sum', in the pinned program and in every row, IS THE sha256 OF THE DUMP (.gsa) THAT YtdhoimjkgicneaaDoorProg.lean LOADS. Nothing in Lean hashes anything: it is a label: what it is worth is what the hold of that sum in a sandbox is worth. -/
noncomputable def Tryd.pinned : Pinned := { name := "ytdhoimjkgicneaadoor", sum := "09da88eb2995291f5f1a317a26c4ea618e00b548119c12a6ee060f1415d5652a", checked := Tryd.checked }
namespace Rows
def none {H : Type} : Left H := { results := [], args := [] }

/- WHAT THE LISTED PACKAGE-LEVEL VARIABLES READ AS WHEN THE CALL BEGINS. Each datum BY PROGRAM (the guide's laid-datum.mjs) off the statement by which the dump's own 'gosem.cut.vars' lays the variable. In a bare row this is a premise. The card (YtdhoimjkgicneaaDoorCards.lean) ties it to the program's text. -/
def laid_math_bits_deBruijn32tab {H : Type} : DataW H := .agg [.lit (.int .u8 0), .lit (.int .u8 1), .lit (.int .u8 28), .lit (.int .u8 2), .lit (.int .u8 29), .lit (.int .u8 14), .lit (.int .u8 24), .lit (.int .u8 3), .lit (.int .u8 30), .lit (.int .u8 22), .lit (.int .u8 20), .lit (.int .u8 15), .lit (.int .u8 25), .lit (.int .u8 17), .lit (.int .u8 4), .lit (.int .u8 8), .lit (.int .u8 31), .lit (.int .u8 27), .lit (.int .u8 13), .lit (.int .u8 23), .lit (.int .u8 21), .lit (.int .u8 19), .lit (.int .u8 16), .lit (.int .u8 7), .lit (.int .u8 26), .lit (.int .u8 12), .lit (.int .u8 18), .lit (.int .u8 6), .lit (.int .u8 11), .lit (.int .u8 5), .lit (.int .u8 10), .lit (.int .u8 9)]
def laid_math_bits_deBruijn64tab {H : Type} : DataW H := .agg [.lit (.int .u8 0), .lit (.int .u8 1), .lit (.int .u8 56), .lit (.int .u8 2), .lit (.int .u8 57), .lit (.int .u8 49), .lit (.int .u8 28), .lit (.int .u8 3), .lit (.int .u8 61), .lit (.int .u8 58), .lit (.int .u8 42), .lit (.int .u8 50), .lit (.int .u8 38), .lit (.int .u8 29), .lit (.int .u8 17), .lit (.int .u8 4), .lit (.int .u8 62), .lit (.int .u8 47), .lit (.int .u8 59), .lit (.int .u8 36), .lit (.int .u8 45), .lit (.int .u8 43), .lit (.int .u8 51), .lit (.int .u8 22), .lit (.int .u8 53), .lit (.int .u8 39), .lit (.int .u8 33), .lit (.int .u8 30), .lit (.int .u8 24), .lit (.int .u8 18), .lit (.int .u8 12), .lit (.int .u8 5), .lit (.int .u8 63), .lit (.int .u8 55), .lit (.int .u8 48), .lit (.int .u8 27), .lit (.int .u8 60), .lit (.int .u8 41), .lit (.int .u8 37), .lit (.int .u8 16), .lit (.int .u8 46), .lit (.int .u8 35), .lit (.int .u8 44), .lit (.int .u8 21), .lit (.int .u8 52), .lit (.int .u8 32), .lit (.int .u8 23), .lit (.int .u8 11), .lit (.int .u8 54), .lit (.int .u8 26), .lit (.int .u8 40), .lit (.int .u8 15), .lit (.int .u8 34), .lit (.int .u8 20), .lit (.int .u8 31), .lit (.int .u8 10), .lit (.int .u8 25), .lit (.int .u8 14), .lit (.int .u8 19), .lit (.int .u8 9), .lit (.int .u8 13), .lit (.int .u8 8), .lit (.int .u8 7), .lit (.int .u8 6)]
def laid_internal_strconv_uint64pow10 {H : Type} : DataW H := .agg [.lit (.int .u64 1), .lit (.int .u64 10), .lit (.int .u64 100), .lit (.int .u64 1000), .lit (.int .u64 10000), .lit (.int .u64 100000), .lit (.int .u64 1000000), .lit (.int .u64 10000000), .lit (.int .u64 100000000), .lit (.int .u64 1000000000), .lit (.int .u64 10000000000), .lit (.int .u64 100000000000), .lit (.int .u64 1000000000000), .lit (.int .u64 10000000000000), .lit (.int .u64 100000000000000), .lit (.int .u64 1000000000000000), .lit (.int .u64 10000000000000000), .lit (.int .u64 100000000000000000), .lit (.int .u64 1000000000000000000), .lit (.int .u64 10000000000000000000)]
def laid_loop_example_stilhold_impl_devKinds {H : Type} : DataW H := .agg [.agg [.lit (.string []), .lit (.int .i64 0), .lit (.bool false), .lit (.bool false), .lit (.bool false)], .agg [.lit (.string [88]), .lit (.int .i64 32), .lit (.bool true), .lit (.bool false), .lit (.bool false)], .agg [.lit (.string [89]), .lit (.int .i64 32), .lit (.bool true), .lit (.bool false), .lit (.bool false)], .agg [.lit (.string [77]), .lit (.int .i64 64), .lit (.bool true), .lit (.bool false), .lit (.bool false)], .agg [.lit (.string [83]), .lit (.int .i64 16), .lit (.bool true), .lit (.bool false), .lit (.bool false)], .agg [.lit (.string [69]), .lit (.int .i64 32), .lit (.bool false), .lit (.bool false), .lit (.bool false)], .agg [.lit (.string [71]), .lit (.int .i64 5), .lit (.bool true), .lit (.bool false), .lit (.bool false)], .agg [.lit (.string [84]), .lit (.int .i64 16), .lit (.bool true), .lit (.bool true), .lit (.bool false)], .agg [.lit (.string [67]), .lit (.int .i64 16), .lit (.bool true), .lit (.bool true), .lit (.bool false)], .agg [.lit (.string [68]), .lit (.int .i64 32), .lit (.bool false), .lit (.bool true), .lit (.bool false)], .agg [.lit (.string [82]), .lit (.int .i64 16), .lit (.bool false), .lit (.bool false), .lit (.bool true)], .agg [.lit (.string []), .lit (.int .i64 0), .lit (.bool false), .lit (.bool true), .lit (.bool false)], .agg [.lit (.string []), .lit (.int .i64 0), .lit (.bool false), .lit (.bool false), .lit (.bool true)], .agg [.lit (.string []), .lit (.int .i64 0), .lit (.bool false), .lit (.bool false), .lit (.bool true)]]
def laid_loop_example_stilhold_impl_devWords {H : Type} : DataW H := .agg [.lit (.string [110, 97, 110]), .lit (.string [105, 110, 102]), .lit (.string [45, 105, 110, 102]), .lit (.string [45, 48, 46, 48])]
def laid_loop_example_stilhold_impl_cmpSigns {H : Type} : DataW H := .agg [.agg [.lit (.string []), .lit (.int .i64 0), .lit (.int .i64 0)], .agg [.lit (.string [60]), .lit (.int .i64 5), .lit (.int .i64 6)], .agg [.lit (.string [60, 61]), .lit (.int .i64 6), .lit (.int .i64 5)], .agg [.lit (.string [61]), .lit (.int .i64 4), .lit (.int .i64 3)], .agg [.lit (.string [60, 62]), .lit (.int .i64 3), .lit (.int .i64 4)], .agg [.lit (.string [62, 61]), .lit (.int .i64 1), .lit (.int .i64 2)], .agg [.lit (.string [62]), .lit (.int .i64 2), .lit (.int .i64 1)]]
def laid_strconv_ErrRange {H : Type} : DataW H := .iface "*errors.errorString" (.ptr (.agg [.lit (.string [118, 97, 108, 117, 101, 32, 111, 117, 116, 32, 111, 102, 32, 114, 97, 110, 103, 101])]))
def laid_strconv_ErrSyntax {H : Type} : DataW H := .iface "*errors.errorString" (.ptr (.agg [.lit (.string [105, 110, 118, 97, 108, 105, 100, 32, 115, 121, 110, 116, 97, 120])]))

/-- 'laws.FnDevBack': WHATEVER THE INPUT: true; the input reads as it did. -/
def fnDevBackSpec : ChangeSpec := { name := "fnDevBack", vars := ["loop.example/stilhold/impl.devWords", "loop.example/stilhold/impl.devKinds"], fn := fun _ => fun
  | [d1, d2, g1, g2] => { results := [.lit (.bool true)], args := [d1, d2], vars := [g1, g2] }
  | _ => none }
def fnDevBackRow : OpenClaim := { program := "ytdhoimjkgicneaadoor", sum := "09da88eb2995291f5f1a317a26c4ea618e00b548119c12a6ee060f1415d5652a", func := "loop.example/stilhold/laws.FnDevBack", spec := "fnDevBack", inPlace := ["internal/abi.NoEscape", "internal/bytealg.MakeNoZero"], recurses := true, named := ["loop.example/stilhold/impl.devWords", "loop.example/stilhold/impl.devKinds", "internal/strconv.uint64pow10", "math/bits.deBruijn32tab", "math/bits.deBruijn64tab"], apart := false, laid := [("math/bits.deBruijn32tab", laid_math_bits_deBruijn32tab), ("math/bits.deBruijn64tab", laid_math_bits_deBruijn64tab), ("internal/strconv.uint64pow10", laid_internal_strconv_uint64pow10), ("loop.example/stilhold/impl.devKinds", laid_loop_example_stilhold_impl_devKinds), ("loop.example/stilhold/impl.devWords", laid_loop_example_stilhold_impl_devWords)] }
def FnDevBackSaid : Prop := fnDevBackRow.holds Tryd.pinned (OpenSpec.ofChange fnDevBackSpec)

/-- ITS FALSE NEIGHBOUR: 'it returns false'. Refute it at one input. -/
def fnDevBackWrong : ChangeSpec := { name := "fnDevBack", vars := ["loop.example/stilhold/impl.devWords", "loop.example/stilhold/impl.devKinds"], fn := fun _ => fun
  | [d1, d2, g1, g2] => { results := [.lit (.bool false)], args := [d1, d2], vars := [g1, g2] }
  | _ => none }
def FnDevBackWrongFalsely : Prop := fnDevBackRow.holds Tryd.pinned (OpenSpec.ofChange fnDevBackWrong)

/-- 'laws.FnFlip': WHATEVER THE INPUT: true; the input reads as it did. -/
def fnFlipSpec : ChangeSpec := { name := "fnFlip", vars := ["loop.example/stilhold/impl.cmpSigns"], fn := fun _ => fun
  | [d, g1] => { results := [.lit (.bool true)], args := [d], vars := [g1] }
  | _ => none }
def fnFlipRow : OpenClaim := { program := "ytdhoimjkgicneaadoor", sum := "09da88eb2995291f5f1a317a26c4ea618e00b548119c12a6ee060f1415d5652a", func := "loop.example/stilhold/laws.FnFlip", spec := "fnFlip", unfollowed := true, recurses := true, named := ["loop.example/stilhold/impl.cmpSigns"], apart := false, laid := [("loop.example/stilhold/impl.cmpSigns", laid_loop_example_stilhold_impl_cmpSigns)] }
def FnFlipSaid : Prop := fnFlipRow.holds Tryd.pinned (OpenSpec.ofChange fnFlipSpec)

/-- ITS FALSE NEIGHBOUR: 'it returns false'. Refute it at one input. -/
def fnFlipWrong : ChangeSpec := { name := "fnFlip", vars := ["loop.example/stilhold/impl.cmpSigns"], fn := fun _ => fun
  | [d, g1] => { results := [.lit (.bool false)], args := [d], vars := [g1] }
  | _ => none }
def FnFlipWrongFalsely : Prop := fnFlipRow.holds Tryd.pinned (OpenSpec.ofChange fnFlipWrong)

/-- 'laws.FnSwap': WHATEVER THE INPUT: true; the input reads as it did. -/
def fnSwapSpec : ChangeSpec := { name := "fnSwap", vars := ["loop.example/stilhold/impl.cmpSigns"], fn := fun _ => fun
  | [d, g1] => { results := [.lit (.bool true)], args := [d], vars := [g1] }
  | _ => none }
def fnSwapRow : OpenClaim := { program := "ytdhoimjkgicneaadoor", sum := "09da88eb2995291f5f1a317a26c4ea618e00b548119c12a6ee060f1415d5652a", func := "loop.example/stilhold/laws.FnSwap", spec := "fnSwap", unfollowed := true, recurses := true, named := ["loop.example/stilhold/impl.cmpSigns"], apart := false, laid := [("loop.example/stilhold/impl.cmpSigns", laid_loop_example_stilhold_impl_cmpSigns)] }
def FnSwapSaid : Prop := fnSwapRow.holds Tryd.pinned (OpenSpec.ofChange fnSwapSpec)

/-- ITS FALSE NEIGHBOUR: 'it returns false'. Refute it at one input. -/
def fnSwapWrong : ChangeSpec := { name := "fnSwap", vars := ["loop.example/stilhold/impl.cmpSigns"], fn := fun _ => fun
  | [d, g1] => { results := [.lit (.bool false)], args := [d], vars := [g1] }
  | _ => none }
def FnSwapWrongFalsely : Prop := fnSwapRow.holds Tryd.pinned (OpenSpec.ofChange fnSwapWrong)

/-- 'laws.FnRealBack': WHATEVER THE INPUT: true; the input reads as it did. -/
def fnRealBackSpec : ChangeSpec := { name := "fnRealBack", fn := fun _ => fun
  | [d1, d2] => { results := [.lit (.bool true)], args := [d1, d2] }
  | _ => none }
def fnRealBackRow : OpenClaim := { program := "ytdhoimjkgicneaadoor", sum := "09da88eb2995291f5f1a317a26c4ea618e00b548119c12a6ee060f1415d5652a", func := "loop.example/stilhold/laws.FnRealBack", spec := "fnRealBack", inPlace := ["math.Float64frombits", "math.Float64bits", "internal/bytealg.IndexByteString", "internal/bytealg.IndexString"], recurses := true, named := ["internal/strconv.uint64pow10", "math/bits.deBruijn32tab", "math/bits.deBruijn64tab", "internal/bytealg.MaxLen", "strconv.ErrSyntax", "strconv.ErrRange"], apart := false, laid := [("math/bits.deBruijn32tab", laid_math_bits_deBruijn32tab), ("math/bits.deBruijn64tab", laid_math_bits_deBruijn64tab), ("internal/strconv.uint64pow10", laid_internal_strconv_uint64pow10), ("strconv.ErrRange", laid_strconv_ErrRange), ("strconv.ErrSyntax", laid_strconv_ErrSyntax)] }
def FnRealBackSaid : Prop := fnRealBackRow.holds Tryd.pinned (OpenSpec.ofChange fnRealBackSpec)

/-- ITS FALSE NEIGHBOUR: 'it returns false'. Refute it at one input. -/
def fnRealBackWrong : ChangeSpec := { name := "fnRealBack", fn := fun _ => fun
  | [d1, d2] => { results := [.lit (.bool false)], args := [d1, d2] }
  | _ => none }
def FnRealBackWrongFalsely : Prop := fnRealBackRow.holds Tryd.pinned (OpenSpec.ofChange fnRealBackWrong)

/-- 'laws.FnRealArg': WHATEVER THE INPUT: true; the input reads as it did. -/
def fnRealArgSpec : ChangeSpec := { name := "fnRealArg", vars := ["loop.example/stilhold/impl.devKinds"], fn := fun _ => fun
  | [d1, d2, g1] => { results := [.lit (.bool true)], args := [d1, d2], vars := [g1] }
  | _ => none }
def fnRealArgRow : OpenClaim := { program := "ytdhoimjkgicneaadoor", sum := "09da88eb2995291f5f1a317a26c4ea618e00b548119c12a6ee060f1415d5652a", func := "loop.example/stilhold/laws.FnRealArg", spec := "fnRealArg", inPlace := ["math.Float64frombits", "math.Float64bits"], named := ["loop.example/stilhold/impl.devKinds"], apart := false, laid := [("loop.example/stilhold/impl.devKinds", laid_loop_example_stilhold_impl_devKinds)] }
def FnRealArgSaid : Prop := fnRealArgRow.holds Tryd.pinned (OpenSpec.ofChange fnRealArgSpec)

/-- ITS FALSE NEIGHBOUR: 'it returns false'. Refute it at one input. -/
def fnRealArgWrong : ChangeSpec := { name := "fnRealArg", vars := ["loop.example/stilhold/impl.devKinds"], fn := fun _ => fun
  | [d1, d2, g1] => { results := [.lit (.bool false)], args := [d1, d2], vars := [g1] }
  | _ => none }
def FnRealArgWrongFalsely : Prop := fnRealArgRow.holds Tryd.pinned (OpenSpec.ofChange fnRealArgWrong)

/-- 'laws.FnMemPut': WHATEVER THE INPUT: true; the input reads as it did. -/
def fnMemPutSpec : ChangeSpec := { name := "fnMemPut", vars := ["loop.example/stilhold/impl.devKinds"], fn := fun _ => fun
  | [d1, d2, g1] => { results := [.lit (.bool true)], args := [d1, d2], vars := [g1] }
  | _ => none }
def fnMemPutRow : OpenClaim := { program := "ytdhoimjkgicneaadoor", sum := "09da88eb2995291f5f1a317a26c4ea618e00b548119c12a6ee060f1415d5652a", func := "loop.example/stilhold/laws.FnMemPut", spec := "fnMemPut", inPlace := ["math.Float64frombits", "math.Float64bits"], unfollowed := true, recurses := true, named := ["loop.example/stilhold/impl.devKinds"], apart := false, laid := [("loop.example/stilhold/impl.devKinds", laid_loop_example_stilhold_impl_devKinds)] }
def FnMemPutSaid : Prop := fnMemPutRow.holds Tryd.pinned (OpenSpec.ofChange fnMemPutSpec)

/-- ITS FALSE NEIGHBOUR: 'it returns false'. Refute it at one input. -/
def fnMemPutWrong : ChangeSpec := { name := "fnMemPut", vars := ["loop.example/stilhold/impl.devKinds"], fn := fun _ => fun
  | [d1, d2, g1] => { results := [.lit (.bool false)], args := [d1, d2], vars := [g1] }
  | _ => none }
def FnMemPutWrongFalsely : Prop := fnMemPutRow.holds Tryd.pinned (OpenSpec.ofChange fnMemPutWrong)

/-- 'laws.FnMemPutNumber': WHATEVER THE INPUT: true; the input reads as it did. -/
def fnMemPutNumberSpec : ChangeSpec := { name := "fnMemPutNumber", vars := ["loop.example/stilhold/impl.devKinds"], fn := fun _ => fun
  | [d1, d2, g1] => { results := [.lit (.bool true)], args := [d1, d2], vars := [g1] }
  | _ => none }
def fnMemPutNumberRow : OpenClaim := { program := "ytdhoimjkgicneaadoor", sum := "09da88eb2995291f5f1a317a26c4ea618e00b548119c12a6ee060f1415d5652a", func := "loop.example/stilhold/laws.FnMemPutNumber", spec := "fnMemPutNumber", inPlace := ["math.Float64frombits", "math.Float64bits"], named := ["loop.example/stilhold/impl.devKinds"], apart := false, laid := [("loop.example/stilhold/impl.devKinds", laid_loop_example_stilhold_impl_devKinds)] }
def FnMemPutNumberSaid : Prop := fnMemPutNumberRow.holds Tryd.pinned (OpenSpec.ofChange fnMemPutNumberSpec)

/-- ITS FALSE NEIGHBOUR: 'it returns false'. Refute it at one input. -/
def fnMemPutNumberWrong : ChangeSpec := { name := "fnMemPutNumber", vars := ["loop.example/stilhold/impl.devKinds"], fn := fun _ => fun
  | [d1, d2, g1] => { results := [.lit (.bool false)], args := [d1, d2], vars := [g1] }
  | _ => none }
def FnMemPutNumberWrongFalsely : Prop := fnMemPutNumberRow.holds Tryd.pinned (OpenSpec.ofChange fnMemPutNumberWrong)

/-- 'laws.FnMemSame': WHATEVER THE INPUT: true; the input reads as it did. -/
def fnMemSameSpec : ChangeSpec := { name := "fnMemSame", vars := ["loop.example/stilhold/impl.devKinds", "loop.example/stilhold/impl.devWords"], fn := fun _ => fun
  | [d, g1, g2] => { results := [.lit (.bool true)], args := [d], vars := [g1, g2] }
  | _ => none }
def fnMemSameRow : OpenClaim := { program := "ytdhoimjkgicneaadoor", sum := "09da88eb2995291f5f1a317a26c4ea618e00b548119c12a6ee060f1415d5652a", func := "loop.example/stilhold/laws.FnMemSame", spec := "fnMemSame", inPlace := ["math.Float64frombits", "math.Float64bits", "internal/abi.NoEscape", "internal/bytealg.MakeNoZero"], recurses := true, named := ["loop.example/stilhold/impl.devKinds", "loop.example/stilhold/impl.devWords", "internal/strconv.uint64pow10", "math/bits.deBruijn32tab", "math/bits.deBruijn64tab"], apart := false, laid := [("math/bits.deBruijn32tab", laid_math_bits_deBruijn32tab), ("math/bits.deBruijn64tab", laid_math_bits_deBruijn64tab), ("internal/strconv.uint64pow10", laid_internal_strconv_uint64pow10), ("loop.example/stilhold/impl.devKinds", laid_loop_example_stilhold_impl_devKinds), ("loop.example/stilhold/impl.devWords", laid_loop_example_stilhold_impl_devWords)] }
def FnMemSameSaid : Prop := fnMemSameRow.holds Tryd.pinned (OpenSpec.ofChange fnMemSameSpec)

/-- ITS FALSE NEIGHBOUR: 'it returns false'. Refute it at one input. -/
def fnMemSameWrong : ChangeSpec := { name := "fnMemSame", vars := ["loop.example/stilhold/impl.devKinds", "loop.example/stilhold/impl.devWords"], fn := fun _ => fun
  | [d, g1, g2] => { results := [.lit (.bool false)], args := [d], vars := [g1, g2] }
  | _ => none }
def FnMemSameWrongFalsely : Prop := fnMemSameRow.holds Tryd.pinned (OpenSpec.ofChange fnMemSameWrong)

/-- 'laws.FnMemRound': WHATEVER THE INPUT: true; the input reads as it did. -/
def fnMemRoundSpec : ChangeSpec := { name := "fnMemRound", vars := ["loop.example/stilhold/impl.devKinds"], fn := fun _ => fun
  | [d, g1] => { results := [.lit (.bool true)], args := [d], vars := [g1] }
  | _ => none }
def fnMemRoundRow : OpenClaim := { program := "ytdhoimjkgicneaadoor", sum := "09da88eb2995291f5f1a317a26c4ea618e00b548119c12a6ee060f1415d5652a", func := "loop.example/stilhold/laws.FnMemRound", spec := "fnMemRound", inPlace := ["math.Float64frombits", "math.Float64bits"], named := ["loop.example/stilhold/impl.devKinds"], apart := false, laid := [("loop.example/stilhold/impl.devKinds", laid_loop_example_stilhold_impl_devKinds)] }
def FnMemRoundSaid : Prop := fnMemRoundRow.holds Tryd.pinned (OpenSpec.ofChange fnMemRoundSpec)

/-- ITS FALSE NEIGHBOUR: 'it returns false'. Refute it at one input. -/
def fnMemRoundWrong : ChangeSpec := { name := "fnMemRound", vars := ["loop.example/stilhold/impl.devKinds"], fn := fun _ => fun
  | [d, g1] => { results := [.lit (.bool false)], args := [d], vars := [g1] }
  | _ => none }
def FnMemRoundWrongFalsely : Prop := fnMemRoundRow.holds Tryd.pinned (OpenSpec.ofChange fnMemRoundWrong)

/- THE SECOND FORM. 'bulk': how many values and letters a reading holds, each counted each time it is reached (what is shared counts as often as it is met; a slice's spare places count too). A statement '..UptoSaid' is the law's where the arguments, and the package variables that the reading takes, are together of bulk at most 1048576: NARROWER than '..Said'. Prove '..Said' where nothing that the law and all that it calls make is longer than what came in: it says more and counts as full. Else prove '..UptoSaid'. A law counts once. -/
mutual
def uptoBulk {H : Type} : DataW H → Nat
  | .lit (.string bytes) => bytes.length + 1
  | .lit _ => 1
  | .nil => 1
  | .ptr d => uptoBulk d + 1
  | .slice elems spare => uptoBulkAll elems + uptoBulkAll spare + 1
  | .agg parts => uptoBulkAll parts + 1
  | .iface _ d => uptoBulk d + 1
  | .map entries => uptoBulkEntries entries + 1
  | .held _ => 1
def uptoBulkAll {H : Type} : List (DataW H) → Nat
  | [] => 0
  | d :: r => uptoBulk d + uptoBulkAll r
def uptoBulkEntries {H : Type} : List (Lit × DataW H) → Nat
  | [] => 0
  | x :: r => uptoBulkEntry x + uptoBulkEntries r
def uptoBulkEntry {H : Type} : Lit × DataW H → Nat
  | (.string bytes, d) => bytes.length + uptoBulk d + 1
  | (_, d) => uptoBulk d + 1
 end
def uptoSmall : (H : Type) → List (DataW H) → Bool := fun _ ds => decide (uptoBulkAll ds ≤ 1048576)
def OpenSpec.upto (s : _root_.Go.ChangeSpec) : _root_.Go.OpenSpec := { _root_.Go.OpenSpec.ofChange s with cond := some uptoSmall }

/-- 'laws.FnDevBack', WHERE WHAT IT READS IS OF BULK AT MOST 1048576: true; the input reads as it did. -/
def fnDevBackUptoRow : OpenClaim := { program := "ytdhoimjkgicneaadoor", sum := "09da88eb2995291f5f1a317a26c4ea618e00b548119c12a6ee060f1415d5652a", func := "loop.example/stilhold/laws.FnDevBack", spec := "fnDevBack", inPlace := ["internal/abi.NoEscape", "internal/bytealg.MakeNoZero"], recurses := true, named := ["loop.example/stilhold/impl.devWords", "loop.example/stilhold/impl.devKinds", "internal/strconv.uint64pow10", "math/bits.deBruijn32tab", "math/bits.deBruijn64tab"], apart := false, laid := [("math/bits.deBruijn32tab", laid_math_bits_deBruijn32tab), ("math/bits.deBruijn64tab", laid_math_bits_deBruijn64tab), ("internal/strconv.uint64pow10", laid_internal_strconv_uint64pow10), ("loop.example/stilhold/impl.devKinds", laid_loop_example_stilhold_impl_devKinds), ("loop.example/stilhold/impl.devWords", laid_loop_example_stilhold_impl_devWords)], narrowed := true }
def FnDevBackUptoSaid : Prop := fnDevBackUptoRow.holds Tryd.pinned (OpenSpec.upto fnDevBackSpec)

/-- 'laws.FnFlip', WHERE WHAT IT READS IS OF BULK AT MOST 1048576: true; the input reads as it did. -/
def fnFlipUptoRow : OpenClaim := { program := "ytdhoimjkgicneaadoor", sum := "09da88eb2995291f5f1a317a26c4ea618e00b548119c12a6ee060f1415d5652a", func := "loop.example/stilhold/laws.FnFlip", spec := "fnFlip", unfollowed := true, recurses := true, named := ["loop.example/stilhold/impl.cmpSigns"], apart := false, laid := [("loop.example/stilhold/impl.cmpSigns", laid_loop_example_stilhold_impl_cmpSigns)], narrowed := true }
def FnFlipUptoSaid : Prop := fnFlipUptoRow.holds Tryd.pinned (OpenSpec.upto fnFlipSpec)

/-- 'laws.FnSwap', WHERE WHAT IT READS IS OF BULK AT MOST 1048576: true; the input reads as it did. -/
def fnSwapUptoRow : OpenClaim := { program := "ytdhoimjkgicneaadoor", sum := "09da88eb2995291f5f1a317a26c4ea618e00b548119c12a6ee060f1415d5652a", func := "loop.example/stilhold/laws.FnSwap", spec := "fnSwap", unfollowed := true, recurses := true, named := ["loop.example/stilhold/impl.cmpSigns"], apart := false, laid := [("loop.example/stilhold/impl.cmpSigns", laid_loop_example_stilhold_impl_cmpSigns)], narrowed := true }
def FnSwapUptoSaid : Prop := fnSwapUptoRow.holds Tryd.pinned (OpenSpec.upto fnSwapSpec)

/-- 'laws.FnRealBack', WHERE WHAT IT READS IS OF BULK AT MOST 1048576: true; the input reads as it did. -/
def fnRealBackUptoRow : OpenClaim := { program := "ytdhoimjkgicneaadoor", sum := "09da88eb2995291f5f1a317a26c4ea618e00b548119c12a6ee060f1415d5652a", func := "loop.example/stilhold/laws.FnRealBack", spec := "fnRealBack", inPlace := ["math.Float64frombits", "math.Float64bits", "internal/bytealg.IndexByteString", "internal/bytealg.IndexString"], recurses := true, named := ["internal/strconv.uint64pow10", "math/bits.deBruijn32tab", "math/bits.deBruijn64tab", "internal/bytealg.MaxLen", "strconv.ErrSyntax", "strconv.ErrRange"], apart := false, laid := [("math/bits.deBruijn32tab", laid_math_bits_deBruijn32tab), ("math/bits.deBruijn64tab", laid_math_bits_deBruijn64tab), ("internal/strconv.uint64pow10", laid_internal_strconv_uint64pow10), ("strconv.ErrRange", laid_strconv_ErrRange), ("strconv.ErrSyntax", laid_strconv_ErrSyntax)], narrowed := true }
def FnRealBackUptoSaid : Prop := fnRealBackUptoRow.holds Tryd.pinned (OpenSpec.upto fnRealBackSpec)

/-- 'laws.FnRealArg', WHERE WHAT IT READS IS OF BULK AT MOST 1048576: true; the input reads as it did. -/
def fnRealArgUptoRow : OpenClaim := { program := "ytdhoimjkgicneaadoor", sum := "09da88eb2995291f5f1a317a26c4ea618e00b548119c12a6ee060f1415d5652a", func := "loop.example/stilhold/laws.FnRealArg", spec := "fnRealArg", inPlace := ["math.Float64frombits", "math.Float64bits"], named := ["loop.example/stilhold/impl.devKinds"], apart := false, laid := [("loop.example/stilhold/impl.devKinds", laid_loop_example_stilhold_impl_devKinds)], narrowed := true }
def FnRealArgUptoSaid : Prop := fnRealArgUptoRow.holds Tryd.pinned (OpenSpec.upto fnRealArgSpec)

/-- 'laws.FnMemPut', WHERE WHAT IT READS IS OF BULK AT MOST 1048576: true; the input reads as it did. -/
def fnMemPutUptoRow : OpenClaim := { program := "ytdhoimjkgicneaadoor", sum := "09da88eb2995291f5f1a317a26c4ea618e00b548119c12a6ee060f1415d5652a", func := "loop.example/stilhold/laws.FnMemPut", spec := "fnMemPut", inPlace := ["math.Float64frombits", "math.Float64bits"], unfollowed := true, recurses := true, named := ["loop.example/stilhold/impl.devKinds"], apart := false, laid := [("loop.example/stilhold/impl.devKinds", laid_loop_example_stilhold_impl_devKinds)], narrowed := true }
def FnMemPutUptoSaid : Prop := fnMemPutUptoRow.holds Tryd.pinned (OpenSpec.upto fnMemPutSpec)

/-- 'laws.FnMemPutNumber', WHERE WHAT IT READS IS OF BULK AT MOST 1048576: true; the input reads as it did. -/
def fnMemPutNumberUptoRow : OpenClaim := { program := "ytdhoimjkgicneaadoor", sum := "09da88eb2995291f5f1a317a26c4ea618e00b548119c12a6ee060f1415d5652a", func := "loop.example/stilhold/laws.FnMemPutNumber", spec := "fnMemPutNumber", inPlace := ["math.Float64frombits", "math.Float64bits"], named := ["loop.example/stilhold/impl.devKinds"], apart := false, laid := [("loop.example/stilhold/impl.devKinds", laid_loop_example_stilhold_impl_devKinds)], narrowed := true }
def FnMemPutNumberUptoSaid : Prop := fnMemPutNumberUptoRow.holds Tryd.pinned (OpenSpec.upto fnMemPutNumberSpec)

/-- 'laws.FnMemSame', WHERE WHAT IT READS IS OF BULK AT MOST 1048576: true; the input reads as it did. -/
def fnMemSameUptoRow : OpenClaim := { program := "ytdhoimjkgicneaadoor", sum := "09da88eb2995291f5f1a317a26c4ea618e00b548119c12a6ee060f1415d5652a", func := "loop.example/stilhold/laws.FnMemSame", spec := "fnMemSame", inPlace := ["math.Float64frombits", "math.Float64bits", "internal/abi.NoEscape", "internal/bytealg.MakeNoZero"], recurses := true, named := ["loop.example/stilhold/impl.devKinds", "loop.example/stilhold/impl.devWords", "internal/strconv.uint64pow10", "math/bits.deBruijn32tab", "math/bits.deBruijn64tab"], apart := false, laid := [("math/bits.deBruijn32tab", laid_math_bits_deBruijn32tab), ("math/bits.deBruijn64tab", laid_math_bits_deBruijn64tab), ("internal/strconv.uint64pow10", laid_internal_strconv_uint64pow10), ("loop.example/stilhold/impl.devKinds", laid_loop_example_stilhold_impl_devKinds), ("loop.example/stilhold/impl.devWords", laid_loop_example_stilhold_impl_devWords)], narrowed := true }
def FnMemSameUptoSaid : Prop := fnMemSameUptoRow.holds Tryd.pinned (OpenSpec.upto fnMemSameSpec)

/-- 'laws.FnMemRound', WHERE WHAT IT READS IS OF BULK AT MOST 1048576: true; the input reads as it did. -/
def fnMemRoundUptoRow : OpenClaim := { program := "ytdhoimjkgicneaadoor", sum := "09da88eb2995291f5f1a317a26c4ea618e00b548119c12a6ee060f1415d5652a", func := "loop.example/stilhold/laws.FnMemRound", spec := "fnMemRound", inPlace := ["math.Float64frombits", "math.Float64bits"], named := ["loop.example/stilhold/impl.devKinds"], apart := false, laid := [("loop.example/stilhold/impl.devKinds", laid_loop_example_stilhold_impl_devKinds)], narrowed := true }
def FnMemRoundUptoSaid : Prop := fnMemRoundUptoRow.holds Tryd.pinned (OpenSpec.upto fnMemRoundSpec)

end Rows
end Go.Proofs.YtdhoimjkgicneaaDoor
