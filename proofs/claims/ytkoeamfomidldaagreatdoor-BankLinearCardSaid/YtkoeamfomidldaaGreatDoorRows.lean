/-
  NARROWER THAN 'FOR EVERY INPUT', by the rows' own cells (each row's printed sentence says how): BankPoints: laid · BankProofs: laid · BankBuilds: laid · BankHits: laid · BankMatch: laid · BankCovers: laid · BankFewer: laid · BankLinear: laid · BankSure: laid · BankExact: laid · BankChosen: laid · BankKnown: laid.
  DERIVED. THE GIVEN ROWS OF THIS SEAT. 12 by the template 'for every input the law returns true; each argument reads behind the call as it read before'; 0 by the template 'total and deterministic' (their statements: YtkoeamfomidldaaGreatDoorTotals.lean).
  GIVEN WITH THE SEED: the statements are not yours to turn. If you find one false, say at which input.
  Laid BY PROGRAM, IN A SANDBOX (cutbox-rows.mjs): the forced cells as the released guide's own fill.sh prints them over the translation 47bd4461107ddf23… (all of the seat's roots in one cut). By AI agents, Wed Nov 11 2026. No macro, syntax, notation, axiom, sorry.
-/
import Derived.Test.YtkoeamfomidldaaGreatDoorChecked
import GoSem.Claim
import GoSem.ClaimJoined
import GoSem.ClaimMapViews
import Derived.JoinedTies
import Derived.KernelRfl
namespace Go.Proofs.YtkoeamfomidldaaGreatDoor
/- THE CELL 'sum', in the pinned program and in every row, IS THE sha256 OF THE DUMP (.gsa) THAT YtkoeamfomidldaaGreatDoorProg.lean LOADS. Nothing in Lean hashes anything: it is a label: what it is worth is what the hold of that sum in a sandbox is worth. -/
noncomputable def Tryz.pinned : Pinned := { name := "ytkoeamfomidldaagreatdoor", sum := "47bd4461107ddf23d18e95d4912d4634d819f5c630b09b5769f443f70440756e", checked := Tryz.checked }
namespace Rows
def none {H : Type} : Left H := { results := [], args := [] }

/- WHAT THE LISTED PACKAGE-LEVEL VARIABLES READ AS WHEN THE CALL BEGINS. Each datum BY PROGRAM (the guide's laid-datum.mjs) off the statement by which the dump's own 'gosem.cut.vars' lays the variable. In a bare row this is a premise. The card (YtkoeamfomidldaaGreatDoorCards.lean) ties it to the program's text. -/
def laid_math_bits_deBruijn32tab {H : Type} : DataW H := .agg [.lit (.int .u8 0), .lit (.int .u8 1), .lit (.int .u8 28), .lit (.int .u8 2), .lit (.int .u8 29), .lit (.int .u8 14), .lit (.int .u8 24), .lit (.int .u8 3), .lit (.int .u8 30), .lit (.int .u8 22), .lit (.int .u8 20), .lit (.int .u8 15), .lit (.int .u8 25), .lit (.int .u8 17), .lit (.int .u8 4), .lit (.int .u8 8), .lit (.int .u8 31), .lit (.int .u8 27), .lit (.int .u8 13), .lit (.int .u8 23), .lit (.int .u8 21), .lit (.int .u8 19), .lit (.int .u8 16), .lit (.int .u8 7), .lit (.int .u8 26), .lit (.int .u8 12), .lit (.int .u8 18), .lit (.int .u8 6), .lit (.int .u8 11), .lit (.int .u8 5), .lit (.int .u8 10), .lit (.int .u8 9)]
def laid_math_bits_deBruijn64tab {H : Type} : DataW H := .agg [.lit (.int .u8 0), .lit (.int .u8 1), .lit (.int .u8 56), .lit (.int .u8 2), .lit (.int .u8 57), .lit (.int .u8 49), .lit (.int .u8 28), .lit (.int .u8 3), .lit (.int .u8 61), .lit (.int .u8 58), .lit (.int .u8 42), .lit (.int .u8 50), .lit (.int .u8 38), .lit (.int .u8 29), .lit (.int .u8 17), .lit (.int .u8 4), .lit (.int .u8 62), .lit (.int .u8 47), .lit (.int .u8 59), .lit (.int .u8 36), .lit (.int .u8 45), .lit (.int .u8 43), .lit (.int .u8 51), .lit (.int .u8 22), .lit (.int .u8 53), .lit (.int .u8 39), .lit (.int .u8 33), .lit (.int .u8 30), .lit (.int .u8 24), .lit (.int .u8 18), .lit (.int .u8 12), .lit (.int .u8 5), .lit (.int .u8 63), .lit (.int .u8 55), .lit (.int .u8 48), .lit (.int .u8 27), .lit (.int .u8 60), .lit (.int .u8 41), .lit (.int .u8 37), .lit (.int .u8 16), .lit (.int .u8 46), .lit (.int .u8 35), .lit (.int .u8 44), .lit (.int .u8 21), .lit (.int .u8 52), .lit (.int .u8 32), .lit (.int .u8 23), .lit (.int .u8 11), .lit (.int .u8 54), .lit (.int .u8 26), .lit (.int .u8 40), .lit (.int .u8 15), .lit (.int .u8 34), .lit (.int .u8 20), .lit (.int .u8 31), .lit (.int .u8 10), .lit (.int .u8 25), .lit (.int .u8 14), .lit (.int .u8 19), .lit (.int .u8 9), .lit (.int .u8 13), .lit (.int .u8 8), .lit (.int .u8 7), .lit (.int .u8 6)]
def laid_internal_strconv_uint64pow10 {H : Type} : DataW H := .agg [.lit (.int .u64 1), .lit (.int .u64 10), .lit (.int .u64 100), .lit (.int .u64 1000), .lit (.int .u64 10000), .lit (.int .u64 100000), .lit (.int .u64 1000000), .lit (.int .u64 10000000), .lit (.int .u64 100000000), .lit (.int .u64 1000000000), .lit (.int .u64 10000000000), .lit (.int .u64 100000000000), .lit (.int .u64 1000000000000), .lit (.int .u64 10000000000000), .lit (.int .u64 100000000000000), .lit (.int .u64 1000000000000000), .lit (.int .u64 10000000000000000), .lit (.int .u64 100000000000000000), .lit (.int .u64 1000000000000000000), .lit (.int .u64 10000000000000000000)]
def laid_strconv_ErrRange {H : Type} : DataW H := .iface "*errors.errorString" (.ptr (.agg [.lit (.string [118, 97, 108, 117, 101, 32, 111, 117, 116, 32, 111, 102, 32, 114, 97, 110, 103, 101])]))
def laid_strconv_ErrSyntax {H : Type} : DataW H := .iface "*errors.errorString" (.ptr (.agg [.lit (.string [105, 110, 118, 97, 108, 105, 100, 32, 115, 121, 110, 116, 97, 120])]))
def laid_ringdown_bank_quarter {H : Type} : DataW H := .agg [.lit (.int .i64 0), .lit (.int .i64 12), .lit (.int .i64 25), .lit (.int .i64 37), .lit (.int .i64 49), .lit (.int .i64 60), .lit (.int .i64 71), .lit (.int .i64 81), .lit (.int .i64 90), .lit (.int .i64 98), .lit (.int .i64 106), .lit (.int .i64 112), .lit (.int .i64 117), .lit (.int .i64 122), .lit (.int .i64 125), .lit (.int .i64 126), .lit (.int .i64 127)]

/-- 'ringdownlaw07.BankPoints': WHATEVER THE INPUT: true; the input reads as it did. -/
def bankPointsSpec : ChangeSpec := { name := "bankPoints", fn := fun _ => fun
  | [d] => { results := [.lit (.bool true)], args := [d] }
  | _ => none }
def bankPointsRow : OpenClaim := { program := "ytkoeamfomidldaagreatdoor", sum := "47bd4461107ddf23d18e95d4912d4634d819f5c630b09b5769f443f70440756e", func := "ringdown/ringdownlaw07.BankPoints", spec := "bankPoints", inPlace := ["internal/bytealg.IndexByteString", "internal/bytealg.IndexString", "math/bits.Add64", "math/bits.Sub64", "internal/abi.NoEscape", "internal/bytealg.MakeNoZero"], unfollowed := true, recurses := true, named := ["ringdown/bank.quarter", "internal/bytealg.MaxLen", "math/bits.divideError", "math/bits.overflowError", "strconv.ErrSyntax", "strconv.ErrRange", "internal/strconv.uint64pow10", "math/bits.deBruijn32tab", "math/bits.deBruijn64tab"], apart := false, laid := [("math/bits.deBruijn32tab", laid_math_bits_deBruijn32tab), ("math/bits.deBruijn64tab", laid_math_bits_deBruijn64tab), ("internal/strconv.uint64pow10", laid_internal_strconv_uint64pow10), ("strconv.ErrRange", laid_strconv_ErrRange), ("strconv.ErrSyntax", laid_strconv_ErrSyntax), ("ringdown/bank.quarter", laid_ringdown_bank_quarter)] }
def BankPointsSaid : Prop := bankPointsRow.holds Tryz.pinned (OpenSpec.ofChange bankPointsSpec)

/-- ITS FALSE NEIGHBOUR: 'it returns false'. Refute it at one input. -/
def bankPointsWrong : ChangeSpec := { name := "bankPoints", fn := fun _ => fun
  | [d] => { results := [.lit (.bool false)], args := [d] }
  | _ => none }
def BankPointsWrongFalsely : Prop := bankPointsRow.holds Tryz.pinned (OpenSpec.ofChange bankPointsWrong)

/-- 'ringdownlaw07.BankProofs': WHATEVER THE INPUT: true; the input reads as it did. -/
def bankProofsSpec : ChangeSpec := { name := "bankProofs", fn := fun _ => fun
  | [d1, d2] => { results := [.lit (.bool true)], args := [d1, d2] }
  | _ => none }
def bankProofsRow : OpenClaim := { program := "ytkoeamfomidldaagreatdoor", sum := "47bd4461107ddf23d18e95d4912d4634d819f5c630b09b5769f443f70440756e", func := "ringdown/ringdownlaw07.BankProofs", spec := "bankProofs", inPlace := ["internal/bytealg.IndexByteString", "internal/bytealg.IndexString", "math/bits.Add64", "math/bits.Sub64", "internal/abi.NoEscape", "internal/bytealg.MakeNoZero"], unfollowed := true, recurses := true, named := ["ringdown/bank.quarter", "internal/bytealg.MaxLen", "math/bits.divideError", "math/bits.overflowError", "strconv.ErrSyntax", "strconv.ErrRange", "internal/strconv.uint64pow10", "math/bits.deBruijn32tab", "math/bits.deBruijn64tab"], apart := false, laid := [("math/bits.deBruijn32tab", laid_math_bits_deBruijn32tab), ("math/bits.deBruijn64tab", laid_math_bits_deBruijn64tab), ("internal/strconv.uint64pow10", laid_internal_strconv_uint64pow10), ("strconv.ErrRange", laid_strconv_ErrRange), ("strconv.ErrSyntax", laid_strconv_ErrSyntax), ("ringdown/bank.quarter", laid_ringdown_bank_quarter)] }
def BankProofsSaid : Prop := bankProofsRow.holds Tryz.pinned (OpenSpec.ofChange bankProofsSpec)

/-- ITS FALSE NEIGHBOUR: 'it returns false'. Refute it at one input. -/
def bankProofsWrong : ChangeSpec := { name := "bankProofs", fn := fun _ => fun
  | [d1, d2] => { results := [.lit (.bool false)], args := [d1, d2] }
  | _ => none }
def BankProofsWrongFalsely : Prop := bankProofsRow.holds Tryz.pinned (OpenSpec.ofChange bankProofsWrong)

/-- 'ringdownlaw07.BankBuilds': WHATEVER THE INPUT: true; the input reads as it did. -/
def bankBuildsSpec : ChangeSpec := { name := "bankBuilds", fn := fun _ => fun
  | [d1, d2] => { results := [.lit (.bool true)], args := [d1, d2] }
  | _ => none }
def bankBuildsRow : OpenClaim := { program := "ytkoeamfomidldaagreatdoor", sum := "47bd4461107ddf23d18e95d4912d4634d819f5c630b09b5769f443f70440756e", func := "ringdown/ringdownlaw07.BankBuilds", spec := "bankBuilds", inPlace := ["internal/bytealg.IndexByteString", "internal/bytealg.IndexString", "math/bits.Add64", "math/bits.Sub64", "internal/abi.NoEscape", "internal/bytealg.MakeNoZero"], unfollowed := true, recurses := true, named := ["internal/bytealg.MaxLen", "math/bits.divideError", "math/bits.overflowError", "strconv.ErrSyntax", "strconv.ErrRange", "internal/strconv.uint64pow10", "math/bits.deBruijn32tab", "math/bits.deBruijn64tab", "ringdown/bank.quarter"], apart := false, laid := [("math/bits.deBruijn32tab", laid_math_bits_deBruijn32tab), ("math/bits.deBruijn64tab", laid_math_bits_deBruijn64tab), ("internal/strconv.uint64pow10", laid_internal_strconv_uint64pow10), ("strconv.ErrRange", laid_strconv_ErrRange), ("strconv.ErrSyntax", laid_strconv_ErrSyntax), ("ringdown/bank.quarter", laid_ringdown_bank_quarter)] }
def BankBuildsSaid : Prop := bankBuildsRow.holds Tryz.pinned (OpenSpec.ofChange bankBuildsSpec)

/-- ITS FALSE NEIGHBOUR: 'it returns false'. Refute it at one input. -/
def bankBuildsWrong : ChangeSpec := { name := "bankBuilds", fn := fun _ => fun
  | [d1, d2] => { results := [.lit (.bool false)], args := [d1, d2] }
  | _ => none }
def BankBuildsWrongFalsely : Prop := bankBuildsRow.holds Tryz.pinned (OpenSpec.ofChange bankBuildsWrong)

/-- 'ringdownlaw07.BankHits': WHATEVER THE INPUT: true; the input reads as it did. -/
def bankHitsSpec : ChangeSpec := { name := "bankHits", fn := fun _ => fun
  | [d1, d2] => { results := [.lit (.bool true)], args := [d1, d2] }
  | _ => none }
def bankHitsRow : OpenClaim := { program := "ytkoeamfomidldaagreatdoor", sum := "47bd4461107ddf23d18e95d4912d4634d819f5c630b09b5769f443f70440756e", func := "ringdown/ringdownlaw07.BankHits", spec := "bankHits", inPlace := ["math/bits.Add64", "math/bits.Sub64", "internal/abi.NoEscape", "internal/bytealg.MakeNoZero", "internal/bytealg.IndexByteString", "internal/bytealg.IndexString"], unfollowed := true, recurses := true, named := ["ringdown/bank.quarter", "math/bits.divideError", "math/bits.overflowError", "internal/strconv.uint64pow10", "math/bits.deBruijn32tab", "math/bits.deBruijn64tab", "internal/bytealg.MaxLen"], apart := false, laid := [("math/bits.deBruijn32tab", laid_math_bits_deBruijn32tab), ("math/bits.deBruijn64tab", laid_math_bits_deBruijn64tab), ("internal/strconv.uint64pow10", laid_internal_strconv_uint64pow10), ("ringdown/bank.quarter", laid_ringdown_bank_quarter)] }
def BankHitsSaid : Prop := bankHitsRow.holds Tryz.pinned (OpenSpec.ofChange bankHitsSpec)

/-- ITS FALSE NEIGHBOUR: 'it returns false'. Refute it at one input. -/
def bankHitsWrong : ChangeSpec := { name := "bankHits", fn := fun _ => fun
  | [d1, d2] => { results := [.lit (.bool false)], args := [d1, d2] }
  | _ => none }
def BankHitsWrongFalsely : Prop := bankHitsRow.holds Tryz.pinned (OpenSpec.ofChange bankHitsWrong)

/-- 'ringdownlaw07.BankMatch': WHATEVER THE INPUT: true; the input reads as it did. -/
def bankMatchSpec : ChangeSpec := { name := "bankMatch", fn := fun _ => fun
  | [d] => { results := [.lit (.bool true)], args := [d] }
  | _ => none }
def bankMatchRow : OpenClaim := { program := "ytkoeamfomidldaagreatdoor", sum := "47bd4461107ddf23d18e95d4912d4634d819f5c630b09b5769f443f70440756e", func := "ringdown/ringdownlaw07.BankMatch", spec := "bankMatch", inPlace := ["math/bits.Add64", "math/bits.Sub64", "internal/abi.NoEscape", "internal/bytealg.MakeNoZero", "internal/bytealg.IndexByteString", "internal/bytealg.IndexString"], unfollowed := true, recurses := true, named := ["ringdown/bank.quarter", "math/bits.divideError", "math/bits.overflowError", "internal/strconv.uint64pow10", "math/bits.deBruijn32tab", "math/bits.deBruijn64tab", "internal/bytealg.MaxLen"], apart := false, laid := [("math/bits.deBruijn32tab", laid_math_bits_deBruijn32tab), ("math/bits.deBruijn64tab", laid_math_bits_deBruijn64tab), ("internal/strconv.uint64pow10", laid_internal_strconv_uint64pow10), ("ringdown/bank.quarter", laid_ringdown_bank_quarter)] }
def BankMatchSaid : Prop := bankMatchRow.holds Tryz.pinned (OpenSpec.ofChange bankMatchSpec)

/-- ITS FALSE NEIGHBOUR: 'it returns false'. Refute it at one input. -/
def bankMatchWrong : ChangeSpec := { name := "bankMatch", fn := fun _ => fun
  | [d] => { results := [.lit (.bool false)], args := [d] }
  | _ => none }
def BankMatchWrongFalsely : Prop := bankMatchRow.holds Tryz.pinned (OpenSpec.ofChange bankMatchWrong)

/-- 'ringdownlaw07.BankCovers': WHATEVER THE INPUT: true; the input reads as it did. -/
def bankCoversSpec : ChangeSpec := { name := "bankCovers", fn := fun _ => fun
  | [d1, d2] => { results := [.lit (.bool true)], args := [d1, d2] }
  | _ => none }
def bankCoversRow : OpenClaim := { program := "ytkoeamfomidldaagreatdoor", sum := "47bd4461107ddf23d18e95d4912d4634d819f5c630b09b5769f443f70440756e", func := "ringdown/ringdownlaw07.BankCovers", spec := "bankCovers", inPlace := ["internal/bytealg.IndexByteString", "internal/bytealg.IndexString", "math/bits.Add64", "math/bits.Sub64", "internal/abi.NoEscape", "internal/bytealg.MakeNoZero"], unfollowed := true, recurses := true, named := ["internal/bytealg.MaxLen", "math/bits.divideError", "math/bits.overflowError", "strconv.ErrSyntax", "strconv.ErrRange", "internal/strconv.uint64pow10", "math/bits.deBruijn32tab", "math/bits.deBruijn64tab", "ringdown/bank.quarter"], apart := false, laid := [("math/bits.deBruijn32tab", laid_math_bits_deBruijn32tab), ("math/bits.deBruijn64tab", laid_math_bits_deBruijn64tab), ("internal/strconv.uint64pow10", laid_internal_strconv_uint64pow10), ("strconv.ErrRange", laid_strconv_ErrRange), ("strconv.ErrSyntax", laid_strconv_ErrSyntax), ("ringdown/bank.quarter", laid_ringdown_bank_quarter)] }
def BankCoversSaid : Prop := bankCoversRow.holds Tryz.pinned (OpenSpec.ofChange bankCoversSpec)

/-- ITS FALSE NEIGHBOUR: 'it returns false'. Refute it at one input. -/
def bankCoversWrong : ChangeSpec := { name := "bankCovers", fn := fun _ => fun
  | [d1, d2] => { results := [.lit (.bool false)], args := [d1, d2] }
  | _ => none }
def BankCoversWrongFalsely : Prop := bankCoversRow.holds Tryz.pinned (OpenSpec.ofChange bankCoversWrong)

/-- 'ringdownlaw07.BankFewer': WHATEVER THE INPUT: true; the input reads as it did. -/
def bankFewerSpec : ChangeSpec := { name := "bankFewer", fn := fun _ => fun
  | [d1, d2, d3] => { results := [.lit (.bool true)], args := [d1, d2, d3] }
  | _ => none }
def bankFewerRow : OpenClaim := { program := "ytkoeamfomidldaagreatdoor", sum := "47bd4461107ddf23d18e95d4912d4634d819f5c630b09b5769f443f70440756e", func := "ringdown/ringdownlaw07.BankFewer", spec := "bankFewer", inPlace := ["internal/bytealg.IndexByteString", "internal/bytealg.IndexString", "math/bits.Add64", "math/bits.Sub64", "internal/abi.NoEscape", "internal/bytealg.MakeNoZero"], unfollowed := true, recurses := true, named := ["ringdown/bank.quarter", "internal/bytealg.MaxLen", "math/bits.divideError", "math/bits.overflowError", "strconv.ErrSyntax", "strconv.ErrRange", "internal/strconv.uint64pow10", "math/bits.deBruijn32tab", "math/bits.deBruijn64tab"], apart := false, laid := [("math/bits.deBruijn32tab", laid_math_bits_deBruijn32tab), ("math/bits.deBruijn64tab", laid_math_bits_deBruijn64tab), ("internal/strconv.uint64pow10", laid_internal_strconv_uint64pow10), ("strconv.ErrRange", laid_strconv_ErrRange), ("strconv.ErrSyntax", laid_strconv_ErrSyntax), ("ringdown/bank.quarter", laid_ringdown_bank_quarter)] }
def BankFewerSaid : Prop := bankFewerRow.holds Tryz.pinned (OpenSpec.ofChange bankFewerSpec)

/-- ITS FALSE NEIGHBOUR: 'it returns false'. Refute it at one input. -/
def bankFewerWrong : ChangeSpec := { name := "bankFewer", fn := fun _ => fun
  | [d1, d2, d3] => { results := [.lit (.bool false)], args := [d1, d2, d3] }
  | _ => none }
def BankFewerWrongFalsely : Prop := bankFewerRow.holds Tryz.pinned (OpenSpec.ofChange bankFewerWrong)

/-- 'ringdownlaw07.BankLinear': WHATEVER THE INPUT: true; the input reads as it did. -/
def bankLinearSpec : ChangeSpec := { name := "bankLinear", fn := fun _ => fun
  | [d1, d2, d3] => { results := [.lit (.bool true)], args := [d1, d2, d3] }
  | _ => none }
def bankLinearRow : OpenClaim := { program := "ytkoeamfomidldaagreatdoor", sum := "47bd4461107ddf23d18e95d4912d4634d819f5c630b09b5769f443f70440756e", func := "ringdown/ringdownlaw07.BankLinear", spec := "bankLinear", inPlace := ["math/bits.Add64", "math/bits.Sub64", "internal/abi.NoEscape", "internal/bytealg.MakeNoZero", "internal/bytealg.IndexByteString", "internal/bytealg.IndexString"], unfollowed := true, recurses := true, named := ["ringdown/bank.quarter", "math/bits.divideError", "math/bits.overflowError", "internal/strconv.uint64pow10", "math/bits.deBruijn32tab", "math/bits.deBruijn64tab", "internal/bytealg.MaxLen"], apart := false, laid := [("math/bits.deBruijn32tab", laid_math_bits_deBruijn32tab), ("math/bits.deBruijn64tab", laid_math_bits_deBruijn64tab), ("internal/strconv.uint64pow10", laid_internal_strconv_uint64pow10), ("ringdown/bank.quarter", laid_ringdown_bank_quarter)] }
def BankLinearSaid : Prop := bankLinearRow.holds Tryz.pinned (OpenSpec.ofChange bankLinearSpec)

/-- ITS FALSE NEIGHBOUR: 'it returns false'. Refute it at one input. -/
def bankLinearWrong : ChangeSpec := { name := "bankLinear", fn := fun _ => fun
  | [d1, d2, d3] => { results := [.lit (.bool false)], args := [d1, d2, d3] }
  | _ => none }
def BankLinearWrongFalsely : Prop := bankLinearRow.holds Tryz.pinned (OpenSpec.ofChange bankLinearWrong)

/-- 'ringdownlaw07.BankSure': WHATEVER THE INPUT: true; the input reads as it did. -/
def bankSureSpec : ChangeSpec := { name := "bankSure", fn := fun _ => fun
  | [d] => { results := [.lit (.bool true)], args := [d] }
  | _ => none }
def bankSureRow : OpenClaim := { program := "ytkoeamfomidldaagreatdoor", sum := "47bd4461107ddf23d18e95d4912d4634d819f5c630b09b5769f443f70440756e", func := "ringdown/ringdownlaw07.BankSure", spec := "bankSure", inPlace := ["math/bits.Add64", "math/bits.Sub64", "internal/abi.NoEscape", "internal/bytealg.MakeNoZero", "internal/bytealg.IndexByteString", "internal/bytealg.IndexString"], unfollowed := true, recurses := true, named := ["ringdown/bank.quarter", "math/bits.divideError", "math/bits.overflowError", "internal/strconv.uint64pow10", "math/bits.deBruijn32tab", "math/bits.deBruijn64tab", "internal/bytealg.MaxLen"], apart := false, laid := [("math/bits.deBruijn32tab", laid_math_bits_deBruijn32tab), ("math/bits.deBruijn64tab", laid_math_bits_deBruijn64tab), ("internal/strconv.uint64pow10", laid_internal_strconv_uint64pow10), ("ringdown/bank.quarter", laid_ringdown_bank_quarter)] }
def BankSureSaid : Prop := bankSureRow.holds Tryz.pinned (OpenSpec.ofChange bankSureSpec)

/-- ITS FALSE NEIGHBOUR: 'it returns false'. Refute it at one input. -/
def bankSureWrong : ChangeSpec := { name := "bankSure", fn := fun _ => fun
  | [d] => { results := [.lit (.bool false)], args := [d] }
  | _ => none }
def BankSureWrongFalsely : Prop := bankSureRow.holds Tryz.pinned (OpenSpec.ofChange bankSureWrong)

/-- 'ringdownlaw07.BankExact': WHATEVER THE INPUT: true; the input reads as it did. -/
def bankExactSpec : ChangeSpec := { name := "bankExact", fn := fun _ => fun
  | [d1, d2, d3] => { results := [.lit (.bool true)], args := [d1, d2, d3] }
  | _ => none }
def bankExactRow : OpenClaim := { program := "ytkoeamfomidldaagreatdoor", sum := "47bd4461107ddf23d18e95d4912d4634d819f5c630b09b5769f443f70440756e", func := "ringdown/ringdownlaw07.BankExact", spec := "bankExact", inPlace := ["math/bits.Add64", "math/bits.Sub64", "internal/abi.NoEscape", "internal/bytealg.MakeNoZero", "internal/bytealg.IndexByteString", "internal/bytealg.IndexString"], unfollowed := true, recurses := true, named := ["ringdown/bank.quarter", "math/bits.divideError", "math/bits.overflowError", "internal/strconv.uint64pow10", "math/bits.deBruijn32tab", "math/bits.deBruijn64tab", "internal/bytealg.MaxLen"], apart := false, laid := [("math/bits.deBruijn32tab", laid_math_bits_deBruijn32tab), ("math/bits.deBruijn64tab", laid_math_bits_deBruijn64tab), ("internal/strconv.uint64pow10", laid_internal_strconv_uint64pow10), ("ringdown/bank.quarter", laid_ringdown_bank_quarter)] }
def BankExactSaid : Prop := bankExactRow.holds Tryz.pinned (OpenSpec.ofChange bankExactSpec)

/-- ITS FALSE NEIGHBOUR: 'it returns false'. Refute it at one input. -/
def bankExactWrong : ChangeSpec := { name := "bankExact", fn := fun _ => fun
  | [d1, d2, d3] => { results := [.lit (.bool false)], args := [d1, d2, d3] }
  | _ => none }
def BankExactWrongFalsely : Prop := bankExactRow.holds Tryz.pinned (OpenSpec.ofChange bankExactWrong)

/-- 'ringdownlaw07.BankChosen': WHATEVER THE INPUT: true; the input reads as it did. -/
def bankChosenSpec : ChangeSpec := { name := "bankChosen", fn := fun _ => fun
  | [d] => { results := [.lit (.bool true)], args := [d] }
  | _ => none }
def bankChosenRow : OpenClaim := { program := "ytkoeamfomidldaagreatdoor", sum := "47bd4461107ddf23d18e95d4912d4634d819f5c630b09b5769f443f70440756e", func := "ringdown/ringdownlaw07.BankChosen", spec := "bankChosen", inPlace := ["math/bits.Add64", "math/bits.Sub64", "internal/abi.NoEscape", "internal/bytealg.MakeNoZero", "internal/bytealg.IndexByteString", "internal/bytealg.IndexString"], unfollowed := true, recurses := true, named := ["ringdown/bank.quarter", "math/bits.divideError", "math/bits.overflowError", "internal/strconv.uint64pow10", "math/bits.deBruijn32tab", "math/bits.deBruijn64tab", "internal/bytealg.MaxLen"], apart := false, laid := [("math/bits.deBruijn32tab", laid_math_bits_deBruijn32tab), ("math/bits.deBruijn64tab", laid_math_bits_deBruijn64tab), ("internal/strconv.uint64pow10", laid_internal_strconv_uint64pow10), ("ringdown/bank.quarter", laid_ringdown_bank_quarter)] }
def BankChosenSaid : Prop := bankChosenRow.holds Tryz.pinned (OpenSpec.ofChange bankChosenSpec)

/-- ITS FALSE NEIGHBOUR: 'it returns false'. Refute it at one input. -/
def bankChosenWrong : ChangeSpec := { name := "bankChosen", fn := fun _ => fun
  | [d] => { results := [.lit (.bool false)], args := [d] }
  | _ => none }
def BankChosenWrongFalsely : Prop := bankChosenRow.holds Tryz.pinned (OpenSpec.ofChange bankChosenWrong)

/-- 'ringdownlaw07.BankKnown': WHATEVER THE INPUT: true; the input reads as it did. -/
def bankKnownSpec : ChangeSpec := { name := "bankKnown", fn := fun _ => fun
  | [] => { results := [.lit (.bool true)], args := [] }
  | _ => none }
def bankKnownRow : OpenClaim := { program := "ytkoeamfomidldaagreatdoor", sum := "47bd4461107ddf23d18e95d4912d4634d819f5c630b09b5769f443f70440756e", func := "ringdown/ringdownlaw07.BankKnown", spec := "bankKnown", inPlace := ["math/bits.Add64", "math/bits.Sub64", "internal/abi.NoEscape", "internal/bytealg.MakeNoZero", "internal/bytealg.IndexByteString", "internal/bytealg.IndexString"], unfollowed := true, recurses := true, named := ["ringdown/bank.quarter", "math/bits.divideError", "math/bits.overflowError", "internal/strconv.uint64pow10", "math/bits.deBruijn32tab", "math/bits.deBruijn64tab", "internal/bytealg.MaxLen", "strconv.ErrSyntax", "strconv.ErrRange"], apart := false, laid := [("math/bits.deBruijn32tab", laid_math_bits_deBruijn32tab), ("math/bits.deBruijn64tab", laid_math_bits_deBruijn64tab), ("internal/strconv.uint64pow10", laid_internal_strconv_uint64pow10), ("strconv.ErrRange", laid_strconv_ErrRange), ("strconv.ErrSyntax", laid_strconv_ErrSyntax), ("ringdown/bank.quarter", laid_ringdown_bank_quarter)] }
def BankKnownSaid : Prop := bankKnownRow.holds Tryz.pinned (OpenSpec.ofChange bankKnownSpec)

/-- ITS FALSE NEIGHBOUR: 'it returns false'. Refute it at one input. -/
def bankKnownWrong : ChangeSpec := { name := "bankKnown", fn := fun _ => fun
  | [] => { results := [.lit (.bool false)], args := [] }
  | _ => none }
def BankKnownWrongFalsely : Prop := bankKnownRow.holds Tryz.pinned (OpenSpec.ofChange bankKnownWrong)

/- THE SECOND FORM. 'bulk': how many values and letters a reading holds, each counted each time it is reached (what is shared counts as often as it is met; a slice's spare places count too). A statement '..UptoSaid' is the law's where the arguments, and the package variables that the reading takes, are together of bulk at most 1048576: NARROWER than '..Said'. Prove '..Said' where nothing that the law and all that it calls make is longer than what came in: it says more and counts as full. Else prove '..UptoSaid'. A law counts once. -/
mutual
def uptoBulk {H : Type} : DataW H → Nat
  | .lit (.string bytes) => bytes.length + 1
  | .lit _ => 1
  | .nil => 1
  | .ptr d => uptoBulk d + 1
  | .slice elems spare => uptoBulkAll elems + uptoBulkAll spare + 1
  | .agg parts => uptoBulkAll parts + 1
  | .iface _ d => uptoBulk d + 1
  | .map entries => uptoBulkEntries entries + 1
  | .held _ => 1
def uptoBulkAll {H : Type} : List (DataW H) → Nat
  | [] => 0
  | d :: r => uptoBulk d + uptoBulkAll r
def uptoBulkEntries {H : Type} : List (Lit × DataW H) → Nat
  | [] => 0
  | x :: r => uptoBulkEntry x + uptoBulkEntries r
def uptoBulkEntry {H : Type} : Lit × DataW H → Nat
  | (.string bytes, d) => bytes.length + uptoBulk d + 1
  | (_, d) => uptoBulk d + 1
 end
def uptoSmall : (H : Type) → List (DataW H) → Bool := fun _ ds => decide (uptoBulkAll ds ≤ 1048576)
def OpenSpec.upto (s : _root_.Go.ChangeSpec) : _root_.Go.OpenSpec := { _root_.Go.OpenSpec.ofChange s with cond := some uptoSmall }

/-- 'ringdownlaw07.BankPoints', WHERE WHAT IT READS IS OF BULK AT MOST 1048576: true; the input reads as it did. -/
def bankPointsUptoRow : OpenClaim := { program := "ytkoeamfomidldaagreatdoor", sum := "47bd4461107ddf23d18e95d4912d4634d819f5c630b09b5769f443f70440756e", func := "ringdown/ringdownlaw07.BankPoints", spec := "bankPoints", inPlace := ["internal/bytealg.IndexByteString", "internal/bytealg.IndexString", "math/bits.Add64", "math/bits.Sub64", "internal/abi.NoEscape", "internal/bytealg.MakeNoZero"], unfollowed := true, recurses := true, named := ["ringdown/bank.quarter", "internal/bytealg.MaxLen", "math/bits.divideError", "math/bits.overflowError", "strconv.ErrSyntax", "strconv.ErrRange", "internal/strconv.uint64pow10", "math/bits.deBruijn32tab", "math/bits.deBruijn64tab"], apart := false, laid := [("math/bits.deBruijn32tab", laid_math_bits_deBruijn32tab), ("math/bits.deBruijn64tab", laid_math_bits_deBruijn64tab), ("internal/strconv.uint64pow10", laid_internal_strconv_uint64pow10), ("strconv.ErrRange", laid_strconv_ErrRange), ("strconv.ErrSyntax", laid_strconv_ErrSyntax), ("ringdown/bank.quarter", laid_ringdown_bank_quarter)], narrowed := true }
def BankPointsUptoSaid : Prop := bankPointsUptoRow.holds Tryz.pinned (OpenSpec.upto bankPointsSpec)

/-- 'ringdownlaw07.BankProofs', WHERE WHAT IT READS IS OF BULK AT MOST 1048576: true; the input reads as it did. -/
def bankProofsUptoRow : OpenClaim := { program := "ytkoeamfomidldaagreatdoor", sum := "47bd4461107ddf23d18e95d4912d4634d819f5c630b09b5769f443f70440756e", func := "ringdown/ringdownlaw07.BankProofs", spec := "bankProofs", inPlace := ["internal/bytealg.IndexByteString", "internal/bytealg.IndexString", "math/bits.Add64", "math/bits.Sub64", "internal/abi.NoEscape", "internal/bytealg.MakeNoZero"], unfollowed := true, recurses := true, named := ["ringdown/bank.quarter", "internal/bytealg.MaxLen", "math/bits.divideError", "math/bits.overflowError", "strconv.ErrSyntax", "strconv.ErrRange", "internal/strconv.uint64pow10", "math/bits.deBruijn32tab", "math/bits.deBruijn64tab"], apart := false, laid := [("math/bits.deBruijn32tab", laid_math_bits_deBruijn32tab), ("math/bits.deBruijn64tab", laid_math_bits_deBruijn64tab), ("internal/strconv.uint64pow10", laid_internal_strconv_uint64pow10), ("strconv.ErrRange", laid_strconv_ErrRange), ("strconv.ErrSyntax", laid_strconv_ErrSyntax), ("ringdown/bank.quarter", laid_ringdown_bank_quarter)], narrowed := true }
def BankProofsUptoSaid : Prop := bankProofsUptoRow.holds Tryz.pinned (OpenSpec.upto bankProofsSpec)

/-- 'ringdownlaw07.BankBuilds', WHERE WHAT IT READS IS OF BULK AT MOST 1048576: true; the input reads as it did. -/
def bankBuildsUptoRow : OpenClaim := { program := "ytkoeamfomidldaagreatdoor", sum := "47bd4461107ddf23d18e95d4912d4634d819f5c630b09b5769f443f70440756e", func := "ringdown/ringdownlaw07.BankBuilds", spec := "bankBuilds", inPlace := ["internal/bytealg.IndexByteString", "internal/bytealg.IndexString", "math/bits.Add64", "math/bits.Sub64", "internal/abi.NoEscape", "internal/bytealg.MakeNoZero"], unfollowed := true, recurses := true, named := ["internal/bytealg.MaxLen", "math/bits.divideError", "math/bits.overflowError", "strconv.ErrSyntax", "strconv.ErrRange", "internal/strconv.uint64pow10", "math/bits.deBruijn32tab", "math/bits.deBruijn64tab", "ringdown/bank.quarter"], apart := false, laid := [("math/bits.deBruijn32tab", laid_math_bits_deBruijn32tab), ("math/bits.deBruijn64tab", laid_math_bits_deBruijn64tab), ("internal/strconv.uint64pow10", laid_internal_strconv_uint64pow10), ("strconv.ErrRange", laid_strconv_ErrRange), ("strconv.ErrSyntax", laid_strconv_ErrSyntax), ("ringdown/bank.quarter", laid_ringdown_bank_quarter)], narrowed := true }
def BankBuildsUptoSaid : Prop := bankBuildsUptoRow.holds Tryz.pinned (OpenSpec.upto bankBuildsSpec)

/-- 'ringdownlaw07.BankHits', WHERE WHAT IT READS IS OF BULK AT MOST 1048576: true; the input reads as it did. -/
def bankHitsUptoRow : OpenClaim := { program := "ytkoeamfomidldaagreatdoor", sum := "47bd4461107ddf23d18e95d4912d4634d819f5c630b09b5769f443f70440756e", func := "ringdown/ringdownlaw07.BankHits", spec := "bankHits", inPlace := ["math/bits.Add64", "math/bits.Sub64", "internal/abi.NoEscape", "internal/bytealg.MakeNoZero", "internal/bytealg.IndexByteString", "internal/bytealg.IndexString"], unfollowed := true, recurses := true, named := ["ringdown/bank.quarter", "math/bits.divideError", "math/bits.overflowError", "internal/strconv.uint64pow10", "math/bits.deBruijn32tab", "math/bits.deBruijn64tab", "internal/bytealg.MaxLen"], apart := false, laid := [("math/bits.deBruijn32tab", laid_math_bits_deBruijn32tab), ("math/bits.deBruijn64tab", laid_math_bits_deBruijn64tab), ("internal/strconv.uint64pow10", laid_internal_strconv_uint64pow10), ("ringdown/bank.quarter", laid_ringdown_bank_quarter)], narrowed := true }
def BankHitsUptoSaid : Prop := bankHitsUptoRow.holds Tryz.pinned (OpenSpec.upto bankHitsSpec)

/-- 'ringdownlaw07.BankMatch', WHERE WHAT IT READS IS OF BULK AT MOST 1048576: true; the input reads as it did. -/
def bankMatchUptoRow : OpenClaim := { program := "ytkoeamfomidldaagreatdoor", sum := "47bd4461107ddf23d18e95d4912d4634d819f5c630b09b5769f443f70440756e", func := "ringdown/ringdownlaw07.BankMatch", spec := "bankMatch", inPlace := ["math/bits.Add64", "math/bits.Sub64", "internal/abi.NoEscape", "internal/bytealg.MakeNoZero", "internal/bytealg.IndexByteString", "internal/bytealg.IndexString"], unfollowed := true, recurses := true, named := ["ringdown/bank.quarter", "math/bits.divideError", "math/bits.overflowError", "internal/strconv.uint64pow10", "math/bits.deBruijn32tab", "math/bits.deBruijn64tab", "internal/bytealg.MaxLen"], apart := false, laid := [("math/bits.deBruijn32tab", laid_math_bits_deBruijn32tab), ("math/bits.deBruijn64tab", laid_math_bits_deBruijn64tab), ("internal/strconv.uint64pow10", laid_internal_strconv_uint64pow10), ("ringdown/bank.quarter", laid_ringdown_bank_quarter)], narrowed := true }
def BankMatchUptoSaid : Prop := bankMatchUptoRow.holds Tryz.pinned (OpenSpec.upto bankMatchSpec)

/-- 'ringdownlaw07.BankCovers', WHERE WHAT IT READS IS OF BULK AT MOST 1048576: true; the input reads as it did. -/
def bankCoversUptoRow : OpenClaim := { program := "ytkoeamfomidldaagreatdoor", sum := "47bd4461107ddf23d18e95d4912d4634d819f5c630b09b5769f443f70440756e", func := "ringdown/ringdownlaw07.BankCovers", spec := "bankCovers", inPlace := ["internal/bytealg.IndexByteString", "internal/bytealg.IndexString", "math/bits.Add64", "math/bits.Sub64", "internal/abi.NoEscape", "internal/bytealg.MakeNoZero"], unfollowed := true, recurses := true, named := ["internal/bytealg.MaxLen", "math/bits.divideError", "math/bits.overflowError", "strconv.ErrSyntax", "strconv.ErrRange", "internal/strconv.uint64pow10", "math/bits.deBruijn32tab", "math/bits.deBruijn64tab", "ringdown/bank.quarter"], apart := false, laid := [("math/bits.deBruijn32tab", laid_math_bits_deBruijn32tab), ("math/bits.deBruijn64tab", laid_math_bits_deBruijn64tab), ("internal/strconv.uint64pow10", laid_internal_strconv_uint64pow10), ("strconv.ErrRange", laid_strconv_ErrRange), ("strconv.ErrSyntax", laid_strconv_ErrSyntax), ("ringdown/bank.quarter", laid_ringdown_bank_quarter)], narrowed := true }
def BankCoversUptoSaid : Prop := bankCoversUptoRow.holds Tryz.pinned (OpenSpec.upto bankCoversSpec)

/-- 'ringdownlaw07.BankFewer', WHERE WHAT IT READS IS OF BULK AT MOST 1048576: true; the input reads as it did. -/
def bankFewerUptoRow : OpenClaim := { program := "ytkoeamfomidldaagreatdoor", sum := "47bd4461107ddf23d18e95d4912d4634d819f5c630b09b5769f443f70440756e", func := "ringdown/ringdownlaw07.BankFewer", spec := "bankFewer", inPlace := ["internal/bytealg.IndexByteString", "internal/bytealg.IndexString", "math/bits.Add64", "math/bits.Sub64", "internal/abi.NoEscape", "internal/bytealg.MakeNoZero"], unfollowed := true, recurses := true, named := ["ringdown/bank.quarter", "internal/bytealg.MaxLen", "math/bits.divideError", "math/bits.overflowError", "strconv.ErrSyntax", "strconv.ErrRange", "internal/strconv.uint64pow10", "math/bits.deBruijn32tab", "math/bits.deBruijn64tab"], apart := false, laid := [("math/bits.deBruijn32tab", laid_math_bits_deBruijn32tab), ("math/bits.deBruijn64tab", laid_math_bits_deBruijn64tab), ("internal/strconv.uint64pow10", laid_internal_strconv_uint64pow10), ("strconv.ErrRange", laid_strconv_ErrRange), ("strconv.ErrSyntax", laid_strconv_ErrSyntax), ("ringdown/bank.quarter", laid_ringdown_bank_quarter)], narrowed := true }
def BankFewerUptoSaid : Prop := bankFewerUptoRow.holds Tryz.pinned (OpenSpec.upto bankFewerSpec)

/-- 'ringdownlaw07.BankLinear', WHERE WHAT IT READS IS OF BULK AT MOST 1048576: true; the input reads as it did. -/
def bankLinearUptoRow : OpenClaim := { program := "ytkoeamfomidldaagreatdoor", sum := "47bd4461107ddf23d18e95d4912d4634d819f5c630b09b5769f443f70440756e", func := "ringdown/ringdownlaw07.BankLinear", spec := "bankLinear", inPlace := ["math/bits.Add64", "math/bits.Sub64", "internal/abi.NoEscape", "internal/bytealg.MakeNoZero", "internal/bytealg.IndexByteString", "internal/bytealg.IndexString"], unfollowed := true, recurses := true, named := ["ringdown/bank.quarter", "math/bits.divideError", "math/bits.overflowError", "internal/strconv.uint64pow10", "math/bits.deBruijn32tab", "math/bits.deBruijn64tab", "internal/bytealg.MaxLen"], apart := false, laid := [("math/bits.deBruijn32tab", laid_math_bits_deBruijn32tab), ("math/bits.deBruijn64tab", laid_math_bits_deBruijn64tab), ("internal/strconv.uint64pow10", laid_internal_strconv_uint64pow10), ("ringdown/bank.quarter", laid_ringdown_bank_quarter)], narrowed := true }
def BankLinearUptoSaid : Prop := bankLinearUptoRow.holds Tryz.pinned (OpenSpec.upto bankLinearSpec)

/-- 'ringdownlaw07.BankSure', WHERE WHAT IT READS IS OF BULK AT MOST 1048576: true; the input reads as it did. -/
def bankSureUptoRow : OpenClaim := { program := "ytkoeamfomidldaagreatdoor", sum := "47bd4461107ddf23d18e95d4912d4634d819f5c630b09b5769f443f70440756e", func := "ringdown/ringdownlaw07.BankSure", spec := "bankSure", inPlace := ["math/bits.Add64", "math/bits.Sub64", "internal/abi.NoEscape", "internal/bytealg.MakeNoZero", "internal/bytealg.IndexByteString", "internal/bytealg.IndexString"], unfollowed := true, recurses := true, named := ["ringdown/bank.quarter", "math/bits.divideError", "math/bits.overflowError", "internal/strconv.uint64pow10", "math/bits.deBruijn32tab", "math/bits.deBruijn64tab", "internal/bytealg.MaxLen"], apart := false, laid := [("math/bits.deBruijn32tab", laid_math_bits_deBruijn32tab), ("math/bits.deBruijn64tab", laid_math_bits_deBruijn64tab), ("internal/strconv.uint64pow10", laid_internal_strconv_uint64pow10), ("ringdown/bank.quarter", laid_ringdown_bank_quarter)], narrowed := true }
def BankSureUptoSaid : Prop := bankSureUptoRow.holds Tryz.pinned (OpenSpec.upto bankSureSpec)

/-- 'ringdownlaw07.BankExact', WHERE WHAT IT READS IS OF BULK AT MOST 1048576: true; the input reads as it did. -/
def bankExactUptoRow : OpenClaim := { program := "ytkoeamfomidldaagreatdoor", sum := "47bd4461107ddf23d18e95d4912d4634d819f5c630b09b5769f443f70440756e", func := "ringdown/ringdownlaw07.BankExact", spec := "bankExact", inPlace := ["math/bits.Add64", "math/bits.Sub64", "internal/abi.NoEscape", "internal/bytealg.MakeNoZero", "internal/bytealg.IndexByteString", "internal/bytealg.IndexString"], unfollowed := true, recurses := true, named := ["ringdown/bank.quarter", "math/bits.divideError", "math/bits.overflowError", "internal/strconv.uint64pow10", "math/bits.deBruijn32tab", "math/bits.deBruijn64tab", "internal/bytealg.MaxLen"], apart := false, laid := [("math/bits.deBruijn32tab", laid_math_bits_deBruijn32tab), ("math/bits.deBruijn64tab", laid_math_bits_deBruijn64tab), ("internal/strconv.uint64pow10", laid_internal_strconv_uint64pow10), ("ringdown/bank.quarter", laid_ringdown_bank_quarter)], narrowed := true }
def BankExactUptoSaid : Prop := bankExactUptoRow.holds Tryz.pinned (OpenSpec.upto bankExactSpec)

/-- 'ringdownlaw07.BankChosen', WHERE WHAT IT READS IS OF BULK AT MOST 1048576: true; the input reads as it did. -/
def bankChosenUptoRow : OpenClaim := { program := "ytkoeamfomidldaagreatdoor", sum := "47bd4461107ddf23d18e95d4912d4634d819f5c630b09b5769f443f70440756e", func := "ringdown/ringdownlaw07.BankChosen", spec := "bankChosen", inPlace := ["math/bits.Add64", "math/bits.Sub64", "internal/abi.NoEscape", "internal/bytealg.MakeNoZero", "internal/bytealg.IndexByteString", "internal/bytealg.IndexString"], unfollowed := true, recurses := true, named := ["ringdown/bank.quarter", "math/bits.divideError", "math/bits.overflowError", "internal/strconv.uint64pow10", "math/bits.deBruijn32tab", "math/bits.deBruijn64tab", "internal/bytealg.MaxLen"], apart := false, laid := [("math/bits.deBruijn32tab", laid_math_bits_deBruijn32tab), ("math/bits.deBruijn64tab", laid_math_bits_deBruijn64tab), ("internal/strconv.uint64pow10", laid_internal_strconv_uint64pow10), ("ringdown/bank.quarter", laid_ringdown_bank_quarter)], narrowed := true }
def BankChosenUptoSaid : Prop := bankChosenUptoRow.holds Tryz.pinned (OpenSpec.upto bankChosenSpec)

/-- 'ringdownlaw07.BankKnown', WHERE WHAT IT READS IS OF BULK AT MOST 1048576: true; the input reads as it did. -/
def bankKnownUptoRow : OpenClaim := { program := "ytkoeamfomidldaagreatdoor", sum := "47bd4461107ddf23d18e95d4912d4634d819f5c630b09b5769f443f70440756e", func := "ringdown/ringdownlaw07.BankKnown", spec := "bankKnown", inPlace := ["math/bits.Add64", "math/bits.Sub64", "internal/abi.NoEscape", "internal/bytealg.MakeNoZero", "internal/bytealg.IndexByteString", "internal/bytealg.IndexString"], unfollowed := true, recurses := true, named := ["ringdown/bank.quarter", "math/bits.divideError", "math/bits.overflowError", "internal/strconv.uint64pow10", "math/bits.deBruijn32tab", "math/bits.deBruijn64tab", "internal/bytealg.MaxLen", "strconv.ErrSyntax", "strconv.ErrRange"], apart := false, laid := [("math/bits.deBruijn32tab", laid_math_bits_deBruijn32tab), ("math/bits.deBruijn64tab", laid_math_bits_deBruijn64tab), ("internal/strconv.uint64pow10", laid_internal_strconv_uint64pow10), ("strconv.ErrRange", laid_strconv_ErrRange), ("strconv.ErrSyntax", laid_strconv_ErrSyntax), ("ringdown/bank.quarter", laid_ringdown_bank_quarter)], narrowed := true }
def BankKnownUptoSaid : Prop := bankKnownUptoRow.holds Tryz.pinned (OpenSpec.upto bankKnownSpec)

end Rows
end Go.Proofs.YtkoeamfomidldaaGreatDoor
