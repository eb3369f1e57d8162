/-
  NARROWER THAN 'FOR EVERY INPUT', by the rows' own cells (each row's printed sentence says how): SkyCells: laid · SkyRings: laid · SkyScopes: laid · SkyPlans: laid · SkyHome: laid · SkyTrue: laid · SkyAllRings: laid · SkyHalf: laid · SkyKnown: laid.
  DERIVED. THE GIVEN ROWS OF THIS SEAT. 9 by the template 'for every input the law returns true; each argument reads behind the call as it read before'; 0 by the template 'total and deterministic' (their statements: YtkmmplbbefijaaaGreatDoorTotals.lean).
  GIVEN WITH THE SEED: the statements are not yours to turn. If you find one false, say at which input.
  Laid BY PROGRAM, IN A SANDBOX (cutbox-rows.mjs): the forced cells as the released guide's own fill.sh prints them over the translation b9abdc9e544816b6… (all of the seat's roots in one cut). By AI agents, Wed Nov 11 2026. No macro, syntax, notation, axiom, sorry.
-/
import Derived.Test.YtkmmplbbefijaaaGreatDoorChecked
import GoSem.Claim
import GoSem.ClaimJoined
import GoSem.ClaimMapViews
import Derived.JoinedTies
import Derived.KernelRfl
namespace Go.Proofs.YtkmmplbbefijaaaGreatDoor
/- THE CELL 'sum', in the pinned program and in every row, IS THE sha256 OF THE DUMP (.gsa) THAT YtkmmplbbefijaaaGreatDoorProg.lean LOADS. Nothing in Lean hashes anything: it is a label: what it is worth is what the hold of that sum in a sandbox is worth. -/
noncomputable def Tryz.pinned : Pinned := { name := "ytkmmplbbefijaaagreatdoor", sum := "b9abdc9e544816b691681966ae98a308c29b0b4e4d55cb9c7a6457243e468aa3", checked := Tryz.checked }
namespace Rows
def none {H : Type} : Left H := { results := [], args := [] }

/- WHAT THE LISTED PACKAGE-LEVEL VARIABLES READ AS WHEN THE CALL BEGINS. Each datum BY PROGRAM (the guide's laid-datum.mjs) off the statement by which the dump's own 'gosem.cut.vars' lays the variable. In a bare row this is a premise. The card (YtkmmplbbefijaaaGreatDoorCards.lean) ties it to the program's text. -/
def laid_math_bits_deBruijn32tab {H : Type} : DataW H := .agg [.lit (.int .u8 0), .lit (.int .u8 1), .lit (.int .u8 28), .lit (.int .u8 2), .lit (.int .u8 29), .lit (.int .u8 14), .lit (.int .u8 24), .lit (.int .u8 3), .lit (.int .u8 30), .lit (.int .u8 22), .lit (.int .u8 20), .lit (.int .u8 15), .lit (.int .u8 25), .lit (.int .u8 17), .lit (.int .u8 4), .lit (.int .u8 8), .lit (.int .u8 31), .lit (.int .u8 27), .lit (.int .u8 13), .lit (.int .u8 23), .lit (.int .u8 21), .lit (.int .u8 19), .lit (.int .u8 16), .lit (.int .u8 7), .lit (.int .u8 26), .lit (.int .u8 12), .lit (.int .u8 18), .lit (.int .u8 6), .lit (.int .u8 11), .lit (.int .u8 5), .lit (.int .u8 10), .lit (.int .u8 9)]
def laid_math_bits_deBruijn64tab {H : Type} : DataW H := .agg [.lit (.int .u8 0), .lit (.int .u8 1), .lit (.int .u8 56), .lit (.int .u8 2), .lit (.int .u8 57), .lit (.int .u8 49), .lit (.int .u8 28), .lit (.int .u8 3), .lit (.int .u8 61), .lit (.int .u8 58), .lit (.int .u8 42), .lit (.int .u8 50), .lit (.int .u8 38), .lit (.int .u8 29), .lit (.int .u8 17), .lit (.int .u8 4), .lit (.int .u8 62), .lit (.int .u8 47), .lit (.int .u8 59), .lit (.int .u8 36), .lit (.int .u8 45), .lit (.int .u8 43), .lit (.int .u8 51), .lit (.int .u8 22), .lit (.int .u8 53), .lit (.int .u8 39), .lit (.int .u8 33), .lit (.int .u8 30), .lit (.int .u8 24), .lit (.int .u8 18), .lit (.int .u8 12), .lit (.int .u8 5), .lit (.int .u8 63), .lit (.int .u8 55), .lit (.int .u8 48), .lit (.int .u8 27), .lit (.int .u8 60), .lit (.int .u8 41), .lit (.int .u8 37), .lit (.int .u8 16), .lit (.int .u8 46), .lit (.int .u8 35), .lit (.int .u8 44), .lit (.int .u8 21), .lit (.int .u8 52), .lit (.int .u8 32), .lit (.int .u8 23), .lit (.int .u8 11), .lit (.int .u8 54), .lit (.int .u8 26), .lit (.int .u8 40), .lit (.int .u8 15), .lit (.int .u8 34), .lit (.int .u8 20), .lit (.int .u8 31), .lit (.int .u8 10), .lit (.int .u8 25), .lit (.int .u8 14), .lit (.int .u8 19), .lit (.int .u8 9), .lit (.int .u8 13), .lit (.int .u8 8), .lit (.int .u8 7), .lit (.int .u8 6)]
def laid_internal_strconv_uint64pow10 {H : Type} : DataW H := .agg [.lit (.int .u64 1), .lit (.int .u64 10), .lit (.int .u64 100), .lit (.int .u64 1000), .lit (.int .u64 10000), .lit (.int .u64 100000), .lit (.int .u64 1000000), .lit (.int .u64 10000000), .lit (.int .u64 100000000), .lit (.int .u64 1000000000), .lit (.int .u64 10000000000), .lit (.int .u64 100000000000), .lit (.int .u64 1000000000000), .lit (.int .u64 10000000000000), .lit (.int .u64 100000000000000), .lit (.int .u64 1000000000000000), .lit (.int .u64 10000000000000000), .lit (.int .u64 100000000000000000), .lit (.int .u64 1000000000000000000), .lit (.int .u64 10000000000000000000)]

/-- 'ringdownlaw09.SkyCells': WHATEVER THE INPUT: true; the input reads as it did. -/
def skyCellsSpec : ChangeSpec := { name := "skyCells", fn := fun _ => fun
  | [d1, d2, d3] => { results := [.lit (.bool true)], args := [d1, d2, d3] }
  | _ => none }
def skyCellsRow : OpenClaim := { program := "ytkmmplbbefijaaagreatdoor", sum := "b9abdc9e544816b691681966ae98a308c29b0b4e4d55cb9c7a6457243e468aa3", func := "ringdown/ringdownlaw09.SkyCells", spec := "skyCells", inPlace := ["internal/bytealg.IndexByteString", "internal/bytealg.IndexString", "math/bits.Add64", "math/bits.Sub64", "internal/abi.NoEscape", "internal/bytealg.MakeNoZero"], unfollowed := true, recurses := true, named := ["internal/bytealg.MaxLen", "math/bits.divideError", "math/bits.overflowError", "internal/strconv.uint64pow10", "math/bits.deBruijn32tab", "math/bits.deBruijn64tab"], apart := false, laid := [("math/bits.deBruijn32tab", laid_math_bits_deBruijn32tab), ("math/bits.deBruijn64tab", laid_math_bits_deBruijn64tab), ("internal/strconv.uint64pow10", laid_internal_strconv_uint64pow10)] }
def SkyCellsSaid : Prop := skyCellsRow.holds Tryz.pinned (OpenSpec.ofChange skyCellsSpec)

/-- ITS FALSE NEIGHBOUR: 'it returns false'. Refute it at one input. -/
def skyCellsWrong : ChangeSpec := { name := "skyCells", fn := fun _ => fun
  | [d1, d2, d3] => { results := [.lit (.bool false)], args := [d1, d2, d3] }
  | _ => none }
def SkyCellsWrongFalsely : Prop := skyCellsRow.holds Tryz.pinned (OpenSpec.ofChange skyCellsWrong)

/-- 'ringdownlaw09.SkyRings': WHATEVER THE INPUT: true; the input reads as it did. -/
def skyRingsSpec : ChangeSpec := { name := "skyRings", fn := fun _ => fun
  | [d1, d2, d3] => { results := [.lit (.bool true)], args := [d1, d2, d3] }
  | _ => none }
def skyRingsRow : OpenClaim := { program := "ytkmmplbbefijaaagreatdoor", sum := "b9abdc9e544816b691681966ae98a308c29b0b4e4d55cb9c7a6457243e468aa3", func := "ringdown/ringdownlaw09.SkyRings", spec := "skyRings", inPlace := ["internal/bytealg.IndexByteString", "internal/bytealg.IndexString", "math/bits.Add64", "math/bits.Sub64", "internal/abi.NoEscape", "internal/bytealg.MakeNoZero"], unfollowed := true, recurses := true, named := ["internal/bytealg.MaxLen", "math/bits.divideError", "math/bits.overflowError", "internal/strconv.uint64pow10", "math/bits.deBruijn32tab", "math/bits.deBruijn64tab"], apart := false, laid := [("math/bits.deBruijn32tab", laid_math_bits_deBruijn32tab), ("math/bits.deBruijn64tab", laid_math_bits_deBruijn64tab), ("internal/strconv.uint64pow10", laid_internal_strconv_uint64pow10)] }
def SkyRingsSaid : Prop := skyRingsRow.holds Tryz.pinned (OpenSpec.ofChange skyRingsSpec)

/-- ITS FALSE NEIGHBOUR: 'it returns false'. Refute it at one input. -/
def skyRingsWrong : ChangeSpec := { name := "skyRings", fn := fun _ => fun
  | [d1, d2, d3] => { results := [.lit (.bool false)], args := [d1, d2, d3] }
  | _ => none }
def SkyRingsWrongFalsely : Prop := skyRingsRow.holds Tryz.pinned (OpenSpec.ofChange skyRingsWrong)

/-- 'ringdownlaw09.SkyScopes': WHATEVER THE INPUT: true; the input reads as it did. -/
def skyScopesSpec : ChangeSpec := { name := "skyScopes", fn := fun _ => fun
  | [d1, d2, d3] => { results := [.lit (.bool true)], args := [d1, d2, d3] }
  | _ => none }
def skyScopesRow : OpenClaim := { program := "ytkmmplbbefijaaagreatdoor", sum := "b9abdc9e544816b691681966ae98a308c29b0b4e4d55cb9c7a6457243e468aa3", func := "ringdown/ringdownlaw09.SkyScopes", spec := "skyScopes", inPlace := ["internal/bytealg.IndexByteString", "internal/bytealg.IndexString", "math/bits.Add64", "math/bits.Sub64", "internal/abi.NoEscape", "internal/bytealg.MakeNoZero"], unfollowed := true, recurses := true, named := ["internal/bytealg.MaxLen", "math/bits.divideError", "math/bits.overflowError", "internal/strconv.uint64pow10", "math/bits.deBruijn32tab", "math/bits.deBruijn64tab"], apart := false, laid := [("math/bits.deBruijn32tab", laid_math_bits_deBruijn32tab), ("math/bits.deBruijn64tab", laid_math_bits_deBruijn64tab), ("internal/strconv.uint64pow10", laid_internal_strconv_uint64pow10)] }
def SkyScopesSaid : Prop := skyScopesRow.holds Tryz.pinned (OpenSpec.ofChange skyScopesSpec)

/-- ITS FALSE NEIGHBOUR: 'it returns false'. Refute it at one input. -/
def skyScopesWrong : ChangeSpec := { name := "skyScopes", fn := fun _ => fun
  | [d1, d2, d3] => { results := [.lit (.bool false)], args := [d1, d2, d3] }
  | _ => none }
def SkyScopesWrongFalsely : Prop := skyScopesRow.holds Tryz.pinned (OpenSpec.ofChange skyScopesWrong)

/-- 'ringdownlaw09.SkyPlans': WHATEVER THE INPUT: true; the input reads as it did. -/
def skyPlansSpec : ChangeSpec := { name := "skyPlans", fn := fun _ => fun
  | [d1, d2, d3] => { results := [.lit (.bool true)], args := [d1, d2, d3] }
  | _ => none }
def skyPlansRow : OpenClaim := { program := "ytkmmplbbefijaaagreatdoor", sum := "b9abdc9e544816b691681966ae98a308c29b0b4e4d55cb9c7a6457243e468aa3", func := "ringdown/ringdownlaw09.SkyPlans", spec := "skyPlans", inPlace := ["internal/bytealg.IndexByteString", "internal/bytealg.IndexString", "math/bits.Add64", "math/bits.Sub64", "internal/abi.NoEscape", "internal/bytealg.MakeNoZero"], unfollowed := true, recurses := true, named := ["internal/bytealg.MaxLen", "math/bits.divideError", "math/bits.overflowError", "internal/strconv.uint64pow10", "math/bits.deBruijn32tab", "math/bits.deBruijn64tab"], apart := false, laid := [("math/bits.deBruijn32tab", laid_math_bits_deBruijn32tab), ("math/bits.deBruijn64tab", laid_math_bits_deBruijn64tab), ("internal/strconv.uint64pow10", laid_internal_strconv_uint64pow10)] }
def SkyPlansSaid : Prop := skyPlansRow.holds Tryz.pinned (OpenSpec.ofChange skyPlansSpec)

/-- ITS FALSE NEIGHBOUR: 'it returns false'. Refute it at one input. -/
def skyPlansWrong : ChangeSpec := { name := "skyPlans", fn := fun _ => fun
  | [d1, d2, d3] => { results := [.lit (.bool false)], args := [d1, d2, d3] }
  | _ => none }
def SkyPlansWrongFalsely : Prop := skyPlansRow.holds Tryz.pinned (OpenSpec.ofChange skyPlansWrong)

/-- 'ringdownlaw09.SkyHome': WHATEVER THE INPUT: true; the input reads as it did. -/
def skyHomeSpec : ChangeSpec := { name := "skyHome", fn := fun _ => fun
  | [d1, d2, d3] => { results := [.lit (.bool true)], args := [d1, d2, d3] }
  | _ => none }
def skyHomeRow : OpenClaim := { program := "ytkmmplbbefijaaagreatdoor", sum := "b9abdc9e544816b691681966ae98a308c29b0b4e4d55cb9c7a6457243e468aa3", func := "ringdown/ringdownlaw09.SkyHome", spec := "skyHome", inPlace := ["internal/bytealg.IndexByteString", "internal/bytealg.IndexString", "math/bits.Add64", "math/bits.Sub64", "internal/abi.NoEscape", "internal/bytealg.MakeNoZero"], unfollowed := true, recurses := true, named := ["internal/bytealg.MaxLen", "math/bits.divideError", "math/bits.overflowError", "internal/strconv.uint64pow10", "math/bits.deBruijn32tab", "math/bits.deBruijn64tab"], apart := false, laid := [("math/bits.deBruijn32tab", laid_math_bits_deBruijn32tab), ("math/bits.deBruijn64tab", laid_math_bits_deBruijn64tab), ("internal/strconv.uint64pow10", laid_internal_strconv_uint64pow10)] }
def SkyHomeSaid : Prop := skyHomeRow.holds Tryz.pinned (OpenSpec.ofChange skyHomeSpec)

/-- ITS FALSE NEIGHBOUR: 'it returns false'. Refute it at one input. -/
def skyHomeWrong : ChangeSpec := { name := "skyHome", fn := fun _ => fun
  | [d1, d2, d3] => { results := [.lit (.bool false)], args := [d1, d2, d3] }
  | _ => none }
def SkyHomeWrongFalsely : Prop := skyHomeRow.holds Tryz.pinned (OpenSpec.ofChange skyHomeWrong)

/-- 'ringdownlaw09.SkyTrue': WHATEVER THE INPUT: true; the input reads as it did. -/
def skyTrueSpec : ChangeSpec := { name := "skyTrue", fn := fun _ => fun
  | [d] => { results := [.lit (.bool true)], args := [d] }
  | _ => none }
def skyTrueRow : OpenClaim := { program := "ytkmmplbbefijaaagreatdoor", sum := "b9abdc9e544816b691681966ae98a308c29b0b4e4d55cb9c7a6457243e468aa3", func := "ringdown/ringdownlaw09.SkyTrue", spec := "skyTrue", inPlace := ["internal/bytealg.IndexByteString", "internal/bytealg.IndexString", "math/bits.Add64", "math/bits.Sub64", "internal/abi.NoEscape", "internal/bytealg.MakeNoZero"], unfollowed := true, recurses := true, named := ["internal/bytealg.MaxLen", "math/bits.divideError", "math/bits.overflowError", "internal/strconv.uint64pow10", "math/bits.deBruijn32tab", "math/bits.deBruijn64tab"], apart := false, laid := [("math/bits.deBruijn32tab", laid_math_bits_deBruijn32tab), ("math/bits.deBruijn64tab", laid_math_bits_deBruijn64tab), ("internal/strconv.uint64pow10", laid_internal_strconv_uint64pow10)] }
def SkyTrueSaid : Prop := skyTrueRow.holds Tryz.pinned (OpenSpec.ofChange skyTrueSpec)

/-- ITS FALSE NEIGHBOUR: 'it returns false'. Refute it at one input. -/
def skyTrueWrong : ChangeSpec := { name := "skyTrue", fn := fun _ => fun
  | [d] => { results := [.lit (.bool false)], args := [d] }
  | _ => none }
def SkyTrueWrongFalsely : Prop := skyTrueRow.holds Tryz.pinned (OpenSpec.ofChange skyTrueWrong)

/-- 'ringdownlaw09.SkyAllRings': WHATEVER THE INPUT: true; the input reads as it did. -/
def skyAllRingsSpec : ChangeSpec := { name := "skyAllRings", fn := fun _ => fun
  | [d1, d2] => { results := [.lit (.bool true)], args := [d1, d2] }
  | _ => none }
def skyAllRingsRow : OpenClaim := { program := "ytkmmplbbefijaaagreatdoor", sum := "b9abdc9e544816b691681966ae98a308c29b0b4e4d55cb9c7a6457243e468aa3", func := "ringdown/ringdownlaw09.SkyAllRings", spec := "skyAllRings", inPlace := ["internal/bytealg.IndexByteString", "internal/bytealg.IndexString", "math/bits.Add64", "math/bits.Sub64", "internal/abi.NoEscape", "internal/bytealg.MakeNoZero"], unfollowed := true, recurses := true, named := ["internal/bytealg.MaxLen", "math/bits.divideError", "math/bits.overflowError", "internal/strconv.uint64pow10", "math/bits.deBruijn32tab", "math/bits.deBruijn64tab"], apart := false, laid := [("math/bits.deBruijn32tab", laid_math_bits_deBruijn32tab), ("math/bits.deBruijn64tab", laid_math_bits_deBruijn64tab), ("internal/strconv.uint64pow10", laid_internal_strconv_uint64pow10)] }
def SkyAllRingsSaid : Prop := skyAllRingsRow.holds Tryz.pinned (OpenSpec.ofChange skyAllRingsSpec)

/-- ITS FALSE NEIGHBOUR: 'it returns false'. Refute it at one input. -/
def skyAllRingsWrong : ChangeSpec := { name := "skyAllRings", fn := fun _ => fun
  | [d1, d2] => { results := [.lit (.bool false)], args := [d1, d2] }
  | _ => none }
def SkyAllRingsWrongFalsely : Prop := skyAllRingsRow.holds Tryz.pinned (OpenSpec.ofChange skyAllRingsWrong)

/-- 'ringdownlaw09.SkyHalf': WHATEVER THE INPUT: true; the input reads as it did. -/
def skyHalfSpec : ChangeSpec := { name := "skyHalf", fn := fun _ => fun
  | [d1, d2, d3] => { results := [.lit (.bool true)], args := [d1, d2, d3] }
  | _ => none }
def skyHalfRow : OpenClaim := { program := "ytkmmplbbefijaaagreatdoor", sum := "b9abdc9e544816b691681966ae98a308c29b0b4e4d55cb9c7a6457243e468aa3", func := "ringdown/ringdownlaw09.SkyHalf", spec := "skyHalf", inPlace := ["internal/bytealg.IndexByteString", "internal/bytealg.IndexString", "math/bits.Add64", "math/bits.Sub64", "internal/abi.NoEscape", "internal/bytealg.MakeNoZero"], unfollowed := true, recurses := true, named := ["internal/bytealg.MaxLen", "math/bits.divideError", "math/bits.overflowError", "internal/strconv.uint64pow10", "math/bits.deBruijn32tab", "math/bits.deBruijn64tab"], apart := false, laid := [("math/bits.deBruijn32tab", laid_math_bits_deBruijn32tab), ("math/bits.deBruijn64tab", laid_math_bits_deBruijn64tab), ("internal/strconv.uint64pow10", laid_internal_strconv_uint64pow10)] }
def SkyHalfSaid : Prop := skyHalfRow.holds Tryz.pinned (OpenSpec.ofChange skyHalfSpec)

/-- ITS FALSE NEIGHBOUR: 'it returns false'. Refute it at one input. -/
def skyHalfWrong : ChangeSpec := { name := "skyHalf", fn := fun _ => fun
  | [d1, d2, d3] => { results := [.lit (.bool false)], args := [d1, d2, d3] }
  | _ => none }
def SkyHalfWrongFalsely : Prop := skyHalfRow.holds Tryz.pinned (OpenSpec.ofChange skyHalfWrong)

/-- 'ringdownlaw09.SkyKnown': WHATEVER THE INPUT: true; the input reads as it did. -/
def skyKnownSpec : ChangeSpec := { name := "skyKnown", fn := fun _ => fun
  | [] => { results := [.lit (.bool true)], args := [] }
  | _ => none }
def skyKnownRow : OpenClaim := { program := "ytkmmplbbefijaaagreatdoor", sum := "b9abdc9e544816b691681966ae98a308c29b0b4e4d55cb9c7a6457243e468aa3", func := "ringdown/ringdownlaw09.SkyKnown", spec := "skyKnown", inPlace := ["math/bits.Add64", "math/bits.Sub64", "internal/abi.NoEscape", "internal/bytealg.MakeNoZero", "internal/bytealg.IndexByteString", "internal/bytealg.IndexString"], unfollowed := true, recurses := true, named := ["math/bits.divideError", "math/bits.overflowError", "internal/strconv.uint64pow10", "math/bits.deBruijn32tab", "math/bits.deBruijn64tab", "internal/bytealg.MaxLen"], apart := false, laid := [("math/bits.deBruijn32tab", laid_math_bits_deBruijn32tab), ("math/bits.deBruijn64tab", laid_math_bits_deBruijn64tab), ("internal/strconv.uint64pow10", laid_internal_strconv_uint64pow10)] }
def SkyKnownSaid : Prop := skyKnownRow.holds Tryz.pinned (OpenSpec.ofChange skyKnownSpec)

/-- ITS FALSE NEIGHBOUR: 'it returns false'. Refute it at one input. -/
def skyKnownWrong : ChangeSpec := { name := "skyKnown", fn := fun _ => fun
  | [] => { results := [.lit (.bool false)], args := [] }
  | _ => none }
def SkyKnownWrongFalsely : Prop := skyKnownRow.holds Tryz.pinned (OpenSpec.ofChange skyKnownWrong)

/- THE SECOND FORM. 'bulk': how many values and letters a reading holds, each counted each time it is reached (what is shared counts as often as it is met; a slice's spare places count too). A statement '..UptoSaid' is the law's where the arguments, and the package variables that the reading takes, are together of bulk at most 1048576: NARROWER than '..Said'. Prove '..Said' where nothing that the law and all that it calls make is longer than what came in: it says more and counts as full. Else prove '..UptoSaid'. A law counts once. -/
mutual
def uptoBulk {H : Type} : DataW H → Nat
  | .lit (.string bytes) => bytes.length + 1
  | .lit _ => 1
  | .nil => 1
  | .ptr d => uptoBulk d + 1
  | .slice elems spare => uptoBulkAll elems + uptoBulkAll spare + 1
  | .agg parts => uptoBulkAll parts + 1
  | .iface _ d => uptoBulk d + 1
  | .map entries => uptoBulkEntries entries + 1
  | .held _ => 1
def uptoBulkAll {H : Type} : List (DataW H) → Nat
  | [] => 0
  | d :: r => uptoBulk d + uptoBulkAll r
def uptoBulkEntries {H : Type} : List (Lit × DataW H) → Nat
  | [] => 0
  | x :: r => uptoBulkEntry x + uptoBulkEntries r
def uptoBulkEntry {H : Type} : Lit × DataW H → Nat
  | (.string bytes, d) => bytes.length + uptoBulk d + 1
  | (_, d) => uptoBulk d + 1
 end
def uptoSmall : (H : Type) → List (DataW H) → Bool := fun _ ds => decide (uptoBulkAll ds ≤ 1048576)
def OpenSpec.upto (s : _root_.Go.ChangeSpec) : _root_.Go.OpenSpec := { _root_.Go.OpenSpec.ofChange s with cond := some uptoSmall }

/-- 'ringdownlaw09.SkyCells', WHERE WHAT IT READS IS OF BULK AT MOST 1048576: true; the input reads as it did. -/
def skyCellsUptoRow : OpenClaim := { program := "ytkmmplbbefijaaagreatdoor", sum := "b9abdc9e544816b691681966ae98a308c29b0b4e4d55cb9c7a6457243e468aa3", func := "ringdown/ringdownlaw09.SkyCells", spec := "skyCells", inPlace := ["internal/bytealg.IndexByteString", "internal/bytealg.IndexString", "math/bits.Add64", "math/bits.Sub64", "internal/abi.NoEscape", "internal/bytealg.MakeNoZero"], unfollowed := true, recurses := true, named := ["internal/bytealg.MaxLen", "math/bits.divideError", "math/bits.overflowError", "internal/strconv.uint64pow10", "math/bits.deBruijn32tab", "math/bits.deBruijn64tab"], apart := false, laid := [("math/bits.deBruijn32tab", laid_math_bits_deBruijn32tab), ("math/bits.deBruijn64tab", laid_math_bits_deBruijn64tab), ("internal/strconv.uint64pow10", laid_internal_strconv_uint64pow10)], narrowed := true }
def SkyCellsUptoSaid : Prop := skyCellsUptoRow.holds Tryz.pinned (OpenSpec.upto skyCellsSpec)

/-- 'ringdownlaw09.SkyRings', WHERE WHAT IT READS IS OF BULK AT MOST 1048576: true; the input reads as it did. -/
def skyRingsUptoRow : OpenClaim := { program := "ytkmmplbbefijaaagreatdoor", sum := "b9abdc9e544816b691681966ae98a308c29b0b4e4d55cb9c7a6457243e468aa3", func := "ringdown/ringdownlaw09.SkyRings", spec := "skyRings", inPlace := ["internal/bytealg.IndexByteString", "internal/bytealg.IndexString", "math/bits.Add64", "math/bits.Sub64", "internal/abi.NoEscape", "internal/bytealg.MakeNoZero"], unfollowed := true, recurses := true, named := ["internal/bytealg.MaxLen", "math/bits.divideError", "math/bits.overflowError", "internal/strconv.uint64pow10", "math/bits.deBruijn32tab", "math/bits.deBruijn64tab"], apart := false, laid := [("math/bits.deBruijn32tab", laid_math_bits_deBruijn32tab), ("math/bits.deBruijn64tab", laid_math_bits_deBruijn64tab), ("internal/strconv.uint64pow10", laid_internal_strconv_uint64pow10)], narrowed := true }
def SkyRingsUptoSaid : Prop := skyRingsUptoRow.holds Tryz.pinned (OpenSpec.upto skyRingsSpec)

/-- 'ringdownlaw09.SkyScopes', WHERE WHAT IT READS IS OF BULK AT MOST 1048576: true; the input reads as it did. -/
def skyScopesUptoRow : OpenClaim := { program := "ytkmmplbbefijaaagreatdoor", sum := "b9abdc9e544816b691681966ae98a308c29b0b4e4d55cb9c7a6457243e468aa3", func := "ringdown/ringdownlaw09.SkyScopes", spec := "skyScopes", inPlace := ["internal/bytealg.IndexByteString", "internal/bytealg.IndexString", "math/bits.Add64", "math/bits.Sub64", "internal/abi.NoEscape", "internal/bytealg.MakeNoZero"], unfollowed := true, recurses := true, named := ["internal/bytealg.MaxLen", "math/bits.divideError", "math/bits.overflowError", "internal/strconv.uint64pow10", "math/bits.deBruijn32tab", "math/bits.deBruijn64tab"], apart := false, laid := [("math/bits.deBruijn32tab", laid_math_bits_deBruijn32tab), ("math/bits.deBruijn64tab", laid_math_bits_deBruijn64tab), ("internal/strconv.uint64pow10", laid_internal_strconv_uint64pow10)], narrowed := true }
def SkyScopesUptoSaid : Prop := skyScopesUptoRow.holds Tryz.pinned (OpenSpec.upto skyScopesSpec)

/-- 'ringdownlaw09.SkyPlans', WHERE WHAT IT READS IS OF BULK AT MOST 1048576: true; the input reads as it did. -/
def skyPlansUptoRow : OpenClaim := { program := "ytkmmplbbefijaaagreatdoor", sum := "b9abdc9e544816b691681966ae98a308c29b0b4e4d55cb9c7a6457243e468aa3", func := "ringdown/ringdownlaw09.SkyPlans", spec := "skyPlans", inPlace := ["internal/bytealg.IndexByteString", "internal/bytealg.IndexString", "math/bits.Add64", "math/bits.Sub64", "internal/abi.NoEscape", "internal/bytealg.MakeNoZero"], unfollowed := true, recurses := true, named := ["internal/bytealg.MaxLen", "math/bits.divideError", "math/bits.overflowError", "internal/strconv.uint64pow10", "math/bits.deBruijn32tab", "math/bits.deBruijn64tab"], apart := false, laid := [("math/bits.deBruijn32tab", laid_math_bits_deBruijn32tab), ("math/bits.deBruijn64tab", laid_math_bits_deBruijn64tab), ("internal/strconv.uint64pow10", laid_internal_strconv_uint64pow10)], narrowed := true }
def SkyPlansUptoSaid : Prop := skyPlansUptoRow.holds Tryz.pinned (OpenSpec.upto skyPlansSpec)

/-- 'ringdownlaw09.SkyHome', WHERE WHAT IT READS IS OF BULK AT MOST 1048576: true; the input reads as it did. -/
def skyHomeUptoRow : OpenClaim := { program := "ytkmmplbbefijaaagreatdoor", sum := "b9abdc9e544816b691681966ae98a308c29b0b4e4d55cb9c7a6457243e468aa3", func := "ringdown/ringdownlaw09.SkyHome", spec := "skyHome", inPlace := ["internal/bytealg.IndexByteString", "internal/bytealg.IndexString", "math/bits.Add64", "math/bits.Sub64", "internal/abi.NoEscape", "internal/bytealg.MakeNoZero"], unfollowed := true, recurses := true, named := ["internal/bytealg.MaxLen", "math/bits.divideError", "math/bits.overflowError", "internal/strconv.uint64pow10", "math/bits.deBruijn32tab", "math/bits.deBruijn64tab"], apart := false, laid := [("math/bits.deBruijn32tab", laid_math_bits_deBruijn32tab), ("math/bits.deBruijn64tab", laid_math_bits_deBruijn64tab), ("internal/strconv.uint64pow10", laid_internal_strconv_uint64pow10)], narrowed := true }
def SkyHomeUptoSaid : Prop := skyHomeUptoRow.holds Tryz.pinned (OpenSpec.upto skyHomeSpec)

/-- 'ringdownlaw09.SkyTrue', WHERE WHAT IT READS IS OF BULK AT MOST 1048576: true; the input reads as it did. -/
def skyTrueUptoRow : OpenClaim := { program := "ytkmmplbbefijaaagreatdoor", sum := "b9abdc9e544816b691681966ae98a308c29b0b4e4d55cb9c7a6457243e468aa3", func := "ringdown/ringdownlaw09.SkyTrue", spec := "skyTrue", inPlace := ["internal/bytealg.IndexByteString", "internal/bytealg.IndexString", "math/bits.Add64", "math/bits.Sub64", "internal/abi.NoEscape", "internal/bytealg.MakeNoZero"], unfollowed := true, recurses := true, named := ["internal/bytealg.MaxLen", "math/bits.divideError", "math/bits.overflowError", "internal/strconv.uint64pow10", "math/bits.deBruijn32tab", "math/bits.deBruijn64tab"], apart := false, laid := [("math/bits.deBruijn32tab", laid_math_bits_deBruijn32tab), ("math/bits.deBruijn64tab", laid_math_bits_deBruijn64tab), ("internal/strconv.uint64pow10", laid_internal_strconv_uint64pow10)], narrowed := true }
def SkyTrueUptoSaid : Prop := skyTrueUptoRow.holds Tryz.pinned (OpenSpec.upto skyTrueSpec)

/-- 'ringdownlaw09.SkyAllRings', WHERE WHAT IT READS IS OF BULK AT MOST 1048576: true; the input reads as it did. -/
def skyAllRingsUptoRow : OpenClaim := { program := "ytkmmplbbefijaaagreatdoor", sum := "b9abdc9e544816b691681966ae98a308c29b0b4e4d55cb9c7a6457243e468aa3", func := "ringdown/ringdownlaw09.SkyAllRings", spec := "skyAllRings", inPlace := ["internal/bytealg.IndexByteString", "internal/bytealg.IndexString", "math/bits.Add64", "math/bits.Sub64", "internal/abi.NoEscape", "internal/bytealg.MakeNoZero"], unfollowed := true, recurses := true, named := ["internal/bytealg.MaxLen", "math/bits.divideError", "math/bits.overflowError", "internal/strconv.uint64pow10", "math/bits.deBruijn32tab", "math/bits.deBruijn64tab"], apart := false, laid := [("math/bits.deBruijn32tab", laid_math_bits_deBruijn32tab), ("math/bits.deBruijn64tab", laid_math_bits_deBruijn64tab), ("internal/strconv.uint64pow10", laid_internal_strconv_uint64pow10)], narrowed := true }
def SkyAllRingsUptoSaid : Prop := skyAllRingsUptoRow.holds Tryz.pinned (OpenSpec.upto skyAllRingsSpec)

/-- 'ringdownlaw09.SkyHalf', WHERE WHAT IT READS IS OF BULK AT MOST 1048576: true; the input reads as it did. -/
def skyHalfUptoRow : OpenClaim := { program := "ytkmmplbbefijaaagreatdoor", sum := "b9abdc9e544816b691681966ae98a308c29b0b4e4d55cb9c7a6457243e468aa3", func := "ringdown/ringdownlaw09.SkyHalf", spec := "skyHalf", inPlace := ["internal/bytealg.IndexByteString", "internal/bytealg.IndexString", "math/bits.Add64", "math/bits.Sub64", "internal/abi.NoEscape", "internal/bytealg.MakeNoZero"], unfollowed := true, recurses := true, named := ["internal/bytealg.MaxLen", "math/bits.divideError", "math/bits.overflowError", "internal/strconv.uint64pow10", "math/bits.deBruijn32tab", "math/bits.deBruijn64tab"], apart := false, laid := [("math/bits.deBruijn32tab", laid_math_bits_deBruijn32tab), ("math/bits.deBruijn64tab", laid_math_bits_deBruijn64tab), ("internal/strconv.uint64pow10", laid_internal_strconv_uint64pow10)], narrowed := true }
def SkyHalfUptoSaid : Prop := skyHalfUptoRow.holds Tryz.pinned (OpenSpec.upto skyHalfSpec)

/-- 'ringdownlaw09.SkyKnown', WHERE WHAT IT READS IS OF BULK AT MOST 1048576: true; the input reads as it did. -/
def skyKnownUptoRow : OpenClaim := { program := "ytkmmplbbefijaaagreatdoor", sum := "b9abdc9e544816b691681966ae98a308c29b0b4e4d55cb9c7a6457243e468aa3", func := "ringdown/ringdownlaw09.SkyKnown", spec := "skyKnown", inPlace := ["math/bits.Add64", "math/bits.Sub64", "internal/abi.NoEscape", "internal/bytealg.MakeNoZero", "internal/bytealg.IndexByteString", "internal/bytealg.IndexString"], unfollowed := true, recurses := true, named := ["math/bits.divideError", "math/bits.overflowError", "internal/strconv.uint64pow10", "math/bits.deBruijn32tab", "math/bits.deBruijn64tab", "internal/bytealg.MaxLen"], apart := false, laid := [("math/bits.deBruijn32tab", laid_math_bits_deBruijn32tab), ("math/bits.deBruijn64tab", laid_math_bits_deBruijn64tab), ("internal/strconv.uint64pow10", laid_internal_strconv_uint64pow10)], narrowed := true }
def SkyKnownUptoSaid : Prop := skyKnownUptoRow.holds Tryz.pinned (OpenSpec.upto skyKnownSpec)

end Rows
end Go.Proofs.YtkmmplbbefijaaaGreatDoor
