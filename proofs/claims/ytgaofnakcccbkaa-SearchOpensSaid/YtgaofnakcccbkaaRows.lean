/-
  No cell of these rows narrows 'for every input' (looked for: loops, veiled, ifaces, maps, wideKeys, modest, calm, conditions, laid).
  DERIVED. THE GIVEN ROWS OF THIS SEAT. 8 by the template 'for every input the law returns true; each argument reads behind the call as it read before'; 0 by the template 'total and deterministic' (their statements: YtgaofnakcccbkaaTotals.lean).
  GIVEN WITH THE SEED: the statements are not yours to turn. If you find one false, say at which input.
  Laid BY PROGRAM, IN A SANDBOX (cutbox-rows.mjs): the forced cells as the released guide's own fill.sh prints them over the translation fd40d26051be28fa… (all of the seat's roots in one cut). By AI agents, Wed Nov 11 2026. No macro, syntax, notation, axiom, sorry.
-/
import Derived.Test.YtgaofnakcccbkaaChecked
import GoSem.Claim
import GoSem.ClaimJoined
import GoSem.ClaimMapViews
import Derived.JoinedTies
import Derived.KernelRfl
namespace Go.Proofs.Ytgaofnakcccbkaa
/- THE CELL 'sum', in the pinned program and in every row, IS THE sha256 OF THE DUMP (.gsa) THAT YtgaofnakcccbkaaProg.lean LOADS. Nothing in Lean hashes anything: it is a label: what it is worth is what the hold of that sum in a sandbox is worth. -/
noncomputable def Try.pinned : Pinned := { name := "ytgaofnakcccbkaa", sum := "fd40d26051be28fa22ae9a60edfd1a54ec3f3ac42249e9882893e920751f0801", checked := Try.checked }
namespace Rows
def none {H : Type} : Left H := { results := [], args := [] }

/-- 'ringdownlaw08.SearchPower': WHATEVER THE INPUT: true; the input reads as it did. -/
def searchPowerSpec : ChangeSpec := { name := "searchPower", fn := fun _ => fun
  | [d] => { results := [.lit (.bool true)], args := [d] }
  | _ => none }
def searchPowerRow : OpenClaim := { program := "ytgaofnakcccbkaa", sum := "fd40d26051be28fa22ae9a60edfd1a54ec3f3ac42249e9882893e920751f0801", func := "ringdown/ringdownlaw08.SearchPower", spec := "searchPower", unfollowed := true, recurses := true, apart := false }
def SearchPowerSaid : Prop := searchPowerRow.holds Try.pinned (OpenSpec.ofChange searchPowerSpec)

/-- ITS FALSE NEIGHBOUR: 'it returns false'. Refute it at one input. -/
def searchPowerWrong : ChangeSpec := { name := "searchPower", fn := fun _ => fun
  | [d] => { results := [.lit (.bool false)], args := [d] }
  | _ => none }
def SearchPowerWrongFalsely : Prop := searchPowerRow.holds Try.pinned (OpenSpec.ofChange searchPowerWrong)

/-- 'ringdownlaw08.SearchCandidates': WHATEVER THE INPUT: true; the input reads as it did. -/
def searchCandidatesSpec : ChangeSpec := { name := "searchCandidates", fn := fun _ => fun
  | [d1, d2, d3] => { results := [.lit (.bool true)], args := [d1, d2, d3] }
  | _ => none }
def searchCandidatesRow : OpenClaim := { program := "ytgaofnakcccbkaa", sum := "fd40d26051be28fa22ae9a60edfd1a54ec3f3ac42249e9882893e920751f0801", func := "ringdown/ringdownlaw08.SearchCandidates", spec := "searchCandidates", unfollowed := true, recurses := true, apart := false }
def SearchCandidatesSaid : Prop := searchCandidatesRow.holds Try.pinned (OpenSpec.ofChange searchCandidatesSpec)

/-- ITS FALSE NEIGHBOUR: 'it returns false'. Refute it at one input. -/
def searchCandidatesWrong : ChangeSpec := { name := "searchCandidates", fn := fun _ => fun
  | [d1, d2, d3] => { results := [.lit (.bool false)], args := [d1, d2, d3] }
  | _ => none }
def SearchCandidatesWrongFalsely : Prop := searchCandidatesRow.holds Try.pinned (OpenSpec.ofChange searchCandidatesWrong)

/-- 'ringdownlaw08.SearchMoves': WHATEVER THE INPUT: true; the input reads as it did. -/
def searchMovesSpec : ChangeSpec := { name := "searchMoves", fn := fun _ => fun
  | [d1, d2, d3] => { results := [.lit (.bool true)], args := [d1, d2, d3] }
  | _ => none }
def searchMovesRow : OpenClaim := { program := "ytgaofnakcccbkaa", sum := "fd40d26051be28fa22ae9a60edfd1a54ec3f3ac42249e9882893e920751f0801", func := "ringdown/ringdownlaw08.SearchMoves", spec := "searchMoves", unfollowed := true, recurses := true, apart := false }
def SearchMovesSaid : Prop := searchMovesRow.holds Try.pinned (OpenSpec.ofChange searchMovesSpec)

/-- ITS FALSE NEIGHBOUR: 'it returns false'. Refute it at one input. -/
def searchMovesWrong : ChangeSpec := { name := "searchMoves", fn := fun _ => fun
  | [d1, d2, d3] => { results := [.lit (.bool false)], args := [d1, d2, d3] }
  | _ => none }
def SearchMovesWrongFalsely : Prop := searchMovesRow.holds Try.pinned (OpenSpec.ofChange searchMovesWrong)

/-- 'ringdownlaw08.SearchAlarm': WHATEVER THE INPUT: true; the input reads as it did. -/
def searchAlarmSpec : ChangeSpec := { name := "searchAlarm", fn := fun _ => fun
  | [d1, d2, d3] => { results := [.lit (.bool true)], args := [d1, d2, d3] }
  | _ => none }
def searchAlarmRow : OpenClaim := { program := "ytgaofnakcccbkaa", sum := "fd40d26051be28fa22ae9a60edfd1a54ec3f3ac42249e9882893e920751f0801", func := "ringdown/ringdownlaw08.SearchAlarm", spec := "searchAlarm", unfollowed := true, recurses := true, apart := false }
def SearchAlarmSaid : Prop := searchAlarmRow.holds Try.pinned (OpenSpec.ofChange searchAlarmSpec)

/-- ITS FALSE NEIGHBOUR: 'it returns false'. Refute it at one input. -/
def searchAlarmWrong : ChangeSpec := { name := "searchAlarm", fn := fun _ => fun
  | [d1, d2, d3] => { results := [.lit (.bool false)], args := [d1, d2, d3] }
  | _ => none }
def SearchAlarmWrongFalsely : Prop := searchAlarmRow.holds Try.pinned (OpenSpec.ofChange searchAlarmWrong)

/-- 'ringdownlaw08.SearchGrows': WHATEVER THE INPUT: true; the input reads as it did. -/
def searchGrowsSpec : ChangeSpec := { name := "searchGrows", fn := fun _ => fun
  | [d1, d2, d3] => { results := [.lit (.bool true)], args := [d1, d2, d3] }
  | _ => none }
def searchGrowsRow : OpenClaim := { program := "ytgaofnakcccbkaa", sum := "fd40d26051be28fa22ae9a60edfd1a54ec3f3ac42249e9882893e920751f0801", func := "ringdown/ringdownlaw08.SearchGrows", spec := "searchGrows", unfollowed := true, recurses := true, apart := false }
def SearchGrowsSaid : Prop := searchGrowsRow.holds Try.pinned (OpenSpec.ofChange searchGrowsSpec)

/-- ITS FALSE NEIGHBOUR: 'it returns false'. Refute it at one input. -/
def searchGrowsWrong : ChangeSpec := { name := "searchGrows", fn := fun _ => fun
  | [d1, d2, d3] => { results := [.lit (.bool false)], args := [d1, d2, d3] }
  | _ => none }
def SearchGrowsWrongFalsely : Prop := searchGrowsRow.holds Try.pinned (OpenSpec.ofChange searchGrowsWrong)

/-- 'ringdownlaw08.SearchHot': WHATEVER THE INPUT: true; the input reads as it did. -/
def searchHotSpec : ChangeSpec := { name := "searchHot", fn := fun _ => fun
  | [d1, d2, d3] => { results := [.lit (.bool true)], args := [d1, d2, d3] }
  | _ => none }
def searchHotRow : OpenClaim := { program := "ytgaofnakcccbkaa", sum := "fd40d26051be28fa22ae9a60edfd1a54ec3f3ac42249e9882893e920751f0801", func := "ringdown/ringdownlaw08.SearchHot", spec := "searchHot", unfollowed := true, recurses := true, apart := false }
def SearchHotSaid : Prop := searchHotRow.holds Try.pinned (OpenSpec.ofChange searchHotSpec)

/-- ITS FALSE NEIGHBOUR: 'it returns false'. Refute it at one input. -/
def searchHotWrong : ChangeSpec := { name := "searchHot", fn := fun _ => fun
  | [d1, d2, d3] => { results := [.lit (.bool false)], args := [d1, d2, d3] }
  | _ => none }
def SearchHotWrongFalsely : Prop := searchHotRow.holds Try.pinned (OpenSpec.ofChange searchHotWrong)

/-- 'ringdownlaw08.SearchLouder': WHATEVER THE INPUT: true; the input reads as it did. -/
def searchLouderSpec : ChangeSpec := { name := "searchLouder", fn := fun _ => fun
  | [d1, d2, d3] => { results := [.lit (.bool true)], args := [d1, d2, d3] }
  | _ => none }
def searchLouderRow : OpenClaim := { program := "ytgaofnakcccbkaa", sum := "fd40d26051be28fa22ae9a60edfd1a54ec3f3ac42249e9882893e920751f0801", func := "ringdown/ringdownlaw08.SearchLouder", spec := "searchLouder", unfollowed := true, recurses := true, apart := false }
def SearchLouderSaid : Prop := searchLouderRow.holds Try.pinned (OpenSpec.ofChange searchLouderSpec)

/-- ITS FALSE NEIGHBOUR: 'it returns false'. Refute it at one input. -/
def searchLouderWrong : ChangeSpec := { name := "searchLouder", fn := fun _ => fun
  | [d1, d2, d3] => { results := [.lit (.bool false)], args := [d1, d2, d3] }
  | _ => none }
def SearchLouderWrongFalsely : Prop := searchLouderRow.holds Try.pinned (OpenSpec.ofChange searchLouderWrong)

/-- 'ringdownlaw08.SearchOpens': WHATEVER THE INPUT: true; the input reads as it did. -/
def searchOpensSpec : ChangeSpec := { name := "searchOpens", fn := fun _ => fun
  | [d1, d2, d3] => { results := [.lit (.bool true)], args := [d1, d2, d3] }
  | _ => none }
def searchOpensRow : OpenClaim := { program := "ytgaofnakcccbkaa", sum := "fd40d26051be28fa22ae9a60edfd1a54ec3f3ac42249e9882893e920751f0801", func := "ringdown/ringdownlaw08.SearchOpens", spec := "searchOpens", unfollowed := true, recurses := true, apart := false }
def SearchOpensSaid : Prop := searchOpensRow.holds Try.pinned (OpenSpec.ofChange searchOpensSpec)

/-- ITS FALSE NEIGHBOUR: 'it returns false'. Refute it at one input. -/
def searchOpensWrong : ChangeSpec := { name := "searchOpens", fn := fun _ => fun
  | [d1, d2, d3] => { results := [.lit (.bool false)], args := [d1, d2, d3] }
  | _ => none }
def SearchOpensWrongFalsely : Prop := searchOpensRow.holds Try.pinned (OpenSpec.ofChange searchOpensWrong)

/- THE SECOND FORM. 'bulk': how many values and letters a reading holds, each counted each time it is reached (what is shared counts as often as it is met; a slice's spare places count too). A statement '..UptoSaid' is the law's where the arguments, and the package variables that the reading takes, are together of bulk at most 1048576: NARROWER than '..Said'. Prove '..Said' where nothing that the law and all that it calls make is longer than what came in: it says more and counts as full. Else prove '..UptoSaid'. A law counts once. -/
mutual
def uptoBulk {H : Type} : DataW H → Nat
  | .lit (.string bytes) => bytes.length + 1
  | .lit _ => 1
  | .nil => 1
  | .ptr d => uptoBulk d + 1
  | .slice elems spare => uptoBulkAll elems + uptoBulkAll spare + 1
  | .agg parts => uptoBulkAll parts + 1
  | .iface _ d => uptoBulk d + 1
  | .map entries => uptoBulkEntries entries + 1
  | .held _ => 1
def uptoBulkAll {H : Type} : List (DataW H) → Nat
  | [] => 0
  | d :: r => uptoBulk d + uptoBulkAll r
def uptoBulkEntries {H : Type} : List (Lit × DataW H) → Nat
  | [] => 0
  | x :: r => uptoBulkEntry x + uptoBulkEntries r
def uptoBulkEntry {H : Type} : Lit × DataW H → Nat
  | (.string bytes, d) => bytes.length + uptoBulk d + 1
  | (_, d) => uptoBulk d + 1
 end
def uptoSmall : (H : Type) → List (DataW H) → Bool := fun _ ds => decide (uptoBulkAll ds ≤ 1048576)
def OpenSpec.upto (s : _root_.Go.ChangeSpec) : _root_.Go.OpenSpec := { _root_.Go.OpenSpec.ofChange s with cond := some uptoSmall }

/-- 'ringdownlaw08.SearchPower', WHERE WHAT IT READS IS OF BULK AT MOST 1048576: true; the input reads as it did. -/
def searchPowerUptoRow : OpenClaim := { program := "ytgaofnakcccbkaa", sum := "fd40d26051be28fa22ae9a60edfd1a54ec3f3ac42249e9882893e920751f0801", func := "ringdown/ringdownlaw08.SearchPower", spec := "searchPower", unfollowed := true, recurses := true, apart := false, narrowed := true }
def SearchPowerUptoSaid : Prop := searchPowerUptoRow.holds Try.pinned (OpenSpec.upto searchPowerSpec)

/-- 'ringdownlaw08.SearchCandidates', WHERE WHAT IT READS IS OF BULK AT MOST 1048576: true; the input reads as it did. -/
def searchCandidatesUptoRow : OpenClaim := { program := "ytgaofnakcccbkaa", sum := "fd40d26051be28fa22ae9a60edfd1a54ec3f3ac42249e9882893e920751f0801", func := "ringdown/ringdownlaw08.SearchCandidates", spec := "searchCandidates", unfollowed := true, recurses := true, apart := false, narrowed := true }
def SearchCandidatesUptoSaid : Prop := searchCandidatesUptoRow.holds Try.pinned (OpenSpec.upto searchCandidatesSpec)

/-- 'ringdownlaw08.SearchMoves', WHERE WHAT IT READS IS OF BULK AT MOST 1048576: true; the input reads as it did. -/
def searchMovesUptoRow : OpenClaim := { program := "ytgaofnakcccbkaa", sum := "fd40d26051be28fa22ae9a60edfd1a54ec3f3ac42249e9882893e920751f0801", func := "ringdown/ringdownlaw08.SearchMoves", spec := "searchMoves", unfollowed := true, recurses := true, apart := false, narrowed := true }
def SearchMovesUptoSaid : Prop := searchMovesUptoRow.holds Try.pinned (OpenSpec.upto searchMovesSpec)

/-- 'ringdownlaw08.SearchAlarm', WHERE WHAT IT READS IS OF BULK AT MOST 1048576: true; the input reads as it did. -/
def searchAlarmUptoRow : OpenClaim := { program := "ytgaofnakcccbkaa", sum := "fd40d26051be28fa22ae9a60edfd1a54ec3f3ac42249e9882893e920751f0801", func := "ringdown/ringdownlaw08.SearchAlarm", spec := "searchAlarm", unfollowed := true, recurses := true, apart := false, narrowed := true }
def SearchAlarmUptoSaid : Prop := searchAlarmUptoRow.holds Try.pinned (OpenSpec.upto searchAlarmSpec)

/-- 'ringdownlaw08.SearchGrows', WHERE WHAT IT READS IS OF BULK AT MOST 1048576: true; the input reads as it did. -/
def searchGrowsUptoRow : OpenClaim := { program := "ytgaofnakcccbkaa", sum := "fd40d26051be28fa22ae9a60edfd1a54ec3f3ac42249e9882893e920751f0801", func := "ringdown/ringdownlaw08.SearchGrows", spec := "searchGrows", unfollowed := true, recurses := true, apart := false, narrowed := true }
def SearchGrowsUptoSaid : Prop := searchGrowsUptoRow.holds Try.pinned (OpenSpec.upto searchGrowsSpec)

/-- 'ringdownlaw08.SearchHot', WHERE WHAT IT READS IS OF BULK AT MOST 1048576: true; the input reads as it did. -/
def searchHotUptoRow : OpenClaim := { program := "ytgaofnakcccbkaa", sum := "fd40d26051be28fa22ae9a60edfd1a54ec3f3ac42249e9882893e920751f0801", func := "ringdown/ringdownlaw08.SearchHot", spec := "searchHot", unfollowed := true, recurses := true, apart := false, narrowed := true }
def SearchHotUptoSaid : Prop := searchHotUptoRow.holds Try.pinned (OpenSpec.upto searchHotSpec)

/-- 'ringdownlaw08.SearchLouder', WHERE WHAT IT READS IS OF BULK AT MOST 1048576: true; the input reads as it did. -/
def searchLouderUptoRow : OpenClaim := { program := "ytgaofnakcccbkaa", sum := "fd40d26051be28fa22ae9a60edfd1a54ec3f3ac42249e9882893e920751f0801", func := "ringdown/ringdownlaw08.SearchLouder", spec := "searchLouder", unfollowed := true, recurses := true, apart := false, narrowed := true }
def SearchLouderUptoSaid : Prop := searchLouderUptoRow.holds Try.pinned (OpenSpec.upto searchLouderSpec)

/-- 'ringdownlaw08.SearchOpens', WHERE WHAT IT READS IS OF BULK AT MOST 1048576: true; the input reads as it did. -/
def searchOpensUptoRow : OpenClaim := { program := "ytgaofnakcccbkaa", sum := "fd40d26051be28fa22ae9a60edfd1a54ec3f3ac42249e9882893e920751f0801", func := "ringdown/ringdownlaw08.SearchOpens", spec := "searchOpens", unfollowed := true, recurses := true, apart := false, narrowed := true }
def SearchOpensUptoSaid : Prop := searchOpensUptoRow.holds Try.pinned (OpenSpec.upto searchOpensSpec)

end Rows
end Go.Proofs.Ytgaofnakcccbkaa
