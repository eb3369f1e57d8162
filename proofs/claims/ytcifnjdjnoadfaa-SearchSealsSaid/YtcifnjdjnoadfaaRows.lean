/-
  No cell of these rows narrows 'for every input' (looked for: loops, veiled, ifaces, maps, wideKeys, modest, calm, conditions, laid).
  DERIVED. THE GIVEN ROWS OF THIS SEAT. 12 by the template 'for every input the law returns true; each argument reads behind the call as it read before'; 0 by the template 'total and deterministic' (their statements: YtcifnjdjnoadfaaTotals.lean).
  GIVEN WITH THE SEED: the statements are not yours to turn. If you find one false, say at which input.
  Laid BY PROGRAM, IN A SANDBOX (cutbox-rows.mjs): the forced cells as the released guide's own fill.sh prints them over the translation 1d9f21fc72b1ca9c… (all of the seat's roots in one cut). By AI agents, Wed Nov 11 2026. No macro, syntax, notation, axiom, sorry.
-/
import Derived.Test.YtcifnjdjnoadfaaChecked
import GoSem.Claim
import GoSem.ClaimJoined
import GoSem.ClaimMapViews
import Derived.JoinedTies
import Derived.KernelRfl
namespace Go.Proofs.Ytcifnjdjnoadfaa
/- THE CELL 'sum', in the pinned program and in every row, IS THE sha256 OF THE DUMP (.gsa) THAT YtcifnjdjnoadfaaProg.lean LOADS. Nothing in Lean hashes anything: it is a label: what it is worth is what the hold of that sum in a sandbox is worth. -/
noncomputable def Try.pinned : Pinned := { name := "ytcifnjdjnoadfaa", sum := "1d9f21fc72b1ca9c48c4b2660324d45f185171a391040abd02a89bb93e665d3d", checked := Try.checked }
namespace Rows
def none {H : Type} : Left H := { results := [], args := [] }

/-- 'ringdownlaw08.SearchCoincides': WHATEVER THE INPUT: true; the input reads as it did. -/
def searchCoincidesSpec : ChangeSpec := { name := "searchCoincides", fn := fun _ => fun
  | [d1, d2, d3] => { results := [.lit (.bool true)], args := [d1, d2, d3] }
  | _ => none }
def searchCoincidesRow : OpenClaim := { program := "ytcifnjdjnoadfaa", sum := "1d9f21fc72b1ca9c48c4b2660324d45f185171a391040abd02a89bb93e665d3d", func := "ringdown/ringdownlaw08.SearchCoincides", spec := "searchCoincides", unfollowed := true, recurses := true, apart := false }
def SearchCoincidesSaid : Prop := searchCoincidesRow.holds Try.pinned (OpenSpec.ofChange searchCoincidesSpec)

/-- ITS FALSE NEIGHBOUR: 'it returns false'. Refute it at one input. -/
def searchCoincidesWrong : ChangeSpec := { name := "searchCoincides", fn := fun _ => fun
  | [d1, d2, d3] => { results := [.lit (.bool false)], args := [d1, d2, d3] }
  | _ => none }
def SearchCoincidesWrongFalsely : Prop := searchCoincidesRow.holds Try.pinned (OpenSpec.ofChange searchCoincidesWrong)

/-- 'ringdownlaw08.SearchSlides': WHATEVER THE INPUT: true; the input reads as it did. -/
def searchSlidesSpec : ChangeSpec := { name := "searchSlides", fn := fun _ => fun
  | [d1, d2, d3] => { results := [.lit (.bool true)], args := [d1, d2, d3] }
  | _ => none }
def searchSlidesRow : OpenClaim := { program := "ytcifnjdjnoadfaa", sum := "1d9f21fc72b1ca9c48c4b2660324d45f185171a391040abd02a89bb93e665d3d", func := "ringdown/ringdownlaw08.SearchSlides", spec := "searchSlides", unfollowed := true, recurses := true, apart := false }
def SearchSlidesSaid : Prop := searchSlidesRow.holds Try.pinned (OpenSpec.ofChange searchSlidesSpec)

/-- ITS FALSE NEIGHBOUR: 'it returns false'. Refute it at one input. -/
def searchSlidesWrong : ChangeSpec := { name := "searchSlides", fn := fun _ => fun
  | [d1, d2, d3] => { results := [.lit (.bool false)], args := [d1, d2, d3] }
  | _ => none }
def SearchSlidesWrongFalsely : Prop := searchSlidesRow.holds Try.pinned (OpenSpec.ofChange searchSlidesWrong)

/-- 'ringdownlaw08.SearchChances': WHATEVER THE INPUT: true; the input reads as it did. -/
def searchChancesSpec : ChangeSpec := { name := "searchChances", fn := fun _ => fun
  | [d1, d2] => { results := [.lit (.bool true)], args := [d1, d2] }
  | _ => none }
def searchChancesRow : OpenClaim := { program := "ytcifnjdjnoadfaa", sum := "1d9f21fc72b1ca9c48c4b2660324d45f185171a391040abd02a89bb93e665d3d", func := "ringdown/ringdownlaw08.SearchChances", spec := "searchChances", unfollowed := true, recurses := true, apart := false }
def SearchChancesSaid : Prop := searchChancesRow.holds Try.pinned (OpenSpec.ofChange searchChancesSpec)

/-- ITS FALSE NEIGHBOUR: 'it returns false'. Refute it at one input. -/
def searchChancesWrong : ChangeSpec := { name := "searchChances", fn := fun _ => fun
  | [d1, d2] => { results := [.lit (.bool false)], args := [d1, d2] }
  | _ => none }
def SearchChancesWrongFalsely : Prop := searchChancesRow.holds Try.pinned (OpenSpec.ofChange searchChancesWrong)

/-- 'ringdownlaw08.SearchBursts': WHATEVER THE INPUT: true; the input reads as it did. -/
def searchBurstsSpec : ChangeSpec := { name := "searchBursts", fn := fun _ => fun
  | [d1, d2, d3] => { results := [.lit (.bool true)], args := [d1, d2, d3] }
  | _ => none }
def searchBurstsRow : OpenClaim := { program := "ytcifnjdjnoadfaa", sum := "1d9f21fc72b1ca9c48c4b2660324d45f185171a391040abd02a89bb93e665d3d", func := "ringdown/ringdownlaw08.SearchBursts", spec := "searchBursts", unfollowed := true, recurses := true, apart := false }
def SearchBurstsSaid : Prop := searchBurstsRow.holds Try.pinned (OpenSpec.ofChange searchBurstsSpec)

/-- ITS FALSE NEIGHBOUR: 'it returns false'. Refute it at one input. -/
def searchBurstsWrong : ChangeSpec := { name := "searchBursts", fn := fun _ => fun
  | [d1, d2, d3] => { results := [.lit (.bool false)], args := [d1, d2, d3] }
  | _ => none }
def SearchBurstsWrongFalsely : Prop := searchBurstsRow.holds Try.pinned (OpenSpec.ofChange searchBurstsWrong)

/-- 'ringdownlaw08.SearchFolds': WHATEVER THE INPUT: true; the input reads as it did. -/
def searchFoldsSpec : ChangeSpec := { name := "searchFolds", fn := fun _ => fun
  | [d1, d2, d3] => { results := [.lit (.bool true)], args := [d1, d2, d3] }
  | _ => none }
def searchFoldsRow : OpenClaim := { program := "ytcifnjdjnoadfaa", sum := "1d9f21fc72b1ca9c48c4b2660324d45f185171a391040abd02a89bb93e665d3d", func := "ringdown/ringdownlaw08.SearchFolds", spec := "searchFolds", unfollowed := true, recurses := true, apart := false }
def SearchFoldsSaid : Prop := searchFoldsRow.holds Try.pinned (OpenSpec.ofChange searchFoldsSpec)

/-- ITS FALSE NEIGHBOUR: 'it returns false'. Refute it at one input. -/
def searchFoldsWrong : ChangeSpec := { name := "searchFolds", fn := fun _ => fun
  | [d1, d2, d3] => { results := [.lit (.bool false)], args := [d1, d2, d3] }
  | _ => none }
def SearchFoldsWrongFalsely : Prop := searchFoldsRow.holds Try.pinned (OpenSpec.ofChange searchFoldsWrong)

/-- 'ringdownlaw08.SearchSeals': WHATEVER THE INPUT: true; the input reads as it did. -/
def searchSealsSpec : ChangeSpec := { name := "searchSeals", fn := fun _ => fun
  | [d1, d2, d3] => { results := [.lit (.bool true)], args := [d1, d2, d3] }
  | _ => none }
def searchSealsRow : OpenClaim := { program := "ytcifnjdjnoadfaa", sum := "1d9f21fc72b1ca9c48c4b2660324d45f185171a391040abd02a89bb93e665d3d", func := "ringdown/ringdownlaw08.SearchSeals", spec := "searchSeals", unfollowed := true, recurses := true, apart := false }
def SearchSealsSaid : Prop := searchSealsRow.holds Try.pinned (OpenSpec.ofChange searchSealsSpec)

/-- ITS FALSE NEIGHBOUR: 'it returns false'. Refute it at one input. -/
def searchSealsWrong : ChangeSpec := { name := "searchSeals", fn := fun _ => fun
  | [d1, d2, d3] => { results := [.lit (.bool false)], args := [d1, d2, d3] }
  | _ => none }
def SearchSealsWrongFalsely : Prop := searchSealsRow.holds Try.pinned (OpenSpec.ofChange searchSealsWrong)

/-- 'ringdownlaw08.SearchFinds': WHATEVER THE INPUT: true; the input reads as it did. -/
def searchFindsSpec : ChangeSpec := { name := "searchFinds", fn := fun _ => fun
  | [d1, d2, d3] => { results := [.lit (.bool true)], args := [d1, d2, d3] }
  | _ => none }
def searchFindsRow : OpenClaim := { program := "ytcifnjdjnoadfaa", sum := "1d9f21fc72b1ca9c48c4b2660324d45f185171a391040abd02a89bb93e665d3d", func := "ringdown/ringdownlaw08.SearchFinds", spec := "searchFinds", unfollowed := true, recurses := true, apart := false }
def SearchFindsSaid : Prop := searchFindsRow.holds Try.pinned (OpenSpec.ofChange searchFindsSpec)

/-- ITS FALSE NEIGHBOUR: 'it returns false'. Refute it at one input. -/
def searchFindsWrong : ChangeSpec := { name := "searchFinds", fn := fun _ => fun
  | [d1, d2, d3] => { results := [.lit (.bool false)], args := [d1, d2, d3] }
  | _ => none }
def SearchFindsWrongFalsely : Prop := searchFindsRow.holds Try.pinned (OpenSpec.ofChange searchFindsWrong)

/-- 'ringdownlaw08.SearchMirror': WHATEVER THE INPUT: true; the input reads as it did. -/
def searchMirrorSpec : ChangeSpec := { name := "searchMirror", fn := fun _ => fun
  | [d1, d2, d3] => { results := [.lit (.bool true)], args := [d1, d2, d3] }
  | _ => none }
def searchMirrorRow : OpenClaim := { program := "ytcifnjdjnoadfaa", sum := "1d9f21fc72b1ca9c48c4b2660324d45f185171a391040abd02a89bb93e665d3d", func := "ringdown/ringdownlaw08.SearchMirror", spec := "searchMirror", unfollowed := true, recurses := true, apart := false }
def SearchMirrorSaid : Prop := searchMirrorRow.holds Try.pinned (OpenSpec.ofChange searchMirrorSpec)

/-- ITS FALSE NEIGHBOUR: 'it returns false'. Refute it at one input. -/
def searchMirrorWrong : ChangeSpec := { name := "searchMirror", fn := fun _ => fun
  | [d1, d2, d3] => { results := [.lit (.bool false)], args := [d1, d2, d3] }
  | _ => none }
def SearchMirrorWrongFalsely : Prop := searchMirrorRow.holds Try.pinned (OpenSpec.ofChange searchMirrorWrong)

/-- 'ringdownlaw08.SearchRound': WHATEVER THE INPUT: true; the input reads as it did. -/
def searchRoundSpec : ChangeSpec := { name := "searchRound", fn := fun _ => fun
  | [d1, d2, d3] => { results := [.lit (.bool true)], args := [d1, d2, d3] }
  | _ => none }
def searchRoundRow : OpenClaim := { program := "ytcifnjdjnoadfaa", sum := "1d9f21fc72b1ca9c48c4b2660324d45f185171a391040abd02a89bb93e665d3d", func := "ringdown/ringdownlaw08.SearchRound", spec := "searchRound", unfollowed := true, recurses := true, apart := false }
def SearchRoundSaid : Prop := searchRoundRow.holds Try.pinned (OpenSpec.ofChange searchRoundSpec)

/-- ITS FALSE NEIGHBOUR: 'it returns false'. Refute it at one input. -/
def searchRoundWrong : ChangeSpec := { name := "searchRound", fn := fun _ => fun
  | [d1, d2, d3] => { results := [.lit (.bool false)], args := [d1, d2, d3] }
  | _ => none }
def SearchRoundWrongFalsely : Prop := searchRoundRow.holds Try.pinned (OpenSpec.ofChange searchRoundWrong)

/-- 'ringdownlaw08.SearchBound': WHATEVER THE INPUT: true; the input reads as it did. -/
def searchBoundSpec : ChangeSpec := { name := "searchBound", fn := fun _ => fun
  | [d1, d2] => { results := [.lit (.bool true)], args := [d1, d2] }
  | _ => none }
def searchBoundRow : OpenClaim := { program := "ytcifnjdjnoadfaa", sum := "1d9f21fc72b1ca9c48c4b2660324d45f185171a391040abd02a89bb93e665d3d", func := "ringdown/ringdownlaw08.SearchBound", spec := "searchBound", unfollowed := true, recurses := true, apart := false }
def SearchBoundSaid : Prop := searchBoundRow.holds Try.pinned (OpenSpec.ofChange searchBoundSpec)

/-- ITS FALSE NEIGHBOUR: 'it returns false'. Refute it at one input. -/
def searchBoundWrong : ChangeSpec := { name := "searchBound", fn := fun _ => fun
  | [d1, d2] => { results := [.lit (.bool false)], args := [d1, d2] }
  | _ => none }
def SearchBoundWrongFalsely : Prop := searchBoundRow.holds Try.pinned (OpenSpec.ofChange searchBoundWrong)

/-- 'ringdownlaw08.SearchSums': WHATEVER THE INPUT: true; the input reads as it did. -/
def searchSumsSpec : ChangeSpec := { name := "searchSums", fn := fun _ => fun
  | [d1, d2, d3] => { results := [.lit (.bool true)], args := [d1, d2, d3] }
  | _ => none }
def searchSumsRow : OpenClaim := { program := "ytcifnjdjnoadfaa", sum := "1d9f21fc72b1ca9c48c4b2660324d45f185171a391040abd02a89bb93e665d3d", func := "ringdown/ringdownlaw08.SearchSums", spec := "searchSums", unfollowed := true, recurses := true, apart := false }
def SearchSumsSaid : Prop := searchSumsRow.holds Try.pinned (OpenSpec.ofChange searchSumsSpec)

/-- ITS FALSE NEIGHBOUR: 'it returns false'. Refute it at one input. -/
def searchSumsWrong : ChangeSpec := { name := "searchSums", fn := fun _ => fun
  | [d1, d2, d3] => { results := [.lit (.bool false)], args := [d1, d2, d3] }
  | _ => none }
def SearchSumsWrongFalsely : Prop := searchSumsRow.holds Try.pinned (OpenSpec.ofChange searchSumsWrong)

/-- 'ringdownlaw08.SearchKnown': WHATEVER THE INPUT: true; the input reads as it did. -/
def searchKnownSpec : ChangeSpec := { name := "searchKnown", fn := fun _ => fun
  | [] => { results := [.lit (.bool true)], args := [] }
  | _ => none }
def searchKnownRow : OpenClaim := { program := "ytcifnjdjnoadfaa", sum := "1d9f21fc72b1ca9c48c4b2660324d45f185171a391040abd02a89bb93e665d3d", func := "ringdown/ringdownlaw08.SearchKnown", spec := "searchKnown", unfollowed := true, recurses := true, apart := false }
def SearchKnownSaid : Prop := searchKnownRow.holds Try.pinned (OpenSpec.ofChange searchKnownSpec)

/-- ITS FALSE NEIGHBOUR: 'it returns false'. Refute it at one input. -/
def searchKnownWrong : ChangeSpec := { name := "searchKnown", fn := fun _ => fun
  | [] => { results := [.lit (.bool false)], args := [] }
  | _ => none }
def SearchKnownWrongFalsely : Prop := searchKnownRow.holds Try.pinned (OpenSpec.ofChange searchKnownWrong)

/- THE SECOND FORM. 'bulk': how many values and letters a reading holds, each counted each time it is reached (what is shared counts as often as it is met; a slice's spare places count too). A statement '..UptoSaid' is the law's where the arguments, and the package variables that the reading takes, are together of bulk at most 1048576: NARROWER than '..Said'. Prove '..Said' where nothing that the law and all that it calls make is longer than what came in: it says more and counts as full. Else prove '..UptoSaid'. A law counts once. -/
mutual
def uptoBulk {H : Type} : DataW H → Nat
  | .lit (.string bytes) => bytes.length + 1
  | .lit _ => 1
  | .nil => 1
  | .ptr d => uptoBulk d + 1
  | .slice elems spare => uptoBulkAll elems + uptoBulkAll spare + 1
  | .agg parts => uptoBulkAll parts + 1
  | .iface _ d => uptoBulk d + 1
  | .map entries => uptoBulkEntries entries + 1
  | .held _ => 1
def uptoBulkAll {H : Type} : List (DataW H) → Nat
  | [] => 0
  | d :: r => uptoBulk d + uptoBulkAll r
def uptoBulkEntries {H : Type} : List (Lit × DataW H) → Nat
  | [] => 0
  | x :: r => uptoBulkEntry x + uptoBulkEntries r
def uptoBulkEntry {H : Type} : Lit × DataW H → Nat
  | (.string bytes, d) => bytes.length + uptoBulk d + 1
  | (_, d) => uptoBulk d + 1
 end
def uptoSmall : (H : Type) → List (DataW H) → Bool := fun _ ds => decide (uptoBulkAll ds ≤ 1048576)
def OpenSpec.upto (s : _root_.Go.ChangeSpec) : _root_.Go.OpenSpec := { _root_.Go.OpenSpec.ofChange s with cond := some uptoSmall }

/-- 'ringdownlaw08.SearchCoincides', WHERE WHAT IT READS IS OF BULK AT MOST 1048576: true; the input reads as it did. -/
def searchCoincidesUptoRow : OpenClaim := { program := "ytcifnjdjnoadfaa", sum := "1d9f21fc72b1ca9c48c4b2660324d45f185171a391040abd02a89bb93e665d3d", func := "ringdown/ringdownlaw08.SearchCoincides", spec := "searchCoincides", unfollowed := true, recurses := true, apart := false, narrowed := true }
def SearchCoincidesUptoSaid : Prop := searchCoincidesUptoRow.holds Try.pinned (OpenSpec.upto searchCoincidesSpec)

/-- 'ringdownlaw08.SearchSlides', WHERE WHAT IT READS IS OF BULK AT MOST 1048576: true; the input reads as it did. -/
def searchSlidesUptoRow : OpenClaim := { program := "ytcifnjdjnoadfaa", sum := "1d9f21fc72b1ca9c48c4b2660324d45f185171a391040abd02a89bb93e665d3d", func := "ringdown/ringdownlaw08.SearchSlides", spec := "searchSlides", unfollowed := true, recurses := true, apart := false, narrowed := true }
def SearchSlidesUptoSaid : Prop := searchSlidesUptoRow.holds Try.pinned (OpenSpec.upto searchSlidesSpec)

/-- 'ringdownlaw08.SearchChances', WHERE WHAT IT READS IS OF BULK AT MOST 1048576: true; the input reads as it did. -/
def searchChancesUptoRow : OpenClaim := { program := "ytcifnjdjnoadfaa", sum := "1d9f21fc72b1ca9c48c4b2660324d45f185171a391040abd02a89bb93e665d3d", func := "ringdown/ringdownlaw08.SearchChances", spec := "searchChances", unfollowed := true, recurses := true, apart := false, narrowed := true }
def SearchChancesUptoSaid : Prop := searchChancesUptoRow.holds Try.pinned (OpenSpec.upto searchChancesSpec)

/-- 'ringdownlaw08.SearchBursts', WHERE WHAT IT READS IS OF BULK AT MOST 1048576: true; the input reads as it did. -/
def searchBurstsUptoRow : OpenClaim := { program := "ytcifnjdjnoadfaa", sum := "1d9f21fc72b1ca9c48c4b2660324d45f185171a391040abd02a89bb93e665d3d", func := "ringdown/ringdownlaw08.SearchBursts", spec := "searchBursts", unfollowed := true, recurses := true, apart := false, narrowed := true }
def SearchBurstsUptoSaid : Prop := searchBurstsUptoRow.holds Try.pinned (OpenSpec.upto searchBurstsSpec)

/-- 'ringdownlaw08.SearchFolds', WHERE WHAT IT READS IS OF BULK AT MOST 1048576: true; the input reads as it did. -/
def searchFoldsUptoRow : OpenClaim := { program := "ytcifnjdjnoadfaa", sum := "1d9f21fc72b1ca9c48c4b2660324d45f185171a391040abd02a89bb93e665d3d", func := "ringdown/ringdownlaw08.SearchFolds", spec := "searchFolds", unfollowed := true, recurses := true, apart := false, narrowed := true }
def SearchFoldsUptoSaid : Prop := searchFoldsUptoRow.holds Try.pinned (OpenSpec.upto searchFoldsSpec)

/-- 'ringdownlaw08.SearchSeals', WHERE WHAT IT READS IS OF BULK AT MOST 1048576: true; the input reads as it did. -/
def searchSealsUptoRow : OpenClaim := { program := "ytcifnjdjnoadfaa", sum := "1d9f21fc72b1ca9c48c4b2660324d45f185171a391040abd02a89bb93e665d3d", func := "ringdown/ringdownlaw08.SearchSeals", spec := "searchSeals", unfollowed := true, recurses := true, apart := false, narrowed := true }
def SearchSealsUptoSaid : Prop := searchSealsUptoRow.holds Try.pinned (OpenSpec.upto searchSealsSpec)

/-- 'ringdownlaw08.SearchFinds', WHERE WHAT IT READS IS OF BULK AT MOST 1048576: true; the input reads as it did. -/
def searchFindsUptoRow : OpenClaim := { program := "ytcifnjdjnoadfaa", sum := "1d9f21fc72b1ca9c48c4b2660324d45f185171a391040abd02a89bb93e665d3d", func := "ringdown/ringdownlaw08.SearchFinds", spec := "searchFinds", unfollowed := true, recurses := true, apart := false, narrowed := true }
def SearchFindsUptoSaid : Prop := searchFindsUptoRow.holds Try.pinned (OpenSpec.upto searchFindsSpec)

/-- 'ringdownlaw08.SearchMirror', WHERE WHAT IT READS IS OF BULK AT MOST 1048576: true; the input reads as it did. -/
def searchMirrorUptoRow : OpenClaim := { program := "ytcifnjdjnoadfaa", sum := "1d9f21fc72b1ca9c48c4b2660324d45f185171a391040abd02a89bb93e665d3d", func := "ringdown/ringdownlaw08.SearchMirror", spec := "searchMirror", unfollowed := true, recurses := true, apart := false, narrowed := true }
def SearchMirrorUptoSaid : Prop := searchMirrorUptoRow.holds Try.pinned (OpenSpec.upto searchMirrorSpec)

/-- 'ringdownlaw08.SearchRound', WHERE WHAT IT READS IS OF BULK AT MOST 1048576: true; the input reads as it did. -/
def searchRoundUptoRow : OpenClaim := { program := "ytcifnjdjnoadfaa", sum := "1d9f21fc72b1ca9c48c4b2660324d45f185171a391040abd02a89bb93e665d3d", func := "ringdown/ringdownlaw08.SearchRound", spec := "searchRound", unfollowed := true, recurses := true, apart := false, narrowed := true }
def SearchRoundUptoSaid : Prop := searchRoundUptoRow.holds Try.pinned (OpenSpec.upto searchRoundSpec)

/-- 'ringdownlaw08.SearchBound', WHERE WHAT IT READS IS OF BULK AT MOST 1048576: true; the input reads as it did. -/
def searchBoundUptoRow : OpenClaim := { program := "ytcifnjdjnoadfaa", sum := "1d9f21fc72b1ca9c48c4b2660324d45f185171a391040abd02a89bb93e665d3d", func := "ringdown/ringdownlaw08.SearchBound", spec := "searchBound", unfollowed := true, recurses := true, apart := false, narrowed := true }
def SearchBoundUptoSaid : Prop := searchBoundUptoRow.holds Try.pinned (OpenSpec.upto searchBoundSpec)

/-- 'ringdownlaw08.SearchSums', WHERE WHAT IT READS IS OF BULK AT MOST 1048576: true; the input reads as it did. -/
def searchSumsUptoRow : OpenClaim := { program := "ytcifnjdjnoadfaa", sum := "1d9f21fc72b1ca9c48c4b2660324d45f185171a391040abd02a89bb93e665d3d", func := "ringdown/ringdownlaw08.SearchSums", spec := "searchSums", unfollowed := true, recurses := true, apart := false, narrowed := true }
def SearchSumsUptoSaid : Prop := searchSumsUptoRow.holds Try.pinned (OpenSpec.upto searchSumsSpec)

/-- 'ringdownlaw08.SearchKnown', WHERE WHAT IT READS IS OF BULK AT MOST 1048576: true; the input reads as it did. -/
def searchKnownUptoRow : OpenClaim := { program := "ytcifnjdjnoadfaa", sum := "1d9f21fc72b1ca9c48c4b2660324d45f185171a391040abd02a89bb93e665d3d", func := "ringdown/ringdownlaw08.SearchKnown", spec := "searchKnown", unfollowed := true, recurses := true, apart := false, narrowed := true }
def SearchKnownUptoSaid : Prop := searchKnownUptoRow.holds Try.pinned (OpenSpec.upto searchKnownSpec)

end Rows
end Go.Proofs.Ytcifnjdjnoadfaa
