/-
  No cell of these rows narrows 'for every input' (looked for: loops, veiled, ifaces, maps, wideKeys, modest, calm, conditions, laid).
  DERIVED. THE GIVEN ROWS OF THIS SEAT. 5 by the template 'for every input the law returns true; each argument reads behind the call as it read before'; 0 by the template 'total and deterministic' (their statements: YtghdafgpdhbohaaTotals.lean).
  GIVEN WITH THE SEED: the statements are not yours to turn. If you find one false, say at which input.
  Laid BY PROGRAM, IN A SANDBOX (cutbox-rows.mjs): the forced cells as the released guide's own fill.sh prints them over the translation eaa04dd25a360eae… (all of the seat's roots in one cut). By AI agents, Wed Nov 11 2026. No macro, syntax, notation, axiom, sorry.
-/
import Derived.Test.YtghdafgpdhbohaaChecked
import GoSem.Claim
import GoSem.ClaimJoined
import GoSem.ClaimMapViews
import Derived.JoinedTies
import Derived.KernelRfl
namespace Go.Proofs.Ytghdafgpdhbohaa
/- THE CELL 'sum', in the pinned program and in every row, IS THE sha256 OF THE DUMP (.gsa) THAT YtghdafgpdhbohaaProg.lean LOADS. Nothing in Lean hashes anything: it is a label: what it is worth is what the hold of that sum in a sandbox is worth. -/
noncomputable def Try.pinned : Pinned := { name := "ytghdafgpdhbohaa", sum := "eaa04dd25a360eae5721dd7525fc477ee32f0c48197457aab5a4bdd1d23c018f", checked := Try.checked }
namespace Rows
def none {H : Type} : Left H := { results := [], args := [] }

/-- 'coronerlaw05.SortedSets': WHATEVER THE INPUT: true; the input reads as it did. -/
def sortedSetsSpec : ChangeSpec := { name := "sortedSets", fn := fun _ => fun
  | [d1, d2, d3] => { results := [.lit (.bool true)], args := [d1, d2, d3] }
  | _ => none }
def sortedSetsRow : OpenClaim := { program := "ytghdafgpdhbohaa", sum := "eaa04dd25a360eae5721dd7525fc477ee32f0c48197457aab5a4bdd1d23c018f", func := "coroner/coronerlaw05.SortedSets", spec := "sortedSets", unfollowed := true, recurses := true, apart := false }
def SortedSetsSaid : Prop := sortedSetsRow.holds Try.pinned (OpenSpec.ofChange sortedSetsSpec)

/-- ITS FALSE NEIGHBOUR: 'it returns false'. Refute it at one input. -/
def sortedSetsWrong : ChangeSpec := { name := "sortedSets", fn := fun _ => fun
  | [d1, d2, d3] => { results := [.lit (.bool false)], args := [d1, d2, d3] }
  | _ => none }
def SortedSetsWrongFalsely : Prop := sortedSetsRow.holds Try.pinned (OpenSpec.ofChange sortedSetsWrong)

/-- 'coronerlaw05.SortedGoes': WHATEVER THE INPUT: true; the input reads as it did. -/
def sortedGoesSpec : ChangeSpec := { name := "sortedGoes", fn := fun _ => fun
  | [d1, d2, d3, d4] => { results := [.lit (.bool true)], args := [d1, d2, d3, d4] }
  | _ => none }
def sortedGoesRow : OpenClaim := { program := "ytghdafgpdhbohaa", sum := "eaa04dd25a360eae5721dd7525fc477ee32f0c48197457aab5a4bdd1d23c018f", func := "coroner/coronerlaw05.SortedGoes", spec := "sortedGoes", unfollowed := true, recurses := true, apart := false }
def SortedGoesSaid : Prop := sortedGoesRow.holds Try.pinned (OpenSpec.ofChange sortedGoesSpec)

/-- ITS FALSE NEIGHBOUR: 'it returns false'. Refute it at one input. -/
def sortedGoesWrong : ChangeSpec := { name := "sortedGoes", fn := fun _ => fun
  | [d1, d2, d3, d4] => { results := [.lit (.bool false)], args := [d1, d2, d3, d4] }
  | _ => none }
def SortedGoesWrongFalsely : Prop := sortedGoesRow.holds Try.pinned (OpenSpec.ofChange sortedGoesWrong)

/-- 'coronerlaw05.SortedTexts': WHATEVER THE INPUT: true; the input reads as it did. -/
def sortedTextsSpec : ChangeSpec := { name := "sortedTexts", fn := fun _ => fun
  | [d1, d2] => { results := [.lit (.bool true)], args := [d1, d2] }
  | _ => none }
def sortedTextsRow : OpenClaim := { program := "ytghdafgpdhbohaa", sum := "eaa04dd25a360eae5721dd7525fc477ee32f0c48197457aab5a4bdd1d23c018f", func := "coroner/coronerlaw05.SortedTexts", spec := "sortedTexts", unfollowed := true, recurses := true, apart := false }
def SortedTextsSaid : Prop := sortedTextsRow.holds Try.pinned (OpenSpec.ofChange sortedTextsSpec)

/-- ITS FALSE NEIGHBOUR: 'it returns false'. Refute it at one input. -/
def sortedTextsWrong : ChangeSpec := { name := "sortedTexts", fn := fun _ => fun
  | [d1, d2] => { results := [.lit (.bool false)], args := [d1, d2] }
  | _ => none }
def SortedTextsWrongFalsely : Prop := sortedTextsRow.holds Try.pinned (OpenSpec.ofChange sortedTextsWrong)

/-- 'coronerlaw05.SortedCompares': WHATEVER THE INPUT: true; the input reads as it did. -/
def sortedComparesSpec : ChangeSpec := { name := "sortedCompares", fn := fun _ => fun
  | [d1, d2, d3] => { results := [.lit (.bool true)], args := [d1, d2, d3] }
  | _ => none }
def sortedComparesRow : OpenClaim := { program := "ytghdafgpdhbohaa", sum := "eaa04dd25a360eae5721dd7525fc477ee32f0c48197457aab5a4bdd1d23c018f", func := "coroner/coronerlaw05.SortedCompares", spec := "sortedCompares", unfollowed := true, recurses := true, apart := false }
def SortedComparesSaid : Prop := sortedComparesRow.holds Try.pinned (OpenSpec.ofChange sortedComparesSpec)

/-- ITS FALSE NEIGHBOUR: 'it returns false'. Refute it at one input. -/
def sortedComparesWrong : ChangeSpec := { name := "sortedCompares", fn := fun _ => fun
  | [d1, d2, d3] => { results := [.lit (.bool false)], args := [d1, d2, d3] }
  | _ => none }
def SortedComparesWrongFalsely : Prop := sortedComparesRow.holds Try.pinned (OpenSpec.ofChange sortedComparesWrong)

/-- 'coronerlaw05.SortedOnce': WHATEVER THE INPUT: true; the input reads as it did. -/
def sortedOnceSpec : ChangeSpec := { name := "sortedOnce", fn := fun _ => fun
  | [d1, d2] => { results := [.lit (.bool true)], args := [d1, d2] }
  | _ => none }
def sortedOnceRow : OpenClaim := { program := "ytghdafgpdhbohaa", sum := "eaa04dd25a360eae5721dd7525fc477ee32f0c48197457aab5a4bdd1d23c018f", func := "coroner/coronerlaw05.SortedOnce", spec := "sortedOnce", unfollowed := true, recurses := true, apart := false }
def SortedOnceSaid : Prop := sortedOnceRow.holds Try.pinned (OpenSpec.ofChange sortedOnceSpec)

/-- ITS FALSE NEIGHBOUR: 'it returns false'. Refute it at one input. -/
def sortedOnceWrong : ChangeSpec := { name := "sortedOnce", fn := fun _ => fun
  | [d1, d2] => { results := [.lit (.bool false)], args := [d1, d2] }
  | _ => none }
def SortedOnceWrongFalsely : Prop := sortedOnceRow.holds Try.pinned (OpenSpec.ofChange sortedOnceWrong)

/- THE SECOND FORM. 'bulk': how many values and letters a reading holds, each counted each time it is reached (what is shared counts as often as it is met; a slice's spare places count too). A statement '..UptoSaid' is the law's where the arguments, and the package variables that the reading takes, are together of bulk at most 1048576: NARROWER than '..Said'. Prove '..Said' where nothing that the law and all that it calls make is longer than what came in: it says more and counts as full. Else prove '..UptoSaid'. A law counts once. -/
mutual
def uptoBulk {H : Type} : DataW H → Nat
  | .lit (.string bytes) => bytes.length + 1
  | .lit _ => 1
  | .nil => 1
  | .ptr d => uptoBulk d + 1
  | .slice elems spare => uptoBulkAll elems + uptoBulkAll spare + 1
  | .agg parts => uptoBulkAll parts + 1
  | .iface _ d => uptoBulk d + 1
  | .map entries => uptoBulkEntries entries + 1
  | .held _ => 1
def uptoBulkAll {H : Type} : List (DataW H) → Nat
  | [] => 0
  | d :: r => uptoBulk d + uptoBulkAll r
def uptoBulkEntries {H : Type} : List (Lit × DataW H) → Nat
  | [] => 0
  | x :: r => uptoBulkEntry x + uptoBulkEntries r
def uptoBulkEntry {H : Type} : Lit × DataW H → Nat
  | (.string bytes, d) => bytes.length + uptoBulk d + 1
  | (_, d) => uptoBulk d + 1
 end
def uptoSmall : (H : Type) → List (DataW H) → Bool := fun _ ds => decide (uptoBulkAll ds ≤ 1048576)
def OpenSpec.upto (s : _root_.Go.ChangeSpec) : _root_.Go.OpenSpec := { _root_.Go.OpenSpec.ofChange s with cond := some uptoSmall }

/-- 'coronerlaw05.SortedSets', WHERE WHAT IT READS IS OF BULK AT MOST 1048576: true; the input reads as it did. -/
def sortedSetsUptoRow : OpenClaim := { program := "ytghdafgpdhbohaa", sum := "eaa04dd25a360eae5721dd7525fc477ee32f0c48197457aab5a4bdd1d23c018f", func := "coroner/coronerlaw05.SortedSets", spec := "sortedSets", unfollowed := true, recurses := true, apart := false, narrowed := true }
def SortedSetsUptoSaid : Prop := sortedSetsUptoRow.holds Try.pinned (OpenSpec.upto sortedSetsSpec)

/-- 'coronerlaw05.SortedGoes', WHERE WHAT IT READS IS OF BULK AT MOST 1048576: true; the input reads as it did. -/
def sortedGoesUptoRow : OpenClaim := { program := "ytghdafgpdhbohaa", sum := "eaa04dd25a360eae5721dd7525fc477ee32f0c48197457aab5a4bdd1d23c018f", func := "coroner/coronerlaw05.SortedGoes", spec := "sortedGoes", unfollowed := true, recurses := true, apart := false, narrowed := true }
def SortedGoesUptoSaid : Prop := sortedGoesUptoRow.holds Try.pinned (OpenSpec.upto sortedGoesSpec)

/-- 'coronerlaw05.SortedTexts', WHERE WHAT IT READS IS OF BULK AT MOST 1048576: true; the input reads as it did. -/
def sortedTextsUptoRow : OpenClaim := { program := "ytghdafgpdhbohaa", sum := "eaa04dd25a360eae5721dd7525fc477ee32f0c48197457aab5a4bdd1d23c018f", func := "coroner/coronerlaw05.SortedTexts", spec := "sortedTexts", unfollowed := true, recurses := true, apart := false, narrowed := true }
def SortedTextsUptoSaid : Prop := sortedTextsUptoRow.holds Try.pinned (OpenSpec.upto sortedTextsSpec)

/-- 'coronerlaw05.SortedCompares', WHERE WHAT IT READS IS OF BULK AT MOST 1048576: true; the input reads as it did. -/
def sortedComparesUptoRow : OpenClaim := { program := "ytghdafgpdhbohaa", sum := "eaa04dd25a360eae5721dd7525fc477ee32f0c48197457aab5a4bdd1d23c018f", func := "coroner/coronerlaw05.SortedCompares", spec := "sortedCompares", unfollowed := true, recurses := true, apart := false, narrowed := true }
def SortedComparesUptoSaid : Prop := sortedComparesUptoRow.holds Try.pinned (OpenSpec.upto sortedComparesSpec)

/-- 'coronerlaw05.SortedOnce', WHERE WHAT IT READS IS OF BULK AT MOST 1048576: true; the input reads as it did. -/
def sortedOnceUptoRow : OpenClaim := { program := "ytghdafgpdhbohaa", sum := "eaa04dd25a360eae5721dd7525fc477ee32f0c48197457aab5a4bdd1d23c018f", func := "coroner/coronerlaw05.SortedOnce", spec := "sortedOnce", unfollowed := true, recurses := true, apart := false, narrowed := true }
def SortedOnceUptoSaid : Prop := sortedOnceUptoRow.holds Try.pinned (OpenSpec.upto sortedOnceSpec)

end Rows
end Go.Proofs.Ytghdafgpdhbohaa
