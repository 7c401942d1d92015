/-
  No cell of these rows narrows 'for every input' (looked for: loops, veiled, ifaces, maps, wideKeys, modest, calm, conditions, laid).
  DERIVED. THE GIVEN ROWS OF THIS SEAT. 5 by the template 'for every input the law returns true; each argument reads behind the call as it read before'; 0 by the template 'total and deterministic' (their statements: YtopimhoepknjdaaTotals.lean).
  GIVEN WITH THE SEED: the statements are not yours to turn. If you find one false, say at which input.
  Laid BY PROGRAM, IN A SANDBOX (cutbox-rows.mjs): the forced cells as the released guide's own fill.sh prints them over the translation 46fdc03cdbf646e2… (all of the seat's roots in one cut). By AI agents, Wed Nov 11 2026. No macro, syntax, notation, axiom, sorry.
-/
import Derived.Test.YtopimhoepknjdaaChecked
import GoSem.Claim
import GoSem.ClaimJoined
import GoSem.ClaimMapViews
import Derived.JoinedTies
import Derived.KernelRfl
namespace Go.Proofs.Ytopimhoepknjdaa
/- THE CELL 'sum', in the pinned program and in every row, IS THE sha256 OF THE DUMP (.gsa) THAT YtopimhoepknjdaaProg.lean LOADS. Nothing in Lean hashes anything: it is a label: what it is worth is what the hold of that sum in a sandbox is worth. -/
noncomputable def Try.pinned : Pinned := { name := "ytopimhoepknjdaa", sum := "46fdc03cdbf646e21547481f1cd638f6bcd7624205738ae741c366b7957c0536", checked := Try.checked }
namespace Rows
def none {H : Type} : Left H := { results := [], args := [] }

/-- 'coronerlaw01.DigitsParses': WHATEVER THE INPUT: true; the input reads as it did. -/
def digitsParsesSpec : ChangeSpec := { name := "digitsParses", fn := fun _ => fun
  | [d1, d2] => { results := [.lit (.bool true)], args := [d1, d2] }
  | _ => none }
def digitsParsesRow : OpenClaim := { program := "ytopimhoepknjdaa", sum := "46fdc03cdbf646e21547481f1cd638f6bcd7624205738ae741c366b7957c0536", func := "coroner/coronerlaw01.DigitsParses", spec := "digitsParses", apart := false }
def DigitsParsesSaid : Prop := digitsParsesRow.holds Try.pinned (OpenSpec.ofChange digitsParsesSpec)

/-- ITS FALSE NEIGHBOUR: 'it returns false'. Refute it at one input. -/
def digitsParsesWrong : ChangeSpec := { name := "digitsParses", fn := fun _ => fun
  | [d1, d2] => { results := [.lit (.bool false)], args := [d1, d2] }
  | _ => none }
def DigitsParsesWrongFalsely : Prop := digitsParsesRow.holds Try.pinned (OpenSpec.ofChange digitsParsesWrong)

/-- 'coronerlaw01.DigitsLists': WHATEVER THE INPUT: true; the input reads as it did. -/
def digitsListsSpec : ChangeSpec := { name := "digitsLists", fn := fun _ => fun
  | [d1, d2] => { results := [.lit (.bool true)], args := [d1, d2] }
  | _ => none }
def digitsListsRow : OpenClaim := { program := "ytopimhoepknjdaa", sum := "46fdc03cdbf646e21547481f1cd638f6bcd7624205738ae741c366b7957c0536", func := "coroner/coronerlaw01.DigitsLists", spec := "digitsLists", apart := false }
def DigitsListsSaid : Prop := digitsListsRow.holds Try.pinned (OpenSpec.ofChange digitsListsSpec)

/-- ITS FALSE NEIGHBOUR: 'it returns false'. Refute it at one input. -/
def digitsListsWrong : ChangeSpec := { name := "digitsLists", fn := fun _ => fun
  | [d1, d2] => { results := [.lit (.bool false)], args := [d1, d2] }
  | _ => none }
def DigitsListsWrongFalsely : Prop := digitsListsRow.holds Try.pinned (OpenSpec.ofChange digitsListsWrong)

/-- 'coronerlaw01.DigitsPrints': WHATEVER THE INPUT: true; the input reads as it did. -/
def digitsPrintsSpec : ChangeSpec := { name := "digitsPrints", fn := fun _ => fun
  | [d] => { results := [.lit (.bool true)], args := [d] }
  | _ => none }
def digitsPrintsRow : OpenClaim := { program := "ytopimhoepknjdaa", sum := "46fdc03cdbf646e21547481f1cd638f6bcd7624205738ae741c366b7957c0536", func := "coroner/coronerlaw01.DigitsPrints", spec := "digitsPrints", apart := false }
def DigitsPrintsSaid : Prop := digitsPrintsRow.holds Try.pinned (OpenSpec.ofChange digitsPrintsSpec)

/-- ITS FALSE NEIGHBOUR: 'it returns false'. Refute it at one input. -/
def digitsPrintsWrong : ChangeSpec := { name := "digitsPrints", fn := fun _ => fun
  | [d] => { results := [.lit (.bool false)], args := [d] }
  | _ => none }
def DigitsPrintsWrongFalsely : Prop := digitsPrintsRow.holds Try.pinned (OpenSpec.ofChange digitsPrintsWrong)

/-- 'coronerlaw01.DigitsBack': WHATEVER THE INPUT: true; the input reads as it did. -/
def digitsBackSpec : ChangeSpec := { name := "digitsBack", fn := fun _ => fun
  | [d1, d2, d3] => { results := [.lit (.bool true)], args := [d1, d2, d3] }
  | _ => none }
def digitsBackRow : OpenClaim := { program := "ytopimhoepknjdaa", sum := "46fdc03cdbf646e21547481f1cd638f6bcd7624205738ae741c366b7957c0536", func := "coroner/coronerlaw01.DigitsBack", spec := "digitsBack", apart := false }
def DigitsBackSaid : Prop := digitsBackRow.holds Try.pinned (OpenSpec.ofChange digitsBackSpec)

/-- ITS FALSE NEIGHBOUR: 'it returns false'. Refute it at one input. -/
def digitsBackWrong : ChangeSpec := { name := "digitsBack", fn := fun _ => fun
  | [d1, d2, d3] => { results := [.lit (.bool false)], args := [d1, d2, d3] }
  | _ => none }
def DigitsBackWrongFalsely : Prop := digitsBackRow.holds Try.pinned (OpenSpec.ofChange digitsBackWrong)

/-- 'coronerlaw01.DigitsWrong': WHATEVER THE INPUT: true; the input reads as it did. -/
def digitsWrongSpec : ChangeSpec := { name := "digitsWrong", fn := fun _ => fun
  | [d1, d2] => { results := [.lit (.bool true)], args := [d1, d2] }
  | _ => none }
def digitsWrongRow : OpenClaim := { program := "ytopimhoepknjdaa", sum := "46fdc03cdbf646e21547481f1cd638f6bcd7624205738ae741c366b7957c0536", func := "coroner/coronerlaw01.DigitsWrong", spec := "digitsWrong", apart := false }
def DigitsWrongSaid : Prop := digitsWrongRow.holds Try.pinned (OpenSpec.ofChange digitsWrongSpec)

/-- ITS FALSE NEIGHBOUR: 'it returns false'. Refute it at one input. -/
def digitsWrongWrong : ChangeSpec := { name := "digitsWrong", fn := fun _ => fun
  | [d1, d2] => { results := [.lit (.bool false)], args := [d1, d2] }
  | _ => none }
def DigitsWrongWrongFalsely : Prop := digitsWrongRow.holds Try.pinned (OpenSpec.ofChange digitsWrongWrong)

/- THE SECOND FORM. 'bulk': how many values and letters a reading holds, each counted each time it is reached (what is shared counts as often as it is met; a slice's spare places count too). A statement '..UptoSaid' is the law's where the arguments, and the package variables that the reading takes, are together of bulk at most 1048576: NARROWER than '..Said'. Prove '..Said' where nothing that the law and all that it calls make is longer than what came in: it says more and counts as full. Else prove '..UptoSaid'. A law counts once. -/
mutual
def uptoBulk {H : Type} : DataW H → Nat
  | .lit (.string bytes) => bytes.length + 1
  | .lit _ => 1
  | .nil => 1
  | .ptr d => uptoBulk d + 1
  | .slice elems spare => uptoBulkAll elems + uptoBulkAll spare + 1
  | .agg parts => uptoBulkAll parts + 1
  | .iface _ d => uptoBulk d + 1
  | .map entries => uptoBulkEntries entries + 1
  | .held _ => 1
def uptoBulkAll {H : Type} : List (DataW H) → Nat
  | [] => 0
  | d :: r => uptoBulk d + uptoBulkAll r
def uptoBulkEntries {H : Type} : List (Lit × DataW H) → Nat
  | [] => 0
  | x :: r => uptoBulkEntry x + uptoBulkEntries r
def uptoBulkEntry {H : Type} : Lit × DataW H → Nat
  | (.string bytes, d) => bytes.length + uptoBulk d + 1
  | (_, d) => uptoBulk d + 1
 end
def uptoSmall : (H : Type) → List (DataW H) → Bool := fun _ ds => decide (uptoBulkAll ds ≤ 1048576)
def OpenSpec.upto (s : _root_.Go.ChangeSpec) : _root_.Go.OpenSpec := { _root_.Go.OpenSpec.ofChange s with cond := some uptoSmall }

/-- 'coronerlaw01.DigitsParses', WHERE WHAT IT READS IS OF BULK AT MOST 1048576: true; the input reads as it did. -/
def digitsParsesUptoRow : OpenClaim := { program := "ytopimhoepknjdaa", sum := "46fdc03cdbf646e21547481f1cd638f6bcd7624205738ae741c366b7957c0536", func := "coroner/coronerlaw01.DigitsParses", spec := "digitsParses", apart := false, narrowed := true }
def DigitsParsesUptoSaid : Prop := digitsParsesUptoRow.holds Try.pinned (OpenSpec.upto digitsParsesSpec)

/-- 'coronerlaw01.DigitsLists', WHERE WHAT IT READS IS OF BULK AT MOST 1048576: true; the input reads as it did. -/
def digitsListsUptoRow : OpenClaim := { program := "ytopimhoepknjdaa", sum := "46fdc03cdbf646e21547481f1cd638f6bcd7624205738ae741c366b7957c0536", func := "coroner/coronerlaw01.DigitsLists", spec := "digitsLists", apart := false, narrowed := true }
def DigitsListsUptoSaid : Prop := digitsListsUptoRow.holds Try.pinned (OpenSpec.upto digitsListsSpec)

/-- 'coronerlaw01.DigitsPrints', WHERE WHAT IT READS IS OF BULK AT MOST 1048576: true; the input reads as it did. -/
def digitsPrintsUptoRow : OpenClaim := { program := "ytopimhoepknjdaa", sum := "46fdc03cdbf646e21547481f1cd638f6bcd7624205738ae741c366b7957c0536", func := "coroner/coronerlaw01.DigitsPrints", spec := "digitsPrints", apart := false, narrowed := true }
def DigitsPrintsUptoSaid : Prop := digitsPrintsUptoRow.holds Try.pinned (OpenSpec.upto digitsPrintsSpec)

/-- 'coronerlaw01.DigitsBack', WHERE WHAT IT READS IS OF BULK AT MOST 1048576: true; the input reads as it did. -/
def digitsBackUptoRow : OpenClaim := { program := "ytopimhoepknjdaa", sum := "46fdc03cdbf646e21547481f1cd638f6bcd7624205738ae741c366b7957c0536", func := "coroner/coronerlaw01.DigitsBack", spec := "digitsBack", apart := false, narrowed := true }
def DigitsBackUptoSaid : Prop := digitsBackUptoRow.holds Try.pinned (OpenSpec.upto digitsBackSpec)

/-- 'coronerlaw01.DigitsWrong', WHERE WHAT IT READS IS OF BULK AT MOST 1048576: true; the input reads as it did. -/
def digitsWrongUptoRow : OpenClaim := { program := "ytopimhoepknjdaa", sum := "46fdc03cdbf646e21547481f1cd638f6bcd7624205738ae741c366b7957c0536", func := "coroner/coronerlaw01.DigitsWrong", spec := "digitsWrong", apart := false, narrowed := true }
def DigitsWrongUptoSaid : Prop := digitsWrongUptoRow.holds Try.pinned (OpenSpec.upto digitsWrongSpec)

end Rows
end Go.Proofs.Ytopimhoepknjdaa
