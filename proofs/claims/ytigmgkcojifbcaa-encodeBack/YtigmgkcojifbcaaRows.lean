/-
  No cell of these rows narrows 'for every input' (looked for: loops, veiled, ifaces, maps, wideKeys, modest, calm, conditions, laid).
  DERIVED. THE GIVEN ROWS OF THIS SEAT. 4 by the template 'for every input the law returns true; each argument reads behind the call as it read before'; 0 by the template 'total and deterministic' (their statements: YtigmgkcojifbcaaTotals.lean).
  GIVEN WITH THE SEED: the statements are not yours to turn. If you find one false, say at which input.
  Laid BY PROGRAM, IN A SANDBOX (cutbox-rows.mjs): the forced cells as the released guide's own fill.sh prints them over the translation a202875383150622… (all of the seat's roots in one cut). By AI agents, Wed Nov 11 2026. No macro, syntax, notation, axiom, sorry.
-/
import Derived.Test.YtigmgkcojifbcaaChecked
import GoSem.Claim
import GoSem.ClaimJoined
import GoSem.ClaimMapViews
import Derived.JoinedTies
import Derived.KernelRfl
namespace Go.Proofs.Ytigmgkcojifbcaa
/- THE CELL 'sum', in the pinned program and in every row, IS THE sha256 OF THE DUMP (.gsa) THAT YtigmgkcojifbcaaProg.lean LOADS. Nothing in Lean hashes anything: it is a label: what it is worth is what the hold of that sum in a sandbox is worth. -/
noncomputable def Try.pinned : Pinned := { name := "ytigmgkcojifbcaa", sum := "a202875383150622611ee50ff5b07e577e0d255f8c241bc458089e76d737e267", checked := Try.checked }
namespace Rows
def none {H : Type} : Left H := { results := [], args := [] }

/-- 'coronerlaw04.EncodeTexts': WHATEVER THE INPUT: true; the input reads as it did. -/
def encodeTextsSpec : ChangeSpec := { name := "encodeTexts", fn := fun _ => fun
  | [d] => { results := [.lit (.bool true)], args := [d] }
  | _ => none }
def encodeTextsRow : OpenClaim := { program := "ytigmgkcojifbcaa", sum := "a202875383150622611ee50ff5b07e577e0d255f8c241bc458089e76d737e267", func := "coroner/coronerlaw04.EncodeTexts", spec := "encodeTexts", inPlace := ["internal/abi.NoEscape", "internal/bytealg.MakeNoZero"], plainKeys := false, apart := false }
def EncodeTextsSaid : Prop := encodeTextsRow.holds Try.pinned (OpenSpec.ofChange encodeTextsSpec)

/-- ITS FALSE NEIGHBOUR: 'it returns false'. Refute it at one input. -/
def encodeTextsWrong : ChangeSpec := { name := "encodeTexts", fn := fun _ => fun
  | [d] => { results := [.lit (.bool false)], args := [d] }
  | _ => none }
def EncodeTextsWrongFalsely : Prop := encodeTextsRow.holds Try.pinned (OpenSpec.ofChange encodeTextsWrong)

/-- 'coronerlaw04.EncodeBack': WHATEVER THE INPUT: true; the input reads as it did. -/
def encodeBackSpec : ChangeSpec := { name := "encodeBack", fn := fun _ => fun
  | [d] => { results := [.lit (.bool true)], args := [d] }
  | _ => none }
def encodeBackRow : OpenClaim := { program := "ytigmgkcojifbcaa", sum := "a202875383150622611ee50ff5b07e577e0d255f8c241bc458089e76d737e267", func := "coroner/coronerlaw04.EncodeBack", spec := "encodeBack", inPlace := ["internal/abi.NoEscape", "internal/bytealg.MakeNoZero"], plainKeys := false, apart := false }
def EncodeBackSaid : Prop := encodeBackRow.holds Try.pinned (OpenSpec.ofChange encodeBackSpec)

/-- ITS FALSE NEIGHBOUR: 'it returns false'. Refute it at one input. -/
def encodeBackWrong : ChangeSpec := { name := "encodeBack", fn := fun _ => fun
  | [d] => { results := [.lit (.bool false)], args := [d] }
  | _ => none }
def EncodeBackWrongFalsely : Prop := encodeBackRow.holds Try.pinned (OpenSpec.ofChange encodeBackWrong)

/-- 'coronerlaw04.EncodeOne': WHATEVER THE INPUT: true; the input reads as it did. -/
def encodeOneSpec : ChangeSpec := { name := "encodeOne", fn := fun _ => fun
  | [d] => { results := [.lit (.bool true)], args := [d] }
  | _ => none }
def encodeOneRow : OpenClaim := { program := "ytigmgkcojifbcaa", sum := "a202875383150622611ee50ff5b07e577e0d255f8c241bc458089e76d737e267", func := "coroner/coronerlaw04.EncodeOne", spec := "encodeOne", inPlace := ["internal/abi.NoEscape", "internal/bytealg.MakeNoZero"], plainKeys := false, apart := false }
def EncodeOneSaid : Prop := encodeOneRow.holds Try.pinned (OpenSpec.ofChange encodeOneSpec)

/-- ITS FALSE NEIGHBOUR: 'it returns false'. Refute it at one input. -/
def encodeOneWrong : ChangeSpec := { name := "encodeOne", fn := fun _ => fun
  | [d] => { results := [.lit (.bool false)], args := [d] }
  | _ => none }
def EncodeOneWrongFalsely : Prop := encodeOneRow.holds Try.pinned (OpenSpec.ofChange encodeOneWrong)

/-- 'coronerlaw04.EncodeMost': WHATEVER THE INPUT: true; the input reads as it did. -/
def encodeMostSpec : ChangeSpec := { name := "encodeMost", fn := fun _ => fun
  | [d1, d2, d3] => { results := [.lit (.bool true)], args := [d1, d2, d3] }
  | _ => none }
def encodeMostRow : OpenClaim := { program := "ytigmgkcojifbcaa", sum := "a202875383150622611ee50ff5b07e577e0d255f8c241bc458089e76d737e267", func := "coroner/coronerlaw04.EncodeMost", spec := "encodeMost", inPlace := ["internal/abi.NoEscape", "internal/bytealg.MakeNoZero"], plainKeys := false, apart := false }
def EncodeMostSaid : Prop := encodeMostRow.holds Try.pinned (OpenSpec.ofChange encodeMostSpec)

/-- ITS FALSE NEIGHBOUR: 'it returns false'. Refute it at one input. -/
def encodeMostWrong : ChangeSpec := { name := "encodeMost", fn := fun _ => fun
  | [d1, d2, d3] => { results := [.lit (.bool false)], args := [d1, d2, d3] }
  | _ => none }
def EncodeMostWrongFalsely : Prop := encodeMostRow.holds Try.pinned (OpenSpec.ofChange encodeMostWrong)

/- THE SECOND FORM. 'bulk': how many values and letters a reading holds, each counted each time it is reached (what is shared counts as often as it is met; a slice's spare places count too). A statement '..UptoSaid' is the law's where the arguments, and the package variables that the reading takes, are together of bulk at most 1048576: NARROWER than '..Said'. Prove '..Said' where nothing that the law and all that it calls make is longer than what came in: it says more and counts as full. Else prove '..UptoSaid'. A law counts once. -/
mutual
def uptoBulk {H : Type} : DataW H → Nat
  | .lit (.string bytes) => bytes.length + 1
  | .lit _ => 1
  | .nil => 1
  | .ptr d => uptoBulk d + 1
  | .slice elems spare => uptoBulkAll elems + uptoBulkAll spare + 1
  | .agg parts => uptoBulkAll parts + 1
  | .iface _ d => uptoBulk d + 1
  | .map entries => uptoBulkEntries entries + 1
  | .held _ => 1
def uptoBulkAll {H : Type} : List (DataW H) → Nat
  | [] => 0
  | d :: r => uptoBulk d + uptoBulkAll r
def uptoBulkEntries {H : Type} : List (Lit × DataW H) → Nat
  | [] => 0
  | x :: r => uptoBulkEntry x + uptoBulkEntries r
def uptoBulkEntry {H : Type} : Lit × DataW H → Nat
  | (.string bytes, d) => bytes.length + uptoBulk d + 1
  | (_, d) => uptoBulk d + 1
 end
def uptoSmall : (H : Type) → List (DataW H) → Bool := fun _ ds => decide (uptoBulkAll ds ≤ 1048576)
def OpenSpec.upto (s : _root_.Go.ChangeSpec) : _root_.Go.OpenSpec := { _root_.Go.OpenSpec.ofChange s with cond := some uptoSmall }

/-- 'coronerlaw04.EncodeTexts', WHERE WHAT IT READS IS OF BULK AT MOST 1048576: true; the input reads as it did. -/
def encodeTextsUptoRow : OpenClaim := { program := "ytigmgkcojifbcaa", sum := "a202875383150622611ee50ff5b07e577e0d255f8c241bc458089e76d737e267", func := "coroner/coronerlaw04.EncodeTexts", spec := "encodeTexts", inPlace := ["internal/abi.NoEscape", "internal/bytealg.MakeNoZero"], plainKeys := false, apart := false, narrowed := true }
def EncodeTextsUptoSaid : Prop := encodeTextsUptoRow.holds Try.pinned (OpenSpec.upto encodeTextsSpec)

/-- 'coronerlaw04.EncodeBack', WHERE WHAT IT READS IS OF BULK AT MOST 1048576: true; the input reads as it did. -/
def encodeBackUptoRow : OpenClaim := { program := "ytigmgkcojifbcaa", sum := "a202875383150622611ee50ff5b07e577e0d255f8c241bc458089e76d737e267", func := "coroner/coronerlaw04.EncodeBack", spec := "encodeBack", inPlace := ["internal/abi.NoEscape", "internal/bytealg.MakeNoZero"], plainKeys := false, apart := false, narrowed := true }
def EncodeBackUptoSaid : Prop := encodeBackUptoRow.holds Try.pinned (OpenSpec.upto encodeBackSpec)

/-- 'coronerlaw04.EncodeOne', WHERE WHAT IT READS IS OF BULK AT MOST 1048576: true; the input reads as it did. -/
def encodeOneUptoRow : OpenClaim := { program := "ytigmgkcojifbcaa", sum := "a202875383150622611ee50ff5b07e577e0d255f8c241bc458089e76d737e267", func := "coroner/coronerlaw04.EncodeOne", spec := "encodeOne", inPlace := ["internal/abi.NoEscape", "internal/bytealg.MakeNoZero"], plainKeys := false, apart := false, narrowed := true }
def EncodeOneUptoSaid : Prop := encodeOneUptoRow.holds Try.pinned (OpenSpec.upto encodeOneSpec)

/-- 'coronerlaw04.EncodeMost', WHERE WHAT IT READS IS OF BULK AT MOST 1048576: true; the input reads as it did. -/
def encodeMostUptoRow : OpenClaim := { program := "ytigmgkcojifbcaa", sum := "a202875383150622611ee50ff5b07e577e0d255f8c241bc458089e76d737e267", func := "coroner/coronerlaw04.EncodeMost", spec := "encodeMost", inPlace := ["internal/abi.NoEscape", "internal/bytealg.MakeNoZero"], plainKeys := false, apart := false, narrowed := true }
def EncodeMostUptoSaid : Prop := encodeMostUptoRow.holds Try.pinned (OpenSpec.upto encodeMostSpec)

end Rows
end Go.Proofs.Ytigmgkcojifbcaa
