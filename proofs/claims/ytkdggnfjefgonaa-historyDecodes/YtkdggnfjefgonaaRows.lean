/-
  No cell of these rows narrows 'for every input' (looked for: loops, veiled, ifaces, maps, wideKeys, modest, calm, conditions, laid).
  DERIVED. THE GIVEN ROWS OF THIS SEAT. 4 by the template 'for every input the law returns true; each argument reads behind the call as it read before'; 0 by the template 'total and deterministic' (their statements: YtkdggnfjefgonaaTotals.lean).
  GIVEN WITH THE SEED: the statements are not yours to turn. If you find one false, say at which input.
  Laid BY PROGRAM, IN A SANDBOX (cutbox-rows.mjs): the forced cells as the released guide's own fill.sh prints them over the translation 0700cede37bf753b… (all of the seat's roots in one cut). By AI agents, Wed Nov 11 2026. No macro, syntax, notation, axiom, sorry.
-/
import Derived.Test.YtkdggnfjefgonaaChecked
import GoSem.Claim
import GoSem.ClaimJoined
import GoSem.ClaimMapViews
import Derived.JoinedTies
import Derived.KernelRfl
namespace Go.Proofs.Ytkdggnfjefgonaa
/- THE CELL 'sum', in the pinned program and in every row, IS THE sha256 OF THE DUMP (.gsa) THAT YtkdggnfjefgonaaProg.lean LOADS. Nothing in Lean hashes anything: it is a label: what it is worth is what the hold of that sum in a sandbox is worth. -/
noncomputable def Try.pinned : Pinned := { name := "ytkdggnfjefgonaa", sum := "0700cede37bf753b3acfb3380beada154f78466e8d3c396375afd5ed9357a8a3", checked := Try.checked }
namespace Rows
def none {H : Type} : Left H := { results := [], args := [] }

/-- 'coronerlaw03.HistoryDecodes': WHATEVER THE INPUT: true; the input reads as it did. -/
def historyDecodesSpec : ChangeSpec := { name := "historyDecodes", fn := fun _ => fun
  | [d1, d2] => { results := [.lit (.bool true)], args := [d1, d2] }
  | _ => none }
def historyDecodesRow : OpenClaim := { program := "ytkdggnfjefgonaa", sum := "0700cede37bf753b3acfb3380beada154f78466e8d3c396375afd5ed9357a8a3", func := "coroner/coronerlaw03.HistoryDecodes", spec := "historyDecodes", unfollowed := true, recurses := true, plainKeys := false, apart := false }
def HistoryDecodesSaid : Prop := historyDecodesRow.holds Try.pinned (OpenSpec.ofChange historyDecodesSpec)

/-- ITS FALSE NEIGHBOUR: 'it returns false'. Refute it at one input. -/
def historyDecodesWrong : ChangeSpec := { name := "historyDecodes", fn := fun _ => fun
  | [d1, d2] => { results := [.lit (.bool false)], args := [d1, d2] }
  | _ => none }
def HistoryDecodesWrongFalsely : Prop := historyDecodesRow.holds Try.pinned (OpenSpec.ofChange historyDecodesWrong)

/-- 'coronerlaw03.HistorySame': WHATEVER THE INPUT: true; the input reads as it did. -/
def historySameSpec : ChangeSpec := { name := "historySame", fn := fun _ => fun
  | [d1, d2] => { results := [.lit (.bool true)], args := [d1, d2] }
  | _ => none }
def historySameRow : OpenClaim := { program := "ytkdggnfjefgonaa", sum := "0700cede37bf753b3acfb3380beada154f78466e8d3c396375afd5ed9357a8a3", func := "coroner/coronerlaw03.HistorySame", spec := "historySame", unfollowed := true, recurses := true, plainKeys := false, apart := false }
def HistorySameSaid : Prop := historySameRow.holds Try.pinned (OpenSpec.ofChange historySameSpec)

/-- ITS FALSE NEIGHBOUR: 'it returns false'. Refute it at one input. -/
def historySameWrong : ChangeSpec := { name := "historySame", fn := fun _ => fun
  | [d1, d2] => { results := [.lit (.bool false)], args := [d1, d2] }
  | _ => none }
def HistorySameWrongFalsely : Prop := historySameRow.holds Try.pinned (OpenSpec.ofChange historySameWrong)

/-- 'coronerlaw03.HistoryLines': WHATEVER THE INPUT: true; the input reads as it did. -/
def historyLinesSpec : ChangeSpec := { name := "historyLines", fn := fun _ => fun
  | [d1, d2, d3] => { results := [.lit (.bool true)], args := [d1, d2, d3] }
  | _ => none }
def historyLinesRow : OpenClaim := { program := "ytkdggnfjefgonaa", sum := "0700cede37bf753b3acfb3380beada154f78466e8d3c396375afd5ed9357a8a3", func := "coroner/coronerlaw03.HistoryLines", spec := "historyLines", unfollowed := true, recurses := true, plainKeys := false, apart := false }
def HistoryLinesSaid : Prop := historyLinesRow.holds Try.pinned (OpenSpec.ofChange historyLinesSpec)

/-- ITS FALSE NEIGHBOUR: 'it returns false'. Refute it at one input. -/
def historyLinesWrong : ChangeSpec := { name := "historyLines", fn := fun _ => fun
  | [d1, d2, d3] => { results := [.lit (.bool false)], args := [d1, d2, d3] }
  | _ => none }
def HistoryLinesWrongFalsely : Prop := historyLinesRow.holds Try.pinned (OpenSpec.ofChange historyLinesWrong)

/-- 'coronerlaw03.HistoryMost': WHATEVER THE INPUT: true; the input reads as it did. -/
def historyMostSpec : ChangeSpec := { name := "historyMost", fn := fun _ => fun
  | [d1, d2] => { results := [.lit (.bool true)], args := [d1, d2] }
  | _ => none }
def historyMostRow : OpenClaim := { program := "ytkdggnfjefgonaa", sum := "0700cede37bf753b3acfb3380beada154f78466e8d3c396375afd5ed9357a8a3", func := "coroner/coronerlaw03.HistoryMost", spec := "historyMost", unfollowed := true, recurses := true, plainKeys := false, apart := false }
def HistoryMostSaid : Prop := historyMostRow.holds Try.pinned (OpenSpec.ofChange historyMostSpec)

/-- ITS FALSE NEIGHBOUR: 'it returns false'. Refute it at one input. -/
def historyMostWrong : ChangeSpec := { name := "historyMost", fn := fun _ => fun
  | [d1, d2] => { results := [.lit (.bool false)], args := [d1, d2] }
  | _ => none }
def HistoryMostWrongFalsely : Prop := historyMostRow.holds Try.pinned (OpenSpec.ofChange historyMostWrong)

/- THE SECOND FORM. 'bulk': how many values and letters a reading holds, each counted each time it is reached (what is shared counts as often as it is met; a slice's spare places count too). A statement '..UptoSaid' is the law's where the arguments, and the package variables that the reading takes, are together of bulk at most 1048576: NARROWER than '..Said'. Prove '..Said' where nothing that the law and all that it calls make is longer than what came in: it says more and counts as full. Else prove '..UptoSaid'. A law counts once. -/
mutual
def uptoBulk {H : Type} : DataW H → Nat
  | .lit (.string bytes) => bytes.length + 1
  | .lit _ => 1
  | .nil => 1
  | .ptr d => uptoBulk d + 1
  | .slice elems spare => uptoBulkAll elems + uptoBulkAll spare + 1
  | .agg parts => uptoBulkAll parts + 1
  | .iface _ d => uptoBulk d + 1
  | .map entries => uptoBulkEntries entries + 1
  | .held _ => 1
def uptoBulkAll {H : Type} : List (DataW H) → Nat
  | [] => 0
  | d :: r => uptoBulk d + uptoBulkAll r
def uptoBulkEntries {H : Type} : List (Lit × DataW H) → Nat
  | [] => 0
  | x :: r => uptoBulkEntry x + uptoBulkEntries r
def uptoBulkEntry {H : Type} : Lit × DataW H → Nat
  | (.string bytes, d) => bytes.length + uptoBulk d + 1
  | (_, d) => uptoBulk d + 1
 end
def uptoSmall : (H : Type) → List (DataW H) → Bool := fun _ ds => decide (uptoBulkAll ds ≤ 1048576)
def OpenSpec.upto (s : _root_.Go.ChangeSpec) : _root_.Go.OpenSpec := { _root_.Go.OpenSpec.ofChange s with cond := some uptoSmall }

/-- 'coronerlaw03.HistoryDecodes', WHERE WHAT IT READS IS OF BULK AT MOST 1048576: true; the input reads as it did. -/
def historyDecodesUptoRow : OpenClaim := { program := "ytkdggnfjefgonaa", sum := "0700cede37bf753b3acfb3380beada154f78466e8d3c396375afd5ed9357a8a3", func := "coroner/coronerlaw03.HistoryDecodes", spec := "historyDecodes", unfollowed := true, recurses := true, plainKeys := false, apart := false, narrowed := true }
def HistoryDecodesUptoSaid : Prop := historyDecodesUptoRow.holds Try.pinned (OpenSpec.upto historyDecodesSpec)

/-- 'coronerlaw03.HistorySame', WHERE WHAT IT READS IS OF BULK AT MOST 1048576: true; the input reads as it did. -/
def historySameUptoRow : OpenClaim := { program := "ytkdggnfjefgonaa", sum := "0700cede37bf753b3acfb3380beada154f78466e8d3c396375afd5ed9357a8a3", func := "coroner/coronerlaw03.HistorySame", spec := "historySame", unfollowed := true, recurses := true, plainKeys := false, apart := false, narrowed := true }
def HistorySameUptoSaid : Prop := historySameUptoRow.holds Try.pinned (OpenSpec.upto historySameSpec)

/-- 'coronerlaw03.HistoryLines', WHERE WHAT IT READS IS OF BULK AT MOST 1048576: true; the input reads as it did. -/
def historyLinesUptoRow : OpenClaim := { program := "ytkdggnfjefgonaa", sum := "0700cede37bf753b3acfb3380beada154f78466e8d3c396375afd5ed9357a8a3", func := "coroner/coronerlaw03.HistoryLines", spec := "historyLines", unfollowed := true, recurses := true, plainKeys := false, apart := false, narrowed := true }
def HistoryLinesUptoSaid : Prop := historyLinesUptoRow.holds Try.pinned (OpenSpec.upto historyLinesSpec)

/-- 'coronerlaw03.HistoryMost', WHERE WHAT IT READS IS OF BULK AT MOST 1048576: true; the input reads as it did. -/
def historyMostUptoRow : OpenClaim := { program := "ytkdggnfjefgonaa", sum := "0700cede37bf753b3acfb3380beada154f78466e8d3c396375afd5ed9357a8a3", func := "coroner/coronerlaw03.HistoryMost", spec := "historyMost", unfollowed := true, recurses := true, plainKeys := false, apart := false, narrowed := true }
def HistoryMostUptoSaid : Prop := historyMostUptoRow.holds Try.pinned (OpenSpec.upto historyMostSpec)

end Rows
end Go.Proofs.Ytkdggnfjefgonaa
