/-
  No cell of these rows narrows 'for every input' (looked for: loops, veiled, ifaces, maps, wideKeys, modest, calm, conditions, laid).
  DERIVED. THE GIVEN ROWS OF THIS SEAT. 3 by the template 'for every input the law returns true; each argument reads behind the call as it read before'; 0 by the template 'total and deterministic' (their statements: YtopklnehhebhmaaTotals.lean).
  GIVEN WITH THE SEED: the statements are not yours to turn. If you find one false, say at which input.
  Laid BY PROGRAM, IN A SANDBOX (cutbox-rows.mjs): the forced cells as the released guide's own fill.sh prints them over the translation c44e2a444f117e50… (all of the seat's roots in one cut). By AI agents, Wed Nov 11 2026. No macro, syntax, notation, axiom, sorry.
-/
import Derived.Test.YtopklnehhebhmaaChecked
import GoSem.Claim
import GoSem.ClaimJoined
import GoSem.ClaimMapViews
import Derived.JoinedTies
import Derived.KernelRfl
namespace Go.Proofs.Ytopklnehhebhmaa
/- THE CELL 'sum', in the pinned program and in every row, IS THE sha256 OF THE DUMP (.gsa) THAT YtopklnehhebhmaaProg.lean LOADS. Nothing in Lean hashes anything: it is a label: what it is worth is what the hold of that sum in a sandbox is worth. -/
noncomputable def Try.pinned : Pinned := { name := "ytopklnehhebhmaa", sum := "c44e2a444f117e50d571e35e8879723564c8b194cf754b00a7e4f0fb203e4fc5", checked := Try.checked }
namespace Rows
def none {H : Type} : Left H := { results := [], args := [] }

/-- 'sinnetlaw15.ReportPrints': WHATEVER THE INPUT: true; the input reads as it did. -/
def reportPrintsSpec : ChangeSpec := { name := "reportPrints", fn := fun _ => fun
  | [d1, d2, d3] => { results := [.lit (.bool true)], args := [d1, d2, d3] }
  | _ => none }
def reportPrintsRow : OpenClaim := { program := "ytopklnehhebhmaa", sum := "c44e2a444f117e50d571e35e8879723564c8b194cf754b00a7e4f0fb203e4fc5", func := "sinnet/sinnetlaw15.ReportPrints", spec := "reportPrints", inPlace := ["slices.overlaps[sinnet/api.Event]"], unfollowed := true, recurses := true, apart := false }
def ReportPrintsSaid : Prop := reportPrintsRow.holds Try.pinned (OpenSpec.ofChange reportPrintsSpec)

/-- ITS FALSE NEIGHBOUR: 'it returns false'. Refute it at one input. -/
def reportPrintsWrong : ChangeSpec := { name := "reportPrints", fn := fun _ => fun
  | [d1, d2, d3] => { results := [.lit (.bool false)], args := [d1, d2, d3] }
  | _ => none }
def ReportPrintsWrongFalsely : Prop := reportPrintsRow.holds Try.pinned (OpenSpec.ofChange reportPrintsWrong)

/-- 'sinnetlaw15.ReportMerges': WHATEVER THE INPUT: true; the input reads as it did. -/
def reportMergesSpec : ChangeSpec := { name := "reportMerges", fn := fun _ => fun
  | [d1, d2, d3] => { results := [.lit (.bool true)], args := [d1, d2, d3] }
  | _ => none }
def reportMergesRow : OpenClaim := { program := "ytopklnehhebhmaa", sum := "c44e2a444f117e50d571e35e8879723564c8b194cf754b00a7e4f0fb203e4fc5", func := "sinnet/sinnetlaw15.ReportMerges", spec := "reportMerges", inPlace := ["slices.overlaps[sinnet/api.Event]"], unfollowed := true, recurses := true, apart := false }
def ReportMergesSaid : Prop := reportMergesRow.holds Try.pinned (OpenSpec.ofChange reportMergesSpec)

/-- ITS FALSE NEIGHBOUR: 'it returns false'. Refute it at one input. -/
def reportMergesWrong : ChangeSpec := { name := "reportMerges", fn := fun _ => fun
  | [d1, d2, d3] => { results := [.lit (.bool false)], args := [d1, d2, d3] }
  | _ => none }
def ReportMergesWrongFalsely : Prop := reportMergesRow.holds Try.pinned (OpenSpec.ofChange reportMergesWrong)

/-- 'sinnetlaw15.ReportUnion': WHATEVER THE INPUT: true; the input reads as it did. -/
def reportUnionSpec : ChangeSpec := { name := "reportUnion", fn := fun _ => fun
  | [d1, d2] => { results := [.lit (.bool true)], args := [d1, d2] }
  | _ => none }
def reportUnionRow : OpenClaim := { program := "ytopklnehhebhmaa", sum := "c44e2a444f117e50d571e35e8879723564c8b194cf754b00a7e4f0fb203e4fc5", func := "sinnet/sinnetlaw15.ReportUnion", spec := "reportUnion", inPlace := ["slices.overlaps[sinnet/api.Event]"], unfollowed := true, recurses := true, apart := false }
def ReportUnionSaid : Prop := reportUnionRow.holds Try.pinned (OpenSpec.ofChange reportUnionSpec)

/-- ITS FALSE NEIGHBOUR: 'it returns false'. Refute it at one input. -/
def reportUnionWrong : ChangeSpec := { name := "reportUnion", fn := fun _ => fun
  | [d1, d2] => { results := [.lit (.bool false)], args := [d1, d2] }
  | _ => none }
def ReportUnionWrongFalsely : Prop := reportUnionRow.holds Try.pinned (OpenSpec.ofChange reportUnionWrong)

/- THE SECOND FORM. 'bulk': how many values and letters a reading holds, each counted each time it is reached (what is shared counts as often as it is met; a slice's spare places count too). A statement '..UptoSaid' is the law's where the arguments, and the package variables that the reading takes, are together of bulk at most 1048576: NARROWER than '..Said'. Prove '..Said' where nothing that the law and all that it calls make is longer than what came in: it says more and counts as full. Else prove '..UptoSaid'. A law counts once. -/
mutual
def uptoBulk {H : Type} : DataW H → Nat
  | .lit (.string bytes) => bytes.length + 1
  | .lit _ => 1
  | .nil => 1
  | .ptr d => uptoBulk d + 1
  | .slice elems spare => uptoBulkAll elems + uptoBulkAll spare + 1
  | .agg parts => uptoBulkAll parts + 1
  | .iface _ d => uptoBulk d + 1
  | .map entries => uptoBulkEntries entries + 1
  | .held _ => 1
def uptoBulkAll {H : Type} : List (DataW H) → Nat
  | [] => 0
  | d :: r => uptoBulk d + uptoBulkAll r
def uptoBulkEntries {H : Type} : List (Lit × DataW H) → Nat
  | [] => 0
  | x :: r => uptoBulkEntry x + uptoBulkEntries r
def uptoBulkEntry {H : Type} : Lit × DataW H → Nat
  | (.string bytes, d) => bytes.length + uptoBulk d + 1
  | (_, d) => uptoBulk d + 1
 end
def uptoSmall : (H : Type) → List (DataW H) → Bool := fun _ ds => decide (uptoBulkAll ds ≤ 1048576)
def OpenSpec.upto (s : _root_.Go.ChangeSpec) : _root_.Go.OpenSpec := { _root_.Go.OpenSpec.ofChange s with cond := some uptoSmall }

/-- 'sinnetlaw15.ReportPrints', WHERE WHAT IT READS IS OF BULK AT MOST 1048576: true; the input reads as it did. -/
def reportPrintsUptoRow : OpenClaim := { program := "ytopklnehhebhmaa", sum := "c44e2a444f117e50d571e35e8879723564c8b194cf754b00a7e4f0fb203e4fc5", func := "sinnet/sinnetlaw15.ReportPrints", spec := "reportPrints", inPlace := ["slices.overlaps[sinnet/api.Event]"], unfollowed := true, recurses := true, apart := false, narrowed := true }
def ReportPrintsUptoSaid : Prop := reportPrintsUptoRow.holds Try.pinned (OpenSpec.upto reportPrintsSpec)

/-- 'sinnetlaw15.ReportMerges', WHERE WHAT IT READS IS OF BULK AT MOST 1048576: true; the input reads as it did. -/
def reportMergesUptoRow : OpenClaim := { program := "ytopklnehhebhmaa", sum := "c44e2a444f117e50d571e35e8879723564c8b194cf754b00a7e4f0fb203e4fc5", func := "sinnet/sinnetlaw15.ReportMerges", spec := "reportMerges", inPlace := ["slices.overlaps[sinnet/api.Event]"], unfollowed := true, recurses := true, apart := false, narrowed := true }
def ReportMergesUptoSaid : Prop := reportMergesUptoRow.holds Try.pinned (OpenSpec.upto reportMergesSpec)

/-- 'sinnetlaw15.ReportUnion', WHERE WHAT IT READS IS OF BULK AT MOST 1048576: true; the input reads as it did. -/
def reportUnionUptoRow : OpenClaim := { program := "ytopklnehhebhmaa", sum := "c44e2a444f117e50d571e35e8879723564c8b194cf754b00a7e4f0fb203e4fc5", func := "sinnet/sinnetlaw15.ReportUnion", spec := "reportUnion", inPlace := ["slices.overlaps[sinnet/api.Event]"], unfollowed := true, recurses := true, apart := false, narrowed := true }
def ReportUnionUptoSaid : Prop := reportUnionUptoRow.holds Try.pinned (OpenSpec.upto reportUnionSpec)

end Rows
end Go.Proofs.Ytopklnehhebhmaa
