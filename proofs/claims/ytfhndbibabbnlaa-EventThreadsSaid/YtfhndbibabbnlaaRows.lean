/-
  No cell of these rows narrows 'for every input' (looked for: loops, veiled, ifaces, maps, wideKeys, modest, calm, conditions, laid).
  DERIVED. THE GIVEN ROWS OF THIS SEAT. 6 by the template 'for every input the law returns true; each argument reads behind the call as it read before'; 0 by the template 'total and deterministic' (their statements: YtfhndbibabbnlaaTotals.lean).
  GIVEN WITH THE SEED: the statements are not yours to turn. If you find one false, say at which input.
  Laid BY PROGRAM, IN A SANDBOX (cutbox-rows.mjs): the forced cells as the released guide's own fill.sh prints them over the translation e56a8a8d2a216d74… (all of the seat's roots in one cut). By AI agents, Wed Nov 11 2026. No macro, syntax, notation, axiom, sorry.
-/
import Derived.Test.YtfhndbibabbnlaaChecked
import GoSem.Claim
import GoSem.ClaimJoined
import GoSem.ClaimMapViews
import Derived.JoinedTies
import Derived.KernelRfl
namespace Go.Proofs.Ytfhndbibabbnlaa
/- THE CELL 'sum', in the pinned program and in every row, IS THE sha256 OF THE DUMP (.gsa) THAT YtfhndbibabbnlaaProg.lean LOADS. Nothing in Lean hashes anything: it is a label: what it is worth is what the hold of that sum in a sandbox is worth. -/
noncomputable def Try.pinned : Pinned := { name := "ytfhndbibabbnlaa", sum := "e56a8a8d2a216d745e70ef296c57b7ee813ecbc74baf37ac2d9a9b54c0b5ab66", checked := Try.checked }
namespace Rows
def none {H : Type} : Left H := { results := [], args := [] }

/-- 'sinnetlaw03.EventTells': WHATEVER THE INPUT: true; the input reads as it did. -/
def eventTellsSpec : ChangeSpec := { name := "eventTells", fn := fun _ => fun
  | [d1, d2] => { results := [.lit (.bool true)], args := [d1, d2] }
  | _ => none }
def eventTellsRow : OpenClaim := { program := "ytfhndbibabbnlaa", sum := "e56a8a8d2a216d745e70ef296c57b7ee813ecbc74baf37ac2d9a9b54c0b5ab66", func := "sinnet/sinnetlaw03.EventTells", spec := "eventTells", apart := false }
def EventTellsSaid : Prop := eventTellsRow.holds Try.pinned (OpenSpec.ofChange eventTellsSpec)

/-- ITS FALSE NEIGHBOUR: 'it returns false'. Refute it at one input. -/
def eventTellsWrong : ChangeSpec := { name := "eventTells", fn := fun _ => fun
  | [d1, d2] => { results := [.lit (.bool false)], args := [d1, d2] }
  | _ => none }
def EventTellsWrongFalsely : Prop := eventTellsRow.holds Try.pinned (OpenSpec.ofChange eventTellsWrong)

/-- 'sinnetlaw03.EventReads': WHATEVER THE INPUT: true; the input reads as it did. -/
def eventReadsSpec : ChangeSpec := { name := "eventReads", fn := fun _ => fun
  | [d1, d2] => { results := [.lit (.bool true)], args := [d1, d2] }
  | _ => none }
def eventReadsRow : OpenClaim := { program := "ytfhndbibabbnlaa", sum := "e56a8a8d2a216d745e70ef296c57b7ee813ecbc74baf37ac2d9a9b54c0b5ab66", func := "sinnet/sinnetlaw03.EventReads", spec := "eventReads", apart := false }
def EventReadsSaid : Prop := eventReadsRow.holds Try.pinned (OpenSpec.ofChange eventReadsSpec)

/-- ITS FALSE NEIGHBOUR: 'it returns false'. Refute it at one input. -/
def eventReadsWrong : ChangeSpec := { name := "eventReads", fn := fun _ => fun
  | [d1, d2] => { results := [.lit (.bool false)], args := [d1, d2] }
  | _ => none }
def EventReadsWrongFalsely : Prop := eventReadsRow.holds Try.pinned (OpenSpec.ofChange eventReadsWrong)

/-- 'sinnetlaw03.EventSwaps': WHATEVER THE INPUT: true; the input reads as it did. -/
def eventSwapsSpec : ChangeSpec := { name := "eventSwaps", fn := fun _ => fun
  | [d1, d2, d3, d4, d5] => { results := [.lit (.bool true)], args := [d1, d2, d3, d4, d5] }
  | _ => none }
def eventSwapsRow : OpenClaim := { program := "ytfhndbibabbnlaa", sum := "e56a8a8d2a216d745e70ef296c57b7ee813ecbc74baf37ac2d9a9b54c0b5ab66", func := "sinnet/sinnetlaw03.EventSwaps", spec := "eventSwaps", unfollowed := true, recurses := true, apart := false }
def EventSwapsSaid : Prop := eventSwapsRow.holds Try.pinned (OpenSpec.ofChange eventSwapsSpec)

/-- ITS FALSE NEIGHBOUR: 'it returns false'. Refute it at one input. -/
def eventSwapsWrong : ChangeSpec := { name := "eventSwaps", fn := fun _ => fun
  | [d1, d2, d3, d4, d5] => { results := [.lit (.bool false)], args := [d1, d2, d3, d4, d5] }
  | _ => none }
def EventSwapsWrongFalsely : Prop := eventSwapsRow.holds Try.pinned (OpenSpec.ofChange eventSwapsWrong)

/-- 'sinnetlaw03.EventBytes': WHATEVER THE INPUT: true; the input reads as it did. -/
def eventBytesSpec : ChangeSpec := { name := "eventBytes", fn := fun _ => fun
  | [d1, d2] => { results := [.lit (.bool true)], args := [d1, d2] }
  | _ => none }
def eventBytesRow : OpenClaim := { program := "ytfhndbibabbnlaa", sum := "e56a8a8d2a216d745e70ef296c57b7ee813ecbc74baf37ac2d9a9b54c0b5ab66", func := "sinnet/sinnetlaw03.EventBytes", spec := "eventBytes", apart := false }
def EventBytesSaid : Prop := eventBytesRow.holds Try.pinned (OpenSpec.ofChange eventBytesSpec)

/-- ITS FALSE NEIGHBOUR: 'it returns false'. Refute it at one input. -/
def eventBytesWrong : ChangeSpec := { name := "eventBytes", fn := fun _ => fun
  | [d1, d2] => { results := [.lit (.bool false)], args := [d1, d2] }
  | _ => none }
def EventBytesWrongFalsely : Prop := eventBytesRow.holds Try.pinned (OpenSpec.ofChange eventBytesWrong)

/-- 'sinnetlaw03.EventRoots': WHATEVER THE INPUT: true; the input reads as it did. -/
def eventRootsSpec : ChangeSpec := { name := "eventRoots", fn := fun _ => fun
  | [d1, d2] => { results := [.lit (.bool true)], args := [d1, d2] }
  | _ => none }
def eventRootsRow : OpenClaim := { program := "ytfhndbibabbnlaa", sum := "e56a8a8d2a216d745e70ef296c57b7ee813ecbc74baf37ac2d9a9b54c0b5ab66", func := "sinnet/sinnetlaw03.EventRoots", spec := "eventRoots", unfollowed := true, recurses := true, apart := false }
def EventRootsSaid : Prop := eventRootsRow.holds Try.pinned (OpenSpec.ofChange eventRootsSpec)

/-- ITS FALSE NEIGHBOUR: 'it returns false'. Refute it at one input. -/
def eventRootsWrong : ChangeSpec := { name := "eventRoots", fn := fun _ => fun
  | [d1, d2] => { results := [.lit (.bool false)], args := [d1, d2] }
  | _ => none }
def EventRootsWrongFalsely : Prop := eventRootsRow.holds Try.pinned (OpenSpec.ofChange eventRootsWrong)

/-- 'sinnetlaw03.EventThreads': WHATEVER THE INPUT: true; the input reads as it did. -/
def eventThreadsSpec : ChangeSpec := { name := "eventThreads", fn := fun _ => fun
  | [d1, d2, d3] => { results := [.lit (.bool true)], args := [d1, d2, d3] }
  | _ => none }
def eventThreadsRow : OpenClaim := { program := "ytfhndbibabbnlaa", sum := "e56a8a8d2a216d745e70ef296c57b7ee813ecbc74baf37ac2d9a9b54c0b5ab66", func := "sinnet/sinnetlaw03.EventThreads", spec := "eventThreads", unfollowed := true, recurses := true, apart := false }
def EventThreadsSaid : Prop := eventThreadsRow.holds Try.pinned (OpenSpec.ofChange eventThreadsSpec)

/-- ITS FALSE NEIGHBOUR: 'it returns false'. Refute it at one input. -/
def eventThreadsWrong : ChangeSpec := { name := "eventThreads", fn := fun _ => fun
  | [d1, d2, d3] => { results := [.lit (.bool false)], args := [d1, d2, d3] }
  | _ => none }
def EventThreadsWrongFalsely : Prop := eventThreadsRow.holds Try.pinned (OpenSpec.ofChange eventThreadsWrong)

/- THE SECOND FORM. 'bulk': how many values and letters a reading holds, each counted each time it is reached (what is shared counts as often as it is met; a slice's spare places count too). A statement '..UptoSaid' is the law's where the arguments, and the package variables that the reading takes, are together of bulk at most 1048576: NARROWER than '..Said'. Prove '..Said' where nothing that the law and all that it calls make is longer than what came in: it says more and counts as full. Else prove '..UptoSaid'. A law counts once. -/
mutual
def uptoBulk {H : Type} : DataW H → Nat
  | .lit (.string bytes) => bytes.length + 1
  | .lit _ => 1
  | .nil => 1
  | .ptr d => uptoBulk d + 1
  | .slice elems spare => uptoBulkAll elems + uptoBulkAll spare + 1
  | .agg parts => uptoBulkAll parts + 1
  | .iface _ d => uptoBulk d + 1
  | .map entries => uptoBulkEntries entries + 1
  | .held _ => 1
def uptoBulkAll {H : Type} : List (DataW H) → Nat
  | [] => 0
  | d :: r => uptoBulk d + uptoBulkAll r
def uptoBulkEntries {H : Type} : List (Lit × DataW H) → Nat
  | [] => 0
  | x :: r => uptoBulkEntry x + uptoBulkEntries r
def uptoBulkEntry {H : Type} : Lit × DataW H → Nat
  | (.string bytes, d) => bytes.length + uptoBulk d + 1
  | (_, d) => uptoBulk d + 1
 end
def uptoSmall : (H : Type) → List (DataW H) → Bool := fun _ ds => decide (uptoBulkAll ds ≤ 1048576)
def OpenSpec.upto (s : _root_.Go.ChangeSpec) : _root_.Go.OpenSpec := { _root_.Go.OpenSpec.ofChange s with cond := some uptoSmall }

/-- 'sinnetlaw03.EventTells', WHERE WHAT IT READS IS OF BULK AT MOST 1048576: true; the input reads as it did. -/
def eventTellsUptoRow : OpenClaim := { program := "ytfhndbibabbnlaa", sum := "e56a8a8d2a216d745e70ef296c57b7ee813ecbc74baf37ac2d9a9b54c0b5ab66", func := "sinnet/sinnetlaw03.EventTells", spec := "eventTells", apart := false, narrowed := true }
def EventTellsUptoSaid : Prop := eventTellsUptoRow.holds Try.pinned (OpenSpec.upto eventTellsSpec)

/-- 'sinnetlaw03.EventReads', WHERE WHAT IT READS IS OF BULK AT MOST 1048576: true; the input reads as it did. -/
def eventReadsUptoRow : OpenClaim := { program := "ytfhndbibabbnlaa", sum := "e56a8a8d2a216d745e70ef296c57b7ee813ecbc74baf37ac2d9a9b54c0b5ab66", func := "sinnet/sinnetlaw03.EventReads", spec := "eventReads", apart := false, narrowed := true }
def EventReadsUptoSaid : Prop := eventReadsUptoRow.holds Try.pinned (OpenSpec.upto eventReadsSpec)

/-- 'sinnetlaw03.EventSwaps', WHERE WHAT IT READS IS OF BULK AT MOST 1048576: true; the input reads as it did. -/
def eventSwapsUptoRow : OpenClaim := { program := "ytfhndbibabbnlaa", sum := "e56a8a8d2a216d745e70ef296c57b7ee813ecbc74baf37ac2d9a9b54c0b5ab66", func := "sinnet/sinnetlaw03.EventSwaps", spec := "eventSwaps", unfollowed := true, recurses := true, apart := false, narrowed := true }
def EventSwapsUptoSaid : Prop := eventSwapsUptoRow.holds Try.pinned (OpenSpec.upto eventSwapsSpec)

/-- 'sinnetlaw03.EventBytes', WHERE WHAT IT READS IS OF BULK AT MOST 1048576: true; the input reads as it did. -/
def eventBytesUptoRow : OpenClaim := { program := "ytfhndbibabbnlaa", sum := "e56a8a8d2a216d745e70ef296c57b7ee813ecbc74baf37ac2d9a9b54c0b5ab66", func := "sinnet/sinnetlaw03.EventBytes", spec := "eventBytes", apart := false, narrowed := true }
def EventBytesUptoSaid : Prop := eventBytesUptoRow.holds Try.pinned (OpenSpec.upto eventBytesSpec)

/-- 'sinnetlaw03.EventRoots', WHERE WHAT IT READS IS OF BULK AT MOST 1048576: true; the input reads as it did. -/
def eventRootsUptoRow : OpenClaim := { program := "ytfhndbibabbnlaa", sum := "e56a8a8d2a216d745e70ef296c57b7ee813ecbc74baf37ac2d9a9b54c0b5ab66", func := "sinnet/sinnetlaw03.EventRoots", spec := "eventRoots", unfollowed := true, recurses := true, apart := false, narrowed := true }
def EventRootsUptoSaid : Prop := eventRootsUptoRow.holds Try.pinned (OpenSpec.upto eventRootsSpec)

/-- 'sinnetlaw03.EventThreads', WHERE WHAT IT READS IS OF BULK AT MOST 1048576: true; the input reads as it did. -/
def eventThreadsUptoRow : OpenClaim := { program := "ytfhndbibabbnlaa", sum := "e56a8a8d2a216d745e70ef296c57b7ee813ecbc74baf37ac2d9a9b54c0b5ab66", func := "sinnet/sinnetlaw03.EventThreads", spec := "eventThreads", unfollowed := true, recurses := true, apart := false, narrowed := true }
def EventThreadsUptoSaid : Prop := eventThreadsUptoRow.holds Try.pinned (OpenSpec.upto eventThreadsSpec)

end Rows
end Go.Proofs.Ytfhndbibabbnlaa
