/-
  No cell of these rows narrows 'for every input' (looked for: loops, veiled, ifaces, maps, wideKeys, modest, calm, conditions, laid).
  DERIVED. THE GIVEN ROWS OF THIS SEAT. 5 by the template 'for every input the law returns true; each argument reads behind the call as it read before'; 0 by the template 'total and deterministic' (their statements: YtbmhcnldcfaipaaTotals.lean).
  GIVEN WITH THE SEED: the statements are not yours to turn. If you find one false, say at which input.
  Laid BY PROGRAM, IN A SANDBOX (cutbox-rows.mjs): the forced cells as the released guide's own fill.sh prints them over the translation b7c79918e31e8fcb… (all of the seat's roots in one cut). By AI agents, Wed Nov 11 2026. No macro, syntax, notation, axiom, sorry.
-/
import Derived.Test.YtbmhcnldcfaipaaChecked
import GoSem.Claim
import GoSem.ClaimJoined
import GoSem.ClaimMapViews
import Derived.JoinedTies
import Derived.KernelRfl
namespace Go.Proofs.Ytbmhcnldcfaipaa
/- THE CELL 'sum', in the pinned program and in every row, IS THE sha256 OF THE DUMP (.gsa) THAT YtbmhcnldcfaipaaProg.lean LOADS. Nothing in Lean hashes anything: it is a label: what it is worth is what the hold of that sum in a sandbox is worth. -/
noncomputable def Try.pinned : Pinned := { name := "ytbmhcnldcfaipaa", sum := "b7c79918e31e8fcbe34cbf6c66dec4b3c294ca7487c8a2ef57c30aee20141f5f", checked := Try.checked }
namespace Rows
def none {H : Type} : Left H := { results := [], args := [] }

/-- 'sinnetlaw08.SleepSets': WHATEVER THE INPUT: true; the input reads as it did. -/
def sleepSetsSpec : ChangeSpec := { name := "sleepSets", fn := fun _ => fun
  | [d1, d2, d3, d4] => { results := [.lit (.bool true)], args := [d1, d2, d3, d4] }
  | _ => none }
def sleepSetsRow : OpenClaim := { program := "ytbmhcnldcfaipaa", sum := "b7c79918e31e8fcbe34cbf6c66dec4b3c294ca7487c8a2ef57c30aee20141f5f", func := "sinnet/sinnetlaw08.SleepSets", spec := "sleepSets", apart := false }
def SleepSetsSaid : Prop := sleepSetsRow.holds Try.pinned (OpenSpec.ofChange sleepSetsSpec)

/-- ITS FALSE NEIGHBOUR: 'it returns false'. Refute it at one input. -/
def sleepSetsWrong : ChangeSpec := { name := "sleepSets", fn := fun _ => fun
  | [d1, d2, d3, d4] => { results := [.lit (.bool false)], args := [d1, d2, d3, d4] }
  | _ => none }
def SleepSetsWrongFalsely : Prop := sleepSetsRow.holds Try.pinned (OpenSpec.ofChange sleepSetsWrong)

/-- 'sinnetlaw08.SleepTells': WHATEVER THE INPUT: true; the input reads as it did. -/
def sleepTellsSpec : ChangeSpec := { name := "sleepTells", fn := fun _ => fun
  | [d1, d2, d3, d4, d5, d6] => { results := [.lit (.bool true)], args := [d1, d2, d3, d4, d5, d6] }
  | _ => none }
def sleepTellsRow : OpenClaim := { program := "ytbmhcnldcfaipaa", sum := "b7c79918e31e8fcbe34cbf6c66dec4b3c294ca7487c8a2ef57c30aee20141f5f", func := "sinnet/sinnetlaw08.SleepTells", spec := "sleepTells", unfollowed := true, recurses := true, apart := false }
def SleepTellsSaid : Prop := sleepTellsRow.holds Try.pinned (OpenSpec.ofChange sleepTellsSpec)

/-- ITS FALSE NEIGHBOUR: 'it returns false'. Refute it at one input. -/
def sleepTellsWrong : ChangeSpec := { name := "sleepTells", fn := fun _ => fun
  | [d1, d2, d3, d4, d5, d6] => { results := [.lit (.bool false)], args := [d1, d2, d3, d4, d5, d6] }
  | _ => none }
def SleepTellsWrongFalsely : Prop := sleepTellsRow.holds Try.pinned (OpenSpec.ofChange sleepTellsWrong)

/-- 'sinnetlaw08.SleepLess': WHATEVER THE INPUT: true; the input reads as it did. -/
def sleepLessSpec : ChangeSpec := { name := "sleepLess", fn := fun _ => fun
  | [d1, d2, d3, d4, d5, d6] => { results := [.lit (.bool true)], args := [d1, d2, d3, d4, d5, d6] }
  | _ => none }
def sleepLessRow : OpenClaim := { program := "ytbmhcnldcfaipaa", sum := "b7c79918e31e8fcbe34cbf6c66dec4b3c294ca7487c8a2ef57c30aee20141f5f", func := "sinnet/sinnetlaw08.SleepLess", spec := "sleepLess", unfollowed := true, recurses := true, apart := false }
def SleepLessSaid : Prop := sleepLessRow.holds Try.pinned (OpenSpec.ofChange sleepLessSpec)

/-- ITS FALSE NEIGHBOUR: 'it returns false'. Refute it at one input. -/
def sleepLessWrong : ChangeSpec := { name := "sleepLess", fn := fun _ => fun
  | [d1, d2, d3, d4, d5, d6] => { results := [.lit (.bool false)], args := [d1, d2, d3, d4, d5, d6] }
  | _ => none }
def SleepLessWrongFalsely : Prop := sleepLessRow.holds Try.pinned (OpenSpec.ofChange sleepLessWrong)

/-- 'sinnetlaw08.SleepSwap': WHATEVER THE INPUT: true; the input reads as it did. -/
def sleepSwapSpec : ChangeSpec := { name := "sleepSwap", fn := fun _ => fun
  | [d1, d2, d3, d4, d5] => { results := [.lit (.bool true)], args := [d1, d2, d3, d4, d5] }
  | _ => none }
def sleepSwapRow : OpenClaim := { program := "ytbmhcnldcfaipaa", sum := "b7c79918e31e8fcbe34cbf6c66dec4b3c294ca7487c8a2ef57c30aee20141f5f", func := "sinnet/sinnetlaw08.SleepSwap", spec := "sleepSwap", unfollowed := true, recurses := true, apart := false }
def SleepSwapSaid : Prop := sleepSwapRow.holds Try.pinned (OpenSpec.ofChange sleepSwapSpec)

/-- ITS FALSE NEIGHBOUR: 'it returns false'. Refute it at one input. -/
def sleepSwapWrong : ChangeSpec := { name := "sleepSwap", fn := fun _ => fun
  | [d1, d2, d3, d4, d5] => { results := [.lit (.bool false)], args := [d1, d2, d3, d4, d5] }
  | _ => none }
def SleepSwapWrongFalsely : Prop := sleepSwapRow.holds Try.pinned (OpenSpec.ofChange sleepSwapWrong)

/-- 'sinnetlaw08.SleepLaws': WHATEVER THE INPUT: true; the input reads as it did. -/
def sleepLawsSpec : ChangeSpec := { name := "sleepLaws", fn := fun _ => fun
  | [d1, d2, d3] => { results := [.lit (.bool true)], args := [d1, d2, d3] }
  | _ => none }
def sleepLawsRow : OpenClaim := { program := "ytbmhcnldcfaipaa", sum := "b7c79918e31e8fcbe34cbf6c66dec4b3c294ca7487c8a2ef57c30aee20141f5f", func := "sinnet/sinnetlaw08.SleepLaws", spec := "sleepLaws", apart := false }
def SleepLawsSaid : Prop := sleepLawsRow.holds Try.pinned (OpenSpec.ofChange sleepLawsSpec)

/-- ITS FALSE NEIGHBOUR: 'it returns false'. Refute it at one input. -/
def sleepLawsWrong : ChangeSpec := { name := "sleepLaws", fn := fun _ => fun
  | [d1, d2, d3] => { results := [.lit (.bool false)], args := [d1, d2, d3] }
  | _ => none }
def SleepLawsWrongFalsely : Prop := sleepLawsRow.holds Try.pinned (OpenSpec.ofChange sleepLawsWrong)

/- THE SECOND FORM. 'bulk': how many values and letters a reading holds, each counted each time it is reached (what is shared counts as often as it is met; a slice's spare places count too). A statement '..UptoSaid' is the law's where the arguments, and the package variables that the reading takes, are together of bulk at most 1048576: NARROWER than '..Said'. Prove '..Said' where nothing that the law and all that it calls make is longer than what came in: it says more and counts as full. Else prove '..UptoSaid'. A law counts once. -/
mutual
def uptoBulk {H : Type} : DataW H → Nat
  | .lit (.string bytes) => bytes.length + 1
  | .lit _ => 1
  | .nil => 1
  | .ptr d => uptoBulk d + 1
  | .slice elems spare => uptoBulkAll elems + uptoBulkAll spare + 1
  | .agg parts => uptoBulkAll parts + 1
  | .iface _ d => uptoBulk d + 1
  | .map entries => uptoBulkEntries entries + 1
  | .held _ => 1
def uptoBulkAll {H : Type} : List (DataW H) → Nat
  | [] => 0
  | d :: r => uptoBulk d + uptoBulkAll r
def uptoBulkEntries {H : Type} : List (Lit × DataW H) → Nat
  | [] => 0
  | x :: r => uptoBulkEntry x + uptoBulkEntries r
def uptoBulkEntry {H : Type} : Lit × DataW H → Nat
  | (.string bytes, d) => bytes.length + uptoBulk d + 1
  | (_, d) => uptoBulk d + 1
 end
def uptoSmall : (H : Type) → List (DataW H) → Bool := fun _ ds => decide (uptoBulkAll ds ≤ 1048576)
def OpenSpec.upto (s : _root_.Go.ChangeSpec) : _root_.Go.OpenSpec := { _root_.Go.OpenSpec.ofChange s with cond := some uptoSmall }

/-- 'sinnetlaw08.SleepSets', WHERE WHAT IT READS IS OF BULK AT MOST 1048576: true; the input reads as it did. -/
def sleepSetsUptoRow : OpenClaim := { program := "ytbmhcnldcfaipaa", sum := "b7c79918e31e8fcbe34cbf6c66dec4b3c294ca7487c8a2ef57c30aee20141f5f", func := "sinnet/sinnetlaw08.SleepSets", spec := "sleepSets", apart := false, narrowed := true }
def SleepSetsUptoSaid : Prop := sleepSetsUptoRow.holds Try.pinned (OpenSpec.upto sleepSetsSpec)

/-- 'sinnetlaw08.SleepTells', WHERE WHAT IT READS IS OF BULK AT MOST 1048576: true; the input reads as it did. -/
def sleepTellsUptoRow : OpenClaim := { program := "ytbmhcnldcfaipaa", sum := "b7c79918e31e8fcbe34cbf6c66dec4b3c294ca7487c8a2ef57c30aee20141f5f", func := "sinnet/sinnetlaw08.SleepTells", spec := "sleepTells", unfollowed := true, recurses := true, apart := false, narrowed := true }
def SleepTellsUptoSaid : Prop := sleepTellsUptoRow.holds Try.pinned (OpenSpec.upto sleepTellsSpec)

/-- 'sinnetlaw08.SleepLess', WHERE WHAT IT READS IS OF BULK AT MOST 1048576: true; the input reads as it did. -/
def sleepLessUptoRow : OpenClaim := { program := "ytbmhcnldcfaipaa", sum := "b7c79918e31e8fcbe34cbf6c66dec4b3c294ca7487c8a2ef57c30aee20141f5f", func := "sinnet/sinnetlaw08.SleepLess", spec := "sleepLess", unfollowed := true, recurses := true, apart := false, narrowed := true }
def SleepLessUptoSaid : Prop := sleepLessUptoRow.holds Try.pinned (OpenSpec.upto sleepLessSpec)

/-- 'sinnetlaw08.SleepSwap', WHERE WHAT IT READS IS OF BULK AT MOST 1048576: true; the input reads as it did. -/
def sleepSwapUptoRow : OpenClaim := { program := "ytbmhcnldcfaipaa", sum := "b7c79918e31e8fcbe34cbf6c66dec4b3c294ca7487c8a2ef57c30aee20141f5f", func := "sinnet/sinnetlaw08.SleepSwap", spec := "sleepSwap", unfollowed := true, recurses := true, apart := false, narrowed := true }
def SleepSwapUptoSaid : Prop := sleepSwapUptoRow.holds Try.pinned (OpenSpec.upto sleepSwapSpec)

/-- 'sinnetlaw08.SleepLaws', WHERE WHAT IT READS IS OF BULK AT MOST 1048576: true; the input reads as it did. -/
def sleepLawsUptoRow : OpenClaim := { program := "ytbmhcnldcfaipaa", sum := "b7c79918e31e8fcbe34cbf6c66dec4b3c294ca7487c8a2ef57c30aee20141f5f", func := "sinnet/sinnetlaw08.SleepLaws", spec := "sleepLaws", apart := false, narrowed := true }
def SleepLawsUptoSaid : Prop := sleepLawsUptoRow.holds Try.pinned (OpenSpec.upto sleepLawsSpec)

end Rows
end Go.Proofs.Ytbmhcnldcfaipaa
