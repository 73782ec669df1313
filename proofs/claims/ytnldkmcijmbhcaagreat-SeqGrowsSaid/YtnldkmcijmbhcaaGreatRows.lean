/-
  No cell of these rows narrows 'for every input' (looked for: loops, veiled, ifaces, maps, wideKeys, modest, calm, conditions, laid).
  DERIVED. THE GIVEN ROWS OF THIS SEAT. 4 by the template 'for every input the law returns true; each argument reads behind the call as it read before'; 0 by the template 'total and deterministic' (their statements: YtnldkmcijmbhcaaGreatTotals.lean).
  GIVEN WITH THE SEED: the statements are not yours to turn. If you find one false, say at which input.
  Laid BY PROGRAM, IN A SANDBOX (cutbox-rows.mjs): the forced cells as the released guide's own fill.sh prints them over the translation b55f4990b25812b5… (all of the seat's roots in one cut). By AI agents, Wed Nov 11 2026. No macro, syntax, notation, axiom, sorry.
-/
import Derived.Test.YtnldkmcijmbhcaaGreatChecked
import GoSem.Claim
import GoSem.ClaimJoined
import GoSem.ClaimMapViews
import Derived.JoinedTies
import Derived.KernelRfl
namespace Go.Proofs.YtnldkmcijmbhcaaGreat
/- THE CELL 'sum', in the pinned program and in every row, IS THE sha256 OF THE DUMP (.gsa) THAT YtnldkmcijmbhcaaGreatProg.lean LOADS. Nothing in Lean hashes anything: it is a label: what it is worth is what the hold of that sum in a sandbox is worth. -/
noncomputable def Tryz.pinned : Pinned := { name := "ytnldkmcijmbhcaagreat", sum := "b55f4990b25812b55e87132092993dd6ddc5302a910c8db5a2f66ecea9f51fab", checked := Tryz.checked }
namespace Rows
def none {H : Type} : Left H := { results := [], args := [] }

/-- 'sinnetlaw09.SeqPart': WHATEVER THE INPUT: true; the input reads as it did. -/
def seqPartSpec : ChangeSpec := { name := "seqPart", fn := fun _ => fun
  | [d1, d2, d3, d4] => { results := [.lit (.bool true)], args := [d1, d2, d3, d4] }
  | _ => none }
def seqPartRow : OpenClaim := { program := "ytnldkmcijmbhcaagreat", sum := "b55f4990b25812b55e87132092993dd6ddc5302a910c8db5a2f66ecea9f51fab", func := "sinnet/sinnetlaw09.SeqPart", spec := "seqPart", inPlace := ["slices.overlaps[sinnet/api.Event]"], unfollowed := true, recurses := true, apart := false }
def SeqPartSaid : Prop := seqPartRow.holds Tryz.pinned (OpenSpec.ofChange seqPartSpec)

/-- ITS FALSE NEIGHBOUR: 'it returns false'. Refute it at one input. -/
def seqPartWrong : ChangeSpec := { name := "seqPart", fn := fun _ => fun
  | [d1, d2, d3, d4] => { results := [.lit (.bool false)], args := [d1, d2, d3, d4] }
  | _ => none }
def SeqPartWrongFalsely : Prop := seqPartRow.holds Tryz.pinned (OpenSpec.ofChange seqPartWrong)

/-- 'sinnetlaw09.SeqPlain': WHATEVER THE INPUT: true; the input reads as it did. -/
def seqPlainSpec : ChangeSpec := { name := "seqPlain", fn := fun _ => fun
  | [d1, d2, d3] => { results := [.lit (.bool true)], args := [d1, d2, d3] }
  | _ => none }
def seqPlainRow : OpenClaim := { program := "ytnldkmcijmbhcaagreat", sum := "b55f4990b25812b55e87132092993dd6ddc5302a910c8db5a2f66ecea9f51fab", func := "sinnet/sinnetlaw09.SeqPlain", spec := "seqPlain", inPlace := ["slices.overlaps[sinnet/api.Event]"], unfollowed := true, recurses := true, apart := false }
def SeqPlainSaid : Prop := seqPlainRow.holds Tryz.pinned (OpenSpec.ofChange seqPlainSpec)

/-- ITS FALSE NEIGHBOUR: 'it returns false'. Refute it at one input. -/
def seqPlainWrong : ChangeSpec := { name := "seqPlain", fn := fun _ => fun
  | [d1, d2, d3] => { results := [.lit (.bool false)], args := [d1, d2, d3] }
  | _ => none }
def SeqPlainWrongFalsely : Prop := seqPlainRow.holds Tryz.pinned (OpenSpec.ofChange seqPlainWrong)

/-- 'sinnetlaw09.SeqTurned': WHATEVER THE INPUT: true; the input reads as it did. -/
def seqTurnedSpec : ChangeSpec := { name := "seqTurned", fn := fun _ => fun
  | [d1, d2, d3, d4] => { results := [.lit (.bool true)], args := [d1, d2, d3, d4] }
  | _ => none }
def seqTurnedRow : OpenClaim := { program := "ytnldkmcijmbhcaagreat", sum := "b55f4990b25812b55e87132092993dd6ddc5302a910c8db5a2f66ecea9f51fab", func := "sinnet/sinnetlaw09.SeqTurned", spec := "seqTurned", inPlace := ["slices.overlaps[sinnet/api.Event]"], unfollowed := true, recurses := true, apart := false }
def SeqTurnedSaid : Prop := seqTurnedRow.holds Tryz.pinned (OpenSpec.ofChange seqTurnedSpec)

/-- ITS FALSE NEIGHBOUR: 'it returns false'. Refute it at one input. -/
def seqTurnedWrong : ChangeSpec := { name := "seqTurned", fn := fun _ => fun
  | [d1, d2, d3, d4] => { results := [.lit (.bool false)], args := [d1, d2, d3, d4] }
  | _ => none }
def SeqTurnedWrongFalsely : Prop := seqTurnedRow.holds Tryz.pinned (OpenSpec.ofChange seqTurnedWrong)

/-- 'sinnetlaw09.SeqGrows': WHATEVER THE INPUT: true; the input reads as it did. -/
def seqGrowsSpec : ChangeSpec := { name := "seqGrows", fn := fun _ => fun
  | [d1, d2, d3, d4, d5] => { results := [.lit (.bool true)], args := [d1, d2, d3, d4, d5] }
  | _ => none }
def seqGrowsRow : OpenClaim := { program := "ytnldkmcijmbhcaagreat", sum := "b55f4990b25812b55e87132092993dd6ddc5302a910c8db5a2f66ecea9f51fab", func := "sinnet/sinnetlaw09.SeqGrows", spec := "seqGrows", inPlace := ["slices.overlaps[sinnet/api.Event]"], unfollowed := true, recurses := true, apart := false }
def SeqGrowsSaid : Prop := seqGrowsRow.holds Tryz.pinned (OpenSpec.ofChange seqGrowsSpec)

/-- ITS FALSE NEIGHBOUR: 'it returns false'. Refute it at one input. -/
def seqGrowsWrong : ChangeSpec := { name := "seqGrows", fn := fun _ => fun
  | [d1, d2, d3, d4, d5] => { results := [.lit (.bool false)], args := [d1, d2, d3, d4, d5] }
  | _ => none }
def SeqGrowsWrongFalsely : Prop := seqGrowsRow.holds Tryz.pinned (OpenSpec.ofChange seqGrowsWrong)

/- THE SECOND FORM. 'bulk': how many values and letters a reading holds, each counted each time it is reached (what is shared counts as often as it is met; a slice's spare places count too). A statement '..UptoSaid' is the law's where the arguments, and the package variables that the reading takes, are together of bulk at most 1048576: NARROWER than '..Said'. Prove '..Said' where nothing that the law and all that it calls make is longer than what came in: it says more and counts as full. Else prove '..UptoSaid'. A law counts once. -/
mutual
def uptoBulk {H : Type} : DataW H → Nat
  | .lit (.string bytes) => bytes.length + 1
  | .lit _ => 1
  | .nil => 1
  | .ptr d => uptoBulk d + 1
  | .slice elems spare => uptoBulkAll elems + uptoBulkAll spare + 1
  | .agg parts => uptoBulkAll parts + 1
  | .iface _ d => uptoBulk d + 1
  | .map entries => uptoBulkEntries entries + 1
  | .held _ => 1
def uptoBulkAll {H : Type} : List (DataW H) → Nat
  | [] => 0
  | d :: r => uptoBulk d + uptoBulkAll r
def uptoBulkEntries {H : Type} : List (Lit × DataW H) → Nat
  | [] => 0
  | x :: r => uptoBulkEntry x + uptoBulkEntries r
def uptoBulkEntry {H : Type} : Lit × DataW H → Nat
  | (.string bytes, d) => bytes.length + uptoBulk d + 1
  | (_, d) => uptoBulk d + 1
 end
def uptoSmall : (H : Type) → List (DataW H) → Bool := fun _ ds => decide (uptoBulkAll ds ≤ 1048576)
def OpenSpec.upto (s : _root_.Go.ChangeSpec) : _root_.Go.OpenSpec := { _root_.Go.OpenSpec.ofChange s with cond := some uptoSmall }

/-- 'sinnetlaw09.SeqPart', WHERE WHAT IT READS IS OF BULK AT MOST 1048576: true; the input reads as it did. -/
def seqPartUptoRow : OpenClaim := { program := "ytnldkmcijmbhcaagreat", sum := "b55f4990b25812b55e87132092993dd6ddc5302a910c8db5a2f66ecea9f51fab", func := "sinnet/sinnetlaw09.SeqPart", spec := "seqPart", inPlace := ["slices.overlaps[sinnet/api.Event]"], unfollowed := true, recurses := true, apart := false, narrowed := true }
def SeqPartUptoSaid : Prop := seqPartUptoRow.holds Tryz.pinned (OpenSpec.upto seqPartSpec)

/-- 'sinnetlaw09.SeqPlain', WHERE WHAT IT READS IS OF BULK AT MOST 1048576: true; the input reads as it did. -/
def seqPlainUptoRow : OpenClaim := { program := "ytnldkmcijmbhcaagreat", sum := "b55f4990b25812b55e87132092993dd6ddc5302a910c8db5a2f66ecea9f51fab", func := "sinnet/sinnetlaw09.SeqPlain", spec := "seqPlain", inPlace := ["slices.overlaps[sinnet/api.Event]"], unfollowed := true, recurses := true, apart := false, narrowed := true }
def SeqPlainUptoSaid : Prop := seqPlainUptoRow.holds Tryz.pinned (OpenSpec.upto seqPlainSpec)

/-- 'sinnetlaw09.SeqTurned', WHERE WHAT IT READS IS OF BULK AT MOST 1048576: true; the input reads as it did. -/
def seqTurnedUptoRow : OpenClaim := { program := "ytnldkmcijmbhcaagreat", sum := "b55f4990b25812b55e87132092993dd6ddc5302a910c8db5a2f66ecea9f51fab", func := "sinnet/sinnetlaw09.SeqTurned", spec := "seqTurned", inPlace := ["slices.overlaps[sinnet/api.Event]"], unfollowed := true, recurses := true, apart := false, narrowed := true }
def SeqTurnedUptoSaid : Prop := seqTurnedUptoRow.holds Tryz.pinned (OpenSpec.upto seqTurnedSpec)

/-- 'sinnetlaw09.SeqGrows', WHERE WHAT IT READS IS OF BULK AT MOST 1048576: true; the input reads as it did. -/
def seqGrowsUptoRow : OpenClaim := { program := "ytnldkmcijmbhcaagreat", sum := "b55f4990b25812b55e87132092993dd6ddc5302a910c8db5a2f66ecea9f51fab", func := "sinnet/sinnetlaw09.SeqGrows", spec := "seqGrows", inPlace := ["slices.overlaps[sinnet/api.Event]"], unfollowed := true, recurses := true, apart := false, narrowed := true }
def SeqGrowsUptoSaid : Prop := seqGrowsUptoRow.holds Tryz.pinned (OpenSpec.upto seqGrowsSpec)

end Rows
end Go.Proofs.YtnldkmcijmbhcaaGreat
