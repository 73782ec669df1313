/-
  No cell of these rows narrows 'for every input' (looked for: loops, veiled, ifaces, maps, wideKeys, modest, calm, conditions, laid).
  DERIVED. THE GIVEN ROWS OF THIS SEAT. 7 by the template 'for every input the law returns true; each argument reads behind the call as it read before'; 0 by the template 'total and deterministic' (their statements: YtjfmmnhcddckaaaGreatTotals.lean).
  GIVEN WITH THE SEED: the statements are not yours to turn. If you find one false, say at which input.
  Laid BY PROGRAM, IN A SANDBOX (cutbox-rows.mjs): the forced cells as the released guide's own fill.sh prints them over the translation 22573468f609db2f… (all of the seat's roots in one cut). By AI agents, Wed Nov 11 2026. No macro, syntax, notation, axiom, sorry.
-/
import Derived.Test.YtjfmmnhcddckaaaGreatChecked
import GoSem.Claim
import GoSem.ClaimJoined
import GoSem.ClaimMapViews
import Derived.JoinedTies
import Derived.KernelRfl
namespace Go.Proofs.YtjfmmnhcddckaaaGreat
/- THE CELL 'sum', in the pinned program and in every row, IS THE sha256 OF THE DUMP (.gsa) THAT YtjfmmnhcddckaaaGreatProg.lean LOADS. Nothing in Lean hashes anything: it is a label: what it is worth is what the hold of that sum in a sandbox is worth. -/
noncomputable def Tryz.pinned : Pinned := { name := "ytjfmmnhcddckaaagreat", sum := "22573468f609db2f0461d4e5fb17ce811f911ae66f488cc1b6d1e75c1ccbbc1d", checked := Tryz.checked }
namespace Rows
def none {H : Type} : Left H := { results := [], args := [] }

/-- 'sinnetlaw14.MachineExact': WHATEVER THE INPUT: true; the input reads as it did. -/
def machineExactSpec : ChangeSpec := { name := "machineExact", fn := fun _ => fun
  | [d1, d2, d3, d4] => { results := [.lit (.bool true)], args := [d1, d2, d3, d4] }
  | _ => none }
def machineExactRow : OpenClaim := { program := "ytjfmmnhcddckaaagreat", sum := "22573468f609db2f0461d4e5fb17ce811f911ae66f488cc1b6d1e75c1ccbbc1d", func := "sinnet/sinnetlaw14.MachineExact", spec := "machineExact", inPlace := ["slices.overlaps[sinnet/api.Event]"], unfollowed := true, recurses := true, apart := false }
def MachineExactSaid : Prop := machineExactRow.holds Tryz.pinned (OpenSpec.ofChange machineExactSpec)

/-- ITS FALSE NEIGHBOUR: 'it returns false'. Refute it at one input. -/
def machineExactWrong : ChangeSpec := { name := "machineExact", fn := fun _ => fun
  | [d1, d2, d3, d4] => { results := [.lit (.bool false)], args := [d1, d2, d3, d4] }
  | _ => none }
def MachineExactWrongFalsely : Prop := machineExactRow.holds Tryz.pinned (OpenSpec.ofChange machineExactWrong)

/-- 'sinnetlaw14.MachineAny': WHATEVER THE INPUT: true; the input reads as it did. -/
def machineAnySpec : ChangeSpec := { name := "machineAny", fn := fun _ => fun
  | [d1, d2, d3, d4, d5] => { results := [.lit (.bool true)], args := [d1, d2, d3, d4, d5] }
  | _ => none }
def machineAnyRow : OpenClaim := { program := "ytjfmmnhcddckaaagreat", sum := "22573468f609db2f0461d4e5fb17ce811f911ae66f488cc1b6d1e75c1ccbbc1d", func := "sinnet/sinnetlaw14.MachineAny", spec := "machineAny", inPlace := ["slices.overlaps[sinnet/api.Event]"], unfollowed := true, recurses := true, apart := false }
def MachineAnySaid : Prop := machineAnyRow.holds Tryz.pinned (OpenSpec.ofChange machineAnySpec)

/-- ITS FALSE NEIGHBOUR: 'it returns false'. Refute it at one input. -/
def machineAnyWrong : ChangeSpec := { name := "machineAny", fn := fun _ => fun
  | [d1, d2, d3, d4, d5] => { results := [.lit (.bool false)], args := [d1, d2, d3, d4, d5] }
  | _ => none }
def MachineAnyWrongFalsely : Prop := machineAnyRow.holds Tryz.pinned (OpenSpec.ofChange machineAnyWrong)

/-- 'sinnetlaw14.MachineAlike': WHATEVER THE INPUT: true; the input reads as it did. -/
def machineAlikeSpec : ChangeSpec := { name := "machineAlike", fn := fun _ => fun
  | [d1, d2, d3, d4, d5, d6] => { results := [.lit (.bool true)], args := [d1, d2, d3, d4, d5, d6] }
  | _ => none }
def machineAlikeRow : OpenClaim := { program := "ytjfmmnhcddckaaagreat", sum := "22573468f609db2f0461d4e5fb17ce811f911ae66f488cc1b6d1e75c1ccbbc1d", func := "sinnet/sinnetlaw14.MachineAlike", spec := "machineAlike", inPlace := ["slices.overlaps[sinnet/api.Event]"], unfollowed := true, recurses := true, apart := false }
def MachineAlikeSaid : Prop := machineAlikeRow.holds Tryz.pinned (OpenSpec.ofChange machineAlikeSpec)

/-- ITS FALSE NEIGHBOUR: 'it returns false'. Refute it at one input. -/
def machineAlikeWrong : ChangeSpec := { name := "machineAlike", fn := fun _ => fun
  | [d1, d2, d3, d4, d5, d6] => { results := [.lit (.bool false)], args := [d1, d2, d3, d4, d5, d6] }
  | _ => none }
def MachineAlikeWrongFalsely : Prop := machineAlikeRow.holds Tryz.pinned (OpenSpec.ofChange machineAlikeWrong)

/-- 'sinnetlaw14.MachineNil': WHATEVER THE INPUT: true; the input reads as it did. -/
def machineNilSpec : ChangeSpec := { name := "machineNil", fn := fun _ => fun
  | [d1, d2, d3, d4] => { results := [.lit (.bool true)], args := [d1, d2, d3, d4] }
  | _ => none }
def machineNilRow : OpenClaim := { program := "ytjfmmnhcddckaaagreat", sum := "22573468f609db2f0461d4e5fb17ce811f911ae66f488cc1b6d1e75c1ccbbc1d", func := "sinnet/sinnetlaw14.MachineNil", spec := "machineNil", inPlace := ["slices.overlaps[sinnet/api.Event]"], unfollowed := true, recurses := true, apart := false }
def MachineNilSaid : Prop := machineNilRow.holds Tryz.pinned (OpenSpec.ofChange machineNilSpec)

/-- ITS FALSE NEIGHBOUR: 'it returns false'. Refute it at one input. -/
def machineNilWrong : ChangeSpec := { name := "machineNil", fn := fun _ => fun
  | [d1, d2, d3, d4] => { results := [.lit (.bool false)], args := [d1, d2, d3, d4] }
  | _ => none }
def MachineNilWrongFalsely : Prop := machineNilRow.holds Tryz.pinned (OpenSpec.ofChange machineNilWrong)

/-- 'sinnetlaw14.MachineIdle': WHATEVER THE INPUT: true; the input reads as it did. -/
def machineIdleSpec : ChangeSpec := { name := "machineIdle", fn := fun _ => fun
  | [d1, d2, d3, d4] => { results := [.lit (.bool true)], args := [d1, d2, d3, d4] }
  | _ => none }
def machineIdleRow : OpenClaim := { program := "ytjfmmnhcddckaaagreat", sum := "22573468f609db2f0461d4e5fb17ce811f911ae66f488cc1b6d1e75c1ccbbc1d", func := "sinnet/sinnetlaw14.MachineIdle", spec := "machineIdle", inPlace := ["slices.overlaps[sinnet/api.Event]"], unfollowed := true, recurses := true, apart := false }
def MachineIdleSaid : Prop := machineIdleRow.holds Tryz.pinned (OpenSpec.ofChange machineIdleSpec)

/-- ITS FALSE NEIGHBOUR: 'it returns false'. Refute it at one input. -/
def machineIdleWrong : ChangeSpec := { name := "machineIdle", fn := fun _ => fun
  | [d1, d2, d3, d4] => { results := [.lit (.bool false)], args := [d1, d2, d3, d4] }
  | _ => none }
def MachineIdleWrongFalsely : Prop := machineIdleRow.holds Tryz.pinned (OpenSpec.ofChange machineIdleWrong)

/-- 'sinnetlaw14.MachineOwn': WHATEVER THE INPUT: true; the input reads as it did. -/
def machineOwnSpec : ChangeSpec := { name := "machineOwn", fn := fun _ => fun
  | [d1, d2, d3, d4] => { results := [.lit (.bool true)], args := [d1, d2, d3, d4] }
  | _ => none }
def machineOwnRow : OpenClaim := { program := "ytjfmmnhcddckaaagreat", sum := "22573468f609db2f0461d4e5fb17ce811f911ae66f488cc1b6d1e75c1ccbbc1d", func := "sinnet/sinnetlaw14.MachineOwn", spec := "machineOwn", inPlace := ["slices.overlaps[sinnet/api.Event]"], unfollowed := true, recurses := true, apart := false }
def MachineOwnSaid : Prop := machineOwnRow.holds Tryz.pinned (OpenSpec.ofChange machineOwnSpec)

/-- ITS FALSE NEIGHBOUR: 'it returns false'. Refute it at one input. -/
def machineOwnWrong : ChangeSpec := { name := "machineOwn", fn := fun _ => fun
  | [d1, d2, d3, d4] => { results := [.lit (.bool false)], args := [d1, d2, d3, d4] }
  | _ => none }
def MachineOwnWrongFalsely : Prop := machineOwnRow.holds Tryz.pinned (OpenSpec.ofChange machineOwnWrong)

/-- 'sinnetlaw14.MachineOne': WHATEVER THE INPUT: true; the input reads as it did. -/
def machineOneSpec : ChangeSpec := { name := "machineOne", fn := fun _ => fun
  | [d1, d2, d3, d4] => { results := [.lit (.bool true)], args := [d1, d2, d3, d4] }
  | _ => none }
def machineOneRow : OpenClaim := { program := "ytjfmmnhcddckaaagreat", sum := "22573468f609db2f0461d4e5fb17ce811f911ae66f488cc1b6d1e75c1ccbbc1d", func := "sinnet/sinnetlaw14.MachineOne", spec := "machineOne", inPlace := ["slices.overlaps[sinnet/api.Event]"], unfollowed := true, recurses := true, apart := false }
def MachineOneSaid : Prop := machineOneRow.holds Tryz.pinned (OpenSpec.ofChange machineOneSpec)

/-- ITS FALSE NEIGHBOUR: 'it returns false'. Refute it at one input. -/
def machineOneWrong : ChangeSpec := { name := "machineOne", fn := fun _ => fun
  | [d1, d2, d3, d4] => { results := [.lit (.bool false)], args := [d1, d2, d3, d4] }
  | _ => none }
def MachineOneWrongFalsely : Prop := machineOneRow.holds Tryz.pinned (OpenSpec.ofChange machineOneWrong)

/- THE SECOND FORM. 'bulk': how many values and letters a reading holds, each counted each time it is reached (what is shared counts as often as it is met; a slice's spare places count too). A statement '..UptoSaid' is the law's where the arguments, and the package variables that the reading takes, are together of bulk at most 1048576: NARROWER than '..Said'. Prove '..Said' where nothing that the law and all that it calls make is longer than what came in: it says more and counts as full. Else prove '..UptoSaid'. A law counts once. -/
mutual
def uptoBulk {H : Type} : DataW H → Nat
  | .lit (.string bytes) => bytes.length + 1
  | .lit _ => 1
  | .nil => 1
  | .ptr d => uptoBulk d + 1
  | .slice elems spare => uptoBulkAll elems + uptoBulkAll spare + 1
  | .agg parts => uptoBulkAll parts + 1
  | .iface _ d => uptoBulk d + 1
  | .map entries => uptoBulkEntries entries + 1
  | .held _ => 1
def uptoBulkAll {H : Type} : List (DataW H) → Nat
  | [] => 0
  | d :: r => uptoBulk d + uptoBulkAll r
def uptoBulkEntries {H : Type} : List (Lit × DataW H) → Nat
  | [] => 0
  | x :: r => uptoBulkEntry x + uptoBulkEntries r
def uptoBulkEntry {H : Type} : Lit × DataW H → Nat
  | (.string bytes, d) => bytes.length + uptoBulk d + 1
  | (_, d) => uptoBulk d + 1
 end
def uptoSmall : (H : Type) → List (DataW H) → Bool := fun _ ds => decide (uptoBulkAll ds ≤ 1048576)
def OpenSpec.upto (s : _root_.Go.ChangeSpec) : _root_.Go.OpenSpec := { _root_.Go.OpenSpec.ofChange s with cond := some uptoSmall }

/-- 'sinnetlaw14.MachineExact', WHERE WHAT IT READS IS OF BULK AT MOST 1048576: true; the input reads as it did. -/
def machineExactUptoRow : OpenClaim := { program := "ytjfmmnhcddckaaagreat", sum := "22573468f609db2f0461d4e5fb17ce811f911ae66f488cc1b6d1e75c1ccbbc1d", func := "sinnet/sinnetlaw14.MachineExact", spec := "machineExact", inPlace := ["slices.overlaps[sinnet/api.Event]"], unfollowed := true, recurses := true, apart := false, narrowed := true }
def MachineExactUptoSaid : Prop := machineExactUptoRow.holds Tryz.pinned (OpenSpec.upto machineExactSpec)

/-- 'sinnetlaw14.MachineAny', WHERE WHAT IT READS IS OF BULK AT MOST 1048576: true; the input reads as it did. -/
def machineAnyUptoRow : OpenClaim := { program := "ytjfmmnhcddckaaagreat", sum := "22573468f609db2f0461d4e5fb17ce811f911ae66f488cc1b6d1e75c1ccbbc1d", func := "sinnet/sinnetlaw14.MachineAny", spec := "machineAny", inPlace := ["slices.overlaps[sinnet/api.Event]"], unfollowed := true, recurses := true, apart := false, narrowed := true }
def MachineAnyUptoSaid : Prop := machineAnyUptoRow.holds Tryz.pinned (OpenSpec.upto machineAnySpec)

/-- 'sinnetlaw14.MachineAlike', WHERE WHAT IT READS IS OF BULK AT MOST 1048576: true; the input reads as it did. -/
def machineAlikeUptoRow : OpenClaim := { program := "ytjfmmnhcddckaaagreat", sum := "22573468f609db2f0461d4e5fb17ce811f911ae66f488cc1b6d1e75c1ccbbc1d", func := "sinnet/sinnetlaw14.MachineAlike", spec := "machineAlike", inPlace := ["slices.overlaps[sinnet/api.Event]"], unfollowed := true, recurses := true, apart := false, narrowed := true }
def MachineAlikeUptoSaid : Prop := machineAlikeUptoRow.holds Tryz.pinned (OpenSpec.upto machineAlikeSpec)

/-- 'sinnetlaw14.MachineNil', WHERE WHAT IT READS IS OF BULK AT MOST 1048576: true; the input reads as it did. -/
def machineNilUptoRow : OpenClaim := { program := "ytjfmmnhcddckaaagreat", sum := "22573468f609db2f0461d4e5fb17ce811f911ae66f488cc1b6d1e75c1ccbbc1d", func := "sinnet/sinnetlaw14.MachineNil", spec := "machineNil", inPlace := ["slices.overlaps[sinnet/api.Event]"], unfollowed := true, recurses := true, apart := false, narrowed := true }
def MachineNilUptoSaid : Prop := machineNilUptoRow.holds Tryz.pinned (OpenSpec.upto machineNilSpec)

/-- 'sinnetlaw14.MachineIdle', WHERE WHAT IT READS IS OF BULK AT MOST 1048576: true; the input reads as it did. -/
def machineIdleUptoRow : OpenClaim := { program := "ytjfmmnhcddckaaagreat", sum := "22573468f609db2f0461d4e5fb17ce811f911ae66f488cc1b6d1e75c1ccbbc1d", func := "sinnet/sinnetlaw14.MachineIdle", spec := "machineIdle", inPlace := ["slices.overlaps[sinnet/api.Event]"], unfollowed := true, recurses := true, apart := false, narrowed := true }
def MachineIdleUptoSaid : Prop := machineIdleUptoRow.holds Tryz.pinned (OpenSpec.upto machineIdleSpec)

/-- 'sinnetlaw14.MachineOwn', WHERE WHAT IT READS IS OF BULK AT MOST 1048576: true; the input reads as it did. -/
def machineOwnUptoRow : OpenClaim := { program := "ytjfmmnhcddckaaagreat", sum := "22573468f609db2f0461d4e5fb17ce811f911ae66f488cc1b6d1e75c1ccbbc1d", func := "sinnet/sinnetlaw14.MachineOwn", spec := "machineOwn", inPlace := ["slices.overlaps[sinnet/api.Event]"], unfollowed := true, recurses := true, apart := false, narrowed := true }
def MachineOwnUptoSaid : Prop := machineOwnUptoRow.holds Tryz.pinned (OpenSpec.upto machineOwnSpec)

/-- 'sinnetlaw14.MachineOne', WHERE WHAT IT READS IS OF BULK AT MOST 1048576: true; the input reads as it did. -/
def machineOneUptoRow : OpenClaim := { program := "ytjfmmnhcddckaaagreat", sum := "22573468f609db2f0461d4e5fb17ce811f911ae66f488cc1b6d1e75c1ccbbc1d", func := "sinnet/sinnetlaw14.MachineOne", spec := "machineOne", inPlace := ["slices.overlaps[sinnet/api.Event]"], unfollowed := true, recurses := true, apart := false, narrowed := true }
def MachineOneUptoSaid : Prop := machineOneUptoRow.holds Tryz.pinned (OpenSpec.upto machineOneSpec)

end Rows
end Go.Proofs.YtjfmmnhcddckaaaGreat
