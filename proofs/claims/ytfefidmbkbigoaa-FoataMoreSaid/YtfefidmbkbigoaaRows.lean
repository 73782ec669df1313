/-
  No cell of these rows narrows 'for every input' (looked for: loops, veiled, ifaces, maps, wideKeys, modest, calm, conditions, laid).
  DERIVED. THE GIVEN ROWS OF THIS SEAT. 7 by the template 'for every input the law returns true; each argument reads behind the call as it read before'; 0 by the template 'total and deterministic' (their statements: YtfefidmbkbigoaaTotals.lean).
  GIVEN WITH THE SEED: the statements are not yours to turn. If you find one false, say at which input.
  Laid BY PROGRAM, IN A SANDBOX (cutbox-rows.mjs): the forced cells as the released guide's own fill.sh prints them over the translation 427b6e7a268250f3… (all of the seat's roots in one cut). By AI agents, Wed Nov 11 2026. No macro, syntax, notation, axiom, sorry.
-/
import Derived.Test.YtfefidmbkbigoaaChecked
import GoSem.Claim
import GoSem.ClaimJoined
import GoSem.ClaimMapViews
import Derived.JoinedTies
import Derived.KernelRfl
namespace Go.Proofs.Ytfefidmbkbigoaa
/- THE CELL 'sum', in the pinned program and in every row, IS THE sha256 OF THE DUMP (.gsa) THAT YtfefidmbkbigoaaProg.lean LOADS. Nothing in Lean hashes anything: it is a label: what it is worth is what the hold of that sum in a sandbox is worth. -/
noncomputable def Try.pinned : Pinned := { name := "ytfefidmbkbigoaa", sum := "427b6e7a268250f30cdf81978b09f3d6a2037ef3966fe793ba0b772e463b1f7e", checked := Try.checked }
namespace Rows
def none {H : Type} : Left H := { results := [], args := [] }

/-- 'sinnetlaw04.ClockSame': WHATEVER THE INPUT: true; the input reads as it did. -/
def clockSameSpec : ChangeSpec := { name := "clockSame", fn := fun _ => fun
  | [d1, d2, d3] => { results := [.lit (.bool true)], args := [d1, d2, d3] }
  | _ => none }
def clockSameRow : OpenClaim := { program := "ytfefidmbkbigoaa", sum := "427b6e7a268250f30cdf81978b09f3d6a2037ef3966fe793ba0b772e463b1f7e", func := "sinnet/sinnetlaw04.ClockSame", spec := "clockSame", unfollowed := true, recurses := true, apart := false }
def ClockSameSaid : Prop := clockSameRow.holds Try.pinned (OpenSpec.ofChange clockSameSpec)

/-- ITS FALSE NEIGHBOUR: 'it returns false'. Refute it at one input. -/
def clockSameWrong : ChangeSpec := { name := "clockSame", fn := fun _ => fun
  | [d1, d2, d3] => { results := [.lit (.bool false)], args := [d1, d2, d3] }
  | _ => none }
def ClockSameWrongFalsely : Prop := clockSameRow.holds Try.pinned (OpenSpec.ofChange clockSameWrong)

/-- 'sinnetlaw04.ClockRises': WHATEVER THE INPUT: true; the input reads as it did. -/
def clockRisesSpec : ChangeSpec := { name := "clockRises", fn := fun _ => fun
  | [d1, d2] => { results := [.lit (.bool true)], args := [d1, d2] }
  | _ => none }
def clockRisesRow : OpenClaim := { program := "ytfefidmbkbigoaa", sum := "427b6e7a268250f30cdf81978b09f3d6a2037ef3966fe793ba0b772e463b1f7e", func := "sinnet/sinnetlaw04.ClockRises", spec := "clockRises", unfollowed := true, recurses := true, apart := false }
def ClockRisesSaid : Prop := clockRisesRow.holds Try.pinned (OpenSpec.ofChange clockRisesSpec)

/-- ITS FALSE NEIGHBOUR: 'it returns false'. Refute it at one input. -/
def clockRisesWrong : ChangeSpec := { name := "clockRises", fn := fun _ => fun
  | [d1, d2] => { results := [.lit (.bool false)], args := [d1, d2] }
  | _ => none }
def ClockRisesWrongFalsely : Prop := clockRisesRow.holds Try.pinned (OpenSpec.ofChange clockRisesWrong)

/-- 'sinnetlaw05.FoataTells': WHATEVER THE INPUT: true; the input reads as it did. -/
def foataTellsSpec : ChangeSpec := { name := "foataTells", fn := fun _ => fun
  | [d] => { results := [.lit (.bool true)], args := [d] }
  | _ => none }
def foataTellsRow : OpenClaim := { program := "ytfefidmbkbigoaa", sum := "427b6e7a268250f30cdf81978b09f3d6a2037ef3966fe793ba0b772e463b1f7e", func := "sinnet/sinnetlaw05.FoataTells", spec := "foataTells", inPlace := ["slices.overlaps[sinnet/api.Event]"], unfollowed := true, recurses := true, apart := false }
def FoataTellsSaid : Prop := foataTellsRow.holds Try.pinned (OpenSpec.ofChange foataTellsSpec)

/-- ITS FALSE NEIGHBOUR: 'it returns false'. Refute it at one input. -/
def foataTellsWrong : ChangeSpec := { name := "foataTells", fn := fun _ => fun
  | [d] => { results := [.lit (.bool false)], args := [d] }
  | _ => none }
def FoataTellsWrongFalsely : Prop := foataTellsRow.holds Try.pinned (OpenSpec.ofChange foataTellsWrong)

/-- 'sinnetlaw05.FoataReads': WHATEVER THE INPUT: true; the input reads as it did. -/
def foataReadsSpec : ChangeSpec := { name := "foataReads", fn := fun _ => fun
  | [d1, d2] => { results := [.lit (.bool true)], args := [d1, d2] }
  | _ => none }
def foataReadsRow : OpenClaim := { program := "ytfefidmbkbigoaa", sum := "427b6e7a268250f30cdf81978b09f3d6a2037ef3966fe793ba0b772e463b1f7e", func := "sinnet/sinnetlaw05.FoataReads", spec := "foataReads", inPlace := ["slices.overlaps[sinnet/api.Event]"], unfollowed := true, recurses := true, apart := false }
def FoataReadsSaid : Prop := foataReadsRow.holds Try.pinned (OpenSpec.ofChange foataReadsSpec)

/-- ITS FALSE NEIGHBOUR: 'it returns false'. Refute it at one input. -/
def foataReadsWrong : ChangeSpec := { name := "foataReads", fn := fun _ => fun
  | [d1, d2] => { results := [.lit (.bool false)], args := [d1, d2] }
  | _ => none }
def FoataReadsWrongFalsely : Prop := foataReadsRow.holds Try.pinned (OpenSpec.ofChange foataReadsWrong)

/-- 'sinnetlaw05.FoataOne': WHATEVER THE INPUT: true; the input reads as it did. -/
def foataOneSpec : ChangeSpec := { name := "foataOne", fn := fun _ => fun
  | [d1, d2, d3] => { results := [.lit (.bool true)], args := [d1, d2, d3] }
  | _ => none }
def foataOneRow : OpenClaim := { program := "ytfefidmbkbigoaa", sum := "427b6e7a268250f30cdf81978b09f3d6a2037ef3966fe793ba0b772e463b1f7e", func := "sinnet/sinnetlaw05.FoataOne", spec := "foataOne", inPlace := ["slices.overlaps[sinnet/api.Event]"], unfollowed := true, recurses := true, apart := false }
def FoataOneSaid : Prop := foataOneRow.holds Try.pinned (OpenSpec.ofChange foataOneSpec)

/-- ITS FALSE NEIGHBOUR: 'it returns false'. Refute it at one input. -/
def foataOneWrong : ChangeSpec := { name := "foataOne", fn := fun _ => fun
  | [d1, d2, d3] => { results := [.lit (.bool false)], args := [d1, d2, d3] }
  | _ => none }
def FoataOneWrongFalsely : Prop := foataOneRow.holds Try.pinned (OpenSpec.ofChange foataOneWrong)

/-- 'sinnetlaw05.FoataApart': WHATEVER THE INPUT: true; the input reads as it did. -/
def foataApartSpec : ChangeSpec := { name := "foataApart", fn := fun _ => fun
  | [d] => { results := [.lit (.bool true)], args := [d] }
  | _ => none }
def foataApartRow : OpenClaim := { program := "ytfefidmbkbigoaa", sum := "427b6e7a268250f30cdf81978b09f3d6a2037ef3966fe793ba0b772e463b1f7e", func := "sinnet/sinnetlaw05.FoataApart", spec := "foataApart", inPlace := ["slices.overlaps[sinnet/api.Event]"], unfollowed := true, recurses := true, apart := false }
def FoataApartSaid : Prop := foataApartRow.holds Try.pinned (OpenSpec.ofChange foataApartSpec)

/-- ITS FALSE NEIGHBOUR: 'it returns false'. Refute it at one input. -/
def foataApartWrong : ChangeSpec := { name := "foataApart", fn := fun _ => fun
  | [d] => { results := [.lit (.bool false)], args := [d] }
  | _ => none }
def FoataApartWrongFalsely : Prop := foataApartRow.holds Try.pinned (OpenSpec.ofChange foataApartWrong)

/-- 'sinnetlaw05.FoataMore': WHATEVER THE INPUT: true; the input reads as it did. -/
def foataMoreSpec : ChangeSpec := { name := "foataMore", fn := fun _ => fun
  | [d1, d2] => { results := [.lit (.bool true)], args := [d1, d2] }
  | _ => none }
def foataMoreRow : OpenClaim := { program := "ytfefidmbkbigoaa", sum := "427b6e7a268250f30cdf81978b09f3d6a2037ef3966fe793ba0b772e463b1f7e", func := "sinnet/sinnetlaw05.FoataMore", spec := "foataMore", inPlace := ["slices.overlaps[sinnet/api.Event]"], unfollowed := true, recurses := true, apart := false }
def FoataMoreSaid : Prop := foataMoreRow.holds Try.pinned (OpenSpec.ofChange foataMoreSpec)

/-- ITS FALSE NEIGHBOUR: 'it returns false'. Refute it at one input. -/
def foataMoreWrong : ChangeSpec := { name := "foataMore", fn := fun _ => fun
  | [d1, d2] => { results := [.lit (.bool false)], args := [d1, d2] }
  | _ => none }
def FoataMoreWrongFalsely : Prop := foataMoreRow.holds Try.pinned (OpenSpec.ofChange foataMoreWrong)

/- THE SECOND FORM. 'bulk': how many values and letters a reading holds, each counted each time it is reached (what is shared counts as often as it is met; a slice's spare places count too). A statement '..UptoSaid' is the law's where the arguments, and the package variables that the reading takes, are together of bulk at most 1048576: NARROWER than '..Said'. Prove '..Said' where nothing that the law and all that it calls make is longer than what came in: it says more and counts as full. Else prove '..UptoSaid'. A law counts once. -/
mutual
def uptoBulk {H : Type} : DataW H → Nat
  | .lit (.string bytes) => bytes.length + 1
  | .lit _ => 1
  | .nil => 1
  | .ptr d => uptoBulk d + 1
  | .slice elems spare => uptoBulkAll elems + uptoBulkAll spare + 1
  | .agg parts => uptoBulkAll parts + 1
  | .iface _ d => uptoBulk d + 1
  | .map entries => uptoBulkEntries entries + 1
  | .held _ => 1
def uptoBulkAll {H : Type} : List (DataW H) → Nat
  | [] => 0
  | d :: r => uptoBulk d + uptoBulkAll r
def uptoBulkEntries {H : Type} : List (Lit × DataW H) → Nat
  | [] => 0
  | x :: r => uptoBulkEntry x + uptoBulkEntries r
def uptoBulkEntry {H : Type} : Lit × DataW H → Nat
  | (.string bytes, d) => bytes.length + uptoBulk d + 1
  | (_, d) => uptoBulk d + 1
 end
def uptoSmall : (H : Type) → List (DataW H) → Bool := fun _ ds => decide (uptoBulkAll ds ≤ 1048576)
def OpenSpec.upto (s : _root_.Go.ChangeSpec) : _root_.Go.OpenSpec := { _root_.Go.OpenSpec.ofChange s with cond := some uptoSmall }

/-- 'sinnetlaw04.ClockSame', WHERE WHAT IT READS IS OF BULK AT MOST 1048576: true; the input reads as it did. -/
def clockSameUptoRow : OpenClaim := { program := "ytfefidmbkbigoaa", sum := "427b6e7a268250f30cdf81978b09f3d6a2037ef3966fe793ba0b772e463b1f7e", func := "sinnet/sinnetlaw04.ClockSame", spec := "clockSame", unfollowed := true, recurses := true, apart := false, narrowed := true }
def ClockSameUptoSaid : Prop := clockSameUptoRow.holds Try.pinned (OpenSpec.upto clockSameSpec)

/-- 'sinnetlaw04.ClockRises', WHERE WHAT IT READS IS OF BULK AT MOST 1048576: true; the input reads as it did. -/
def clockRisesUptoRow : OpenClaim := { program := "ytfefidmbkbigoaa", sum := "427b6e7a268250f30cdf81978b09f3d6a2037ef3966fe793ba0b772e463b1f7e", func := "sinnet/sinnetlaw04.ClockRises", spec := "clockRises", unfollowed := true, recurses := true, apart := false, narrowed := true }
def ClockRisesUptoSaid : Prop := clockRisesUptoRow.holds Try.pinned (OpenSpec.upto clockRisesSpec)

/-- 'sinnetlaw05.FoataTells', WHERE WHAT IT READS IS OF BULK AT MOST 1048576: true; the input reads as it did. -/
def foataTellsUptoRow : OpenClaim := { program := "ytfefidmbkbigoaa", sum := "427b6e7a268250f30cdf81978b09f3d6a2037ef3966fe793ba0b772e463b1f7e", func := "sinnet/sinnetlaw05.FoataTells", spec := "foataTells", inPlace := ["slices.overlaps[sinnet/api.Event]"], unfollowed := true, recurses := true, apart := false, narrowed := true }
def FoataTellsUptoSaid : Prop := foataTellsUptoRow.holds Try.pinned (OpenSpec.upto foataTellsSpec)

/-- 'sinnetlaw05.FoataReads', WHERE WHAT IT READS IS OF BULK AT MOST 1048576: true; the input reads as it did. -/
def foataReadsUptoRow : OpenClaim := { program := "ytfefidmbkbigoaa", sum := "427b6e7a268250f30cdf81978b09f3d6a2037ef3966fe793ba0b772e463b1f7e", func := "sinnet/sinnetlaw05.FoataReads", spec := "foataReads", inPlace := ["slices.overlaps[sinnet/api.Event]"], unfollowed := true, recurses := true, apart := false, narrowed := true }
def FoataReadsUptoSaid : Prop := foataReadsUptoRow.holds Try.pinned (OpenSpec.upto foataReadsSpec)

/-- 'sinnetlaw05.FoataOne', WHERE WHAT IT READS IS OF BULK AT MOST 1048576: true; the input reads as it did. -/
def foataOneUptoRow : OpenClaim := { program := "ytfefidmbkbigoaa", sum := "427b6e7a268250f30cdf81978b09f3d6a2037ef3966fe793ba0b772e463b1f7e", func := "sinnet/sinnetlaw05.FoataOne", spec := "foataOne", inPlace := ["slices.overlaps[sinnet/api.Event]"], unfollowed := true, recurses := true, apart := false, narrowed := true }
def FoataOneUptoSaid : Prop := foataOneUptoRow.holds Try.pinned (OpenSpec.upto foataOneSpec)

/-- 'sinnetlaw05.FoataApart', WHERE WHAT IT READS IS OF BULK AT MOST 1048576: true; the input reads as it did. -/
def foataApartUptoRow : OpenClaim := { program := "ytfefidmbkbigoaa", sum := "427b6e7a268250f30cdf81978b09f3d6a2037ef3966fe793ba0b772e463b1f7e", func := "sinnet/sinnetlaw05.FoataApart", spec := "foataApart", inPlace := ["slices.overlaps[sinnet/api.Event]"], unfollowed := true, recurses := true, apart := false, narrowed := true }
def FoataApartUptoSaid : Prop := foataApartUptoRow.holds Try.pinned (OpenSpec.upto foataApartSpec)

/-- 'sinnetlaw05.FoataMore', WHERE WHAT IT READS IS OF BULK AT MOST 1048576: true; the input reads as it did. -/
def foataMoreUptoRow : OpenClaim := { program := "ytfefidmbkbigoaa", sum := "427b6e7a268250f30cdf81978b09f3d6a2037ef3966fe793ba0b772e463b1f7e", func := "sinnet/sinnetlaw05.FoataMore", spec := "foataMore", inPlace := ["slices.overlaps[sinnet/api.Event]"], unfollowed := true, recurses := true, apart := false, narrowed := true }
def FoataMoreUptoSaid : Prop := foataMoreUptoRow.holds Try.pinned (OpenSpec.upto foataMoreSpec)

end Rows
end Go.Proofs.Ytfefidmbkbigoaa
