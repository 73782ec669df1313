/-
  No cell of these rows narrows 'for every input' (looked for: loops, veiled, ifaces, maps, wideKeys, modest, calm, conditions, laid).
  DERIVED. THE GIVEN ROWS OF THIS SEAT. 4 by the template 'for every input the law returns true; each argument reads behind the call as it read before'; 0 by the template 'total and deterministic' (their statements: YtkjjbcgecnjniaaTotals.lean).
  GIVEN WITH THE SEED: the statements are not yours to turn. If you find one false, say at which input.
  Laid BY PROGRAM, IN A SANDBOX (cutbox-rows.mjs): the forced cells as the released guide's own fill.sh prints them over the translation acfb6dd10cf5c950… (all of the seat's roots in one cut). By AI agents, Wed Nov 11 2026. No macro, syntax, notation, axiom, sorry.
-/
import Derived.Test.YtkjjbcgecnjniaaChecked
import GoSem.Claim
import GoSem.ClaimJoined
import GoSem.ClaimMapViews
import Derived.JoinedTies
import Derived.KernelRfl
namespace Go.Proofs.Ytkjjbcgecnjniaa
/- THE CELL 'sum', in the pinned program and in every row, IS THE sha256 OF THE DUMP (.gsa) THAT YtkjjbcgecnjniaaProg.lean LOADS. Nothing in Lean hashes anything: it is a label: what it is worth is what the hold of that sum in a sandbox is worth. -/
noncomputable def Try.pinned : Pinned := { name := "ytkjjbcgecnjniaa", sum := "acfb6dd10cf5c950261dd9cb4e5227bbb2053c2e0a736f0f482385bc6742fec4", checked := Try.checked }
namespace Rows
def none {H : Type} : Left H := { results := [], args := [] }

/-- 'sinnetlaw07.RaceTells': WHATEVER THE INPUT: true; the input reads as it did. -/
def raceTellsSpec : ChangeSpec := { name := "raceTells", fn := fun _ => fun
  | [d1, d2, d3, d4] => { results := [.lit (.bool true)], args := [d1, d2, d3, d4] }
  | _ => none }
def raceTellsRow : OpenClaim := { program := "ytkjjbcgecnjniaa", sum := "acfb6dd10cf5c950261dd9cb4e5227bbb2053c2e0a736f0f482385bc6742fec4", func := "sinnet/sinnetlaw07.RaceTells", spec := "raceTells", unfollowed := true, recurses := true, apart := false }
def RaceTellsSaid : Prop := raceTellsRow.holds Try.pinned (OpenSpec.ofChange raceTellsSpec)

/-- ITS FALSE NEIGHBOUR: 'it returns false'. Refute it at one input. -/
def raceTellsWrong : ChangeSpec := { name := "raceTells", fn := fun _ => fun
  | [d1, d2, d3, d4] => { results := [.lit (.bool false)], args := [d1, d2, d3, d4] }
  | _ => none }
def RaceTellsWrongFalsely : Prop := raceTellsRow.holds Try.pinned (OpenSpec.ofChange raceTellsWrong)

/-- 'sinnetlaw07.RaceSwaps': WHATEVER THE INPUT: true; the input reads as it did. -/
def raceSwapsSpec : ChangeSpec := { name := "raceSwaps", fn := fun _ => fun
  | [d1, d2] => { results := [.lit (.bool true)], args := [d1, d2] }
  | _ => none }
def raceSwapsRow : OpenClaim := { program := "ytkjjbcgecnjniaa", sum := "acfb6dd10cf5c950261dd9cb4e5227bbb2053c2e0a736f0f482385bc6742fec4", func := "sinnet/sinnetlaw07.RaceSwaps", spec := "raceSwaps", unfollowed := true, recurses := true, apart := false }
def RaceSwapsSaid : Prop := raceSwapsRow.holds Try.pinned (OpenSpec.ofChange raceSwapsSpec)

/-- ITS FALSE NEIGHBOUR: 'it returns false'. Refute it at one input. -/
def raceSwapsWrong : ChangeSpec := { name := "raceSwaps", fn := fun _ => fun
  | [d1, d2] => { results := [.lit (.bool false)], args := [d1, d2] }
  | _ => none }
def RaceSwapsWrongFalsely : Prop := raceSwapsRow.holds Try.pinned (OpenSpec.ofChange raceSwapsWrong)

/-- 'sinnetlaw07.RaceCuts': WHATEVER THE INPUT: true; the input reads as it did. -/
def raceCutsSpec : ChangeSpec := { name := "raceCuts", fn := fun _ => fun
  | [d1, d2] => { results := [.lit (.bool true)], args := [d1, d2] }
  | _ => none }
def raceCutsRow : OpenClaim := { program := "ytkjjbcgecnjniaa", sum := "acfb6dd10cf5c950261dd9cb4e5227bbb2053c2e0a736f0f482385bc6742fec4", func := "sinnet/sinnetlaw07.RaceCuts", spec := "raceCuts", unfollowed := true, recurses := true, apart := false }
def RaceCutsSaid : Prop := raceCutsRow.holds Try.pinned (OpenSpec.ofChange raceCutsSpec)

/-- ITS FALSE NEIGHBOUR: 'it returns false'. Refute it at one input. -/
def raceCutsWrong : ChangeSpec := { name := "raceCuts", fn := fun _ => fun
  | [d1, d2] => { results := [.lit (.bool false)], args := [d1, d2] }
  | _ => none }
def RaceCutsWrongFalsely : Prop := raceCutsRow.holds Try.pinned (OpenSpec.ofChange raceCutsWrong)

/-- 'sinnetlaw07.RaceDone': WHATEVER THE INPUT: true; the input reads as it did. -/
def raceDoneSpec : ChangeSpec := { name := "raceDone", fn := fun _ => fun
  | [d1, d2, d3, d4] => { results := [.lit (.bool true)], args := [d1, d2, d3, d4] }
  | _ => none }
def raceDoneRow : OpenClaim := { program := "ytkjjbcgecnjniaa", sum := "acfb6dd10cf5c950261dd9cb4e5227bbb2053c2e0a736f0f482385bc6742fec4", func := "sinnet/sinnetlaw07.RaceDone", spec := "raceDone", unfollowed := true, recurses := true, apart := false }
def RaceDoneSaid : Prop := raceDoneRow.holds Try.pinned (OpenSpec.ofChange raceDoneSpec)

/-- ITS FALSE NEIGHBOUR: 'it returns false'. Refute it at one input. -/
def raceDoneWrong : ChangeSpec := { name := "raceDone", fn := fun _ => fun
  | [d1, d2, d3, d4] => { results := [.lit (.bool false)], args := [d1, d2, d3, d4] }
  | _ => none }
def RaceDoneWrongFalsely : Prop := raceDoneRow.holds Try.pinned (OpenSpec.ofChange raceDoneWrong)

/- THE SECOND FORM. 'bulk': how many values and letters a reading holds, each counted each time it is reached (what is shared counts as often as it is met; a slice's spare places count too). A statement '..UptoSaid' is the law's where the arguments, and the package variables that the reading takes, are together of bulk at most 1048576: NARROWER than '..Said'. Prove '..Said' where nothing that the law and all that it calls make is longer than what came in: it says more and counts as full. Else prove '..UptoSaid'. A law counts once. -/
mutual
def uptoBulk {H : Type} : DataW H → Nat
  | .lit (.string bytes) => bytes.length + 1
  | .lit _ => 1
  | .nil => 1
  | .ptr d => uptoBulk d + 1
  | .slice elems spare => uptoBulkAll elems + uptoBulkAll spare + 1
  | .agg parts => uptoBulkAll parts + 1
  | .iface _ d => uptoBulk d + 1
  | .map entries => uptoBulkEntries entries + 1
  | .held _ => 1
def uptoBulkAll {H : Type} : List (DataW H) → Nat
  | [] => 0
  | d :: r => uptoBulk d + uptoBulkAll r
def uptoBulkEntries {H : Type} : List (Lit × DataW H) → Nat
  | [] => 0
  | x :: r => uptoBulkEntry x + uptoBulkEntries r
def uptoBulkEntry {H : Type} : Lit × DataW H → Nat
  | (.string bytes, d) => bytes.length + uptoBulk d + 1
  | (_, d) => uptoBulk d + 1
 end
def uptoSmall : (H : Type) → List (DataW H) → Bool := fun _ ds => decide (uptoBulkAll ds ≤ 1048576)
def OpenSpec.upto (s : _root_.Go.ChangeSpec) : _root_.Go.OpenSpec := { _root_.Go.OpenSpec.ofChange s with cond := some uptoSmall }

/-- 'sinnetlaw07.RaceTells', WHERE WHAT IT READS IS OF BULK AT MOST 1048576: true; the input reads as it did. -/
def raceTellsUptoRow : OpenClaim := { program := "ytkjjbcgecnjniaa", sum := "acfb6dd10cf5c950261dd9cb4e5227bbb2053c2e0a736f0f482385bc6742fec4", func := "sinnet/sinnetlaw07.RaceTells", spec := "raceTells", unfollowed := true, recurses := true, apart := false, narrowed := true }
def RaceTellsUptoSaid : Prop := raceTellsUptoRow.holds Try.pinned (OpenSpec.upto raceTellsSpec)

/-- 'sinnetlaw07.RaceSwaps', WHERE WHAT IT READS IS OF BULK AT MOST 1048576: true; the input reads as it did. -/
def raceSwapsUptoRow : OpenClaim := { program := "ytkjjbcgecnjniaa", sum := "acfb6dd10cf5c950261dd9cb4e5227bbb2053c2e0a736f0f482385bc6742fec4", func := "sinnet/sinnetlaw07.RaceSwaps", spec := "raceSwaps", unfollowed := true, recurses := true, apart := false, narrowed := true }
def RaceSwapsUptoSaid : Prop := raceSwapsUptoRow.holds Try.pinned (OpenSpec.upto raceSwapsSpec)

/-- 'sinnetlaw07.RaceCuts', WHERE WHAT IT READS IS OF BULK AT MOST 1048576: true; the input reads as it did. -/
def raceCutsUptoRow : OpenClaim := { program := "ytkjjbcgecnjniaa", sum := "acfb6dd10cf5c950261dd9cb4e5227bbb2053c2e0a736f0f482385bc6742fec4", func := "sinnet/sinnetlaw07.RaceCuts", spec := "raceCuts", unfollowed := true, recurses := true, apart := false, narrowed := true }
def RaceCutsUptoSaid : Prop := raceCutsUptoRow.holds Try.pinned (OpenSpec.upto raceCutsSpec)

/-- 'sinnetlaw07.RaceDone', WHERE WHAT IT READS IS OF BULK AT MOST 1048576: true; the input reads as it did. -/
def raceDoneUptoRow : OpenClaim := { program := "ytkjjbcgecnjniaa", sum := "acfb6dd10cf5c950261dd9cb4e5227bbb2053c2e0a736f0f482385bc6742fec4", func := "sinnet/sinnetlaw07.RaceDone", spec := "raceDone", unfollowed := true, recurses := true, apart := false, narrowed := true }
def RaceDoneUptoSaid : Prop := raceDoneUptoRow.holds Try.pinned (OpenSpec.upto raceDoneSpec)

end Rows
end Go.Proofs.Ytkjjbcgecnjniaa
