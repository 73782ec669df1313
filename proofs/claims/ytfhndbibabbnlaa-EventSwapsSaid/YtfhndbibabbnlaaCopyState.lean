/- The contract of Copy; what a state that is none does. -/
import Derived.Test.YtfhndbibabbnlaaStateRead
import Derived.Test.YtfhndbibabbnlaaDeeds
import Derived.Deep.WholeRow
import Derived.Deep.MidRow
namespace Go.Proofs.Ytfhndbibabbnlaa
open Go.RowKit

theorem zero_stateC : ∃ Z : Array Value, Z = numA (fun _ => 0) ∧ ∀ w, (zeroValue 77).run Try.prog w = .ok (.agg Z) w :=
  ⟨_, rfl, (zero_of_info (P := Try.prog) (t := 77) (v := .agg (numA fun _ => 0)) (n := 156) (by kernel_rfl)).1⟩

set_option maxRecDepth 100000 in
set_option maxHeartbeats 2000000 in
theorem copy_state {s : St} {b : Nat} {w : World} (h : StAt w b s) :
    Calls Try.prog 28 #[.pointer (some ⟨b, 0, none⟩)] w fun r w' => r = .returned (.pointer (some ⟨w.heap.size, 0, none⟩)) ∧ w.alloc (.cells (numA (stNum s)) 77) = w' := by
  obtain ⟨Z, hZ, hzv⟩ := zero_stateC
  have hi : (Try.prog.info? 77).map (·.size) = some 156 := by kernel_rfl
  have hX : (numA (stNum s)).size = 156 := numA_size _
  have hX1 := numA_one (stNum s)
  have hZ1 : Z.size = 156 := by rw [hZ, numA_size]
  have hg : w.heap[b]? = some (.cells (numA (stNum s)) 77 (0, 0)) := h
  clear hZ h
  generalize numA (stNum s) = X at *
  have HI : Hid ((Try.prog.info? 77).map (·.size) = some X.size) := by rw [hX]; exact hi
  have HG := Lib.hid hg
  have HO : Hid (Z.size = X.size) := by show _ = _; rw [hX, hZ1]
  have H1 := Lib.hid hX1
  clear hi hX hZ1 hg hX1
  go_enter Try.func28, Try.ntmps28
  go_wp2_with (first
    | (refine wpList_load_row rfl 77 (.tmp 7) rfl b rfl 77 X (0, 0) _ HG.out Try.underlying77 rfl HI.out ?_)
    | (refine wpList_store_row rfl 77 (.tmp 3) (.tmp 8) rfl w.heap.size X rfl rfl 77 Z (heap_alloc_last w _) HI.out HO.out H1.out ?_; rw [World.setRow_alloc_new]))
  go_ret
  exact ⟨rfl, rfl⟩

end Go.Proofs.Ytfhndbibabbnlaa
