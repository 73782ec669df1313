/- The contracts of an end's take and drop, of move, and of a queue's calls. -/
import Derived.Test.YtoaejkfejdaiaaaQuHeap
namespace Go.Proofs.Ytoaejkfejdaiaaa
open Go.RowKit

section
variable {w w' w'' : World} {B b : Nat} {pre : Nat → Txt} {ids : List Nat} {vs : Nat → Value} {pl pl1 pl2 : Nat → Nat → Int} {ls : Nat → List Nat} {s : Nat}
theorem HPopR.before {x : Nat} (hb : Below w.heap.size w w') (h : HPopR B b pre ids vs pl ls s x w' w'') : HPopR B b pre ids vs pl ls s x w w'' := by
  obtain ⟨v', pl', l', h1, h2, h3, h4, h5, h6⟩ := h
  exact ⟨v', pl', l', h1, h2, h3, h4, OnlyS.after hb h5, h6⟩
set_option maxRecDepth 100000 in
set_option maxHeartbeats 1000000 in
theorem take_any (q : QR w B b pre ids vs pl ls) (hs : s < 2) (ok : SideOk pre (pl s) (ls s) s) {m : Nat} (hm : (ls s).length = m + 1) :
    Calls Try.prog 31 #[endV b s] w fun r w' => r = .returned (.pointer (some ⟨(ls s).getD 0 0, 0, none⟩)) ∧ HPopR B b pre ids vs pl ls s ((ls s).getD 0 0) w w' := by
  have hb1 : Below w.heap.size w (w.alloc (.cells #[.pointer (some ⟨b, 0, none⟩), .int .i64 s] 67)) := below_alloc1 w _
  have HH := Lib.hid (heapPop_any (q.later hb1) hs ok hm)
  have has := assert_item (.pointer (some ⟨(ls s).getD 0 0, 0, none⟩))
  have HB := Lib.hid hb1
  clear q ok hm hb1
  generalize (ls s).getD 0 0 = x0 at *
  go_enter Try.func31, Try.ntmps31
  go_wp2_with fail
  refine HH.out.mono ?_
  rintro r w2 ⟨rfl, h2⟩
  have H2 := Lib.hid (h2.before HB.out)
  clear h2
  go_wp2
  go_ret
  exact ⟨rfl, H2.out⟩
set_option maxRecDepth 100000 in
set_option maxHeartbeats 1000000 in
theorem drop_any (q : QR w B b pre ids vs pl ls) (hs : s < 2) (ok : SideOk pre (pl s) (ls s) s) {m j x : Nat} (hm : (ls s).length = m + 1) (hj : j ≤ m) (hx : (ls s).getD j 0 = x) :
    Calls Try.prog 32 #[endV b s, .pointer (some ⟨x, 0, none⟩)] w fun r w' => r = .returned (.tuple #[]) ∧ HPopR B b pre ids vs pl ls s x w w' := by
  have hb1 : Below w.heap.size w (w.alloc (.cells #[.pointer (some ⟨b, 0, none⟩), .int .i64 s] 67)) := below_alloc1 w _
  have q1 := q.later hb1
  have hxi : x ∈ ids := q.sub s hs x (hx ▸ getD_mem (by omega))
  have cx := (q1.cellI hxi).2 s hs
  have hp := ok.pos j (by omega)
  rw [hx] at hp
  rw [hp] at cx
  have hs0 : (w.alloc (.cells #[.pointer (some ⟨b, 0, none⟩), .int .i64 s] 67)).cell? ⟨w.heap.size, 0, none⟩ = some (.pointer (some ⟨b, 0, none⟩)) := by simp
  have hs1 : (w.alloc (.cells #[.pointer (some ⟨b, 0, none⟩), .int .i64 s] 67)).cell? ⟨w.heap.size, 1, none⟩ = some (.int .i64 s) := by simp
  have hsi : (s : Int) < 2 := by omega
  have HH : Hid (∀ W, Below w.heap.size w W → Calls Try.prog 36 #[endI b s, .int .i64 j] W fun r w' => r = .returned (.iface 69 (.pointer (some ⟨x, 0, none⟩))) ∧ HPopR B b pre ids vs pl ls s x w w') := fun W hb => by
    refine (heapRemove_any (q.later hb) hs ok hm hj).mono ?_
    rintro r w2 ⟨rfl, h2⟩
    rw [hx] at h2 ⊢
    exact ⟨rfl, h2.before hb⟩
  have hBD : Below w.heap.size w (w.alloc (.cells #[.pointer (some ⟨b, 0, none⟩), .int .i64 s] 67)).drew := hb1.drew
  clear q q1 ok hm hb1 hx hp hj hxi
  go_enter Try.func32, Try.ntmps32
  go_wp2_with fail
  go_region_with (go_at_call 36; refine (HH.out _ hBD).mono ?_; rintro r w3 ⟨rfl, h3⟩; have H3 := Lib.hid h3; clear h3)
  all_goals go_wp2
  all_goals refine bodyPost_end (results_none rfl _ _ _) rfl ⟨rfl, H3.out⟩
end

end Go.Proofs.Ytoaejkfejdaiaaa
