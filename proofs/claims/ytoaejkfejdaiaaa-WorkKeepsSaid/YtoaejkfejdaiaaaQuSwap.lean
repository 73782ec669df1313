/- The contract of an end's Swap. -/
import Derived.Test.YtoaejkfejdaiaaaQuEnd
import Derived.BigRegion
namespace Go.Proofs.Ytoaejkfejdaiaaa
open Go.RowKit

section
variable {w : World} {B b : Nat} {pre : Nat → Txt} {ids : List Nat} {vs : Nat → Value} {pl : Nat → Nat → Int} {ls : Nat → List Nat}
theorem frozen_item (q : QR w B b pre ids vs pl ls) {x : Nat} (hx : x ∈ ids) (j : Nat) : w.frozen? ⟨x, j, none⟩ = false := by simp [World.frozen?, (q.item x hx).2]
/-- The two stores into the row. -/
theorem QR.swap (q : QR w B b pre ids vs pl ls) {s : Nat} (hs : s < 2) {i k g : Nat} (hi : i < (ls s).length) (hk : k < (ls s).length) (hg : (vs s).ownBlock = some g) :
    QR ((w.setCell ⟨g, i, none⟩ (.pointer (some ⟨(ls s).getD k 0, 0, none⟩))).setCell ⟨g, k, none⟩ (.pointer (some ⟨(ls s).getD i 0, 0, none⟩))) B b pre ids vs pl (updF ls s (swpL (ls s) i k)) ∧
    OnlyS (QS b ids vs) w ((w.setCell ⟨g, i, none⟩ (.pointer (some ⟨(ls s).getD k 0, 0, none⟩))).setCell ⟨g, k, none⟩ (.pointer (some ⟨(ls s).getD i 0, 0, none⟩))) := by
  have mi : (ls s).getD i 0 ∈ ids := q.sub s hs _ (by simp [List.getD, hi])
  have mk : (ls s).getD k 0 ∈ ids := q.sub s hs _ (by simp [List.getD, hk])
  obtain ⟨q1, o1⟩ := q.storeR hs hi mk hg
  obtain ⟨q2, o2⟩ := q1.storeR hs (i := k) (x := (ls s).getD i 0) (g := g) (by rw [updF_same, List.length_set]; exact hk) mi hg
  rw [updF_same, updF_upd] at q2
  exact ⟨q2, o1.trans o2⟩
theorem QR.not_other (q : QR w B b pre ids vs pl ls) {x : Nat} {c : Array Value} {ty : TypeId} (h : w.heap[x]? = some (.cells c ty (0, 0))) (h1 : ty ≠ 60) (h2 : ty ≠ 69) (h3 : ty ≠ 72) : ¬ QS b ids vs x := fun hx => by
  obtain ⟨_, c', ty', e, e2⟩ := q.kinds hx
  rw [h] at e; injection e with e; injection e with _ e
  rcases e2 with rfl | rfl | rfl
  · exact h1 e
  · exact h2 e
  · exact h3 e
theorem QR.row_item (q : QR w B b pre ids vs pl ls) {s : Nat} (hs : s < 2) {g y : Nat} (hg : (vs s).ownBlock = some g) (hy : y ∈ ids) : g ≠ y := by
  rintro rfl
  obtain ⟨_, c, hc⟩ := (q.row s hs).kindQ hg
  have := (q.item g hy).2
  rw [hc] at this; injection this with this; injection this with _ this; exact absurd this (by decide)
set_option maxRecDepth 100000 in
set_option maxHeartbeats 2000000 in
theorem endSwap_any (q : QR w B b pre ids vs pl ls) {s : Nat} (hs : s < 2) {i k : Nat} (hi : i < (ls s).length) (hk : k < (ls s).length) : Calls Try.prog 59 #[endV b s, .int .i64 i, .int .i64 k] w fun r w' => r = .returned (.tuple #[]) ∧ QR w' B b pre ids vs (plPut (plPut pl s ((ls s).getD k 0) i) s ((ls s).getD i 0) k) (updF ls s (swpL (ls s) i k)) ∧ OnlyS (QS b ids vs) w w' := by
  have hne : ls s ≠ [] := fun e => by rw [e] at hi; exact absurd hi (Nat.not_lt_zero _)
  have hb1 : Below w.heap.size w (w.alloc (.cells #[.pointer (some ⟨b, 0, none⟩), .int .i64 s] 67)) := below_alloc1 w _
  have q1 := q.later hb1
  have hse : (w.alloc (.cells #[.pointer (some ⟨b, 0, none⟩), .int .i64 s] 67)).cell? ⟨w.heap.size, 1, none⟩ = some (.int .i64 s) := by simp
  obtain ⟨g, cap, hv, hg, hgl, _, hf, hc⟩ := q1.cellR hs hne
  have c0 := q1.cellB hs
  rw [hv] at c0
  have ci := hc i hi
  have ck := hc k hk
  have mi : (ls s).getD i 0 ∈ ids := q.sub s hs _ (by simp [List.getD, hi])
  have mk : (ls s).getD k 0 ∈ ids := q.sub s hs _ (by simp [List.getD, hk])
  have hii : (i : Int) < (ls s).length := by omega
  have hkk : (k : Int) < (ls s).length := by omega
  have hsi : (s : Int) < 2 := by omega
  have fi := hf i
  have fk := hf k
  obtain ⟨_, cw, hgw⟩ := (q1.row s hs).kindQ hg
  have hsz : i < cw.size ∧ k < cw.size := by
    rw [cell_of_row _ g i _ _ _ hgw] at ci
    rw [cell_of_row _ g k _ _ _ hgw] at ck
    exact ⟨(Array.getElem?_eq_some_iff.1 ci).1, (Array.getElem?_eq_some_iff.1 ck).1⟩
  have hgn : ∀ n, ((w.alloc (.cells #[.pointer (some ⟨b, 0, none⟩), .int .i64 s] 67)).drewN n).heap[g]? = some (.cells cw 69 (0, 0)) := fun n => hgw
  have hck2 : ∀ n, (((w.alloc (.cells #[.pointer (some ⟨b, 0, none⟩), .int .i64 s] 67)).drewN n).setCell ⟨g, i, none⟩ (.pointer (some ⟨(ls s).getD k 0, 0, none⟩))).cell? ⟨g, k, none⟩ = some (.pointer (some ⟨(ls s).getD k 0, 0, none⟩)) := fun n => by
    by_cases e : k = i
    · subst e; exact setCell_at _ g k _ (hgn n) hsz.1
    · exact (setCell_ne _ g i k _ (hgn n) e).trans ck
  have HSW := Lib.hid (fun W (qW : QR W B b pre ids vs pl ls) => qW.swap hs hi hk hg)
  have HGW : Hid (∀ n, ((((w.alloc (.cells #[.pointer (some ⟨b, 0, none⟩), .int .i64 s] 67)).drewN n).setCell ⟨g, i, none⟩ (.pointer (some ⟨(ls s).getD k 0, 0, none⟩))).setCell ⟨g, k, none⟩ (.pointer (some ⟨(ls s).getD i 0, 0, none⟩))).cell? ⟨g, i, none⟩ = some (.pointer (some ⟨(ls s).getD k 0, 0, none⟩)) ∧ ((((w.alloc (.cells #[.pointer (some ⟨b, 0, none⟩), .int .i64 s] 67)).drewN n).setCell ⟨g, i, none⟩ (.pointer (some ⟨(ls s).getD k 0, 0, none⟩))).setCell ⟨g, k, none⟩ (.pointer (some ⟨(ls s).getD i 0, 0, none⟩))).cell? ⟨g, k, none⟩ = some (.pointer (some ⟨(ls s).getD i 0, 0, none⟩))) := fun n => by
    have h2 := heap_setCell_same _ g i _ _ (.pointer (some ⟨(ls s).getD k 0, 0, none⟩)) (hgn n)
    refine ⟨?_, setCell_at _ g k _ h2 (by simp [hsz.2])⟩
    by_cases e : i = k
    · subst e; exact setCell_at _ g i _ h2 (by simp [hsz.2])
    · exact (setCell_ne _ g k i _ h2 e).trans (setCell_at _ g i _ (hgn n) hsz.1)
  have Q1 := Lib.hid q1
  have HEB : Hid ((w.alloc (.cells #[.pointer (some ⟨b, 0, none⟩), .int .i64 s] 67)).heap[w.heap.size]? = some (.cells #[.pointer (some ⟨b, 0, none⟩), .int .i64 s] 67 (0, 0))) := heap_alloc_new w _
  generalize (ls s).getD i 0 = x at *
  generalize (ls s).getD k 0 = y at *
  unfold endV
  clear q hc hne hf q1 hgw hsz hgn
  go_enter Try.func59, Try.ntmps59
  go_wp2
  go_quiet (fail)
  go_wp2_with fail
  go_region
  obtain ⟨q3, o3⟩ := HSW.out ((w.alloc (.cells #[.pointer (some ⟨b, 0, none⟩), .int .i64 s] 67)).drewN (nq + 1)) (Q1.out.keep Q1.out.low fun _ _ => rfl)
  obtain ⟨hgi, hgk⟩ := HGW.out (nq + 1)
  have o3' : OnlyS (QS b ids vs) w _ := OnlyS.trans (OnlyS.of_below (hb1.drewN (n := nq + 1))) o3
  have hEN := Q1.out.not_other HEB.out (by decide) (by decide) (by decide)
  have hs3 := o3.cell (a := ⟨w.heap.size, 1, none⟩) (v := .int .i64 s) hse hEN
  clear hse ci ck fi fk c0 hck2 HSW HGW HEB o3 hb1 Q1
  generalize ((((w.alloc (.cells #[.pointer (some ⟨b, 0, none⟩), .int .i64 s] 67)).drewN (nq + 1)).setCell ⟨g, i, none⟩ (.pointer (some ⟨y, 0, none⟩))).setCell ⟨g, k, none⟩ (.pointer (some ⟨x, 0, none⟩))) = W3 at *
  have hgy := q3.row_item hs hg mk
  have hgx := q3.row_item hs hg mi
  obtain ⟨q4, o4, f4⟩ := q3.storeP hs mk i
  have cy := (q3.cellI mk).2 s hs
  have hey : w.heap.size ≠ y := fun e => hEN (.inr (.inr (.inr (e ▸ mk))))
  have hex : w.heap.size ≠ x := fun e => hEN (.inr (.inr (.inr (e ▸ mi))))
  have hs4 : (W3.setCell ⟨y, 1 + s, none⟩ (.int .i64 i)).drew.cell? ⟨w.heap.size, 1, none⟩ = some (.int .i64 s) := (cell_other _ hey _ _ _).trans hs3
  have hg4 : (W3.setCell ⟨y, 1 + s, none⟩ (.int .i64 i)).drew.cell? ⟨g, k, none⟩ = some (.pointer (some ⟨x, 0, none⟩)) := (cell_other _ hgy _ _ _).trans hgk
  have Q4 : Hid (QR (W3.setCell ⟨y, 1 + s, none⟩ (.int .i64 i)).drew B b pre ids vs (plPut pl s y i) (updF ls s (swpL (ls s) i k))) := q4.keep q4.low fun _ _ => rfl
  have O4 : Hid (OnlyS (QS b ids vs) w (W3.setCell ⟨y, 1 + s, none⟩ (.int .i64 i)).drew) := ⟨(o3'.trans o4).os, (o3'.trans o4).tape, (o3'.trans o4).output, (o3'.trans o4).size, (o3'.trans o4).block⟩
  clear q3 q4 o3' o4
  go_wp2_with fail
  go_region
  clear hgi hs3 hgk cy f4
  generalize (W3.setCell ⟨y, 1 + s, none⟩ (.int .i64 i)).drew = W4 at *
  obtain ⟨q5, o5, f5⟩ := Q4.out.storeP hs mi k
  have cx := (Q4.out.cellI mi).2 s hs
  have Q5 : Hid (QR (W4.setCell ⟨x, 1 + s, none⟩ (.int .i64 k)).drew B b pre ids vs (plPut (plPut pl s y i) s x k) (updF ls s (swpL (ls s) i k))) := q5.keep q5.low fun _ _ => rfl
  have O5 : Hid (OnlyS (QS b ids vs) w (W4.setCell ⟨x, 1 + s, none⟩ (.int .i64 k)).drew) := ⟨(O4.out.trans o5).os, (O4.out.trans o5).tape, (O4.out.trans o5).output, (O4.out.trans o5).size, (O4.out.trans o5).block⟩
  clear q5 o5 Q4 O4
  go_wp2_with fail
  go_region
  go_wp2
  refine bodyPost_end (results_none rfl _ _ _) rfl ⟨rfl, Q5.out, O5.out⟩
end

end Go.Proofs.Ytoaejkfejdaiaaa
