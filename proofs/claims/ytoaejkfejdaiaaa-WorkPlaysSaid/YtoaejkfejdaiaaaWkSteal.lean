/- The document's Steal of work. -/
import Derived.Test.YtoaejkfejdaiaaaWkPop
namespace Go.Proofs.Ytoaejkfejdaiaaa
open Go.RowKit

section
variable {w w' : World} {B b g n : Nat} {ls : Nat → List Txt}
theorem RW.last {vs : Nat → Value} (q : RW w B b g n vs ls) {j : Nat} (hj : j < n) {k : Txt} {l : List Txt} (e : ls j = l ++ [k]) : ∃ x o cap, vs j = .slice (some ⟨x, o, none⟩) (l.length + 1) cap ∧ l.length + 1 ≤ cap ∧ w.cell? ⟨x, o + l.length, none⟩ = some (.string ⟨k.toArray⟩) ∧ TxtV w B (.slice (some ⟨x, o, none⟩) (l.length + 1) cap) (l ++ [k]) := by
  have t := q.txt j hj
  rw [e] at t
  obtain ⟨a, cap, e1, hc, hr⟩ := t.form
  obtain ⟨x, o, c, rfl, _, h1, h2⟩ := hr (by simp)
  refine ⟨x, o, cap, by rw [e1]; simp, by simpa using hc, ?_, ?_⟩
  · rw [cell_of_row w x _ _ _ _ h1]
    have := h2 l.length (by simp)
    simpa using this
  · rw [e1] at t
    simpa using t
/-- What a Put into a worker's slice tells. -/
theorem put_pack {vs : Nat → Value} (q : RW w B b g n vs ls) {j : Nat} (hj : j < n) (hl : (ls j).length ≤ 1000) (s : Txt) : ∃ a cap, vs j = .slice a (ls j).length cap ∧
    Calls Try.prog 23 #[.slice a (ls j).length cap, .string ⟨s.toArray⟩] w.drew fun r w' => ∃ a4 cap4, r = .returned (.slice a4 (putT (ls j) s).length cap4) ∧ w'.cell? ⟨g, j, none⟩ = some (.slice a (ls j).length cap) ∧ w'.frozen? ⟨g, j, none⟩ = false ∧ w'.cell? ⟨b, 0, none⟩ = some (.slice (some ⟨g, 0, none⟩) n n) ∧
      PutR B b g n ls j s w (w'.setCell ⟨g, j, none⟩ (.slice a4 (putT (ls j) s).length cap4)) := by
  obtain ⟨a, cap, e, hc, hrow⟩ := q.form hj hl
  refine ⟨a, cap, e, (refPut_any a cap (ls j) s w.drew (hrow.later (w' := w.drew) ⟨rfl, rfl, rfl, Nat.le_refl _, fun _ _ => rfl⟩) hl).mono ?_⟩
  rintro r w4 ⟨v, rfl, h1, h2⟩
  have hb : Below w.heap.size w w4 := ⟨h2.os, h2.tape, h2.output, h2.size, h2.block⟩
  obtain ⟨a4, cap4, rfl, _⟩ := (txtV_own h1).form
  have q4 := q.later hb
  exact ⟨a4, cap4, rfl, e ▸ q4.cellR hj, q4.frozen j, q4.cellB, put_mk q j s h1 hb⟩
/-- One goes from a worker to another one. -/
def StolenR (B b g n : Nat) (ls : Nat → List Txt) (i k : Nat) (x : Txt) (l : List Txt) (w : World) (r : Ending) (w' : World) : Prop :=
  r = .returned (.tuple #[.string ⟨x.toArray⟩, .bool true]) ∧ RK w' B b g n (updF (updF ls k l) i (putT (ls i) x)) ∧ OnlyS (fun y => y = g) w w'
set_option maxRecDepth 100000 in
set_option maxHeartbeats 1000000 in
theorem refSteal_no (q : RK w B b g n ls) (z y : Int) (hz : isW n z = false ∨ isW n y = false ∨ z = y ∨ ls y.toNat = []) : Calls Try.prog 13 #[.pointer (some ⟨b, 0, none⟩), .int .i64 z, .int .i64 y] w fun r w' => r = .returned (.tuple #[.string ⟨#[]⟩, .bool false]) ∧ w' = w := by
  obtain ⟨vs, q⟩ := q
  have HI := refIs_any q z
  have HJ := refIs_any q y
  cases h1 : isW n z
  · rw [h1] at HI
    clear HJ q
    go_enter Try.func13, Try.ntmps13
    go_wp2_with fail
    refine HI.mono ?_
    rintro r w' ⟨rfl, rfl⟩
    go_wp2
    refine bodyPost_ret (v := .tuple #[.string ⟨#[]⟩, .bool false]) (by simp [results, Try.results13, go_sem]) rfl ?_
    exact ⟨rfl, rfl⟩
  · rw [h1] at HI
    cases h2 : isW n y
    · rw [h2] at HJ
      clear q
      go_enter Try.func13, Try.ntmps13
      go_wp2_with fail
      refine HI.mono ?_
      rintro r w' ⟨rfl, rfl⟩
      go_wp2_with fail
      refine HJ.mono ?_
      rintro r w' ⟨rfl, rfl⟩
      go_wp2
      refine bodyPost_ret (v := .tuple #[.string ⟨#[]⟩, .bool false]) (by simp [results, Try.results13, go_sem]) rfl ?_
      exact ⟨rfl, rfl⟩
    · rw [h2] at HJ
      have hz := (hz.resolve_left (by rw [h1]; simp)).resolve_left (by rw [h2]; simp)
      by_cases e : z = y
      · subst e
        clear q hz
        go_enter Try.func13, Try.ntmps13
        go_wp2_with fail
        refine HI.mono ?_
        rintro r w' ⟨rfl, rfl⟩
        go_wp2_with fail
        refine HJ.mono ?_
        rintro r w' ⟨rfl, rfl⟩
        go_wp2
        refine bodyPost_ret (v := .tuple #[.string ⟨#[]⟩, .bool false]) (by simp [results, Try.results13, go_sem]) rfl ?_
        exact ⟨rfl, rfl⟩
      · have hl := hz.resolve_left e
        obtain ⟨k, hk, rfl⟩ := isW_yes h2
        rw [Int.toNat_natCast] at hl
        have HC0 := Lib.hid q.cellB
        obtain ⟨a, cap, ev, _, _⟩ := q.form hk (by rw [hl]; simp)
        have HC1 := Lib.hid (q.cellR hk)
        rw [ev, hl] at HC1
        have hne : (z == (k : Int)) = false := by rw [beq_eq_false_iff_ne]; exact e
        clear q ev hz h1 h2
        go_enter Try.func13, Try.ntmps13
        go_wp2_with fail
        refine HI.mono ?_
        rintro r w' ⟨rfl, rfl⟩
        go_wp2_with fail
        refine HJ.mono ?_
        rintro r w' ⟨rfl, rfl⟩
        have c0 := HC0.out
        have c1 := HC1.out
        go_wp2
        refine bodyPost_ret (v := .tuple #[.string ⟨#[]⟩, .bool false]) (by simp [results, Try.results13, go_sem]) rfl ?_
        exact ⟨rfl, rfl⟩
set_option maxRecDepth 100000 in
set_option maxHeartbeats 2000000 in
theorem refSteal_yes (q : RK w B b g n ls) {i k : Nat} (hi : i < n) (hk : k < n) (hik : i ≠ k) {x : Txt} {l : List Txt} (he : ls k = l ++ [x]) (hl : l.length ≤ 1000) (hl2 : (ls i).length ≤ 1000) :
    Calls Try.prog 13 #[.pointer (some ⟨b, 0, none⟩), .int .i64 (i : Int), .int .i64 (k : Int)] w (StolenR B b g n ls i k x l w) := by
  obtain ⟨vs, q⟩ := q
  have HI := refIs_any q (i : Int)
  rw [show isW n (i : Int) = true by simp [isW, hi]] at HI
  have HJ := refIs_any q (k : Int)
  rw [show isW n (k : Int) = true by simp [isW, hk]] at HJ
  have hne : ((i : Int) == (k : Int)) = false := by rw [beq_eq_false_iff_ne]; omega
  have HC0 := Lib.hid q.cellB
  obtain ⟨y, o, cap, e, hc, c2, ht⟩ := q.last hk he
  have HC1 := Lib.hid (q.cellR hk)
  rw [e] at HC1
  have HF := Lib.hid (q.frozen k)
  have HC2 := Lib.hid c2
  obtain ⟨q5, o5⟩ := q.store k ht.init
  have q6 := q5.drew
  have o6 := o5.drew
  have e6 : updF ls k l i = ls i := updF_ne _ _ hik
  obtain ⟨a, cap6, ev6, HP⟩ := put_pack q6 hi (by rw [e6]; exact hl2) x
  rw [e6] at ev6 HP
  have HP := Lib.hid HP
  have HD0 := Lib.hid q6.cellB
  have HD1 := Lib.hid (q6.cellR hi)
  rw [ev6] at HD1
  have HFI := Lib.hid (q6.frozen i)
  have O6 := Lib.hid o6
  have hn0 : ((l.length : Int) + 1 == 0) = false := by rw [beq_eq_false_iff_ne]; omega
  have hE : Hid (∀ w7 : World, PutR B b g n (updF ls k l) i x ((w.setCell ⟨g, k, none⟩ (.slice (some ⟨y, o, none⟩) l.length cap)).drew) w7 → RK w7 B b g n (updF (updF ls k l) i (putT (ls i) x)) ∧ OnlyS (fun z => z = g) w w7) := fun w7 h => by
    obtain ⟨h1, h2⟩ := h
    rw [e6] at h1
    exact ⟨h1, o6.trans h2⟩
  generalize (putT (ls i) x).length = m2 at *
  generalize l.length = m at *
  generalize (ls i).length = m3 at *
  clear q e c2 ht q5 o5 q6 o6 e6 ev6 O6
  go_enter Try.func13, Try.ntmps13
  go_wp2_with fail
  refine HI.mono ?_
  rintro r w' ⟨rfl, rfl⟩
  go_wp2_with fail
  refine HJ.mono ?_
  rintro r w' ⟨rfl, rfl⟩
  have c0 := HC0.out
  have c1 := HC1.out
  have c2 := HC2.out
  have f1 := HF.out
  go_wp2_with fail
  go_region
  clear c0 c1 c2 f1 HC0 HC1 HC2 HF
  generalize (w'.setCell ⟨g, k, none⟩ (.slice (some ⟨y, o, none⟩) m cap)).drew = W6 at *
  have d0 := HD0.out
  have d1 := HD1.out
  have f1 := HFI.out
  go_wp2_with fail
  go_region_with (go_at_call 23; refine HP.out.mono ?_; rintro r w4 ⟨a4, cap4, rfl, c4, f4, c5, h1⟩; have HR := Lib.hid (hE.out _ h1); clear h1)
  all_goals (go_wp2; refine bodyPost_ret (v := .tuple #[.string ⟨x.toArray⟩, .bool true]) (by simp [results, Try.results13, go_sem]) rfl ?_; exact ⟨rfl, HR.out⟩)
end
end Go.Proofs.Ytoaejkfejdaiaaa
