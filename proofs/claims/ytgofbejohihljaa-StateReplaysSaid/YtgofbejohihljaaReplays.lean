/- StateReplays: any row of threads has the events that the document says, or the first error. -/
import Derived.Test.YtgofbejohihljaaRefReplay
import Derived.Test.YtgofbejohihljaaMore
import Derived.Laws.OwnMore
namespace Go.Proofs.Ytgofbejohihljaa
open Go.RowKit

/-- append([]int{}, row...), in a region whose order is drawn: a row of its own. -/
theorem step_copyN {w : World} {ops : Array Oper} {o : Oper} {a : Act} {K : Act → World → Prop} {Q : Exit → Act → World → Prop} {E : Prop} (hgd : o.guard = none) (s x : Operand)
    (ho : o.op = .call { callee := .builtin .append, args := #[s, x], argTypes := #[25, 25] }) (B : Nat) (v : Value) (hs : a.eval s = v) (hown : OwnN w B v [])
    (ra : Option Addr) (rcap : Nat) (row : List Int) (hx : a.eval x = .slice ra row.length rcap) (hrow : NumsAt w ra row) (hra : ra = none → rcap = 0 ∧ row = [])
    (hlen : row.length ≤ 1000000) (hB : B ≤ w.heap.size)
    (h : ∀ a' cap' w', NumsAt w' a' row → Below B w w' → K (a.put o.dst (.slice a' row.length cap')) w') : if Region.wanted o (yielded ops a.tmps) = true then Oper.wp Try.prog o a w K Q else E := by
  have hw : Region.wanted o (yielded ops a.tmps) = true := by simp [Region.wanted, hgd]
  rw [if_pos hw]
  have hinfo : (Try.prog.info? 3).map (fun i => (i.zero, i.size, i.bytes)) = some (some (.int .i64 0), 1, 8) := by kernel_rfl
  obtain ⟨i, hi, hzz⟩ := Option.map_eq_some_iff.1 hinfo
  simp only [Prod.mk.injEq] at hzz
  obtain ⟨hz, hsz, hby⟩ := hzz
  cases ra with
  | none =>
    obtain ⟨rfl, rfl⟩ := hra rfl
    have hrun := run_append_owned_none (P := Try.prog) (w := w) B 25 o.type 3 i 1 Try.underlying25 hi v 0 [] hown
    obtain ⟨a', cap', hv, hn, _⟩ := OwnN.form hown (by simp)
    have hK := h a' cap' w hn (Below.refl _ _)
    rw [← hv] at hK
    unfold Oper.wp
    simp [execOp, ho, resolve, invoke, builtin, hs, hx, hrun, Result.andThen]
    exact hK
  | some ad =>
    refine wp_append_own w s x 25 ho B 3 i (.int .i64 0) 1 8 Try.underlying25 hi hz hsz hby rfl (by decide) v 0 [] hs hown ad row.length rcap (row.map (Value.int .i64)) hx (by simp) ?_
      (by intro u hu; obtain ⟨y, _, rfl⟩ := List.mem_map.1 hu; rfl) (by unfold maxLen; omega) (by omega) hB ?_
    · intro j u hj
      have hjl : j < row.length := by have := (List.getElem?_eq_some_iff.1 hj).1; simpa using this
      obtain ⟨b, o', e, hc⟩ := hrow.2 (by intro e; simp [e] at hjl)
      injection e with e
      subst e
      have := hc j hjl
      rw [show Addr.add ⟨b, o', none⟩ j = ⟨b, o' + j, none⟩ by unfold Addr.add; split <;> simp_all, this]
      simpa [hjl] using hj
    · intro v' w' h1 h2 _
      have ho' : OwnN w' B v' row := by unfold OwnN; simpa using h1
      obtain ⟨a', cap', rfl, hn, _⟩ := ho'.form (by omega)
      exact h a' cap' w' hn ((Below.refl B w).grown h2 hB (fun k hk => (World.ownsRow.lt hown k hk).1))

theorem own_empty (w W : World) (h : W.heap = (w.alloc (.cells #[] 3)).heap) : OwnN W w.heap.size (.slice (some ⟨w.heap.size, 0, none⟩) 0 0) [] := by
  have h0 : (w.alloc (.cells #[] 3)).ownsRow w.heap.size 3 1 (.slice (some ⟨w.heap.size, 0, none⟩) 0 0) 0 [] := World.ownsRow_made w #[] 0 (Nat.le_refl _) (by simp [maxLen]) rfl
  obtain ⟨h1, h2 | ⟨g, cap, cur, h2, h3, h4, h5⟩⟩ := h0
  · exact ⟨h1, .inl h2⟩
  · exact ⟨h1, .inr ⟨g, cap, cur, h2, h3, by rw [h]; exact h4, h5⟩⟩

set_option maxRecDepth 100000 in
set_option maxHeartbeats 4000000 in
theorem replays_any (p : Pg) (a : Option Addr) (cap : Nat) (fuel : Int) (ra : Option Addr) (rcap : Nat) (row : List Int) (w : World) (hp : ThreadsAt w a p.threads) (hrow : NumsAt w ra row) (hra : ra = none → rcap = 0) :
    Calls Try.prog 4 #[.agg #[.int .i64 p.vars, .int .i64 p.mutexes, .slice a p.threads.length cap], .int .i64 fuel, .slice ra row.length rcap] w fun r w' => r = .returned (.bool true) ∧ Below w.heap.size w w' := by
  have hrm := hrow.1
  unfold maxLen at hrm
  have HP := Lib.hid hp
  have HROW := Lib.hid hrow
  have HRA : Hid (ra = none → rcap = 0 ∧ row = []) := fun e => ⟨hra e, by rcases row with _ | ⟨x, l⟩; rfl; obtain ⟨b, o, e', _⟩ := hrow.2 (by simp); rw [e] at e'; cases e'⟩
  clear hp hrow hra
  go_enter Try.func4, Try.ntmps4
  go_wp2_with fail
  refine (awake_any _).mono ?_
  rintro r w1 ⟨rfl, hb1⟩
  have hc1 : ∀ o, w1.cell? ⟨w.heap.size, o, none⟩ = (w.alloc (.cells #[.int .i64 p.vars, .int .i64 p.mutexes, .slice a p.threads.length cap] 24)).cell? ⟨w.heap.size, o, none⟩ := fun o => hb1.cell (p := ⟨w.heap.size, o, none⟩) (by simp)
  have hw1 : Below w.heap.size w w1 := (below_alloc1 w _).trans (hb1.mono (by simp))
  have hz1 : w.heap.size < w1.heap.size := by have := hb1.size; simp at this; omega
  clear hb1
  go_wp2_with fail
  refine (few_any p a cap w1 (HP.out.later hw1)).mono ?_
  rintro r w2 ⟨rfl, hb2⟩
  have hc2 : ∀ o, w2.cell? ⟨w.heap.size, o, none⟩ = w1.cell? ⟨w.heap.size, o, none⟩ := fun o => hb2.cell (p := ⟨w.heap.size, o, none⟩) hz1
  have hw2 : Below w.heap.size w w2 := hw1.trans (hb2.mono hw1.size)
  have hz2 : w.heap.size < w2.heap.size := by have := hb2.size; omega
  clear hb2
  cases hf : fewPg p
  · clear hf hc1 hc2
    go_wp2_with fail
    refine (awake_any _).mono ?_
    rintro r w3 ⟨rfl, hb3⟩
    have hw3 : Below w.heap.size w w3 := hw2.trans (hb3.mono hw2.size)
    go_wp2
    go_ret
    exact ⟨rfl, hw3⟩
  clear hf
  by_cases hN : 100 < row.length
  · clear hc1 hc2
    go_wp2_with fail
    refine (awake_any _).mono ?_
    rintro r w3 ⟨rfl, hb3⟩
    have hw3 : Below w.heap.size w w3 := hw2.trans (hb3.mono hw2.size)
    go_wp2
    go_ret
    exact ⟨rfl, hw3⟩
  have c0 : w2.cell? ⟨w.heap.size, 0, none⟩ = some (.int .i64 p.vars) := by rw [hc2, hc1]; simp
  have c1 : w2.cell? ⟨w.heap.size, 1, none⟩ = some (.int .i64 p.mutexes) := by rw [hc2, hc1]; simp
  have c2 : w2.cell? ⟨w.heap.size, 2, none⟩ = some (.slice a p.threads.length cap) := by rw [hc2, hc1]; simp
  have HK : Hid (∀ w', Below w2.heap.size w2 w' → w'.cell? ⟨w.heap.size, 0, none⟩ = some (.int .i64 p.vars) ∧ w'.cell? ⟨w.heap.size, 1, none⟩ = some (.int .i64 p.mutexes) ∧ w'.cell? ⟨w.heap.size, 2, none⟩ = some (.slice a p.threads.length cap) ∧ Below w2.heap.size w2 w') := fun w' h => ⟨cell_later h c0, cell_later h c1, cell_later h c2, h⟩
  have hBA : Below w2.heap.size w2 (w2.alloc (.cells #[] 3)).drew := (below_alloc1 w2 _).drew
  have hr100 : row.length ≤ 100 := by omega
  have hB9 : Below w2.heap.size w2 w2.drew := (Below.refl _ _).drew
  clear hc1 hc2 c0 c1 c2
  rcases hrep : rep p fuel row with ⟨e, es, _ | s⟩
  · have q0 : (e == 0) = false := by simpa using rep_none hrep
    have qe : (e == e) = true := by simp
    have HREP := Lib.hid hrep
    clear hrep
    go_wp2_with fail
    go_region_held3 (fun w' => w'.cell? ⟨w.heap.size, 0, none⟩ = some (.int .i64 p.vars) ∧ w'.cell? ⟨w.heap.size, 1, none⟩ = some (.int .i64 p.mutexes) ∧ w'.cell? ⟨w.heap.size, 2, none⟩ = some (.slice a p.threads.length cap) ∧ Below w2.heap.size w2 w')
      (first | exact HK.out _ hB9 | exact HK.out _ hBA | exact HK.out _ hB11 | exact HK.out _ hB12)
      (first
        | (refine step_copyN (by rfl) (.tmp 29) (.tmp 30) (by rfl) w2.heap.size (.slice (some ⟨w2.heap.size, 0, none⟩) 0 0) (by rfl) (own_empty w2 (w2.alloc (.cells #[] 3)).drew rfl) ra rcap row (by rfl) (HROW.out.later (hw2.trans (hBA.mono hw2.size))) HRA.out (by omega) (by simp) ?_; intro a3 cap3 w3 hn3 hb3; have hB11 : Below w2.heap.size w2 w3 := hBA.trans hb3; have HN3 := Lib.hid hn3; clear hn3)
        | (go_at_call 28; refine (replay_any p a cap fuel a3 cap3 row _ (HP.out.later (hw2.trans (hB11.mono hw2.size))) HN3.out (by omega)).mono ?_; rintro r4 w4 ⟨hb4, hr4⟩; rw [HREP.out] at hr4; have hB12 : Below w2.heap.size w2 w4 := hB11.trans (hb4.mono hB11.size); dsimp only at hr4; subst hr4))
    obtain ⟨d0, d1, d2, _⟩ := HK.out _ hB12
    have hw4 : Below w.heap.size w w4 := hw2.trans (hB12.mono hw2.size)
    go_wp2_with fail
    refine (refReplay_any p a cap fuel ra rcap row w4 (HP.out.later hw4) (HROW.out.later hw4) (by omega)).mono ?_
    rintro r5 w5 ⟨hb5, hr5⟩
    rw [HREP.out] at hr5
    have hw5 : Below w.heap.size w w5 := hw4.trans (hb5.mono hw4.size)
    dsimp only at hr5
    subst hr5
    clear hb5 d0 d1 d2
    go_wp2_with fail
    refine (sameEvents_any none none 0 0 [] [] w5 (evsAt_nil _ _) (evsAt_nil _ _)).mono ?_
    rw [show decide (([] : List Ev) = []) = true by simp]
    rintro r6 w6 ⟨rfl, hb6⟩
    have hw6 : Below w.heap.size w w6 := hw5.trans (hb6.mono hw5.size)
    clear hb6
    go_wp2
    go_ret
    exact ⟨rfl, hw6⟩
  · have hle : es.length ≤ 100 := Nat.le_trans (rep_len hrep) hr100
    have HREP := Lib.hid hrep
    clear hrep
    go_wp2_with fail
    go_region_held3 (fun w' => w'.cell? ⟨w.heap.size, 0, none⟩ = some (.int .i64 p.vars) ∧ w'.cell? ⟨w.heap.size, 1, none⟩ = some (.int .i64 p.mutexes) ∧ w'.cell? ⟨w.heap.size, 2, none⟩ = some (.slice a p.threads.length cap) ∧ Below w2.heap.size w2 w')
      (first | exact HK.out _ hB9 | exact HK.out _ hBA | exact HK.out _ hB11 | exact HK.out _ hB12)
      (first
        | (refine step_copyN (by rfl) (.tmp 29) (.tmp 30) (by rfl) w2.heap.size (.slice (some ⟨w2.heap.size, 0, none⟩) 0 0) (by rfl) (own_empty w2 (w2.alloc (.cells #[] 3)).drew rfl) ra rcap row (by rfl) (HROW.out.later (hw2.trans (hBA.mono hw2.size))) HRA.out (by omega) (by simp) ?_; intro a3 cap3 w3 hn3 hb3; have hB11 : Below w2.heap.size w2 w3 := hBA.trans hb3; have HN3 := Lib.hid hn3; clear hn3)
        | (go_at_call 28; refine (replay_any p a cap fuel a3 cap3 row _ (HP.out.later (hw2.trans (hB11.mono hw2.size))) HN3.out (by omega)).mono ?_; rintro r4 w4 ⟨hb4, hr4⟩; rw [HREP.out] at hr4; have hB12 : Below w2.heap.size w2 w4 := hB11.trans (hb4.mono hB11.size); obtain ⟨g1, v1, rfl, hg1, hs1, ok1, ho1⟩ := hr4; obtain ⟨av, cv, rfl, hev1⟩ := ho1.form (by omega); have HS1 := Lib.hid hs1; have OK1 := Lib.hid ok1; have HE1 := Lib.hid hev1; clear hs1 ok1 hev1 ho1))
    obtain ⟨d0, d1, d2, _⟩ := HK.out _ hB12
    have hw4 : Below w.heap.size w w4 := hw2.trans (hB12.mono hw2.size)
    go_wp2_with fail
    refine (refReplay_any p a cap fuel ra rcap row w4 (HP.out.later hw4) (HROW.out.later hw4) (by omega)).mono ?_
    rintro r5 w5 ⟨hb5, hr5⟩
    rw [HREP.out] at hr5
    have hw5 : Below w.heap.size w w5 := hw4.trans (hb5.mono hw4.size)
    obtain ⟨b, tb, tcap, v2, rfl, hr2, hp2, ok2, ho2⟩ := hr5
    obtain ⟨av2, cv2, rfl, hev2⟩ := ho2.form (by omega)
    have HS5 := Lib.hid (HS1.out.later hb5)
    have HE5 := Lib.hid (HE1.out.later hb5)
    have HR5 := Lib.hid hr2
    have HP2 := Lib.hid hp2
    have HV5 := Lib.hid hev2
    clear hb5 d0 d1 d2 hr2 hp2 ok2 ho2 hev2 HS1 HE1
    go_wp2_with fail
    refine (sameEvents_any _ _ _ _ es es w5 HE5.out HV5.out).mono ?_
    rw [show decide (es = es) = true by simp]
    rintro r6 w6 ⟨rfl, hb6⟩
    have hw6 : Below w.heap.size w w6 := hw5.trans (hb6.mono hw5.size)
    have HS6 := Lib.hid (HS5.out.later hb6)
    have HR6 := Lib.hid (HR5.out.later hb6)
    clear hb6 HS5 HR5 HE5 HV5
    have hl4 := OK1.out.len4
    have hal : s.all.length ≤ 4 := by
      unfold St.all
      exact Nat.le_trans (List.length_filter_le _ _) (by simp; omega)
    go_wp2_with fail
    refine (all_any HS6.out OK1.out).mono ?_
    rintro r7 w7 ⟨v7, rfl, hv7, hb7⟩
    obtain ⟨a7, cap7, rfl, hn7, _⟩ := hv7.form (by omega)
    have hw7 : Below w.heap.size w w7 := hw6.trans (hb7.mono hw6.size)
    have HR7 := Lib.hid (HR6.out.later hb7)
    have HN7 := Lib.hid hn7
    clear hv7 hb7 hn7 HS6 HR6
    go_wp2_with fail
    refine (refAll_any HR7.out (by rw [HP2.out]; exact HP.out.later hw7) OK1.out).mono ?_
    rintro r8 w8 ⟨v8, rfl, hv8, hb8⟩
    obtain ⟨a8, cap8, rfl, hn8, _⟩ := hv8.form (by omega)
    have hw8 : Below w.heap.size w w8 := hw7.trans (hb8.mono hw7.size)
    have HN8 := Lib.hid hn8
    have HM8 := Lib.hid (HN7.out.later hb8)
    clear hv8 hb8 hn8 HN7
    go_wp2_with fail
    refine (sameInts_any a7 a8 cap7 cap8 s.all s.all w8 HM8.out HN8.out).mono ?_
    rw [show decide (s.all = s.all) = true by simp]
    rintro r9 w9 ⟨rfl, hb9⟩
    have hw9 : Below w.heap.size w w9 := hw8.trans (hb9.mono hw8.size)
    clear hb9
    go_wp2
    go_ret
    exact ⟨rfl, hw9⟩

end Go.Proofs.Ytgofbejohihljaa
