/- The contract of do. -/
import Derived.Test.YtfhndbibabbnlaaDoPlain
namespace Go.Proofs.Ytfhndbibabbnlaa
open Go.RowKit

theorem run_index_one {P : Program} (w : World) {t elem : TypeId} {n : Nat} {cs : Array Value} {d : TypeDesc} (i : Nat) {v : Value} (hu : P.underlying t = some (.array n elem)) (he : P.underlying elem = some d)
    (hd : (match d with | .struct _ | .array _ _ => true | _ => false) = false) (hs : (P.info? elem).map (·.size) = some 1) (hi : i < n) (hv : cs[i]? = some v) : (Instr.index t (.agg cs) (.int .i64 i)).run P w = .ok v w := by
  cases hq : P.info? elem with
  | none => simp [hq] at hs
  | some x =>
    have hx : x.size = 1 := by simpa [hq] using hs
    have hagg : (isAgg elem).run P w = .ok false w := by
      unfold isAgg
      rw [Sem.run_bind, run_underlying he w]
      cases d <;> simp_all
    simp [Instr.index, asIntOf, run_underlying hu, hi, sizeOf, typeInfo, hq, hx, part, hagg, hv]

set_option maxRecDepth 100000 in
set_option maxHeartbeats 4000000 in
theorem do_any {F : Nat} {s : St} {b : Nat} {w : World} (h : StAt w b s) (ok : s.Ok F) (t : Nat) (i : Ins) (hi : s.ins t = some i) :
    Calls Try.prog 45 #[.pointer (some ⟨b, 0, none⟩), .int .i64 t, .agg #[.int .i64 i.kind, .int .i64 i.r, .int .i64 i.x, .int .i64 i.n]] w fun e w' => e = .returned (.tuple #[]) ∧ StAt w' b (s.do_ t i) ∧ Only b w w' := by
  obtain ⟨o1, o2, o3, o4, o5, o6⟩ := ok.obj hi
  obtain ⟨_, hf, _⟩ := St.ins_has hi
  have hk : i.kind = 1 ∨ i.kind = 2 ∨ i.kind = 3 ∨ i.kind = 4 ∨ i.kind = 5 ∨ i.kind = 6 ∨ i.kind = 7 ∨ i.kind = 8 := by
    have := (ok.ins_right hi).1
    unfold rightIns at this
    repeat' split at this
    all_goals first | omega | (cases this)
  have hx0 : 0 ≤ i.x := by
    have := (ok.ins_right hi).1
    unfold rightIns at this
    repeat' split at this
    all_goals first | (simp only [decide_eq_true_eq] at this; omega) | (cases this)
  obtain ⟨k, hkk, ht⟩ := St.ins_nat hi
  obtain rfl : t = k := by omega
  have h4 := ok.len4
  have hbl := h.lt
  have hrl : (s.th t).r.length = 2 := (ok.thr _ (St.th_mem ht)).1
  have hvl := ok.vl
  have hml := ok.ml
  obtain ⟨kd, r, x, n⟩ := i
  dsimp only at *
  obtain ⟨r, rfl⟩ : ∃ y : Nat, r = y := ⟨r.toNat, by omega⟩
  obtain ⟨x, rfl⟩ : ∃ y : Nat, x = y := ⟨x.toNat, by omega⟩
  obtain ⟨f, hf⟩ : ∃ f, (s.th t).fuel = f + 1 := ⟨(s.th t).fuel - 1, by simp at hf; omega⟩
  have c0 := h.num (2 + t * 37 + 34) (by omega)
  rw [stNum_thr _ _ _ (by omega) (by omega), thr_fuel, hf, Int.natCast_add] at c0
  have c1 := h.num (2 + t * 37 + 33) (by omega)
  rw [stNum_thr _ _ _ (by omega) (by omega), thr_at] at c1
  have hf8 : f ≤ 1000 := by have := (ok.thr _ (St.th_mem ht)).2.2; have := ok.f8; omega
  have ha8 : (s.th t).at_ ≤ 8 := by have := ok.place t ht; have := ok.code8 t ht; omega
  have HG := Lib.hid (h.go t f (s.th t).at_ ht h4 hf rfl)
  have hff := fun o => h.frozen o
  generalize (s.th t).at_ = a at *
  have H := Lib.hid h
  have OK := Lib.hid ok
  have HK := Lib.hid hk
  have HT := Lib.hid (And.intro hrl (And.intro hvl (And.intro hml (And.intro o1 (And.intro o2 o3)))))
  clear h ok hk hf hi hkk hrl hvl hml o1 o2 o3 o6
  go_enter Try.func45, Try.ntmps45
  go_wp2
  have HW : Hid (StAt (((w.setCell ⟨b, 2 + t * 37 + 34, none⟩ (.int .i64 f)).setCell ⟨b, 2 + t * 37 + 33, none⟩ (.int .i64 (a + 1))).alloc (.cells #[.int .i64 kd, .int .i64 r, .int .i64 x, .int .i64 n] 68)) b (s.go t)) := HG.out.later (below_alloc1 _ _)
  have HO : Hid (Only b w (((w.setCell ⟨b, 2 + t * 37 + 34, none⟩ (.int .i64 f)).setCell ⟨b, 2 + t * 37 + 33, none⟩ (.int .i64 (a + 1))).alloc (.cells #[.int .i64 kd, .int .i64 r, .int .i64 x, .int .i64 n] 68))) := (((Only.refl b w).setCell _ _).setCell _ _).alloc _
  have HZ : Hid (w.heap.size < (((w.setCell ⟨b, 2 + t * 37 + 34, none⟩ (.int .i64 f)).setCell ⟨b, 2 + t * 37 + 33, none⟩ (.int .i64 (a + 1))).alloc (.cells #[.int .i64 kd, .int .i64 r, .int .i64 x, .int .i64 n] 68)).heap.size) := by show _ < _; simp [World.setCell]
  have HC : Hid ((((w.setCell ⟨b, 2 + t * 37 + 34, none⟩ (.int .i64 f)).setCell ⟨b, 2 + t * 37 + 33, none⟩ (.int .i64 (a + 1))).alloc (.cells #[.int .i64 kd, .int .i64 r, .int .i64 x, .int .i64 n] 68)).heap[w.heap.size]? = some (.cells #[.int .i64 kd, .int .i64 r, .int .i64 x, .int .i64 n] 68 (0, 0))) := by
    show _ = _
    have := heap_alloc_new ((w.setCell ⟨b, 2 + t * 37 + 34, none⟩ (.int .i64 f)).setCell ⟨b, 2 + t * 37 + 33, none⟩ (.int .i64 (a + 1))) (.cells #[.int .i64 kd, .int .i64 r, .int .i64 x, .int .i64 n] 68)
    simpa [World.setCell] using this
  clear c0 c1 hff HG H
  generalize ((w.setCell ⟨b, 2 + t * 37 + 34, none⟩ (.int .i64 f)).setCell ⟨b, 2 + t * 37 + 33, none⟩ (.int .i64 (a + 1))).alloc (.cells #[.int .i64 kd, .int .i64 r, .int .i64 x, .int .i64 n] 68) = W at *
  generalize w.heap.size = gw at *
  have hz := HZ.out
  have HQ : Hid (∀ w', Below W.heap.size W w' → w'.cell? ⟨gw, 0, none⟩ = some (.int .i64 kd) ∧ Below W.heap.size W w') := fun w' h => ⟨by rw [h.cell (p := ⟨gw, 0, none⟩) hz]; simp [World.cell?, HC.out], h⟩
  have HQ2 : Hid (∀ w', Below W.heap.size W w' → w'.cell? ⟨gw, 0, none⟩ = some (.int .i64 kd) ∧ w'.cell? ⟨gw, 1, none⟩ = some (.int .i64 r) ∧ w'.cell? ⟨gw, 2, none⟩ = some (.int .i64 x) ∧ w'.cell? ⟨gw, 3, none⟩ = some (.int .i64 n)) := fun w' h => by
    refine ⟨?_, ?_, ?_, ?_⟩
    · rw [h.cell (p := ⟨gw, 0, none⟩) hz]; simp [World.cell?, HC.out]
    · rw [h.cell (p := ⟨gw, 1, none⟩) hz]; simp [World.cell?, HC.out]
    · rw [h.cell (p := ⟨gw, 2, none⟩) hz]; simp [World.cell?, HC.out]
    · rw [h.cell (p := ⟨gw, 3, none⟩) hz]; simp [World.cell?, HC.out]
  have hB9 : Below W.heap.size W W.drew := (Below.refl _ _).drew
  clear HZ HC
  rcases HK.out with rfl | rfl | rfl | rfl | rfl | rfl | rfl | rfl
  · have hix : ∀ w', (Instr.index 85 (.agg #[.nilFunc, .func (.func 50) #[] #[], .func (.func 51) #[] #[], .func (.func 52) #[] #[], .func (.func 53) #[] #[], .func (.func 54) #[] #[], .func (.func 55) #[] #[], .func (.func 56) #[] #[], .func (.func 57) #[] #[]]) (.int .i64 1)).run Try.prog w' = .ok (.func (.func 50) #[] #[]) w' := fun w' => run_index_one w' 1 Try.underlying85 Try.underlying84 rfl (by kernel_rfl) (by omega) rfl
    go_region_held3 (fun w' => w'.cell? ⟨gw, 0, none⟩ = some (.int .i64 1) ∧ Below W.heap.size W w') (first | exact HQ.out _ hB9 | exact HQ.out _ hB10)
      (first | (go_at_call 48; refine (deeds_any _).mono ?_; rintro r1 w10 ⟨rfl, hb10⟩; have hB10 := hB9.trans (hb10.mono hB9.size)))
    obtain ⟨q0, q1, q2, q3⟩ := HQ2.out _ hB10
    go_wp2_with fail
    obtain ⟨hrl, hvl, hml, o1, o2, o3⟩ := HT.out
    refine (load_any (HW.out.later hB10) t (by rw [St.go, St.put_len]; exact ht) (by rw [St.go, St.put_len]; exact h4) _ _ r x (by omega) (by have := o1 (by simp); omega) (by rw [St.go_th _ _ ht]; exact hrl)).mono ?_
    rintro r1 w11 ⟨rfl, hs, ho⟩
    clear hrl hvl hml o1 o2 o3
    rw [go_load s t r x n ht] at hs
    go_wp2
    exact bodyPost_end (results_none rfl _ _ _) rfl ⟨rfl, hs, (HO.out.trans (.of_below hB10)).trans ho⟩
  · have hix : ∀ w', (Instr.index 85 (.agg #[.nilFunc, .func (.func 50) #[] #[], .func (.func 51) #[] #[], .func (.func 52) #[] #[], .func (.func 53) #[] #[], .func (.func 54) #[] #[], .func (.func 55) #[] #[], .func (.func 56) #[] #[], .func (.func 57) #[] #[]]) (.int .i64 2)).run Try.prog w' = .ok (.func (.func 51) #[] #[]) w' := fun w' => run_index_one w' 2 Try.underlying85 Try.underlying84 rfl (by kernel_rfl) (by omega) rfl
    go_region_held3 (fun w' => w'.cell? ⟨gw, 0, none⟩ = some (.int .i64 2) ∧ Below W.heap.size W w') (first | exact HQ.out _ hB9 | exact HQ.out _ hB10)
      (first | (go_at_call 48; refine (deeds_any _).mono ?_; rintro r1 w10 ⟨rfl, hb10⟩; have hB10 := hB9.trans (hb10.mono hB9.size)))
    obtain ⟨q0, q1, q2, q3⟩ := HQ2.out _ hB10
    go_wp2_with fail
    obtain ⟨hrl, hvl, hml, o1, o2, o3⟩ := HT.out
    refine (store_any (HW.out.later hB10) t (by rw [St.go, St.put_len]; exact ht) (by rw [St.go, St.put_len]; exact h4) _ _ r x (by omega) (by have := o1 (by simp); omega) hvl).mono ?_
    rintro r1 w11 ⟨rfl, hs, ho⟩
    clear hrl hvl hml o1 o2 o3
    rw [go_store s t r x n ht] at hs
    go_wp2
    exact bodyPost_end (results_none rfl _ _ _) rfl ⟨rfl, hs, (HO.out.trans (.of_below hB10)).trans ho⟩
  · have hix : ∀ w', (Instr.index 85 (.agg #[.nilFunc, .func (.func 50) #[] #[], .func (.func 51) #[] #[], .func (.func 52) #[] #[], .func (.func 53) #[] #[], .func (.func 54) #[] #[], .func (.func 55) #[] #[], .func (.func 56) #[] #[], .func (.func 57) #[] #[]]) (.int .i64 3)).run Try.prog w' = .ok (.func (.func 52) #[] #[]) w' := fun w' => run_index_one w' 3 Try.underlying85 Try.underlying84 rfl (by kernel_rfl) (by omega) rfl
    go_region_held3 (fun w' => w'.cell? ⟨gw, 0, none⟩ = some (.int .i64 3) ∧ Below W.heap.size W w') (first | exact HQ.out _ hB9 | exact HQ.out _ hB10)
      (first | (go_at_call 48; refine (deeds_any _).mono ?_; rintro r1 w10 ⟨rfl, hb10⟩; have hB10 := hB9.trans (hb10.mono hB9.size)))
    obtain ⟨q0, q1, q2, q3⟩ := HQ2.out _ hB10
    go_wp2_with fail
    obtain ⟨hrl, hvl, hml, o1, o2, o3⟩ := HT.out
    refine (set_any (HW.out.later hB10) t (by rw [St.go, St.put_len]; exact ht) (by rw [St.go, St.put_len]; exact h4) _ _ r x (by omega) (by rw [St.go_th _ _ ht]; exact hrl)).mono ?_
    rintro r1 w11 ⟨rfl, hs, ho⟩
    clear hrl hvl hml o1 o2 o3
    rw [go_set s t r x n ht] at hs
    go_wp2
    exact bodyPost_end (results_none rfl _ _ _) rfl ⟨rfl, hs, (HO.out.trans (.of_below hB10)).trans ho⟩
  · have hix : ∀ w', (Instr.index 85 (.agg #[.nilFunc, .func (.func 50) #[] #[], .func (.func 51) #[] #[], .func (.func 52) #[] #[], .func (.func 53) #[] #[], .func (.func 54) #[] #[], .func (.func 55) #[] #[], .func (.func 56) #[] #[], .func (.func 57) #[] #[]]) (.int .i64 4)).run Try.prog w' = .ok (.func (.func 53) #[] #[]) w' := fun w' => run_index_one w' 4 Try.underlying85 Try.underlying84 rfl (by kernel_rfl) (by omega) rfl
    go_region_held3 (fun w' => w'.cell? ⟨gw, 0, none⟩ = some (.int .i64 4) ∧ Below W.heap.size W w') (first | exact HQ.out _ hB9 | exact HQ.out _ hB10)
      (first | (go_at_call 48; refine (deeds_any _).mono ?_; rintro r1 w10 ⟨rfl, hb10⟩; have hB10 := hB9.trans (hb10.mono hB9.size)))
    obtain ⟨q0, q1, q2, q3⟩ := HQ2.out _ hB10
    go_wp2_with fail
    obtain ⟨hrl, hvl, hml, o1, o2, o3⟩ := HT.out
    refine (add_any (HW.out.later hB10) t (by rw [St.go, St.put_len]; exact ht) (by rw [St.go, St.put_len]; exact h4) _ _ r x (by omega) (by rw [St.go_th _ _ ht]; exact hrl)).mono ?_
    rintro r1 w11 ⟨rfl, hs, ho⟩
    clear hrl hvl hml o1 o2 o3
    rw [go_add s t r x n ht] at hs
    go_wp2
    exact bodyPost_end (results_none rfl _ _ _) rfl ⟨rfl, hs, (HO.out.trans (.of_below hB10)).trans ho⟩
  · have hix : ∀ w', (Instr.index 85 (.agg #[.nilFunc, .func (.func 50) #[] #[], .func (.func 51) #[] #[], .func (.func 52) #[] #[], .func (.func 53) #[] #[], .func (.func 54) #[] #[], .func (.func 55) #[] #[], .func (.func 56) #[] #[], .func (.func 57) #[] #[]]) (.int .i64 5)).run Try.prog w' = .ok (.func (.func 54) #[] #[]) w' := fun w' => run_index_one w' 5 Try.underlying85 Try.underlying84 rfl (by kernel_rfl) (by omega) rfl
    go_region_held3 (fun w' => w'.cell? ⟨gw, 0, none⟩ = some (.int .i64 5) ∧ Below W.heap.size W w') (first | exact HQ.out _ hB9 | exact HQ.out _ hB10)
      (first | (go_at_call 48; refine (deeds_any _).mono ?_; rintro r1 w10 ⟨rfl, hb10⟩; have hB10 := hB9.trans (hb10.mono hB9.size)))
    obtain ⟨q0, q1, q2, q3⟩ := HQ2.out _ hB10
    go_wp2_with fail
    obtain ⟨hrl, hvl, hml, o1, o2, o3⟩ := HT.out
    refine (lock_any (HW.out.later hB10) t (by rw [St.go, St.put_len]; exact ht) (by rw [St.go, St.put_len]; exact h4) _ _ r x (by have := o2 (by simp); omega) hml).mono ?_
    rintro r1 w11 ⟨rfl, hs, ho⟩
    clear hrl hvl hml o1 o2 o3
    rw [go_lock s t r x n ht] at hs
    go_wp2
    exact bodyPost_end (results_none rfl _ _ _) rfl ⟨rfl, hs, (HO.out.trans (.of_below hB10)).trans ho⟩
  · have hix : ∀ w', (Instr.index 85 (.agg #[.nilFunc, .func (.func 50) #[] #[], .func (.func 51) #[] #[], .func (.func 52) #[] #[], .func (.func 53) #[] #[], .func (.func 54) #[] #[], .func (.func 55) #[] #[], .func (.func 56) #[] #[], .func (.func 57) #[] #[]]) (.int .i64 6)).run Try.prog w' = .ok (.func (.func 55) #[] #[]) w' := fun w' => run_index_one w' 6 Try.underlying85 Try.underlying84 rfl (by kernel_rfl) (by omega) rfl
    go_region_held3 (fun w' => w'.cell? ⟨gw, 0, none⟩ = some (.int .i64 6) ∧ Below W.heap.size W w') (first | exact HQ.out _ hB9 | exact HQ.out _ hB10)
      (first | (go_at_call 48; refine (deeds_any _).mono ?_; rintro r1 w10 ⟨rfl, hb10⟩; have hB10 := hB9.trans (hb10.mono hB9.size)))
    obtain ⟨q0, q1, q2, q3⟩ := HQ2.out _ hB10
    go_wp2_with fail
    obtain ⟨hrl, hvl, hml, o1, o2, o3⟩ := HT.out
    refine (unlock_any (HW.out.later hB10) t (by rw [St.go, St.put_len]; exact ht) (by rw [St.go, St.put_len]; exact h4) _ _ r x (by have := o2 (by simp); omega) hml).mono ?_
    rintro r1 w11 ⟨rfl, hs, ho⟩
    clear hrl hvl hml o1 o2 o3
    rw [go_unlock s t r x n ht] at hs
    go_wp2
    exact bodyPost_end (results_none rfl _ _ _) rfl ⟨rfl, hs, (HO.out.trans (.of_below hB10)).trans ho⟩
  · have hix : ∀ w', (Instr.index 85 (.agg #[.nilFunc, .func (.func 50) #[] #[], .func (.func 51) #[] #[], .func (.func 52) #[] #[], .func (.func 53) #[] #[], .func (.func 54) #[] #[], .func (.func 55) #[] #[], .func (.func 56) #[] #[], .func (.func 57) #[] #[]]) (.int .i64 7)).run Try.prog w' = .ok (.func (.func 56) #[] #[]) w' := fun w' => run_index_one w' 7 Try.underlying85 Try.underlying84 rfl (by kernel_rfl) (by omega) rfl
    go_region_held3 (fun w' => w'.cell? ⟨gw, 0, none⟩ = some (.int .i64 7) ∧ Below W.heap.size W w') (first | exact HQ.out _ hB9 | exact HQ.out _ hB10)
      (first | (go_at_call 48; refine (deeds_any _).mono ?_; rintro r1 w10 ⟨rfl, hb10⟩; have hB10 := hB9.trans (hb10.mono hB9.size)))
    obtain ⟨q0, q1, q2, q3⟩ := HQ2.out _ hB10
    go_wp2_with fail
    obtain ⟨hrl, hvl, hml, o1, o2, o3⟩ := HT.out
    refine (jump_any (HW.out.later hB10) t (by rw [St.go, St.put_len]; exact ht) (by rw [St.go, St.put_len]; exact h4) _ _ r x (by omega)).mono ?_
    rintro r1 w11 ⟨rfl, hs, ho⟩
    clear hrl hvl hml o1 o2 o3
    rw [go_jump s t r x n ht] at hs
    go_wp2
    exact bodyPost_end (results_none rfl _ _ _) rfl ⟨rfl, hs, (HO.out.trans (.of_below hB10)).trans ho⟩
  · have hix : ∀ w', (Instr.index 85 (.agg #[.nilFunc, .func (.func 50) #[] #[], .func (.func 51) #[] #[], .func (.func 52) #[] #[], .func (.func 53) #[] #[], .func (.func 54) #[] #[], .func (.func 55) #[] #[], .func (.func 56) #[] #[], .func (.func 57) #[] #[]]) (.int .i64 8)).run Try.prog w' = .ok (.func (.func 57) #[] #[]) w' := fun w' => run_index_one w' 8 Try.underlying85 Try.underlying84 rfl (by kernel_rfl) (by omega) rfl
    go_region_held3 (fun w' => w'.cell? ⟨gw, 0, none⟩ = some (.int .i64 8) ∧ Below W.heap.size W w') (first | exact HQ.out _ hB9 | exact HQ.out _ hB10)
      (first | (go_at_call 48; refine (deeds_any _).mono ?_; rintro r1 w10 ⟨rfl, hb10⟩; have hB10 := hB9.trans (hb10.mono hB9.size)))
    obtain ⟨q0, q1, q2, q3⟩ := HQ2.out _ hB10
    go_wp2_with fail
    obtain ⟨hrl, hvl, hml, o1, o2, o3⟩ := HT.out
    refine (assert_any (HW.out.later hB10) t (by rw [St.go, St.put_len]; exact ht) (by rw [St.go, St.put_len]; exact h4) _ _ r x).mono ?_
    rintro r1 w11 ⟨rfl, hs, ho⟩
    clear hrl hvl hml o1 o2 o3
    rw [go_assert s t r x n ht] at hs
    go_wp2
    exact bodyPost_end (results_none rfl _ _ _) rfl ⟨rfl, hs, (HO.out.trans (.of_below hB10)).trans ho⟩

end Go.Proofs.Ytfhndbibabbnlaa
