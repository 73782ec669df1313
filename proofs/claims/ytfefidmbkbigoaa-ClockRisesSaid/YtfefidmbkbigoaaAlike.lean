/- The contracts of clock's alike, and of slices.EqualFunc with it. -/
import Derived.Test.YtfefidmbkbigoaaKeep
import Derived.ChangeKeysEq
namespace Go.Proofs.Ytfefidmbkbigoaa
open Go.RowKit

theorem run_eqItems_cons {P : Program} (w : World) (d : Nat) {e : TypeId} {k' : IntKind} (xs ys : Array Value) (j : Nat) (is : List Nat) (k : IntKind) (a b : Int) (hu : P.underlying e = some (.int k')) (hx : xs[j]? = some (.int k a)) (hy : ys[j]? = some (.int k b)) :
    (Op.eqItems (d + 1) e 1 xs ys (j :: is)).run P w = if a == b then (Op.eqItems (d + 1) e 1 xs ys is).run P w else .ok false w := by
  rw [Op.eqItems]
  simp only [Nat.mul_one, Sem.run_bind, run_part_one w hu rfl hx, run_part_one w hu rfl hy, Result.andThen_ok, run_equalIn_int w d e k k' a b hu]
  cases h : (a == b) <;> simp

theorem run_equal_four (c d : Nat → Int) (w : World) : (Op.equalIn 10000 34 (.agg #[.int .i64 (c 0), .int .i64 (c 1), .int .i64 (c 2), .int .i64 (c 3)]) (.agg #[.int .i64 (d 0), .int .i64 (d 1), .int .i64 (d 2), .int .i64 (d 3)])).run Try.prog w = .ok (decide (c 0 = d 0 ∧ c 1 = d 1 ∧ c 2 = d 2 ∧ c 3 = d 3)) w := by
  have hsome : (Try.prog.info? 3).isSome = true := by kernel_rfl
  obtain ⟨i, hi⟩ := Option.isSome_iff_exists.1 hsome
  have hc : Try.prog.cellsOf 3 = 1 := by kernel_rfl
  rw [run_equalIn_array (P := Try.prog) w 9999 _ _ Try.underlying34 hi, hc]
  simp only [show List.range 4 = [0, 1, 2, 3] from rfl]
  rw [run_eqItems_cons w 9998 _ _ 0 _ .i64 (c 0) (d 0) Try.underlying3 rfl rfl, run_eqItems_cons w 9998 _ _ 1 _ .i64 (c 1) (d 1) Try.underlying3 rfl rfl, run_eqItems_cons w 9998 _ _ 2 _ .i64 (c 2) (d 2) Try.underlying3 rfl rfl, run_eqItems_cons w 9998 _ _ 3 _ .i64 (c 3) (d 3) Try.underlying3 rfl rfl, Op.eqItems]
  by_cases h0 : c 0 = d 0 <;> by_cases h1 : c 1 = d 1 <;> by_cases h2 : c 2 = d 2 <;> by_cases h3 : c 3 = d 3 <;> simp [h0, h1, h2, h3]

/-- One event, of one clock. -/
def alikeB (m m' : Mk) : Bool := decide (m.e = m'.e) && decide ((m.c 0 : Int) = m'.c 0 ∧ (m.c 1 : Int) = m'.c 1 ∧ (m.c 2 : Int) = m'.c 2 ∧ (m.c 3 : Int) = m'.c 3)
theorem alikeB_iff {m m' : Mk} : alikeB m m' = true ↔ m.e = m'.e ∧ ∀ t, t < 4 → m.c t = m'.c t := by
  unfold alikeB
  rw [Bool.and_eq_true, decide_eq_true_eq, decide_eq_true_eq]
  constructor
  · rintro ⟨h, h0, h1, h2, h3⟩
    refine ⟨h, fun t ht => ?_⟩
    rcases (by omega : t = 0 ∨ t = 1 ∨ t = 2 ∨ t = 3) with rfl | rfl | rfl | rfl <;> omega
  · rintro ⟨h, h1⟩
    have := h1 0 (by omega)
    have := h1 1 (by omega)
    have := h1 2 (by omega)
    have := h1 3 (by omega)
    exact ⟨h, by omega, by omega, by omega, by omega⟩

set_option maxRecDepth 100000 in
set_option maxHeartbeats 4000000 in
theorem alike_any (m m' : Mk) (w : World) : Calls Try.prog 36 #[.agg #[.int .i64 m.e.thread, .int .i64 m.e.kind, .int .i64 m.e.obj, .bool m.e.fail, .int .i64 (m.c 0), .int .i64 (m.c 1), .int .i64 (m.c 2), .int .i64 (m.c 3)],
    .agg #[.int .i64 m'.e.thread, .int .i64 m'.e.kind, .int .i64 m'.e.obj, .bool m'.e.fail, .int .i64 (m'.c 0), .int .i64 (m'.c 1), .int .i64 (m'.c 2), .int .i64 (m'.c 3)]] w fun r w' => r = .returned (.bool (alikeB m m')) ∧ Below w.heap.size w w' := by
  have heq := run_equal_ev m.e m'.e
  have heq4 := run_equal_four (fun t => (m.c t : Int)) (fun t => (m'.c t : Int))
  have hb0 := below_alloc2 w (.cells #[.int .i64 m.e.thread, .int .i64 m.e.kind, .int .i64 m.e.obj, .bool m.e.fail, .int .i64 (m.c 0), .int .i64 (m.c 1), .int .i64 (m.c 2), .int .i64 (m.c 3)] 59) (.cells #[.int .i64 m'.e.thread, .int .i64 m'.e.kind, .int .i64 m'.e.obj, .bool m'.e.fail, .int .i64 (m'.c 0), .int .i64 (m'.c 1), .int .i64 (m'.c 2), .int .i64 (m'.c 3)] 59)
  obtain ⟨E1, hE1⟩ : ∃ b, decide (m.e = m'.e) = b := ⟨_, rfl⟩
  obtain ⟨E2, hE2⟩ : ∃ b, decide ((m.c 0 : Int) = m'.c 0 ∧ (m.c 1 : Int) = m'.c 1 ∧ (m.c 2 : Int) = m'.c 2 ∧ (m.c 3 : Int) = m'.c 3) = b := ⟨_, rfl⟩
  have HR : Hid (alikeB m m' = (E1 && E2)) := by show _ = _; unfold alikeB; rw [hE1, hE2]
  rw [hE1] at heq
  rw [hE2] at heq4
  clear hE1 hE2
  cases E1
  · rw [Bool.false_and] at HR
    clear heq4
    go_enter Try.func36, Try.ntmps36
    go_wp2
    go_ret
    exact ⟨ret_bool HR.out.symm, hb0⟩
  · rw [Bool.true_and] at HR
    go_enter Try.func36, Try.ntmps36
    go_wp2
    go_ret
    exact ⟨ret_bool HR.out.symm, hb0⟩

/-- All of the first k pairs are alike. -/
def AllA (a b : List Mk) (k : Nat) : Prop := ∀ i, i < k → ∀ (h : i < a.length) (h' : i < b.length), alikeB a[i] b[i] = true
def EqR (a b : List Mk) (w : World) (r : Ending) (w' : World) : Prop := ∃ c : Bool, r = .returned (.bool c) ∧ (c = true ↔ a.length = b.length ∧ AllA a b a.length) ∧ Below w.heap.size w w'

set_option maxRecDepth 100000 in
set_option maxHeartbeats 4000000 in
theorem equalFunc_any (aa ab : Option Addr) (ca cb : Nat) (a b : List Mk) (w : World) (hl : RowAt w aa 8 mkCell a) (hl' : RowAt w ab 8 mkCell b) :
    Calls Try.prog 35 #[.slice aa a.length ca, .slice ab b.length cb, .func (.func 36) #[] #[]] w (EqR a b w) := by
  have hm := hl.1
  have hm' := hl'.1
  unfold maxLen at hm hm'
  have HL := Lib.hid hl
  have HL' := Lib.hid hl'
  clear hl hl'
  by_cases hne : a.length = b.length
  case neg =>
    have HN : Hid (¬ (a.length = b.length ∧ AllA a b a.length)) := fun h => hne h.1
    have hq : ((a.length : Int) != b.length) = true := by simp; omega
    clear hne
    go_enter Try.func35, Try.ntmps35
    go_wp2
    go_ret
    exact ⟨false, rfl, by simp [HN.out], Below.refl _ _⟩
  have hq : ((a.length : Int) != b.length) = false := by simp [hne]
  have HE := Lib.hid hne
  have hab1 : a.length ≤ b.length := by omega
  have hab2 : b.length ≤ a.length := by omega
  clear hne
  go_enter Try.func35, Try.ntmps35
  go_wp2
  go_loopw [17] (fun i wr => ∃ k : Nat, k ≤ a.length ∧ i = .int .i64 k ∧ Hid (AllA a b k) ∧ Below w.heap.size w wr) (fun i _ => a.length - (intOf i).toNat)
  case atStart => exact ⟨0, Nat.zero_le _, rfl, (fun i h => absurd h (by omega)), Below.refl _ _⟩
  case round =>
    obtain ⟨k, hk, rfl, HA, hbw⟩ := hrel
    by_cases hlt : k < a.length
    · have hlt' : k < b.length := by omega
      obtain ⟨b1, o1, rfl, ⟨x0, x1, x2, x3⟩, x4, x5, x6, x7⟩ := HL.out.mk k hlt
      obtain ⟨b2, o2, rfl, ⟨y0, y1, y2, y3⟩, y4, y5, y6, y7⟩ := HL'.out.mk k hlt'
      have HA1 : Hid (alikeB a[k] b[k] = true → AllA a b (k + 1)) := by
        intro h i hi h1 h2
        by_cases e : i = k
        · subst e; exact h
        · exact HA.out i (by omega) h1 h2
      have HA2 : Hid (alikeB a[k] b[k] = false → ¬ (a.length = b.length ∧ AllA a b a.length)) := by
        rintro h ⟨_, h2⟩
        rw [h2 k hlt hlt hlt'] at h
        cases h
      have d0 := cell_later hbw x0
      have d1 := cell_later hbw x1
      have d2 := cell_later hbw x2
      have d3 := cell_later hbw x3
      have d4 := cell_later hbw x4
      have d5 := cell_later hbw x5
      have d6 := cell_later hbw x6
      have d7 := cell_later hbw x7
      have hba := below_alloc1 wr (.cells #[.int .i64 a[k].e.thread, .int .i64 a[k].e.kind, .int .i64 a[k].e.obj, .bool a[k].e.fail, .int .i64 (a[k].c 0), .int .i64 (a[k].c 1), .int .i64 (a[k].c 2), .int .i64 (a[k].c 3)] 59)
      have hbw2 := hbw.trans (hba.mono hbw.size)
      have e0 := cell_later hbw2 y0
      have e1 := cell_later hbw2 y1
      have e2 := cell_later hbw2 y2
      have e3 := cell_later hbw2 y3
      have e4 := cell_later hbw2 y4
      have e5 := cell_later hbw2 y5
      have e6 := cell_later hbw2 y6
      have e7 := cell_later hbw2 y7
      clear x0 x1 x2 x3 x4 x5 x6 x7 y0 y1 y2 y3 y4 y5 y6 y7 hba HA
      generalize a[k] = x at *
      generalize b[k] = y at *
      have hb3 := hbw2.alloc hbw2.size (.cells #[.int .i64 y.e.thread, .int .i64 y.e.kind, .int .i64 y.e.obj, .bool y.e.fail, .int .i64 (y.c 0), .int .i64 (y.c 1), .int .i64 (y.c 2), .int .i64 (y.c 3)] 59)
      go_wp2_with fail
      refine (alike_any x y _).mono ?_
      rintro r w2 ⟨rfl, hb4⟩
      have hb5 := hb3.trans (hb4.mono hb3.size)
      clear hb3 hb4 hbw2
      cases hV : alikeB x y
      · have HN := Lib.hid (HA2.out hV)
        clear HA1 HA2 hV
        go_wp2
        go_ret
        exact ⟨false, rfl, ⟨fun h => (by cases h), fun h => absurd h HN.out⟩, hb5⟩
      · have HA3 := Lib.hid (HA1.out hV)
        clear HA1 HA2 hV
        go_wp2
        go_roundw
        case rel => exact ⟨k + 1, by omega, by go_num, HA3, hb5⟩
        case measure => simp [intOf]; omega
    · obtain rfl : k = a.length := by omega
      have HF := Lib.hid (And.intro HE.out HA.out)
      go_wp2
      go_ret
      exact ⟨true, rfl, ⟨fun _ => HF.out, fun _ => rfl⟩, hbw⟩

end Go.Proofs.Ytfefidmbkbigoaa
