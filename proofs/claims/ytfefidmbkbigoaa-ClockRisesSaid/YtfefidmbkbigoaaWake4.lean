/- The contract of awake of layer 4: true. -/
import Derived.Test.YtfefidmbkbigoaaSameCode
import Derived.Test.YtfefidmbkbigoaaBefore
import Derived.Test.YtfefidmbkbigoaaLast
import Derived.StillTailTactics
namespace Go.Proofs.Ytfefidmbkbigoaa
open Go.RowKit

def we0 : Ev := ⟨0, 3, 0, false⟩
def we1 : Ev := ⟨1, 3, 0, false⟩
def we2 : Ev := ⟨2, 1, 0, false⟩
def wl : List Ev := [we0, we1, we2]
def wm : List Ev := [we2, we0, we1]
def wx : List Ev := [we1, we0, we2]

theorem wl_right : rightL wl = true := by decide
theorem wm_right : rightL wm = true := by decide
theorem wl_clk : clk wl 1 ((0 : Nat) : Int) = 1 ∧ clk wl 1 ((1 : Nat) : Int) = 1 ∧ clk wl 1 ((2 : Nat) : Int) = 0 ∧ clk wl 1 ((3 : Nat) : Int) = 0 := by decide
theorem wl_same : SameO wl wm := by
  refine ⟨wl_right, wm_right, ?_⟩
  have h1 : Sim ([we0] ++ we1 :: we2 :: []) ([we0] ++ we2 :: we1 :: []) := sim_swap (by decide)
  have h2 : Sim ([] ++ we0 :: we2 :: [we1]) ([] ++ we2 :: we0 :: [we1]) := sim_swap (by decide)
  exact fun t => (h1 t).trans (h2 t)
theorem wx_same : ¬ SameO wl wx := by
  rintro ⟨_, _, h⟩
  exact sim_swap_dep (x := []) (y := [we2]) (e := we1) (f := we0) (by decide) (by decide) h

theorem evs_three (w : World) (e f d : Ev) : EvsAt (w.alloc (.cells #[.int .i64 e.thread, .int .i64 e.kind, .int .i64 e.obj, .bool e.fail, .int .i64 f.thread, .int .i64 f.kind, .int .i64 f.obj, .bool f.fail, .int .i64 d.thread, .int .i64 d.kind, .int .i64 d.obj, .bool d.fail] 28)) (some ⟨w.heap.size, 0, none⟩) [e, f, d] := by
  refine ⟨by simp [maxLen], fun _ => ⟨w.heap.size, 0, rfl, fun i hi => ?_⟩⟩
  have : i = 0 ∨ i = 1 ∨ i = 2 := by simp at hi; omega
  rcases this with rfl | rfl | rfl <;> simp
theorem evs_one (w : World) (e : Ev) : EvsAt (w.alloc (.cells #[.int .i64 e.thread, .int .i64 e.kind, .int .i64 e.obj, .bool e.fail] 28)) (some ⟨w.heap.size, 0, none⟩) [e] := by
  refine ⟨by simp [maxLen], fun _ => ⟨w.heap.size, 0, rfl, fun i hi => ?_⟩⟩
  obtain rfl : i = 0 := by simp at hi; omega
  simp

theorem evs_ev0 (w : World) : EvsAt (w.alloc (.cells #[.int .i64 0, .int .i64 0, .int .i64 0, .bool false] 28)) (some ⟨w.heap.size, 0, none⟩) [ev0] := evs_one w ev0
theorem wk4_clocks (w : World) (a : Option Addr) (h : EvsAt w a wl) : Calls Try.prog 15 #[.slice a 3 3] w fun r w' => ∃ b o cap, r = .returned (.slice (some ⟨b, o, none⟩) 3 cap) ∧
    (w'.cell? ⟨b, o + 4, none⟩ = some (.int .i64 1) ∧ w'.cell? ⟨b, o + 5, none⟩ = some (.int .i64 1) ∧ w'.cell? ⟨b, o + 6, none⟩ = some (.int .i64 0) ∧ w'.cell? ⟨b, o + 7, none⟩ = some (.int .i64 0)) ∧ Below w.heap.size w w' :=
  (clocks_any a 3 wl w h (by decide)).mono fun r w' ⟨a', cap', h1, h2, h3⟩ => by
    have hlen : (cks wl).length = 3 := cks_len wl_right
    obtain ⟨b, o, rfl, hc⟩ := h2.2 (by intro e; rw [e] at hlen; cases hlen)
    have hg := cks_get wl_right (k := 1) (by decide)
    have hk : ∀ j u, (ckCell (fun t : Nat => clk wl 1 t))[j]? = some u → w'.cell? ⟨b, o + 1 * 4 + j, none⟩ = some u := fun j u hj => hc 1 (by omega) j u (by rw [hg]; exact hj)
    obtain ⟨e0, e1, e2, e3⟩ := wl_clk
    have c0 := hk 0 (.int .i64 (clk wl 1 ((0 : Nat) : Int) : Nat)) rfl
    have c1 := hk 1 (.int .i64 (clk wl 1 ((1 : Nat) : Int) : Nat)) rfl
    have c2 := hk 2 (.int .i64 (clk wl 1 ((2 : Nat) : Int) : Nat)) rfl
    have c3 := hk 3 (.int .i64 (clk wl 1 ((3 : Nat) : Int) : Nat)) rfl
    rw [e0] at c0
    rw [e1] at c1
    rw [e2] at c2
    rw [e3] at c3
    simp only [Nat.one_mul, Nat.add_zero, Nat.add_assoc] at c0 c1 c2 c3
    exact ⟨b, o, cap', by rw [h1, hlen], ⟨c0, c1, c2, c3⟩, h3⟩
theorem wk4_clocks0 (w : World) (a : Option Addr) (h : EvsAt w a [ev0]) : Calls Try.prog 15 #[.slice a 1 1] w fun r w' => ∃ a' cap, r = .returned (.slice a' 0 cap) ∧ Below w.heap.size w w' :=
  (clocks_any a 1 [ev0] w h (by decide)).mono fun r w' ⟨a', cap', h1, _, h3⟩ => ⟨a', cap', by rw [h1, cks_wrong (by decide)]; rfl, h3⟩
theorem wk4_number (w : World) (a : Option Addr) (h : EvsAt w a wl) : Calls Try.prog 16 #[.slice a 3 3, .int .i64 1] w fun r w' => r = .returned (.int .i64 1) ∧ Below w.heap.size w w' :=
  (number_any a 3 wl 1 w h (by decide) (by decide)).mono fun r w' ⟨h1, h2⟩ => ⟨by rw [h1, show numO wl 1 = 1 by decide]; rfl, h2⟩
theorem wk4_before1 (w : World) (a : Option Addr) (h : EvsAt w a wl) : Calls Try.prog 32 #[.slice a 3 3, .int .i64 0, .int .i64 1] w fun r w' => r = .returned (.bool true) ∧ Below w.heap.size w w' :=
  (before_any a 3 wl 0 1 w h (by decide) (by decide)).mono fun r w' ⟨h1, h2⟩ => ⟨by rw [h1, show beforeO wl 0 1 = true by decide], h2⟩
theorem wk4_before2 (w : World) (a : Option Addr) (h : EvsAt w a wl) : Calls Try.prog 32 #[.slice a 3 3, .int .i64 0, .int .i64 2] w fun r w' => r = .returned (.bool false) ∧ Below w.heap.size w w' :=
  (before_any a 3 wl 0 2 w h (by decide) (by decide)).mono fun r w' ⟨h1, h2⟩ => ⟨by rw [h1, show beforeO wl 0 2 = false by decide], h2⟩
theorem wk4_last (w : World) (a : Option Addr) (h : EvsAt w a wl) : Calls Try.prog 17 #[.slice a 3 3, .int .i64 1] w fun r w' => r = .returned (.agg #[.int .i64 1, .int .i64 1, .int .i64 0, .int .i64 0]) ∧ Below w.heap.size w w' :=
  (last_any a 3 wl 1 w h (by decide)).mono fun r w' ⟨c, h1, h2, h3⟩ => by
    refine ⟨?_, h3⟩
    rcases h2 with ⟨k, _, hk, ht, _, rfl⟩ | ⟨h4, _⟩
    · have hk3 : k < 3 := hk
      have : k = 1 := by
        rcases (by omega : k = 0 ∨ k = 1 ∨ k = 2) with rfl | rfl | rfl
        · exact absurd ht (by decide)
        · rfl
        · exact absurd ht (by decide)
      subst this
      obtain ⟨e0, e1, e2, e3⟩ := wl_clk
      rw [h1]
      show Ending.returned (.agg #[.int .i64 (clk wl 1 ((0 : Nat) : Int) : Nat), .int .i64 (clk wl 1 ((1 : Nat) : Int) : Nat), .int .i64 (clk wl 1 ((2 : Nat) : Int) : Nat), .int .i64 (clk wl 1 ((3 : Nat) : Int) : Nat)]) = _
      rw [e0, e1, e2, e3]
      rfl
    · exact absurd (h4 wl_right 1 (by decide)) (by decide)
theorem wk4_same1 (w : World) (a b : Option Addr) (h : EvsAt w a wl) (h' : EvsAt w b wm) : Calls Try.prog 13 #[.slice a 3 3, .slice b 3 3] w fun r w' => r = .returned (.bool true) ∧ Below w.heap.size w w' :=
  (same_any a b 3 3 wl wm w h h' (by decide) (by decide)).mono fun r w' ⟨c, h1, h2, h3⟩ => ⟨by rw [h1, h2.2 wl_same], h3⟩
theorem wk4_same2 (w : World) (a b : Option Addr) (h : EvsAt w a wl) (h' : EvsAt w b wx) : Calls Try.prog 13 #[.slice a 3 3, .slice b 3 3] w fun r w' => r = .returned (.bool false) ∧ Below w.heap.size w w' :=
  (same_any a b 3 3 wl wx w h h' (by decide) (by decide)).mono fun r w' ⟨c, h1, h2, h3⟩ => ⟨by
    cases c
    · exact h1
    · exact absurd (h2.1 rfl) wx_same, h3⟩

set_option maxRecDepth 100000 in
set_option maxHeartbeats 4000000 in
theorem awake_any (w : World) : Calls Try.prog 10 #[] w fun r w' => r = .returned (.bool true) ∧ Below w.heap.size w w' := by
  have hW1 : ∃ W1, W1 = w.alloc (.cells #[.int .i64 0, .int .i64 3, .int .i64 0, .bool false, .int .i64 1, .int .i64 3, .int .i64 0, .bool false, .int .i64 2, .int .i64 1, .int .i64 0, .bool false] 28) ∧ EvsAt W1 (some ⟨w.heap.size, 0, none⟩) wl ∧ Below w.heap.size w W1 := ⟨_, rfl, evs_three w we0 we1 we2, below_alloc1 _ _⟩
  obtain ⟨W1, hW1, hE1, hb1⟩ := hW1
  have HE1 := Lib.hid hE1
  obtain ⟨b', o', e, hc⟩ := hE1.2 (by decide)
  cases e
  obtain ⟨x0, x1, x2, x3⟩ := hc 0 (by decide)
  obtain ⟨y0, y1, y2, y3⟩ := hc 1 (by decide)
  obtain ⟨z0, z1, z2, z3⟩ := hc 2 (by decide)
  have hX : (W1.cell? ⟨w.heap.size, 0, none⟩ = some (.int .i64 0) ∧ W1.cell? ⟨w.heap.size, 1, none⟩ = some (.int .i64 3) ∧ W1.cell? ⟨w.heap.size, 2, none⟩ = some (.int .i64 0) ∧ W1.cell? ⟨w.heap.size, 3, none⟩ = some (.bool false)) ∧
    (W1.cell? ⟨w.heap.size, 4, none⟩ = some (.int .i64 1) ∧ W1.cell? ⟨w.heap.size, 5, none⟩ = some (.int .i64 3) ∧ W1.cell? ⟨w.heap.size, 6, none⟩ = some (.int .i64 0) ∧ W1.cell? ⟨w.heap.size, 7, none⟩ = some (.bool false)) ∧
    (W1.cell? ⟨w.heap.size, 8, none⟩ = some (.int .i64 2) ∧ W1.cell? ⟨w.heap.size, 9, none⟩ = some (.int .i64 1) ∧ W1.cell? ⟨w.heap.size, 10, none⟩ = some (.int .i64 0) ∧ W1.cell? ⟨w.heap.size, 11, none⟩ = some (.bool false)) := by
    simp only [Nat.zero_add, Nat.zero_mul, Nat.one_mul, Nat.reduceMul, Nat.reduceAdd] at x0 x1 x2 x3 y0 y1 y2 y3 z0 z1 z2 z3
    exact ⟨⟨x0, x1, x2, x3⟩, ⟨y0, y1, y2, y3⟩, z0, z1, z2, z3⟩
  clear x0 x1 x2 x3 y0 y1 y2 y3 z0 z1 z2 z3 hc hE1
  have HX := Lib.hid hX
  obtain ⟨⟨x0, x1, x2, x3⟩, ⟨y0, y1, y2, y3⟩, z0, z1, z2, z3⟩ := hX
  have HW := Lib.hid hW1
  clear hW1
  go_enter Try.func10, Try.ntmps10
  go_wp2_with fail
  rw [← HW.out]
  clear HW
  go_still_tail 9, (by kernel_rfl)
  go_wp2_with fail
  have HM2 : Hid (EvsAt ((W1.alloc (.cells #[.int .i64 2, .int .i64 1, .int .i64 0, .bool false, .int .i64 0, .int .i64 3, .int .i64 0, .bool false, .int .i64 1, .int .i64 3, .int .i64 0, .bool false] 28)).drew) (some ⟨W1.heap.size, 0, none⟩) wm) := evs_three W1 we2 we0 we1
  have hb2 : Below W1.heap.size W1 ((W1.alloc (.cells #[.int .i64 2, .int .i64 1, .int .i64 0, .bool false, .int .i64 0, .int .i64 3, .int .i64 0, .bool false, .int .i64 1, .int .i64 3, .int .i64 0, .bool false] 28)).drew) := (below_alloc1 W1 _).drew
  generalize (W1.alloc (.cells #[.int .i64 2, .int .i64 1, .int .i64 0, .bool false, .int .i64 0, .int .i64 3, .int .i64 0, .bool false, .int .i64 1, .int .i64 3, .int .i64 0, .bool false] 28)).drew = W2 at *
  refine (wk4_clocks W2 _ (HE1.out.later hb2)).mono ?_
  rintro r W3 ⟨b, o, cap, rfl, hck, hb3⟩
  have hb4 := hb2.trans (hb3.mono hb2.size)
  have hb5 := hb1.trans (hb4.mono hb1.size)
  have HQ : Hid (∀ w', Below W3.heap.size W3 w' → ((w'.cell? ⟨w.heap.size, 0, none⟩ = some (.int .i64 0) ∧ w'.cell? ⟨w.heap.size, 1, none⟩ = some (.int .i64 3) ∧ w'.cell? ⟨w.heap.size, 2, none⟩ = some (.int .i64 0) ∧ w'.cell? ⟨w.heap.size, 3, none⟩ = some (.bool false)) ∧ (w'.cell? ⟨w.heap.size, 4, none⟩ = some (.int .i64 1) ∧ w'.cell? ⟨w.heap.size, 5, none⟩ = some (.int .i64 3) ∧ w'.cell? ⟨w.heap.size, 6, none⟩ = some (.int .i64 0) ∧ w'.cell? ⟨w.heap.size, 7, none⟩ = some (.bool false)) ∧ (w'.cell? ⟨w.heap.size, 8, none⟩ = some (.int .i64 2) ∧ w'.cell? ⟨w.heap.size, 9, none⟩ = some (.int .i64 1) ∧ w'.cell? ⟨w.heap.size, 10, none⟩ = some (.int .i64 0) ∧ w'.cell? ⟨w.heap.size, 11, none⟩ = some (.bool false))) ∧ (w'.cell? ⟨b, o + 4, none⟩ = some (.int .i64 1) ∧ w'.cell? ⟨b, o + 5, none⟩ = some (.int .i64 1) ∧ w'.cell? ⟨b, o + 6, none⟩ = some (.int .i64 0) ∧ w'.cell? ⟨b, o + 7, none⟩ = some (.int .i64 0)) ∧ EvsAt w' (some ⟨w.heap.size, 0, none⟩) wl ∧ EvsAt w' (some ⟨W1.heap.size, 0, none⟩) wm ∧ Below W3.heap.size W3 w') := by
    intro w' h
    have h9 := hb4.trans (h.mono hb4.size)
    obtain ⟨⟨x0, x1, x2, x3⟩, ⟨y0, y1, y2, y3⟩, z0, z1, z2, z3⟩ := HX.out
    exact ⟨⟨⟨cell_later h9 x0, cell_later h9 x1, cell_later h9 x2, cell_later h9 x3⟩, ⟨cell_later h9 y0, cell_later h9 y1, cell_later h9 y2, cell_later h9 y3⟩, cell_later h9 z0, cell_later h9 z1, cell_later h9 z2, cell_later h9 z3⟩,
      ⟨cell_later h hck.1, cell_later h hck.2.1, cell_later h hck.2.2.1, cell_later h hck.2.2.2⟩, HE1.out.later h9, (HM2.out.later hb3).later h, h⟩
  have hB9 : Below W3.heap.size W3 W3.drew := (Below.refl _ _).drew
  have heq4 : ∀ w, (Op.equalIn 10000 34 (.agg #[.int .i64 1, .int .i64 1, .int .i64 0, .int .i64 0]) (.agg #[.int .i64 1, .int .i64 1, .int .i64 0, .int .i64 0])).run Try.prog w = .ok true w := fun w => run_equal_four (fun t => if t < 2 then 1 else 0) (fun t => if t < 2 then 1 else 0) w
  have HNU : Hid (∀ w', EvsAt w' (some ⟨w.heap.size, 0, none⟩) wl → _) := fun w' h => wk4_number w' _ h
  have HBE1 : Hid (∀ w', EvsAt w' (some ⟨w.heap.size, 0, none⟩) wl → _) := fun w' h => wk4_before1 w' _ h
  have HBE2 : Hid (∀ w', EvsAt w' (some ⟨w.heap.size, 0, none⟩) wl → _) := fun w' h => wk4_before2 w' _ h
  have HLA : Hid (∀ w', EvsAt w' (some ⟨w.heap.size, 0, none⟩) wl → _) := fun w' h => wk4_last w' _ h
  have HSA : Hid (∀ w', EvsAt w' (some ⟨w.heap.size, 0, none⟩) wl → EvsAt w' (some ⟨W1.heap.size, 0, none⟩) wm → _) := fun w' h h' => wk4_same1 w' _ _ h h'
  clear x0 x1 x2 x3 y0 y1 y2 y3 z0 z1 z2 z3 hck hb3 hb4 HM2 hb2
  clear HE1 HX hb1
  go_wp2_with fail
  go_region_held3 (fun w' => ((w'.cell? ⟨w.heap.size, 0, none⟩ = some (.int .i64 0) ∧ w'.cell? ⟨w.heap.size, 1, none⟩ = some (.int .i64 3) ∧ w'.cell? ⟨w.heap.size, 2, none⟩ = some (.int .i64 0) ∧ w'.cell? ⟨w.heap.size, 3, none⟩ = some (.bool false)) ∧ (w'.cell? ⟨w.heap.size, 4, none⟩ = some (.int .i64 1) ∧ w'.cell? ⟨w.heap.size, 5, none⟩ = some (.int .i64 3) ∧ w'.cell? ⟨w.heap.size, 6, none⟩ = some (.int .i64 0) ∧ w'.cell? ⟨w.heap.size, 7, none⟩ = some (.bool false)) ∧ (w'.cell? ⟨w.heap.size, 8, none⟩ = some (.int .i64 2) ∧ w'.cell? ⟨w.heap.size, 9, none⟩ = some (.int .i64 1) ∧ w'.cell? ⟨w.heap.size, 10, none⟩ = some (.int .i64 0) ∧ w'.cell? ⟨w.heap.size, 11, none⟩ = some (.bool false))) ∧ (w'.cell? ⟨b, o + 4, none⟩ = some (.int .i64 1) ∧ w'.cell? ⟨b, o + 5, none⟩ = some (.int .i64 1) ∧ w'.cell? ⟨b, o + 6, none⟩ = some (.int .i64 0) ∧ w'.cell? ⟨b, o + 7, none⟩ = some (.int .i64 0)) ∧ EvsAt w' (some ⟨w.heap.size, 0, none⟩) wl ∧ EvsAt w' (some ⟨W1.heap.size, 0, none⟩) wm ∧ Below W3.heap.size W3 w') (first | exact HQ.out _ hB9 | exact HQ.out _ hB10 | exact HQ.out _ hB11 | exact HQ.out _ hB12 | exact HQ.out _ hB13 | exact HQ.out _ hB14 | exact HQ.out _ hB16 | exact HQ.out _ hB18 | exact HQ.out _ (hB14.alloc hB14.size _) | exact HQ.out _ (hB16.alloc hB16.size _))
    (first
      | (go_at_call 16; ((with_reducible refine (HNU.out _ (HQ.out _ hB9).2.2.1).mono ?_); rintro r w10 ⟨rfl, hb10⟩; have hB10 := below_step hB9 hb10; clear hB9))
      | (go_at_call 32; ((with_reducible refine (HBE1.out _ (HQ.out _ hB10).2.2.1).mono ?_); rintro r w11 ⟨rfl, hb11⟩; have hB11 := below_step hB10 hb11; clear hB10))
      | (go_at_call 32; ((with_reducible refine (HBE2.out _ (HQ.out _ hB11).2.2.1).mono ?_); rintro r w12 ⟨rfl, hb12⟩; have hB12 := below_step hB11 hb12; clear hB11))
      | (go_at_call 17; ((with_reducible refine (HLA.out _ (HQ.out _ hB12).2.2.1).mono ?_); rintro r w13 ⟨rfl, hb13⟩; have hB13 := below_step hB12 hb13; clear hB12))
      | (go_at_call 13; ((with_reducible refine (HSA.out _ (HQ.out _ hB13).2.2.1 (HQ.out _ hB13).2.2.2.1).mono ?_); rintro r w14 ⟨rfl, hb14⟩; have hB14 := below_step hB13 hb14; clear hB13))
      | (go_at_call 13; ((with_reducible refine (wk4_same2 _ _ _ ((HQ.out _ hB14).2.2.1.later (below_alloc1 w14 _)) (evs_three w14 we1 we0 we2)).mono ?_); rintro r w16 ⟨rfl, hb16⟩; have hB16 := below_step (hB14.alloc hB14.size _) hb16; clear hB14))
      | (go_at_call 15; ((with_reducible refine (wk4_clocks0 _ _ (evs_ev0 w16)).mono ?_); rintro r w18 ⟨a18, cap18, rfl, hb18⟩; have hB18 := below_step (hB16.alloc hB16.size _) hb18; clear hB16)))
  go_wp2
  go_ret
  exact ⟨rfl, hb5.trans (hB18.mono hb5.size)⟩

end Go.Proofs.Ytfefidmbkbigoaa
