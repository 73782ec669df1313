/-
  WalkTells: of any program all classes, and how many executions, prefixes and deadlocks there are, are what the document says: the law answers true, and its arguments read as they did.
  For every input, whatever its size and however its parts share memory; nothing is asked of it but what the statement's own form asks.
-/
import Derived.WalkKit
import Derived.ProofKit
import Derived.OpenShut
import Derived.Test.YtljlaopjimkcmaaGreatRows
import Derived.Test.YtljlaopjimkcmaaGreatPk09

/- The law WalkTells, walked. -/
namespace Go.Proofs.YtljlaopjimkcmaaGreat
open Go.RowKit

set_option maxRecDepth 100000 in
set_option maxHeartbeats 8000000 in
theorem walkTells_any (p : Pg) (a : Option Addr) (cap : Nat) (fuel most : Int) (w : World) (hp : ThreadsAt w a p.threads) :
    Calls Tryz.prog 3 #[.agg #[.int .i64 p.vars, .int .i64 p.mutexes, .slice a p.threads.length cap], .int .i64 fuel, .int .i64 most] w fun r w' => r = .returned (.bool true) ∧ Below w.heap.size w w' := by
  have HP := Lib.hid hp
  have HF : Hid (∀ W, Below w.heap.size w W → Calls Tryz.prog 8 #[.agg #[.int .i64 p.vars, .int .i64 p.mutexes, .slice a p.threads.length cap]] W fun r w' => r = .returned (.bool (fewPg p)) ∧ Below W.heap.size W w') := fun W h => few_any p a cap W (hp.later h)
  have HBX : Hid (∀ W, Below (w.alloc (.cells #[.int .i64 p.vars, .int .i64 p.mutexes, .slice a p.threads.length cap] 24)).heap.size (w.alloc (.cells #[.int .i64 p.vars, .int .i64 p.mutexes, .slice a p.threads.length cap] 24)) W → W.cell? ⟨w.heap.size, 0, none⟩ = some (.int .i64 p.vars) ∧ W.cell? ⟨w.heap.size, 1, none⟩ = some (.int .i64 p.mutexes) ∧ W.cell? ⟨w.heap.size, 2, none⟩ = some (.slice a p.threads.length cap)) := fun W h => ⟨cell_later h (by simp), cell_later h (by simp), cell_later h (by simp)⟩
  have hb1 : Below w.heap.size w (w.alloc (.cells #[.int .i64 p.vars, .int .i64 p.mutexes, .slice a p.threads.length cap] 24)) := below_alloc1 w _
  obtain ⟨I0, e1, hI0⟩ := wrap_u most
  obtain ⟨n, e5, hn⟩ := tmod_nat I0 hI0 600 (by omega)
  have e8 : IntKind.i64.wrap (n : Int) = n := IntWalk.i64_in _ (by omega)
  have e11 : I0 % (600 : Int) = n := by rw [← e5]; exact (Int.tmod_eq_emod_of_nonneg hI0).symm
  have e12 : I0.tmod 600 = n := e5
  clear hp
  go_enter Tryz.func3, Tryz.ntmps3
  go_wp2_with fail
  generalize w.alloc (.cells #[.int .i64 p.vars, .int .i64 p.mutexes, .slice a p.threads.length cap] 24) = W1 at *
  refine (awake6_any W1).mono ?_
  rintro r W2 ⟨rfl, hb2⟩
  clear e1 e5 e8 e11 e12 hI0
  obtain ⟨c0, c1, c2⟩ := HBX.out W2 hb2
  have hb3 := hb1.trans (hb2.mono hb1.size)
  go_wp2_with fail
  refine (HF.out W2 hb3).mono ?_
  rintro r W3 ⟨rfl, hb4⟩
  have hb5 := hb2.trans (hb4.mono hb2.size)
  have hb6 := hb3.trans (hb4.mono hb3.size)
  clear c0 c1 c2 hb2 hb3 hb4 HF
  obtain ⟨c0, c1, c2⟩ := HBX.out W3 hb5
  cases hf : fewPg p
  · clear hf
    go_wp2_with fail
    refine (awake6_any _).mono ?_
    rintro r w3 ⟨rfl, hb3⟩
    go_wp2
    go_ret
    exact ⟨rfl, hb6.trans (hb3.mono hb6.size)⟩
  clear hf
  go_wp2_with fail
  obtain ⟨KS, N, M, S, E, hKS, hW⟩ := wpath p fuel n (by omega)
  have HW := Lib.hid hW
  clear hW
  refine (HW.out a cap W3 (HP.out.later hb6)).1.mono ?_
  rintro r W4 ⟨v4, k4, rfl, ho4, hb7⟩
  clear c0 c1 c2
  have hb8 := hb5.trans (hb7.mono hb5.size)
  have hbA := hb6.trans (hb7.mono hb6.size)
  have hb9 := hb8.alloc hb8.size (.cells #[.slice v4 KS.length k4, .int .i64 (N : Int), .int .i64 (M : Int)] 30)
  have hbB := hbA.alloc hbA.size (.cells #[.slice v4 KS.length k4, .int .i64 (N : Int), .int .i64 (M : Int)] 30)
  have HO4 := Lib.hid (OwnRow.alloc ho4 (.cells #[.slice v4 KS.length k4, .int .i64 (N : Int), .int .i64 (M : Int)] 30))
  have HX4 : Hid (∀ W, Below (W4.alloc (.cells #[.slice v4 KS.length k4, .int .i64 (N : Int), .int .i64 (M : Int)] 30)).heap.size (W4.alloc (.cells #[.slice v4 KS.length k4, .int .i64 (N : Int), .int .i64 (M : Int)] 30)) W → W.cell? ⟨W4.heap.size, 0, none⟩ = some (.slice v4 KS.length k4) ∧ W.cell? ⟨W4.heap.size, 1, none⟩ = some (.int .i64 (N : Int)) ∧ W.cell? ⟨W4.heap.size, 2, none⟩ = some (.int .i64 (M : Int))) := fun W h => ⟨cell_later h (by simp), cell_later h (by simp), cell_later h (by simp)⟩
  obtain ⟨c0, c1, c2⟩ := HBX.out _ hb9
  clear ho4 hb8 hbA hb7 hb5 hb6
  go_wp2_with fail
  clear c0 c1 c2
  generalize W4.alloc (.cells #[.slice v4 KS.length k4, .int .i64 (N : Int), .int .i64 (M : Int)] 30) = W5 at *
  refine (HW.out a cap W5 (HP.out.later hbB)).2.1.mono ?_
  rintro r W6 ⟨v6, k6, rfl, ho6, hb7⟩
  have hb10 := hb9.trans (hb7.mono hb9.size)
  have hbC := hbB.trans (hb7.mono hbB.size)
  have hb11 := hb10.alloc hb10.size (.cells #[.slice v6 KS.length k6, .int .i64 (N : Int), .int .i64 (M : Int), .int .i64 (S : Int)] 35)
  have hbD := hbC.alloc hbC.size (.cells #[.slice v6 KS.length k6, .int .i64 (N : Int), .int .i64 (M : Int), .int .i64 (S : Int)] 35)
  have hb56 := hb7.alloc hb7.size (.cells #[.slice v6 KS.length k6, .int .i64 (N : Int), .int .i64 (M : Int), .int .i64 (S : Int)] 35)
  have HO6 := Lib.hid (OwnRow.alloc ho6 (.cells #[.slice v6 KS.length k6, .int .i64 (N : Int), .int .i64 (M : Int), .int .i64 (S : Int)] 35))
  have HX6 : Hid (∀ W, Below (W6.alloc (.cells #[.slice v6 KS.length k6, .int .i64 (N : Int), .int .i64 (M : Int), .int .i64 (S : Int)] 35)).heap.size (W6.alloc (.cells #[.slice v6 KS.length k6, .int .i64 (N : Int), .int .i64 (M : Int), .int .i64 (S : Int)] 35)) W → W.cell? ⟨W6.heap.size, 0, none⟩ = some (.slice v6 KS.length k6) ∧ W.cell? ⟨W6.heap.size, 1, none⟩ = some (.int .i64 (N : Int)) ∧ W.cell? ⟨W6.heap.size, 2, none⟩ = some (.int .i64 (M : Int)) ∧ W.cell? ⟨W6.heap.size, 3, none⟩ = some (.int .i64 (S : Int))) := fun W h => ⟨cell_later h (by simp), cell_later h (by simp), cell_later h (by simp), cell_later h (by simp)⟩
  obtain ⟨c0, c1, c2⟩ := HBX.out _ hb11
  clear ho6 hb10 hbC hb7 hb9 hbB
  go_wp2_with fail
  clear c0 c1 c2
  generalize W6.alloc (.cells #[.slice v6 KS.length k6, .int .i64 (N : Int), .int .i64 (M : Int), .int .i64 (S : Int)] 35) = W7 at *
  refine (HW.out a cap W7 (HP.out.later hbD)).2.2.mono ?_
  rintro r W8 ⟨rfl, hb8⟩
  have hb58 := hb56.trans (hb8.mono hb56.size)
  have hbE := hbD.trans (hb8.mono hbD.size)
  obtain ⟨x0, x1, x2⟩ := HX4.out W8 hb58
  obtain ⟨y0, y1, y2, y3⟩ := HX6.out W8 hb8
  have HR4 : Hid (RowAt W8 v4 1 strCell KS) := by
    obtain ⟨a', c', hv, hr, _⟩ := OwnRow.form (HO4.out.later hb58) strCell_len (by omega)
    injection hv with h1 _ _
    subst h1
    exact hr
  have HR6 : Hid (RowAt W8 v6 1 strCell KS) := by
    obtain ⟨a', c', hv, hr, _⟩ := OwnRow.form (HO6.out.later hb8) strCell_len (by omega)
    injection hv with h1 _ _
    subst h1
    exact hr
  clear HO4 HO6 hb56 hbD hb11
  go_wp2_with fail
  refine (sameK_any v4 v6 k4 k6 KS KS W8 HR4.out HR6.out (by omega) (by omega)).mono ?_
  rintro r W9 ⟨rfl, hb9⟩
  have hq : decide (KS = KS) = true := by simp
  rw [hq]
  clear x0 x1 x2 y0 y1 y2 y3 hq HR4 HR6
  obtain ⟨x0, x1, x2⟩ := HX4.out W9 (hb58.trans (hb9.mono hb58.size))
  obtain ⟨y0, y1, y2, y3⟩ := HX6.out W9 (hb8.trans (hb9.mono hb8.size))
  have HFIN := Lib.hid (hbE.trans (hb9.mono hbE.size))
  clear hbE hb9 hb8 hb58
  go_wp2_with fail
  go_ret
  exact ⟨ret_bool (by simp), HFIN.out⟩

end Go.Proofs.YtljlaopjimkcmaaGreat

/-
  WalkTells: of any program all classes, and how many executions, prefixes and deadlocks there are, are what the document says: the law answers true, and its arguments read as they did.
  For every input, whatever its size and however its parts share memory; nothing is asked of it but what the statement's own form asks.
-/
namespace Go.Proofs.YtljlaopjimkcmaaGreat.walkTells
open Go.ChangeShapes Go.WideShapes Go.ChangeAt Go.RowKit

theorem own : ownKnob Tryz.prog.godebug = none := by kernel_rfl
theorem laidOut : laidOutB Tryz.prog = true := by kernel_rfl

set_option maxRecDepth 100000 in
theorem lifted (os : Os) (started : os.Started) (H : Type) (enc : TypeId × Value → H) :
    ReturnsInHanded {} Tryz.checked os 3 .any (Rows.walkTellsSpec.pre6 enc Tryz.prog Tryz.f3 Rows.walkTellsRow.domain false) (Rows.walkTellsSpec.post enc Tryz.prog Tryz.f3 false true false false) := by
  refine returnsInHanded_of_change (C := Tryz.checked) own started (by kernel_rfl) Tryz.func3
    (ChangeSpec.witness6 (enc := enc) (C := Tryz.checked) false ⟨#[], #[.agg #[.int .i64 0, .int .i64 0, .slice none 0 0], .int .i64 0, .int .i64 0], []⟩ 8 (by kernel_rfl) (by kernel_rfl) (by kernel_rfl) (by kernel_rfl)) ?_
  intro W base args ds gs before hval0 hW hcnd _
  have hval : ∀ (j : Nat) t v, Tryz.f3.params[j]? = some t → args[j]? = some v → Value.okWide Tryz.prog W .any base t v := hval0
  have hW' := hW
  obtain ⟨p, q, hA0, hV, rfl, hfz, hnd⟩ := hW
  have hA : DataW.TrodAll enc Tryz.prog W 0 (fun _ => true) true Tryz.f3.params.toList args.toList ds p := hA0
  rw [Tryz.params3] at hA hval
  obtain ⟨v0, vs0, d0, ds0, p0, q0, hargs, rfl, rfl, h0, r0⟩ := trodAll_cons hA
  obtain ⟨v1, vs1, d1, ds1, p1, q1, rfl, rfl, rfl, h1, r1⟩ := trodAll_cons r0
  obtain ⟨v2, vs2, d2, ds2, p2, q2, rfl, rfl, rfl, h2, r2⟩ := trodAll_cons r1
  obtain ⟨rfl, rfl, rfl⟩ := trodAll_nil r2
  obtain rfl : args = #[v0, v1, v2] := by cases args; simp_all
  obtain ⟨rfl, rfl⟩ := trodVars_none hV
  have k0 := h0
  have lt0 : ∀ x ∈ p0, x.block < W.heap.size := by obtain ⟨m, hm⟩ := k0; exact DataW.trod_lt m _ _ _ hm
  have k1 := h1
  have lt1 : ∀ x ∈ p1, x.block < W.heap.size := by obtain ⟨m, hm⟩ := k1; exact DataW.trod_lt m _ _ _ hm
  have k2 := h2
  have lt2 : ∀ x ∈ p2, x.block < W.heap.size := by obtain ⟨m, hm⟩ := k2; exact DataW.trod_lt m _ _ _ hm
  obtain ⟨pg0, a0, cap0, rfl, hx0, _⟩ := prog_of_trod (hval 0 24 v0 rfl rfl) h0
  obtain ⟨n1, rfl, hx1⟩ := int_of_trod (hval 1 3 v1 rfl rfl) h1
  obtain ⟨n2, rfl, hx2⟩ := int_of_trod (hval 2 3 v2 rfl rfl) h2
  clear hA0 hval0
  refine (walkTells_any pg0 a0 cap0 n1 n2 W hx0).mono fun e W' ⟨he, bel⟩ => ?_
  subst he
  exact ⟨_, rfl, _, _, _, [], _, [], hW', trodAll_mk1 (shut_bool Tryz.underlying4 _), (trodAll_cons_mk (Below.trod laidOut (by kernel_rfl) (of_decide_eq_true (by kernel_rfl)) k0 bel lt0) (trodAll_cons_mk (Below.trod laidOut (by kernel_rfl) (of_decide_eq_true (by kernel_rfl)) k1 bel lt1) (trodAll_cons_mk (Below.trod laidOut (by kernel_rfl) (of_decide_eq_true (by kernel_rfl)) k2 bel lt2) trodAll_mk0))), rfl, bel.frame _, fun h => by cases h⟩

theorem over : Rows.walkTellsRow.holds Tryz.pinned (OpenSpec.ofChange Rows.walkTellsSpec) :=
  OpenClaim.holds_of_wide 3 Tryz.f3 rfl rfl rfl rfl rfl rfl rfl ⟨rfl, rfl, rfl, rfl, rfl⟩ rfl rfl rfl rfl rfl (by kernel_rfl) Tryz.func3 (by kernel_rfl)
    (of_decide_eq_true (by kernel_rfl)) (by unfold Func.isWrapper; first | (rw [if_pos (by decide +kernel)]; kernel_rfl) | (rw [if_neg (by decide +kernel)]; exact ⟨rfl, rfl⟩))
    (fun os started H enc _ => lifted os started H enc)

theorem proved : Rows.WalkTellsSaid := over
end Go.Proofs.YtljlaopjimkcmaaGreat.walkTells
