/-
  TreeNil: a tree that is none has no nodes: the law answers true, and its arguments read as they did.
  For every input, whatever its size and however its parts share memory; nothing is asked of it but what the statement's own form asks.
-/
import Derived.WalkKit
import Derived.ProofKit
import Derived.OpenShut
import Derived.Test.YtnldkmcijmbhcaaRows
import Derived.Test.YtnldkmcijmbhcaaPk05

/- The law TreeNil, walked. -/
namespace Go.Proofs.Ytnldkmcijmbhcaa
open Go.RowKit

theorem rowAt_one (W : World) (o : TOp) : RowAt (W.alloc (.cells #[.int .i64 o.kind, .int .i64 o.n, .string ⟨o.pre.toArray⟩, .int .u8 (o.set : Nat)] 40)) (some ⟨W.heap.size, 0, none⟩) 4 opCell [o] := by
  refine ⟨by simp [maxLen], fun _ => ⟨W.heap.size, 0, rfl, fun i hi j u hu => ?_⟩⟩
  have hi' : i < 1 := hi
  obtain rfl : i = 0 := by omega
  have h := cells_new W [.int .i64 o.kind, .int .i64 o.n, .string ⟨o.pre.toArray⟩, .int .u8 (o.set : Nat)] 40 W.heap.size rfl j u hu
  rw [add_row] at h
  simp only [Nat.zero_mul, Nat.zero_add, Nat.add_zero] at h ⊢
  try exact h

theorem few_one (o : TOp) (W : World) (g : Nat) (hg : g = W.heap.size) : Calls Try.prog 9 #[.slice (some ⟨g, 0, none⟩) 1 1] (W.alloc (.cells #[.int .i64 o.kind, .int .i64 o.n, .string ⟨o.pre.toArray⟩, .int .u8 (o.set : Nat)] 40)) fun r w' => r = .returned (.bool (fewB [o])) ∧ Below W.heap.size W w' := by
  subst hg
  have h := few10_any (some ⟨W.heap.size, 0, none⟩) 1 [o] (W.alloc (.cells #[.int .i64 o.kind, .int .i64 o.n, .string ⟨o.pre.toArray⟩, .int .u8 (o.set : Nat)] 40)) (rowAt_one W o)
  have e : [o].length = 1 := rfl
  rw [e] at h
  refine h.mono fun r w' h => ⟨h.1, (below_alloc1 W _).trans (h.2.mono ?_)⟩
  rw [World.size_alloc]
  omega

set_option maxRecDepth 100000 in
set_option maxHeartbeats 8000000 in
theorem treeNil_any (o : TOp) (w : World) :
    Calls Try.prog 5 #[.agg #[.int .i64 o.kind, .int .i64 o.n, .string ⟨o.pre.toArray⟩, .int .u8 (o.set : Nat)]] w fun r w' => r = .returned (.bool true) ∧ Below w.heap.size w w' := by
  obtain ⟨k, n, q, z⟩ := o
  dsimp only
  have HBX : Hid (∀ W, Below (w.alloc (.cells #[.int .i64 k, .int .i64 n, .string ⟨q.toArray⟩, .int .u8 (z : Nat)] 40)).heap.size (w.alloc (.cells #[.int .i64 k, .int .i64 n, .string ⟨q.toArray⟩, .int .u8 (z : Nat)] 40)) W → W.cell? ⟨w.heap.size, 1, none⟩ = some (.int .i64 n) ∧ W.cell? ⟨w.heap.size, 2, none⟩ = some (.string ⟨q.toArray⟩) ∧ W.cell? ⟨w.heap.size, 3, none⟩ = some (.int .u8 (z : Nat))) := fun W hb => ⟨cell_later hb (by simp), cell_later hb (by simp), cell_later hb (by simp)⟩
  have HB1 : Hid (Below w.heap.size w (w.alloc (.cells #[.int .i64 k, .int .i64 n, .string ⟨q.toArray⟩, .int .u8 (z : Nat)] 40))) := below_alloc1 w _
  go_enter Try.func5, Try.ntmps5
  go_wp2_with fail
  with_reducible refine (few_one ⟨k, n, q, z⟩ (w.alloc (.cells #[.int .i64 k, .int .i64 n, .string ⟨q.toArray⟩, .int .u8 (z : Nat)] 40)) (w.heap.size + 1) (World.size_alloc _ _).symm).mono ?_
  rintro r W2 ⟨rfl, hb2⟩
  have HB2 := Lib.hid hb2
  have HB3 := Lib.hid (HB1.out.trans (HB2.out.mono HB1.out.size))
  clear hb2
  generalize fewB [⟨k, n, q, z⟩] = fb
  cases fb
  · go_wp2_with fail
    refine (awake10_any _).mono ?_
    rintro r w3 ⟨rfl, hb3⟩
    go_wp2
    go_ret
    exact ⟨rfl, HB3.out.trans (hb3.mono HB3.out.size)⟩
  obtain ⟨c1, c2, c3⟩ := HBX.out W2 HB2.out
  go_wp2_with fail
  refine (claim_nil _ _ _).mono ?_
  rintro r w' ⟨rfl, rfl⟩
  go_wp2_with fail
  refine (at_nil _ _).mono ?_
  rintro r w' ⟨rfl, rfl⟩
  go_wp2_with fail
  refine (awake10_any _).mono ?_
  rintro r W3 ⟨rfl, hb3⟩
  have HB4 := Lib.hid (HB3.out.trans (hb3.mono HB3.out.size))
  have HB5 := Lib.hid (HB2.out.trans (hb3.mono HB2.out.size))
  clear hb3 c1 c2 c3 HB3 HB2
  obtain ⟨c1, c2, c3⟩ := HBX.out W3 HB5.out
  go_wp2_with fail
  refine (make_nil _ _ _ _).mono ?_
  rintro r w' ⟨rfl, rfl⟩
  go_wp2_with fail
  refine (mark_nil _ _ _).mono ?_
  rintro r w' ⟨rfl, rfl⟩
  go_wp2_with fail
  refine (hand_nil _ _ _).mono ?_
  rintro r w' ⟨rfl, rfl⟩
  go_wp2_with fail
  refine (leftT_nil _ _).mono ?_
  rintro r w' ⟨rfl, rfl⟩
  go_wp2_with fail
  refine (owner_nil _ _).mono ?_
  rintro r w' ⟨rfl, rfl⟩
  go_wp2_with fail
  refine (asleep_nil _ _).mono ?_
  rintro r w' ⟨rfl, rfl⟩
  go_wp2_with fail
  refine (lenT_nil _).mono ?_
  rintro r w' ⟨rfl, rfl⟩
  go_wp2_with fail
  refine (claims_nil _).mono ?_
  rintro r w' ⟨rfl, rfl⟩
  go_wp2
  go_ret
  exact ⟨rfl, HB4.out⟩

end Go.Proofs.Ytnldkmcijmbhcaa

/-
  TreeNil: a tree that is none has no nodes: the law answers true, and its arguments read as they did.
  For every input, whatever its size and however its parts share memory; nothing is asked of it but what the statement's own form asks.
-/
namespace Go.Proofs.Ytnldkmcijmbhcaa.treeNil
open Go.ChangeShapes Go.WideShapes Go.ChangeAt Go.RowKit

theorem own : ownKnob Try.prog.godebug = none := by kernel_rfl
theorem laidOut : laidOutB Try.prog = true := by kernel_rfl

set_option maxRecDepth 100000 in
theorem lifted (os : Os) (started : os.Started) (H : Type) (enc : TypeId × Value → H) :
    ReturnsInHanded {} Try.checked os 5 .any (Rows.treeNilSpec.pre6 enc Try.prog Try.f5 Rows.treeNilRow.domain false) (Rows.treeNilSpec.post enc Try.prog Try.f5 false true false false) := by
  refine returnsInHanded_of_change (C := Try.checked) own started (by kernel_rfl) Try.func5
    (ChangeSpec.witness6 (enc := enc) (C := Try.checked) false ⟨#[], #[.agg #[.int .i64 0, .int .i64 0, .string ByteArray.empty, .int .u8 0]], []⟩ 8 (by kernel_rfl) (by kernel_rfl) (by kernel_rfl) (by kernel_rfl)) ?_
  intro W base args ds gs before hval0 hW hcnd _
  have hval : ∀ (j : Nat) t v, Try.f5.params[j]? = some t → args[j]? = some v → Value.okWide Try.prog W .any base t v := hval0
  have hW' := hW
  obtain ⟨p, q, hA0, hV, rfl, hfz, hnd⟩ := hW
  have hA : DataW.TrodAll enc Try.prog W 0 (fun _ => true) true Try.f5.params.toList args.toList ds p := hA0
  rw [Try.params5] at hA hval
  obtain ⟨v0, vs0, d0, ds0, p0, q0, hargs, rfl, rfl, h0, r0⟩ := trodAll_cons hA
  obtain ⟨rfl, rfl, rfl⟩ := trodAll_nil r0
  obtain rfl : args = #[v0] := by cases args; simp_all
  obtain ⟨rfl, rfl⟩ := trodVars_none hV
  have k0 := h0
  have lt0 : ∀ x ∈ p0, x.block < W.heap.size := by obtain ⟨m, hm⟩ := k0; exact DataW.trod_lt m _ _ _ hm
  obtain ⟨o0, rfl, hx0, hl0⟩ := op_of_trod (hval 0 40 v0 rfl rfl) h0
  clear hA0 hval0
  refine (treeNil_any o0 W).mono fun e W' ⟨he, bel⟩ => ?_
  subst he
  exact ⟨_, rfl, _, _, _, [], _, [], hW', trodAll_mk1 (shut_bool Try.underlying4 _), (trodAll_cons_mk (Below.trod laidOut (by kernel_rfl) (of_decide_eq_true (by kernel_rfl)) k0 bel lt0) trodAll_mk0), rfl, bel.frame _, fun h => by cases h⟩

theorem over : Rows.treeNilRow.holds Try.pinned (OpenSpec.ofChange Rows.treeNilSpec) :=
  OpenClaim.holds_of_wide 5 Try.f5 rfl rfl rfl rfl rfl rfl rfl ⟨rfl, rfl, rfl, rfl, rfl⟩ rfl rfl rfl rfl rfl (by kernel_rfl) Try.func5 (by kernel_rfl)
    (of_decide_eq_true (by kernel_rfl)) (by unfold Func.isWrapper; first | (rw [if_pos (by decide +kernel)]; kernel_rfl) | (rw [if_neg (by decide +kernel)]; exact ⟨rfl, rfl⟩))
    (fun os started H enc _ => lifted os started H enc)

theorem proved : Rows.TreeNilSaid := over
end Go.Proofs.Ytnldkmcijmbhcaa.treeNil
