import Derived.Laws.Shifts
import Derived.Deep.DeepCutAuto
import Derived.Laws.OwnMore
import Derived.Maps.AppendAt
import Derived.ChangeMaps5
import Derived.ProofKit
import Derived.Lib.SmallJoins
import Derived.Deep.Slices
import Derived.Deep.Fields
import Derived.OpenShut
import Derived.Test.YtkphdmfcmfojeaaPk01
import Derived.Test.YtkphdmfcmfojeaaPk02
import Derived.Test.YtkphdmfcmfojeaaPk03
import Derived.Test.YtkphdmfcmfojeaaPk04b
import Derived.Test.YtkphdmfcmfojeaaPk04c

/- The contract of the tree's Make. -/
namespace Go.Proofs.Ytkphdmfcmfojeaa
open Go.RowKit Go.Maps

set_option maxRecDepth 100000 in
theorem clone_any (k : Pfx) (w : World) (hk : k.length ≤ 1000) : Calls Try.prog 51 #[.string ⟨k.toArray⟩] w fun r w' => r = .returned (.string ⟨k.toArray⟩) ∧ Below w.heap.size w w' := by
  have HC := Lib.hid (Try.lite_clone ⟨k.toArray⟩ w (by simp [ByteArray.size]; omega))
  go_enter Try.func51, Try.ntmps51
  go_wp2_with fail
  refine HC.out.mono ?_
  rintro r w1 ⟨rfl, hb⟩
  go_wp2
  go_ret
  exact ⟨rfl, hb⟩
theorem step_world {ops : Array Oper} {o : Oper} {a : Act} {K : Act → World → Prop} {Q : Exit → Act → World → Prop} {E : Prop} (w : World) (h : if Region.wanted o (yielded ops a.tmps) = true then Oper.wp Try.prog o a w K Q else E) : if Region.wanted o (yielded ops a.tmps) = true then Oper.wp Try.prog o a w K Q else E := h
theorem step_mapUpdate {w w2 : World} {ops : Array Oper} {o : Oper} {a : Act} {K : Act → World → Prop} {Q : Exit → Act → World → Prop} {E : Prop} (hgd : o.guard = none) (m x v : Operand) (t : TypeId) (ho : o.op = .mapUpdate t m x v)
    (M X V : Value) (hm : a.eval m = M) (hx : a.eval x = X) (hv : a.eval v = V) (hr : (Instr.mapUpdate t M X V).run Try.prog w = .ok () w2) (h : K (a.put o.dst undef) w2) : if Region.wanted o (yielded ops a.tmps) = true then Oper.wp Try.prog o a w K Q else E := by
  have hw : Region.wanted o (yielded ops a.tmps) = true := by simp [Region.wanted, hgd]
  rw [if_pos hw]
  unfold Oper.wp
  simp [execOp, ho, hm, hx, hv, hr, Result.andThen]
  exact h

section
variable {h : TrH} {w : World} {gs : List Nat} {l : List TNd} {cl : Int}
/-- A node more is put into the map. -/
theorem TrAt.made (t : TrAt h w gs l cl) {W : World} (hB : Below w.heap.size w W) {n : TNd} {g : Nat} (hg : w.heap.size ≤ g) (hgW : W.heap[g]? = some (.cells (ndA n) 114 (0, 0))) (hk : n.pre.length ≤ 1000) (hi : idxT l n.pre = none) (hl : l.length ≤ 1000000) (ok : TrOk h.p h.fuel (l ++ [n])) :
    ∃ W', (Instr.mapUpdate 100 (.map (some h.mb)) (.string ⟨n.pre.toArray⟩) (.pointer (some ⟨g, 0, none⟩))).run Try.prog W = .ok () W' ∧ TrAt h W' (gs ++ [g]) (l ++ [n]) cl ∧ OnlyS (fun x => x = h.mb) w W' ∧ W'.cell? ⟨h.b, 4, none⟩ = some (.map (some h.mb)) := by
  obtain ⟨D, hD, h2, h3⟩ := (t.later hB).map
  have hkey := trKey hk
  obtain ⟨W', hr, hD', hgr⟩ := hD.update trLaw Try.underlying100 (by unfold maxLen; omega) hkey (ptrElem_mk (some g))
  have ho : OnlyS (fun x => x = h.mb) W W' := ⟨hgr.os, hgr.tape, hgr.output, hgr.size, fun k hk hb => hgr.block k hk (fun e => hb (by simpa using e))⟩
  have ho2 : OnlyS (fun x => x = h.mb) w W' := OnlyS.after hB ho
  have htd := hD.tidy trLaw
  have hlit : WideAt.IsKeyLit (.string n.pre) := by simp [WideAt.IsKeyLit]
  have hhas : Maps.has D (.string n.pre) = false := by rw [(h2 n.pre).2, blkT_none hi]; rfl
  have hgm : g ≠ h.mb := by
    intro e
    obtain ⟨es, c, h4, _⟩ := hD
    rw [← e, hgW] at h4
    cases h4
  have T := t.more hg ho2 ((ho.block g (Array.getElem?_eq_some_iff.1 hgW).1 hgm).trans hgW) hD' (fun k => by
    by_cases e : k = n.pre
    · subst e
      rw [if_pos rfl, atKey_put_same htd.isMap hlit, has_put_same htd.isMap hlit]
      exact ⟨rfl, rfl⟩
    · have hne : (Lit.string k) ≠ .string n.pre := by intro e2; injection e2 with e2; exact e e2
      rw [if_neg e, atKey_put_other hne, has_put_other hne]
      exact h2 k) (by rw [size_put htd, hhas, if_neg (by simp), h3]) hi ok
  exact ⟨W', hr, T, ho2, T.cells.2.2.2.2.1⟩

/-- What Make leaves. -/
def MakeE (h : TrH) (gs : List Nat) (l : List TNd) (cl : Int) (w w' : World) (n : TNd) : Prop := ∃ gs', TrAt h w' gs' (l ++ [n]) cl ∧ OnlyS (TrS h gs) w w' ∧ ∀ x ∈ gs', x ∈ gs ∨ w.heap.size ≤ x
def MakeR (h : TrH) (gs : List Nat) (l : List TNd) (cl : Int) (k : Pfx) (asl : Nat) (own : Int) (w : World) (r : Ending) (w' : World) : Prop :=
  ∃ gs', r = .returned (.int .i64 (makeT h.p h.fuel l k asl own).1) ∧ TrAt h w' gs' (makeT h.p h.fuel l k asl own).2 cl ∧ OnlyS (TrS h gs) w w' ∧ ∀ x ∈ gs', x ∈ gs ∨ w.heap.size ≤ x
theorem makeR_no {k : Pfx} {asl : Nat} {own e : Int} {w' : World} (he : makeT h.p h.fuel l k asl own = (e, l)) (t : TrAt h w gs l cl) (hb : Below w.heap.size w w') : MakeR h gs l cl k asl own w (.returned (.int .i64 e)) w' := by
  refine ⟨gs, by rw [he], ?_, OnlyS.of_below hb, fun x hx => .inl hx⟩
  rw [he]
  exact t.later hb
theorem makeR_yes {k : Pfx} {asl : Nat} {own : Int} {s : St} {w' : World} (he : makeT h.p h.fuel l k asl own = (0, l ++ [⟨k, own, ofN s.all, asl, 0, 0⟩])) (hm : MakeE h gs l cl w w' ⟨k, own, ofN s.all, asl, 0, 0⟩) : MakeR h gs l cl k asl own w (.returned (.int .i64 0)) w' := by
  obtain ⟨gs', h1, h2, h3⟩ := hm
  refine ⟨gs', by rw [he], ?_, h2, h3⟩
  rw [he]
  exact h1

set_option maxRecDepth 100000 in
set_option maxHeartbeats 4000000 in
theorem make_any (t : TrAt h w gs l cl) {k : Pfx} (hk : k.length ≤ 900) {asl : Nat} (ha : asl < 256) (own : Int) (hl : l.length ≤ 1000000) : Calls Try.prog 16 #[.pointer (some ⟨h.b, 0, none⟩), .string ⟨k.toArray⟩, .int .u8 (asl : Nat), .int .i64 own] w (MakeR h gs l cl k asl own w) := by
  have HT := Lib.hid t
  rcases hr : rep h.p h.fuel (rowK k) with ⟨e0, es, _ | s⟩
  · have HE : Hid (makeT h.p h.fuel l k asl own = (e0, l)) := by show _ = _; unfold makeT; rw [hr]
    have he0 := rep_none hr
    have HAT := Lib.hid (at_err t (by omega) hr)
    have hne : (e0 != 0) = true := by simpa using he0
    clear t hr he0
    go_enter Try.func16, Try.ntmps16
    go_wp2_with fail
    refine HAT.out.mono ?_
    rintro r w3 ⟨rfl, hb3⟩
    go_wp2
    go_ret
    exact makeR_no HE.out HT.out hb3
  obtain ⟨rfl, _⟩ := rep_some hr
  have HAT := Lib.hid (at_ok t (by omega) hr)
  cases hi : idxT l k with
  | some i =>
    have HE : Hid (makeT h.p h.fuel l k asl own = (7, l)) := by show _ = _; unfold makeT; rw [hr, hi]; rfl
    obtain ⟨hil, _⟩ := idxT_some hi
    have HLK : Hid (∀ W, Below w.heap.size w W → (Instr.lookup 100 (.map (some h.mb)) (.string ⟨k.toArray⟩) false).run Try.prog W = .ok (.pointer (some ⟨gs[i]'(by have := t.len; omega), 0, none⟩)) W) := fun W hb => by
      have := (t.later hb).look (k := k) (by omega)
      rw [blkT_some hi (by have := t.len; omega)] at this
      exact this
    clear hr hi
    have hTT := HT
    clear hTT
    generalize gs[i]'_ = g at *
    clear t
    go_enter Try.func16, Try.ntmps16
    go_wp2_with fail
    refine HAT.out.mono ?_
    rintro r w3 ⟨sg, ev, rfl, _, _, _, _, hb3⟩
    have hlk := HLK.out w3 hb3
    obtain ⟨_, _, _, _, c4, _⟩ := (HT.out.later hb3).cells
    go_wp2
    go_ret
    exact makeR_no HE.out HT.out hb3
  | none =>
    have HLK : Hid (∀ W, Below w.heap.size w W → (Instr.lookup 100 (.map (some h.mb)) (.string ⟨k.toArray⟩) false).run Try.prog W = .ok (.pointer none) W) := fun W hb => by
      have := (t.later hb).look (k := k) (by omega)
      rw [blkT_none hi] at this
      exact this
    have HI := Lib.hid hi
    have HTO := Lib.hid (t.ok.snoc hi hr ha own)
    have HE0 : Hid ((k = [] ∨ wasT l k = true) → makeT h.p h.fuel l k asl own = (0, l ++ [⟨k, own, ofN s.all, asl, 0, 0⟩])) := fun hc => by
      unfold makeT
      rw [hr, hi]
      dsimp only
      rw [if_neg (by simp), if_neg]
      rintro ⟨h1, h2⟩
      rcases hc with hc | hc
      · exact h1 hc
      · rw [h2] at hc; cases hc
    have HCL : Hid (∀ W, Calls Try.prog 51 #[.string ⟨k.toArray⟩] W fun r w' => r = .returned (.string ⟨k.toArray⟩) ∧ Below W.heap.size W w') := fun W => clone_any k W (by omega)
    by_cases hk0 : k = []
    · have HE := Lib.hid (HE0.out (.inl hk0))
      clear t hr hi HE0
      subst hk0
      have HCL : Hid (∀ W, Calls Try.prog 51 #[.string { data := #[] }] W fun r w' => r = .returned (.string { data := #[] }) ∧ Below W.heap.size W w') := HCL
      have HAT : Hid (Calls Try.prog 27 #[.pointer (some ⟨h.b, 0, none⟩), .string { data := #[] }] w fun r w' => ∃ g v, r = .returned (.tuple #[.pointer (some ⟨g, 0, none⟩), v, .int .i64 0]) ∧ w.heap.size ≤ g ∧ StAt w' g s ∧ s.Ok h.fuel.toNat ∧ OwnE w' w.heap.size v es ∧ Below w.heap.size w w') := HAT
      have HLK : Hid (∀ W, Below w.heap.size w W → (Instr.lookup 100 (.map (some h.mb)) (.string { data := #[] }) false).run Try.prog W = .ok (.pointer none) W) := HLK
      show Calls Try.prog 16 #[.pointer (some ⟨h.b, 0, none⟩), .string { data := #[] }, .int .u8 (asl : Nat), .int .i64 own] w (MakeR h gs l cl [] asl own w)
      go_enter Try.func16, Try.ntmps16
      go_wp2_with fail
      refine HAT.out.mono ?_
      rintro r w4 ⟨sg, ev, rfl, _, hst4, hok4, _, hb4⟩
      have hal := all_len8 hok4
      have HST := Lib.hid hst4
      have HOKS := Lib.hid hok4
      have HB := Lib.hid hb4
      have HT4 := Lib.hid (HT.out.later hb4)
      have hx4 := HLK.out w4 hb4
      obtain ⟨_, _, _, _, c4, _⟩ := HT4.out.cells
      clear hst4 hok4 hb4
      go_wp2_with fail
      have hB0 : Below w4.heap.size w4 w4.drew := (Below.refl _ _).drew
      have HSS : Hid (∀ W', Below w4.heap.size w4 W' → W'.cell? ⟨h.b, 4, none⟩ = some (.map (some h.mb))) := fun W' hb => (HT4.out.later hb).cells.2.2.2.2.1
      have HMK : Hid (∀ W', Below w4.heap.size w4 W' → ∀ g : Nat, w4.heap.size ≤ g → W'.heap[g]? = some (.cells (ndA ⟨[], own, ofN s.all, asl, 0, 0⟩) 114 (0, 0)) → ∃ w9, (Instr.mapUpdate 100 (.map (some h.mb)) (.string ⟨List.toArray []⟩) (.pointer (some ⟨g, 0, none⟩))).run Try.prog W' = .ok () w9 ∧ TrAt h w9 (gs ++ [g]) (l ++ [⟨[], own, ofN s.all, asl, 0, 0⟩]) cl ∧ OnlyS (fun x => x = h.mb) w4 w9 ∧ w9.cell? ⟨h.b, 4, none⟩ = some (.map (some h.mb))) := fun W' hb g hg hgw => HT4.out.made hb (n := ⟨[], own, ofN s.all, asl, 0, 0⟩) hg hgw (by show List.length [] ≤ 1000; simp) HI.out hl HTO.out
      clear hx4
      go_wp2_with fail
      go_region_held3 (fun W' => W'.cell? ⟨h.b, 4, none⟩ = some (.map (some h.mb)))
        (first | with_reducible exact hc9c | with_reducible exact hc9 | ((refine HSS.out _ ?_; repeat (first | with_reducible exact hB7 | with_reducible exact hB6 | with_reducible exact hB5 | with_reducible exact hB0 | with_reducible refine Below.drew ?_ | with_reducible refine Below.alloc ?_ (by first | exact hB7.size | exact hB6.size) _))))
        (first
          | (go_at_call 51; ((with_reducible refine (HCL.out w4.drew).mono ?_); rintro r w5 ⟨rfl, hb⟩; have hB5 : Below w4.heap.size w4 w5 := Below.trans hB0 hb; clear hb))
          | (go_at_call 34; ((with_reducible refine (all_any (b := sg) (w := w4.drew) (HST.out.later hB0) HOKS.out).mono ?_); rintro r w6 ⟨v6, rfl, hown6, hb⟩; obtain ⟨a6, c6, rfl, hnum6, _⟩ := OwnN.form hown6 (by omega); have HN6 := Lib.hid hnum6; have hB6 : Below w4.heap.size w4 w6 := Below.trans hB0 hb; have hz6 := hB6.size; clear hb hown6 hnum6))
          | (go_at_call 34; ((with_reducible refine (all_any (b := sg) (w := w5) (HST.out.later hB5) HOKS.out).mono ?_); rintro r w6 ⟨v6, rfl, hown6, hb⟩; obtain ⟨a6, c6, rfl, hnum6, _⟩ := OwnN.form hown6 (by omega); have HN6 := Lib.hid hnum6; have hB6 : Below w4.heap.size w4 w6 := hB5.trans (hb.mono hB5.size); have hz6 := hB6.size; clear hb hown6 hnum6))
          | (go_at_call 51; ((with_reducible refine (HCL.out w6).mono ?_); rintro r w7 ⟨rfl, hb⟩; have hB7 : Below w4.heap.size w4 w7 := hB6.trans (hb.mono hB6.size); have hz7 := hB7.size; have HN7 := Lib.hid (HN6.out.later hb); clear hb))
          | (go_at_call 46; ((with_reducible refine (of_any a6 c6 s.all w6 HN6.out (by omega)).mono ?_); rintro r w' ⟨rfl, rfl⟩; obtain ⟨w9, hr9, ht9, ho9, hc9⟩ := HMK.out (w6.alloc (.cells #[.int .i64 own, .int .u8 (ofN s.all : Nat), .int .u8 (asl : Nat), .int .u8 0, .int .u8 0] 114)) (hB6.alloc hB6.size (.cells #[.int .i64 own, .int .u8 (ofN s.all : Nat), .int .u8 (asl : Nat), .int .u8 0, .int .u8 0] 114)) w6.heap.size hz6 (heap_alloc_new w6 _); have HM9 : Hid (MakeE h gs l cl w w9 ⟨[], own, ofN s.all, asl, 0, 0⟩) := ⟨gs ++ [w6.heap.size], ht9, OnlyS.after HB.out ((ho9).mono fun x _ hx => .inr (.inl hx)), (fun x hx => by (rw [List.mem_append, List.mem_singleton] at hx; rcases hx with hx | rfl; exact .inl hx; exact .inr (Nat.le_trans HB.out.size hz6)))⟩; clear ht9 ho9))
          | (go_at_call 46; ((with_reducible refine (of_any a6 c6 s.all w7 HN7.out (by omega)).mono ?_); rintro r w' ⟨rfl, rfl⟩; obtain ⟨w9, hr9, ht9, ho9, hc9⟩ := HMK.out (w7.alloc (.cells #[.int .i64 own, .int .u8 (ofN s.all : Nat), .int .u8 (asl : Nat), .int .u8 0, .int .u8 0] 114)) (hB7.alloc hB7.size (.cells #[.int .i64 own, .int .u8 (ofN s.all : Nat), .int .u8 (asl : Nat), .int .u8 0, .int .u8 0] 114)) w7.heap.size hz7 (heap_alloc_new w7 _); have HM9 : Hid (MakeE h gs l cl w w9 ⟨[], own, ofN s.all, asl, 0, 0⟩) := ⟨gs ++ [w7.heap.size], ht9, OnlyS.after HB.out ((ho9).mono fun x _ hx => .inr (.inl hx)), (fun x hx => by (rw [List.mem_append, List.mem_singleton] at hx; rcases hx with hx | rfl; exact .inl hx; exact .inr (Nat.le_trans HB.out.size hz7)))⟩; clear ht9 ho9))
          | (go_at_call 51; ((with_reducible refine (HCL.out (w6.alloc (.cells #[.int .i64 own, .int .u8 (ofN s.all : Nat), .int .u8 (asl : Nat), .int .u8 0, .int .u8 0] 114))).mono ?_); rintro r w7 ⟨rfl, hb⟩; have hB7 : Below w4.heap.size w4 w7 := (hB6.alloc hB6.size (.cells #[.int .i64 own, .int .u8 (ofN s.all : Nat), .int .u8 (asl : Nat), .int .u8 0, .int .u8 0] 114)).trans (hb.mono (hB6.alloc hB6.size (.cells #[.int .i64 own, .int .u8 (ofN s.all : Nat), .int .u8 (asl : Nat), .int .u8 0, .int .u8 0] 114)).size); have hz7 := hB7.size; have HG7 : Hid (w7.heap[w6.heap.size]? = some (.cells #[.int .i64 own, .int .u8 (ofN s.all : Nat), .int .u8 (asl : Nat), .int .u8 0, .int .u8 0] 114 (0, 0))) := (hb.block w6.heap.size (by rw [World.size_alloc]; omega)).trans (heap_alloc_new w6 _); clear hb; obtain ⟨w9c, hr9c, ht9, ho9, hc9c⟩ := HMK.out w7 hB7 w6.heap.size hz6 HG7.out; have HM9c : Hid (MakeE h gs l cl w w9c ⟨[], own, ofN s.all, asl, 0, 0⟩) := ⟨gs ++ [w6.heap.size], ht9, OnlyS.after HB.out ((ho9).mono fun x _ hx => .inr (.inl hx)), (fun x hx => by (rw [List.mem_append, List.mem_singleton] at hx; rcases hx with hx | rfl; exact .inl hx; exact .inr (Nat.le_trans HB.out.size hz6)))⟩; clear ht9 ho9)))
      all_goals go_wp2
      all_goals go_ret
      all_goals first | exact makeR_yes HE.out HM9c.out | exact makeR_yes HE.out HM9.out
    · obtain ⟨k', c, hkc⟩ : ∃ (k' : Pfx) (c : UInt8), k = k' ++ [c] := by
        rcases List.eq_nil_or_concat k with h0 | ⟨k', c, h0⟩
        · exact absurd h0 hk0
        · exact ⟨k', c, by simpa using h0⟩
      have hke : List.isEmpty k = false := by rw [hkc]; simp
      have HWS : Hid (∀ W, Below w.heap.size w W → Calls Try.prog 50 #[.pointer (some ⟨h.b, 0, none⟩), .string ⟨k.toArray⟩] W fun r w' => r = .returned (.bool (wasT l k)) ∧ Below W.heap.size W w') := fun W hb => by
        subst hkc
        exact was_any (HT.out.later hb) k' c (by simp at hk; omega)
      cases hwt : wasT l k
      · have HE : Hid (makeT h.p h.fuel l k asl own = (6, l)) := by
          show _ = _
          unfold makeT
          rw [hr, hi]
          dsimp only
          rw [if_neg (by simp), if_pos ⟨hk0, hwt⟩]
        rw [hwt] at HWS
        clear t hr hi HE0 hkc hwt
        go_enter Try.func16, Try.ntmps16
        go_wp2_with fail
        refine HAT.out.mono ?_
        rintro r w4 ⟨sg, ev, rfl, _, _, _, _, hb4⟩
        have HB := Lib.hid hb4
        have hx4 := HLK.out w4 hb4
        obtain ⟨_, _, _, _, c4, _⟩ := (HT.out.later hb4).cells
        clear hb4
        go_wp2_with fail
        refine (HWS.out w4 HB.out).mono ?_
        rintro r w5 ⟨rfl, hb5⟩
        go_wp2
        go_ret
        exact makeR_no HE.out HT.out (HB.out.trans (hb5.mono HB.out.size))
      · have HE := Lib.hid (HE0.out (.inr hwt))
        rw [hwt] at HWS
        clear t hr hi HE0 hkc hwt
        go_enter Try.func16, Try.ntmps16
        go_wp2_with fail
        refine HAT.out.mono ?_
        rintro r w3 ⟨sg, ev, rfl, _, hst3, hok4, _, hb3⟩
        have hx3 := HLK.out w3 hb3
        obtain ⟨_, _, _, _, c3, _⟩ := (HT.out.later hb3).cells
        have HB3 := Lib.hid hb3
        have HST3 := Lib.hid hst3
        have HOKS := Lib.hid hok4
        have hal := all_len8 hok4
        clear hst3 hok4 hb3
        go_wp2_with fail
        refine (HWS.out w3 HB3.out).mono ?_
        rintro r w4 ⟨rfl, hb5⟩
        have HB := Lib.hid (HB3.out.trans (hb5.mono HB3.out.size))
        have HST := Lib.hid (HST3.out.later hb5)
        have HT4 := Lib.hid (HT.out.later HB.out)
        have hx4 := HLK.out w4 HB.out
        clear hb5 hx3 c3 HST3 HWS
        obtain ⟨_, _, _, _, c4, _⟩ := HT4.out.cells
        go_wp2_with fail
        have hB0 : Below w4.heap.size w4 w4.drew := (Below.refl _ _).drew
        have HSS : Hid (∀ W', Below w4.heap.size w4 W' → W'.cell? ⟨h.b, 4, none⟩ = some (.map (some h.mb))) := fun W' hb => (HT4.out.later hb).cells.2.2.2.2.1
        have HMK : Hid (∀ W', Below w4.heap.size w4 W' → ∀ g : Nat, w4.heap.size ≤ g → W'.heap[g]? = some (.cells (ndA ⟨k, own, ofN s.all, asl, 0, 0⟩) 114 (0, 0)) → ∃ w9, (Instr.mapUpdate 100 (.map (some h.mb)) (.string ⟨List.toArray k⟩) (.pointer (some ⟨g, 0, none⟩))).run Try.prog W' = .ok () w9 ∧ TrAt h w9 (gs ++ [g]) (l ++ [⟨k, own, ofN s.all, asl, 0, 0⟩]) cl ∧ OnlyS (fun x => x = h.mb) w4 w9 ∧ w9.cell? ⟨h.b, 4, none⟩ = some (.map (some h.mb))) := fun W' hb g hg hgw => HT4.out.made hb (n := ⟨k, own, ofN s.all, asl, 0, 0⟩) hg hgw (by show List.length k ≤ 1000; omega) HI.out hl HTO.out
        clear hx4
        go_wp2_with fail
        go_region_held3 (fun W' => W'.cell? ⟨h.b, 4, none⟩ = some (.map (some h.mb)))
          (first | with_reducible exact hc9c | with_reducible exact hc9 | ((refine HSS.out _ ?_; repeat (first | with_reducible exact hB7 | with_reducible exact hB6 | with_reducible exact hB5 | with_reducible exact hB0 | with_reducible refine Below.drew ?_ | with_reducible refine Below.alloc ?_ (by first | exact hB7.size | exact hB6.size) _))))
          (first
            | (go_at_call 51; ((with_reducible refine (HCL.out w4.drew).mono ?_); rintro r w5 ⟨rfl, hb⟩; have hB5 : Below w4.heap.size w4 w5 := Below.trans hB0 hb; clear hb))
            | (go_at_call 34; ((with_reducible refine (all_any (b := sg) (w := w4.drew) (HST.out.later hB0) HOKS.out).mono ?_); rintro r w6 ⟨v6, rfl, hown6, hb⟩; obtain ⟨a6, c6, rfl, hnum6, _⟩ := OwnN.form hown6 (by omega); have HN6 := Lib.hid hnum6; have hB6 : Below w4.heap.size w4 w6 := Below.trans hB0 hb; have hz6 := hB6.size; clear hb hown6 hnum6))
            | (go_at_call 34; ((with_reducible refine (all_any (b := sg) (w := w5) (HST.out.later hB5) HOKS.out).mono ?_); rintro r w6 ⟨v6, rfl, hown6, hb⟩; obtain ⟨a6, c6, rfl, hnum6, _⟩ := OwnN.form hown6 (by omega); have HN6 := Lib.hid hnum6; have hB6 : Below w4.heap.size w4 w6 := hB5.trans (hb.mono hB5.size); have hz6 := hB6.size; clear hb hown6 hnum6))
            | (go_at_call 51; ((with_reducible refine (HCL.out w6).mono ?_); rintro r w7 ⟨rfl, hb⟩; have hB7 : Below w4.heap.size w4 w7 := hB6.trans (hb.mono hB6.size); have hz7 := hB7.size; have HN7 := Lib.hid (HN6.out.later hb); clear hb))
            | (go_at_call 46; ((with_reducible refine (of_any a6 c6 s.all w6 HN6.out (by omega)).mono ?_); rintro r w' ⟨rfl, rfl⟩; obtain ⟨w9, hr9, ht9, ho9, hc9⟩ := HMK.out (w6.alloc (.cells #[.int .i64 own, .int .u8 (ofN s.all : Nat), .int .u8 (asl : Nat), .int .u8 0, .int .u8 0] 114)) (hB6.alloc hB6.size (.cells #[.int .i64 own, .int .u8 (ofN s.all : Nat), .int .u8 (asl : Nat), .int .u8 0, .int .u8 0] 114)) w6.heap.size hz6 (heap_alloc_new w6 _); have HM9 : Hid (MakeE h gs l cl w w9 ⟨k, own, ofN s.all, asl, 0, 0⟩) := ⟨gs ++ [w6.heap.size], ht9, OnlyS.after HB.out ((ho9).mono fun x _ hx => .inr (.inl hx)), (fun x hx => by (rw [List.mem_append, List.mem_singleton] at hx; rcases hx with hx | rfl; exact .inl hx; exact .inr (Nat.le_trans HB.out.size hz6)))⟩; clear ht9 ho9))
            | (go_at_call 46; ((with_reducible refine (of_any a6 c6 s.all w7 HN7.out (by omega)).mono ?_); rintro r w' ⟨rfl, rfl⟩; obtain ⟨w9, hr9, ht9, ho9, hc9⟩ := HMK.out (w7.alloc (.cells #[.int .i64 own, .int .u8 (ofN s.all : Nat), .int .u8 (asl : Nat), .int .u8 0, .int .u8 0] 114)) (hB7.alloc hB7.size (.cells #[.int .i64 own, .int .u8 (ofN s.all : Nat), .int .u8 (asl : Nat), .int .u8 0, .int .u8 0] 114)) w7.heap.size hz7 (heap_alloc_new w7 _); have HM9 : Hid (MakeE h gs l cl w w9 ⟨k, own, ofN s.all, asl, 0, 0⟩) := ⟨gs ++ [w7.heap.size], ht9, OnlyS.after HB.out ((ho9).mono fun x _ hx => .inr (.inl hx)), (fun x hx => by (rw [List.mem_append, List.mem_singleton] at hx; rcases hx with hx | rfl; exact .inl hx; exact .inr (Nat.le_trans HB.out.size hz7)))⟩; clear ht9 ho9))
            | (go_at_call 51; ((with_reducible refine (HCL.out (w6.alloc (.cells #[.int .i64 own, .int .u8 (ofN s.all : Nat), .int .u8 (asl : Nat), .int .u8 0, .int .u8 0] 114))).mono ?_); rintro r w7 ⟨rfl, hb⟩; have hB7 : Below w4.heap.size w4 w7 := (hB6.alloc hB6.size (.cells #[.int .i64 own, .int .u8 (ofN s.all : Nat), .int .u8 (asl : Nat), .int .u8 0, .int .u8 0] 114)).trans (hb.mono (hB6.alloc hB6.size (.cells #[.int .i64 own, .int .u8 (ofN s.all : Nat), .int .u8 (asl : Nat), .int .u8 0, .int .u8 0] 114)).size); have hz7 := hB7.size; have HG7 : Hid (w7.heap[w6.heap.size]? = some (.cells #[.int .i64 own, .int .u8 (ofN s.all : Nat), .int .u8 (asl : Nat), .int .u8 0, .int .u8 0] 114 (0, 0))) := (hb.block w6.heap.size (by rw [World.size_alloc]; omega)).trans (heap_alloc_new w6 _); clear hb; obtain ⟨w9c, hr9c, ht9, ho9, hc9c⟩ := HMK.out w7 hB7 w6.heap.size hz6 HG7.out; have HM9c : Hid (MakeE h gs l cl w w9c ⟨k, own, ofN s.all, asl, 0, 0⟩) := ⟨gs ++ [w6.heap.size], ht9, OnlyS.after HB.out ((ho9).mono fun x _ hx => .inr (.inl hx)), (fun x hx => by (rw [List.mem_append, List.mem_singleton] at hx; rcases hx with hx | rfl; exact .inl hx; exact .inr (Nat.le_trans HB.out.size hz6)))⟩; clear ht9 ho9)))
        all_goals go_wp2
        all_goals go_ret
        all_goals first | exact makeR_yes HE.out HM9c.out | exact makeR_yes HE.out HM9.out
end

end Go.Proofs.Ytkphdmfcmfojeaa

/- Conversions to uint, and remainders. -/
namespace Go.Proofs.Ytkphdmfcmfojeaa
open Go.RowKit

theorem wrap_u (n : Int) : ∃ m : Int, IntKind.u64.wrap n = m ∧ 0 ≤ m := by
  refine ⟨_, rfl, ?_⟩
  unfold IntKind.wrap
  simp [IntKind.signed, IntKind.bits]
  omega
theorem wrap_u_small (n : Int) (h0 : 0 ≤ n) (h1 : n ≤ 1000000) : IntKind.u64.wrap n = n := by
  unfold IntKind.wrap
  simp [IntKind.signed, IntKind.bits]
  omega
theorem tmod_nat (m : Int) (h0 : 0 ≤ m) (n : Nat) (h1 : 1 ≤ n) : ∃ k : Nat, m.tmod (n : Int) = k ∧ k < n := by
  rw [Int.tmod_eq_emod_of_nonneg h0]
  have a := Int.emod_nonneg m (b := (n : Int)) (by omega)
  have b := Int.emod_lt_of_pos m (b := (n : Int)) (by omega)
  exact ⟨(m % (n : Int)).toNat, by omega, by omega⟩

end Go.Proofs.Ytkphdmfcmfojeaa

/- The contracts of the document's In and Bits, and of two rows of numbers held against one another. -/
namespace Go.Proofs.Ytkphdmfcmfojeaa
open Go.RowKit

/-- A row of numbers has its cells. -/
theorem num_at {w : World} {a : Option Addr} {l : List Int} (h : NumsAt w a l) {k : Nat} (hk : k < l.length) : ∃ b o, a = some ⟨b, o, none⟩ ∧ w.cell? ⟨b, o + k, none⟩ = some (.int .i64 l[k]) := by
  obtain ⟨b, o, rfl, hc⟩ := h.2 (by intro e; rw [e] at hk; simp at hk)
  exact ⟨b, o, rfl, hc k hk⟩

set_option maxRecDepth 100000 in
set_option maxHeartbeats 1000000 in
theorem refIn_any (a : Option Addr) (cap : Nat) (l : List Int) (x : Int) (w : World) (hl : NumsAt w a l) (hm : l.length ≤ 1000) :
    Calls Try.prog 52 #[.slice a l.length cap, .int .i64 x] w fun r w' => r = .returned (.bool (decide (x ∈ l))) ∧ w = w' := by
  have HL := Lib.hid hl
  clear hl
  go_enter Try.func52, Try.ntmps52
  go_wp2
  go_loopw [5] (fun i wr => ∃ k : Nat, k ≤ l.length ∧ i = .int .i64 k ∧ x ∉ l.take k ∧ wr = w) (fun i _ => l.length - (intOf i).toNat)
  case atStart => exact ⟨0, Nat.zero_le _, rfl, by simp, rfl⟩
  case round =>
    obtain ⟨k, hk, rfl, hno, rfl⟩ := hrel
    by_cases hlt : k < l.length
    · obtain ⟨b, o, rfl, hck⟩ := num_at HL.out hlt
      by_cases he : l[k] = x
      · have hq : (l[k] == x) = true := by simp [he]
        have HX : Hid (decide (x ∈ l) = true) := by
          show _ = _
          rw [decide_eq_true_eq, ← he]
          exact List.getElem_mem hlt
        clear he hno
        go_wp2
        go_ret
        exact ⟨by rw [HX.out]; rfl, rfl⟩
      · have hq : (l[k] == x) = false := by simp [he]
        have HX : Hid (x ∉ l.take (k + 1)) := by
          show ¬ _
          rw [List.take_succ_eq_append_getElem hlt, List.mem_append, List.mem_singleton]
          rintro (h | h)
          · exact hno h
          · exact he h.symm
        clear he hno
        go_wp2
        go_roundw
        case rel => exact ⟨k + 1, by omega, by go_num, HX.out, by trivial⟩
        case measure => simp [intOf]; omega
    · obtain rfl : k = l.length := by omega
      rw [List.take_length] at hno
      have HX : Hid (decide (x ∈ l) = false) := by
        show _ = _
        simp [hno]
      clear hno
      go_wp2
      go_ret
      exact ⟨by rw [HX.out]; rfl, rfl⟩

theorem bit_mid : ∀ (n : Fin 256) (k : Fin 8), ((n.val : Int) / 2 ^ k.val).tmod 2 = if n.val.testBit k.val then 1 else 0 := by decide +kernel

set_option maxRecDepth 100000 in
set_option maxHeartbeats 1000000 in
theorem refBits_any {n : Nat} (hn : n < 256) (w : World) :
    Calls Try.prog 15 #[.int .i64 n] w fun r w' => ∃ v, r = .returned v ∧ OwnN w' w.heap.size v (ints (bitsL n)) ∧ Below w.heap.size w w' := by
  go_enter Try.func15, Try.ntmps15
  go_wp2
  go_loopw [3, 4] (fun l i wr => ∃ k : Nat, k ≤ 8 ∧ i = .int .i64 k ∧ OwnN wr w.heap.size l (ints (bitsTo n k)) ∧ Below w.heap.size w wr) (fun _ i _ => 8 - (intOf i).toNat)
  case atStart => exact ⟨0, Nat.zero_le _, rfl, ownN_nil _ _, Below.refl _ _⟩
  case round =>
    obtain ⟨k, hk, rfl, hown, hb⟩ := hrel
    by_cases hlt : k < 8
    · have hle := bitsTo_len n k
      rw [← ints_len] at hle
      have hz := hb.size
      have hbm := bit_mid ⟨n, hn⟩ ⟨k, hlt⟩
      have HY := Lib.hid (bitsTo_yes (n := n) (k := k))
      have HN := Lib.hid (bitsTo_no (n := n) (k := k))
      cases hm : n.testBit k
      · have HR := Lib.hid (HN.out hm)
        have hq : (((n : Int) / 2 ^ k).tmod 2 == 1) = false := by rw [hbm]; simp [hm]
        clear hm hbm
        go_wp2
        go_roundw
        case rel => exact ⟨k + 1, by omega, by go_num, by rw [HR.out]; exact hown, hb⟩
        case measure => simp [intOf]; omega
      · have HR : Hid (ints (bitsTo n (k + 1)) = ints (bitsTo n k) ++ [(k : Int)]) := by
          show _ = _
          rw [HY.out hm, ints_app]; rfl
        have hq : (((n : Int) / 2 ^ k).tmod 2 == 1) = true := by rw [hbm]; simp [hm]
        clear hm hbm
        go_wp2_with (at_builtin; refine wp_appendN rfl (.tmp 14) (.tmp 16) rfl w.heap.size _ (ints (bitsTo n k)) rfl (hown.alloc _) ⟨wr.heap.size, 0, none⟩ 1 1 rfl [(k : Int)] rfl (nums_new wr [(k : Int)] _ _ rfl) (by simp; omega) (by simp; omega) ?_; intro v1 w2 hown2 hb3 _)
        have hb4 := (hb.alloc hz _).trans hb3
        go_roundw
        case rel => exact ⟨k + 1, by omega, by go_num, by rw [HR.out]; exact hown2, hb4⟩
        case measure => simp [intOf]; omega
    · obtain rfl : k = 8 := by omega
      go_wp2
      go_ret
      exact ⟨_, rfl, hown, hb⟩

end Go.Proofs.Ytkphdmfcmfojeaa

/- Of a state that is none: how many threads, what one does next, who may. -/
namespace Go.Proofs.Ytkphdmfcmfojeaa
open Go.RowKit

theorem nil_threads (w : World) : Calls Try.prog 65 #[.pointer none] w fun r w' => r = .returned (.int .i64 0) ∧ w = w' := by
  go_enter Try.func65, Try.ntmps65
  go_wp2
  go_ret
  exact ⟨rfl, rfl⟩
theorem nil_instr (t : Int) (w : World) : Calls Try.prog 85 #[.pointer none, .int .i64 t] w fun r w' => r = .returned (.tuple #[.agg #[.int .i64 0, .int .i64 0, .int .i64 0, .int .i64 0], .bool false]) ∧ Below w.heap.size w w' := by
  have hb : belowB t 0 = false := decide_eq_false (by omega)
  go_enter Try.func85, Try.ntmps85
  go_wp2_with (first
    | (go_at_call 74; refine (sbelow_any _ _ _).mono ?_; rintro r w' ⟨rfl, rfl⟩)
    | (go_at_call 65; refine (nil_threads _).mono ?_; rintro r w' ⟨rfl, rfl⟩))
  exact bodyPost_ret (v := .tuple #[.agg #[.int .i64 0, .int .i64 0, .int .i64 0, .int .i64 0], .bool false]) (by simp [results, Try.results85, go_sem]) rfl ⟨rfl, below_alloc1 w _⟩
theorem nil_next (t : Int) (w : World) : Calls Try.prog 66 #[.pointer none, .int .i64 t] w fun r w' => r = .returned (.tuple #[.agg #[.int .i64 0, .int .i64 0, .int .i64 0, .bool false], .bool false]) ∧ Below w.heap.size w w' := by
  go_enter Try.func66, Try.ntmps66
  go_wp2_with fail
  refine (nil_instr t _).mono ?_
  rintro r w1 ⟨rfl, hb1⟩
  have hw1 : Below w.heap.size w w1 := (below_alloc1 w _).trans (hb1.mono (by simp))
  have hz : w.heap.size < w1.heap.size := by have := hb1.size; simp at this; omega
  have hc : ∀ o, w1.cell? ⟨w.heap.size, o, none⟩ = (w.alloc (.cells #[.int .i64 0, .int .i64 0, .int .i64 0, .bool false] 128)).cell? ⟨w.heap.size, o, none⟩ := fun o => hb1.cell (p := ⟨w.heap.size, o, none⟩) (by simp)
  have hf : ∀ o, w1.frozen? ⟨w.heap.size, o, none⟩ = (w.alloc (.cells #[.int .i64 0, .int .i64 0, .int .i64 0, .bool false] 128)).frozen? ⟨w.heap.size, o, none⟩ := fun o => hb1.frozen (p := ⟨w.heap.size, o, none⟩) (by simp)
  clear hb1
  go_wp2
  refine bodyPost_ret (v := .tuple #[.agg #[.int .i64 0, .int .i64 0, .int .i64 0, .bool false], .bool false]) (by simp [results, Try.results66, go_sem, hc, hz]) rfl ⟨rfl, ?_⟩
  exact (below_set4 hw1 (Nat.le_refl _) _ _ _ _).alloc (by simp [World.setCell]; omega) _
theorem nil_all (w : World) : Calls Try.prog 34 #[.pointer none] w fun r w' => r = .returned (.slice none 0 0) ∧ w = w' := by
  go_enter Try.func34, Try.ntmps34
  go_wp2_with (go_at_call 65; refine (nil_threads _).mono ?_; rintro r w' ⟨rfl, rfl⟩)
  go_loop [3, 7] (fun l i => l = .slice none 0 0 ∧ i = .int .i64 0) (fun _ _ => 0)
  case atStart => exact ⟨rfl, rfl⟩
  case round =>
    obtain ⟨rfl, rfl⟩ := hrel
    go_wp2
    go_ret
    exact ⟨rfl, rfl⟩

end Go.Proofs.Ytkphdmfcmfojeaa

/- The contracts of Child and Blocked. -/
namespace Go.Proofs.Ytkphdmfcmfojeaa
open Go.RowKit

theorem childS_yes {nx : Int → Option Ev} {e : Ev} {l : List Nat} {k : Nat} (hk : k < l.length) (h : apart nx e l[k] = true) : ofN (ints ((l.take (k + 1)).filter (apart nx e))) = wt (ofN (ints ((l.take k).filter (apart nx e)))) (l[k] : Int) := by
  rw [List.take_succ_eq_append_getElem hk, List.filter_append, ints_app]
  simp only [List.filter_cons, h, if_true, List.filter_nil]
  exact ofN_snoc _ _
theorem childS_no {nx : Int → Option Ev} {e : Ev} {l : List Nat} {k : Nat} (hk : k < l.length) (h : apart nx e l[k] = false) : ofN (ints ((l.take (k + 1)).filter (apart nx e))) = ofN (ints ((l.take k).filter (apart nx e))) := by
  rw [List.take_succ_eq_append_getElem hk, List.filter_append]
  simp [h]

set_option maxRecDepth 100000 in
set_option maxHeartbeats 4000000 in
theorem child_gen (o : Option Addr) (nx : Int → Option Ev) {asl ear : Nat} (ha : asl < 256) (he : ear < 256) (t : Int) (w : World)
    (hn : ∀ W, Below w.heap.size w W → ∀ t, Calls Try.prog 66 #[.pointer o, .int .i64 t] W fun r w' => r = .returned (evR (nx t)) ∧ Below W.heap.size W w') :
    Calls Try.prog 57 #[.pointer o, .int .u8 asl, .int .u8 ear, .int .i64 t] w fun r w' => r = .returned (.int .u8 (childN nx asl ear t : Nat)) ∧ Below w.heap.size w w' := by
  have HN := Lib.hid hn
  clear hn
  cases h : nx t with
  | none =>
    have HC : Hid (childN nx asl ear t = 0) := by
      show _ = _
      unfold childN
      rw [child_none h]; rfl
    have H := Lib.hid h
    clear h
    go_enter Try.func57, Try.ntmps57
    go_wp2_with fail
    refine (HN.out w (Below.refl _ _) t).mono ?_
    rw [H.out, evR_none]
    rintro r w1 ⟨rfl, hb1⟩
    have hz := hb1.size
    go_wp2
    go_ret
    exact ⟨by rw [HC.out]; rfl, hb1.alloc hz _⟩
  | some e =>
    have HC := Lib.hid (child_all h ha he)
    have H := Lib.hid h
    have HL8 := bitsL_len (wl (asl ||| ear) t)
    clear h
    go_enter Try.func57, Try.ntmps57
    go_wp2_with fail
    refine (HN.out w (Below.refl _ _) t).mono ?_
    rw [H.out, evR_some]
    rintro r w1 ⟨rfl, hb1⟩
    have hz1 := hb1.size
    have HX : Hid (EvBox (w1.alloc (.cells #[.int .i64 e.thread, .int .i64 e.kind, .int .i64 e.obj, .bool e.fail] 128)) w1.heap.size e) := EvBox.new w1 e
    have HB2 := Lib.hid (hb1.alloc hz1 (.cells #[.int .i64 e.thread, .int .i64 e.kind, .int .i64 e.obj, .bool e.fail] 128))
    clear hb1
    go_wp2_with fail
    refine (union_any ha he _).mono ?_
    rintro r w' ⟨rfl, rfl⟩
    go_wp2_with fail
    refine (without_any (or_lt8 ha he) t _).mono ?_
    rintro r w' ⟨rfl, rfl⟩
    go_wp2_with fail
    refine (setAll_any (wl_lt (or_lt8 ha he) t) _).mono ?_
    rintro r w3 ⟨v, rfl, hv, hb3⟩
    obtain ⟨a3, c3, rfl, hr3, _⟩ := hv.form (by rw [ints_len]; omega)
    have HR := Lib.hid hr3
    have HX3 := Lib.hid (HX.out.later hb3)
    have HB3 := Lib.hid (HB2.out.trans (hb3.mono HB2.out.size))
    clear hv hr3 hb3 HX HB2
    generalize bitsL (wl (asl ||| ear) t) = l at *
    rw [ints_len] at *
    go_wp2_with fail
    go_loopw [11, 31] (fun z i wr => ∃ k : Nat, k ≤ l.length ∧ i = .int .i64 k ∧ z = .int .u8 (ofN (ints ((l.take k).filter (apart nx e))) : Nat) ∧ Hid (Below w3.heap.size w3 wr)) (fun _ i _ => l.length - (intOf i).toNat)
    case atStart => exact ⟨0, Nat.zero_le _, rfl, rfl, Below.refl _ _⟩
    case round =>
      obtain ⟨k, hk, rfl, rfl, HW⟩ := hrel
      have hzw := HW.out.size
      by_cases hlt : k < l.length
      · obtain ⟨b, o3, rfl, hck⟩ := num_at (HR.out.later HW.out) (k := k) (by rw [ints_len]; exact hlt)
        rw [ints_get hlt] at hck
        have HY := Lib.hid (childS_yes (nx := nx) (e := e) hlt)
        have HNO := Lib.hid (childS_no (nx := nx) (e := e) hlt)
        have HBW := Lib.hid (HB3.out.trans (HW.out.mono HB3.out.size))
        cases h2 : nx (l[k] : Int) with
        | none =>
          have HS := Lib.hid (HNO.out (apart_none h2))
          have H2 := Lib.hid h2
          clear h2
          go_wp2_with fail
          refine (HN.out wr HBW.out _).mono ?_
          rw [H2.out, evR_none]
          rintro r w4 ⟨rfl, hb4⟩
          have hb5 := (HW.out.trans (hb4.mono HW.out.size)).alloc (by have := hb4.size; omega) (.cells #[.int .i64 0, .int .i64 0, .int .i64 0, .bool false] 128)
          have HW5 := Lib.hid hb5
          clear hb4 hb5
          go_wp2
          go_roundw
          case rel => exact ⟨k + 1, by omega, by go_num, by rw [HS.out], HW5.out⟩
          case measure => simp [intOf]; omega
        | some x =>
          have HD := Lib.hid (apart_some (e := e) h2)
          have H2 := Lib.hid h2
          clear h2
          go_wp2_with fail
          refine (HN.out wr HBW.out _).mono ?_
          rw [H2.out, evR_some]
          rintro r w4 ⟨rfl, hb4⟩
          have hz4 := hb4.size
          have hb5 := (HW.out.trans (hb4.mono HW.out.size)).alloc (by have := hb4.size; omega) (.cells #[.int .i64 x.thread, .int .i64 x.kind, .int .i64 x.obj, .bool x.fail] 128)
          have HW5 := Lib.hid hb5
          obtain ⟨e0, e1, e2, e3⟩ := (HX3.out.later hb5).cells
          obtain ⟨x0, x1, x2, x3⟩ := (EvBox.new w4 x).cells
          clear hb4 hb5
          go_wp2_with fail
          refine (depends_any e x _).mono ?_
          rintro r w6 ⟨rfl, hb6⟩
          have HW6 := Lib.hid (HW5.out.trans (hb6.mono HW5.out.size))
          clear hb6 e0 e1 e2 e3 x0 x1 x2 x3
          cases hd : dep e x
          · have HS := Lib.hid (HY.out (by rw [HD.out, hd]; rfl))
            clear hd
            go_wp2_with fail
            refine (with_any (ofN_lt _) _ _).mono ?_
            rintro r w' ⟨rfl, rfl⟩
            go_wp2
            go_roundw
            case rel => exact ⟨k + 1, by omega, by go_num, by rw [HS.out], HW6.out⟩
            case measure => simp [intOf]; omega
          · have HS := Lib.hid (HNO.out (by rw [HD.out, hd]; rfl))
            clear hd
            go_wp2
            go_roundw
            case rel => exact ⟨k + 1, by omega, by go_num, by rw [HS.out], HW6.out⟩
            case measure => simp [intOf]; omega
      · obtain rfl : k = l.length := by omega
        have HBW := Lib.hid (HB3.out.trans (HW.out.mono HB3.out.size))
        have HF : Hid (ofN (ints ((l.take l.length).filter (apart nx e))) = childN nx asl ear t) := by
          show _ = _
          rw [List.take_length, HC.out]; rfl
        go_wp2
        go_ret
        exact ⟨by rw [← HF.out]; rfl, HBW.out⟩

end Go.Proofs.Ytkphdmfcmfojeaa

/- The contract of the tree's Claim. -/
namespace Go.Proofs.Ytkphdmfcmfojeaa
open Go.RowKit

theorem draw_eq (d : Int) {n : Nat} (h : 0 < n) : ∃ m : Int, IntKind.u64.wrap d = m ∧ 0 ≤ m ∧ m % (n : Int) = (drawN d n : Nat) ∧ m.tmod (n : Int) = (drawN d n : Nat) := by
  have e : IntKind.u64.wrap d = d % 18446744073709551616 := by
    unfold IntKind.wrap
    simp [IntKind.signed, IntKind.bits]
  have h0 : 0 ≤ d % 18446744073709551616 := Int.emod_nonneg _ (by omega)
  have h1 := Int.emod_nonneg (d % 18446744073709551616) (by omega : (n : Int) ≠ 0)
  refine ⟨_, e, h0, ?_, ?_⟩
  · unfold drawN
    omega
  · rw [Int.tmod_eq_emod_of_nonneg h0]
    unfold drawN
    omega

section
variable {h : TrH} {w : World} {gs : List Nat} {l : List TNd} {cl : Int}

/-- What Claim answers, and leaves. -/
def ClaimR (h : TrH) (gs : List Nat) (l : List TNd) (cl : Int) (k : Pfx) (d : Int) (w : World) (r : Ending) (w' : World) : Prop :=
  r = .returned (.tuple #[.int .i64 (claimT h.p h.fuel l k d).2.1, .int .u8 ((claimT h.p h.fuel l k d).2.2.1 : Nat), .int .i64 (claimT h.p h.fuel l k d).1]) ∧
    TrAt h w' gs (claimT h.p h.fuel l k d).2.2.2 (if (claimT h.p h.fuel l k d).1 = 0 then cl + 1 else cl) ∧ OnlyS (TrS h gs) w w'
theorem claimR_none {k : Pfx} {d : Int} {w' : World} (e : claimT h.p h.fuel l k d = (6, 0, 0, l)) (t : TrAt h w' gs l cl) (ho : OnlyS (TrS h gs) w w') : ClaimR h gs l cl k d w (.returned (.tuple #[.int .i64 0, .int .u8 0, .int .i64 6])) w' := by
  unfold ClaimR
  rw [e]
  exact ⟨rfl, t, ho⟩

set_option maxRecDepth 100000 in
set_option maxHeartbeats 2000000 in
theorem claim_any (t : TrAt h w gs l cl) (hcl : 0 ≤ cl ∧ cl ≤ 1000000) {k : Pfx} (hk : k.length ≤ 1000) (d : Int) : Calls Try.prog 20 #[.pointer (some ⟨h.b, 0, none⟩), .string ⟨k.toArray⟩, .int .i64 d] w (ClaimR h gs l cl k d w) := by
  cases hi : idxT l k with
  | none =>
    have HE : Hid (claimT h.p h.fuel l k d = (6, 0, 0, l)) := by show _ = _; unfold claimT; rw [hi]
    have HF := Lib.hid (find_no t hk hi)
    have HT := Lib.hid t
    clear t hi
    go_enter Try.func20, Try.ntmps20
    go_wp2_with fail
    refine HF.out.mono ?_
    rintro r w' ⟨rfl, rfl⟩
    go_wp2
    refine bodyPost_ret (v := .tuple #[.int .i64 0, .int .u8 0, .int .i64 6]) (by simp [results, Try.results20, go_sem]) rfl ?_
    exact claimR_none HE.out HT.out (OnlyS.refl _ _)
  | some i =>
    obtain ⟨hil, hpre⟩ := idxT_some hi
    have hok := t.ok.ok l[i] (List.getElem_mem hil)
    have htd := t.ok.todo l[i] (List.getElem_mem hil)
    obtain ⟨es, s, hrep, _⟩ := t.ok.row l[i] (List.getElem_mem hil)
    rw [hpre] at hrep
    obtain ⟨hg, c0, c1, c2, c3, c4⟩ := t.node hil
    have HF := Lib.hid (find_yes t hk hi hg)
    have HL := Lib.hid (left_any hok c2 c3 c4)
    have hl8 := hok.left
    have HT := Lib.hid t
    have HOK := Lib.hid hok
    have HGE : Hid (l.getD i ⟨[], 0, 0, 0, 0, 0⟩ = l[i]) := by show _ = _; simp [List.getD, hil]
    obtain ⟨L, hL⟩ : ∃ L, L = l[i].left := ⟨_, rfl⟩
    by_cases hem : bitsL L = []
    · have HE : Hid (claimT h.p h.fuel l k d = (6, 0, 0, l)) := by show _ = _; unfold claimT; rw [hi]; simp only [HGE.out]; rw [if_pos (by rw [← hL]; exact hem)]
      have HEM : Hid (ints (bitsL L) = []) := by show _ = _; rw [hem]; rfl
      rw [← hL] at HL hl8
      clear t hi hok htd hrep hem hL c0 c1 c2 c3 c4 hpre
      generalize gs[i] = g at *
      go_enter Try.func20, Try.ntmps20
      go_wp2_with fail
      refine HF.out.mono ?_
      rintro r w' ⟨rfl, rfl⟩
      go_wp2_with fail
      refine HL.out.mono ?_
      rintro r w1 ⟨rfl, hb1⟩
      go_wp2_with fail
      refine (setAll_any hl8 w1).mono ?_
      rw [HEM.out]
      rintro r w2 ⟨v, rfl, hown, hb2⟩
      have hb3 := hb1.trans (hb2.mono hb1.size)
      obtain ⟨a, cap, rfl, _⟩ := OwnN.form hown (by simp)
      clear hown hb1 hb2
      go_wp2
      refine bodyPost_ret (v := .tuple #[.int .i64 0, .int .u8 0, .int .i64 6]) (by simp [results, Try.results20, go_sem]) rfl ?_
      exact claimR_none HE.out (HT.out.later hb3) (OnlyS.of_below hb3)
    · have hpos : 0 < (bitsL L).length := List.length_pos_iff.2 hem
      have h8 := bitsL_len L
      obtain ⟨m, hm1, hm2, hm3, hm4⟩ := draw_eq d hpos
      have hdl := drawN_lt d hpos
      have HNX : Hid (nextT h.p h.fuel k = s.next) := by show _ = _; unfold nextT; rw [hrep]
      have HE : Hid (claimT h.p h.fuel l k d = (0, (((bitsL L).getD (drawN d (bitsL L).length) 0 : Nat) : Int), childN s.next l[i].asl l[i].gone ((bitsL L).getD (drawN d (bitsL L).length) 0 : Nat), l.set i { l[i] with gone := wt l[i].gone ((bitsL L).getD (drawN d (bitsL L).length) 0 : Nat) })) := by
        show _ = _
        unfold claimT
        rw [hi]
        simp only [HGE.out]
        rw [if_neg (by rw [← hL]; exact hem), ← hL, HNX.out]
      obtain ⟨ns, hns⟩ : ∃ ns, ns = ints (bitsL L) := ⟨_, rfl⟩
      have hnl : ns.length = (bitsL L).length := by rw [hns, ints_len]
      rw [← hnl] at hm3 hm4 hdl hpos h8
      obtain ⟨K, hK⟩ : ∃ K, K = drawN d (bitsL L).length := ⟨_, rfl⟩
      rw [hnl, ← hK] at hm3 hm4 hdl
      rw [← hnl] at hm3 hm4 hdl
      obtain ⟨x, hx⟩ : ∃ x : Nat, x = (bitsL L).getD K 0 := ⟨_, rfl⟩
      have hKb : K < (bitsL L).length := by omega
      have HX : Hid (∀ h : K < ns.length, ns[K] = (x : Int)) := fun h => by
        subst hns
        rw [ints_get hKb, hx]
        simp [List.getD, hKb]
      rw [← hK, ← hx] at HE
      have hcell := t.nodes i hil hg
      have HAT := Lib.hid hrep
      have HFZ : Hid (∀ W : World, W.heap[gs[i]]? = w.heap[gs[i]]? → W.frozen? ⟨gs[i], 4, none⟩ = false ∧ W.cell? ⟨gs[i], 2, none⟩ = some (.int .u8 (l[i].asl : Nat)) ∧ W.cell? ⟨gs[i], 4, none⟩ = some (.int .u8 (l[i].gone : Nat))) := fun W hW => by
        rw [hcell] at hW
        exact ⟨by simp [World.frozen?, hW], by rw [cell_of_row W _ 2 _ _ _ hW]; rfl, by rw [cell_of_row W _ 4 _ _ _ hW]; rfl⟩
      have hgl := t.lt gs[i] (.inr (.inr (List.getElem_mem hg)))
      have HCELL := Lib.hid hcell
      have HGB : Hid (gs[i] ≠ h.b) := by
        intro e2
        have h1 := hcell
        rw [e2, t.box] at h1
        injection h1 with h1
        injection h1 with h1
        unfold trA ndA at h1
        simp at h1
      have HN := Lib.hid hns
      have hx8 : wt l[i].gone (x : Int) < 256 := wt_lt hok.gone _
      rw [← hL] at HL hl8
      have HTD := Lib.hid htd
      have ha8 := hok.asl
      have hg8 := hok.gone
      clear t hi hok htd hrep hem hL c0 c1 c2 c3 c4 hpre hns hnl hK hx hKb hcell HNX HGE
      obtain ⟨hc0, hc1⟩ := hcl
      go_enter Try.func20, Try.ntmps20
      go_wp2_with fail
      refine HF.out.mono ?_
      rintro r w' ⟨rfl, rfl⟩
      go_wp2_with fail
      refine HL.out.mono ?_
      rintro r w1 ⟨rfl, hb1⟩
      go_wp2_with fail
      refine (setAll_any hl8 w1).mono ?_
      rw [← HN.out]
      rintro r w2 ⟨v, rfl, hown, hb2⟩
      have hb3 := hb1.trans (hb2.mono hb1.size)
      obtain ⟨a, cap, rfl, hnum, _⟩ := OwnN.form hown (by omega)
      have HNUM := Lib.hid hnum
      have HT2 := Lib.hid (HT.out.later hb3)
      have HB3 := Lib.hid hb3
      clear hown hb1 hb2 hnum hb3
      have hne : decide (ns.length = 0) = false := decide_eq_false (by omega)
      have hni : ((ns.length : Int) == 0) = false := by rw [beq_eq_false_iff_ne]; omega
      go_wp2_with fail
      refine (at_ok HT2.out hk HAT.out).mono ?_
      rintro r w3 ⟨sg, ev, rfl, hsg, hst, hok3, _, hb4⟩
      have HST := Lib.hid hst
      have HOK3 := Lib.hid hok3
      have HB4 := Lib.hid (HB3.out.trans (hb4.mono HB3.out.size))
      have HT3 := Lib.hid (HT2.out.later hb4)
      have hnum3 := HNUM.out.later hb4
      obtain ⟨nb, no, rfl, hcs⟩ := hnum3.2 (by intro e; rw [e] at hpos; exact absurd hpos (Nat.lt_irrefl _))
      have hck := hcs K hdl
      rw [HX.out hdl] at hck
      have hnw : IntKind.u64.wrap (ns.length : Int) = ns.length := wrap_u_small _ (by omega) (by omega)
      have hdi : (K : Int) < ns.length := by omega
      have hdi0 : (0 : Int) ≤ K := by omega
      clear hst hok3 hb4 hnum3 hcs HNUM
      have hblk3 : w3.heap[gs[i]]? = w.heap[gs[i]]? := HB4.out.block _ hgl
      have HCC : Hid (∀ W, Below w3.heap.size w3 W → W.cell? ⟨gs[i], 2, none⟩ = some (.int .u8 (l[i].asl : Nat)) ∧ W.cell? ⟨gs[i], 4, none⟩ = some (.int .u8 (l[i].gone : Nat))) := fun W hb => (HFZ.out W ((hb.block _ (Nat.lt_of_lt_of_le hgl HB4.out.size)).trans hblk3)).2
      have HCH : Hid (∀ W, Below w3.heap.size w3 W → Calls Try.prog 57 #[.pointer (some ⟨sg, 0, none⟩), .int .u8 (l[i].asl : Nat), .int .u8 (l[i].gone : Nat), .int .i64 (x : Int)] W fun r w' => r = .returned (.int .u8 (childN s.next l[i].asl l[i].gone (x : Int) : Nat)) ∧ Below W.heap.size W w') := fun W hb =>
        child_gen (some ⟨sg, 0, none⟩) s.next ha8 hg8 _ W (fun W' hb' t => next_any ((HST.out.later hb).later hb') HOK3.out t)
      clear hblk3
      go_upto_region 9 with (fail)
      clear hm1 hm3 hm4 hnw hne hni hck
      have hB0 : Below w3.heap.size w3 w3.drew := (Below.refl _ _).drew
      generalize hCN : childN s.next l[i].asl l[i].gone (x : Int) = CN at *
      go_region_held3 (fun W => W.cell? ⟨gs[i], 2, none⟩ = some (.int .u8 (l[i].asl : Nat)) ∧ W.cell? ⟨gs[i], 4, none⟩ = some (.int .u8 (l[i].gone : Nat)))
        (first | with_reducible exact HCC.out _ hB0 | with_reducible exact HCC.out _ hB1)
        (first | (go_at_call 57; ((with_reducible refine (HCH.out _ hB0).mono ?_); rintro r w4 ⟨rfl, hb5⟩; have hB1 : Below w3.heap.size w3 w4 := Below.trans hB0 hb5)))
      have HT4 := Lib.hid (HT3.out.later hB1)
      have HB5 := Lib.hid (HB4.out.trans (hB1.mono HB4.out.size))
      have hblk4 : w4.heap[gs[i]]? = w.heap[gs[i]]? := HB5.out.block _ hgl
      obtain ⟨f4, _, n4⟩ := HFZ.out w4 hblk4
      have HO5 : Hid (OnlyS (fun x => x = gs[i]) w4 (w4.setCell ⟨gs[i], 4, none⟩ (.int .u8 (wt l[i].gone (x : Int) : Nat)))) := OnlyS.setCell (S := fun x => x = gs[i]) (OnlyS.refl _ w4) (p := ⟨gs[i], 4, none⟩) rfl _
      have HT5 : Hid (TrAt h (w4.setCell ⟨gs[i], 4, none⟩ (.int .u8 (wt l[i].gone (x : Int) : Nat))) gs (l.set i { l[i] with gone := wt l[i].gone (x : Int) }) cl) :=
        HT4.out.put hil hg rfl rfl ⟨HOK.out.may, HOK.out.asl, HOK.out.todo, hx8⟩ HTD.out HO5.out (by rw [heap_setCell_same w4 gs[i] 4 _ _ _ (hblk4.trans HCELL.out)]; rfl)
      have HM : Hid (∀ x, x = gs[i] → TrS h gs x) := fun x hx => .inr (.inr (hx ▸ List.getElem_mem hg))
      obtain ⟨_, _, _, _, _, k5⟩ := HT5.out.cells
      have kb := HT5.out.box
      have g5 : (w4.setCell ⟨gs[i], 4, none⟩ (.int .u8 (wt l[i].gone (x : Int) : Nat))).frozen? ⟨h.b, 5, none⟩ = false := by simp [World.frozen?, kb]
      have HO6 : Hid (OnlyS (fun x => x = h.b) (w4.setCell ⟨gs[i], 4, none⟩ (.int .u8 (wt l[i].gone (x : Int) : Nat))) ((w4.setCell ⟨gs[i], 4, none⟩ (.int .u8 (wt l[i].gone (x : Int) : Nat))).setCell ⟨h.b, 5, none⟩ (.int .i64 (cl + 1)))) := OnlyS.setCell (S := fun x => x = h.b) (OnlyS.refl _ _) (p := ⟨h.b, 5, none⟩) rfl _
      have HT6 : Hid (TrAt h ((w4.setCell ⟨gs[i], 4, none⟩ (.int .u8 (wt l[i].gone (x : Int) : Nat))).setCell ⟨h.b, 5, none⟩ (.int .i64 (cl + 1))) gs (l.set i { l[i] with gone := wt l[i].gone (x : Int) }) (cl + 1)) :=
        HT5.out.count HO6.out (by rw [heap_setCell_same _ h.b 5 _ _ _ kb]; rfl)
      have HFIN : Hid (OnlyS (TrS h gs) w ((w4.setCell ⟨gs[i], 4, none⟩ (.int .u8 (wt l[i].gone (x : Int) : Nat))).setCell ⟨h.b, 5, none⟩ (.int .i64 (cl + 1)))) := OnlyS.after HB5.out ((HO5.out.mono fun x _ hx => HM.out x hx).trans (HO6.out.mono fun x _ hx => .inl hx))
      have HWI : Hid (∀ W, Calls Try.prog 58 #[.int .u8 (l[i].gone : Nat), .int .i64 (x : Int)] W fun r w' => r = .returned (.int .u8 (wt l[i].gone (x : Int) : Nat)) ∧ W = w') := fun W => with_any hg8 (x : Int) W
      clear kb hblk4 hgl
      generalize wt l[i].gone (x : Int) = GG at *
      generalize l[i].gone = G at *
      generalize gs[i] = g at *
      go_wp2_with fail
      refine (HWI.out _).mono ?_
      rintro r w' ⟨rfl, rfl⟩
      clear HWI
      have vcl : IntKind.i64.wrap (cl + 1) = cl + 1 := IntWalk.i64_in _ (by omega)
      go_wp2
      refine bodyPost_ret (v := .tuple #[.int .i64 (x : Int), .int .u8 (CN : Nat), .int .i64 0]) (by simp [results, Try.results20, go_sem]) rfl ?_
      unfold ClaimR
      rw [HE.out]
      refine ⟨rfl, ?_, HFIN.out⟩
      rw [if_pos rfl]
      exact HT6.out
set_option maxRecDepth 100000 in
theorem claim_nil (s : ByteArray) (d : Int) (w : World) : Calls Try.prog 20 #[.pointer none, .string s, .int .i64 d] w fun r w' => r = .returned (.tuple #[.int .i64 0, .int .u8 0, .int .i64 8]) ∧ w = w' := by
  go_enter Try.func20, Try.ntmps20
  go_wp2_with fail
  refine (find_nil s w).mono ?_
  rintro r w' ⟨rfl, rfl⟩
  go_wp2
  refine bodyPost_ret (v := .tuple #[.int .i64 0, .int .u8 0, .int .i64 8]) (by simp [results, Try.results20, go_sem]) rfl ?_
  exact ⟨rfl, rfl⟩
end

end Go.Proofs.Ytkphdmfcmfojeaa

/- The contract of awake, of layer 10: true. -/
namespace Go.Proofs.Ytkphdmfcmfojeaa
open Go.RowKit

set_option maxRecDepth 100000 in
theorem make_nil (s : ByteArray) (z o : Value) (w : World) : Calls Try.prog 16 #[.pointer none, .string s, z, o] w fun r w' => r = .returned (.int .i64 8) ∧ w = w' := by
  go_enter Try.func16, Try.ntmps16
  go_wp2_with fail
  refine (at_nil s w).mono ?_
  rintro r w' ⟨rfl, rfl⟩
  go_wp2
  go_ret
  exact ⟨rfl, rfl⟩
theorem newT_yes (p : Pg) (a : Option Addr) (cap : Nat) (fuel : Int) (w : World) (hp : ThreadsAt w a p.threads) (ha : a = none → cap = 0) (n : Nat) (hn : p.threads.length = n) (V M : Int) (hv : p.vars = V) (hm : p.mutexes = M) (hg : goodPg p fuel = true) :
    Calls Try.prog 13 #[.agg #[.int .i64 V, .int .i64 M, .slice a n cap], .int .i64 fuel] w fun r w' => ∃ h : TrH, r = .returned (.tuple #[.pointer (some ⟨h.b, 0, none⟩), .int .i64 0]) ∧ h.p = p ∧ h.fuel = fuel ∧ w.heap.size ≤ h.wc.heap.size ∧ TrAt h w' [] [] 0 ∧ Below w.heap.size w w' := by
  subst hn hv hm
  refine (newT_any p a cap fuel w hp ha).mono fun r w' h => ?_
  unfold NewTR at h
  rw [if_pos hg] at h
  exact h
theorem newT_no (p : Pg) (a : Option Addr) (cap : Nat) (fuel : Int) (w : World) (hp : ThreadsAt w a p.threads) (ha : a = none → cap = 0) (n : Nat) (hn : p.threads.length = n) (V M : Int) (hv : p.vars = V) (hm : p.mutexes = M) (hg : goodPg p fuel = false) :
    Calls Try.prog 13 #[.agg #[.int .i64 V, .int .i64 M, .slice a n cap], .int .i64 fuel] w fun r w' => r = .returned (.tuple #[.pointer none, .int .i64 1]) ∧ Below w.heap.size w w' := by
  subst hn hv hm
  refine (newT_any p a cap fuel w hp ha).mono fun r w' h => ?_
  unfold NewTR at h
  rw [if_neg (by simp [hg])] at h
  exact h
section
variable {h : TrH} {w : World} {gs : List Nat} {l : List TNd} {cl : Int}
theorem TrAt.only (t : TrAt h w gs l cl) {w' : World} (ho : OnlyS (TrS h gs) w w') : Below h.wc.heap.size w w' := ho.below t.below.size t.low
theorem make_lit (t : TrAt h w gs l cl) (k : Pfx) (s : ByteArray) (hs : s = ⟨k.toArray⟩) (asl : Nat) (z : Int) (hz : z = asl) (ha : asl < 256) (own : Int) (hk : k.length ≤ 900) (hl : l.length ≤ 1000000) {e : Int} {l' : List TNd} (he : makeT h.p h.fuel l k asl own = (e, l')) :
    Calls Try.prog 16 #[.pointer (some ⟨h.b, 0, none⟩), .string s, .int .u8 z, .int .i64 own] w fun r w' => ∃ gs', r = .returned (.int .i64 e) ∧ TrAt h w' gs' l' cl ∧ Below h.wc.heap.size w w' := by
  subst hs hz
  refine (make_any t hk ha own hl).mono fun r w' h => ?_
  obtain ⟨gs', h1, h2, h3, _⟩ := h
  rw [he] at h1 h2
  exact ⟨gs', h1, h2, t.only h3⟩
theorem mark_lit (t : TrAt h w gs l cl) (k : Pfx) (s : ByteArray) (hs : s = ⟨k.toArray⟩) (set : Nat) (z : Int) (hz : z = set) (ha : set < 256) (hk : k.length ≤ 900) {e : Int} {l' : List TNd} (he : markT l k set = (e, l')) :
    Calls Try.prog 18 #[.pointer (some ⟨h.b, 0, none⟩), .string s, .int .u8 z] w fun r w' => ∃ gs', r = .returned (.int .i64 e) ∧ TrAt h w' gs' l' cl ∧ Below h.wc.heap.size w w' := by
  subst hs hz
  refine (mark_any t (by omega) ha).mono fun r w' h => ?_
  obtain ⟨h1, h2, h3⟩ := h
  rw [he] at h1 h2
  exact ⟨gs, h1, h2, t.only h3⟩
theorem claim_lit (t : TrAt h w gs l cl) (hcl : 0 ≤ cl ∧ cl ≤ 1000000) (k : Pfx) (s : ByteArray) (hs : s = ⟨k.toArray⟩) (d : Int) (hk : k.length ≤ 900) {e x : Int} {c : Nat} {l' : List TNd} (he : claimT h.p h.fuel l k d = (e, x, c, l')) (cz : Int) (hc : (c : Int) = cz) (cl' : Int) (hcl' : (if e = 0 then cl + 1 else cl) = cl') :
    Calls Try.prog 20 #[.pointer (some ⟨h.b, 0, none⟩), .string s, .int .i64 d] w fun r w' => ∃ gs', r = .returned (.tuple #[.int .i64 x, .int .u8 cz, .int .i64 e]) ∧ TrAt h w' gs' l' cl' ∧ Below h.wc.heap.size w w' := by
  subst hs hc hcl'
  refine (claim_any t hcl (by omega) d).mono fun r w' h => ?_
  obtain ⟨h1, h2, h3⟩ := h
  rw [he] at h1 h2
  exact ⟨gs, h1, h2, t.only h3⟩
theorem hand_lit (t : TrAt h w gs l cl) (k : Pfx) (s : ByteArray) (hs : s = ⟨k.toArray⟩) (o : Int) (hk : k.length ≤ 900) {e : Int} {l' : List TNd} (he : handT l k o = (e, l')) :
    Calls Try.prog 24 #[.pointer (some ⟨h.b, 0, none⟩), .string s, .int .i64 o] w fun r w' => ∃ gs', r = .returned (.int .i64 e) ∧ TrAt h w' gs' l' cl ∧ Below h.wc.heap.size w w' := by
  subst hs
  refine (hand_any t (by omega) o).mono fun r w' h => ?_
  obtain ⟨h1, h2, h3⟩ := h
  rw [he] at h1 h2
  exact ⟨gs, h1, h2, t.only h3⟩
theorem at_lit (t : TrAt h w gs l cl) (k : Pfx) (s : ByteArray) (hs : s = ⟨k.toArray⟩) (hk : k.length ≤ 900) {e : Int} {es : List Ev} {x : St} (he : rep h.p h.fuel (rowK k) = (e, es, some x)) (n : Nat) (hn : es.length = n) (hn2 : n ≤ 1000) :
    Calls Try.prog 27 #[.pointer (some ⟨h.b, 0, none⟩), .string s] w fun r w' => ∃ g a cap, r = .returned (.tuple #[.pointer (some ⟨g, 0, none⟩), .slice a n cap, .int .i64 0]) ∧ Below w.heap.size w w' := by
  subst hs hn
  refine (at_ok t (by omega) he).mono fun r w' h => ?_
  obtain ⟨g, v, h1, _, _, _, h5, h6⟩ := h
  obtain ⟨a, cap, rfl, _⟩ := OwnE.form h5 (by omega)
  exact ⟨g, a, cap, h1, h6⟩
theorem owner_lit (t : TrAt h w gs l cl) (k : Pfx) (s : ByteArray) (hs : s = ⟨k.toArray⟩) (hk : k.length ≤ 900) {o : Int} (he : ownT l k = o) :
    Calls Try.prog 29 #[.pointer (some ⟨h.b, 0, none⟩), .string s] w fun r w' => r = .returned (.int .i64 o) ∧ w = w' := by
  subst hs he
  exact owner_any t (by omega)
theorem asleep_lit (t : TrAt h w gs l cl) (k : Pfx) (s : ByteArray) (hs : s = ⟨k.toArray⟩) (hk : k.length ≤ 900) {n : Nat} (he : aslT l k = n) (z : Int) (hz : (n : Int) = z) :
    Calls Try.prog 31 #[.pointer (some ⟨h.b, 0, none⟩), .string s] w fun r w' => r = .returned (.int .u8 z) ∧ w = w' := by
  subst hs he hz
  exact asleep_any t (by omega)
theorem leftT_lit (t : TrAt h w gs l cl) (k : Pfx) (s : ByteArray) (hs : s = ⟨k.toArray⟩) (hk : k.length ≤ 900) {n : Nat} (he : (bitsL (leftT l k)).length = n) :
    Calls Try.prog 30 #[.pointer (some ⟨h.b, 0, none⟩), .string s] w fun r w' => ∃ a cap, r = .returned (.slice a n cap) ∧ Below w.heap.size w w' := by
  subst hs he
  refine (leftT_any t (by omega)).mono fun r w' h => ?_
  obtain ⟨v, h1, h2, h3⟩ := h
  obtain ⟨a, cap, rfl, _⟩ := OwnN.form h2 (by rw [ints_len]; have := bitsL_len (leftT l k); omega)
  rw [ints_len] at h1
  exact ⟨a, cap, h1, h3⟩
theorem lenT_lit (t : TrAt h w gs l cl) (n : Int) (hn : (l.length : Int) = n) : Calls Try.prog 32 #[.pointer (some ⟨h.b, 0, none⟩)] w fun r w' => r = .returned (.int .i64 n) ∧ w = w' := by
  subst hn
  exact lenT_any t
end

def wk10I : Ins := ⟨4, 0, 0, 1⟩
def wk10P : Pg := ⟨0, 0, [[wk10I], [wk10I]]⟩
def wk10L1 : List TNd := [⟨[], 3, 3, 0, 0, 0⟩]
def wk10L2 : List TNd := [⟨[], 3, 3, 0, 3, 0⟩]
def wk10L3 : List TNd := [⟨[], 3, 3, 0, 3, 1⟩]
def wk10L4 : List TNd := [⟨[], 3, 3, 0, 3, 3⟩]
def wk10L5 : List TNd := [⟨[], 3, 3, 0, 3, 3⟩, ⟨[0], 4, 2, 0, 0, 0⟩]
def wk10L6 : List TNd := [⟨[], 5, 3, 0, 3, 3⟩, ⟨[0], 4, 2, 0, 0, 0⟩]
theorem wk10_good : goodPg wk10P 1 = true := by decide +kernel
theorem wk10_1 : makeT wk10P 1 [] [] 0 3 = (0, wk10L1) := by kernel_rfl
theorem wk10_2 : makeT wk10P 1 wk10L1 [] 0 3 = (7, wk10L1) := by kernel_rfl
theorem wk10_3 : makeT wk10P 1 wk10L1 [0] 0 3 = (6, wk10L1) := by kernel_rfl
theorem wk10_4 : markT wk10L1 [] 7 = (0, wk10L2) := by kernel_rfl
theorem wk10_5 : claimT wk10P 1 wk10L2 [] 2 = (0, 0, 0, wk10L3) := by kernel_rfl
theorem wk10_6 : claimT wk10P 1 wk10L3 [] 2 = (0, 1, 1, wk10L4) := by kernel_rfl
theorem wk10_7 : claimT wk10P 1 wk10L4 [] 2 = (6, 0, 0, wk10L4) := by kernel_rfl
theorem wk10_8 : makeT wk10P 1 wk10L4 [0] 0 4 = (0, wk10L5) := by kernel_rfl
theorem wk10_9 : ∃ es s, rep wk10P 1 (rowK [0, 1]) = (0, es, some s) ∧ es.length = 2 := ⟨_, _, rfl, rfl⟩
theorem wk10_10 : handT wk10L5 [] 5 = (0, wk10L6) := by kernel_rfl
theorem wk10_code (w : World) : CodeAt (w.alloc (.cells #[.int .i64 4, .int .i64 0, .int .i64 0, .int .i64 1] 94)) (some ⟨w.heap.size, 0, none⟩) [wk10I] := by
  refine ⟨by simp [maxLen], fun _ => ⟨w.heap.size, 0, rfl, fun i hi => ?_⟩⟩
  have hi' : i < 1 := hi
  obtain rfl : i = 0 := by omega
  simp [wk10I]
theorem wk10_threads (w : World) (c : Option Addr) (h : CodeAt w c [wk10I]) (hc : c ≠ none) : ThreadsAt (w.alloc (.cells #[.slice c 1 1, .slice c 1 1] 95)) (some ⟨w.heap.size, 0, none⟩) wk10P.threads := by
  refine ⟨by simp [maxLen, wk10P], fun _ => ⟨w.heap.size, 0, rfl, fun i hi => ?_⟩⟩
  have hi' : i < 2 := hi
  obtain rfl | rfl : i = 0 ∨ i = 1 := by omega
  · exact ⟨c, 1, by simp [wk10P], h.later (below_alloc1 _ _), fun e => absurd e hc⟩
  · exact ⟨c, 1, by simp [wk10P], h.later (below_alloc1 _ _), fun e => absurd e hc⟩
theorem wk10_mem (w : World) : ThreadsAt ((w.alloc (.cells #[.int .i64 4, .int .i64 0, .int .i64 0, .int .i64 1] 94)).alloc (.cells #[.slice (some ⟨w.heap.size, 0, none⟩) 1 1, .slice (some ⟨w.heap.size, 0, none⟩) 1 1] 95)) (some ⟨w.heap.size + 1, 0, none⟩) wk10P.threads := by
  have := wk10_threads _ _ (wk10_code w) (by simp)
  simpa only [World.size_alloc] using this
theorem wk10_of (W : World) : Calls Try.prog 46 #[.slice (some ⟨W.heap.size, 0, none⟩) 1 1] (W.alloc (.cells #[.int .i64 0] 3)) fun r w' => r = .returned (.int .u8 1) ∧ Below W.heap.size W w' := by
  have hn : NumsAt (W.alloc (.cells #[.int .i64 0] 3)) (some ⟨W.heap.size, 0, none⟩) [0] := by
    refine ⟨by simp [maxLen], fun _ => ⟨W.heap.size, 0, rfl, fun i hi => ?_⟩⟩
    have hi' : i < 1 := hi
    obtain rfl : i = 0 := by omega
    simp
  refine (of_any (some ⟨W.heap.size, 0, none⟩) 1 [0] _ hn (by simp)).mono ?_
  rintro r w' ⟨rfl, rfl⟩
  exact ⟨rfl, below_alloc1 W _⟩

set_option maxRecDepth 100000 in
set_option maxHeartbeats 8000000 in
theorem awake10_any (w : World) : Calls Try.prog 10 #[] w fun r w' => r = .returned (.bool true) ∧ Below w.heap.size w w' := by
  have HM := Lib.hid (wk10_mem w)
  have hb : Below w.heap.size w ((w.alloc (.cells #[.int .i64 4, .int .i64 0, .int .i64 0, .int .i64 1] 94)).alloc (.cells #[.slice (some ⟨w.heap.size, 0, none⟩) 1 1, .slice (some ⟨w.heap.size, 0, none⟩) 1 1] 95)) := below_alloc2 w _ _
  go_enter Try.func10, Try.ntmps10
  go_wp2_with fail
  generalize (w.alloc (.cells #[.int .i64 4, .int .i64 0, .int .i64 0, .int .i64 1] 94)).alloc (.cells #[.slice (some ⟨w.heap.size, 0, none⟩) 1 1, .slice (some ⟨w.heap.size, 0, none⟩) 1 1] 95) = W0 at *
  refine (newT_yes wk10P (some ⟨w.heap.size + 1, 0, none⟩) 2 1 W0 HM.out (by intro e; cases e) 2 rfl 0 0 rfl rfl wk10_good).mono ?_
  rintro r W1 ⟨h, rfl, hp, hf, hwc, ht, hb1⟩
  have HP := Lib.hid hp
  have HF := Lib.hid hf
  have HWC : Hid (w.heap.size ≤ h.wc.heap.size) := Nat.le_trans hb.size hwc
  have HT1 := Lib.hid ht
  have HB1 := Lib.hid (hb.trans (hb1.mono hb.size))
  clear hp hf hwc ht hb hb1 HM
  go_wp2_with fail
  refine (newT_no ⟨0, 0, []⟩ none 0 1 W1 ⟨by simp [maxLen], fun h => absurd rfl h⟩ (fun _ => rfl) 0 rfl 0 0 rfl rfl (by decide +kernel)).mono ?_
  rintro r W2 ⟨rfl, hb2⟩
  have HT2 := Lib.hid (HT1.out.later hb2)
  have HB2 := Lib.hid (HB1.out.trans (hb2.mono HB1.out.size))
  clear hb2 HT1 HB1
  go_wp2_with fail
  refine (make_lit HT2.out [] _ (by rfl) 0 _ rfl (by omega) 3 (by simp) (by decide) (by rw [HP.out, HF.out]; try exact wk10_1)).mono ?_
  rintro r W3 ⟨gs3, rfl, ht, hb⟩
  have HT3 := Lib.hid ht
  have HB3 := Lib.hid (HB2.out.trans (hb.mono HWC.out))
  clear ht hb HT2 HB2
  go_wp2_with fail
  refine (make_lit HT3.out [] _ (by rfl) 0 _ rfl (by omega) 3 (by simp) (by decide) (by rw [HP.out, HF.out]; try exact wk10_2)).mono ?_
  rintro r W4 ⟨gs4, rfl, ht, hb⟩
  have HT4 := Lib.hid ht
  have HB4 := Lib.hid (HB3.out.trans (hb.mono HWC.out))
  clear ht hb HT3 HB3
  go_wp2_with fail
  refine (make_lit HT4.out [0] _ (by rfl) 0 _ rfl (by omega) 3 (by simp) (by decide) (by rw [HP.out, HF.out]; try exact wk10_3)).mono ?_
  rintro r W5 ⟨gs5, rfl, ht, hb⟩
  have HT5 := Lib.hid ht
  have HB5 := Lib.hid (HB4.out.trans (hb.mono HWC.out))
  clear ht hb HT4 HB4
  go_wp2_with fail
  refine (mark_lit HT5.out [] _ (by rfl) 7 _ rfl (by omega) (by simp) wk10_4).mono ?_
  rintro r W6 ⟨gs6, rfl, ht, hb⟩
  have HT6 := Lib.hid ht
  have HB6 := Lib.hid (HB5.out.trans (hb.mono HWC.out))
  clear ht hb HT5 HB5
  go_wp2_with fail
  refine (claim_lit HT6.out (by omega) [] _ (by rfl) 2 (by simp) (by rw [HP.out, HF.out]; try exact wk10_5) 0 rfl 1 (by decide)).mono ?_
  rintro r W7 ⟨gs7, rfl, ht, hb⟩
  have HT7 := Lib.hid ht
  have HB7 := Lib.hid (HB6.out.trans (hb.mono HWC.out))
  clear ht hb HT6 HB6
  go_wp2_with fail
  refine (claim_lit HT7.out (by omega) [] _ (by rfl) 2 (by simp) (by rw [HP.out, HF.out]; try exact wk10_6) 1 rfl 2 (by decide)).mono ?_
  rintro r W8 ⟨gs8, rfl, ht, hb⟩
  have HT8 := Lib.hid ht
  have HB8 := Lib.hid (HB7.out.trans (hb.mono HWC.out))
  clear ht hb HT7 HB7
  go_wp2_with fail
  refine (claim_lit HT8.out (by omega) [] _ (by rfl) 2 (by simp) (by rw [HP.out, HF.out]; try exact wk10_7) 0 rfl 2 (by decide)).mono ?_
  rintro r W9 ⟨gs9, rfl, ht, hb⟩
  have HT9 := Lib.hid ht
  have HB9 := Lib.hid (HB8.out.trans (hb.mono HWC.out))
  clear ht hb HT8 HB8
  go_wp2_with fail
  refine (make_lit HT9.out [0] _ (by rfl) 0 _ rfl (by omega) 4 (by simp) (by decide) (by rw [HP.out, HF.out]; try exact wk10_8)).mono ?_
  rintro r W10 ⟨gs10, rfl, ht, hb⟩
  have HT10 := Lib.hid ht
  have HB10 := Lib.hid (HB9.out.trans (hb.mono HWC.out))
  clear ht hb HT9 HB9
  obtain ⟨es9, s9, he9, hl9⟩ := wk10_9
  have HE9 := Lib.hid he9
  have HL9 := Lib.hid hl9
  clear he9 hl9
  go_wp2_with fail
  refine (at_lit HT10.out [0, 1] _ (by rfl) (by simp) (by rw [HP.out, HF.out]; exact HE9.out) 2 HL9.out (by omega)).mono ?_
  rintro r W11 ⟨g9, a9, c9, rfl, hb⟩
  have HT11 := Lib.hid (HT10.out.later hb)
  have HB11 := Lib.hid (HB10.out.trans (hb.mono HB10.out.size))
  clear hb HT10 HB10
  go_wp2_with fail
  refine (hand_lit HT11.out [] _ (by rfl) 5 (by simp) wk10_10).mono ?_
  rintro r W12 ⟨gs12, rfl, ht, hb⟩
  have HT12 := Lib.hid ht
  have HB12 := Lib.hid (HB11.out.trans (hb.mono HWC.out))
  clear ht hb HT11 HB11
  go_wp2_with fail
  refine (wk10_of W12).mono ?_
  rintro r W13 ⟨rfl, hb⟩
  have HT13 := Lib.hid (HT12.out.later hb)
  have HB13 := Lib.hid (HB12.out.trans (hb.mono HB12.out.size))
  clear hb HT12 HB12
  go_wp2_with fail
  refine (owner_lit HT13.out [] _ (by rfl) (by simp) (o := 5) (by kernel_rfl)).mono ?_
  rintro r w' ⟨rfl, rfl⟩
  go_wp2_with fail
  refine (owner_lit HT13.out [0] _ (by rfl) (by simp) (o := 4) (by kernel_rfl)).mono ?_
  rintro r w' ⟨rfl, rfl⟩
  go_wp2_with fail
  refine (owner_lit HT13.out [1] _ (by rfl) (by simp) (o := -1) (by kernel_rfl)).mono ?_
  rintro r w' ⟨rfl, rfl⟩
  go_wp2_with fail
  refine (lenT_lit HT13.out 2 rfl).mono ?_
  rintro r w' ⟨rfl, rfl⟩
  go_wp2_with fail
  refine (claims_any HT13.out).mono ?_
  rintro r w' ⟨rfl, rfl⟩
  go_wp2_with fail
  refine (leftT_lit HT13.out [] _ (by rfl) (by simp) (n := 0) (by kernel_rfl)).mono ?_
  rintro r W14 ⟨a10, c10, rfl, hb⟩
  have HT14 := Lib.hid (HT13.out.later hb)
  have HB14 := Lib.hid (HB13.out.trans (hb.mono HB13.out.size))
  clear hb HT13 HB13
  go_wp2_with fail
  refine (asleep_lit HT14.out [] _ (by rfl) (by simp) (n := 0) (by kernel_rfl) 0 rfl).mono ?_
  rintro r w' ⟨rfl, rfl⟩
  go_wp2
  go_ret
  exact ⟨rfl, HB14.out⟩

end Go.Proofs.Ytkphdmfcmfojeaa

/- Rows of elements of several cells each, whatever they are. -/
namespace Go.Proofs.Ytkphdmfcmfojeaa
open Go.RowKit

section
variable {T : Type} {f : T → List Value} {n : Nat}

def cellsL (f : T → List Value) (l : List T) : List Value := l.flatMap f
theorem cellsL_length (hf : ∀ x, (f x).length = n) (l : List T) : (cellsL f l).length = l.length * n := by
  induction l with
  | nil => simp [cellsL]
  | cons x l ih =>
    unfold cellsL at *
    rw [List.flatMap_cons, List.length_append, ih, hf, List.length_cons, Nat.add_mul, Nat.one_mul]
    omega
theorem cellsL_append (f : T → List Value) (a b : List T) : cellsL f (a ++ b) = cellsL f a ++ cellsL f b := by simp [cellsL]
theorem cellsL_get (hf : ∀ x, (f x).length = n) (l : List T) (i j : Nat) (h : i < l.length) (hj : j < n) : (cellsL f l)[i * n + j]? = (f l[i])[j]? := by
  induction l generalizing i with
  | nil => simp at h
  | cons x l ih =>
    cases i with
    | zero =>
      simp only [cellsL, List.flatMap_cons, Nat.zero_mul, Nat.zero_add, List.getElem_cons_zero]
      rw [List.getElem?_append_left (by rw [hf]; exact hj)]
    | succ i =>
      have := ih i (by simpa using h)
      have e : (i + 1) * n + j - (f x).length = i * n + j := by rw [hf, Nat.add_mul]; omega
      simp only [cellsL, List.flatMap_cons, List.getElem_cons_succ] at *
      rw [List.getElem?_append_right (by rw [hf, Nat.add_mul]; omega), e, this]
theorem cellsL_one (h1 : ∀ x, ∀ v ∈ f x, v.oneCell' = true) (l : List T) : ∀ v ∈ cellsL f l, v.oneCell' = true := by
  intro v hv
  simp only [cellsL, List.mem_flatMap] at hv
  obtain ⟨x, _, hv⟩ := hv
  exact h1 x v hv
theorem cellsL_single (f : T → List Value) (x : T) : cellsL f [x] = f x := by simp [cellsL]
/-- Where a place of the cells stands. -/
theorem cellsL_ext (hf : ∀ x, (f x).length = n) (hn : 0 < n) {l : List T} {xs : List Value} (hl : xs.length = l.length * n) (h : ∀ i (h : i < l.length), ∀ j, j < n → xs[i * n + j]? = (f l[i])[j]?) : xs = cellsL f l := by
  apply List.ext_getElem?
  intro p
  by_cases hp : p < l.length * n
  · have h1 : p / n < l.length := Nat.div_lt_of_lt_mul (by rw [Nat.mul_comm]; exact hp)
    have h2 : p % n < n := Nat.mod_lt _ hn
    have e : p = p / n * n + p % n := by rw [Nat.mul_comm]; exact (Nat.div_add_mod p n).symm
    rw [e, h _ h1 _ h2, cellsL_get hf _ _ _ h1 h2]
  · rw [List.getElem?_eq_none (by omega), List.getElem?_eq_none (by rw [cellsL_length hf]; omega)]

/-- From the place a on lie, in w, the elements l. -/
def RowAt (w : World) (a : Option Addr) (n : Nat) (f : T → List Value) (l : List T) : Prop :=
  l.length ≤ maxLen ∧ (l ≠ [] → ∃ b o, a = some ⟨b, o, none⟩ ∧ ∀ i (h : i < l.length) j u, (f l[i])[j]? = some u → w.cell? ⟨b, o + i * n + j, none⟩ = some u)
theorem RowAt.later {w w' : World} {a : Option Addr} {l : List T} (h : RowAt w a n f l) (hb : Below w.heap.size w w') : RowAt w' a n f l := by
  refine ⟨h.1, fun hn => ?_⟩
  obtain ⟨b, o, rfl, hc⟩ := h.2 hn
  exact ⟨b, o, rfl, fun i hi j u hj => cell_later hb (hc i hi j u hj)⟩
theorem rowAt_nil (w : World) (a : Option Addr) (n : Nat) (f : T → List Value) : RowAt w a n f [] := ⟨by simp [maxLen], fun h => absurd rfl h⟩
/-- A piece of a row. -/
theorem RowAt.part {w : World} {b o : Nat} {l : List T} (h : RowAt w (some ⟨b, o, none⟩) n f l) (i m : Nat) : RowAt w (some ⟨b, o + i * n, none⟩) n f ((l.drop i).take m) := by
  refine ⟨Nat.le_trans (List.length_take_le' _ _) (Nat.le_trans (by simp) h.1), fun hn => ⟨b, o + i * n, rfl, fun k hk j u hj => ?_⟩⟩
  have hk' : i + k < l.length := by simp at hk; omega
  obtain ⟨b', o', e, hc⟩ := h.2 (by intro e; simp [e] at hk')
  cases e
  have h1 := hc (i + k) hk' j u (by simpa using hj)
  rw [Nat.add_mul, ← Nat.add_assoc] at h1
  exact h1

/-- A row of the call's own. -/
def OwnRow (w : World) (B : Nat) (t : TypeId) (n : Nat) (f : T → List Value) (v : Value) (l : List T) : Prop := w.ownsRow B t n v l.length (cellsL f l)
theorem OwnRow.alloc {w : World} {B : Nat} {t : TypeId} {v : Value} {l : List T} (h : OwnRow w B t n f v l) (o : Obj) : OwnRow (w.alloc o) B t n f v l := World.ownsRow.alloc h o
theorem ownRow_nil (w : World) (B : Nat) (t : TypeId) (n : Nat) (f : T → List Value) : OwnRow w B t n f (.slice none 0 0) [] := World.ownsRow_nil w B _ _
theorem OwnRow.later {w w' : World} {B : Nat} {t : TypeId} {v : Value} {l : List T} (h : OwnRow w B t n f v l) (hb : Below w.heap.size w w') : OwnRow w' B t n f v l := ownsRow_later h hb
theorem OwnRow.only {w w' : World} {B g : Nat} {t : TypeId} {v : Value} {l : List T} (h : OwnRow w B t n f v l) (ho : Only g w w') (hg : g < B) : OwnRow w' B t n f v l := ownsRow_only h ho hg
theorem OwnRow.form {w : World} {B : Nat} {t : TypeId} {v : Value} {l : List T} (h : OwnRow w B t n f v l) (hf : ∀ x, (f x).length = n) (hm : l.length ≤ 1000000) : ∃ a cap, v = .slice a l.length cap ∧ RowAt w a n f l ∧ (a = none → cap = 0) := by
  obtain ⟨h1, ⟨h2, h3⟩ | ⟨g, cap, cur, h2, h3, h4, h5, h6, h7, h8⟩⟩ := h
  · have e : l = [] := List.eq_nil_of_length_eq_zero h3
    subst e
    exact ⟨none, 0, h2, rowAt_nil _ _ _ _, fun _ => rfl⟩
  · refine ⟨some ⟨g, 0, none⟩, cap, h2, ⟨by unfold maxLen; omega, fun _ => ⟨g, 0, rfl, fun i hi j u hj => ?_⟩⟩, by simp⟩
    have hjn : j < n := by rw [← hf l[i]]; exact (List.getElem?_eq_some_iff.1 hj).1
    rw [← cellsL_get hf l i j hi hjn, ← h8] at hj
    have hlt : i * n + j < l.length * n := by
      have : (i + 1) * n ≤ l.length * n := Nat.mul_le_mul_right n hi
      rw [Nat.add_mul, Nat.one_mul] at this
      omega
    rw [List.getElem?_take_of_lt hlt] at hj
    simp [World.cell?, h4]
    simpa using hj
/-- A row that is not empty lies in a block of its own. -/
theorem OwnRow.block {w : World} {B : Nat} {t : TypeId} {v : Value} {l : List T} (h : OwnRow w B t n f v l) (hn : l ≠ []) : ∃ g cap, v = .slice (some ⟨g, 0, none⟩) l.length cap ∧ B ≤ g ∧ g < w.heap.size := by
  obtain ⟨h1, ⟨h2, h3⟩ | ⟨g, cap, cur, h2, h3, h4, h5, h6, h7, h8⟩⟩ := h
  · exact absurd (List.eq_nil_of_length_eq_zero h3) hn
  · exact ⟨g, cap, h2, h3, (Array.getElem?_eq_some_iff.1 h4).1⟩

theorem cells_new (w : World) (cs : List Value) (t : TypeId) (g : Nat) (hg : g = w.heap.size) : ∀ j u, cs[j]? = some u → (w.alloc (.cells cs.toArray t)).cell? (Addr.add ⟨g, 0, none⟩ j) = some u := by
  subst hg
  intro j u hj
  have e : Addr.add ⟨w.heap.size, 0, none⟩ j = ⟨w.heap.size, j, none⟩ := by rw [add_row, Nat.zero_add]
  rw [e, World.cell?_alloc_new]
  simpa using hj

/-- One element more. -/
theorem wp_appendR {P : Program} {w : World} {ops : Array Oper} {rest : List Oper} {o : Oper} {a : Act} {Q : Exit → Act → World → Prop} (st et : TypeId) (bytes : Nat) (z : Value) (hu : P.underlying st = some (.slice et))
    (hinfo : (P.info? et).map (fun i => (i.zero, i.size, i.bytes)) = some (some z, n, bytes)) (hz : z.cells.size = n) (hn : 0 < n) (hby : bytes ≤ 1000) (hf : ∀ x, (f x).length = n)
    (hgd : o.guard = none) (s x : Operand) (ho : o.op = .call { callee := .builtin .append, args := #[s, x], argTypes := #[st, st] }) (B : Nat) (v : Value) (l : List T) (hs : a.eval s = v) (hown : OwnRow w B et n f v l)
    (ad : Addr) (hx : a.eval x = .slice (some ad) 1 1) (e : T) (h1 : ∀ v ∈ f e, v.oneCell' = true) (hnews : ∀ j u, (f e)[j]? = some u → w.cell? (ad.add j) = some u) (hlen : l.length ≤ 1000000) (hB : B ≤ w.heap.size)
    (h : ∀ v' w', OwnRow w' B et n f v' (l ++ [e]) → Below B w w' → w.grownBy w' v.ownBlock → wpList P ops Q rest (a.put o.dst v') w') : wpList P ops Q (o :: rest) a w := by
  obtain ⟨i, hi, hzz⟩ := Option.map_eq_some_iff.1 hinfo
  simp only [Prod.mk.injEq] at hzz
  obtain ⟨hiz, hisz, hiby⟩ := hzz
  refine wpList_append_own w hgd s x st ho B et i z n bytes hu hi hiz hisz hiby hz hn v l.length (cellsL f l) hs hown ad 1 1 (f e) hx (by rw [hf, Nat.one_mul]) hnews
    h1 (by unfold maxLen; omega) ?_ hB ?_
  · have : (l.length + 1) * bytes ≤ 1000001 * 1000 := Nat.mul_le_mul (by omega) hby
    omega
  intro v' w' h2 h3 _
  refine h v' w' ?_ ((Below.refl B w).grown h3 hB (fun k hk => (World.ownsRow.lt hown k hk).1)) h3
  unfold OwnRow
  rw [List.length_append, cellsL_append, cellsL_single]
  exact h2

/-- One element more, and where the row lies then. -/
theorem wp_appendAt {P : Program} {w : World} {o : Oper} {a : Act} {K : Act → World → Prop} {Q : Exit → Act → World → Prop} (st et : TypeId) (bytes : Nat) (z : Value) (hu : P.underlying st = some (.slice et))
    (hinfo : (P.info? et).map (fun i => (i.zero, i.size, i.bytes)) = some (some z, n, bytes)) (hz : z.cells.size = n) (hn : 0 < n) (hby : bytes ≤ 1000) (hf : ∀ x, (f x).length = n)
    (s x : Operand) (ho : o.op = .call { callee := .builtin .append, args := #[s, x], argTypes := #[st, st] }) (B : Nat) (v : Value) (l : List T) (hs : a.eval s = v) (hown : OwnRow w B et n f v l)
    (ad : Addr) (hx : a.eval x = .slice (some ad) 1 1) (e : T) (h1 : ∀ v ∈ f e, v.oneCell' = true) (hnews : ∀ j u, (f e)[j]? = some u → w.cell? (ad.add j) = some u) (hlen : l.length ≤ 1000000) (hB : B ≤ w.heap.size)
    (h : ∀ v' w', OwnRow w' B et n f v' (l ++ [e]) → Below B w w' → w.grownBy w' v.ownBlock → (v'.ownBlock = v.ownBlock ∨ v'.ownBlock = some w.heap.size) → K (a.put o.dst v') w') : Oper.wp P o a w K Q := by
  obtain ⟨i, hi, hzz⟩ := Option.map_eq_some_iff.1 hinfo
  simp only [Prod.mk.injEq] at hzz
  obtain ⟨hiz, hisz, hiby⟩ := hzz
  have hbb : (l.length + 1) * bytes ≤ 140737488355328 := by
    have : (l.length + 1) * bytes ≤ 1000001 * 1000 := Nat.mul_le_mul (by omega) hby
    omega
  obtain ⟨v', w', hrun, r1, r2, _, r4⟩ := run_append_own_at (P := P) w B st o.type et i z n bytes hu hi hiz hisz hiby hz hn v l.length (cellsL f l) hown ad 1 1 (f e) (by rw [hf, Nat.one_mul]) hnews h1 (by unfold maxLen; omega) hbb hB
  have hK := h v' w' (by unfold OwnRow; rw [List.length_append, cellsL_append, cellsL_single]; exact r1) ((Below.refl B w).grown r2 hB (fun k hk => (World.ownsRow.lt hown k hk).1)) r2 r4
  unfold Oper.wp
  simp [execOp, ho, resolve, invoke, builtin, hs, hx, hrun, Result.andThen]
  exact hK
/-- The same in a region whose order is drawn. -/
theorem step_appendAt {P : Program} {w : World} {ops : Array Oper} {o : Oper} {a : Act} {K : Act → World → Prop} {Q : Exit → Act → World → Prop} {E : Prop} (st et : TypeId) (bytes : Nat) (z : Value) (hu : P.underlying st = some (.slice et))
    (hinfo : (P.info? et).map (fun i => (i.zero, i.size, i.bytes)) = some (some z, n, bytes)) (hz : z.cells.size = n) (hn : 0 < n) (hby : bytes ≤ 1000) (hf : ∀ x, (f x).length = n) (hgd : o.guard = none)
    (s x : Operand) (ho : o.op = .call { callee := .builtin .append, args := #[s, x], argTypes := #[st, st] }) (B : Nat) (v : Value) (l : List T) (hs : a.eval s = v) (hown : OwnRow w B et n f v l)
    (ad : Addr) (hx : a.eval x = .slice (some ad) 1 1) (e : T) (h1 : ∀ v ∈ f e, v.oneCell' = true) (hnews : ∀ j u, (f e)[j]? = some u → w.cell? (ad.add j) = some u) (hlen : l.length ≤ 1000000) (hB : B ≤ w.heap.size)
    (h : ∀ v' w', OwnRow w' B et n f v' (l ++ [e]) → Below B w w' → w.grownBy w' v.ownBlock → (v'.ownBlock = v.ownBlock ∨ v'.ownBlock = some w.heap.size) → K (a.put o.dst v') w') : if Region.wanted o (yielded ops a.tmps) = true then Oper.wp P o a w K Q else E := by
  have hw : Region.wanted o (yielded ops a.tmps) = true := by simp [Region.wanted, hgd]
  rw [if_pos hw]
  exact wp_appendAt st et bytes z hu hinfo hz hn hby hf s x ho B v l hs hown ad hx e h1 hnews hlen hB h

/-- Four numbers in a block. -/
def nums4 (c : Nat → Int) : List Value := [.int .i64 (c 0), .int .i64 (c 1), .int .i64 (c 2), .int .i64 (c 3)]
theorem nums4_congr {c d : Nat → Int} (h : ∀ t, t < 4 → c t = d t) : nums4 c = nums4 d := by
  unfold nums4
  rw [h 0 (by omega), h 1 (by omega), h 2 (by omega), h 3 (by omega)]
theorem nums4_get (c : Nat → Int) {t : Nat} (h : t < 4) : (nums4 c)[t]? = some (.int .i64 (c t)) := by
  rcases (by omega : t = 0 ∨ t = 1 ∨ t = 2 ∨ t = 3) with rfl | rfl | rfl | rfl <;> rfl
theorem nums4_set (c : Nat → Int) (v : Int) {t : Nat} (h : t < 4) : (nums4 c).set t (.int .i64 v) = nums4 (fun j => if j = t then v else c j) := by
  rcases (by omega : t = 0 ∨ t = 1 ∨ t = 2 ∨ t = 3) with rfl | rfl | rfl | rfl <;> rfl

theorem run_index4 {P : Program} (w : World) {t elem : TypeId} {d : TypeDesc} (c : Nat → Int) (q : Nat) (hu : P.underlying t = some (.array 4 elem)) (he : P.underlying elem = some d)
    (hd : (match d with | .struct _ | .array _ _ => true | _ => false) = false) (hs : (P.info? elem).map (·.size) = some 1) (hq : q < 4) : (Instr.index t (.agg #[.int .i64 (c 0), .int .i64 (c 1), .int .i64 (c 2), .int .i64 (c 3)]) (.int .i64 (q : Int))).run P w = .ok (.int .i64 (c q)) w :=
  run_index_one w q hu he hd hs hq (by rcases (by omega : q = 0 ∨ q = 1 ∨ q = 2 ∨ q = 3) with rfl | rfl | rfl | rfl <;> rfl)
end

end Go.Proofs.Ytkphdmfcmfojeaa

/- Arguments that are calls of a tree, or rows of them, opened. -/
namespace Go.Proofs.Ytkphdmfcmfojeaa
open Go.RowKit Go.Deep Go.Joins Go.WideShapes Go.ChangeShapes Go.ChangeAt

/-- A call: its kind, a number, a prefix, a set. -/
structure TOp where
  kind : Int
  n : Int
  pre : List UInt8
  set : Nat
def opCell (o : TOp) : List Value := [.int .i64 o.kind, .int .i64 o.n, .string ⟨o.pre.toArray⟩, .int .u8 (o.set : Nat)]
theorem opCell_len (o : TOp) : (opCell o).length = 4 := rfl
theorem op_byte {n : Int} (h : (Lit.int .u8 n).wf = true) : 0 ≤ n ∧ n < 256 := by
  simp [Lit.wf, IntKind.min, IntKind.max, IntKind.signed, IntKind.bits] at h
  omega

section
variable {H : Type} {enc : TypeId × Value → H} {W : World} {base : Nat} {spare : Nat → Bool} {held : Bool}

set_option maxRecDepth 100000 in
theorem opCell_of_trod {fuel : Nat} {cs : List Value} {x : DataW H × List MemPlace} (h : DataW.trod enc Try.prog W base spare held fuel 40 cs = some x) :
    ∃ o : TOp, cs = opCell o ∧ o.set < 256 ∧ o.pre.length ≤ maxLen := by
  obtain ⟨xs, n, _, _, hlen, hxl, hf⟩ := DataW.trod_struct Try.underlying40 h
  have h4 : cs.length = 4 := hlen.trans (by kernel_rfl)
  have hx4 : xs.length = 4 := hxl.trans rfl
  match cs, h4, xs, hx4 with
  | [c0, c1, c2, c3], _, [x0, x1, x2, x3], _ =>
    have e1 : Try.prog.cellsOf 3 = 1 := by kernel_rfl
    have e2 : Try.prog.cellsOf 9 = 1 := by kernel_rfl
    have e3 : Try.prog.cellsOf 5 = 1 := by kernel_rfl
    have g0 := hf 0 _ rfl
    have g1 := hf 1 _ rfl
    have g2 := hf 2 _ rfl
    have g3 := hf 3 _ rfl
    simp [e1, e2, e3] at g0 g1 g2 g3
    obtain ⟨n0, r0, _⟩ := DataW.trod_int Try.underlying3 g0
    obtain ⟨n1, r1, _⟩ := DataW.trod_int Try.underlying3 g1
    obtain ⟨n2, r2, _, w2⟩ := DataW.trod_string Try.underlying9 g2
    obtain ⟨n3, r3, _, w3⟩ := DataW.trod_int Try.underlying5 g3
    simp at r0 r1 r2 r3
    obtain ⟨h0, h1⟩ := op_byte w3
    refine ⟨⟨n0, n1, n2.data.toList, n3.toNat⟩, ?_, by dsimp only; omega, by simpa using w2⟩
    simp [opCell, r0, r1, r2, r3, Int.toNat_of_nonneg h0]

set_option maxRecDepth 100000 in
theorem op_of_trod {r : Reach} {b0 : Nat} {v : Value} {d : DataW H} {p : List MemPlace} (hv : Value.okWide Try.prog W r b0 40 v) (h : DataW.Trod enc Try.prog W base spare held 40 v d p) :
    ∃ o : TOp, v = .agg #[.int .i64 o.kind, .int .i64 o.n, .string ⟨o.pre.toArray⟩, .int .u8 (o.set : Nat)] ∧ o.set < 256 ∧ o.pre.length ≤ maxLen := by
  obtain ⟨v0, v1, v2, v3, y0, y1, y2, y3, n, rfl, _, _, h0, h1, h2, h3⟩ := open_agg4 Try.underlying40 (by kernel_rfl) (by kernel_rfl) hv h
  obtain ⟨n0, r0, _⟩ := DataW.trod_int Try.underlying3 h0
  obtain ⟨n1, r1, _⟩ := DataW.trod_int Try.underlying3 h1
  obtain ⟨n2, r2, _, w2⟩ := DataW.trod_string Try.underlying9 h2
  obtain ⟨n3, r3, _, w3⟩ := DataW.trod_int Try.underlying5 h3
  simp at r0 r1 r2 r3
  subst r0 r1 r2 r3
  obtain ⟨h0, h1⟩ := op_byte w3
  exact ⟨⟨n0, n1, n2.data.toList, n3.toNat⟩, by simp [Int.toNat_of_nonneg h0], by dsimp only; omega, by simpa using w2⟩

set_option maxRecDepth 100000 in
theorem ops_of_trod {r : Reach} {b0 : Nat} {v : Value} {d : DataW H} {p : List MemPlace} (hv : Value.okWide Try.prog W r b0 25 v) (h : DataW.Trod enc Try.prog W base spare held 25 v d p) :
    ∃ (a : Option Addr) (l : List TOp) (cap : Nat), v = .slice a l.length cap ∧ RowAt W a 4 opCell l ∧ (∀ o ∈ l, o.set < 256 ∧ o.pre.length ≤ maxLen) := by
  obtain ⟨a, len, cap, rfl⟩ := okWide_slice Try.underlying25 hv
  obtain ⟨fuel, hf⟩ := h
  rcases open_slice Try.underlying25 hf with ⟨e, _⟩ | ⟨a', len', cap', m, n, D, Pl, e, _, hl, hm, hmm, _, hi⟩
  · simp [Value.cells] at e
    obtain ⟨rfl, rfl, rfl⟩ := e
    exact ⟨none, [], 0, rfl, rowAt_nil _ _ _ _, by simp⟩
  · simp [Value.cells] at e
    obtain ⟨rfl, rfl, rfl⟩ := e
    have e4 : Try.prog.cellsOf 40 = 4 := by kernel_rfl
    have hlm : len ≤ m := by rw [hmm]; split <;> omega
    obtain ⟨l, hll, hx⟩ := exists_list len (fun i (y : TOp) => (y.set < 256 ∧ y.pre.length ≤ maxLen) ∧ ∀ j v, (opCell y)[j]? = some v → W.cell? (a'.add (i * 4 + j)) = some v) (fun i hi' => by
      obtain ⟨cs', hc, ht⟩ := hi i (by omega)
      rw [e4] at hc
      obtain ⟨y, rfl, hy⟩ := opCell_of_trod ht
      obtain ⟨_, _, hat⟩ := World.cells?_some hc
      refine ⟨y, hy, fun j v hv => ?_⟩
      have hj : j < 4 := by have := (List.getElem?_eq_some_iff.1 hv).1; simpa [opCell] using this
      rw [← add_add, hat j hj]; exact hv)
    refine ⟨some a', l, cap, by rw [hll], ⟨by omega, fun hne => ?_⟩, fun o ho => ?_⟩
    · have hpos : 0 < l.length := List.length_pos_iff.2 hne
      have h0 := (hx 0 l[0] (List.getElem?_eq_getElem hpos)).2 0 _ rfl
      have hsp := World.cell?_spot h0
      have hsp' : a'.spot = none := by simpa [Addr.add] using hsp
      obtain ⟨b, o, s⟩ := a'
      subst hsp'
      refine ⟨b, o, rfl, fun i hi' j u hu => ?_⟩
      have hxi := (hx i l[i] (List.getElem?_eq_getElem hi')).2 j u hu
      simp only [add_row, ← Nat.add_assoc] at hxi
      exact hxi
    · obtain ⟨i, hi', rfl⟩ := List.getElem_of_mem ho
      exact (hx i l[i] (List.getElem?_eq_getElem hi')).1
end
end Go.Proofs.Ytkphdmfcmfojeaa

/- The contract of few, of layer 10; the rows of calls in memory. -/
namespace Go.Proofs.Ytkphdmfcmfojeaa
open Go.RowKit

/-- May calls be played? -/
def fewB (l : List TOp) : Bool := l.all (fun o => decide (o.pre.length ≤ 40)) && decide (l.length ≤ 100)
theorem RowAt.op {w : World} {a : Option Addr} {l : List TOp} (h : RowAt w a 4 opCell l) {k : Nat} (hk : k < l.length) : ∃ b o, a = some ⟨b, o, none⟩ ∧ w.cell? ⟨b, o + k * 4, none⟩ = some (.int .i64 l[k].kind) ∧ w.cell? ⟨b, o + k * 4 + 1, none⟩ = some (.int .i64 l[k].n) ∧
    w.cell? ⟨b, o + k * 4 + 2, none⟩ = some (.string ⟨l[k].pre.toArray⟩) ∧ w.cell? ⟨b, o + k * 4 + 3, none⟩ = some (.int .u8 (l[k].set : Nat)) := by
  obtain ⟨b, o, rfl, hc⟩ := h.2 (by intro e; simp [e] at hk)
  exact ⟨b, o, rfl, hc k hk 0 _ rfl, hc k hk 1 _ rfl, hc k hk 2 _ rfl, hc k hk 3 _ rfl⟩
theorem fewB_stop {l : List TOp} {k : Nat} (hk : k < l.length) (h : 40 < l[k].pre.length) : fewB l = false := by
  unfold fewB
  rw [Bool.and_eq_false_iff]
  left
  rw [Bool.eq_false_iff]
  intro h2
  have := List.all_eq_true.1 h2 _ (List.getElem_mem hk)
  simp at this
  omega
theorem fewB_end {l : List TOp} (h : l.all (fun o => decide (o.pre.length ≤ 40)) = true) : fewB l = decide (l.length ≤ 100) := by
  unfold fewB
  rw [h, Bool.true_and]
theorem fewB_yes {l : List TOp} (h : fewB l = true) : l.length ≤ 100 ∧ ∀ o ∈ l, o.pre.length ≤ 40 := by
  unfold fewB at h
  rw [Bool.and_eq_true, decide_eq_true_eq] at h
  refine ⟨h.2, fun o ho => ?_⟩
  simpa using List.all_eq_true.1 h.1 o ho

set_option maxRecDepth 100000 in
set_option maxHeartbeats 1000000 in
theorem few10_any (a : Option Addr) (cap : Nat) (l : List TOp) (w : World) (hl : RowAt w a 4 opCell l) :
    Calls Try.prog 12 #[.slice a l.length cap] w fun r w' => r = .returned (.bool (fewB l)) ∧ Below w.heap.size w w' := by
  have HL := Lib.hid hl
  have hm := hl.1
  unfold maxLen at hm
  clear hl
  go_enter Try.func12, Try.ntmps12
  go_wp2
  go_loopw [7] (fun i wr => ∃ k : Nat, k ≤ l.length ∧ i = .int .i64 k ∧ Hid ((l.take k).all (fun o => decide (o.pre.length ≤ 40)) = true) ∧ Below w.heap.size w wr) (fun i _ => l.length - (intOf i).toNat)
  case atStart => exact ⟨0, Nat.zero_le _, rfl, rfl, Below.refl _ _⟩
  case round =>
    obtain ⟨k, hk, rfl, HA, hb⟩ := hrel
    by_cases hlt : k < l.length
    · obtain ⟨b, o, rfl, c0, c1, c2, c3⟩ := HL.out.op hlt
      have d0 := cell_later hb c0
      have d1 := cell_later hb c1
      have d2 := cell_later hb c2
      have d3 := cell_later hb c3
      have HT := Lib.hid (List.take_succ_eq_append_getElem hlt : l.take (k + 1) = l.take k ++ [l[k]])
      have HX := Lib.hid (fun h => fewB_stop (l := l) hlt h)
      clear c0 c1 c2 c3
      generalize l[k] = x at *
      have hsz : (⟨x.pre.toArray⟩ : ByteArray).size = x.pre.length := by simp [ByteArray.size]
      have hb1 : Below w.heap.size w (wr.alloc (.cells #[.int .i64 x.kind, .int .i64 x.n, .string ⟨x.pre.toArray⟩, .int .u8 (x.set : Nat)] 40)) := hb.alloc hb.size _
      by_cases h40 : 40 < x.pre.length
      · have HE := Lib.hid (HX.out h40)
        go_wp2
        go_ret
        exact ⟨by rw [HE.out]; rfl, hb1⟩
      · have HS : Hid ((l.take (k + 1)).all (fun o => decide (o.pre.length ≤ 40)) = true) := by
          show _ = _
          rw [HT.out, List.all_append, HA.out]
          simp
          omega
        go_wp2
        go_roundw
        case rel => exact ⟨k + 1, by omega, by go_num, HS, hb1⟩
        case measure => simp [intOf]; omega
    · obtain rfl : k = l.length := by omega
      have HE : Hid (fewB l = decide (l.length ≤ 100)) := fewB_end (by have := HA.out; rwa [List.take_length] at this)
      go_wp2
      go_ret
      exact ⟨by rw [HE.out]; simp; omega, hb⟩

end Go.Proofs.Ytkphdmfcmfojeaa

/- The contract of the document's Few. -/
namespace Go.Proofs.Ytkphdmfcmfojeaa
open Go.RowKit

def fewPg (p : Pg) : Bool := p.threads.all (fun l => decide (l.length ≤ 50)) && decide (p.threads.length ≤ 20)

set_option maxRecDepth 100000 in
set_option maxHeartbeats 1000000 in
theorem few_any (p : Pg) (a : Option Addr) (cap : Nat) (w : World) (hp : ThreadsAt w a p.threads) :
    Calls Try.prog 11 #[pgV p a cap] w fun r w' => r = .returned (.bool (fewPg p)) ∧ Below w.heap.size w w' := by
  obtain ⟨V, M, ts⟩ := p
  unfold pgV
  dsimp only at *
  have hm := hp.1
  unfold maxLen at hm
  have HL := Lib.hid hp
  clear hp
  go_enter Try.func11, Try.ntmps11
  go_wp2
  go_loop [3] (fun i => ∃ k : Nat, k ≤ ts.length ∧ i = .int .i64 k ∧ Hid ((ts.take k).all (fun l => decide (l.length ≤ 50)) = true)) (fun i => ts.length - (intOf i).toNat)
  case atStart => exact ⟨0, Nat.zero_le _, rfl, rfl⟩
  case round =>
    obtain ⟨k, hk, rfl, hall⟩ := hrel
    by_cases hlt : k < ts.length
    · obtain ⟨b, o, rfl, hc⟩ := HL.out.2 (by intro e; simp [e] at hlt)
      obtain ⟨c, ccap, c0, c1, _⟩ := hc k hlt
      have hz := cell_block c0
      dsimp only at hz
      have ht : (ts.take (k + 1)) = ts.take k ++ [ts[k]] := List.take_succ_eq_append_getElem hlt
      have hcm := c1.1
      unfold maxLen at hcm
      clear c1 hc
      by_cases h50 : 50 < ts[k].length
      · have HR : Hid (fewPg ⟨V, M, ts⟩ = false) := by
          show _ = _
          unfold fewPg
          dsimp only
          rw [Bool.and_eq_false_iff, List.all_eq_false]; exact .inl ⟨ts[k], List.getElem_mem _, by simp; omega⟩
        clear ht
        go_wp2
        go_ret
        exact ⟨ret_bool HR.out.symm, below_alloc1 _ _⟩
      · have HR : Hid ((ts.take (k + 1)).all (fun l => decide (l.length ≤ 50)) = true) := by
          show _ = _
          rw [ht, List.all_append, hall.out]; simp; omega
        clear ht
        go_wp2
        go_round
        case rel => exact ⟨k + 1, by omega, by go_num, HR⟩
        case measure => simp [intOf]; omega
    · obtain rfl : k = ts.length := by omega
      have HR : Hid (fewPg ⟨V, M, ts⟩ = decide (ts.length ≤ 20)) := by
        show _ = _
        have := hall.out
        rw [List.take_length] at this
        unfold fewPg
        dsimp only
        rw [this, Bool.true_and]
      go_wp2
      go_ret
      exact ⟨ret_bool (by rw [HR.out]; simp; omega), below_alloc1 _ _⟩
end Go.Proofs.Ytkphdmfcmfojeaa

/- An argument that is a program, opened. -/
namespace Go.Proofs.Ytkphdmfcmfojeaa
open Go.RowKit Go.Deep Go.Joins Go.WideShapes Go.ChangeShapes

section
variable {H : Type} {enc : TypeId × Value → H} {W : World} {base : Nat} {spare : Nat → Bool} {held : Bool}

set_option maxRecDepth 100000 in
theorem ins_of_trod {fuel : Nat} {cs : List Value} {x : DataW H × List MemPlace} (h : DataW.trod enc Try.prog W base spare held fuel 94 cs = some x) :
    ∃ i : Ins, cs = [.int .i64 i.kind, .int .i64 i.r, .int .i64 i.x, .int .i64 i.n] := by
  obtain ⟨xs, n, _, _, hlen, hxl, hf⟩ := DataW.trod_struct Try.underlying94 h
  have h4 : cs.length = 4 := hlen.trans (by kernel_rfl)
  have hx4 : xs.length = 4 := hxl.trans rfl
  match cs, h4, xs, hx4 with
  | [c0, c1, c2, c3], _, [x0, x1, x2, x3], _ =>
    have e1 : Try.prog.cellsOf 3 = 1 := by kernel_rfl
    have e2 : Try.prog.cellsOf 2 = 1 := by kernel_rfl
    have g0 := hf 0 _ rfl
    have g1 := hf 1 _ rfl
    have g2 := hf 2 _ rfl
    have g3 := hf 3 _ rfl
    simp [e1, e2] at g0 g1 g2 g3
    obtain ⟨n0, r0, _⟩ := DataW.trod_int Try.underlying3 g0
    obtain ⟨n1, r1, _⟩ := DataW.trod_int Try.underlying3 g1
    obtain ⟨n2, r2, _⟩ := DataW.trod_int Try.underlying3 g2
    obtain ⟨n3, r3, _⟩ := DataW.trod_int Try.underlying2 g3
    simp at r0 r1 r2 r3
    exact ⟨⟨n0, n1, n2, n3⟩, by simp [r0, r1, r2, r3]⟩

set_option maxRecDepth 100000 in
theorem code_of_trod {fuel : Nat} {cs : List Value} {x : DataW H × List MemPlace} (h : DataW.trod enc Try.prog W base spare held fuel 95 cs = some x) :
    ∃ (a : Option Addr) (l : List Ins) (cap : Nat), cs = [.slice a l.length cap] ∧ CodeAt W a l ∧ (a = none → cap = 0) := by
  rcases open_slice Try.underlying95 h with ⟨rfl, _⟩ | ⟨a, len, cap, m, n, D, Pl, rfl, _, hl, hm, hmm, _, hi⟩
  · exact ⟨none, [], 0, rfl, ⟨by simp [maxLen], fun h => absurd rfl h⟩, fun _ => rfl⟩
  · have e4 : Try.prog.cellsOf 94 = 4 := by kernel_rfl
    have hlm : len ≤ m := by rw [hmm]; split <;> omega
    obtain ⟨l, hll, hx⟩ := exists_list len (fun i (y : Ins) => ∀ j v, [Value.int .i64 y.kind, .int .i64 y.r, .int .i64 y.x, .int .i64 y.n][j]? = some v → W.cell? (a.add (i * 4 + j)) = some v) (fun i hi' => by
      obtain ⟨cs', hc, ht⟩ := hi i (by omega)
      rw [e4] at hc
      obtain ⟨y, rfl⟩ := ins_of_trod ht
      obtain ⟨_, _, hat⟩ := World.cells?_some hc
      refine ⟨y, fun j v hv => ?_⟩
      have hj : j < 4 := by have := (List.getElem?_eq_some_iff.1 hv).1; simpa using this
      rw [← add_add, hat j hj]; exact hv)
    refine ⟨some a, l, cap, by rw [hll], ⟨by omega, fun hne => ?_⟩, fun h => by cases h⟩
    have hpos : 0 < l.length := List.length_pos_iff.2 hne
    have h0 := hx 0 l[0] (List.getElem?_eq_getElem hpos) 0 _ rfl
    have hsp := World.cell?_spot h0
    have hsp' : a.spot = none := by simpa [Addr.add] using hsp
    obtain ⟨b, o, s⟩ := a
    subst hsp'
    refine ⟨b, o, rfl, fun i hi' => ?_⟩
    have hxi := hx i l[i] (List.getElem?_eq_getElem hi')
    have c0 := hxi 0 _ rfl
    have c1 := hxi 1 _ rfl
    have c2 := hxi 2 _ rfl
    have c3 := hxi 3 _ rfl
    simp only [add_row, ← Nat.add_assoc, Nat.add_zero] at c0 c1 c2 c3
    exact ⟨c0, c1, c2, c3⟩

set_option maxRecDepth 100000 in
theorem threads_of_trod {fuel : Nat} {cs : List Value} {x : DataW H × List MemPlace} (h : DataW.trod enc Try.prog W base spare held fuel 22 cs = some x) :
    ∃ (a : Option Addr) (ts : List (List Ins)) (cap : Nat), cs = [.slice a ts.length cap] ∧ ThreadsAt W a ts ∧ (a = none → cap = 0) := by
  rcases open_slice Try.underlying22 h with ⟨rfl, _⟩ | ⟨a, len, cap, m, n, D, Pl, rfl, _, hl, hm, hmm, _, hi⟩
  · exact ⟨none, [], 0, rfl, ⟨by simp [maxLen], fun h => absurd rfl h⟩, fun _ => rfl⟩
  · have e1 : Try.prog.cellsOf 95 = 1 := by kernel_rfl
    have hlm : len ≤ m := by rw [hmm]; split <;> omega
    obtain ⟨ts, hll, hx⟩ := exists_list len (fun i (l : List Ins) => ∃ c ccap, W.cell? (a.add i) = some (.slice c l.length ccap) ∧ CodeAt W c l ∧ (c = none → ccap = 0)) (fun i hi' => by
      obtain ⟨cs', hc, ht⟩ := hi i (by omega)
      rw [e1] at hc
      obtain ⟨c, l, ccap, rfl, h1, h2⟩ := code_of_trod ht
      obtain ⟨_, _, hat⟩ := World.cells?_some hc
      have := hat 0 (by omega)
      rw [add_add] at this
      exact ⟨l, c, ccap, by simpa using this, h1, h2⟩)
    refine ⟨some a, ts, cap, by rw [hll], ⟨by omega, fun hne => ?_⟩, fun h => by cases h⟩
    have hpos : 0 < ts.length := List.length_pos_iff.2 hne
    obtain ⟨c, ccap, h0, _⟩ := hx 0 ts[0] (List.getElem?_eq_getElem hpos)
    have hsp := World.cell?_spot h0
    have hsp' : a.spot = none := by simpa [Addr.add] using hsp
    obtain ⟨b, o, s⟩ := a
    subst hsp'
    refine ⟨b, o, rfl, fun i hi' => ?_⟩
    obtain ⟨c, ccap, h1, h2, h3⟩ := hx i ts[i] (List.getElem?_eq_getElem hi')
    rw [add_row] at h1
    exact ⟨c, ccap, h1, h2, h3⟩

set_option maxRecDepth 100000 in
theorem prog_of_trod {r : Reach} {b0 : Nat} {v : Value} {d : DataW H} {p : List MemPlace} (hv : Value.okWide Try.prog W r b0 24 v) (h : DataW.Trod enc Try.prog W base spare held 24 v d p) :
    ∃ (q : Pg) (a : Option Addr) (cap : Nat), v = pgV q a cap ∧ ThreadsAt W a q.threads ∧ (a = none → cap = 0) := by
  obtain ⟨v0, v1, v2, y0, y1, y2, n, rfl, _, _, h0, h1, h2⟩ := open_agg3 Try.underlying24 (by kernel_rfl) (by kernel_rfl) hv h
  obtain ⟨n0, r0, _⟩ := DataW.trod_int Try.underlying3 h0
  obtain ⟨n1, r1, _⟩ := DataW.trod_int Try.underlying3 h1
  obtain ⟨a, ts, cap, r2, ht, ha⟩ := threads_of_trod h2
  simp at r0 r1 r2
  subst r0 r1 r2
  exact ⟨⟨n0, n1, ts⟩, a, cap, rfl, ht, ha⟩
end
end Go.Proofs.Ytkphdmfcmfojeaa

/- Arguments that are numbers, or rows of numbers, opened. -/
namespace Go.Proofs.Ytkphdmfcmfojeaa
open Go.RowKit Go.Deep Go.Joins Go.WideShapes Go.ChangeShapes

section
variable {H : Type} {enc : TypeId × Value → H} {W : World} {base : Nat} {spare : Nat → Bool} {held : Bool}

theorem wf_in64 {n : Int} (h : (Lit.int .i64 n).wf = true) : in64 n := by
  simp [Lit.wf, IntKind.min, IntKind.max, IntKind.signed, IntKind.bits] at h
  unfold in64
  omega

set_option maxRecDepth 100000 in
theorem int_of_trod {r : Reach} {b0 : Nat} {v : Value} {d : DataW H} {p : List MemPlace} (hv : Value.okWide Try.prog W r b0 3 v) (h : DataW.Trod enc Try.prog W base spare held 3 v d p) :
    ∃ n : Int, v = .int .i64 n ∧ in64 n := by
  obtain ⟨n, e, _, _, hw⟩ := open_int Try.underlying3 hv h
  exact ⟨n, e, wf_in64 hw⟩

set_option maxRecDepth 100000 in
theorem nums_of_trod {r : Reach} {b0 : Nat} {v : Value} {d : DataW H} {p : List MemPlace} (hv : Value.okWide Try.prog W r b0 41 v) (h : DataW.Trod enc Try.prog W base spare held 41 v d p) :
    ∃ (a : Option Addr) (ns : List Int) (cap : Nat), v = .slice a ns.length cap ∧ NumsAt W a ns ∧ (a = none → cap = 0) ∧ ∀ n ∈ ns, in64 n := by
  obtain ⟨a, len, cap, rfl⟩ := okWide_slice Try.underlying41 hv
  obtain ⟨fuel, hf⟩ := h
  rcases open_ints Try.underlying41 Try.underlying3 (by kernel_rfl) hf with ⟨e, _⟩ | ⟨a', len', cap', zs, e, _, hl, hm, hz, _, hc, hw⟩
  · simp [Value.cells] at e
    obtain ⟨rfl, rfl, rfl⟩ := e
    exact ⟨none, [], 0, rfl, ⟨by simp [maxLen], fun h => absurd rfl h⟩, fun _ => rfl, by simp⟩
  · simp [Value.cells] at e
    obtain ⟨rfl, rfl, rfl⟩ := e
    have hlz : len ≤ zs.length := by rw [hz]; split <;> omega
    have hlt : (zs.take len).length = len := by simp; omega
    refine ⟨some a', zs.take len, cap, by rw [hlt], ⟨by rw [hlt]; omega, fun hne => ?_⟩, by simp, fun n hn => wf_in64 (hw n (List.mem_of_mem_take hn))⟩
    have hpos : 0 < len := by
      rcases Nat.eq_zero_or_pos len with h | h
      · subst h; simp at hne
      · exact h
    have h0 := hc 0 (by omega)
    have hsp := World.cell?_spot h0
    have hsp' : a'.spot = none := by simpa [Addr.add] using hsp
    obtain ⟨b, o, s⟩ := a'
    subst hsp'
    refine ⟨b, o, rfl, fun i hi => ?_⟩
    have hi' : i < len := by omega
    have := hc i (by omega)
    rw [add_row, getD_lt _ (by omega)] at this
    rw [this]
    simp
end
end Go.Proofs.Ytkphdmfcmfojeaa

/- Layer 10's tree, plainly: each node's prefix is led to by nodes that were gone into. -/
namespace Go.Proofs.Ytkphdmfcmfojeaa
open Go.RowKit

theorem step_lenT (s : St) (t : Int) : (s.step t).2.2.ts.length = s.ts.length := by
  rcases s.step_cases t with ⟨i, _, _, e⟩ | ⟨e, _, e'⟩
  · rw [e]; simp [St.do_]
  · rw [e']

set_option maxRecDepth 100000 in
set_option maxHeartbeats 4000000 in
theorem run_small (row : List Int) : ∀ {s : St}, (s.run row).1 = 0 → ∀ t ∈ row, 0 ≤ t ∧ t < s.ts.length := by
  induction row with
  | nil => intro s _ t ht; cases ht
  | cons u row ih =>
    intro s h
    by_cases h1 : (s.step u).1 = 0
    · rw [St.run, if_pos h1] at h
      by_cases h2 : ((s.step u).2.2.run row).1 = 0
      · intro t ht
        rcases List.mem_cons.1 ht with rfl | ht
        · rcases s.step_cases t with ⟨i, hi, _, _⟩ | ⟨e, he, e'⟩
          · exact (St.ins_has hi).1
          · rw [e'] at h1; dsimp only at h1; omega
        · have := ih h2 t ht
          rw [step_lenT s u] at this
          exact this
      · rw [if_neg h2] at h; exact absurd h h2
    · rw [St.run, if_neg h1] at h; exact absurd h h1
theorem run_count (row : List Int) : ∀ {s : St}, (s.run row).1 = 0 → (s.run row).2.1.length = row.length := by
  induction row with
  | nil => intro s _; rfl
  | cons u row ih =>
    intro s h
    by_cases h1 : (s.step u).1 = 0
    · rw [St.run, if_pos h1] at h ⊢
      by_cases h2 : ((s.step u).2.2.run row).1 = 0
      · rw [if_pos h2]
        simp [ih h2]
      · rw [if_neg h2] at h; exact absurd h h2
    · rw [St.run, if_neg h1] at h; exact absurd h h1
theorem rep_count {p : Pg} {fuel : Int} {row : List Int} {e : Int} {es : List Ev} {s : St} (h : rep p fuel row = (e, es, some s)) : es.length = row.length := by
  obtain ⟨_, _, h1, h2⟩ := rep_some h
  rw [← h2]
  exact run_count row h1
theorem rep_small {p : Pg} {fuel : Int} {row : List Int} {e : Int} {es : List Ev} {s : St} (h : rep p fuel row = (e, es, some s)) : ∀ t ∈ row, 0 ≤ t ∧ t < 4 := by
  obtain ⟨_, hg, h1, _⟩ := rep_some h
  intro t ht
  have h2 := run_small row h1 t ht
  unfold goodPg rightPg at hg
  rw [Bool.and_eq_true, Bool.and_eq_true, decide_eq_true_eq] at hg
  have h3 : (St.new p fuel.toNat).ts.length = p.threads.length := by simp [St.new]
  rw [h3] at h2
  omega
theorem TrOk.small {p : Pg} {fuel : Int} {l : List TNd} (h : TrOk p fuel l) {n : TNd} (hn : n ∈ l) : ∀ c ∈ n.pre, c.toNat < 4 := by
  obtain ⟨es, s, hr, _⟩ := h.row n hn
  intro c hc
  have := rep_small hr (c.toNat : Int) (List.mem_map.2 ⟨c, hc, rfl⟩)
  omega

/-- Each node but the empty prefix's is led to by one that was gone into. -/
def UpT (l : List TNd) : Prop := ∀ n ∈ l, n.pre ≠ [] → ∃ m ∈ l, m.pre = n.pre.dropLast ∧ hasB m.gone ((n.pre.getLast?.getD 0).toNat : Int) = true
theorem upT_nil : UpT [] := fun n hn => by cases hn
theorem UpT.set {l : List TNd} (h : UpT l) {i : Nat} (hi : i < l.length) {n : TNd} (e : n.pre = l[i].pre) (hg : ∀ t, hasB l[i].gone t = true → hasB n.gone t = true) : UpT (l.set i n) := by
  have key : ∀ m ∈ l, ∃ m' ∈ l.set i n, m'.pre = m.pre ∧ ∀ t, hasB m.gone t = true → hasB m'.gone t = true := by
    intro m hm
    obtain ⟨j, hj, rfl⟩ := List.getElem_of_mem hm
    by_cases hij : i = j
    · subst hij
      exact ⟨n, List.mem_set hi n, e, hg⟩
    · exact ⟨l[j], by
        have h1 : (l.set i n)[j]'(by simpa using hj) = l[j] := List.getElem_set_ne hij _
        rw [← h1]; exact List.getElem_mem _, rfl, fun t h => h⟩
  intro x hx hne
  obtain ⟨y, hy, hpre⟩ : ∃ y ∈ l, y.pre = x.pre := by
    rcases List.mem_or_eq_of_mem_set hx with h1 | rfl
    · exact ⟨x, h1, rfl⟩
    · exact ⟨l[i], List.getElem_mem hi, e.symm⟩
  rw [← hpre] at hne ⊢
  obtain ⟨m, hm, h1, h2⟩ := h y hy hne
  obtain ⟨m', hm', h3, h4⟩ := key m hm
  exact ⟨m', hm', h3.trans h1, h4 _ h2⟩
theorem hasB_wt {n : Nat} {t u : Int} (h : hasB n t = true) : hasB (wt n u) t = true := by
  unfold hasB at *
  rw [Bool.and_eq_true, decide_eq_true_eq] at *
  refine ⟨h.1, ?_⟩
  unfold wt
  rw [Nat.testBit_or, h.2, Bool.true_or]
theorem hasB_same {n : Nat} {t u : Int} (h : 0 ≤ u ∧ u < 8) (e : t = u) : hasB (wt n u) t = true := by
  subst e
  obtain ⟨k, rfl⟩ : ∃ k : Nat, t = k := ⟨t.toNat, by omega⟩
  rw [hasB_nat _ (by omega), testBit_wt (by omega)]
  simp
theorem UpT.make {p : Pg} {fuel : Int} {l : List TNd} (h : UpT l) (k : Pfx) (asl : Nat) (own : Int) : UpT (makeT p fuel l k asl own).2 := by
  unfold makeT
  rcases hr : rep p fuel (rowK k) with ⟨e, es, _ | s⟩
  · exact h
  · dsimp only
    split
    · exact h
    · split
      · exact h
      · rename_i hw
        intro n hn hne
        rw [List.mem_append, List.mem_singleton] at hn
        rcases hn with hn | rfl
        · obtain ⟨m, hm, h1, h2⟩ := h n hn hne
          exact ⟨m, List.mem_append_left _ hm, h1, h2⟩
        · dsimp only at hne ⊢
          have hw2 : wasT l k = true := by
            cases hq : wasT l k with
            | true => rfl
            | false => exact absurd ⟨hne, hq⟩ hw
          unfold wasT at hw2
          cases hi : idxT l k.dropLast with
          | none => rw [hi] at hw2; cases hw2
          | some i =>
            rw [hi] at hw2
            obtain ⟨hil, hp⟩ := idxT_some hi
            simp only [List.getD, hil, List.getElem?_eq_getElem, Option.getD_some] at hw2
            exact ⟨l[i], List.mem_append_left _ (List.getElem_mem hil), hp, hw2⟩
theorem UpT.mark {l : List TNd} (h : UpT l) (k : Pfx) (set : Nat) : UpT (markT l k set).2 := by
  unfold markT
  cases hi : idxT l k with
  | none => exact h
  | some i =>
    obtain ⟨hil, _⟩ := idxT_some hi
    have e : l.getD i ⟨[], 0, 0, 0, 0, 0⟩ = l[i] := by simp [List.getD, hil]
    simp only [e]
    exact h.set hil rfl fun t ht => ht
theorem UpT.claim {p : Pg} {fuel : Int} {l : List TNd} (h : UpT l) (k : Pfx) (d : Int) : UpT (claimT p fuel l k d).2.2.2 := by
  unfold claimT
  cases hi : idxT l k with
  | none => exact h
  | some i =>
    obtain ⟨hil, _⟩ := idxT_some hi
    have e : l.getD i ⟨[], 0, 0, 0, 0, 0⟩ = l[i] := by simp [List.getD, hil]
    simp only [e]
    split
    · exact h
    · exact h.set hil rfl fun t ht => hasB_wt ht
/-- All beginnings of a node's prefix have nodes, each gone into by the next thread. -/
theorem UpT.take {l : List TNd} (h : UpT l) : ∀ (d : Nat) (n : TNd), n ∈ l → ∀ i (hi : i < n.pre.length), n.pre.length - i = d + 1 → ∃ m ∈ l, m.pre = n.pre.take i ∧ hasB m.gone ((n.pre[i]).toNat : Int) = true := by
  intro d
  induction d with
  | zero =>
    intro n hn i hi hd
    have hne : n.pre ≠ [] := fun e => by rw [e] at hi; exact absurd hi (Nat.not_lt_zero _)
    obtain ⟨m, hm, h1, h2⟩ := h n hn hne
    have e1 : n.pre.dropLast = n.pre.take i := by rw [List.dropLast_eq_take]; congr 1; omega
    have e2 : n.pre.getLast?.getD 0 = n.pre[i] := by
      rw [List.getLast?_eq_getElem?, show n.pre.length - 1 = i by omega, List.getElem?_eq_getElem hi]
      rfl
    rw [e1] at h1
    rw [e2] at h2
    exact ⟨m, hm, h1, h2⟩
  | succ d ih =>
    intro n hn i hi hd
    have hne : n.pre ≠ [] := fun e => by rw [e] at hi; exact absurd hi (Nat.not_lt_zero _)
    obtain ⟨m, hm, h1, _⟩ := h n hn hne
    have hml : m.pre.length = n.pre.length - 1 := by rw [h1, List.length_dropLast]
    obtain ⟨m', hm', h3, h4⟩ := ih m hm i (by omega) (by omega)
    refine ⟨m', hm', ?_, ?_⟩
    · rw [h3, h1, List.dropLast_eq_take, List.take_take]
      congr 1
      omega
    · have : m.pre[i]'(by omega) = n.pre[i] := by simp [h1, List.getElem_dropLast]
      rw [← this]; exact h4
theorem mem_bits_hasB {n : Nat} (_ : n < 256) {x : Int} (h : x ∈ ints (bitsL n)) : hasB n x = true := by
  have := mem_has n x
  rw [← this]
  simpa using h
/-- Who is left was not gone into. -/
theorem TNd.Ok.left_gone {n : TNd} (h : n.Ok) {x : Int} (hx : x ∈ ints (bitsL n.left)) : hasB n.gone x = false ∧ hasB n.asl x = false ∧ hasB n.todo x = true := by
  have h1 := mem_bits_hasB h.left hx
  unfold hasB at h1
  rw [Bool.and_eq_true, decide_eq_true_eq] at h1
  obtain ⟨k, rfl⟩ : ∃ k : Nat, x = k := ⟨x.toNat, by omega⟩
  have h2 : n.left.testBit k = true := h1.2
  have hk : k < 8 := by omega
  unfold TNd.left at h2
  rw [testBit_wo (wo_lt _ _ h.todo) h.asl, testBit_wo h.todo h.gone] at h2
  simp only [Bool.and_eq_true, Bool.not_eq_true'] at h2
  rw [hasB_nat _ hk, hasB_nat _ hk, hasB_nat _ hk]
  exact ⟨h2.1.2, h2.2, h2.1.1⟩

end Go.Proofs.Ytkphdmfcmfojeaa
