/- The contract of foata's Levels. -/
import Derived.Test.YtljlaopjimkcmaaLvPut
namespace Go.Proofs.Ytljlaopjimkcmaa
open Go.RowKit

theorem box_kept {w w' : World} {B g n m : Nat} {t : TypeId} {v : Value} {e : Ev} {xs : List Value} (h : EvBox w g e) (ho : w.ownsRow B t n v m xs) (hne : t ≠ 39) (hg : w.grownBy w' v.ownBlock) : EvBox w' g e := by
  refine (hg.block g h.lt fun e' => ?_).trans h
  obtain ⟨_, ⟨rfl, _⟩ | ⟨b, cap, cur, rfl, _, hb, _⟩⟩ := ho
  · cases e'
  · injection e' with e'
    have e2 : g = b := e'
    subst e2
    rw [show w.heap[g]? = _ from h] at hb
    injection hb with hb
    injection hb with _ h2
    exact hne h2.symm

/-- Levels that a call answers. -/
def LvR (B : Nat) (w : World) (m : List (List Ev)) (r : Ending) (w' : World) : Prop := ∃ v ss, r = .returned v ∧ OwnLv w' B v ss m ∧ Below B w w'

set_option maxRecDepth 100000 in
set_option maxHeartbeats 4000000 in
theorem levels_any (a : Option Addr) (cap : Nat) (l : List Ev) (w : World) (hl : EvsAt w a l) :
    Calls Try.prog 6 #[.slice a l.length cap] w (LvR w.heap.size w (levelsF l)) := by
  have hm := hl.1
  unfold maxLen at hm
  have HL := Lib.hid hl
  have HRC := Lib.hid (fRight_any a cap l w hl)
  clear hl
  cases hr : rightF l
  · have HE : Hid (levelsF l = []) := by show _ = _; unfold levelsF; rw [hr]; rfl
    rw [hr] at HRC
    clear hr
    go_enter Try.func6, Try.ntmps6
    go_wp2_with fail
    refine HRC.out.mono ?_
    rintro r w1 ⟨rfl, hb1⟩
    clear HRC
    go_wp2
    go_ret
    exact ⟨_, [], rfl, by rw [HE.out]; exact ownLv_nil _ _, hb1⟩
  have h200 : l.length ≤ 200 := by unfold rightF at hr; simp at hr; exact hr.1
  have HE : Hid (levelsF l = lvls l) := by show _ = _; unfold levelsF; rw [hr]; rfl
  rw [hr] at HRC
  clear hr
  go_enter Try.func6, Try.ntmps6
  go_wp2_with fail
  refine HRC.out.mono ?_
  rintro r w1 ⟨rfl, hb1⟩
  clear HRC
  go_wp2_with fail
  go_loopw [3, 12] (fun v i wr => ∃ (k : Nat) (ss : List Sl), k ≤ l.length ∧ i = .int .i64 k ∧ Hid (OwnLv wr w.heap.size v ss (lvls (l.take k))) ∧ Hid (Below w.heap.size w wr)) (fun _ i _ => l.length - (intOf i).toNat)
  case atStart => exact ⟨0, [], Nat.zero_le _, rfl, ownLv_nil _ _, hb1⟩
  case round =>
    clear hb1
    obtain ⟨k, ss, hk, rfl, HV, HB⟩ := hrel
    by_cases hlt : k < l.length
    · obtain ⟨b, o, rfl, t0, t1, t2, t3⟩ := HL.out.one hlt
      have d0 := cell_later HB.out t0
      have d1 := cell_later HB.out t1
      have d2 := cell_later HB.out t2
      have d3 := cell_later HB.out t3
      have HT : Hid (lvls (l.take (k + 1)) = addL (lvls (l.take k)) (evI l k)) := by
        show _ = _
        rw [← lvls_snoc, evI_get hlt, List.take_add_one, List.getElem?_eq_getElem hlt]
        rfl
      have hmk : (lvls (l.take k)).length ≤ k := by have := lv_count (l.take k); rw [List.length_take] at this; omega
      have HS : Hid (∀ i, ((lvls (l.take k)).getD i []).length ≤ 200) := fun i => by have := lv_small (l.take k) i; rw [List.length_take] at this; omega
      obtain ⟨a2, cap2, rfl, hat, hca⟩ := OwnLv.form HV.out (by omega) (fun i _ => by have := HS.out i; omega)
      have HAT := Lib.hid hat
      clear t0 t1 t2 t3 hat hca
      generalize lvls (l.take k) = m at *
      generalize evI l k = e at *
      go_wp2_with fail
      have hba := below_alloc1 wr (.cells #[.int .i64 e.thread, .int .i64 e.kind, .int .i64 e.obj, .bool e.fail] 39)
      have HBX := Lib.hid (EvBox.new wr e)
      generalize wr.alloc (.cells #[.int .i64 e.thread, .int .i64 e.kind, .int .i64 e.obj, .bool e.fail] 39) = W0 at *
      refine (levelOf_any a2 cap2 m e W0 (HAT.out.later hba) (by omega)).mono ?_
      rintro r W1 ⟨rfl, hb2⟩
      have hb3 := hba.trans (hb2.mono hba.size)
      have HV1 := Lib.hid (HV.out.later hb3)
      have HB1 := Lib.hid (HB.out.trans (hb3.mono HB.out.size))
      have HX1 := Lib.hid (HBX.out.later hb2)
      have hle := lvN_le m e
      have HA := Lib.hid (addL_ext m e)
      have HO : Hid (∀ x ∈ m.getD (lvN m e) [], x.thread ≠ e.thread) := fun x hx => lv_other hx
      have hbx0 : wr.heap.size < W1.heap.size := HX1.out.lt
      have hsz1 : wr.heap.size ≤ W1.heap.size := by omega
      clear HV HB HAT HBX hba hb2 hb3 d0 d1 d2 d3
      generalize lvN m e = n at *
      go_upto_if 22 with (fail)
      go_cut [3] (fun s3 wx => ∃ (g N cap3 : Nat) (ss2 : List Sl), s3 = .slice (some ⟨g, 0, none⟩) N cap3 ∧ n < N ∧ N ≤ 300 ∧ Hid (N = (extL m n).length ∧ OwnLv wx w.heap.size s3 ss2 (extL m n)) ∧ Hid (EvBox wx wr.heap.size e) ∧ Hid (Below w.heap.size w wx))
      case first =>
        by_cases hnm : n < m.length
        · have hq : ((n : Int) == (m.length : Int)) = false := by simp; omega
          have HEX : Hid (extL m n = m) := by show _ = _; unfold extL; rw [if_pos hnm]
          obtain ⟨g, capg, hv, _, _⟩ := OwnRow.block HV1.out.outer (by intro e; have := HV1.out.len; rw [e] at this; simp at this; omega)
          injection hv with hv1 hv2 hv3
          subst hv1
          clear hv2 hv3
          go_wp2_with fail
          go_meet
          exact ⟨g, m.length, cap2, ss, rfl, hnm, by omega, ⟨by rw [HEX.out], by rw [HEX.out]; exact HV1.out⟩, HX1.out, HB1.out⟩
        · have hnm2 : n = m.length := by omega
          have hq : ((n : Int) == (m.length : Int)) = true := by simp; omega
          have HEX : Hid (extL m n = m ++ [[]]) := by show _ = _; unfold extL; rw [if_neg hnm]
          have HN2 := Lib.hid hnm2
          have hB2 : w.heap.size ≤ W1.heap.size := HB1.out.size
          have hss : ss.length ≤ 1000 := by have := HV1.out.len; omega
          clear hnm hnm2
          go_wp2_with (at_builtin; refine wp_appendR (f := slCell) (n := 1) 24 22 24 (.slice none 0 0) Try.underlying24 infoSl rfl (by omega) (by omega) slCell_len rfl _ _ rfl w.heap.size _ ss rfl (HV1.out.outer.alloc _) ⟨W1.heap.size, 0, none⟩ rfl ⟨none, 0, 0⟩ (slCell_one _) (cells_new W1 (slCell ⟨none, 0, 0⟩) _ _ rfl) (by omega) (by simp; omega) ?_; intro v' w' h1 h2 h3; obtain ⟨g, capg, hv, _, _⟩ := OwnRow.block h1 (by simp); rw [List.length_append, List.length_singleton] at hv; subst hv)
          go_meet
          have hb4 : Below w.heap.size W1 w' := (below_alloc1 W1 _).mono hB2 |>.trans h2
          have hv4 : OwnLv w' w.heap.size (.slice (some ⟨g, 0, none⟩) (ss.length + 1) capg) (ss ++ [⟨none, 0, 0⟩]) (m ++ [[]]) := OwnLv.more (HV1.out.later (below_alloc1 W1 _)) h1 h3
          exact ⟨g, ss.length + 1, capg, _, rfl, by have := HV1.out.len; have := HN2.out; omega, by have := HV1.out.len; omega, ⟨by rw [HEX.out]; simp [HV1.out.len], by rw [HEX.out]; exact hv4⟩, box_kept (HX1.out.later (below_alloc1 W1 _)) (HV1.out.outer.alloc _) tyNe h3, HB1.out.trans hb4⟩
      case rest =>
        obtain ⟨g, N, cap3, ss2, rfl, hnN, hN300, HW, HXc, HBc⟩ := hcut
        have hn2 : n < ss2.length := by rw [HW.out.2.len, ← HW.out.1]; exact hnN
        have hB2 : w.heap.size ≤ wc.heap.size := HBc.out.size
        have x0 := OwnLv.cell HW.out.2 HW.out.1 hn2
        obtain ⟨c0, c1, c2, c3⟩ := HXc.out.cells
        have hni : (n : Int) < (N : Int) := by omega
        have hni0 : (0 : Int) ≤ n := by omega
        have HIN : Hid (OwnE wc w.heap.size (slV ss2[n]) (m.getD n [])) := by
          have h := HW.out.2.inner n hn2
          rw [extL_get] at h
          exact h
        have HCALL : Hid (∀ W, Below wc.heap.size wc W → Calls Try.prog 20 #[.slice ss2[n].a ss2[n].n ss2[n].c, .agg #[.int .i64 e.thread, .int .i64 e.kind, .int .i64 e.obj, .bool e.fail]] W fun r w' =>
            ∃ s' : Sl, r = .returned (.slice s'.a s'.n s'.c) ∧ Below w.heap.size w w' ∧ (∃ old, w'.cell? ⟨g, n, none⟩ = some old) ∧ w'.frozen? ⟨g, n, none⟩ = false ∧ OwnLv (w'.setCell ⟨g, n, none⟩ (.slice s'.a s'.n s'.c)) w.heap.size (.slice (some ⟨g, 0, none⟩) N cap3) (ss2.set n s') (addL m e)) := fun W hW => by
          refine (lay_any w.heap.size (slV ss2[n]) (m.getD n []) e W (Nat.le_trans hB2 hW.size) (by have := HS.out n; omega) (HIN.out.later hW) HO.out).mono ?_
          rintro r w' ⟨v', rfl, h2, h3, h4, h5⟩
          obtain ⟨a', cap', hv', _⟩ := OwnE.form h2 (by rw [insE_length]; have := HS.out n; omega)
          subst hv'
          obtain ⟨p1, p2, p3⟩ := OwnLv.put (HW.out.2) HW.out.1 hnN hn2 (s' := ⟨a', (insE e (m.getD n [])).length, cap'⟩) h2 ((grown_below hW _).trans h4) (fun b hb => (h5 b hb).imp id (fun h => Nat.le_trans hW.size h))
          rw [HA.out, extL_get]
          exact ⟨⟨a', _, cap'⟩, rfl, HBc.out.trans ((hW.mono hB2).trans h3), Option.isSome_iff_exists.1 p2, p3, p1⟩
        clear HIN
        go_wp2_with fail
        go_region_with ((go_simp; go_at_call 20; refine (HCALL.out _ (Below.refl _ _).drew).mono ?_; rintro r w3 ⟨s', rfl, q1, ⟨old, q2⟩, q3, q4⟩; have HQ4 := Lib.hid q4; have HQ1 := Lib.hid q1; clear q1 q4))
        all_goals
          have HVN : Hid (OwnLv (w3.setCell ⟨g, n, none⟩ (.slice s'.a s'.n s'.c)) w.heap.size (.slice (some ⟨g, 0, none⟩) N cap3) (ss2.set n s') (lvls (l.take (k + 1)))) := by
            show OwnLv _ _ _ _ _
            rw [HT.out]
            exact HQ4.out
          have hgB : w.heap.size ≤ g := by
            obtain ⟨_, ⟨h2, _⟩ | ⟨b', cap', cur, h2, h3, _⟩⟩ := HW.out.2.outer
            · cases h2
            · injection h2 with h2
              injection h2 with h2
              injection h2 with h2
              rw [h2]; exact h3
          go_wp2
          go_roundw
          case rel => exact ⟨k + 1, _, by omega, by go_num, HVN, (HQ1.out).setCell (p := ⟨g, n, none⟩) hgB _⟩
          case measure => simp [intOf]; omega
    · obtain rfl : k = l.length := by omega
      have HV2 := HV.out
      rw [List.take_length, ← HE.out] at HV2
      have HV3 := Lib.hid HV2
      clear HV2 HV
      go_wp2
      go_ret
      exact ⟨_, ss, rfl, HV3.out, HB.out⟩

end Go.Proofs.Ytljlaopjimkcmaa
