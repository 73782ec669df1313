import Derived.Lib.AppendStr
import Derived.Laws.StructEq
import Derived.StillTailTactics
import Derived.Sort.KeysCollected
import Derived.Deep.RegionHeld3
import Derived.Test.YtnldkmcijmbhcaaGreatPk01
import Derived.Test.YtnldkmcijmbhcaaGreatPk02
import Derived.Test.YtnldkmcijmbhcaaGreatPk03
import Derived.Test.YtnldkmcijmbhcaaGreatPk04
import Derived.Test.YtnldkmcijmbhcaaGreatPk05

/- The contract of foata's Levels. -/
namespace Go.Proofs.YtnldkmcijmbhcaaGreat
open Go.RowKit

theorem box_kept {w w' : World} {B g n m : Nat} {t : TypeId} {v : Value} {e : Ev} {xs : List Value} (h : EvBox w g e) (ho : w.ownsRow B t n v m xs) (hne : t ≠ 81) (hg : w.grownBy w' v.ownBlock) : EvBox w' g e := by
  refine (hg.block g h.lt fun e' => ?_).trans h
  obtain ⟨_, ⟨rfl, _⟩ | ⟨b, cap, cur, rfl, _, hb, _⟩⟩ := ho
  · cases e'
  · injection e' with e'
    have e2 : g = b := e'
    subst e2
    rw [show w.heap[g]? = _ from h] at hb
    injection hb with hb
    injection hb with _ h2
    exact hne h2.symm

/-- Levels that a call answers. -/
def LvR (B : Nat) (w : World) (m : List (List Ev)) (r : Ending) (w' : World) : Prop := ∃ v ss, r = .returned v ∧ OwnLv w' B v ss m ∧ Below B w w'

set_option maxRecDepth 100000 in
set_option maxHeartbeats 4000000 in
theorem levels_any (a : Option Addr) (cap : Nat) (l : List Ev) (w : World) (hl : EvsAt w a l) :
    Calls Tryz.prog 65 #[.slice a l.length cap] w (LvR w.heap.size w (levelsF l)) := by
  have hm := hl.1
  unfold maxLen at hm
  have HL := Lib.hid hl
  have HRC := Lib.hid (fRight_any a cap l w hl)
  clear hl
  cases hr : rightF l
  · have HE : Hid (levelsF l = []) := by show _ = _; unfold levelsF; rw [hr]; rfl
    rw [hr] at HRC
    clear hr
    go_enter Tryz.func65, Tryz.ntmps65
    go_wp2_with fail
    refine HRC.out.mono ?_
    rintro r w1 ⟨rfl, hb1⟩
    clear HRC
    go_wp2
    go_ret
    exact ⟨_, [], rfl, by rw [HE.out]; exact ownLv_nil _ _, hb1⟩
  have h200 : l.length ≤ 200 := by unfold rightF at hr; simp at hr; exact hr.1
  have HE : Hid (levelsF l = lvls l) := by show _ = _; unfold levelsF; rw [hr]; rfl
  rw [hr] at HRC
  clear hr
  go_enter Tryz.func65, Tryz.ntmps65
  go_wp2_with fail
  refine HRC.out.mono ?_
  rintro r w1 ⟨rfl, hb1⟩
  clear HRC
  go_wp2_with fail
  go_loopw [3, 12] (fun v i wr => ∃ (k : Nat) (ss : List Sl), k ≤ l.length ∧ i = .int .i64 k ∧ Hid (OwnLv wr w.heap.size v ss (lvls (l.take k))) ∧ Hid (Below w.heap.size w wr)) (fun _ i _ => l.length - (intOf i).toNat)
  case atStart => exact ⟨0, [], Nat.zero_le _, rfl, ownLv_nil _ _, hb1⟩
  case round =>
    clear hb1
    obtain ⟨k, ss, hk, rfl, HV, HB⟩ := hrel
    by_cases hlt : k < l.length
    · obtain ⟨b, o, rfl, t0, t1, t2, t3⟩ := HL.out.one hlt
      have d0 := cell_later HB.out t0
      have d1 := cell_later HB.out t1
      have d2 := cell_later HB.out t2
      have d3 := cell_later HB.out t3
      have HT : Hid (lvls (l.take (k + 1)) = addL (lvls (l.take k)) (evI l k)) := by
        show _ = _
        rw [← lvls_snoc, evI_get hlt, List.take_add_one, List.getElem?_eq_getElem hlt]
        rfl
      have hmk : (lvls (l.take k)).length ≤ k := by have := lv_count (l.take k); rw [List.length_take] at this; omega
      have HS : Hid (∀ i, ((lvls (l.take k)).getD i []).length ≤ 200) := fun i => by have := lv_small (l.take k) i; rw [List.length_take] at this; omega
      obtain ⟨a2, cap2, rfl, hat, hca⟩ := OwnLv.form HV.out (by omega) (fun i _ => by have := HS.out i; omega)
      have HAT := Lib.hid hat
      clear t0 t1 t2 t3 hat hca
      generalize lvls (l.take k) = m at *
      generalize evI l k = e at *
      go_wp2_with fail
      have hba := below_alloc1 wr (.cells #[.int .i64 e.thread, .int .i64 e.kind, .int .i64 e.obj, .bool e.fail] 81)
      have HBX := Lib.hid (EvBox.new wr e)
      generalize wr.alloc (.cells #[.int .i64 e.thread, .int .i64 e.kind, .int .i64 e.obj, .bool e.fail] 81) = W0 at *
      refine (levelOf_any a2 cap2 m e W0 (HAT.out.later hba) (by omega)).mono ?_
      rintro r W1 ⟨rfl, hb2⟩
      have hb3 := hba.trans (hb2.mono hba.size)
      have HV1 := Lib.hid (HV.out.later hb3)
      have HB1 := Lib.hid (HB.out.trans (hb3.mono HB.out.size))
      have HX1 := Lib.hid (HBX.out.later hb2)
      have hle := lvN_le m e
      have HA := Lib.hid (addL_ext m e)
      have HO : Hid (∀ x ∈ m.getD (lvN m e) [], x.thread ≠ e.thread) := fun x hx => lv_other hx
      have hbx0 : wr.heap.size < W1.heap.size := HX1.out.lt
      have hsz1 : wr.heap.size ≤ W1.heap.size := by omega
      clear HV HB HAT HBX hba hb2 hb3 d0 d1 d2 d3
      generalize lvN m e = n at *
      go_upto_if 22 with (fail)
      go_cut [3] (fun s3 wx => ∃ (g N cap3 : Nat) (ss2 : List Sl), s3 = .slice (some ⟨g, 0, none⟩) N cap3 ∧ n < N ∧ N ≤ 300 ∧ Hid (N = (extL m n).length ∧ OwnLv wx w.heap.size s3 ss2 (extL m n)) ∧ Hid (EvBox wx wr.heap.size e) ∧ Hid (Below w.heap.size w wx))
      case first =>
        by_cases hnm : n < m.length
        · have hq : ((n : Int) == (m.length : Int)) = false := by simp; omega
          have HEX : Hid (extL m n = m) := by show _ = _; unfold extL; rw [if_pos hnm]
          obtain ⟨g, capg, hv, _, _⟩ := OwnRow.block HV1.out.outer (by intro e; have := HV1.out.len; rw [e] at this; simp at this; omega)
          injection hv with hv1 hv2 hv3
          subst hv1
          clear hv2 hv3
          go_wp2_with fail
          go_meet
          exact ⟨g, m.length, cap2, ss, rfl, hnm, by omega, ⟨by rw [HEX.out], by rw [HEX.out]; exact HV1.out⟩, HX1.out, HB1.out⟩
        · have hnm2 : n = m.length := by omega
          have hq : ((n : Int) == (m.length : Int)) = true := by simp; omega
          have HEX : Hid (extL m n = m ++ [[]]) := by show _ = _; unfold extL; rw [if_neg hnm]
          have HN2 := Lib.hid hnm2
          have hB2 : w.heap.size ≤ W1.heap.size := HB1.out.size
          have hss : ss.length ≤ 1000 := by have := HV1.out.len; omega
          clear hnm hnm2
          go_wp2_with (at_builtin; refine wp_appendR (f := slCell) (n := 1) 114 57 24 (.slice none 0 0) Tryz.underlying114 infoSl rfl (by omega) (by omega) slCell_len rfl _ _ rfl w.heap.size _ ss rfl (HV1.out.outer.alloc _) ⟨W1.heap.size, 0, none⟩ rfl ⟨none, 0, 0⟩ (slCell_one _) (cells_new W1 (slCell ⟨none, 0, 0⟩) _ _ rfl) (by omega) (by simp; omega) ?_; intro v' w' h1 h2 h3; obtain ⟨g, capg, hv, _, _⟩ := OwnRow.block h1 (by simp); rw [List.length_append, List.length_singleton] at hv; subst hv)
          go_meet
          have hb4 : Below w.heap.size W1 w' := (below_alloc1 W1 _).mono hB2 |>.trans h2
          have hv4 : OwnLv w' w.heap.size (.slice (some ⟨g, 0, none⟩) (ss.length + 1) capg) (ss ++ [⟨none, 0, 0⟩]) (m ++ [[]]) := OwnLv.more (HV1.out.later (below_alloc1 W1 _)) h1 h3
          exact ⟨g, ss.length + 1, capg, _, rfl, by have := HV1.out.len; have := HN2.out; omega, by have := HV1.out.len; omega, ⟨by rw [HEX.out]; simp [HV1.out.len], by rw [HEX.out]; exact hv4⟩, box_kept (HX1.out.later (below_alloc1 W1 _)) (HV1.out.outer.alloc _) tyNe h3, HB1.out.trans hb4⟩
      case rest =>
        obtain ⟨g, N, cap3, ss2, rfl, hnN, hN300, HW, HXc, HBc⟩ := hcut
        have hn2 : n < ss2.length := by rw [HW.out.2.len, ← HW.out.1]; exact hnN
        have hB2 : w.heap.size ≤ wc.heap.size := HBc.out.size
        have x0 := OwnLv.cell HW.out.2 HW.out.1 hn2
        obtain ⟨c0, c1, c2, c3⟩ := HXc.out.cells
        have hni : (n : Int) < (N : Int) := by omega
        have hni0 : (0 : Int) ≤ n := by omega
        have HIN : Hid (OwnE wc w.heap.size (slV ss2[n]) (m.getD n [])) := by
          have h := HW.out.2.inner n hn2
          rw [extL_get] at h
          exact h
        have HCALL : Hid (∀ W, Below wc.heap.size wc W → Calls Tryz.prog 102 #[.slice ss2[n].a ss2[n].n ss2[n].c, .agg #[.int .i64 e.thread, .int .i64 e.kind, .int .i64 e.obj, .bool e.fail]] W fun r w' =>
            ∃ s' : Sl, r = .returned (.slice s'.a s'.n s'.c) ∧ Below w.heap.size w w' ∧ (∃ old, w'.cell? ⟨g, n, none⟩ = some old) ∧ w'.frozen? ⟨g, n, none⟩ = false ∧ OwnLv (w'.setCell ⟨g, n, none⟩ (.slice s'.a s'.n s'.c)) w.heap.size (.slice (some ⟨g, 0, none⟩) N cap3) (ss2.set n s') (addL m e)) := fun W hW => by
          refine (lay_any w.heap.size (slV ss2[n]) (m.getD n []) e W (Nat.le_trans hB2 hW.size) (by have := HS.out n; omega) (HIN.out.later hW) HO.out).mono ?_
          rintro r w' ⟨v', rfl, h2, h3, h4, h5⟩
          obtain ⟨a', cap', hv', _⟩ := OwnE.form h2 (by rw [insE_length]; have := HS.out n; omega)
          subst hv'
          obtain ⟨p1, p2, p3⟩ := OwnLv.put (HW.out.2) HW.out.1 hnN hn2 (s' := ⟨a', (insE e (m.getD n [])).length, cap'⟩) h2 ((grown_below hW _).trans h4) (fun b hb => (h5 b hb).imp id (fun h => Nat.le_trans hW.size h))
          rw [HA.out, extL_get]
          exact ⟨⟨a', _, cap'⟩, rfl, HBc.out.trans ((hW.mono hB2).trans h3), Option.isSome_iff_exists.1 p2, p3, p1⟩
        clear HIN
        go_wp2_with fail
        go_region_with ((go_simp; go_at_call 102; refine (HCALL.out _ (Below.refl _ _).drew).mono ?_; rintro r w3 ⟨s', rfl, q1, ⟨old, q2⟩, q3, q4⟩; have HQ4 := Lib.hid q4; have HQ1 := Lib.hid q1; clear q1 q4))
        all_goals
          have HVN : Hid (OwnLv (w3.setCell ⟨g, n, none⟩ (.slice s'.a s'.n s'.c)) w.heap.size (.slice (some ⟨g, 0, none⟩) N cap3) (ss2.set n s') (lvls (l.take (k + 1)))) := by
            show OwnLv _ _ _ _ _
            rw [HT.out]
            exact HQ4.out
          have hgB : w.heap.size ≤ g := by
            obtain ⟨_, ⟨h2, _⟩ | ⟨b', cap', cur, h2, h3, _⟩⟩ := HW.out.2.outer
            · cases h2
            · injection h2 with h2
              injection h2 with h2
              injection h2 with h2
              rw [h2]; exact h3
          go_wp2
          go_roundw
          case rel => exact ⟨k + 1, _, by omega, by go_num, HVN, (HQ1.out).setCell (p := ⟨g, n, none⟩) hgB _⟩
          case measure => simp [intOf]; omega
    · obtain rfl : k = l.length := by omega
      have HV2 := HV.out
      rw [List.take_length, ← HE.out] at HV2
      have HV3 := Lib.hid HV2
      clear HV2 HV
      go_wp2
      go_ret
      exact ⟨_, ss, rfl, HV3.out, HB.out⟩

end Go.Proofs.YtnldkmcijmbhcaaGreat

/- The contracts of event's Print and Threads. -/
namespace Go.Proofs.YtnldkmcijmbhcaaGreat
open Go.RowKit

theorem run_bstr_mid {w : World} {g n c : Nat} {ns : List Int} (h : MidAt w g 5 (ns.map (Value.int .u8))) (hn : n = ns.length) : (convert 25 9 (.slice (some ⟨g, 0, none⟩) n c)).run Tryz.prog w = .ok (.string (bstr ns)) w := by
  subst hn
  rw [run_convert_bytes_string w _ _ 5 _ _ _ Tryz.underlying25 Tryz.underlying5 Tryz.underlying9]
  have hl := run_loadCells_list (P := Tryz.prog) w ⟨g, 0, none⟩ (ns.map (Value.int .u8)) (fun j u hj => by
    have e : Addr.add ⟨g, 0, none⟩ j = ⟨g, j, none⟩ := by
      unfold Addr.add
      split
      · rename_i h0; subst h0; rfl
      · simp
    rw [e, h.cell]
    exact hj)
  rw [List.length_map] at hl
  rw [run_bytesToString w _ _ _ ns hl, foldl_bstr]
  have e : ByteArray.empty.data = #[] := rfl
  rw [e, Array.empty_append]
  rfl

theorem ret_str {a b : ByteArray} (h : a = b) : Ending.returned (.string a) = .returned (.string b) := by rw [h]

set_option maxRecDepth 100000 in
set_option maxHeartbeats 1000000 in
theorem evPrint_any (a : Option Addr) (cap : Nat) (l : List Ev) (w : World) (hl : EvsAt w a l) (hm : l.length ≤ 1000000) :
    Calls Tryz.prog 100 #[.slice a l.length cap] w fun r w' => r = .returned (.string (bstr (printE l))) ∧ Below w.heap.size w w' := by
  have hmk := run_make_k (P := Tryz.prog) 25 5 (.int .u8 0) 1 1 Tryz.underlying25 (by kernel_rfl) l.length (by omega) (by omega)
  have HL := Lib.hid hl
  clear hl
  go_enter Tryz.func100, Tryz.ntmps100
  go_wp2
  go_loopw [11] (fun i wr => ∃ k : Nat, k ≤ l.length ∧ i = .int .i64 k ∧ Hid ((l.take k).all rightEv = true) ∧ Hid (MidAt wr w.heap.size 5 (fill (fun e => .int .u8 (evB e)) (.int .u8 0) l k)) ∧ Below w.heap.size w wr) (fun i _ => l.length - (intOf i).toNat)
  case atStart =>
    refine ⟨0, Nat.zero_le _, rfl, rfl, ?_, below_alloc1 _ _⟩
    show MidAt _ _ _ _
    rw [fill_zero]
    have := MidAt.made w 5 (.int .u8 0) l.length
    simpa using this
  case round =>
    clear hmk
    obtain ⟨k, hk, rfl, HA, HM, hb⟩ := hrel
    by_cases hlt : k < l.length
    · obtain ⟨b, o, rfl, hc⟩ := HL.out.2 (by intro e; simp [e] at hlt)
      obtain ⟨c0, c1, c2, c3⟩ := hc k hlt
      have d0 := cell_later hb c0
      have d1 := cell_later hb c1
      have d2 := cell_later hb c2
      have d3 := cell_later hb c3
      have hz := HM.out.lt
      clear hc c0 c1 c2 c3
      have HT := Lib.hid (List.take_succ_eq_append_getElem hlt : l.take (k + 1) = l.take k ++ [l[k]])
      have HS := Lib.hid (fill_set (fun e => .int .u8 (evB e)) (.int .u8 0) l k hlt)
      have HX := Lib.hid (List.getElem_mem hlt)
      have HB1 := Lib.hid (EvBox.new wr l[k])
      have HM1 := Lib.hid (HM.out.later (below_alloc1 wr (.cells #[.int .i64 l[k].thread, .int .i64 l[k].kind, .int .i64 l[k].obj, .bool l[k].fail] 81)))
      have hb1 : Below w.heap.size w (wr.alloc (.cells #[.int .i64 l[k].thread, .int .i64 l[k].kind, .int .i64 l[k].obj, .bool l[k].fail] 81)) := hb.alloc hb.size _
      clear HM
      generalize l[k] = x at *
      go_wp2_with fail
      generalize wr.alloc (.cells #[.int .i64 x.thread, .int .i64 x.kind, .int .i64 x.obj, .bool x.fail] 81) = W1 at *
      generalize wr.heap.size = E at *
      clear d0 d1 d2 d3
      refine (evRight_any x _).mono ?_
      rintro r w2 ⟨rfl, hb2⟩
      have HB2 := Lib.hid (HB1.out.later hb2)
      have HM2 := Lib.hid (HM1.out.later hb2)
      have hw2 : Below w.heap.size w w2 := hb1.trans (hb2.mono hb1.size)
      clear HB1 HM1 hb1 hb2 hb
      obtain ⟨x0, x1, x2, x3⟩ := HB2.out.cells
      have lx := HB2.out.lt
      cases hr : rightEv x
      · have HR : Hid (printE l = []) := by
          show _ = _
          unfold printE
          rw [if_neg]
          intro h
          rw [List.all_eq_true] at h
          rw [h x HX.out] at hr
          cases hr
        clear hr HB2
        go_wp2
        go_ret
        exact ⟨ret_str (by rw [HR.out]; rfl), hw2⟩
      · have HR := Lib.hid hr
        clear hr
        go_wp2_with fail
        refine (toByte_any x HR.out _).mono ?_
        rintro r w3 ⟨rfl, hb3⟩
        have HM3 := Lib.hid (HM2.out.later hb3)
        have hw3 : Below w.heap.size w w3 := hw2.trans (hb3.mono hw2.size)
        have hf3 := HM3.out.frozen k
        have hc3 := HM3.out.cell k
        obtain ⟨y, hy⟩ : ∃ y, (fill (fun e => .int .u8 (evB e)) (.int .u8 0) l k)[k]? = some y := ⟨_, List.getElem?_eq_getElem (by rw [fill_length _ _ _ _ hk]; exact hlt)⟩
        rw [hy] at hc3
        have HM4 := Lib.hid (HM3.out.set k (.int .u8 (evB x)))
        rw [HS.out] at HM4
        have hb4 := hw3.setCell (p := ⟨w.heap.size, k, none⟩) (Nat.le_refl _) (.int .u8 (evB x))
        clear hy HM2 HM3 HB2 x0 x1 x2 x3 hb3
        go_wp2
        go_roundw
        case rel => exact ⟨k + 1, by omega, by go_num, (by show _ = _; rw [HT.out, List.all_append, HA.out]; simp [HR.out]), HM4, hb4⟩
        case measure => simp [intOf]; omega
    · obtain rfl : k = l.length := by omega
      have hcv : (convert 25 9 (.slice (some ⟨w.heap.size, 0, none⟩) l.length l.length)).run Tryz.prog wr = .ok (.string (bstr (l.map evB))) wr := by
        have h := HM.out
        rw [fill_all] at h
        refine run_bstr_mid (ns := l.map evB) ?_ (by simp)
        rw [List.map_map]
        exact h
      have HP : Hid (printE l = l.map evB) := by
        show _ = _
        unfold printE
        have h := HA.out
        rw [List.take_length] at h
        rw [if_pos h]
      go_wp2
      go_ret
      exact ⟨ret_str (by rw [HP.out]), hb⟩

end Go.Proofs.YtnldkmcijmbhcaaGreat

/- The contract of foata's spell. -/
namespace Go.Proofs.YtnldkmcijmbhcaaGreat
open Go.RowKit

/-- The bytes of levels. -/
def lvB (row : List Ev) : List Int := (row.length : Int) :: printE row
def spellB (m : List (List Ev)) : List Int := m.flatMap lvB ++ [0]
theorem printE_le (row : List Ev) : (printE row).length ≤ row.length := by
  unfold printE
  split
  · simp
  · simp
theorem printE_bd (row : List Ev) : ∀ n ∈ printE row, 0 ≤ n ∧ n < 256 := by
  intro n hn
  unfold printE at hn
  split at hn
  · rename_i h
    obtain ⟨e, he, rfl⟩ := List.mem_map.1 hn
    exact evB_bd (List.all_eq_true.1 h e he)
  · simp at hn
theorem strCells_bstr (ns : List Int) (h : ∀ n ∈ ns, 0 ≤ n ∧ n < 256) : Lib.strCells (bstr ns) = ns.map (Value.int .u8) := by
  unfold Lib.strCells bstr
  simp only [List.map_map]
  refine List.map_congr_left fun n hn => ?_
  obtain ⟨h0, h1⟩ := h n hn
  simp only [Function.comp]
  congr 1
  have : (UInt8.ofNat n.toNat).toNat = n.toNat := by rw [UInt8.toNat_ofNat']; omega
  rw [this]
  omega
theorem bstr_size (ns : List Int) : (bstr ns).size = ns.length := by
  show (bstr ns).data.size = _
  simp [bstr]
theorem lvB_len (m : List (List Ev)) (k : Nat) : ((m.take k).flatMap lvB).length ≤ k + m.flatten.length := by
  have h : ∀ (m : List (List Ev)), (m.flatMap lvB).length ≤ m.length + m.flatten.length := by
    intro m
    induction m with
    | nil => simp
    | cons r m ih =>
      rw [List.flatMap_cons, List.length_append, List.flatten_cons, List.length_append, List.length_cons]
      have := printE_le r
      have e : (lvB r).length = (printE r).length + 1 := rfl
      omega
  have h1 := h (m.take k)
  have h2 := flat_le m k
  rw [List.length_take] at h1
  omega

set_option maxRecDepth 100000 in
set_option maxHeartbeats 2000000 in
theorem spell_any (a : Option Addr) (cap : Nat) (m : List (List Ev)) (w : World) (hl : LvAt w a m) (hm : m.length ≤ 1000000) (hf : m.flatten.length ≤ 1000000) (h255 : ∀ i, (m.getD i []).length ≤ 255) :
    Calls Tryz.prog 64 #[.slice a m.length cap] w fun r w' => r = .returned (.string (bstr (spellB m))) ∧ Below w.heap.size w w' := by
  have HL := Lib.hid hl
  have HF := Lib.hid hf
  have H255 := Lib.hid h255
  clear hl hf h255
  obtain ⟨i0, hi0, hzz⟩ := Option.map_eq_some_iff.1 (show (Tryz.prog.info? 5).map (fun i => (i.zero, i.size, i.bytes)) = some (some (.int .u8 0), 1, 1) by kernel_rfl)
  simp only [Prod.mk.injEq] at hzz
  obtain ⟨hz0, hzs, hzb⟩ := hzz
  go_enter Tryz.func64, Tryz.ntmps64
  go_wp2
  go_loopw [3, 8] (fun v i wr => ∃ (k : Nat) (ns : List Int), k ≤ m.length ∧ i = .int .i64 k ∧ Hid (ns = (m.take k).flatMap lvB) ∧ ns.length ≤ 2000000 ∧ Hid (OwnB wr w.heap.size v ns) ∧ Hid (Below w.heap.size w wr)) (fun _ i _ => m.length - (intOf i).toNat)
  case atStart => exact ⟨0, [], Nat.zero_le _, rfl, rfl, by simp, World.ownsRow_nil _ _ _ _, Below.refl _ _⟩
  case round =>
    obtain ⟨k, ns, hk, rfl, HN, hnl, HO, HB⟩ := hrel
    by_cases hlt : k < m.length
    · obtain ⟨b, o, sa, sc, rfl, t0, he, hn⟩ := HL.out.one hlt
      have c0 := cell_later HB.out t0
      have HE := Lib.hid he
      have hL := H255.out k
      have HT : Hid ((m.take (k + 1)).flatMap lvB = (m.take k).flatMap lvB ++ ((((m.getD k []).length : Nat) : Int) :: printE (m.getD k []))) := by
        show _ = _
        rw [List.take_add_one, List.getElem?_eq_getElem hlt, List.flatMap_append, getD_lt _ hlt]
        simp [lvB]
      have HLn : Hid (((m.take (k + 1)).flatMap lvB).length ≤ 2000000) := by
        have := lvB_len m (k + 1)
        have := HF.out
        show _ ≤ _
        omega
      have HPL := Lib.hid (printE_le (m.getD k []))
      have HPB := Lib.hid (printE_bd (m.getD k []))
      clear t0 he hn
      generalize m.getD k [] = row at *
      have hw : IntKind.u8.wrap (row.length : Int) = row.length := by
        simp [IntKind.wrap, IntKind.bits, IntKind.signed]
        omega
      have hBB := HB.out.size
      go_wp2_with (at_builtin; refine wp_appendB rfl _ _ rfl w.heap.size _ ns rfl (HO.out.alloc _) ⟨wr.heap.size, 0, none⟩ 1 1 rfl [(row.length : Int)] rfl (bytes_new wr [(row.length : Int)] _ _ rfl) (by omega) (by simp; omega) ?_; intro v1 w4 hown4 hb4)
      have HO4 := Lib.hid hown4
      have hb5 := (HB.out.alloc hBB _).trans hb4
      clear hown4 hb4
      refine (evPrint_any sa sc row w4 (HE.out.later hb5) (by omega)).mono ?_
      rintro r w5 ⟨rfl, hb6⟩
      have HO5 : Hid (w5.ownsRow w.heap.size 5 1 v1 (ns ++ [(row.length : Int)]).length ((ns ++ [(row.length : Int)]).map (Value.int .u8))) := ownsRow_later HO4.out hb6
      have HB5 := Lib.hid (hb5.trans (hb6.mono hb5.size))
      have hBB5 := HB5.out.size
      have hsz : (bstr (printE row)).size = (printE row).length := bstr_size _
      have hpl := HPL.out
      clear hb5 hb6 HO4
      go_wp2_with (at_builtin; refine Lib.wpList_append_own_string _ rfl _ _ 25 9 rfl w.heap.size 5 i0 Tryz.underlying25 Tryz.underlying9 hi0 hz0 hzs hzb _ _ _ rfl HO5.out (bstr (printE row)) rfl (by simp [hsz]; unfold maxLen; omega) (by simp [hsz]; omega) hBB5 ?_; intro v2 w6 h1 h2 _)
      have HB7 : Hid (Below w.heap.size w w6) := HB5.out.trans ((Below.refl _ w5).grown h2 hBB5 (fun k hk => (World.ownsRow.lt HO5.out k hk).1))
      have HO7 : Hid (OwnB w6 w.heap.size v2 (ns ++ [(row.length : Int)] ++ printE row)) := by
        show OwnB _ _ _ _
        unfold OwnB
        rw [strCells_bstr _ HPB.out, hsz] at h1
        rw [List.length_append, List.map_append]
        exact h1
      have HN7 : Hid (ns ++ [(row.length : Int)] ++ printE row = (m.take (k + 1)).flatMap lvB) := by
        show _ = _
        rw [HT.out, HN.out]
        simp
      clear h1 h2
      go_roundw
      case rel => exact ⟨k + 1, ns ++ [(row.length : Int)] ++ printE row, by omega, by go_num, HN7, by rw [HN7.out]; exact HLn.out, HO7, HB7⟩
      case measure => simp [intOf]; omega
    · obtain rfl : k = m.length := by omega
      have HS : Hid (spellB m = ns ++ [0]) := by
        show _ = _
        have h := HN.out
        rw [List.take_length] at h
        unfold spellB
        rw [h]
      have hBB := HB.out.size
      go_wp2_with (at_builtin; refine wp_appendB rfl _ _ rfl w.heap.size _ ns rfl (HO.out.alloc _) ⟨wr.heap.size, 0, none⟩ 1 1 rfl [0] rfl (bytes_new wr [0] _ _ rfl) (by omega) (by simp; omega) ?_; intro v1 w4 hown4 hb4; have hcv := run_bstr hown4 (by simp); have HB4 := Lib.hid ((HB.out.alloc hBB _).trans hb4); clear hown4 hb4)
      go_ret
      exact ⟨ret_str (by rw [HS.out]), HB4.out⟩

end Go.Proofs.YtnldkmcijmbhcaaGreat

/- The contracts of slices.Equal of events, and of slices.EqualFunc of levels with it. -/
namespace Go.Proofs.YtnldkmcijmbhcaaGreat
open Go.RowKit

theorem take_snoc {T : Type} {m m' : List (List T)} {k : Nat} (hk : k < m.length) (hk' : k < m'.length) (h : m.take k = m'.take k) (he : m.getD k [] = m'.getD k []) : m.take (k + 1) = m'.take (k + 1) := by
  rw [List.take_add_one, List.take_add_one, h, List.getElem?_eq_getElem hk, List.getElem?_eq_getElem hk']
  rw [getD_lt _ hk, getD_lt _ hk'] at he
  rw [he]

end Go.Proofs.YtnldkmcijmbhcaaGreat

/- The contracts of foata's Key and Print. -/
namespace Go.Proofs.YtnldkmcijmbhcaaGreat
open Go.RowKit

def keyF (l : List Ev) : List Int := if rightF l then spellB (lvls l) else []
def printF (m : List (List Ev)) : List Int := if levelsF m.flatten = m then spellB m else []
theorem levelsF_len (l : List Ev) : (levelsF l).length ≤ 200 := by
  unfold levelsF
  cases h : rightF l
  · simp
  · simp only [if_pos]
    have := lv_count l
    unfold rightF at h
    simp at h
    omega
theorem levelsF_row (l : List Ev) (i : Nat) : ((levelsF l).getD i []).length ≤ 200 := by
  unfold levelsF
  cases h : rightF l
  · simp [List.getD]
  · simp only [if_pos]
    have := lv_small l i
    unfold rightF at h
    simp at h
    omega
theorem levelsF_flat (l : List Ev) : (levelsF l).flatten.length ≤ 200 := by
  unfold levelsF
  cases h : rightF l
  · simp
  · simp only [if_pos]
    have := lvls_count l
    unfold rightF at h
    simp at h
    omega
theorem OwnLv.formF {w : World} {B : Nat} {v : Value} {ss : List Sl} {l : List Ev} (h : OwnLv w B v ss (levelsF l)) : ∃ a cap, v = .slice a (levelsF l).length cap ∧ LvAt w a (levelsF l) ∧ (a = none → cap = 0) :=
  OwnLv.form h (by have := levelsF_len l; omega) (fun i _ => by have := levelsF_row l i; omega)

set_option maxRecDepth 100000 in
set_option maxHeartbeats 2000000 in
theorem key_any (a : Option Addr) (cap : Nat) (l : List Ev) (w : World) (hl : EvsAt w a l) :
    Calls Tryz.prog 41 #[.slice a l.length cap] w fun r w' => r = .returned (.string (bstr (keyF l))) ∧ Below w.heap.size w w' := by
  have HRC := Lib.hid (fRight_any a cap l w hl)
  have HL := Lib.hid hl
  clear hl
  cases hr : rightF l
  · have HE : Hid (keyF l = []) := by show _ = _; unfold keyF; rw [hr]; rfl
    rw [hr] at HRC
    clear hr
    go_enter Tryz.func41, Tryz.ntmps41
    go_wp2_with fail
    refine HRC.out.mono ?_
    rintro r w1 ⟨rfl, hb1⟩
    clear HRC
    go_wp2
    go_ret
    exact ⟨ret_str (by rw [HE.out]; rfl), hb1⟩
  · have HE : Hid (keyF l = spellB (levelsF l)) := by show _ = _; unfold keyF levelsF; rw [hr]; rfl
    rw [hr] at HRC
    clear hr
    go_enter Tryz.func41, Tryz.ntmps41
    go_wp2_with fail
    refine HRC.out.mono ?_
    rintro r w1 ⟨rfl, hb1⟩
    clear HRC
    go_wp2_with fail
    refine (levels_any a cap l w1 (HL.out.later hb1)).mono ?_
    rintro r w2 ⟨v, ss, rfl, hv, hb2⟩
    obtain ⟨a2, cap2, rfl, hat, _⟩ := OwnLv.formF hv
    have HC := Lib.hid (spell_any a2 cap2 (levelsF l) w2 hat (by have := levelsF_len l; omega) (by have := levelsF_flat l; omega) (fun i => by have := levelsF_row l i; omega))
    have hb3 := hb1.trans (hb2.mono hb1.size)
    clear hv hat hb1 hb2
    generalize levelsF l = m at *
    go_wp2_with fail
    refine HC.out.mono ?_
    rintro r w3 ⟨rfl, hb4⟩
    have hb5 := hb3.trans (hb4.mono hb3.size)
    clear HC hb3 hb4
    go_wp2
    go_ret
    exact ⟨ret_str (by rw [HE.out]), hb5⟩

end Go.Proofs.YtnldkmcijmbhcaaGreat

/- The contract of foata's parse. -/
namespace Go.Proofs.YtnldkmcijmbhcaaGreat
open Go.RowKit

/-- At most n levels out of bytes. -/
def parseN : Nat → List UInt8 → List (List Ev)
  | 0, _ => []
  | _ + 1, [] => []
  | n + 1, c :: r => if c.toNat = 0 then [] else readE (r.take c.toNat) :: parseN n (r.drop c.toNat)

/-- A level more, read. -/
theorem OwnLv.push {w w1 w' : World} {B : Nat} {v v' : Value} {ss : List Sl} {m : List (List Ev)} {s : Sl} {es : List Ev} (h : OwnLv w B v ss m) (hb : Below w.heap.size w w1) (hr : OwnE w1 w.heap.size (slV s) es) (hB : B ≤ w.heap.size)
    (ho : OwnRow w' B 57 1 slCell v' (ss ++ [s])) (hg : w1.grownBy w' v.ownBlock) : OwnLv w' B v' (ss ++ [s]) (m ++ [es]) := by
  have h1 := h.later hb
  have hnew : ∀ i (hi : i < ss.length), (slV s).ownBlock = none ∨ (slV s).ownBlock ≠ (slV ss[i]).ownBlock := fun i hi => by
    cases e : (slV s).ownBlock with
    | none => exact .inl rfl
    | some b =>
      right
      intro e2
      have h2 := (World.ownsRow.lt (h.inner i hi) b e2.symm).2
      have h3 := (World.ownsRow.lt hr b e).1
      omega
  have hr' : OwnE w' B (slV s) es := World.ownsRow.kept (ownsRow_base hr hB) hg (rows_apart hr h1.outer (Ne.symm tyNe))
  refine ⟨by simp [h.len], ho, fun i hi => ?_, fun i j hi hj hne => ?_⟩
  · by_cases hlt : i < ss.length
    · have e1 : (ss ++ [s])[i] = ss[i] := List.getElem_append_left hlt
      have e2 : (m ++ [es]).getD i [] = m.getD i [] := by simp [List.getD, List.getElem?_append_left (show i < m.length by rw [← h.len]; exact hlt)]
      rw [e1, e2]
      exact World.ownsRow.kept (h1.inner i hlt) hg (rows_apart (h1.inner i hlt) h1.outer (Ne.symm tyNe))
    · have e0 : i = ss.length := by simp at hi; omega
      subst e0
      have e1 : (ss ++ [s])[ss.length] = s := by simp
      have e2 : (m ++ [es]).getD ss.length [] = es := by rw [h.len]; simp [List.getD]
      rw [e1, e2]
      exact hr'
  · by_cases hlt : i < ss.length
    · have e1 : (ss ++ [s])[i] = ss[i] := List.getElem_append_left hlt
      rw [e1]
      by_cases hlj : j < ss.length
      · have e2 : (ss ++ [s])[j] = ss[j] := List.getElem_append_left hlj
        rw [e2]
        exact h.apart i j hlt hlj hne
      · have e0 : j = ss.length := by simp at hj; omega
        subst e0
        have e2 : (ss ++ [s])[ss.length] = s := by simp
        rw [e2]
        rcases hnew i hlt with h2 | h2
        · cases e3 : (slV ss[i]).ownBlock
          · exact .inl rfl
          · right; rw [h2]; simp
        · exact .inr (fun e => h2 e.symm)
    · have e0 : i = ss.length := by simp at hi; omega
      subst e0
      have e1 : (ss ++ [s])[ss.length] = s := by simp
      rw [e1]
      have hlj : j < ss.length := by simp at hj; omega
      have e2 : (ss ++ [s])[j] = ss[j] := List.getElem_append_left hlj
      rw [e2]
      exact hnew j hlj

end Go.Proofs.YtnldkmcijmbhcaaGreat

/- The contract of foata's Read. -/
namespace Go.Proofs.YtnldkmcijmbhcaaGreat
open Go.RowKit

end Go.Proofs.YtnldkmcijmbhcaaGreat

/- Two rows are the same, plainly, and as a call answers it. -/
namespace Go.Proofs.YtnldkmcijmbhcaaGreat
open Go.RowKit

/-- Two rows are the same, but for an order that doesn't matter. -/
def SameO (a b : List Ev) : Prop := rightL a = true ∧ rightL b = true ∧ Sim a b
theorem in4_of_right {l : List Ev} (h : rightL l = true) : In4 l := by
  intro e he
  unfold rightL at h
  have := rightEv_bd (List.all_eq_true.1 h e he)
  omega
theorem SameO.len {a b : List Ev} (h : SameO a b) : a.length = b.length := h.2.2.len (in4_of_right h.1) (in4_of_right h.2.1)
end Go.Proofs.YtnldkmcijmbhcaaGreat

/- Keys, plainly: bytes are read as they were printed, and two rows have one key just if they are the same. -/
namespace Go.Proofs.YtnldkmcijmbhcaaGreat
open Go.RowKit

/-- Numbers as bytes. -/
def u8s (ns : List Int) : List UInt8 := ns.map fun n => UInt8.ofNat n.toNat
theorem u8s_append (a b : List Int) : u8s (a ++ b) = u8s a ++ u8s b := by simp [u8s]
theorem u8s_length (a : List Int) : (u8s a).length = a.length := by simp [u8s]
/-- Levels whose bytes can be read. -/
def LvFit (m : List (List Ev)) : Prop := ∀ row ∈ m, 1 ≤ row.length ∧ row.length ≤ 255 ∧ row.all rightEv = true
theorem evsOf_u8s {row : List Ev} (h : row.all rightEv = true) : evsOf (u8s (row.map evB)) = row := by
  unfold evsOf u8s
  rw [List.map_map, List.map_map]
  conv => rhs; rw [← List.map_id row]
  refine List.map_congr_left fun e he => ?_
  have hr := List.all_eq_true.1 h e he
  obtain ⟨h0, h1⟩ := evB_bd hr
  simp only [Function.comp, id]
  have e1 : (UInt8.ofNat (evB e).toNat).toNat = (evB e).toNat := by rw [UInt8.toNat_ofNat']; omega
  rw [e1, show (((evB e).toNat : Nat) : Int) = evB e by omega, evOf_evB hr]
theorem printE_right {row : List Ev} (h : row.all rightEv = true) : printE row = row.map evB := by unfold printE; rw [if_pos h]
theorem readE_print {row : List Ev} (h : row.all rightEv = true) : readE (u8s (printE row)) = row := by
  rw [printE_right h]
  have h1 := evsOf_u8s h
  unfold readE readOk
  rw [h1, if_pos h]
theorem parse_spell : ∀ (m : List (List Ev)) (n : Nat), LvFit m → m.length ≤ n → parseN n (u8s (spellB m)) = m
  | [], 0, _, _ => rfl
  | [], n + 1, _, _ => by
    show parseN (n + 1) [0] = []
    unfold parseN
    rfl
  | row :: m, 0, _, h => by simp at h
  | row :: m, n + 1, hf, h => by
    obtain ⟨h1, h2, h3⟩ := hf row (by simp)
    have e1 : u8s (spellB (row :: m)) = UInt8.ofNat row.length :: (u8s (printE row) ++ u8s (spellB m)) := by
      unfold spellB lvB u8s
      simp
    have e2 : (UInt8.ofNat row.length).toNat = row.length := by rw [UInt8.toNat_ofNat']; omega
    have e3 : (u8s (printE row)).length = row.length := by rw [u8s_length, printE_right h3, List.length_map]
    rw [e1, parseN, e2, if_neg (by omega), List.take_left' e3, List.drop_left' e3, readE_print h3, parse_spell m n (fun r hr => hf r (by simp [hr])) (by simpa using h)]
theorem rightL_all (l : List Ev) : rightL l = l.all rightEv := rfl
theorem lvls_fit {l : List Ev} (hr : rightL l = true) (hl : l.length ≤ 200) : LvFit (lvls l) := by
  intro row hrow
  obtain ⟨i, hi, rfl⟩ := List.mem_iff_getElem.1 hrow
  have hfull := (lvls_ok l).full i hi
  have hsm := lv_small l i
  rw [getD_lt _ hi] at hfull hsm
  refine ⟨List.length_pos_iff.2 hfull, by omega, List.all_eq_true.2 fun e he => ?_⟩
  rw [rightL_all] at hr
  exact List.all_eq_true.1 hr e (mem_lvls (List.mem_flatten.2 ⟨_, hrow, he⟩))
theorem keyF_right {l : List Ev} (hr : rightL l = true) (hl : l.length ≤ 200) : keyF l = spellB (lvls l) := by
  unfold keyF rightF
  rw [hr]
  simp [hl]
theorem keyF_wrong {l : List Ev} (hr : rightL l = false) : keyF l = [] := by
  unfold keyF rightF
  rw [hr]
  simp
theorem parse_key {l : List Ev} (hr : rightL l = true) (hl : l.length ≤ 200) : parseN 200 (u8s (keyF l)) = lvls l := by
  rw [keyF_right hr hl]
  exact parse_spell _ _ (lvls_fit hr hl) (by have := lv_count l; omega)
theorem spell_ne (m : List (List Ev)) : u8s (spellB m) ≠ [] := by
  unfold spellB
  rw [u8s_append]
  simp [u8s]
/-- P5.2. -/
theorem key_iff {a b : List Ev} (hr : rightL a = true) (hl : a.length ≤ 200) (hl' : b.length ≤ 200) : u8s (keyF a) = u8s (keyF b) ↔ SameO a b := by
  constructor
  · intro h
    cases hb : rightL b
    · rw [keyF_wrong hb, keyF_right hr hl] at h
      exact absurd h (spell_ne _)
    · refine ⟨hr, hb, (lvls_iff a b).1 ?_⟩
      rw [← parse_key hr hl, ← parse_key hb hl', h]
  · rintro ⟨_, hb, hs⟩
    rw [keyF_right hr hl, keyF_right hb hl', (lvls_iff a b).2 hs]
end Go.Proofs.YtnldkmcijmbhcaaGreat

/- Keys of rows as bytes; rows of keys, rising, each once. -/
namespace Go.Proofs.YtnldkmcijmbhcaaGreat
open Go.RowKit Go.Maps Go.Sort

/-- Each once. -/
def dedupK : List (List UInt8) → List (List UInt8)
  | [] => []
  | x :: l => if x ∈ l then dedupK l else x :: dedupK l
theorem mem_dedupK {x : List UInt8} : ∀ {l : List (List UInt8)}, x ∈ dedupK l ↔ x ∈ l
  | [] => Iff.rfl
  | y :: l => by
    unfold dedupK
    split
    · rename_i h
      rw [mem_dedupK, List.mem_cons]
      exact ⟨.inr, fun e => e.elim (fun e => e ▸ h) id⟩
    · rw [List.mem_cons, List.mem_cons, mem_dedupK]
theorem nodup_dedupK : ∀ l : List (List UInt8), (dedupK l).Nodup
  | [] => List.nodup_nil
  | y :: l => by
    unfold dedupK
    split
    · exact nodup_dedupK l
    · rename_i h
      exact List.nodup_cons.2 ⟨fun e => h (mem_dedupK.1 e), nodup_dedupK l⟩
theorem dedupK_len : ∀ l : List (List UInt8), (dedupK l).length ≤ l.length
  | [] => Nat.le_refl _
  | y :: l => by
    unfold dedupK
    have := dedupK_len l
    split
    · simp; omega
    · simp; omega

abbrev Key := List UInt8
/-- Keys, rising, each once. -/
def sortK (ks : List Key) : List Key := (dedupK ks).mergeSort (fun x y => decide (x ≤ y))
theorem sortK_unique {ks L : List Key} (h1 : L.Pairwise (fun x y => decide (x ≤ y) = true)) (h2 : L.Nodup) (h3 : ∀ x, x ∈ L ↔ x ∈ ks) : L = sortK ks := by
  have hp : L.Perm (sortK ks) := by
    refine ((List.perm_ext_iff_of_nodup h2 ?_).2 fun x => ?_).trans (List.mergeSort_perm _ _).symm
    · exact (nodup_dedupK _)
    · rw [h3, mem_dedupK]
  have tr : ∀ a b c : Key, decide (a ≤ b) = true → decide (b ≤ c) = true → decide (a ≤ c) = true := fun a b c h1 h2 => by simp only [decide_eq_true_eq] at *; exact List.le_trans h1 h2
  have tt : ∀ a b : Key, (decide (a ≤ b) || decide (b ≤ a)) = true := fun a b => by simp only [Bool.or_eq_true, decide_eq_true_eq]; exact List.le_total a b
  refine List.Perm.eq_of_pairwise (le := fun a b => decide (a ≤ b) = true) (fun a b _ _ h1 h2 => ?_) h1 (List.pairwise_mergeSort tr tt _) hp
  simp only [decide_eq_true_eq] at h1 h2
  exact List.le_antisymm h1 h2
theorem sortK_of_perm {ks ss : List Key} (h2 : ss.Nodup) (h3 : ∀ x, x ∈ ss ↔ x ∈ ks) : ss.mergeSort (fun x y => decide (x ≤ y)) = sortK ks := by
  have tr : ∀ a b c : Key, decide (a ≤ b) = true → decide (b ≤ c) = true → decide (a ≤ c) = true := fun a b c h1 h2 => by simp only [decide_eq_true_eq] at *; exact List.le_trans h1 h2
  have tt : ∀ a b : Key, (decide (a ≤ b) || decide (b ≤ a)) = true := fun a b => by simp only [Bool.or_eq_true, decide_eq_true_eq]; exact List.le_total a b
  refine sortK_unique (List.pairwise_mergeSort tr tt _) ((List.mergeSort_perm ss _).nodup_iff.2 h2) fun x => ?_
  rw [(List.mergeSort_perm ss _).mem_iff]
  exact h3 x
theorem mem_sortK {ks : List Key} {x : Key} : x ∈ sortK ks ↔ x ∈ ks := by
  unfold sortK
  rw [(List.mergeSort_perm _ _).mem_iff, mem_dedupK]
theorem sortK_len (ks : List Key) : (sortK ks).length ≤ ks.length := by
  unfold sortK
  rw [List.length_mergeSort]
  exact dedupK_len _

/-- A row's key, as bytes. -/
def keyB (row : List Ev) : Key := u8s (keyF row)
def keysOf (acc : Ends) : List Key := acc.map fun x => keyB x.2
theorem sortK_length (ks : List Key) : (sortK ks).length = (dedupK ks).length := by
  unfold sortK
  rw [List.length_mergeSort]

end Go.Proofs.YtnldkmcijmbhcaaGreat

/- One worker's exploration, plainly: step by step, as the code goes. -/
namespace Go.Proofs.YtnldkmcijmbhcaaGreat

/-- A node of the path: the state, who sleeps, whom to go into, who was gone into. -/
structure PN where
  st : St
  z : Nat
  go : Nat
  gone : Nat
def PN.left (n : PN) : List Int := (ints (bitsL n.go)).filter fun t => !(hasB n.gone t || hasB n.z t)
def PN.awake (n : PN) : List Int := n.st.all.filter fun t => !hasB n.z t
def pn0 : PN := ⟨⟨⟨0, 0, []⟩, [], [], []⟩, 0, 0, 0⟩
structure Xp where
  path : List PN
  row : List Ev
  order : List Int
  choices : Nat
  keys : List Key
  nodes : Nat
  runs : Nat
  blocked : Nat
/-- Which one of several, and how many choices there were then. -/
def pick (o : List Int) (c : Nat) (l : List Int) : Int := if l.length = 1 then l.getD 0 0 else l.getD (if c < o.length then (o.getD c 0).toNat % l.length else 0) 0
def picked (c : Nat) (l : List Int) : Nat := if l.length = 1 then c else c + 1
/-- All who may are to be gone into, at these nodes. -/
def markOne (path : List PN) (i : Nat) : List PN := path.set i { path.getD i pn0 with go := ofN (path.getD i pn0).st.all }
def markAll (path : List PN) (rs : List (Nat × Int)) : List PN := rs.foldl (fun p r => markOne p r.1) path
theorem markAll_snoc (path : List PN) (rs : List (Nat × Int)) (r : Nat × Int) : markAll path (rs ++ [r]) = markOne (markAll path rs) r.1 := by
  unfold markAll
  rw [List.foldl_append]
  rfl
theorem markOne_len (path : List PN) (i : Nat) : (markOne path i).length = path.length := by unfold markOne; rw [List.length_set]
theorem markAll_len (rs : List (Nat × Int)) : ∀ path : List PN, (markAll path rs).length = path.length := by
  induction rs with
  | nil => intro path; rfl
  | cons r rs ih => intro path; exact (ih _).trans (markOne_len _ _)
/-- A node's making. -/
def racesX (x : Xp) (s : St) : List (Nat × Int) := racesN s.next x.row s.ts.length
def makeX (x : Xp) (s : St) (z : Nat) : Xp :=
  let path := markAll x.path (racesX x s)
  let n : PN := ⟨s, z, 0, 0⟩
  if n.awake ≠ [] then { x with nodes := x.nodes + 1, path := path ++ [{ n with go := ofN [pick x.order x.choices n.awake] }], choices := picked x.choices n.awake }
  else if blockedB s.all z then { x with nodes := x.nodes + 1, path := path ++ [n], blocked := x.blocked + 1 }
  else { x with nodes := x.nodes + 1, path := path ++ [n], runs := x.runs + 1, keys := x.keys ++ [keyB x.row] }
/-- The longest of the first k nodes where somebody is left. -/
def lastLeft (path : List PN) : Nat → Option Nat
  | 0 => none
  | k + 1 => if (path.getD k pn0).left ≠ [] then some k else lastLeft path k
def backX (x : Xp) : Xp := match lastLeft x.path x.path.length with
  | some k => { x with path := x.path.take (k + 1), row := x.row.take k }
  | none => { x with path := x.path.take 1, row := x.row.take 0 }
def anyX (x : Xp) : Bool := (lastLeft x.path x.path.length).isSome
/-- Into one of those who are left at the last node. -/
def lastX (x : Xp) : PN := x.path.getD (x.path.length - 1) pn0
def goX (x : Xp) : Xp :=
  let n := lastX x
  let t := pick x.order x.choices n.left
  makeX { x with choices := picked x.choices n.left, path := x.path.set (x.path.length - 1) { n with gone := wt n.gone t }, row := x.row ++ [(n.st.step t).2.1] } (n.st.step t).2.2 (childN n.st.next n.z n.gone t)
def itX : Nat → Xp → Xp
  | 0, x => backX x
  | n + 1, x => if anyX x then itX n (goX (backX x)) else backX x
def firstX (s : St) (order : List Int) : Xp := makeX ⟨[], [], order, 0, [], 0, 0, 0⟩ s 0
def endX (s : St) (order : List Int) (budget : Int) : Xp := itX (budget.toNat - 1) (firstX s order)

theorem lastLeft_lt {path : List PN} : ∀ {k j : Nat}, lastLeft path k = some j → j < k ∧ (path.getD j pn0).left ≠ [] ∧ ∀ i, j < i → i < k → (path.getD i pn0).left = [] := by
  intro k
  induction k with
  | zero => intro j h; cases h
  | succ k ih =>
    intro j h
    unfold lastLeft at h
    split at h
    · rename_i hl
      injection h with h
      subst h
      exact ⟨by omega, hl, fun i h1 h2 => by omega⟩
    · rename_i hl
      obtain ⟨h1, h2, h3⟩ := ih h
      refine ⟨by omega, h2, fun i h4 h5 => ?_⟩
      by_cases e : i = k
      · subst e
        exact Classical.not_not.1 hl
      · exact h3 i h4 (by omega)
theorem lastLeft_none {path : List PN} : ∀ {k : Nat}, lastLeft path k = none → ∀ i, i < k → (path.getD i pn0).left = [] := by
  intro k
  induction k with
  | zero => intro _ i hi; omega
  | succ k ih =>
    intro h i hi
    unfold lastLeft at h
    split at h
    · cases h
    · rename_i hl
      by_cases e : i = k
      · subst e
        exact Classical.not_not.1 hl
      · exact ih h i (by omega)
theorem getD_take {A : Type} (l : List A) {i k : Nat} (h : i < k) (d : A) : (l.take k).getD i d = l.getD i d := by
  rw [List.getD_eq_getElem?_getD, List.getD_eq_getElem?_getD, List.getElem?_take_of_lt h]
/-- Going back again changes nothing. -/
theorem any_back (x : Xp) : anyX (backX x) = anyX x := by
  unfold anyX backX
  cases h : lastLeft x.path x.path.length with
  | some k =>
    obtain ⟨h1, h2, _⟩ := lastLeft_lt h
    show (lastLeft (x.path.take (k + 1)) (x.path.take (k + 1)).length).isSome = true
    rw [List.length_take, Nat.min_eq_left (by omega)]
    unfold lastLeft
    rw [if_pos (by rw [getD_take _ (by omega)]; exact h2)]
    rfl
  | none =>
    show (lastLeft (x.path.take 1) (x.path.take 1).length).isSome = false
    have hn := lastLeft_none h
    rw [List.length_take]
    rcases Nat.lt_or_ge 0 x.path.length with hl | hl
    · rw [Nat.min_eq_left (by omega)]
      unfold lastLeft lastLeft
      rw [if_neg (by rw [getD_take _ (by omega), hn 0 hl]; simp)]
      rfl
    · rw [Nat.min_eq_right (by omega), show x.path.length = 0 by omega]
      rfl
theorem make_nodes (x : Xp) (s : St) (z : Nat) : (makeX x s z).nodes = x.nodes + 1 := by
  unfold makeX
  dsimp only
  repeat' split
  all_goals rfl
theorem go_nodes (x : Xp) : (goX x).nodes = x.nodes + 1 := make_nodes _ _ _
theorem back_same (x : Xp) : (backX x).nodes = x.nodes ∧ (backX x).runs = x.runs ∧ (backX x).keys = x.keys ∧ (backX x).blocked = x.blocked ∧ (backX x).order = x.order ∧ (backX x).choices = x.choices := by
  unfold backX
  split <;> exact ⟨rfl, rfl, rfl, rfl, rfl, rfl⟩
/-- What is found is only more. -/
def MoreX (x y : Xp) : Prop := x.nodes ≤ y.nodes ∧ x.runs ≤ y.runs ∧ x.keys <+: y.keys
theorem MoreX.refl (x : Xp) : MoreX x x := ⟨Nat.le_refl _, Nat.le_refl _, List.prefix_rfl⟩
theorem MoreX.trans {x y z : Xp} (h : MoreX x y) (h' : MoreX y z) : MoreX x z := ⟨Nat.le_trans h.1 h'.1, Nat.le_trans h.2.1 h'.2.1, h.2.2.trans h'.2.2⟩
theorem make_more (x : Xp) (s : St) (z : Nat) : MoreX x (makeX x s z) := by
  unfold makeX
  dsimp only
  repeat' split
  · exact ⟨Nat.le_succ _, Nat.le_refl _, List.prefix_rfl⟩
  · exact ⟨Nat.le_succ _, Nat.le_refl _, List.prefix_rfl⟩
  · exact ⟨Nat.le_succ _, Nat.le_succ _, List.prefix_append _ _⟩
theorem back_more (x : Xp) : MoreX x (backX x) := by
  obtain ⟨h1, h2, h3, _⟩ := back_same x
  exact ⟨by omega, by omega, by rw [h3]; exact List.prefix_rfl⟩
theorem go_more (x : Xp) : MoreX x (goX x) := by
  have := make_more { x with choices := picked x.choices (lastX x).left, path := x.path.set (x.path.length - 1) { lastX x with gone := wt (lastX x).gone (pick x.order x.choices (lastX x).left) }, row := x.row ++ [((lastX x).st.step (pick x.order x.choices (lastX x).left)).2.1] } ((lastX x).st.step (pick x.order x.choices (lastX x).left)).2.2 (childN (lastX x).st.next (lastX x).z (lastX x).gone (pick x.order x.choices (lastX x).left))
  exact this
theorem it_more (n : Nat) : ∀ x : Xp, MoreX x (itX n x) := by
  induction n with
  | zero => exact back_more
  | succ n ih =>
    intro x
    unfold itX
    split
    · exact (back_more x).trans ((go_more _).trans (ih _))
    · exact back_more x
/-- At least so many, if something is left. -/
theorem it_any (n : Nat) : ∀ x : Xp, anyX (itX n x) = true → (itX n x).nodes = x.nodes + n := by
  induction n with
  | zero => intro x _; exact (back_same x).1
  | succ n ih =>
    intro x h
    unfold itX at h ⊢
    split at h
    · rename_i hx
      rw [if_pos hx, ih _ h, go_nodes, (back_same x).1]
      omega
    · rename_i hx
      rw [any_back] at h
      exact absurd h hx
theorem it_nodes (n : Nat) : ∀ x : Xp, (itX n x).nodes ≤ x.nodes + n := by
  induction n with
  | zero => intro x; exact Nat.le_of_eq (back_same x).1
  | succ n ih =>
    intro x
    unfold itX
    split
    · have := ih (goX (backX x))
      rw [go_nodes, (back_same x).1] at this
      omega
    · have := (back_same x).1
      omega
/-- A greater budget goes on where a smaller one stopped, or ends where it ended. -/
theorem it_grow (n m : Nat) : ∀ x : Xp, MoreX (itX n x) (itX (n + m) x) ∧ (anyX (itX n x) = false → itX (n + m) x = itX n x) := by
  induction n with
  | zero =>
    intro x
    rw [Nat.zero_add]
    refine ⟨?_, fun h => ?_⟩
    · rcases m with _ | m
      · exact MoreX.refl _
      · show MoreX (backX x) (itX (m + 1) x)
        unfold itX
        split
        · exact (go_more _).trans (it_more _ _)
        · exact MoreX.refl _
    · have h' : anyX (backX x) = false := h
      rw [any_back] at h'
      rcases m with _ | m
      · rfl
      · show itX (m + 1) x = backX x
        unfold itX
        rw [h']
        rfl
  | succ n ih =>
    intro x
    rw [Nat.add_right_comm]
    unfold itX
    split
    · exact ih _
    · exact ⟨MoreX.refl _, fun _ => rfl⟩

end Go.Proofs.YtnldkmcijmbhcaaGreat

/- The contracts of a node's awake and left. -/
namespace Go.Proofs.YtnldkmcijmbhcaaGreat
open Go.RowKit

theorem below_stepN {w8 W w' : World} (h1 : Below w8.heap.size w8 W) (hb : Below W.heap.size W w') : Below w8.heap.size w8 w' := h1.trans (hb.mono h1.size)
/-- A node in memory: its state lies in the block sb. -/
structure NodeAt (w : World) (b o sb : Nat) (n : PN) : Prop where
  c0 : w.cell? ⟨b, o, none⟩ = some (.pointer (some ⟨sb, 0, none⟩))
  c1 : w.cell? ⟨b, o + 1, none⟩ = some (.int .u8 (n.z : Nat))
  c2 : w.cell? ⟨b, o + 2, none⟩ = some (.int .u8 (n.go : Nat))
  c3 : w.cell? ⟨b, o + 3, none⟩ = some (.int .u8 (n.gone : Nat))
theorem NodeAt.later {w w' : World} {b o sb : Nat} {n : PN} (h : NodeAt w b o sb n) (hb : Below w.heap.size w w') : NodeAt w' b o sb n := ⟨cell_later hb h.c0, cell_later hb h.c1, cell_later hb h.c2, cell_later hb h.c3⟩

set_option maxRecDepth 100000 in
set_option maxHeartbeats 4000000 in
theorem awake_any {F b o sb : Nat} {n : PN} {w : World} (h : NodeAt w b o sb n) (hs : StAt w sb n.st) (ok : n.st.Ok F) (hz : n.z < 256) :
    Calls Tryz.prog 38 #[.pointer (some ⟨b, o, none⟩)] w fun r w' => ∃ v, r = .returned v ∧ OwnN w' w.heap.size v n.awake ∧ Below w.heap.size w w' := by
  have h4 := all_len8 ok
  have HALL : Hid (∀ W, Below w.heap.size w W → Calls Tryz.prog 37 #[.pointer (some ⟨sb, 0, none⟩)] W fun r w' => ∃ v, r = .returned v ∧ OwnN w' W.heap.size v n.st.all ∧ Below W.heap.size W w') := fun W hb => all_any (hs.later hb) ok
  have HC : Hid (∀ W, Below w.heap.size w W → W.cell? ⟨b, o, none⟩ = some (.pointer (some ⟨sb, 0, none⟩)) ∧ W.cell? ⟨b, o + 1, none⟩ = some (.int .u8 (n.z : Nat))) := fun W hb => ⟨cell_later hb h.c0, cell_later hb h.c1⟩
  have HDEL : Hid (∀ W a cap, Below w.heap.size w W → OwnN W w.heap.size (.slice a n.st.all.length cap) n.st.all → Calls Tryz.prog 61 #[.slice a n.st.all.length cap, .func (.func 62) #[.int .u8 n.z] #[]] W fun r w' => ∃ v, r = .returned v ∧ OwnN w' w.heap.size v n.awake ∧ Below w.heap.size w w') := fun W a cap hb ho =>
    (deleteHas n.z (hasB n.z) w.heap.size a cap n.st.all W ho (by omega) hb.size (fun W' t _ => has_any hz t W')).mono fun r w' ⟨v, h1, h2, h3⟩ => ⟨v, h1, h2, hb.trans h3⟩
  have hc := HC.out w (Below.refl _ _)
  obtain ⟨c0, c1⟩ := hc
  clear h hs hz ok
  generalize n.st.all = L at *
  generalize n.awake = A at *
  generalize n.z = Z at *
  have hB9 : Below w.heap.size w w.drew := (Below.refl _ _).drew
  go_enter Tryz.func38, Tryz.ntmps38
  go_wp2_with fail
  go_region_held3 (fun W => W.cell? ⟨b, o, none⟩ = some (.pointer (some ⟨sb, 0, none⟩)) ∧ W.cell? ⟨b, o + 1, none⟩ = some (.int .u8 (Z : Int)))
    (first | exact HC.out _ hB9 | exact HC.out _ hB10 | exact HC.out _ hB11)
    (first
      | (go_at_call 37; ((with_reducible refine (HALL.out _ hB9).mono ?_); rintro r w7 ⟨v, rfl, hv7, hb7⟩; obtain ⟨a7, cap7, rfl, _, _⟩ := hv7.form (by omega); have hB10 := below_stepN hB9 hb7; have HV7 := Lib.hid (ownN_low hv7 hB9.size); clear hv7 hb7 hB9))
      | (go_at_call 61; ((with_reducible refine (HDEL.out _ _ _ hB10 HV7.out).mono ?_); rintro r w8 ⟨v8, rfl, hv8, hB11⟩)))
  all_goals first
    | (go_ret; exact ⟨_, rfl, hv8, hB11⟩)
    | (go_wp2; go_ret; exact ⟨_, rfl, hv8, hB11⟩)

set_option maxRecDepth 100000 in
set_option maxHeartbeats 2000000 in
theorem leftC_any {b o sb x : Nat} {n : PN} {w : World} (h : NodeAt w b o sb n) (hx : w.cell? ⟨x, 0, none⟩ = some (.pointer (some ⟨b, o, none⟩))) (hz : n.z < 256) (hg : n.gone < 256) (t : Int) :
    Calls Tryz.prog 68 #[.int .i64 t, .pointer (some ⟨x, 0, none⟩)] w fun r w' => r = .returned (.bool (hasB n.gone t || hasB n.z t)) ∧ w = w' := by
  obtain ⟨_, c1, _, c3⟩ := h
  generalize n.z = Z at *
  generalize n.gone = G at *
  go_enter Tryz.func68, Tryz.ntmps68
  go_wp2_with fail
  refine (has_any hg t _).mono ?_
  rintro r w' ⟨rfl, rfl⟩
  cases hr : hasB G t
  · go_wp2_with fail
    refine (has_any hz t _).mono ?_
    rintro r w' ⟨rfl, rfl⟩
    go_wp2
    go_ret
    exact ⟨ret_bool (by simp [hr]), rfl⟩
  · go_wp2
    go_ret
    exact ⟨ret_bool (by simp [hr]), rfl⟩

set_option maxRecDepth 100000 in
set_option maxHeartbeats 4000000 in
theorem left_any {b o sb : Nat} {n : PN} {w : World} (h : NodeAt w b o sb n) (hz : n.z < 256) (hgo : n.go < 256) (hg : n.gone < 256) :
    Calls Tryz.prog 43 #[.pointer (some ⟨b, o, none⟩)] w fun r w' => ∃ v, r = .returned v ∧ OwnN w' w.heap.size v n.left ∧ Below w.heap.size w w' := by
  have hba := below_alloc1 w (.cells #[.pointer (some ⟨b, o, none⟩)] 99)
  have hlen := bitsL_len n.go
  have h1 := h.later hba
  have hcx : (w.alloc (.cells #[.pointer (some ⟨b, o, none⟩)] 99)).cell? ⟨w.heap.size, 0, none⟩ = some (.pointer (some ⟨b, o, none⟩)) := by rw [World.cell?_alloc_new]; rfl
  have hsz : (w.alloc (.cells #[.pointer (some ⟨b, o, none⟩)] 99)).heap.size = w.heap.size + 1 := World.size_alloc _ _
  have c2 := h1.c2
  have HN : Hid (∀ W, Below (w.heap.size + 1) (w.alloc (.cells #[.pointer (some ⟨b, o, none⟩)] 99)) W → NodeAt W b o sb n ∧ W.cell? ⟨w.heap.size, 0, none⟩ = some (.pointer (some ⟨b, o, none⟩))) := fun W hb => by
    rw [← hsz] at hb
    exact ⟨h1.later hb, cell_later hb hcx⟩
  have HDEL : Hid (∀ W a cap, Below (w.heap.size + 1) (w.alloc (.cells #[.pointer (some ⟨b, o, none⟩)] 99)) W → OwnN W (w.heap.size + 1) (.slice a (ints (bitsL n.go)).length cap) (ints (bitsL n.go)) → Calls Tryz.prog 61 #[.slice a (ints (bitsL n.go)).length cap, .func (.func 68) #[] #[.pointer (some ⟨w.heap.size, 0, none⟩)]] W fun r w' => ∃ v, r = .returned v ∧ OwnN w' (w.heap.size + 1) v n.left ∧ Below (w.heap.size + 1) (w.alloc (.cells #[.pointer (some ⟨b, o, none⟩)] 99)) w') := fun W a cap hb ho =>
    (deleteLeft (some ⟨w.heap.size, 0, none⟩) (fun t => hasB n.gone t || hasB n.z t) (w.heap.size + 1) a cap (ints (bitsL n.go)) W ho (by rw [ints_len]; omega) (by have := hb.size; omega) (fun W' t hb' => leftC_any (HN.out W' (hb.trans hb')).1 (HN.out W' (hb.trans hb')).2 hz hg t)).mono fun r w' ⟨v, h1, h2, h3⟩ => ⟨v, h1, h2, hb.trans h3⟩
  have hl8 : (ints (bitsL n.go)).length ≤ 8 := by rw [ints_len]; exact hlen
  have HALL : Hid (∀ W, Calls Tryz.prog 67 #[.int .u8 n.go] W fun r w' => ∃ v, r = .returned v ∧ OwnN w' W.heap.size v (ints (bitsL n.go)) ∧ Below W.heap.size W w') := fun W => setAll_any hgo W
  clear h h1 hz hgo hg hlen HN
  generalize ints (bitsL n.go) = L at *
  generalize n.left = A at *
  generalize n.go = G at *
  go_enter Tryz.func43, Tryz.ntmps43
  go_wp2_with fail
  refine (HALL.out _).mono ?_
  rintro r w7 ⟨v, rfl, hv7, hb7⟩
  obtain ⟨a7, cap7, rfl, _, _⟩ := hv7.form (by omega)
  have HV7 := Lib.hid (ownN_low (A := w.heap.size + 1) hv7 (by rw [hsz]; exact Nat.le_refl _))
  have hB7 : Below (w.heap.size + 1) (w.alloc (.cells #[.pointer (some ⟨b, o, none⟩)] 99)) w7 := by rw [hsz] at hb7; exact hb7
  have hcx7 : w7.cell? ⟨w.heap.size, 0, none⟩ = some (.pointer (some ⟨b, o, none⟩)) := cell_later hb7 hcx
  clear hv7 hb7 HALL
  go_wp2_with fail
  refine (HDEL.out _ _ _ hB7 HV7.out).mono ?_
  rintro r w8 ⟨v8, rfl, hv8, hB8⟩
  have hB9 : Below w.heap.size w w8 := hba.trans (hB8.mono (by omega))
  have hv9 := ownN_low (A := w.heap.size) hv8 (by omega)
  go_wp2
  go_ret
  exact ⟨_, rfl, hv9, hB9⟩

end Go.Proofs.YtnldkmcijmbhcaaGreat

/- Rows of keys in memory. -/
namespace Go.Proofs.YtnldkmcijmbhcaaGreat
open Go.RowKit
def strCell (k : Key) : List Value := [.string ⟨k.toArray⟩]
theorem strCell_len (k : Key) : (strCell k).length = 1 := rfl
theorem strCell_one (k : Key) : ∀ v ∈ strCell k, v.oneCell' = true := by
  intro v hv
  simp [strCell] at hv
  subst hv
  rfl
theorem infoStr : (Tryz.prog.info? 9).map (fun i => (i.zero, i.size, i.bytes)) = some (some (.string ByteArray.empty), 1, 16) := by kernel_rfl
/-- A row of texts, read. -/
theorem RowAt.str {w : World} {a : Option Addr} {ks : List Key} (h : RowAt w a 1 strCell ks) {j : Nat} (hj : j < ks.length) : ∃ b o, a = some ⟨b, o, none⟩ ∧ w.cell? ⟨b, o + j, none⟩ = some (.string ⟨ks[j].toArray⟩) := by
  obtain ⟨b, o, rfl, hc⟩ := h.2 (by intro e; simp [e] at hj)
  have h1 := hc j hj 0 _ rfl
  rw [Nat.mul_one, Nat.add_zero] at h1
  exact ⟨b, o, rfl, h1⟩

end Go.Proofs.YtnldkmcijmbhcaaGreat

/- A row of bytes to be read, and opened; two neighbours swapped in a row of one's own. -/
namespace Go.Proofs.YtnldkmcijmbhcaaGreat
open Go.RowKit

def BytesAt (w : World) (a : Option Addr) (ns : List Int) : Prop :=
  ns.length ≤ maxLen ∧ (ns ≠ [] → ∃ b o, a = some ⟨b, o, none⟩ ∧ ∀ i (h : i < ns.length), w.cell? ⟨b, o + i, none⟩ = some (.int .u8 ns[i]))
theorem BytesAt.later {w w' : World} {a : Option Addr} {ns : List Int} (h : BytesAt w a ns) (hb : Below w.heap.size w w') : BytesAt w' a ns := by
  refine ⟨h.1, fun hn => ?_⟩
  obtain ⟨b, o, rfl, hc⟩ := h.2 hn
  exact ⟨b, o, rfl, fun i hi => cell_later hb (hc i hi)⟩

open Go.Deep Go.Joins Go.WideShapes Go.ChangeShapes

section
variable {H : Type} {enc : TypeId × Value → H} {W : World} {base : Nat} {spare : Nat → Bool} {held : Bool}

theorem wf_u8 {n : Int} (h : (Lit.int .u8 n).wf = true) : 0 ≤ n ∧ n < 256 := by
  simp [Lit.wf, IntKind.min, IntKind.max, IntKind.signed, IntKind.bits] at h
  omega

set_option maxRecDepth 100000 in
theorem bytes_of_trod {r : Reach} {b0 : Nat} {v : Value} {d : DataW H} {p : List MemPlace} (hv : Value.okWide Tryz.prog W r b0 25 v) (h : DataW.Trod enc Tryz.prog W base spare held 25 v d p) :
    ∃ (a : Option Addr) (ns : List Int) (cap : Nat), v = .slice a ns.length cap ∧ BytesAt W a ns ∧ ∀ n ∈ ns, 0 ≤ n ∧ n < 256 := by
  obtain ⟨a, len, cap, rfl⟩ := okWide_slice Tryz.underlying25 hv
  obtain ⟨fuel, hf⟩ := h
  rcases open_ints Tryz.underlying25 Tryz.underlying5 (by kernel_rfl) hf with ⟨e, _⟩ | ⟨a', len', cap', zs, e, _, hl, hm, hz, _, hc, hw⟩
  · simp [Value.cells] at e
    obtain ⟨rfl, rfl, rfl⟩ := e
    exact ⟨none, [], 0, rfl, ⟨by simp [maxLen], fun h => absurd rfl h⟩, by simp⟩
  · simp [Value.cells] at e
    obtain ⟨rfl, rfl, rfl⟩ := e
    have hlz : len ≤ zs.length := by rw [hz]; split <;> omega
    have hlt : (zs.take len).length = len := by simp; omega
    refine ⟨some a', zs.take len, cap, by rw [hlt], ⟨by rw [hlt]; omega, fun hne => ?_⟩, fun n hn => wf_u8 (hw n (List.mem_of_mem_take hn))⟩
    have hpos : 0 < len := by
      rcases Nat.eq_zero_or_pos len with h | h
      · subst h; simp at hne
      · exact h
    have h0 := hc 0 (by omega)
    have hsp := World.cell?_spot h0
    have hsp' : a'.spot = none := by simpa [Addr.add] using hsp
    obtain ⟨b, o, s⟩ := a'
    subst hsp'
    refine ⟨b, o, rfl, fun i hi => ?_⟩
    have hi' : i < len := by omega
    have := hc i (by omega)
    rw [add_row, getD_lt _ (by omega)] at this
    rw [this]
    simp
end
end Go.Proofs.YtnldkmcijmbhcaaGreat
