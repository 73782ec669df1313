import Derived.Deep.RegionHeld3
import Derived.StillTail
import Derived.Test.YtnldkmcijmbhcaaGreatPk03
import Derived.Test.YtnldkmcijmbhcaaGreatPk11

/- The contract of race's racing. -/
namespace Go.Proofs.YtnldkmcijmbhcaaGreat
open Go.RowKit Go.Shelf

attribute [local go_sem] Oper.semAt_some

theorem addG_ev {gs : List Gp} {e : Ev} {p : Nat × Nat} : ∀ g ∈ addG gs e p, g.1 = e ∨ ∃ g' ∈ gs, g.1 = g'.1 := by
  induction gs with
  | nil =>
    intro g hg
    rw [addG, List.mem_singleton] at hg
    exact .inl (by rw [hg])
  | cons x gs ih =>
    intro g hg
    unfold addG at hg
    split at hg
    · rcases List.mem_cons.1 hg with rfl | hg
      · exact .inr ⟨x, List.mem_cons_self, rfl⟩
      · exact .inr ⟨g, List.mem_cons_of_mem _ hg, rfl⟩
    · rcases List.mem_cons.1 hg with rfl | hg
      · exact .inr ⟨g, List.mem_cons_self, rfl⟩
      · rcases ih g hg with h | ⟨g', h1, h2⟩
        · exact .inl h
        · exact .inr ⟨g', List.mem_cons_of_mem _ h1, h2⟩
theorem grp_ev (l : List Ev) (n : Nat) : ∀ g ∈ grp l n, ∃ i, i < n ∧ g.1 = evI l i := by
  induction n with
  | zero => intro g hg; cases hg
  | succ n ih =>
    intro g hg
    rcases addG_ev g hg with h | ⟨g', h1, h2⟩
    · exact ⟨n, Nat.lt_succ_self _, h⟩
    · obtain ⟨i, h3, h4⟩ := ih g' h1
      exact ⟨i, by omega, h2.trans h4⟩
theorem rcL_take (ls : Int → Int → Nat) (gs : List Gp) (e : Ev) (k : Nat) (hk : k < gs.length) :
    rcL ls (gs.take (k + 1)) e = rcL ls (gs.take k) e ++ if gs[k].1.thread ≠ e.thread ∧ dep gs[k].1 e = true then rcG (ls e.thread gs[k].1.thread) gs[k].2 else [] := by
  unfold rcL
  rw [List.take_add_one, List.getElem?_eq_getElem hk, List.flatMap_append]
  simp

def RacingR (l : List Ev) (n : Nat) (e : Ev) (w : World) (r : Ending) (w' : World) : Prop :=
  ∃ rv, r = .returned rv ∧ OwnRow w' w.heap.size 98 2 rcCell rv (rcT e.thread (raced l n e)) ∧ Below w.heap.size w w'
/-- What holds between two groups. -/
def RcW (w : World) (e : Ev) (ats : List Nat) (ds : List Deferred) (W : World) : Prop :=
  EvBox W w.heap.size e ∧ RcAt W w.heap.size (w.heap.size + 1) e.thread ats ∧ Marks w.heap.size ds W ∧ Below w.heap.size w W
theorem RcW.later {w W W' : World} {e : Ev} {ats : List Nat} {ds : List Deferred} (h : RcW w e ats ds W) (hb : Below W.heap.size W W') : RcW w e ats ds W' :=
  ⟨h.1.later hb, h.2.1.later hb, h.2.2.1.kept fun D _ hD => (hb.block D (Array.getElem?_eq_some_iff.1 hD).1).trans hD, h.2.2.2.trans (hb.mono h.2.2.2.size)⟩

set_option maxRecDepth 100000 in
set_option maxHeartbeats 8000000 in
theorem racing_any (P B n : Nat) (l : List Ev) (e : Ev) (v : Value) (xs : List (Ev × Sp)) (w : World) (hp : PastM w P B (csOf l n) v xs (grp l n)) (hr : rightL l = true) (hn : n ≤ l.length) (hm : l.length ≤ 200) (h0 : 0 ≤ e.thread) (h4 : e.thread < 4) :
    Calls Tryz.prog 59 #[.pointer (some ⟨P, 0, none⟩), .agg #[.int .i64 e.thread, .int .i64 e.kind, .int .i64 e.obj, .bool e.fail]] w (RacingR l n e w) := by
  have HEV := Lib.hid (grp_ev l n)
  have HRL := Lib.hid (fun i (hi : i < l.length) => rightEv_bd (rightL_get hr hi))
  have HCS : Hid (∀ (t u : Nat) (ht : t < (csOf l n).length), ((csOf l n)[t]'ht) u = lasts l n t u) := fun t u ht => by rw [csOf_get l n t ht]
  have HOK := Lib.hid (gok_grp l n)
  have HSM := Lib.hid (grp_small l n)
  have hgl := grp_len l n
  have HS := Lib.hid (fun (L : List Nat) h1 h2 => rcL_sorted l n e (L := L) h1 h2)
  have HRM := Lib.hid (fun (i : Nat) (h : i ∈ rcL (lasts l n) (grp l n) e) => rcL_mem h)
  have hrl := rcL_len l n e
  have HLN := Lib.hid (csOf_len l n)
  unfold RacingR
  generalize lasts l n = ls at *
  generalize csOf l n = cs at *
  generalize grp l n = gs at *
  generalize hRC : raced l n e = RC at *
  clear hRC
  obtain ⟨va, vc, rfl, HV⟩ : ∃ va vc, v = .slice va gs.length vc ∧ Hid (gs = [] ∨ ∃ g, va = some ⟨g, 0, none⟩) := by
    rcases hp.own.form with ⟨h1, h2⟩ | ⟨g, c, h1, _⟩
    · exact ⟨none, 0, by rw [h1, h2]; rfl, .inl h2⟩
    · exact ⟨_, c, h1, .inr ⟨g, rfl⟩⟩
  have HP := Lib.hid hp
  clear hp
  obtain ⟨et, ek, eo, ef⟩ := e
  dsimp only at h0 h4 HS HRM hrl ⊢
  obtain ⟨th, rfl⟩ : ∃ th : Nat, et = th := ⟨et.toNat, by omega⟩
  have hth4 : th < 4 := by omega
  clear h0
  refine (callsIn_wide (n := 3)).1 ?_
  have h1 : 1 ≤ 3 := by omega
  refine callsIn_of_wp_marks Tryz.func59 rfl trivial ?_ rfl
  simp only [Tryz.ntmps59, List.size_toArray, List.length_cons, List.length_nil, Nat.reduceAdd, Nat.reduceSub, Array.replicate_succ, Array.replicate_zero, List.push_toArray, List.append_toArray, List.nil_append, List.cons_append]
  have hb0 := below_alloc2 w (.cells #[.int .i64 (th : Int), .int .i64 ek, .int .i64 eo, .bool ef] 81) (.cells #[.slice none 0 0] 95)
  have HW0 : Hid (RcW w ⟨th, ek, eo, ef⟩ [] [] ((w.alloc (.cells #[.int .i64 (th : Int), .int .i64 ek, .int .i64 eo, .bool ef] 81)).alloc (.cells #[.slice none 0 0] 95))) :=
    ⟨(EvBox.new w ⟨th, ek, eo, ef⟩).later (below_alloc1 _ _), ⟨_, heap_alloc2_new w _ _, ownRow_nil _ _ _ _ _⟩, marks_nil _ _, hb0⟩
  have hv := cell_later hb0 (HP.out.blk.slice HP.out.four)
  gi_wp2
  generalize (w.alloc (.cells #[.int .i64 (th : Int), .int .i64 ek, .int .i64 eo, .bool ef] 81)).alloc (.cells #[.slice none 0 0] 95) = W0 at *
  clear hv hb0
  refine wpIn_loop (fun a1 W => ∃ (ds : List Deferred) (u6 u7 u8 u9 u10 u16 u17 u18 u19 u20 u21 u22 u23 u24 u25 u26 u27 u28 u29 u30 u31 u32 u33 u34 u35 u36 u37 u38 u39 u40 u41 u42 u43 u44 u45 u46 u47 u48 u49 u50 u51 u52 u53 u54 u55 u56 u57 u58 u59 u60 u61 : Value), (∃ k : Nat, k ≤ gs.length ∧ u16 = .int .i64 k ∧ Hid (RcW w ⟨th, ek, eo, ef⟩ (rcL ls (gs.take k) ⟨th, ek, eo, ef⟩) ds W)) ∧ a1 = Act.mk #[.pointer (some ⟨P, 0, none⟩), .agg #[.int .i64 (th : Int), .int .i64 ek, .int .i64 eo, .bool ef], undef, .pointer (some ⟨w.heap.size, 0, none⟩), .slice none 0 0, .pointer (some ⟨w.heap.size + 1, 0, none⟩), u6, u7, u8, u9, u10, .pointer (some ⟨P, 0, none⟩), .pointer (some ⟨P, 0, none⟩), .pointer (some ⟨P, 16, none⟩), .slice va gs.length vc, .int .i64 (gs.length : Int), u16, u17, u18, u19, u20, u21, u22, u23, u24, u25, u26, u27, u28, u29, u30, u31, u32, u33, u34, u35, u36, u37, u38, u39, u40, u41, u42, u43, u44, u45, u46, u47, u48, u49, u50, u51, u52, u53, u54, u55, u56, u57, u58, u59, u60, u61, undef, undef, undef] ds) (fun a1 _ => gs.length - (intOf (a1.tmps.getD 16 undef)).toNat) ?atStart ?round
  case atStart => exact ⟨[], undef, undef, undef, undef, undef, .int .i64 0, undef, undef, undef, undef, undef, undef, undef, undef, undef, undef, undef, undef, undef, undef, undef, undef, undef, undef, undef, undef, undef, undef, undef, undef, undef, undef, undef, undef, undef, undef, undef, undef, undef, undef, undef, undef, undef, undef, undef, undef, undef, undef, undef, undef, undef, ⟨0, Nat.zero_le _, rfl, HW0⟩, rfl⟩
  case round =>
    clear HW0
    intro _ W hinv
    obtain ⟨ds, u6, u7, u8, u9, u10, u16, u17, u18, u19, u20, u21, u22, u23, u24, u25, u26, u27, u28, u29, u30, u31, u32, u33, u34, u35, u36, u37, u38, u39, u40, u41, u42, u43, u44, u45, u46, u47, u48, u49, u50, u51, u52, u53, u54, u55, u56, u57, u58, u59, u60, u61, ⟨k, hk, rfl, HW⟩, ha⟩ := hinv
    subst ha
    try dsimp only
    by_cases hlt : k < gs.length
    case neg =>
      obtain rfl : k = gs.length := by omega
      have HW1 := HW.out
      rw [List.take_length] at HW1
      obtain ⟨hbx, ⟨lv, bL, ow⟩, hmk, hbw⟩ := HW1
      have lc := bL.cell
      have HOW := Lib.hid ow
      have HBL := Lib.hid bL
      have HMK := Lib.hid hmk
      have HBW := Lib.hid hbw
      have HSO := Lib.hid (sort_any (th : Int) (rcL ls gs ⟨th, ek, eo, ef⟩) w.heap.size lv W ow (fun i hi => by have := HRM.out i hi; omega) (by omega))
      clear hbx bL ow hmk hbw
      gi_wp2_with fail
      refine ⟨trivial, ?_⟩
      refine (callsIn_wide.2 HSO.out).mono ?_
      rintro r W2 ⟨rfl, L, hp, hs, how, hgr⟩
      obtain rfl := HS.out L hp hs
      have b2 := HBL.out.kept hgr (HBL.out.not_row tyRcL HOW.out)
      have lc2 := b2.cell
      have HMK2 := Lib.hid (HMK.out.stay (Stay.grown HOW.out hgr) HBL.out)
      have HB2 : Hid (Below w.heap.size w W2) := HBW.out.grown hgr HBW.out.size (fun k hk => (World.ownsRow.lt HOW.out k hk).1)
      have HL2 := Lib.hid how
      have HBX2 := Lib.hid b2
      clear hp hs how hgr b2 HSO
      gi_wp2
      refine leaves_marks w.heap.size (fun W' => OwnRow W' w.heap.size 98 2 rcCell lv (rcT th L) ∧ Below w.heap.size w W') ?_ ?_ ds W2 HMK2.out ⟨HL2.out, HB2.out⟩
      · rintro W' D o ⟨h3, h4⟩ hD ho hc
        exact ⟨ownsRow_putObj h3 _ ho hc, h4.grown (grownBy_putObj' W' D _) h4.size (fun k e => by cases e; exact hD)⟩
      · rintro W' ⟨h3, h4⟩
        exact ⟨lv, by simp [results, Tryz.f59, go_sem], lv, rfl, h3, h4⟩
    obtain ⟨g, rfl⟩ : ∃ g, va = some ⟨g, 0, none⟩ := by
      rcases HV.out with h | h
      · rw [h] at hlt; simp at hlt
      · exact h
    have hkx : k < xs.length := by rw [HP.out.own.len]; exact hlt
    have hM := HP.out.later HW.out.2.2.2
    have hev := hM.own.evs k hkx hlt
    have x0 := hM.own.cell (j := 0) hkx (by omega)
    have x1 := hM.own.cell (j := 1) hkx (by omega)
    have x2 := hM.own.cell (j := 2) hkx (by omega)
    have x3 := hM.own.cell (j := 3) hkx (by omega)
    have x4 := hM.own.cell (j := 4) hkx (by omega)
    rw [Nat.add_zero] at x0
    simp only [gpCell, hev, List.getElem?_cons_zero, List.getElem?_cons_succ] at x0 x1 x2 x3 x4
    have HRW := Lib.hid (rcL_take ls gs ⟨th, ek, eo, ef⟩ k hlt)
    have HIN := Lib.hid (hM.own.inner k hkx hlt)
    have HINw := Lib.hid (HP.out.own.inner k hkx hlt)
    have HA0 := rcL_take_len ls gs ⟨th, ek, eo, ef⟩ k
    have HPW := Lib.hid (HOK.out gs[k] (List.getElem_mem hlt)).2
    have hsm := HSM.out gs[k] (List.getElem_mem hlt)
    obtain ⟨gt, hgt4, HGT⟩ : ∃ gt : Nat, gt < 4 ∧ Hid (gs[k].1.thread = gt) := by
      obtain ⟨i, hi, he⟩ := HEV.out gs[k] (List.getElem_mem hlt)
      have := HRL.out i (by omega)
      rw [← evI_get (show i < l.length by omega), ← he] at this
      exact ⟨gs[k].1.thread.toNat, by omega, (by show _ = _; omega)⟩
    generalize xs[k].2 = sp at *
    generalize gs[k].2 = ps at *
    generalize gs[k].1 = ge at *
    obtain ⟨gth, gk, go, gf⟩ := ge
    obtain rfl : gth = gt := HGT.out
    dsimp only at x0 x1 x2 x3 x4
    have hb1 := below_alloc1 W (.cells #[.int .i64 (gt : Int), .int .i64 gk, .int .i64 go, .bool gf, .slice sp.a sp.n sp.c] 160)
    have HW1 : Hid (RcW w ⟨th, ek, eo, ef⟩ (rcL ls (gs.take k) ⟨th, ek, eo, ef⟩) ds (W.alloc (.cells #[.int .i64 (gt : Int), .int .i64 gk, .int .i64 go, .bool gf, .slice sp.a sp.n sp.c] 160))) :=
      HW.out.later hb1
    have HLK : Hid (MidAt (W.alloc (.cells #[.int .i64 (gt : Int), .int .i64 gk, .int .i64 go, .bool gf, .slice sp.a sp.n sp.c] 160)) W.heap.size 160 (gpCell (⟨gt, gk, go, gf⟩, sp))) := heap_alloc_new _ _
    obtain ⟨e0, e1, e2, e3⟩ := HW1.out.1.cells
    have HKX : Hid (k + 1 ≤ gs.length) := hlt
    by_cases hth : gt = th
    · subst hth
      have HW2 : Hid (RcW w ⟨gt, ek, eo, ef⟩ (rcL ls (gs.take (k + 1)) ⟨gt, ek, eo, ef⟩) ds (W.alloc (.cells #[.int .i64 (gt : Int), .int .i64 gk, .int .i64 go, .bool gf, .slice sp.a sp.n sp.c] 160))) := by
        show RcW _ _ _ _ _
        rw [HRW.out, if_neg (fun h => h.1 rfl), List.append_nil]
        exact HW1.out
      clear HW1 HRW
      gi_wp2
      refine ⟨trivial, ?_⟩
      gi_wp2
      refine ⟨?_, ?measure⟩
      (repeat apply Exists.intro)
      refine ⟨⟨k + 1, HKX.out, by go_num, HW2⟩, rfl⟩
      case measure => simp [intOf]; omega
    have hq : ((gt : Int) == (th : Int)) = false := by simp; omega
    gi_wp2_with fail
    refine ⟨trivial, ?_⟩
    refine (callsIn_wide.2 (depends_any ⟨gt, gk, go, gf⟩ ⟨th, ek, eo, ef⟩ _)).mono ?_
    rintro r W2 ⟨rfl, hbd⟩
    have HW2 := Lib.hid (HW1.out.later hbd)
    have HLK2 : Hid (MidAt W2 W.heap.size 160 (gpCell (⟨gt, gk, go, gf⟩, sp))) := HLK.out.later hbd
    have HB2 : Hid (Below W.heap.size W W2) := hb1.trans (hbd.mono hb1.size)
    clear HW1 HLK hb1 hbd
    cases hd : dep ⟨gt, gk, go, gf⟩ ⟨th, ek, eo, ef⟩
    · have HW3 : Hid (RcW w ⟨th, ek, eo, ef⟩ (rcL ls (gs.take (k + 1)) ⟨th, ek, eo, ef⟩) ds W2) := by
        show RcW _ _ _ _ _
        rw [HRW.out, if_neg (fun h => by rw [hd] at h; exact absurd h.2 (by simp)), List.append_nil]
        exact HW2.out
      clear HW2 HRW hd
      gi_wp2
      refine ⟨?_, ?measure⟩
      (repeat apply Exists.intro)
      refine ⟨⟨k + 1, HKX.out, by go_num, HW3⟩, rfl⟩
      case measure => simp [intOf]; omega
    have HRW2 : Hid (rcL ls (gs.take (k + 1)) ⟨th, ek, eo, ef⟩ = rcL ls (gs.take k) ⟨th, ek, eo, ef⟩ ++ rcG (ls th gt) ps) := by
      show _ = _
      rw [HRW.out, if_pos ⟨fun h => hth (by omega), hd⟩]
    clear HRW hd
    obtain ⟨sa, sn, sc⟩ := sp
    obtain ⟨pa, pc, hsp, hrp, _⟩ := HIN.out.form plCell_len (by omega)
    obtain ⟨rfl, rfl, rfl⟩ : sa = pa ∧ sn = ps.length ∧ sc = pc := by simpa [spV] using hsp
    have HRP := Lib.hid hrp
    clear hrp hsp
    dsimp only at *
    have hM2 := hM.later HB2.out
    have hp0 := hM2.blk.num (t := th) (u := gt) (by rw [hM2.four]; exact hth4) hgt4
    rw [HCS.out th gt (by rw [hM2.four]; exact hth4)] at hp0
    obtain ⟨e0, e1, e2, e3⟩ := HW2.out.1.cells
    have l0 := HLK2.out.cell 0
    have l4 := HLK2.out.cell 4
    simp only [gpCell, List.getElem?_cons_zero, List.getElem?_cons_succ] at l0 l4
    gi_wp2_with fail
    clear e1 e2 e3 x0 x1 x2 x3 x4 hev
    have hb4 : Below W2.heap.size W2 (W2.alloc (.cells #[.int .i64 0] 3)).drew := (below_alloc1 W2 _).drew
    have hb5 : ∀ v, Below W2.heap.size W2 ((W2.alloc (.cells #[.int .i64 0] 3)).drew.setCell ⟨W2.heap.size, 0, none⟩ v) := fun v => hb4.setCell (Nat.le_refl _) v
    have HQ : Hid (∀ W', Below W2.heap.size W2 W' → W'.cell? ⟨w.heap.size, 0, none⟩ = some (.int .i64 (th : Int)) ∧ W'.cell? ⟨W.heap.size, 0, none⟩ = some (.int .i64 (gt : Int)) ∧ W'.cell? ⟨P, th * 4 + gt, none⟩ = some (.int .i64 (ls th gt))) :=
      fun W' hb => ⟨cell_later hb e0, cell_later hb l0, cell_later hb hp0⟩
    have hS0 := HQ.out W2.drew (Below.refl _ W2).drew
    have hS1 := HQ.out _ hb4
    have hgi : (gt : Int) < 4 := by omega
    clear e0 l0 hp0
    refine wpIn_wide.2 ?_
    go_region_held3 (fun W' => W'.cell? ⟨w.heap.size, 0, none⟩ = some (.int .i64 (th : Int)) ∧ W'.cell? ⟨W.heap.size, 0, none⟩ = some (.int .i64 (gt : Int)) ∧ W'.cell? ⟨P, th * 4 + gt, none⟩ = some (.int .i64 (ls th gt)))
      (first | exact hS0 | exact hS1 | exact HQ.out _ (below_alloc1 W2 _).drew)
      (fail)
    rename_i hHeld
    clear hHeld
    have hb6 : Below W2.heap.size W2 (W2.alloc (.cells #[.int .i64 (ls th gt)] 3)).drew := (below_alloc1 W2 _).drew
    have HKN : Hid (MidAt (W2.alloc (.cells #[.int .i64 (ls th gt)] 3)).drew W2.heap.size 3 [.int .i64 (ls th gt)]) := heap_alloc_new W2 _
    have hsz3 : (W2.alloc (.cells #[.int .i64 (ls th gt)] 3)).drew.heap.size = W2.heap.size + 1 := by simp
    have HW3 := Lib.hid (HW2.out.later hb6)
    have HLK3 := Lib.hid (HLK2.out.later hb6)
    have HB3 : Hid (Below W.heap.size W (W2.alloc (.cells #[.int .i64 (ls th gt)] 3)).drew) := HB2.out.trans (hb6.mono HB2.out.size)
    have HWs : Hid (W.heap.size ≤ W2.heap.size) := HB2.out.size
    clear HW2 HLK2 HB2 hM2 hb4 hb5 hb6 HQ hS0 hS1
    generalize (W2.alloc (.cells #[.int .i64 (ls th gt)] 3)).drew = W3 at *
    generalize W2.heap.size = Kb at *
    have l4 : W3.cell? ⟨W.heap.size, 4, none⟩ = some (.slice sa ps.length sc) := HLK3.out.cell 4
    gi_wp2_with fail
    refine ⟨trivial, ?_⟩
    refine (backP_in Fence.wide _ trivial rfl _ _ _ _).mono ?_
    rintro r w' ⟨rfl, rfl⟩
    have hb7 := below_alloc1 W3 (.cells #[.slice sa ps.length sc] 158)
    have hsz4 : (W3.alloc (.cells #[.slice sa ps.length sc] 158)).heap.size = W3.heap.size + 1 := by simp
    have HBS : Hid (MidAt (W3.alloc (.cells #[.slice sa ps.length sc] 158)) W3.heap.size 158 [.slice sa ps.length sc]) := heap_alloc_new _ _
    have HW4 := Lib.hid (HW3.out.later hb7)
    have HKN4 := Lib.hid (HKN.out.later hb7)
    have HB4 : Hid (Below W.heap.size W (W3.alloc (.cells #[.slice sa ps.length sc] 158))) := HB3.out.trans (hb7.mono HB3.out.size)
    have HK3 : Hid (Kb < W3.heap.size) := by show _ < _; omega
    clear HW3 HKN HB3 HLK3 hb7 l4
    gi_wp2
    generalize W3.alloc (.cells #[.slice sa ps.length sc] 158) = Wl at *
    generalize W3.heap.size = Bs at *
    obtain rfl : Bs = Kb + 1 := by omega
    have HKL : Hid (w.heap.size + 1 < W.heap.size) := by
      obtain ⟨v, h8, _⟩ := HW.out.2.1
      exact h8.lt
    have HBK : Hid (0 < ps.length → ∀ b o, sa = some ⟨b, o, none⟩ → b < w.heap.size) := by
      rintro h b o rfl
      exact (World.ownsRow.lt HINw.out b rfl).2
    have hsl : w.heap.size ≤ Wl.heap.size := HW4.out.2.2.2.size
    have hA0l : (rcL ls (gs.take k) ⟨th, ek, eo, ef⟩).length ≤ 200 := by omega
    clear HA0 HS HRM hrl HV
    generalize rcL ls (gs.take k) ⟨th, ek, eo, ef⟩ = A0 at *
    refine wpIn_rangeFunc_ownH rfl h1 (gf := 115) (lb := #[.pointer (some ⟨Kb + 1, 0, none⟩)]) (by first | (with_reducible rfl) | (simp [Act.eval]; done) | go_simp) trivial (enters_of Tryz.func115 (by kernel_rfl) rfl)
      (backP_stops Fence.wide (3 - 1) trivial rfl (by omega) (Kb + 1) w.heap.size sa sc ps (by omega) Wl HBS.out (HRP.out.later HB4.out) HBK.out) keepB_t (keepB_b hsl (by omega)) (Below.refl _ _) (fun _ => rfl)
      (fun (pre : List (Fin ps.length)) W' => (∀ q ∈ pre, ls th gt < (ps[q.val]).2) ∧ RcAt W' w.heap.size (w.heap.size + 1) th (A0 ++ pre.map fun q => (ps[q.val]).1) ∧ Stay (w.heap.size + 1) Wl W' ∧ Below w.heap.size w W')
      (fun c (pre : List (Fin ps.length)) W' => (c = .exit 2 ∧ ∃ (ini : List (Fin ps.length)) (last : Fin ps.length), pre = ini ++ [last] ∧ (∀ q ∈ ini, ls th gt < (ps[q.val]).2) ∧ (ps[last.val]).2 ≤ ls th gt ∧ RcAt W' w.heap.size (w.heap.size + 1) th (A0 ++ ini.map fun q => (ps[q.val]).1)) ∧ Stay (w.heap.size + 1) Wl W' ∧ Below w.heap.size w W')
      (OwnFrom.and (ownFrom_pure _ (fun (pre : List (Fin ps.length)) => ∀ q ∈ pre, ls th gt < (ps[q.val]).2)) (OwnFrom.and (Own.from (rcAt_own w.heap.size (w.heap.size + 1) (th : Int) (fun (pre : List (Fin ps.length)) => A0 ++ pre.map fun q => (ps[q.val]).1)) _) (OwnFrom.and (stay_own _ Wl) (ownFrom_below (Nat.le_refl _) (by omega)))))
      (fun c => OwnFrom.and (Own.from (fun s A B row hs hg hr => by obtain ⟨hc, ini, last, e1, e2, e3, e4⟩ := hs; exact ⟨hc, ini, last, e1, e2, e3, rcAt_own w.heap.size (w.heap.size + 1) (th : Int) (fun (_ : Unit) => A0 ++ ini.map fun (q : Fin ps.length) => (ps[q.val]).1) () A B row e4 hg hr⟩) _) (OwnFrom.and (stay_own _ Wl) (ownFrom_below (Nat.le_refl _) (by omega))))
      ⟨(fun q hq => absurd hq (by simp)), (by simpa using HW4.out.2.1), Stay.refl _ _, HW4.out.2.2.2⟩
      (fun x a'' W' => ∃ Bx, Wl.heap.size ≤ Bx ∧ MidAt W' Bx 157 (plCell ps[x.val]) ∧ a'' = { tmps := #[.pointer (some ⟨P, 0, none⟩), .agg #[.int .i64 (th : Int), .int .i64 ek, .int .i64 eo, .bool ef], undef, .pointer (some ⟨w.heap.size, 0, none⟩), .slice none 0 0, .pointer (some ⟨w.heap.size + 1, 0, none⟩), u6, .pointer (some ⟨W.heap.size, 0, none⟩), .pointer (some ⟨Kb, 0, none⟩), u9, .pointer (some ⟨Bx, 0, none⟩), .pointer (some ⟨P, 0, none⟩), .pointer (some ⟨P, 0, none⟩), .pointer (some ⟨P, 16, none⟩), .slice (some ⟨g, 0, none⟩) gs.length vc, .int .i64 (gs.length : Int), .int .i64 (k : Int), .bool true, .pointer (some ⟨g, k * 5, none⟩), .agg #[.int .i64 (gt : Int), .int .i64 gk, .int .i64 go, .bool gf, .slice sa ps.length sc], .pointer (some ⟨W.heap.size, 0, none⟩), .pointer (some ⟨W.heap.size, 0, none⟩), .int .i64 (gt : Int), .pointer (some ⟨w.heap.size, 0, none⟩), .int .i64 (th : Int), .bool false, .bool false, .pointer (some ⟨W.heap.size, 0, none⟩), .agg #[.int .i64 (gt : Int), .int .i64 gk, .int .i64 go, .bool gf], .agg #[.int .i64 (th : Int), .int .i64 ek, .int .i64 eo, .bool ef], .bool true, .bool false, .bool false, .pointer (some ⟨P, 0, none⟩), .pointer (some ⟨w.heap.size, 0, none⟩), .int .i64 (th : Int), .pointer (some ⟨W.heap.size, 0, none⟩), .pointer (some ⟨W.heap.size, 0, none⟩), .int .i64 (gt : Int), .pointer (some ⟨P, 0, none⟩), .pointer (some ⟨P, 0, none⟩), .pointer (some ⟨P, th * 4, none⟩), .pointer (some ⟨P, th * 4 + gt, none⟩), .int .i64 (ls th gt : Int), .pointer (some ⟨W.heap.size, 4, none⟩), .slice sa ps.length sc, .func (.func 115) #[] #[.pointer (some ⟨Kb + 1, 0, none⟩)], .int .i64 (x.val : Int), .agg #[.int .i64 ((ps[x.val]).1 : Nat), .int .i64 ((ps[x.val]).2 : Nat)], u49, u50, u51, u52, u53, u54, u55, u56, u57, u58, u59, u60, u61, undef, undef, undef], defers := [] })
      (fun x a'' _ X Y row hs hg hr => by obtain ⟨Bx, h1, h2, h3⟩ := hs; exact ⟨Bx, h1, h2.keptRow hg (fun r e => (hr r e).2), h3⟩)
      ?assign ?body ?done ?stop
    case assign =>
      rintro l1 pre x W' K' ⟨hN, hR, hS, hB⟩ hK
      dsimp only [backP]
      gi_wp2
      refine hK _ _ ((KeepsOthers.alloc _ _).from _) ⟨(below_alloc1 W' _).mono hB.size, (below_alloc1 W' _).block (Kb + 1) (by have := hS.1; omega)⟩ ⟨hN, hR.later (below_alloc1 W' _), hS.trans (Stay.of_below (below_alloc1 W' _)), hB.trans ((below_alloc1 W' _).mono hB.size)⟩ ⟨W'.heap.size, hS.1, heap_alloc_new W' _, ?_⟩
      rfl
    case body =>
      rintro l1 pre x a'' W' hl ⟨r, hr⟩ ⟨hN, hR, hS, hB⟩ ⟨Bx, hBx, bX, rfl⟩ hlt2
      obtain ⟨lv, bL, ow⟩ := hR
      have hBsl : Kb + 1 < Wl.heap.size := by omega
      have q0 : W'.cell? ⟨Bx, 0, none⟩ = some (.int .i64 ((ps[x.val]).1 : Nat)) := MidAt.cell bX 0
      have q1 : W'.cell? ⟨Bx, 1, none⟩ = some (.int .i64 ((ps[x.val]).2 : Nat)) := MidAt.cell bX 1
      have kn : W'.cell? ⟨Kb, 0, none⟩ = some (.int .i64 (ls th gt)) := MidAt.cell (hS.mid HKN4.out (by have := HKL.out; have := HWs.out; omega) (by decide)) 0
      have HEB := Lib.hid (hS.box HW4.out.1 (by omega))
      obtain ⟨f0, f1, f2, f3⟩ := HEB.out.cells
      have lc := bL.cell
      have HNN := Lib.hid hN
      have HOW := Lib.hid ow
      have HBL := Lib.hid bL
      have HSS := Lib.hid hS
      have HBB := Lib.hid hB
      have hpl : pre.length ≤ 200 := by omega
      clear hN ow bL hS hB bX
      by_cases hle : (ps[x.val]).2 ≤ ls th gt
      · have hq3 : decide (((ps[x.val]).2 : Int) ≤ (ls th gt : Int)) = true := by simpa using hle
        gi_wp2
        exact ⟨(KeepsOthers.refl _).from _, ⟨rfl, pre, x, rfl, HNN.out, hle, ⟨lv, HBL.out, HOW.out⟩⟩, HSS.out, HBB.out⟩
      · have hq3 : decide (((ps[x.val]).2 : Int) ≤ (ls th gt : Int)) = false := by simpa using hle
        have HNX : Hid (∀ q ∈ pre ++ [x], ls th gt < (ps[q.val]).2) := by
          intro q hq
          rcases List.mem_append.1 hq with hq | hq
          · exact HNN.out q hq
          · rw [List.mem_singleton] at hq
            subst hq
            omega
        gi_wp2_with (gi_at_builtin; refine wpListIn_appendRc (w := W'.alloc _) rfl _ _ rfl w.heap.size lv (rcT th (A0 ++ pre.map fun q => (ps[q.val]).1)) rfl (HOW.out.alloc _) ⟨W'.heap.size, 0, none⟩ rfl ((ps[x.val]).1, (th : Int)) (cells_new W' (rcCell ((ps[x.val]).1, (th : Int))) _ _ rfl) (by unfold rcT; simp; omega) (by have := HBB.out.size; simp; omega) ?_; intro v' w1 h5 h6; obtain ⟨g', cap', e7, _, _⟩ := OwnRow.block h5 (by simp); rw [List.length_append, List.length_singleton] at e7; subst e7; obtain ⟨r1, r2, r3, r4, r5, r6⟩ := RcAt.more HBL.out HOW.out HBB.out.size (Nat.le_succ _) h5 h6)
        refine ⟨r3.from _, ⟨r4, ?_⟩, HNX.out, ?_, HSS.out.trans r2, HBB.out.trans r4⟩
        · have hne : Kb + 1 ≠ w.heap.size + 1 := by have := HKL.out; have := HWs.out; omega
          have k1 := HSS.out.2 (Kb + 1) _ HBS.out hne (fun cs fr e => by injection e with _ e2 _; revert e2; decide)
          have k2 := (HSS.out.trans r2).2 (Kb + 1) _ HBS.out hne (fun cs fr e => by injection e with _ e2 _; revert e2; decide)
          exact k2.trans k1.symm
        · show RcAt _ _ _ _ _
          rw [List.map_append, ← List.append_assoc]
          exact r1
    case done =>
      rintro D ys W' hD hys ⟨hN, hR, hS, hB⟩ hK
      have HRG := rcG_backs HPW.out hys (Nat.le_refl _) hN (fun h => absurd h (by omega))
      obtain ⟨v0, b0, _⟩ := HW4.out.2.1
      have HW5 : Hid (RcW w ⟨th, ek, eo, ef⟩ (rcL ls (gs.take (k + 1)) ⟨th, ek, eo, ef⟩) ({ target := .collected D, args := #[] } :: ds) W') := by
        show RcW _ _ _ _ _
        rw [HRW2.out, HRG]
        exact ⟨hS.box HW4.out.1 (by omega), hR, Marks.more HW4.out.2.2.1 (HW4.out.2.2.1.stay hS b0) hD (by omega) hK, hB⟩
      clear hN hR hS hB hys
      gi_wp2
      refine ⟨?_, ?measure⟩
      (repeat apply Exists.intro)
      refine ⟨⟨k + 1, HKX.out, by go_num, HW5⟩, ⟨⟨rfl, rfl, rfl, rfl, rfl, rfl⟩, rfl⟩⟩
      case measure => simp [intOf]; omega
    case stop =>
      rintro D c pre W' hD ⟨k1, hk1, hbk2⟩ ⟨⟨rfl, ini, last, rfl, h4, h5, hR⟩, hS, hB⟩ hK
      obtain ⟨k2, rfl, h6, h7⟩ := Backs.last hbk2
      have HRG := rcG_backs HPW.out h6 (by omega) h4 (fun h => by simpa only [← h7] using h5)
      obtain ⟨v0, b0, _⟩ := HW4.out.2.1
      have HW5 : Hid (RcW w ⟨th, ek, eo, ef⟩ (rcL ls (gs.take (k + 1)) ⟨th, ek, eo, ef⟩) ({ target := .collected D, args := #[] } :: ds) W') := by
        show RcW _ _ _ _ _
        rw [HRW2.out, HRG]
        exact ⟨hS.box HW4.out.1 (by omega), hR, Marks.more HW4.out.2.2.1 (HW4.out.2.2.1.stay hS b0) hD (by omega) hK, hB⟩
      clear h4 h5 hR hS hB hbk2
      gi_wp2
      refine ⟨?_, ?measure⟩
      (repeat apply Exists.intro)
      refine ⟨⟨k + 1, HKX.out, by go_num, HW5⟩, ⟨⟨rfl, rfl, rfl, rfl, rfl, rfl⟩, rfl⟩⟩
      case measure => simp [intOf]; omega

end Go.Proofs.YtnldkmcijmbhcaaGreat

/- A region whose order is drawn, and whose last operation waits for all others: walked with that one left out, then it. -/
namespace Go.Proofs.YtnldkmcijmbhcaaGreat
open Go

section
variable {P : Program} {ops : Array Oper} {Q : Exit → Act → World → Prop} {md : Region.Mode}

/-- An operation that does nothing, in another one's place. -/
def nopOf (o : Oper) : Oper := { o with op := .move (.const undef) }
def butLast (k : Nat) (o : Oper) (ops : Array Oper) : Array Oper := ops.setIfInBounds k (nopOf o)
def exitOr (Q : Exit → Act → World → Prop) (R : Act → World → Prop) : Exit → Act → World → Prop
  | .normal => R
  | e => Q e

theorem exitOr_normal {R : Act → World → Prop} {a : Act} {w : World} (h : R a w) : exitOr Q R .normal a w := h
theorem oper_wpQ {o : Oper} {a : Act} {w : World} {K : Act → World → Prop} {R : Act → World → Prop} (hh : o.wp P a w K (exitOr Q R)) : o.wp P a w K Q := by
  unfold Oper.wp at *
  generalize (execOp a.eval o).run P w = r at *
  cases r with
  | ok n w' =>
    cases n <;> simp only [Oper.upon] at hh ⊢ <;>
      first
        | exact hh
        | exact Calls.mono hh (fun e w'' he => by cases e <;> exact he)
  | halt x w' => cases x <;> simp only [Oper.upon] at hh ⊢ <;> exact hh
theorem but_get {k : Nat} {o : Oper} (ho : ops[k]? = some o) : (butLast k o ops)[k]? = some (nopOf o) := by
  have := (Array.getElem?_eq_some_iff.1 ho).1
  simp [butLast, this]
theorem but_other {k i : Nat} {o : Oper} (hi : i ≠ k) : (butLast k o ops)[i]? = ops[i]? := by
  simp [butLast, Ne.symm hi]
theorem but_size {k : Nat} {o : Oper} : (butLast k o ops).size = ops.size := by simp [butLast]
theorem but_map {k : Nat} {o : Oper} (ho : ops[k]? = some o) {T : Type} (f : Oper → T) (hf : f (nopOf o) = f o) (i : Nat) : ((butLast k o ops)[i]?).map f = (ops[i]?).map f := by
  by_cases e : i = k
  · subst e; rw [but_get ho, ho]; simp [hf]
  · rw [but_other e]
theorem but_ready {k : Nat} {o : Oper} (ho : ops[k]? = some o) (listed : Array Bool) : Region.ready md (butLast k o ops) listed = Region.ready md ops listed := by
  unfold Region.ready
  rw [but_size]
  apply List.filter_congr
  intro i _
  rw [but_map ho _ rfl]
theorem but_yielded {k : Nat} {o : Oper} (ho : ops[k]? = some o) (t : Array Value) : yielded (butLast k o ops) t = yielded ops t := by
  funext j
  unfold yielded
  have h := but_map (T := Option Tmp) ho (fun o => o.dst) rfl j
  have e : ∀ x : Option Oper, x.bind (fun o => o.dst) = (x.map fun o => o.dst).join := by intro x; cases x <;> rfl
  rw [e, e, h]
/-- The first one that has not come up may come up. -/
theorem ready_some (hac : ∀ (j : Nat) (oj : Oper), ops[j]? = some oj → ∀ e ∈ oj.after, e.on < j) (listed : Array Bool) (hs : listed.size = ops.size) : ∀ k, k < ops.size → listed.getD k true = false → Region.ready md ops listed ≠ [] := by
  intro k
  induction k using Nat.strongRecOn with
  | _ k ih =>
    intro hk hl
    by_cases h : ∀ e ∈ (ops[k]).after, Region.binds md e = true → listed.getD e.on false = true
    · intro h0
      have : k ∈ Region.ready md ops listed := mem_ready.2 ⟨hl, ops[k], by simp [hk], h⟩
      rw [h0] at this
      cases this
    · simp only [Classical.not_forall] at h
      obtain ⟨e, he, _, h3⟩ := h
      have h4 := hac k ops[k] (by simp [hk]) e he
      refine ih e.on h4 (by omega) ?_
      have h5 : e.on < listed.size := by omega
      simp [Array.getD, h5] at h3 ⊢
      exact h3
theorem ready_none (listed : Array Bool) (h : ∀ j, j < ops.size → listed.getD j true = true) : Region.ready md ops listed = [] := by
  cases h0 : Region.ready md ops listed with
  | nil => rfl
  | cons x xs =>
    have hx : x ∈ Region.ready md ops listed := by rw [h0]; exact List.mem_cons_self
    obtain ⟨h1, o, h2, _⟩ := mem_ready.1 hx
    rw [h x (Array.getElem?_eq_some_iff.1 h2).1] at h1
    cases h1
theorem listed_at {l : Array Bool} {j : Nat} {d : Bool} (hj : j < l.size) : l.getD j d = l[j] := by simp [Array.getD, hj]
theorem nop_wp {o : Oper} {a : Act} {w : World} {K : Act → World → Prop} (hd : o.dst = none) (h : (nopOf o).wp P a w K Q ∨ ((nopOf o).asks P a w ∧ LetsOut Q)) : K a w := by
  rcases h with h | ⟨h, _⟩
  · simp [nopOf, Oper.wp, execOp, Oper.upon, hd, Act.put] at h
    exact h
  · exfalso
    have h1 : noRoomEvent ∈ (#[] : Array Event) := h.1
    simp at h1
/-- Whatever has come up came behind what it waits for. -/
def Closed (md : Region.Mode) (ops : Array Oper) (listed : Array Bool) : Prop := ∀ (m : Nat) (om : Oper), ops[m]? = some om → listed.getD m false = true → ∀ e ∈ om.after, Region.binds md e = true → listed.getD e.on false = true
theorem listed_set {l : Array Bool} {i j : Nat} (h : l.getD j false = true) : (l.setIfInBounds i true).getD j false = true := by
  have hj : j < l.size := by
    rcases Nat.lt_or_ge j l.size with h' | h'
    · exact h'
    · rw [Array.getD, dif_neg (by omega)] at h; cases h
  rw [listed_at hj] at h
  rw [listed_at (by simpa using hj), Array.getElem_setIfInBounds]
  split
  · rfl
  · exact h
theorem Closed.set {listed : Array Bool} {i : Nat} (h : Closed md ops listed) (hi : i ∈ Region.ready md ops listed) : Closed md ops (listed.setIfInBounds i true) := by
  intro m om hm hl e he hb
  obtain ⟨_, oi, hoi, hall⟩ := mem_ready.1 hi
  by_cases e1 : m = i
  · subst e1
    rw [hm] at hoi
    injection hoi with hoi
    subst hoi
    exact listed_set (hall e he hb)
  · refine listed_set (h m om hm ?_ e he hb)
    have hms : m < listed.size := by
      rcases Nat.lt_or_ge m listed.size with h' | h'
      · exact h'
      · rw [Array.getD, dif_neg (by simp; omega)] at hl; cases hl
    rw [listed_at (by simpa using hms), Array.getElem_setIfInBounds, if_neg (fun e2 => e1 e2.symm)] at hl
    rw [listed_at hms]
    exact hl
theorem any_but_last {k : Nat} {o : Oper} (ho : ops[k]? = some o) (hk : ops.size = k + 1) (hd : o.dst = none) (hg : o.guard = none) (hw : ∀ j, j < k → Region.waitsFor md ops k j = true ∨ ∃ m, Region.waitsFor md ops k m = true ∧ Region.waitsFor md ops m j = true)
    (hac : ∀ (j : Nat) (oj : Oper), ops[j]? = some oj → ∀ e ∈ oj.after, e.on < j) :
    ∀ (fuel : Nat) (listed : Array Bool) (a : Act) (w : World), listed.size = ops.size → listed.getD k true = false → Closed md ops listed → wpAny P md (butLast k o ops) (exitOr Q fun a w => wpOp P ops Q k (Q .normal) a w) fuel listed a w → wpAny P md ops Q fuel listed a w := by
  intro fuel
  induction fuel with
  | zero =>
    intro listed a w hs hl hcl h
    have h1 := h.1
    rw [but_ready ho] at h1
    exact absurd h1 (ready_some hac listed hs k (by omega) hl)
  | succ fuel ih =>
    intro listed a w hs hl hcl h
    obtain ⟨_, h2⟩ := h
    rw [but_ready ho] at h2
    refine ⟨fun h0 => absurd h0 (ready_some hac listed hs k (by omega) hl), fun i hi => ?_⟩
    have h3 := h2 i hi
    by_cases e : i = k
    · subst e
      obtain ⟨_, o', ho', hall⟩ := mem_ready.1 hi
      have hlist : ∀ j, j < ops.size → (listed.setIfInBounds i true).getD j true = true := by
        intro j hj
        have hjs : j < listed.size := by omega
        by_cases e : j = i
        · subst e; simp [Array.getD, hjs]
        · have hwl : ∀ m, Region.waitsFor md ops i m = true → listed.getD m false = true := by
            intro m hm
            obtain ⟨oj, h4, e', he', hb, hon⟩ := Region.waitsFor_spec hm
            rw [ho'] at h4
            injection h4 with h4
            subst h4
            have h5 := hall e' he' hb
            rwa [hon] at h5
          have h5 : listed.getD j false = true := by
            rcases hw j (by omega) with h6 | ⟨m, h6, h7⟩
            · exact hwl j h6
            · obtain ⟨om, h8, e', he', hb, hon⟩ := Region.waitsFor_spec h7
              have h9 := hcl m om h8 (hwl m h6) e' he' hb
              rwa [hon] at h9
          rw [listed_at hjs] at h5
          rw [listed_at (by simpa using hjs), Array.getElem_setIfInBounds, if_neg (fun e2 => e e2.symm)]
          exact h5
      have h4 : wpAny P md (butLast i o ops) (exitOr Q fun a w => wpOp P ops Q i (Q .normal) a w) fuel (listed.setIfInBounds i true) a w := by
        unfold wpOp at h3
        rw [but_get ho] at h3
        have hwn : Region.wanted (nopOf o) (yielded (butLast i o ops) a.tmps) = true := by simp [Region.wanted, nopOf, hg]
        simp only [hwn, if_true] at h3
        exact nop_wp hd h3
      have hr : Region.ready md (butLast i o ops) (listed.setIfInBounds i true) = [] := by rw [but_ready ho]; exact ready_none _ hlist
      have h5 : wpOp P ops Q i (Q .normal) a w := by
        cases fuel with
        | zero => exact h4.2
        | succ f => exact h4.1 hr
      exact wpOp_mono (fun a' w' h6 => wpAny_done (ready_none _ hlist) h6 fuel) h5
    · unfold wpOp at h3 ⊢
      rw [but_other e, but_yielded ho] at h3
      have hK : ∀ a' w', wpAny P md (butLast k o ops) (exitOr Q fun a w => wpOp P ops Q k (Q .normal) a w) fuel (listed.setIfInBounds i true) a' w' → wpAny P md ops Q fuel (listed.setIfInBounds i true) a' w' := fun a' w' h6 =>
        ih (listed.setIfInBounds i true) a' w' (by simpa using hs) (by
          have hks : k < listed.size := by omega
          simp [Array.getD, hks, e] at hl ⊢
          exact hl) (hcl.set hi) h6
      cases hoi : ops[i]? with
      | none => simp only [hoi] at h3 ⊢; exact hK _ _ h3
      | some oi =>
        simp only [hoi] at h3 ⊢
        by_cases hwn : Region.wanted oi (yielded ops a.tmps) = true
        · simp only [hwn, if_true] at h3 ⊢
          rcases h3 with h3 | ⟨h3, b, v, h4⟩
          · exact .inl (Oper.wp_mono hK (oper_wpQ h3))
          · exact .inr ⟨h3, b, v, h4⟩
        · simp only [hwn] at h3 ⊢
          exact hK _ _ h3
/-- The check, by the machine. -/
def lastB (ops : Array Oper) (k : Nat) : Bool :=
  (List.range k).all (fun j => Region.waitsFor .any ops k j || (List.range k).any fun m => Region.waitsFor .any ops k m && Region.waitsFor .any ops m j) && (List.range ops.size).all (fun j => ((ops[j]?).map fun o => o.after.all fun e => decide (e.on < j)).getD true)
theorem region_but_last {id k : Nat} {o : Oper} {a : Act} {w : World} (hm : P.follows .mixedOrders = true) (ho : ops[k]? = some o) (hk : ops.size = k + 1) (hd : o.dst = none) (hg : o.guard = none) (hB : lastB ops k = true) {ops' : Array Oper} (he : butLast k o ops = ops') {S : World → Prop}
    (h : wpAnyH P .any ops' (exitOr Q fun a w => wpOp P ops Q k (Q .normal) a w) S ops'.size (Array.replicate ops'.size false) a { w with drawn := w.drawn + 1 }) : (Code.region id ops true).wp P Q a w := by
  subst he
  unfold lastB at hB
  rw [Bool.and_eq_true, List.all_eq_true, List.all_eq_true] at hB
  refine wp_region_any hm (any_but_last ho hk hd hg (fun j hj => ?_) (fun j oj hj e he => ?_) _ _ _ _ (by simp) (by simp [hk]) (fun m om _ hl => ?_) ?_)
  · have h1 := hB.1 j (List.mem_range.2 hj)
    rw [Bool.or_eq_true, List.any_eq_true] at h1
    rcases h1 with h1 | ⟨m, _, h1⟩
    · exact .inl h1
    · rw [Bool.and_eq_true] at h1
      exact .inr ⟨m, h1⟩
  · have h1 := hB.2 j (List.mem_range.2 (Array.getElem?_eq_some_iff.1 hj).1)
    rw [hj] at h1
    simp at h1
    obtain ⟨n, hn, rfl⟩ := Array.getElem_of_mem he
    exact h1 n hn
  · simp [Array.getD] at hl
  · have h1 := wpAny_of_held _ _ _ _ h
    rw [but_size] at h1
    exact h1
end

end Go.Proofs.YtnldkmcijmbhcaaGreat
