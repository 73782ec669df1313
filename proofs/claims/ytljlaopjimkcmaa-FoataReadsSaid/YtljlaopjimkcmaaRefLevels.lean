/- The contract of the document's Levels. -/
import Derived.Test.YtljlaopjimkcmaaLvOfPlain
import Derived.Test.YtljlaopjimkcmaaLevels
import Derived.Test.YtljlaopjimkcmaaRowF
import Derived.Deep.RegionHeld3
import Derived.Deep.DeepCutAuto
namespace Go.Proofs.Ytljlaopjimkcmaa
open Go.RowKit

/-- Levels stay when a row of another kind grows. -/
theorem OwnLv.keptBy {w w' : World} {B B' n' k' : Nat} {t' : TypeId} {v v' : Value} {ss : List Sl} {m : List (List Ev)} {xs : List Value} (h : OwnLv w B v ss m) (ho : w.ownsRow B' t' n' v' k' xs) (h1 : 22 ≠ t') (h2 : 39 ≠ t') (hg : w.grownBy w' v'.ownBlock) : OwnLv w' B v ss m :=
  ⟨h.len, World.ownsRow.kept h.outer hg (rows_apart h.outer ho h1), fun i hi => World.ownsRow.kept (h.inner i hi) hg (rows_apart (h.inner i hi) ho h2), h.apart⟩
def ats (l : List Ev) (k : Nat) : List Int := (List.range k).map fun i => (atL l i : Int)
theorem ats_len (l : List Ev) (k : Nat) : (ats l k).length = k := by simp [ats]
theorem ats_succ (l : List Ev) (k : Nat) : ats l (k + 1) = ats l k ++ [(atL l k : Int)] := by simp [ats, List.range_succ]
theorem ats_get (l : List Ev) (k : Nat) {i : Nat} (h : i < (ats l k).length) : (ats l k)[i] = atL l i := by simp [ats]
theorem intNeSl : 22 ≠ 3 := by decide
theorem intNeEv : 39 ≠ 3 := by decide

/-- Inserting, part of the way. -/
def InsP (e : Ev) (L : List Ev) (j : Nat) (d : Bool) (R : List Ev) : Prop :=
  (d = false ∧ R = L.take j ∧ insE e L = L.take j ++ insE e (L.drop j)) ∨ (d = true ∧ insE e L = R ++ L.drop j)
theorem insP_zero (e : Ev) (L : List Ev) : InsP e L 0 false [] := .inl ⟨rfl, rfl, rfl⟩
theorem insP_lt {e : Ev} {L : List Ev} {j : Nat} {R : List Ev} (h : InsP e L j false R) (hj : j < L.length) (hlt : e.thread < (evI L j).thread) : InsP e L (j + 1) true (R ++ [e] ++ [evI L j]) := by
  rcases h with ⟨_, h2, h3⟩ | ⟨h1, _⟩
  · right
    refine ⟨rfl, ?_⟩
    rw [h3, List.drop_eq_getElem_cons hj, ← evI_get hj, insE_cons_lt _ hlt, h2]
    simp
  · cases h1
theorem insP_ge {e : Ev} {L : List Ev} {j : Nat} {R : List Ev} (h : InsP e L j false R) (hj : j < L.length) (hge : ¬ e.thread < (evI L j).thread) : InsP e L (j + 1) false (R ++ [evI L j]) := by
  rcases h with ⟨_, h2, h3⟩ | ⟨h1, _⟩
  · left
    have e1 : R ++ [evI L j] = L.take (j + 1) := by rw [h2, List.take_succ_eq_append_getElem hj, evI_get hj]
    refine ⟨rfl, e1, ?_⟩
    rw [h3, List.drop_eq_getElem_cons hj, ← evI_get hj, insE_cons_ge _ hge, List.take_succ_eq_append_getElem hj, ← evI_get hj]
    simp
  · cases h1
theorem insP_on {e : Ev} {L : List Ev} {j : Nat} {R : List Ev} (h : InsP e L j true R) (hj : j < L.length) : InsP e L (j + 1) true (R ++ [evI L j]) := by
  rcases h with ⟨h1, _⟩ | ⟨_, h2⟩
  · cases h1
  · right
    refine ⟨rfl, ?_⟩
    rw [h2, List.drop_eq_getElem_cons hj, evI_get hj]
    simp
theorem insP_end {e : Ev} {L R : List Ev} {d : Bool} (h : InsP e L L.length d R) : (d = false → R ++ [e] = insE e L) ∧ (d = true → R = insE e L) := by
  rcases h with ⟨h1, h2, h3⟩ | ⟨h1, h2⟩
  · subst h1
    refine ⟨fun _ => ?_, fun h => (by cases h)⟩
    rw [h3, h2, List.drop_length, List.take_length]
    rfl
  · subst h1
    refine ⟨fun h => (by cases h), fun _ => ?_⟩
    rw [h2, List.drop_length, List.append_nil]

set_option maxRecDepth 100000 in
set_option maxHeartbeats 8000000 in
theorem refLevels_any (a : Option Addr) (cap : Nat) (l : List Ev) (w : World) (hl : EvsAt w a l) :
    Calls Try.prog 9 #[.slice a l.length cap] w (LvR w.heap.size w (levelsF l)) := by
  have hm := hl.1
  unfold maxLen at hm
  have HL := Lib.hid hl
  have HRC := Lib.hid (rows_any a cap l w hl)
  clear hl
  cases hr : rightL l
  · have HE : Hid (levelsF l = []) := by show _ = _; unfold levelsF rightF; rw [hr]; simp
    rw [hr] at HRC
    clear hr
    go_enter Try.func9, Try.ntmps9
    go_wp2_with fail
    refine HRC.out.mono ?_
    rintro r w1 ⟨rfl, hb1⟩
    clear HRC
    go_wp2
    go_ret
    exact ⟨_, [], rfl, by rw [HE.out]; exact ownLv_nil _ _, hb1⟩
  rw [hr] at HRC
  by_cases h200 : l.length ≤ 200
  case neg =>
    have HE : Hid (levelsF l = []) := by
      have h : decide (l.length ≤ 200) = false := by simp; omega
      show _ = _
      unfold levelsF rightF
      rw [h]
      simp
    have hq : decide ((200 : Int) < (l.length : Int)) = true := by simp; omega
    have hq2 : 200 < l.length := by omega
    clear hr h200
    go_enter Try.func9, Try.ntmps9
    go_wp2_with fail
    refine HRC.out.mono ?_
    rintro r w1 ⟨rfl, hb1⟩
    clear HRC
    go_wp2
    go_ret
    exact ⟨_, [], rfl, by rw [HE.out]; exact ownLv_nil _ _, hb1⟩
  have HE : Hid (levelsF l = lvls l) := by show _ = _; unfold levelsF rightF; rw [hr]; simp [h200]
  have hq : decide ((200 : Int) < (l.length : Int)) = false := by simp; omega
  have hq2 : ¬ 200 < l.length := by omega
  clear hr
  go_enter Try.func9, Try.ntmps9
  go_wp2_with fail
  refine HRC.out.mono ?_
  rintro r w1 ⟨rfl, hb1⟩
  clear HRC
  go_wp2_with fail
  clear hq hq2
  go_loopw [3, 4, 5] (fun v3 v4 i wr => ∃ (k : Nat) (ss : List Sl) (a3 : Option Addr) (c3 : Nat) (a4 : Option Addr) (c4 : Nat), k ≤ l.length ∧ i = .int .i64 k ∧ v3 = .slice a3 k c3 ∧ v4 = .slice a4 (lvls (l.take k)).length c4 ∧ Hid (OwnN wr w.heap.size v3 (ats l k)) ∧ Hid (OwnLv wr w.heap.size v4 ss (lvls (l.take k))) ∧ Hid (Below w.heap.size w wr)) (fun _ _ i _ => l.length - (intOf i).toNat)
  case atStart => exact ⟨0, [], none, 0, none, 0, Nat.zero_le _, rfl, rfl, rfl, ownN_nil _ _, ownLv_nil _ _, hb1⟩
  case round =>
    clear hb1
    obtain ⟨k, ss, a3, c3, a4, c4, hk, rfl, rfl, rfl, HN, HV, HB⟩ := hrel
    by_cases hlt : k < l.length
    · obtain ⟨b, o, rfl, t0, t1, t2, t3⟩ := HL.out.one hlt
      have HT := Lib.hid (lvls_take l hlt)
      have hmk : (lvls (l.take k)).length ≤ k := by have := lv_count (l.take k); rw [List.length_take] at this; omega
      have HS : Hid (∀ i, ((lvls (l.take k)).getD i []).length ≤ 200) := fun i => by have := lv_small (l.take k) i; rw [List.length_take] at this; omega
      have HMX := Lib.hid (maxN_lvN l (evI l k) hk)
      have HAK : Hid (atL l k = lvN (lvls (l.take k)) (evI l k)) := rfl
      have HSU : Hid (∀ j, maxN l (evI l k) (j + 1) = if dep (evI l j) (evI l k) then max (maxN l (evI l k) j) (atL l j + 1) else maxN l (evI l k) j) := fun j => maxN_succ l _ j
      have HMB : Hid (∀ j, j ≤ k → maxN l (evI l k) j ≤ 201) := fun j hj => top_le fun i hi _ => by have := atL_le l (show i < l.length by omega); show atL l i + 1 ≤ 201; omega
      have HAB : Hid (∀ j, j < l.length → atL l j ≤ 200) := fun j hj => by have := atL_le l hj; omega
      have HZ : Hid (maxN l (evI l k) 0 = 0) := rfl
      obtain ⟨a3', c3', hv3, hn3, _⟩ := OwnN.form HN.out (by rw [ats_len]; omega)
      rw [ats_len] at hv3
      injection hv3 with hv3 _ hc3
      subst hv3 hc3
      have HN3 := Lib.hid hn3
      have HTE := Lib.hid (And.intro t0 (And.intro t1 (And.intro t2 t3)))
      have hle := lvN_le (lvls (l.take k)) (evI l k)
      clear t0 t1 t2 t3 hn3
      generalize lvls (l.take k) = m at *
      generalize hek : evI l k = e at *
      have HEK := Lib.hid hek
      clear hek
      go_wp2_with fail
      go_loopw [6, 7] (fun s6 i wr2 => ∃ (j N : Nat), j ≤ k ∧ i = .int .i64 j ∧ s6 = .int .i64 (N : Int) ∧ Hid (N = maxN l e j) ∧ Hid (Below wr.heap.size wr wr2)) (fun _ i _ => k - (intOf i).toNat)
      case atStart => exact ⟨0, 0, Nat.zero_le _, rfl, rfl, HZ.out.symm, Below.refl _ _⟩
      case round =>
        obtain ⟨j, N, hj, rfl, rfl, HNE, HB2⟩ := hrel
        have HBW := Lib.hid (HB.out.trans (HB2.out.mono HB.out.size))
        by_cases hjk : j < k
        · obtain ⟨b9, o9, e9, x0, x1, x2, x3⟩ := HL.out.one (show j < l.length by omega)
          injection e9 with e9
          injection e9 with e9 e10
          subst e9 e10
          have hji : (j : Int) < (l.length : Int) := by omega
          have hji0 : (0 : Int) ≤ j := by omega
          have hki : (k : Int) < (l.length : Int) := by omega
          have hjk2 : (j : Int) < (k : Int) := by omega
          have hMb : N ≤ 201 := by rw [HNE.out]; exact HMB.out j (by omega)
          have hAb := HAB.out j (by omega)
          have HSJ := Lib.hid (HSU.out j)
          obtain ⟨b3, o3, rfl, hn3⟩ := HN3.out.2 (by intro h; have := ats_len l k; rw [h] at this; simp at this; omega)
          have q3 := cell_later HB2.out (hn3 j (by rw [ats_len]; exact hjk))
          rw [ats_get] at q3
          clear hn3
          generalize atL l j = A at *
          generalize evI l j = x at *
          have HQ : Hid (∀ W, Below wr.heap.size wr W → (W.cell? ⟨b, o + j * 4, none⟩ = some (.int .i64 x.thread) ∧ W.cell? ⟨b, o + j * 4 + 1, none⟩ = some (.int .i64 x.kind) ∧ W.cell? ⟨b, o + j * 4 + 2, none⟩ = some (.int .i64 x.obj) ∧ W.cell? ⟨b, o + j * 4 + 3, none⟩ = some (.bool x.fail)) ∧ (W.cell? ⟨b, o + k * 4, none⟩ = some (.int .i64 e.thread) ∧ W.cell? ⟨b, o + k * 4 + 1, none⟩ = some (.int .i64 e.kind) ∧ W.cell? ⟨b, o + k * 4 + 2, none⟩ = some (.int .i64 e.obj) ∧ W.cell? ⟨b, o + k * 4 + 3, none⟩ = some (.bool e.fail)) ∧ W.cell? ⟨b3, o3 + j, none⟩ = some (.int .i64 (A : Int))) := fun W hW => by
            have h := HBW.out.trans (hW.mono HBW.out.size)
            exact ⟨⟨cell_later h x0, cell_later h x1, cell_later h x2, cell_later h x3⟩, ⟨cell_later h HTE.out.1, cell_later h HTE.out.2.1, cell_later h HTE.out.2.2.1, cell_later h HTE.out.2.2.2⟩, cell_later hW q3⟩
          have hB9 : Below wr.heap.size wr wr.drew := (Below.refl _ _).drew
          clear x0 x1 x2 x3 q3
          go_wp2_with fail
          go_region_held3 (fun W => (W.cell? ⟨b, o + j * 4, none⟩ = some (.int .i64 x.thread) ∧ W.cell? ⟨b, o + j * 4 + 1, none⟩ = some (.int .i64 x.kind) ∧ W.cell? ⟨b, o + j * 4 + 2, none⟩ = some (.int .i64 x.obj) ∧ W.cell? ⟨b, o + j * 4 + 3, none⟩ = some (.bool x.fail)) ∧ (W.cell? ⟨b, o + k * 4, none⟩ = some (.int .i64 e.thread) ∧ W.cell? ⟨b, o + k * 4 + 1, none⟩ = some (.int .i64 e.kind) ∧ W.cell? ⟨b, o + k * 4 + 2, none⟩ = some (.int .i64 e.obj) ∧ W.cell? ⟨b, o + k * 4 + 3, none⟩ = some (.bool e.fail)) ∧ W.cell? ⟨b3, o3 + j, none⟩ = some (.int .i64 (A : Int))) (first | exact HQ.out _ hB9 | exact HQ.out _ hB10)
            (first | (go_at_call 23; ((with_reducible refine (refDepends_any x e _).mono ?_); rintro r w10 ⟨rfl, hb10⟩; have hB10 := hB9.trans (hb10.mono hB9.size); clear hB9)))
          have HB10 := Lib.hid (HB2.out.trans (hB10.mono HB2.out.size))
          have q4 := (HQ.out _ hB10).2.2
          cases hd : dep x e
          · have HN2 : Hid (N = maxN l e (j + 1)) := by have h := HSJ.out; rw [hd] at h; show _ = _; rw [HNE.out, h]; rfl
            clear hd
            go_wp2
            go_roundw
            case rel => exact ⟨j + 1, N, by omega, by go_num, rfl, HN2.out, HB10.out⟩
            case measure => simp [intOf]; omega
          · have HN2 : Hid (max N (A + 1) = maxN l e (j + 1)) := by have h := HSJ.out; rw [hd] at h; show _ = _; rw [h, HNE.out]; rfl
            have hwA : IntKind.i64.wrap ((A : Int) + 1) = (A : Int) + 1 := IntWalk.i64_in _ (by omega)
            clear hd
            go_wp2
            go_roundw
            case rel => exact ⟨j + 1, max N (A + 1), by omega, by go_num, by congr 1; omega, HN2.out, HB10.out⟩
            case measure => simp [intOf]; omega
        · obtain rfl : j = k := by omega
          have HNW := Lib.hid (HN.out.later HB2.out)
          have HVW := Lib.hid (HV.out.later HB2.out)
          have hBs := HBW.out.size
          have hal : (ats l j).length = j := ats_len l j
          have HNN : Hid (N = lvN m e) := by show _ = _; rw [HNE.out]; exact HMX.out
          have hnm : lvN m e ≤ m.length := hle
          rw [← HNN.out] at HAK hnm
          clear HMX HSU HMB HZ HN3 HN HV HNE hle
          go_upto_if 53 with (at_builtin; refine wp_appendN rfl _ _ rfl w.heap.size _ (ats l j) rfl (HNW.out.alloc _) ⟨wr.heap.size, 0, none⟩ 1 1 rfl [(N : Int)] rfl (nums_new wr [(N : Int)] _ _ rfl) (by rw [hal]; omega) (by simp; omega) ?_; intro v9 w9 h9 hb9 hg9; have HV9 : Hid (OwnLv w9 w.heap.size (.slice a4 m.length c4) ss m) := OwnLv.keptBy (HVW.out.later (below_alloc1 wr _)) (HNW.out.alloc _) intNeSl intNeEv hg9; have HN9 : Hid (OwnN w9 w.heap.size v9 (ats l (j + 1))) := (by show OwnN _ _ _ _; rw [ats_succ, HAK.out]; exact h9); have HB9 : Hid (Below w.heap.size w w9) := (HBW.out.trans ((below_alloc1 wr _).mono hBs)).trans hb9; clear h9 hb9 hg9)
          obtain ⟨a9, c9, hv9, _, _⟩ := OwnN.form HN9.out (by rw [ats_len]; omega)
          rw [ats_len] at hv9
          subst hv9
          clear HNW HVW HBW HB HB2
          go_cut [4] (fun s4 wx => ∃ (g M cap3 : Nat) (ss2 : List Sl), s4 = .slice (some ⟨g, 0, none⟩) M cap3 ∧ N < M ∧ M ≤ 300 ∧ Hid (M = (extL m N).length ∧ OwnLv wx w.heap.size s4 ss2 (extL m N)) ∧ Hid (OwnN wx w.heap.size (.slice a9 (j + 1) c9) (ats l (j + 1))) ∧ Hid (Below w.heap.size w wx))
          case first =>
            by_cases hnl : N < m.length
            · have hq : ((N : Int) == (m.length : Int)) = false := by simp; omega
              have HEX : Hid (extL m N = m) := by show _ = _; unfold extL; rw [if_pos hnl]
              obtain ⟨g, capg, hv, _, _⟩ := OwnRow.block HV9.out.outer (by intro h; have := HV9.out.len; rw [h] at this; simp at this; omega)
              injection hv with hv1 hv2 hv3
              subst hv1
              clear hv2 hv3
              go_wp2_with fail
              go_meet
              exact ⟨g, m.length, c4, ss, rfl, hnl, by omega, ⟨by rw [HEX.out], by rw [HEX.out]; exact HV9.out⟩, HN9.out, HB9.out⟩
            · have hnm2 : N = m.length := by omega
              have hq : ((N : Int) == (m.length : Int)) = true := by simp; omega
              have HEX : Hid (extL m N = m ++ [[]]) := by show _ = _; unfold extL; rw [if_neg hnl]
              have HN2 := Lib.hid hnm2
              have hB2 : w.heap.size ≤ w9.heap.size := HB9.out.size
              have hss : ss.length ≤ 1000 := by have := HV9.out.len; omega
              clear hnl hnm2
              go_wp2_with (at_builtin; refine wp_appendR (f := slCell) (n := 1) 24 22 24 (.slice none 0 0) Try.underlying24 infoSl rfl (by omega) (by omega) slCell_len rfl _ _ rfl w.heap.size _ ss rfl (HV9.out.outer.alloc _) ⟨w9.heap.size, 0, none⟩ rfl ⟨none, 0, 0⟩ (slCell_one _) (cells_new w9 (slCell ⟨none, 0, 0⟩) _ _ rfl) (by omega) (by simp; omega) ?_; intro v' w' h1 h2 h3; obtain ⟨g, capg, hv, _, _⟩ := OwnRow.block h1 (by simp); rw [List.length_append, List.length_singleton] at hv; subst hv)
              go_meet
              have hb4 : Below w.heap.size w9 w' := (below_alloc1 w9 _).mono hB2 |>.trans h2
              have hv4 : OwnLv w' w.heap.size (.slice (some ⟨g, 0, none⟩) (ss.length + 1) capg) (ss ++ [⟨none, 0, 0⟩]) (m ++ [[]]) := OwnLv.more (HV9.out.later (below_alloc1 w9 _)) h1 h3
              have hn4 : OwnN w' w.heap.size (.slice a9 (j + 1) c9) (ats l (j + 1)) := World.ownsRow.kept (HN9.out.alloc _) h3 (rows_apart (HN9.out.alloc (.cells #[.slice none 0 0] 22)) (HV9.out.outer.alloc _) (Ne.symm intNeSl))
              exact ⟨g, ss.length + 1, capg, _, rfl, by have := HV9.out.len; have := HN2.out; omega, by have := HV9.out.len; omega, ⟨by rw [HEX.out]; simp [HV9.out.len], by rw [HEX.out]; exact hv4⟩, hn4, HB9.out.trans hb4⟩
          case rest =>
            obtain ⟨g, M, cap3, ss2, rfl, hnM, hM300, HW, HNc, HBc⟩ := hcut
            clear HV9 HN9 HB9
            have hn2 : N < ss2.length := by rw [HW.out.2.len, ← HW.out.1]; exact hnM
            have x0 := OwnLv.cell HW.out.2 HW.out.1 hn2
            have hin := HW.out.2.inner N hn2
            rw [extL_get] at hin
            have HLs := HS.out N
            obtain ⟨L, hL⟩ : ∃ L, L = m.getD N [] := ⟨_, rfl⟩
            rw [← hL] at hin HLs
            obtain ⟨hsn, hse, _, _⟩ := OwnE.sl hin (by omega)
            rw [hsn] at x0
            have HSE := Lib.hid hse
            have HLL := Lib.hid hL
            have HSN := Lib.hid hsn
            clear hin hsn hse hL
            have hg0 : ∀ W, Below wc.heap.size wc W → W.cell? ⟨g, N, none⟩ = some (.slice ss2[N].a L.length ss2[N].c) := fun W hW => cell_later hW x0
            have HG0 := Lib.hid hg0
            have hMi : (N : Int) < (M : Int) := by omega
            have hMi0 : (0 : Int) ≤ N := by omega
            have hji : (j : Int) < (l.length : Int) := by omega
            have hji0 : (0 : Int) ≤ j := by omega
            have HEE : Hid (∀ W, Below wc.heap.size wc W → W.cell? ⟨b, o + j * 4, none⟩ = some (.int .i64 e.thread) ∧ W.cell? ⟨b, o + j * 4 + 1, none⟩ = some (.int .i64 e.kind) ∧ W.cell? ⟨b, o + j * 4 + 2, none⟩ = some (.int .i64 e.obj) ∧ W.cell? ⟨b, o + j * 4 + 3, none⟩ = some (.bool e.fail)) := fun W hW => by
              have h := HBc.out.trans (hW.mono HBc.out.size)
              exact ⟨cell_later h HTE.out.1, cell_later h HTE.out.2.1, cell_later h HTE.out.2.2.1, cell_later h HTE.out.2.2.2⟩
            clear hg0 x0
            go_wp2_with fail
            go_loopw [8, 9, 10] (fun s8 s9 i wr => ∃ (q : Nat) (d : Bool) (R : List Ev), q ≤ L.length ∧ i = .int .i64 q ∧ s9 = .bool d ∧ R.length ≤ q + 1 ∧ Hid (InsP e L q d R) ∧ Hid (OwnE wr wc.heap.size s8 R) ∧ Hid (Below wc.heap.size wc wr)) (fun _ _ i _ => L.length - (intOf i).toNat)
            case atStart => exact ⟨0, false, [], Nat.zero_le _, rfl, rfl, by simp, insP_zero e L, ownE_nil _ _, Below.refl _ _⟩
            case round =>
              obtain ⟨q, d, R, hq, rfl, rfl, hRl, HI, HO, HB3⟩ := hrel
              have g0 := HG0.out _ HB3.out
              have hbs := HB3.out.size
              by_cases hql : q < L.length
              · obtain ⟨bL, oL, hsa, y0, y1, y2, y3⟩ := HSE.out.one hql
                rw [hsa] at g0
                have z0 := cell_later HB3.out y0
                have z1 := cell_later HB3.out y1
                have z2 := cell_later HB3.out y2
                have z3 := cell_later HB3.out y3
                obtain ⟨e0, e1, e2, e3⟩ := HEE.out _ HB3.out
                have hqi : (q : Int) < (L.length : Int) := by omega
                have hqi0 : (0 : Int) ≤ q := by omega
                have HLT : Hid (d = false → e.thread < (evI L q).thread → InsP e L (q + 1) true (R ++ [e] ++ [evI L q])) := fun hd h => by subst hd; exact insP_lt HI.out hql h
                have HGE : Hid (d = false → ¬ e.thread < (evI L q).thread → InsP e L (q + 1) false (R ++ [evI L q])) := fun hd h => by subst hd; exact insP_ge HI.out hql h
                have HON : Hid (d = true → InsP e L (q + 1) true (R ++ [evI L q])) := fun hd => by subst hd; exact insP_on HI.out hql
                have HOW : Hid (∀ n, OwnE (wr.drewN n) wc.heap.size u8 R ∧ Below wc.heap.size wc (wr.drewN n)) := fun n => ⟨HO.out, HB3.out.drewN⟩
                have HALL : Hid (∀ W, Below wc.heap.size wc W → W.cell? ⟨g, N, none⟩ = some (.slice (some ⟨bL, oL, none⟩) L.length ss2[N].c) ∧ W.cell? ⟨bL, oL + q * 4, none⟩ = some (.int .i64 (evI L q).thread) ∧ W.cell? ⟨bL, oL + q * 4 + 1, none⟩ = some (.int .i64 (evI L q).kind) ∧ W.cell? ⟨bL, oL + q * 4 + 2, none⟩ = some (.int .i64 (evI L q).obj) ∧ W.cell? ⟨bL, oL + q * 4 + 3, none⟩ = some (.bool (evI L q).fail)) := fun W hW => ⟨by have h := HG0.out _ hW; rw [hsa] at h; exact h, cell_later hW y0, cell_later hW y1, cell_later hW y2, cell_later hW y3⟩
                clear y0 y1 y2 y3 hsa
                generalize evI L q = y at *
                cases d
                · by_cases hty : e.thread < y.thread
                  · have hqt : decide (e.thread < y.thread) = true := by simp [hty]
                    have HI2 := Lib.hid (HLT.out rfl hty)
                    have hI0 : R.length ≤ q := by rcases HI.out with ⟨_, h, _⟩ | ⟨h, _⟩; · rw [h, List.length_take]; omega
                                                  · cases h
                    clear hty
                    go_wp2_with fail
                    go_quiet (fail)
                    have HOQ := Lib.hid (HOW.out nq).1
                    have HBQ := Lib.hid (HOW.out nq).2
                    go_wp2_with (first
                      | (at_builtin; refine wp_appendE rfl _ _ rfl _ _ (R ++ [e]) rfl (HO9.out.alloc _) ⟨w9.heap.size, 0, none⟩ rfl y (ev_new w9 y _ _ rfl) (by simp; omega) (Nat.le_trans HB9.out.size (below_alloc1 _ _).size) ?_; intro v2 w2 hown2 hb2; have HO2 := Lib.hid hown2; have HB2 := Lib.hid ((HB9.out.alloc HB9.out.size _).trans hb2); clear hown2 hb2)
                      | (at_builtin; refine wp_appendE rfl _ _ rfl _ _ R rfl (HOQ.out.alloc _) ⟨wr.heap.size, 0, none⟩ rfl e (ev_new (wr.drewN nq) e _ _ rfl) (by omega) (Nat.le_trans HBQ.out.size (below_alloc1 _ _).size) ?_; intro v9 w9 hown9 hb9; have HO9 := Lib.hid hown9; have HB9 := Lib.hid ((HBQ.out.alloc HBQ.out.size _).trans hb9); obtain ⟨p0, p1, p2, p3, p4⟩ := HALL.out _ HB9.out; clear hown9 hb9))
                    go_roundw
                    case rel => exact ⟨q + 1, true, R ++ [e] ++ [y], by omega, by go_num, rfl, by simp; omega, HI2.out, HO2.out, HB2.out⟩
                    case measure => simp [intOf]; omega
                  · have hqt : decide (e.thread < y.thread) = false := by simp; omega
                    have HI2 := Lib.hid (HGE.out rfl hty)
                    have hI0 : R.length ≤ q := by rcases HI.out with ⟨_, h, _⟩ | ⟨h, _⟩; · rw [h, List.length_take]; omega
                                                  · cases h
                    clear hty
                    go_wp2_with fail
                    go_quiet (fail)
                    have HOQ := Lib.hid (HOW.out nq).1
                    have HBQ := Lib.hid (HOW.out nq).2
                    go_wp2_with (at_builtin; refine wp_appendE rfl _ _ rfl _ _ R rfl (HOQ.out.alloc _) ⟨wr.heap.size, 0, none⟩ rfl y (ev_new (wr.drewN nq) y _ _ rfl) (by omega) (Nat.le_trans HBQ.out.size (below_alloc1 _ _).size) ?_; intro v9 w9 hown9 hb9; have HO9 := Lib.hid hown9; have HB9 := Lib.hid ((HBQ.out.alloc HBQ.out.size _).trans hb9); clear hown9 hb9)
                    go_roundw
                    case rel => exact ⟨q + 1, false, R ++ [y], by omega, by go_num, rfl, by simp; omega, HI2.out, HO9.out, HB9.out⟩
                    case measure => simp [intOf]; omega
                · have HI2 := Lib.hid (HON.out rfl)
                  go_wp2_with fail
                  go_quiet (fail)
                  have HOQ := Lib.hid (HOW.out nq).1
                  have HBQ := Lib.hid (HOW.out nq).2
                  go_wp2_with (at_builtin; refine wp_appendE rfl _ _ rfl _ _ R rfl (HOQ.out.alloc _) ⟨wr.heap.size, 0, none⟩ rfl y (ev_new (wr.drewN nq) y _ _ rfl) (by omega) (Nat.le_trans HBQ.out.size (below_alloc1 _ _).size) ?_; intro v9 w9 hown9 hb9; have HO9 := Lib.hid hown9; have HB9 := Lib.hid ((HBQ.out.alloc HBQ.out.size _).trans hb9); clear hown9 hb9)
                  go_roundw
                  case rel => exact ⟨q + 1, true, R ++ [y], by omega, by go_num, rfl, by simp; omega, HI2.out, HO9.out, HB9.out⟩
                  case measure => simp [intOf]; omega
              · obtain rfl : q = L.length := by omega
                obtain ⟨hi1, hi2⟩ := insP_end HI.out
                have HINS1 := Lib.hid hi1
                have HINS2 := Lib.hid hi2
                have hbl : w.heap.size ≤ wc.heap.size := HBc.out.size
                have HSN2 : Hid (ss2.length = M) := by show _ = _; rw [HW.out.2.len, ← HW.out.1]
                have HPUT : Hid (∀ (W : World) (v : Value), OwnE W wc.heap.size v (insE e L) → Below wc.heap.size wc W → ∃ s' : Sl, v = .slice s'.a s'.n s'.c ∧ (∃ old, W.cell? ⟨g, N, none⟩ = some old) ∧ W.frozen? ⟨g, N, none⟩ = false ∧ OwnLv (W.setCell ⟨g, N, none⟩ (.slice s'.a s'.n s'.c)) w.heap.size (.slice (some ⟨g, 0, none⟩) M cap3) (ss2.set N s') (lvls (l.take (j + 1))) ∧ OwnN (W.setCell ⟨g, N, none⟩ (.slice s'.a s'.n s'.c)) w.heap.size (.slice a9 (j + 1) c9) (ats l (j + 1)) ∧ Below w.heap.size w (W.setCell ⟨g, N, none⟩ (.slice s'.a s'.n s'.c))) := fun W v hv hW => by
                  obtain ⟨a', cap', hv', _⟩ := OwnE.form hv (by rw [insE_length]; omega)
                  subst hv'
                  obtain ⟨p1, p2, p3⟩ := OwnLv.put HW.out.2 HW.out.1 hnM hn2 (s' := ⟨a', (insE e L).length, cap'⟩) (ownsRow_base hv hbl) (grown_below hW _) (fun b hb => .inr (World.ownsRow.lt hv b hb).1)
                  have hsN : ss2.length = M := by rw [HW.out.2.len, ← HW.out.1]
                  have hout : W.ownsRow w.heap.size 22 1 (.slice (some ⟨g, 0, none⟩) M cap3) ss2.length (cellsL slCell ss2) := HW.out.2.outer.later hW
                  rw [hsN] at hout
                  have hst := hout.stored N (.slice a' (insE e L).length cap')
                  have hgB : w.heap.size ≤ g := (World.ownsRow.lt hout g rfl).1
                  refine ⟨⟨a', (insE e L).length, cap'⟩, rfl, Option.isSome_iff_exists.1 p2, p3, ?_, World.ownsRow.kept (HNc.out.later hW) hst.2 (rows_apart (HNc.out.later hW) hout (Ne.symm intNeSl)), (HBc.out.trans (hW.mono hbl)).setCell (p := ⟨g, N, none⟩) hgB _⟩
                  rw [HT.out, addL_ext, ← HNN.out, extL_get, ← HLL.out]
                  exact p1
                cases d
                · obtain ⟨e0, e1, e2, e3⟩ := HEE.out _ HB3.out
                  have HIN := Lib.hid (HINS1.out rfl)
                  have hRl2 : R.length ≤ 200 + 1 := by omega
                  go_wp2_with (at_builtin; refine wp_appendE rfl _ _ rfl _ _ R rfl (HO.out.alloc _) ⟨wr.heap.size, 0, none⟩ rfl e (ev_new wr e _ _ rfl) (by omega) (Nat.le_trans HB3.out.size (below_alloc1 _ _).size) ?_; intro v9 w9 hown9 hb9; rw [HIN.out] at hown9; obtain ⟨s9, rfl, ⟨old, q2⟩, q3, q4, q5, q6⟩ := HPUT.out _ _ hown9 ((HB3.out.alloc HB3.out.size _).trans hb9); have p0 := HG0.out _ ((HB3.out.alloc HB3.out.size _).trans hb9); have Q4 := Lib.hid q4; have Q5 := Lib.hid q5; have Q6 := Lib.hid q6; clear hown9 hb9 q4 q5 q6)
                  go_roundw
                  case rel => exact ⟨j + 1, _, a9, c9, _, cap3, by omega, by go_num, rfl, by rw [← Q4.out.len, List.length_set, HSN2.out], Q5.out, Q4.out, Q6.out⟩
                  case measure => simp [intOf]; omega
                · have HIN := Lib.hid (HINS2.out rfl)
                  have hown9 := HO.out
                  rw [HIN.out] at hown9
                  obtain ⟨s9, rfl, ⟨old, q2⟩, q3, q4, q5, q6⟩ := HPUT.out _ _ hown9 HB3.out
                  have Q4 := Lib.hid q4
                  have Q5 := Lib.hid q5
                  have Q6 := Lib.hid q6
                  clear hown9 q4 q5 q6
                  go_wp2_with fail
                  go_roundw
                  case rel => exact ⟨j + 1, _, a9, c9, _, cap3, by omega, by go_num, rfl, by rw [← Q4.out.len, List.length_set, HSN2.out], Q5.out, Q4.out, Q6.out⟩
                  case measure => simp [intOf]; omega
    · obtain rfl : k = l.length := by omega
      rw [List.take_length] at HV ⊢
      clear HN
      go_wp2
      go_ret
      exact ⟨_, ss, rfl, by rw [HE.out]; exact HV.out, HB.out⟩

end Go.Proofs.Ytljlaopjimkcmaa
