import Derived.Deep.RegionHeld3
import Derived.Deep.DeepCutAuto
import Derived.Sort.Walk0
import Derived.Test.YtopklnehhebhmaaPk03
import Derived.Test.YtopklnehhebhmaaPk04
import Derived.Test.YtopklnehhebhmaaPk05

/- The contract of the document's Levels. -/
namespace Go.Proofs.Ytopklnehhebhmaa
open Go.RowKit

/-- Levels stay when a row of another kind grows. -/
theorem OwnLv.keptBy {w w' : World} {B B' n' k' : Nat} {t' : TypeId} {v v' : Value} {ss : List Sl} {m : List (List Ev)} {xs : List Value} (h : OwnLv w B v ss m) (ho : w.ownsRow B' t' n' v' k' xs) (h1 : 63 ≠ t') (h2 : 73 ≠ t') (hg : w.grownBy w' v'.ownBlock) : OwnLv w' B v ss m :=
  ⟨h.len, World.ownsRow.kept h.outer hg (rows_apart h.outer ho h1), fun i hi => World.ownsRow.kept (h.inner i hi) hg (rows_apart (h.inner i hi) ho h2), h.apart⟩
def ats (l : List Ev) (k : Nat) : List Int := (List.range k).map fun i => (atL l i : Int)
theorem ats_len (l : List Ev) (k : Nat) : (ats l k).length = k := by simp [ats]
theorem ats_succ (l : List Ev) (k : Nat) : ats l (k + 1) = ats l k ++ [(atL l k : Int)] := by simp [ats, List.range_succ]
theorem ats_get (l : List Ev) (k : Nat) {i : Nat} (h : i < (ats l k).length) : (ats l k)[i] = atL l i := by simp [ats]
theorem intNeSl : 63 ≠ 3 := by decide
theorem intNeEv : 73 ≠ 3 := by decide

/-- Inserting, part of the way. -/
def InsP (e : Ev) (L : List Ev) (j : Nat) (d : Bool) (R : List Ev) : Prop :=
  (d = false ∧ R = L.take j ∧ insE e L = L.take j ++ insE e (L.drop j)) ∨ (d = true ∧ insE e L = R ++ L.drop j)
theorem insP_zero (e : Ev) (L : List Ev) : InsP e L 0 false [] := .inl ⟨rfl, rfl, rfl⟩
theorem insP_lt {e : Ev} {L : List Ev} {j : Nat} {R : List Ev} (h : InsP e L j false R) (hj : j < L.length) (hlt : e.thread < (evI L j).thread) : InsP e L (j + 1) true (R ++ [e] ++ [evI L j]) := by
  rcases h with ⟨_, h2, h3⟩ | ⟨h1, _⟩
  · right
    refine ⟨rfl, ?_⟩
    rw [h3, List.drop_eq_getElem_cons hj, ← evI_get hj, insE_cons_lt _ hlt, h2]
    simp
  · cases h1
theorem insP_ge {e : Ev} {L : List Ev} {j : Nat} {R : List Ev} (h : InsP e L j false R) (hj : j < L.length) (hge : ¬ e.thread < (evI L j).thread) : InsP e L (j + 1) false (R ++ [evI L j]) := by
  rcases h with ⟨_, h2, h3⟩ | ⟨h1, _⟩
  · left
    have e1 : R ++ [evI L j] = L.take (j + 1) := by rw [h2, List.take_succ_eq_append_getElem hj, evI_get hj]
    refine ⟨rfl, e1, ?_⟩
    rw [h3, List.drop_eq_getElem_cons hj, ← evI_get hj, insE_cons_ge _ hge, List.take_succ_eq_append_getElem hj, ← evI_get hj]
    simp
  · cases h1
theorem insP_on {e : Ev} {L : List Ev} {j : Nat} {R : List Ev} (h : InsP e L j true R) (hj : j < L.length) : InsP e L (j + 1) true (R ++ [evI L j]) := by
  rcases h with ⟨h1, _⟩ | ⟨_, h2⟩
  · cases h1
  · right
    refine ⟨rfl, ?_⟩
    rw [h2, List.drop_eq_getElem_cons hj, evI_get hj]
    simp
theorem insP_end {e : Ev} {L R : List Ev} {d : Bool} (h : InsP e L L.length d R) : (d = false → R ++ [e] = insE e L) ∧ (d = true → R = insE e L) := by
  rcases h with ⟨h1, h2, h3⟩ | ⟨h1, h2⟩
  · subst h1
    refine ⟨fun _ => ?_, fun h => (by cases h)⟩
    rw [h3, h2, List.drop_length, List.take_length]
    rfl
  · subst h1
    refine ⟨fun h => (by cases h), fun _ => ?_⟩
    rw [h2, List.drop_length, List.append_nil]

set_option maxRecDepth 100000 in
set_option maxHeartbeats 8000000 in
theorem refLevels_any (a : Option Addr) (cap : Nat) (l : List Ev) (w : World) (hl : EvsAt w a l) :
    Calls Try.prog 61 #[.slice a l.length cap] w (LvR w.heap.size w (levelsF l)) := by
  have hm := hl.1
  unfold maxLen at hm
  have HL := Lib.hid hl
  have HRC := Lib.hid (rows_any a cap l w hl)
  clear hl
  cases hr : rightL l
  · have HE : Hid (levelsF l = []) := by show _ = _; unfold levelsF rightF; rw [hr]; simp
    rw [hr] at HRC
    clear hr
    go_enter Try.func61, Try.ntmps61
    go_wp2_with fail
    refine HRC.out.mono ?_
    rintro r w1 ⟨rfl, hb1⟩
    clear HRC
    go_wp2
    go_ret
    exact ⟨_, [], rfl, by rw [HE.out]; exact ownLv_nil _ _, hb1⟩
  rw [hr] at HRC
  by_cases h200 : l.length ≤ 200
  case neg =>
    have HE : Hid (levelsF l = []) := by
      have h : decide (l.length ≤ 200) = false := by simp; omega
      show _ = _
      unfold levelsF rightF
      rw [h]
      simp
    have hq : decide ((200 : Int) < (l.length : Int)) = true := by simp; omega
    have hq2 : 200 < l.length := by omega
    clear hr h200
    go_enter Try.func61, Try.ntmps61
    go_wp2_with fail
    refine HRC.out.mono ?_
    rintro r w1 ⟨rfl, hb1⟩
    clear HRC
    go_wp2
    go_ret
    exact ⟨_, [], rfl, by rw [HE.out]; exact ownLv_nil _ _, hb1⟩
  have HE : Hid (levelsF l = lvls l) := by show _ = _; unfold levelsF rightF; rw [hr]; simp [h200]
  have hq : decide ((200 : Int) < (l.length : Int)) = false := by simp; omega
  have hq2 : ¬ 200 < l.length := by omega
  clear hr
  go_enter Try.func61, Try.ntmps61
  go_wp2_with fail
  refine HRC.out.mono ?_
  rintro r w1 ⟨rfl, hb1⟩
  clear HRC
  go_wp2_with fail
  clear hq hq2
  go_loopw [3, 4, 5] (fun v3 v4 i wr => ∃ (k : Nat) (ss : List Sl) (a3 : Option Addr) (c3 : Nat) (a4 : Option Addr) (c4 : Nat), k ≤ l.length ∧ i = .int .i64 k ∧ v3 = .slice a3 k c3 ∧ v4 = .slice a4 (lvls (l.take k)).length c4 ∧ Hid (OwnN wr w.heap.size v3 (ats l k)) ∧ Hid (OwnLv wr w.heap.size v4 ss (lvls (l.take k))) ∧ Hid (Below w.heap.size w wr)) (fun _ _ i _ => l.length - (intOf i).toNat)
  case atStart => exact ⟨0, [], none, 0, none, 0, Nat.zero_le _, rfl, rfl, rfl, ownN_nil _ _, ownLv_nil _ _, hb1⟩
  case round =>
    clear hb1
    obtain ⟨k, ss, a3, c3, a4, c4, hk, rfl, rfl, rfl, HN, HV, HB⟩ := hrel
    by_cases hlt : k < l.length
    · obtain ⟨b, o, rfl, t0, t1, t2, t3⟩ := HL.out.one hlt
      have HT := Lib.hid (lvls_take l hlt)
      have hmk : (lvls (l.take k)).length ≤ k := by have := lv_count (l.take k); rw [List.length_take] at this; omega
      have HS : Hid (∀ i, ((lvls (l.take k)).getD i []).length ≤ 200) := fun i => by have := lv_small (l.take k) i; rw [List.length_take] at this; omega
      have HMX := Lib.hid (maxN_lvN l (evI l k) hk)
      have HAK : Hid (atL l k = lvN (lvls (l.take k)) (evI l k)) := rfl
      have HSU : Hid (∀ j, maxN l (evI l k) (j + 1) = if dep (evI l j) (evI l k) then max (maxN l (evI l k) j) (atL l j + 1) else maxN l (evI l k) j) := fun j => maxN_succ l _ j
      have HMB : Hid (∀ j, j ≤ k → maxN l (evI l k) j ≤ 201) := fun j hj => top_le fun i hi _ => by have := atL_le l (show i < l.length by omega); show atL l i + 1 ≤ 201; omega
      have HAB : Hid (∀ j, j < l.length → atL l j ≤ 200) := fun j hj => by have := atL_le l hj; omega
      have HZ : Hid (maxN l (evI l k) 0 = 0) := rfl
      obtain ⟨a3', c3', hv3, hn3, _⟩ := OwnN.form HN.out (by rw [ats_len]; omega)
      rw [ats_len] at hv3
      injection hv3 with hv3 _ hc3
      subst hv3 hc3
      have HN3 := Lib.hid hn3
      have HTE := Lib.hid (And.intro t0 (And.intro t1 (And.intro t2 t3)))
      have hle := lvN_le (lvls (l.take k)) (evI l k)
      clear t0 t1 t2 t3 hn3
      generalize lvls (l.take k) = m at *
      generalize hek : evI l k = e at *
      have HEK := Lib.hid hek
      clear hek
      go_wp2_with fail
      go_loopw [6, 7] (fun s6 i wr2 => ∃ (j N : Nat), j ≤ k ∧ i = .int .i64 j ∧ s6 = .int .i64 (N : Int) ∧ Hid (N = maxN l e j) ∧ Hid (Below wr.heap.size wr wr2)) (fun _ i _ => k - (intOf i).toNat)
      case atStart => exact ⟨0, 0, Nat.zero_le _, rfl, rfl, HZ.out.symm, Below.refl _ _⟩
      case round =>
        obtain ⟨j, N, hj, rfl, rfl, HNE, HB2⟩ := hrel
        have HBW := Lib.hid (HB.out.trans (HB2.out.mono HB.out.size))
        by_cases hjk : j < k
        · obtain ⟨b9, o9, e9, x0, x1, x2, x3⟩ := HL.out.one (show j < l.length by omega)
          injection e9 with e9
          injection e9 with e9 e10
          subst e9 e10
          have hji : (j : Int) < (l.length : Int) := by omega
          have hji0 : (0 : Int) ≤ j := by omega
          have hki : (k : Int) < (l.length : Int) := by omega
          have hjk2 : (j : Int) < (k : Int) := by omega
          have hMb : N ≤ 201 := by rw [HNE.out]; exact HMB.out j (by omega)
          have hAb := HAB.out j (by omega)
          have HSJ := Lib.hid (HSU.out j)
          obtain ⟨b3, o3, rfl, hn3⟩ := HN3.out.2 (by intro h; have := ats_len l k; rw [h] at this; simp at this; omega)
          have q3 := cell_later HB2.out (hn3 j (by rw [ats_len]; exact hjk))
          rw [ats_get] at q3
          clear hn3
          generalize atL l j = A at *
          generalize evI l j = x at *
          have HQ : Hid (∀ W, Below wr.heap.size wr W → (W.cell? ⟨b, o + j * 4, none⟩ = some (.int .i64 x.thread) ∧ W.cell? ⟨b, o + j * 4 + 1, none⟩ = some (.int .i64 x.kind) ∧ W.cell? ⟨b, o + j * 4 + 2, none⟩ = some (.int .i64 x.obj) ∧ W.cell? ⟨b, o + j * 4 + 3, none⟩ = some (.bool x.fail)) ∧ (W.cell? ⟨b, o + k * 4, none⟩ = some (.int .i64 e.thread) ∧ W.cell? ⟨b, o + k * 4 + 1, none⟩ = some (.int .i64 e.kind) ∧ W.cell? ⟨b, o + k * 4 + 2, none⟩ = some (.int .i64 e.obj) ∧ W.cell? ⟨b, o + k * 4 + 3, none⟩ = some (.bool e.fail)) ∧ W.cell? ⟨b3, o3 + j, none⟩ = some (.int .i64 (A : Int))) := fun W hW => by
            have h := HBW.out.trans (hW.mono HBW.out.size)
            exact ⟨⟨cell_later h x0, cell_later h x1, cell_later h x2, cell_later h x3⟩, ⟨cell_later h HTE.out.1, cell_later h HTE.out.2.1, cell_later h HTE.out.2.2.1, cell_later h HTE.out.2.2.2⟩, cell_later hW q3⟩
          have hB9 : Below wr.heap.size wr wr.drew := (Below.refl _ _).drew
          clear x0 x1 x2 x3 q3
          go_wp2_with fail
          go_region_held3 (fun W => (W.cell? ⟨b, o + j * 4, none⟩ = some (.int .i64 x.thread) ∧ W.cell? ⟨b, o + j * 4 + 1, none⟩ = some (.int .i64 x.kind) ∧ W.cell? ⟨b, o + j * 4 + 2, none⟩ = some (.int .i64 x.obj) ∧ W.cell? ⟨b, o + j * 4 + 3, none⟩ = some (.bool x.fail)) ∧ (W.cell? ⟨b, o + k * 4, none⟩ = some (.int .i64 e.thread) ∧ W.cell? ⟨b, o + k * 4 + 1, none⟩ = some (.int .i64 e.kind) ∧ W.cell? ⟨b, o + k * 4 + 2, none⟩ = some (.int .i64 e.obj) ∧ W.cell? ⟨b, o + k * 4 + 3, none⟩ = some (.bool e.fail)) ∧ W.cell? ⟨b3, o3 + j, none⟩ = some (.int .i64 (A : Int))) (first | exact HQ.out _ hB9 | exact HQ.out _ hB10)
            (first | (go_at_call 76; ((with_reducible refine (refDepends_any x e _).mono ?_); rintro r w10 ⟨rfl, hb10⟩; have hB10 := hB9.trans (hb10.mono hB9.size); clear hB9)))
          have HB10 := Lib.hid (HB2.out.trans (hB10.mono HB2.out.size))
          have q4 := (HQ.out _ hB10).2.2
          cases hd : dep x e
          · have HN2 : Hid (N = maxN l e (j + 1)) := by have h := HSJ.out; rw [hd] at h; show _ = _; rw [HNE.out, h]; rfl
            clear hd
            go_wp2
            go_roundw
            case rel => exact ⟨j + 1, N, by omega, by go_num, rfl, HN2.out, HB10.out⟩
            case measure => simp [intOf]; omega
          · have HN2 : Hid (max N (A + 1) = maxN l e (j + 1)) := by have h := HSJ.out; rw [hd] at h; show _ = _; rw [h, HNE.out]; rfl
            have hwA : IntKind.i64.wrap ((A : Int) + 1) = (A : Int) + 1 := IntWalk.i64_in _ (by omega)
            clear hd
            go_wp2
            go_roundw
            case rel => exact ⟨j + 1, max N (A + 1), by omega, by go_num, by congr 1; omega, HN2.out, HB10.out⟩
            case measure => simp [intOf]; omega
        · obtain rfl : j = k := by omega
          have HNW := Lib.hid (HN.out.later HB2.out)
          have HVW := Lib.hid (HV.out.later HB2.out)
          have hBs := HBW.out.size
          have hal : (ats l j).length = j := ats_len l j
          have HNN : Hid (N = lvN m e) := by show _ = _; rw [HNE.out]; exact HMX.out
          have hnm : lvN m e ≤ m.length := hle
          rw [← HNN.out] at HAK hnm
          clear HMX HSU HMB HZ HN3 HN HV HNE hle
          go_upto_if 53 with (at_builtin; refine wp_appendN rfl _ _ rfl w.heap.size _ (ats l j) rfl (HNW.out.alloc _) ⟨wr.heap.size, 0, none⟩ 1 1 rfl [(N : Int)] rfl (nums_new wr [(N : Int)] _ _ rfl) (by rw [hal]; omega) (by simp; omega) ?_; intro v9 w9 h9 hb9 hg9; have HV9 : Hid (OwnLv w9 w.heap.size (.slice a4 m.length c4) ss m) := OwnLv.keptBy (HVW.out.later (below_alloc1 wr _)) (HNW.out.alloc _) intNeSl intNeEv hg9; have HN9 : Hid (OwnN w9 w.heap.size v9 (ats l (j + 1))) := (by show OwnN _ _ _ _; rw [ats_succ, HAK.out]; exact h9); have HB9 : Hid (Below w.heap.size w w9) := (HBW.out.trans ((below_alloc1 wr _).mono hBs)).trans hb9; clear h9 hb9 hg9)
          obtain ⟨a9, c9, hv9, _, _⟩ := OwnN.form HN9.out (by rw [ats_len]; omega)
          rw [ats_len] at hv9
          subst hv9
          clear HNW HVW HBW HB HB2
          go_cut [4] (fun s4 wx => ∃ (g M cap3 : Nat) (ss2 : List Sl), s4 = .slice (some ⟨g, 0, none⟩) M cap3 ∧ N < M ∧ M ≤ 300 ∧ Hid (M = (extL m N).length ∧ OwnLv wx w.heap.size s4 ss2 (extL m N)) ∧ Hid (OwnN wx w.heap.size (.slice a9 (j + 1) c9) (ats l (j + 1))) ∧ Hid (Below w.heap.size w wx))
          case first =>
            by_cases hnl : N < m.length
            · have hq : ((N : Int) == (m.length : Int)) = false := by simp; omega
              have HEX : Hid (extL m N = m) := by show _ = _; unfold extL; rw [if_pos hnl]
              obtain ⟨g, capg, hv, _, _⟩ := OwnRow.block HV9.out.outer (by intro h; have := HV9.out.len; rw [h] at this; simp at this; omega)
              injection hv with hv1 hv2 hv3
              subst hv1
              clear hv2 hv3
              go_wp2_with fail
              go_meet
              exact ⟨g, m.length, c4, ss, rfl, hnl, by omega, ⟨by rw [HEX.out], by rw [HEX.out]; exact HV9.out⟩, HN9.out, HB9.out⟩
            · have hnm2 : N = m.length := by omega
              have hq : ((N : Int) == (m.length : Int)) = true := by simp; omega
              have HEX : Hid (extL m N = m ++ [[]]) := by show _ = _; unfold extL; rw [if_neg hnl]
              have HN2 := Lib.hid hnm2
              have hB2 : w.heap.size ≤ w9.heap.size := HB9.out.size
              have hss : ss.length ≤ 1000 := by have := HV9.out.len; omega
              clear hnl hnm2
              go_wp2_with (at_builtin; refine wp_appendR (f := slCell) (n := 1) 50 63 24 (.slice none 0 0) Try.underlying50 infoSl rfl (by omega) (by omega) slCell_len rfl _ _ rfl w.heap.size _ ss rfl (HV9.out.outer.alloc _) ⟨w9.heap.size, 0, none⟩ rfl ⟨none, 0, 0⟩ (slCell_one _) (cells_new w9 (slCell ⟨none, 0, 0⟩) _ _ rfl) (by omega) (by simp; omega) ?_; intro v' w' h1 h2 h3; obtain ⟨g, capg, hv, _, _⟩ := OwnRow.block h1 (by simp); rw [List.length_append, List.length_singleton] at hv; subst hv)
              go_meet
              have hb4 : Below w.heap.size w9 w' := (below_alloc1 w9 _).mono hB2 |>.trans h2
              have hv4 : OwnLv w' w.heap.size (.slice (some ⟨g, 0, none⟩) (ss.length + 1) capg) (ss ++ [⟨none, 0, 0⟩]) (m ++ [[]]) := OwnLv.more (HV9.out.later (below_alloc1 w9 _)) h1 h3
              have hn4 : OwnN w' w.heap.size (.slice a9 (j + 1) c9) (ats l (j + 1)) := World.ownsRow.kept (HN9.out.alloc _) h3 (rows_apart (HN9.out.alloc (.cells #[.slice none 0 0] 63)) (HV9.out.outer.alloc _) (Ne.symm intNeSl))
              exact ⟨g, ss.length + 1, capg, _, rfl, by have := HV9.out.len; have := HN2.out; omega, by have := HV9.out.len; omega, ⟨by rw [HEX.out]; simp [HV9.out.len], by rw [HEX.out]; exact hv4⟩, hn4, HB9.out.trans hb4⟩
          case rest =>
            obtain ⟨g, M, cap3, ss2, rfl, hnM, hM300, HW, HNc, HBc⟩ := hcut
            clear HV9 HN9 HB9
            have hn2 : N < ss2.length := by rw [HW.out.2.len, ← HW.out.1]; exact hnM
            have x0 := OwnLv.cell HW.out.2 HW.out.1 hn2
            have hin := HW.out.2.inner N hn2
            rw [extL_get] at hin
            have HLs := HS.out N
            obtain ⟨L, hL⟩ : ∃ L, L = m.getD N [] := ⟨_, rfl⟩
            rw [← hL] at hin HLs
            obtain ⟨hsn, hse, _, _⟩ := OwnE.sl hin (by omega)
            rw [hsn] at x0
            have HSE := Lib.hid hse
            have HLL := Lib.hid hL
            have HSN := Lib.hid hsn
            clear hin hsn hse hL
            have hg0 : ∀ W, Below wc.heap.size wc W → W.cell? ⟨g, N, none⟩ = some (.slice ss2[N].a L.length ss2[N].c) := fun W hW => cell_later hW x0
            have HG0 := Lib.hid hg0
            have hMi : (N : Int) < (M : Int) := by omega
            have hMi0 : (0 : Int) ≤ N := by omega
            have hji : (j : Int) < (l.length : Int) := by omega
            have hji0 : (0 : Int) ≤ j := by omega
            have HEE : Hid (∀ W, Below wc.heap.size wc W → W.cell? ⟨b, o + j * 4, none⟩ = some (.int .i64 e.thread) ∧ W.cell? ⟨b, o + j * 4 + 1, none⟩ = some (.int .i64 e.kind) ∧ W.cell? ⟨b, o + j * 4 + 2, none⟩ = some (.int .i64 e.obj) ∧ W.cell? ⟨b, o + j * 4 + 3, none⟩ = some (.bool e.fail)) := fun W hW => by
              have h := HBc.out.trans (hW.mono HBc.out.size)
              exact ⟨cell_later h HTE.out.1, cell_later h HTE.out.2.1, cell_later h HTE.out.2.2.1, cell_later h HTE.out.2.2.2⟩
            clear hg0 x0
            go_wp2_with fail
            go_loopw [8, 9, 10] (fun s8 s9 i wr => ∃ (q : Nat) (d : Bool) (R : List Ev), q ≤ L.length ∧ i = .int .i64 q ∧ s9 = .bool d ∧ R.length ≤ q + 1 ∧ Hid (InsP e L q d R) ∧ Hid (OwnE wr wc.heap.size s8 R) ∧ Hid (Below wc.heap.size wc wr)) (fun _ _ i _ => L.length - (intOf i).toNat)
            case atStart => exact ⟨0, false, [], Nat.zero_le _, rfl, rfl, by simp, insP_zero e L, ownE_nil _ _, Below.refl _ _⟩
            case round =>
              obtain ⟨q, d, R, hq, rfl, rfl, hRl, HI, HO, HB3⟩ := hrel
              have g0 := HG0.out _ HB3.out
              have hbs := HB3.out.size
              by_cases hql : q < L.length
              · obtain ⟨bL, oL, hsa, y0, y1, y2, y3⟩ := HSE.out.one hql
                rw [hsa] at g0
                have z0 := cell_later HB3.out y0
                have z1 := cell_later HB3.out y1
                have z2 := cell_later HB3.out y2
                have z3 := cell_later HB3.out y3
                obtain ⟨e0, e1, e2, e3⟩ := HEE.out _ HB3.out
                have hqi : (q : Int) < (L.length : Int) := by omega
                have hqi0 : (0 : Int) ≤ q := by omega
                have HLT : Hid (d = false → e.thread < (evI L q).thread → InsP e L (q + 1) true (R ++ [e] ++ [evI L q])) := fun hd h => by subst hd; exact insP_lt HI.out hql h
                have HGE : Hid (d = false → ¬ e.thread < (evI L q).thread → InsP e L (q + 1) false (R ++ [evI L q])) := fun hd h => by subst hd; exact insP_ge HI.out hql h
                have HON : Hid (d = true → InsP e L (q + 1) true (R ++ [evI L q])) := fun hd => by subst hd; exact insP_on HI.out hql
                have HOW : Hid (∀ n, OwnE (wr.drewN n) wc.heap.size u8 R ∧ Below wc.heap.size wc (wr.drewN n)) := fun n => ⟨HO.out, HB3.out.drewN⟩
                have HALL : Hid (∀ W, Below wc.heap.size wc W → W.cell? ⟨g, N, none⟩ = some (.slice (some ⟨bL, oL, none⟩) L.length ss2[N].c) ∧ W.cell? ⟨bL, oL + q * 4, none⟩ = some (.int .i64 (evI L q).thread) ∧ W.cell? ⟨bL, oL + q * 4 + 1, none⟩ = some (.int .i64 (evI L q).kind) ∧ W.cell? ⟨bL, oL + q * 4 + 2, none⟩ = some (.int .i64 (evI L q).obj) ∧ W.cell? ⟨bL, oL + q * 4 + 3, none⟩ = some (.bool (evI L q).fail)) := fun W hW => ⟨by have h := HG0.out _ hW; rw [hsa] at h; exact h, cell_later hW y0, cell_later hW y1, cell_later hW y2, cell_later hW y3⟩
                clear y0 y1 y2 y3 hsa
                generalize evI L q = y at *
                cases d
                · by_cases hty : e.thread < y.thread
                  · have hqt : decide (e.thread < y.thread) = true := by simp [hty]
                    have HI2 := Lib.hid (HLT.out rfl hty)
                    have hI0 : R.length ≤ q := by
                      rcases HI.out with ⟨_, h, _⟩ | ⟨h, _⟩
                      · rw [h, List.length_take]; omega
                      · cases h
                    clear hty
                    go_wp2_with fail
                    go_quiet (fail)
                    have HOQ := Lib.hid (HOW.out nq).1
                    have HBQ := Lib.hid (HOW.out nq).2
                    go_wp2_with (first
                      | (at_builtin; refine wp_appendE rfl _ _ rfl _ _ (R ++ [e]) rfl (HO9.out.alloc _) ⟨w9.heap.size, 0, none⟩ rfl y (ev_new w9 y _ _ rfl) (by simp; omega) (Nat.le_trans HB9.out.size (below_alloc1 _ _).size) ?_; intro v2 w2 hown2 hb2; have HO2 := Lib.hid hown2; have HB2 := Lib.hid ((HB9.out.alloc HB9.out.size _).trans hb2); clear hown2 hb2)
                      | (at_builtin; refine wp_appendE rfl _ _ rfl _ _ R rfl (HOQ.out.alloc _) ⟨wr.heap.size, 0, none⟩ rfl e (ev_new (wr.drewN nq) e _ _ rfl) (by omega) (Nat.le_trans HBQ.out.size (below_alloc1 _ _).size) ?_; intro v9 w9 hown9 hb9; have HO9 := Lib.hid hown9; have HB9 := Lib.hid ((HBQ.out.alloc HBQ.out.size _).trans hb9); obtain ⟨p0, p1, p2, p3, p4⟩ := HALL.out _ HB9.out; clear hown9 hb9))
                    go_roundw
                    case rel => exact ⟨q + 1, true, R ++ [e] ++ [y], by omega, by go_num, rfl, by simp; omega, HI2.out, HO2.out, HB2.out⟩
                    case measure => simp [intOf]; omega
                  · have hqt : decide (e.thread < y.thread) = false := by simp; omega
                    have HI2 := Lib.hid (HGE.out rfl hty)
                    have hI0 : R.length ≤ q := by
                      rcases HI.out with ⟨_, h, _⟩ | ⟨h, _⟩
                      · rw [h, List.length_take]; omega
                      · cases h
                    clear hty
                    go_wp2_with fail
                    go_quiet (fail)
                    have HOQ := Lib.hid (HOW.out nq).1
                    have HBQ := Lib.hid (HOW.out nq).2
                    go_wp2_with (at_builtin; refine wp_appendE rfl _ _ rfl _ _ R rfl (HOQ.out.alloc _) ⟨wr.heap.size, 0, none⟩ rfl y (ev_new (wr.drewN nq) y _ _ rfl) (by omega) (Nat.le_trans HBQ.out.size (below_alloc1 _ _).size) ?_; intro v9 w9 hown9 hb9; have HO9 := Lib.hid hown9; have HB9 := Lib.hid ((HBQ.out.alloc HBQ.out.size _).trans hb9); clear hown9 hb9)
                    go_roundw
                    case rel => exact ⟨q + 1, false, R ++ [y], by omega, by go_num, rfl, by simp; omega, HI2.out, HO9.out, HB9.out⟩
                    case measure => simp [intOf]; omega
                · have HI2 := Lib.hid (HON.out rfl)
                  go_wp2_with fail
                  go_quiet (fail)
                  have HOQ := Lib.hid (HOW.out nq).1
                  have HBQ := Lib.hid (HOW.out nq).2
                  go_wp2_with (at_builtin; refine wp_appendE rfl _ _ rfl _ _ R rfl (HOQ.out.alloc _) ⟨wr.heap.size, 0, none⟩ rfl y (ev_new (wr.drewN nq) y _ _ rfl) (by omega) (Nat.le_trans HBQ.out.size (below_alloc1 _ _).size) ?_; intro v9 w9 hown9 hb9; have HO9 := Lib.hid hown9; have HB9 := Lib.hid ((HBQ.out.alloc HBQ.out.size _).trans hb9); clear hown9 hb9)
                  go_roundw
                  case rel => exact ⟨q + 1, true, R ++ [y], by omega, by go_num, rfl, by simp; omega, HI2.out, HO9.out, HB9.out⟩
                  case measure => simp [intOf]; omega
              · obtain rfl : q = L.length := by omega
                obtain ⟨hi1, hi2⟩ := insP_end HI.out
                have HINS1 := Lib.hid hi1
                have HINS2 := Lib.hid hi2
                have hbl : w.heap.size ≤ wc.heap.size := HBc.out.size
                have HSN2 : Hid (ss2.length = M) := by show _ = _; rw [HW.out.2.len, ← HW.out.1]
                have HPUT : Hid (∀ (W : World) (v : Value), OwnE W wc.heap.size v (insE e L) → Below wc.heap.size wc W → ∃ s' : Sl, v = .slice s'.a s'.n s'.c ∧ (∃ old, W.cell? ⟨g, N, none⟩ = some old) ∧ W.frozen? ⟨g, N, none⟩ = false ∧ OwnLv (W.setCell ⟨g, N, none⟩ (.slice s'.a s'.n s'.c)) w.heap.size (.slice (some ⟨g, 0, none⟩) M cap3) (ss2.set N s') (lvls (l.take (j + 1))) ∧ OwnN (W.setCell ⟨g, N, none⟩ (.slice s'.a s'.n s'.c)) w.heap.size (.slice a9 (j + 1) c9) (ats l (j + 1)) ∧ Below w.heap.size w (W.setCell ⟨g, N, none⟩ (.slice s'.a s'.n s'.c))) := fun W v hv hW => by
                  obtain ⟨a', cap', hv', _⟩ := OwnE.form hv (by rw [insE_length]; omega)
                  subst hv'
                  obtain ⟨p1, p2, p3⟩ := OwnLv.put HW.out.2 HW.out.1 hnM hn2 (s' := ⟨a', (insE e L).length, cap'⟩) (ownsRow_base hv hbl) (grown_below hW _) (fun b hb => .inr (World.ownsRow.lt hv b hb).1)
                  have hsN : ss2.length = M := by rw [HW.out.2.len, ← HW.out.1]
                  have hout : W.ownsRow w.heap.size 63 1 (.slice (some ⟨g, 0, none⟩) M cap3) ss2.length (cellsL slCell ss2) := HW.out.2.outer.later hW
                  rw [hsN] at hout
                  have hst := hout.stored N (.slice a' (insE e L).length cap')
                  have hgB : w.heap.size ≤ g := (World.ownsRow.lt hout g rfl).1
                  refine ⟨⟨a', (insE e L).length, cap'⟩, rfl, Option.isSome_iff_exists.1 p2, p3, ?_, World.ownsRow.kept (HNc.out.later hW) hst.2 (rows_apart (HNc.out.later hW) hout (Ne.symm intNeSl)), (HBc.out.trans (hW.mono hbl)).setCell (p := ⟨g, N, none⟩) hgB _⟩
                  rw [HT.out, addL_ext, ← HNN.out, extL_get, ← HLL.out]
                  exact p1
                cases d
                · obtain ⟨e0, e1, e2, e3⟩ := HEE.out _ HB3.out
                  have HIN := Lib.hid (HINS1.out rfl)
                  have hRl2 : R.length ≤ 200 + 1 := by omega
                  go_wp2_with (at_builtin; refine wp_appendE rfl _ _ rfl _ _ R rfl (HO.out.alloc _) ⟨wr.heap.size, 0, none⟩ rfl e (ev_new wr e _ _ rfl) (by omega) (Nat.le_trans HB3.out.size (below_alloc1 _ _).size) ?_; intro v9 w9 hown9 hb9; rw [HIN.out] at hown9; obtain ⟨s9, rfl, ⟨old, q2⟩, q3, q4, q5, q6⟩ := HPUT.out _ _ hown9 ((HB3.out.alloc HB3.out.size _).trans hb9); have p0 := HG0.out _ ((HB3.out.alloc HB3.out.size _).trans hb9); have Q4 := Lib.hid q4; have Q5 := Lib.hid q5; have Q6 := Lib.hid q6; clear hown9 hb9 q4 q5 q6)
                  go_roundw
                  case rel => exact ⟨j + 1, _, a9, c9, _, cap3, by omega, by go_num, rfl, by rw [← Q4.out.len, List.length_set, HSN2.out], Q5.out, Q4.out, Q6.out⟩
                  case measure => simp [intOf]; omega
                · have HIN := Lib.hid (HINS2.out rfl)
                  have hown9 := HO.out
                  rw [HIN.out] at hown9
                  obtain ⟨s9, rfl, ⟨old, q2⟩, q3, q4, q5, q6⟩ := HPUT.out _ _ hown9 HB3.out
                  have Q4 := Lib.hid q4
                  have Q5 := Lib.hid q5
                  have Q6 := Lib.hid q6
                  clear hown9 q4 q5 q6
                  go_wp2_with fail
                  go_roundw
                  case rel => exact ⟨j + 1, _, a9, c9, _, cap3, by omega, by go_num, rfl, by rw [← Q4.out.len, List.length_set, HSN2.out], Q5.out, Q4.out, Q6.out⟩
                  case measure => simp [intOf]; omega
    · obtain rfl : k = l.length := by omega
      rw [List.take_length] at HV ⊢
      clear HN
      go_wp2
      go_ret
      exact ⟨_, ss, rfl, by rw [HE.out]; exact HV.out, HB.out⟩

end Go.Proofs.Ytopklnehhebhmaa

/- The contract of the document's Row. -/
namespace Go.Proofs.Ytopklnehhebhmaa
open Go.RowKit

set_option maxRecDepth 100000 in
set_option maxHeartbeats 2000000 in
theorem refRow_any (a : Option Addr) (cap : Nat) (m : List (List Ev)) (w : World) (hl : LvAt w a m) (hm : m.length ≤ 1000000) (hf : m.flatten.length ≤ 1000000) :
    Calls Try.prog 58 #[.slice a m.length cap] w (RowR w m.flatten) := by
  have HL := Lib.hid hl
  have HF := Lib.hid hf
  clear hl hf
  go_enter Try.func58, Try.ntmps58
  go_wp2
  go_loopw [3, 4] (fun s i wr => ∃ k : Nat, k ≤ m.length ∧ i = .int .i64 k ∧ Hid (RowR w (m.take k).flatten (.returned s) wr)) (fun _ i _ => m.length - (intOf i).toNat)
  case atStart => exact ⟨0, Nat.zero_le _, rfl, ⟨_, rfl, ownE_nil _ _, Below.refl _ _⟩⟩
  case round =>
    obtain ⟨k, hk, rfl, HV⟩ := hrel
    obtain ⟨s, hs, hv, hb⟩ := HV.out
    injection hs with hs
    subst hs
    have HO := Lib.hid hv
    by_cases hlt : k < m.length
    · obtain ⟨b, o, sa, sc, rfl, c0, he, hn⟩ := HL.out.one hlt
      have c1 := cell_later hb c0
      have HE := Lib.hid (he.later hb)
      have HT := Lib.hid (flat_take m hlt)
      have hle := flat_le m (k + 1)
      have hf := HF.out
      rw [HT.out, List.length_append] at hle
      have hra : sa = none → sc = 0 ∧ m.getD k [] = [] := fun e => ⟨hn e, by subst e; exact evsAt_none he⟩
      have HRA := Lib.hid hra
      have hBB := hb.size
      have hlen2 : (m.take k).flatten.length + (m.getD k []).length ≤ 1000000 := by omega
      clear hle hra he hn c0 hv hf
      generalize m.getD k [] = row at *
      go_wp2_with (at_builtin; refine wpList_copyE rfl _ _ rfl w.heap.size _ _ rfl HO.out sa sc row rfl HE.out HRA.out hlen2 hBB ?_; intro v' w' h1 h2; have HO2 := Lib.hid h1; clear h1)
      go_roundw
      case rel => exact ⟨k + 1, by omega, by go_num, by rw [HT.out]; exact ⟨v', rfl, HO2.out, hb.trans h2⟩⟩
      case measure => simp [intOf]; omega
    · obtain rfl : k = m.length := by omega
      rw [List.take_length] at HO
      go_wp2
      go_ret
      exact ⟨_, rfl, HO.out, hb⟩

end Go.Proofs.Ytopklnehhebhmaa

/- The contract of the document's Same of levels. -/
namespace Go.Proofs.Ytopklnehhebhmaa
open Go.RowKit

set_option maxRecDepth 100000 in
set_option maxHeartbeats 4000000 in
theorem refLvSame_any (a a' : Option Addr) (cap cap' : Nat) (m m' : List (List Ev)) (w : World) (hl : LvAt w a m) (hl' : LvAt w a' m') (hm : m.length ≤ 1000000) (hm' : m'.length ≤ 1000000) (hr : ∀ i, (m.getD i []).length ≤ 1000000) (hr' : ∀ i, (m'.getD i []).length ≤ 1000000) :
    Calls Try.prog 60 #[.slice a m.length cap, .slice a' m'.length cap'] w fun r w' => r = .returned (.bool (decide (m = m'))) ∧ Below w.heap.size w w' := by
  have HL := Lib.hid hl
  have HL' := Lib.hid hl'
  have HR := Lib.hid hr
  have HR' := Lib.hid hr'
  clear hl hl' hr hr'
  by_cases hne : m.length = m'.length
  case neg =>
    have hq : ((m.length : Int) != m'.length) = true := by simp; omega
    have H : Hid (decide (m = m') = false) := by show _ = _; simp; intro e; exact hne (by rw [e])
    clear hne
    go_enter Try.func60, Try.ntmps60
    go_wp2
    go_ret
    exact ⟨ret_bool H.out.symm, Below.refl _ _⟩
  have HE := Lib.hid hne
  have hq : ((m.length : Int) != m'.length) = false := by simp [hne]
  have hm2 : m.length ≤ m'.length := by omega
  have hm3 : m'.length ≤ m.length := by omega
  clear hne
  go_enter Try.func60, Try.ntmps60
  go_wp2
  clear hq
  go_loopw [5] (fun i wr => ∃ k : Nat, k ≤ m.length ∧ i = .int .i64 k ∧ Hid (m.take k = m'.take k) ∧ Hid (Below w.heap.size w wr)) (fun i _ => m.length - (intOf i).toNat)
  case atStart => exact ⟨0, Nat.zero_le _, rfl, rfl, Below.refl _ _⟩
  case round =>
    obtain ⟨k, hk, rfl, HT, HB⟩ := hrel
    by_cases hlt : k < m.length
    · have hlt' : k < m'.length := by omega
      obtain ⟨b, o, sa, sc, rfl, t0, he, _⟩ := HL.out.one hlt
      obtain ⟨b', o', sa', sc', rfl, t0', he', _⟩ := HL'.out.one hlt'
      have c0 := cell_later HB.out t0
      have c0' := cell_later HB.out t0'
      have HE1 := Lib.hid (he.later HB.out)
      have HE2 := Lib.hid (he'.later HB.out)
      have hx1 : Hid (m.getD k [] = m'.getD k [] → m.take (k + 1) = m'.take (k + 1)) := fun h => take_snoc hlt hlt' HT.out h
      have hx2 : Hid (m.getD k [] ≠ m'.getD k [] → decide (m = m') = false) := fun h => by simp; rintro rfl; exact h rfl
      have hlx := HR.out k
      have hlx' := HR'.out k
      clear t0 t0' he he'
      generalize m.getD k [] = x at *
      generalize m'.getD k [] = x' at *
      by_cases hxl : x.length = x'.length
      case neg =>
        have hq : ((x.length : Int) != x'.length) = true := by simp; omega
        have HN := Lib.hid (hx2.out (fun e => hxl (by rw [e])))
        clear hxl hx1 hx2
        go_wp2_with fail
        go_quiet (fail)
        go_wp2
        go_ret
        exact ⟨ret_bool HN.out.symm, HB.out.drewN⟩
      have hq : ((x.length : Int) != x'.length) = false := by simp [hxl]
      have hxl1 : x.length ≤ x'.length := by omega
      have hxl2 : x'.length ≤ x.length := by omega
      have HXL := Lib.hid hxl
      clear hxl
      go_wp2_with fail
      go_quiet (fail)
      go_wp2_with fail
      clear hq
      go_loopw [6] (fun i w2 => ∃ j : Nat, j ≤ x.length ∧ i = .int .i64 j ∧ Hid (x.take j = x'.take j) ∧ Hid (Below wr.heap.size wr w2)) (fun i _ => x.length - (intOf i).toNat)
      case atStart => exact ⟨0, Nat.zero_le _, rfl, rfl, (Below.refl _ _).drewN⟩
      case round =>
        obtain ⟨j, hj, rfl, HJ, HB2⟩ := hrel
        have d0 := cell_later HB2.out c0
        have d0' := cell_later HB2.out c0'
        have HB3 := Lib.hid (HB.out.trans (HB2.out.mono HB.out.size))
        clear c0 c0'
        by_cases hjl : j < x.length
        · have hjl' : j < x'.length := by omega
          obtain ⟨xb, xo, rfl, x0, x1, x2, x3⟩ := HE1.out.one hjl
          obtain ⟨yb, yo, rfl, y0, y1, y2, y3⟩ := HE2.out.one hjl'
          have e0 := cell_later HB2.out x0
          have e1 := cell_later HB2.out x1
          have e2 := cell_later HB2.out x2
          have e3 := cell_later HB2.out x3
          have f0 := cell_later HB2.out y0
          have f1 := cell_later HB2.out y1
          have f2 := cell_later HB2.out y2
          have f3 := cell_later HB2.out y3
          clear x0 x1 x2 x3 y0 y1 y2 y3
          have heq := run_equal_ev (evI x j) (evI x' j)
          by_cases he : evI x j = evI x' j
          · have hq2 : decide (evI x j = evI x' j) = true := by simp [he]
            rw [hq2] at heq
            have HN : Hid (x.take (j + 1) = x'.take (j + 1)) := by
              show _ = _
              rw [List.take_succ_eq_append_getElem hjl, List.take_succ_eq_append_getElem hjl', HJ.out, ← evI_get hjl, ← evI_get hjl', he]
            clear he hq2
            generalize evI x j = p at *
            generalize evI x' j = p' at *
            go_wp2_with fail
            go_quiet (fail)
            go_wp2
            go_roundw
            case rel => exact ⟨j + 1, by omega, by go_num, HN, HB2.out.drewN⟩
            case measure => simp [intOf]; omega
          · have hq2 : decide (evI x j = evI x' j) = false := by simpa using he
            rw [hq2] at heq
            have HN : Hid (decide (m = m') = false) := hx2.out (fun e => he (by rw [e]))
            clear he hq2
            generalize evI x j = p at *
            generalize evI x' j = p' at *
            go_wp2_with fail
            go_quiet (fail)
            go_wp2
            go_ret
            exact ⟨ret_bool HN.out.symm, HB3.out.drewN⟩
        · obtain rfl : j = x.length := by omega
          have HN : Hid (m.take (k + 1) = m'.take (k + 1)) := by
            have h := HJ.out
            rw [List.take_length, HXL.out, List.take_length] at h
            exact hx1.out h
          clear hx1 hx2
          go_wp2
          go_roundw
          case rel => exact ⟨k + 1, by omega, by go_num, HN, HB3.out⟩
          case measure => simp [intOf]; omega
    · obtain rfl : k = m.length := by omega
      have HR : Hid (decide (m = m') = true) := by
        show _ = _
        have h := HT.out
        rw [List.take_length, HE.out, List.take_length] at h
        simp [h]
      go_wp2
      go_ret
      exact ⟨ret_bool HR.out.symm, HB.out⟩

end Go.Proofs.Ytopklnehhebhmaa

/- The contract of the document's Right of levels. -/
namespace Go.Proofs.Ytopklnehhebhmaa
open Go.RowKit

theorem levelsF_ne (l : List Ev) (i : Nat) (hi : i < (levelsF l).length) : (levelsF l).getD i [] ≠ [] := by
  unfold levelsF at *
  split at hi
  · rw [if_pos (by assumption)]
    exact (lvls_ok l).full i hi
  · simp at hi
theorem levelsF_bad {m : List (List Ev)} (h : rightF m.flatten = false) : levelsF m.flatten ≠ m := by
  intro e
  have h0 : levelsF m.flatten = [] := by unfold levelsF; rw [h]; rfl
  rw [h0] at e
  subst e
  revert h
  decide

set_option maxRecDepth 100000 in
set_option maxHeartbeats 4000000 in
theorem refLvRight_any (a : Option Addr) (cap : Nat) (m : List (List Ev)) (w : World) (hl : LvAt w a m) (hm : m.length ≤ 1000000) (hf : m.flatten.length ≤ 1000000) (hr : ∀ i, (m.getD i []).length ≤ 1000000) :
    Calls Try.prog 39 #[.slice a m.length cap] w fun r w' => r = .returned (.bool (decide (levelsF m.flatten = m))) ∧ Below w.heap.size w w' := by
  have HL := Lib.hid hl
  have HF := Lib.hid hf
  have HC : Hid (∀ W, Below w.heap.size w W → Calls Try.prog 58 #[.slice a m.length cap] W (RowR W m.flatten)) := fun W hW => refRow_any a cap m W (hl.later hW) hm hf
  have HE0 : Hid (∀ i, i < m.length → m.getD i [] = [] → decide (levelsF m.flatten = m) = false) := fun i hi h => by
    simp only [decide_eq_false_iff_not]
    intro e
    refine levelsF_ne m.flatten i (by rw [e]; exact hi) ?_
    rw [e]
    exact h
  have HB0 : Hid (rightF m.flatten = false → decide (levelsF m.flatten = m) = false) := fun h => by simp only [decide_eq_false_iff_not]; exact levelsF_bad h
  have HSM : Hid (∀ a2 cap2 W, LvAt W a2 (levelsF m.flatten) → Below w.heap.size w W → Calls Try.prog 60 #[.slice a2 (levelsF m.flatten).length cap2, .slice a m.length cap] W fun r w' => r = .returned (.bool (decide (levelsF m.flatten = m))) ∧ Below W.heap.size W w') := fun a2 cap2 W h1 hW =>
    refLvSame_any a2 a cap2 cap (levelsF m.flatten) m W h1 (hl.later hW) (by have := levelsF_len m.flatten; omega) hm (fun i => by have := levelsF_row m.flatten i; omega) hr
  clear hl hf hr
  obtain ⟨D, hD⟩ : ∃ D, D = decide (levelsF m.flatten = m) := ⟨_, rfl⟩
  rw [← hD] at HE0 HB0 HSM ⊢
  clear hD
  go_enter Try.func39, Try.ntmps39
  go_wp2
  go_loopw [3] (fun i wr => ∃ k : Nat, k ≤ m.length ∧ i = .int .i64 k ∧ Hid (Below w.heap.size w wr)) (fun i _ => m.length - (intOf i).toNat)
  case atStart => exact ⟨0, Nat.zero_le _, rfl, Below.refl _ _⟩
  case round =>
    obtain ⟨k, hk, rfl, HB⟩ := hrel
    by_cases hlt : k < m.length
    · obtain ⟨b, o, sa, sc, rfl, c0, _, _⟩ := HL.out.one hlt
      have c1 := cell_later HB.out c0
      have HK0 := Lib.hid (HE0.out k hlt)
      clear c0
      by_cases h0 : m.getD k [] = []
      · have HR := Lib.hid (HK0.out h0)
        have hq : (((m.getD k []).length : Int) == 0) = true := by rw [h0]; rfl
        clear h0 HK0
        generalize m.getD k [] = row at *
        go_wp2
        go_ret
        exact ⟨ret_bool HR.out.symm, HB.out⟩
      · have hq : (((m.getD k []).length : Int) == 0) = false := by
          have := List.length_pos_iff.2 h0
          simp
          exact h0
        clear h0 HK0
        generalize m.getD k [] = row at *
        go_wp2
        go_roundw
        case rel => exact ⟨k + 1, by omega, by go_num, HB.out⟩
        case measure => simp [intOf]; omega
    · obtain rfl : k = m.length := by omega
      have HC1 := Lib.hid (HC.out _ HB.out)
      have hBB := HB.out.size
      clear HE0 HC hlt
      go_wp2_with fail
      refine HC1.out.mono ?_
      rintro r w1 ⟨v1, rfl, h1, hb1⟩
      have hb1' := HB.out.trans (hb1.mono hBB)
      obtain ⟨a1, cap1, rfl, he1⟩ := OwnE.form h1 HF.out
      have HE1 := Lib.hid he1
      clear h1 he1 HC1 hb1
      have HRF : Hid (rightF m.flatten = (decide (m.flatten.length ≤ 200) && rightL m.flatten)) := rfl
      generalize m.flatten = fl at *
      by_cases h200 : fl.length ≤ 200
      case neg =>
        have hq : decide ((fl.length : Int) ≤ 200) = false := by simp; omega
        have hq2 : decide (fl.length ≤ 200) = false := by simp; omega
        have HR := Lib.hid (HB0.out (by rw [HRF.out, hq2]; rfl))
        clear h200 HB0
        go_wp2
        go_ret
        exact ⟨ret_bool HR.out.symm, hb1'⟩
      have hq : decide ((fl.length : Int) ≤ 200) = true := by simp; omega
      have hq2 : decide (fl.length ≤ 200) = true := by simp; omega
      have HRC := Lib.hid (rows_any a1 cap1 fl w1 HE1.out)
      cases hr : rightL fl
      · have HR := Lib.hid (HB0.out (by rw [HRF.out, hr]; simp))
        rw [hr] at HRC
        clear HB0 hr
        go_wp2_with fail
        refine HRC.out.mono ?_
        rintro r w2 ⟨rfl, hb2⟩
        have hb2' := hb1'.trans (hb2.mono hb1'.size)
        go_wp2
        go_ret
        exact ⟨ret_bool HR.out.symm, hb2'⟩
      · rw [hr] at HRC
        clear HB0 hr
        go_wp2_with fail
        refine HRC.out.mono ?_
        rintro r w2 ⟨rfl, hb2⟩
        have hb2' := hb1'.trans (hb2.mono hb1'.size)
        have HLC := Lib.hid (refLevels_any a1 cap1 fl w2 (HE1.out.later hb2))
        clear hb2
        go_wp2_with fail
        refine HLC.out.mono ?_
        rintro r w3 ⟨v3, ss, rfl, h3, hb3⟩
        obtain ⟨a3, cap3, rfl, hat, _⟩ := OwnLv.formF h3
        have hb3' := hb2'.trans (hb3.mono hb2'.size)
        have HSM2 := Lib.hid (HSM.out a3 cap3 w3 hat hb3')
        clear hat h3 hb3
        go_wp2_with fail
        refine HSM2.out.mono ?_
        rintro r w4 ⟨rfl, hb4⟩
        have hb4' := hb3'.trans (hb4.mono hb3'.size)
        go_wp2
        go_ret
        exact ⟨rfl, hb4'⟩

end Go.Proofs.Ytopklnehhebhmaa

/- The law's awake of layer 5. -/
namespace Go.Proofs.Ytopklnehhebhmaa
open Go.RowKit

def v50 : Ev := ⟨1, 1, 0, false⟩
def v51 : Ev := ⟨0, 1, 0, false⟩
def v52 : Ev := ⟨0, 3, 0, false⟩
def wl5 : List Ev := [v50, v51, v52]
def lw5 : List (List Ev) := [[v51, v50], [v52]]
def zev : Ev := ⟨0, 0, 0, false⟩
def key5 : List UInt8 := [2, 4, 5, 1, 12, 0]
theorem wl5_levels : levelsF wl5 = lw5 := by decide
theorem wl5_key : bstr (keyF wl5) = ⟨#[2, 4, 5, 1, 12, 0]⟩ := by decide
theorem nil_key : bstr (keyF []) = ⟨#[0]⟩ := by decide
theorem zev_key : bstr (keyF [zev]) = ⟨#[]⟩ := by decide
theorem key5_parse : parseN 200 key5 = lw5 := by decide
theorem lw5_print : bstr (printF lw5) = ⟨key5.toArray⟩ := by decide
theorem nil_print : bstr (printF [[]]) = ⟨#[]⟩ := by decide
theorem nil_parse : parseN 200 [] = [] := by decide
theorem nil_bad : ¬ keyOk [] := by
  unfold keyOk
  rw [nil_parse]
  decide
theorem key5_ok : keyOk key5 := by
  unfold keyOk
  rw [key5_parse]
  exact lw5_print

theorem below_step5 {w8 W w' : World} (h1 : Below w8.heap.size w8 W) (hb : Below W.heap.size W w') : Below w8.heap.size w8 w' := h1.trans (hb.mono h1.size)
theorem evs_three5 (w : World) (e f d : Ev) : EvsAt (w.alloc (.cells #[.int .i64 e.thread, .int .i64 e.kind, .int .i64 e.obj, .bool e.fail, .int .i64 f.thread, .int .i64 f.kind, .int .i64 f.obj, .bool f.fail, .int .i64 d.thread, .int .i64 d.kind, .int .i64 d.obj, .bool d.fail] 73)) (some ⟨w.heap.size, 0, none⟩) [e, f, d] := by
  refine ⟨by simp [maxLen], fun _ => ⟨w.heap.size, 0, rfl, fun i hi => ?_⟩⟩
  have : i = 0 ∨ i = 1 ∨ i = 2 := by simp at hi; omega
  rcases this with rfl | rfl | rfl <;> simp
theorem evs_zev (w : World) : EvsAt (w.alloc (.cells #[.int .i64 0, .int .i64 0, .int .i64 0, .bool false] 73)) (some ⟨w.heap.size, 0, none⟩) [zev] := by
  refine ⟨by simp [maxLen], fun _ => ⟨w.heap.size, 0, rfl, fun i hi => ?_⟩⟩
  obtain rfl : i = 0 := by simp at hi; omega
  simp [zev]
theorem lv_nil1 (w : World) (a : Option Addr) (_ha : a = none → False) : LvAt (w.alloc (.cells #[.slice a 0 0] 63)) (some ⟨w.heap.size, 0, none⟩) [[]] := by
  refine ⟨[⟨a, 0, 0⟩], rfl, ⟨by simp [maxLen], fun _ => ⟨w.heap.size, 0, rfl, fun i hi j u hj => ?_⟩⟩, fun i hi => ?_⟩
  · obtain rfl : i = 0 := by simp at hi; omega
    have hj0 : j = 0 := by
      have := (List.getElem?_eq_some_iff.1 hj).1
      simp [slCell] at this
      exact this
    subst hj0
    simp [slCell] at hj
    subst hj
    simp
  · obtain rfl : i = 0 := by simp at hi; omega
    exact ⟨rfl, evsAt_nil _ _, fun _ => rfl, Nat.le_refl _⟩
theorem wk5_levels (w : World) (a : Option Addr) (h : EvsAt w a wl5) : Calls Try.prog 54 #[.slice a 3 3] w fun r w' => ∃ b o cap sa so sc, r = .returned (.slice (some ⟨b, o, none⟩) 2 cap) ∧ LvAt w' (some ⟨b, o, none⟩) lw5 ∧
    w'.cell? ⟨b, o, none⟩ = some (.slice (some ⟨sa, so, none⟩) 2 sc) ∧ w'.cell? ⟨sa, so, none⟩ = some (.int .i64 0) ∧ Below w.heap.size w w' :=
  (levels_any a 3 wl5 w h).mono fun r w' ⟨v, ss, h1, h2, h3⟩ => by
    obtain ⟨a2, cap2, rfl, hat, _⟩ := OwnLv.formF h2
    rw [wl5_levels] at hat h1
    obtain ⟨b, o, sa, sc, rfl, c0, he, _⟩ := hat.one (k := 0) (by decide)
    obtain ⟨sb, so, rfl, x0, _⟩ := he.one (k := 0) (by decide)
    simp only [Nat.zero_mul, Nat.add_zero] at x0 c0
    exact ⟨b, o, cap2, sb, so, sc, h1, hat, c0, x0, h3⟩
theorem wk5_print (w : World) (a : Option Addr) (h : LvAt w a [[]]) : Calls Try.prog 37 #[.slice a 1 1] w fun r w' => r = .returned (.string ⟨#[]⟩) ∧ Below w.heap.size w w' :=
  (print_any a 1 [[]] w h (by decide) (by decide)).mono fun r w' ⟨h1, h2⟩ => ⟨by rw [h1, nil_print], h2⟩
theorem wk5_read (w : World) : Calls Try.prog 28 #[.string ⟨#[2, 4, 5, 1, 12, 0]⟩] w fun r w' => ∃ a cap, r = .returned (.tuple #[.slice a 2 cap, .int .i64 0]) ∧ LvAt w' a lw5 ∧ Below w.heap.size w w' :=
  (readF_any key5 w (by decide)).mono fun r w' ⟨h1, h2⟩ => by
    rcases h1 with ⟨_, v, ss, h3, h4⟩ | ⟨h3, _⟩
    · rw [key5_parse] at h4
      obtain ⟨a, cap, rfl, hat, _⟩ := OwnLv.form h4 (by decide) (by decide)
      exact ⟨a, cap, h3, hat, h2⟩
    · exact absurd key5_ok h3
theorem wk5_read0 (w : World) : Calls Try.prog 28 #[.string ⟨#[]⟩] w fun r w' => r = .returned (.tuple #[.slice none 0 0, .int .i64 3]) ∧ Below w.heap.size w w' :=
  (readF_any [] w (by decide)).mono fun r w' ⟨h1, h2⟩ => by
    rcases h1 with ⟨h3, _⟩ | ⟨_, h3⟩
    · exact absurd h3 nil_bad
    · exact ⟨h3, h2⟩
theorem wk5_same (w : World) (a b : Option Addr) (cap cap' : Nat) (h : LvAt w a lw5) (h' : LvAt w b lw5) : Calls Try.prog 60 #[.slice a 2 cap, .slice b 2 cap'] w fun r w' => r = .returned (.bool true) ∧ Below w.heap.size w w' :=
  have hs : ∀ i, (lw5.getD i []).length ≤ 1000000 := fun i => by
    rcases (by omega : i = 0 ∨ i = 1 ∨ 2 ≤ i) with rfl | rfl | hi
    · decide
    · decide
    · have e : lw5.getD i [] = [] := by simp [List.getD, lw5, List.getElem?_eq_none (l := [[v51, v50], [v52]]) (by simpa using hi)]
      rw [e]
      exact Nat.zero_le _
  (refLvSame_any a b cap cap' lw5 lw5 w h h' (by decide) (by decide) hs hs).mono fun r w' ⟨h1, h2⟩ => ⟨by rw [h1]; simp, h2⟩
theorem wk5_row (w : World) (a : Option Addr) (cap : Nat) (h : LvAt w a lw5) : Calls Try.prog 55 #[.slice a 2 cap] w fun r w' => ∃ a' cap', r = .returned (.slice a' 3 cap') ∧ Below w.heap.size w w' :=
  (row_any a cap lw5 w h (by decide) (by decide)).mono fun r w' ⟨v, h1, h2, h3⟩ => by
    obtain ⟨a', cap', rfl, _⟩ := OwnE.form h2 (by decide)
    exact ⟨a', cap', h1, h3⟩


end Go.Proofs.Ytopklnehhebhmaa

/- Bytes read as levels, plainly: as the document reads them. -/
namespace Go.Proofs.Ytopklnehhebhmaa
open Go.RowKit

/-- Are these bytes some row's Key, where as many as N levels are read? -/
def keyN (N : Nat) (s : List UInt8) : Prop := bstr (printF (parseN N s)) = ⟨s.toArray⟩
/-- Part of the way: m is read, t is left. -/
def DocAt (N : Nat) (s t : List UInt8) (m : List (List Ev)) (k : Nat) : Prop := k + t.length = s.length ∧ t = s.drop k ∧ m ++ parseN (N - m.length) t = parseN N s ∧ (m.flatMap lvB).length = k ∧ m.length ≤ k
theorem docAt_zero (N : Nat) (s : List UInt8) : DocAt N s s [] 0 := ⟨by simp, rfl, rfl, rfl, Nat.le_refl _⟩
theorem readE_ok {b : List UInt8} (h : readOk b = true) : readE b = evsOf b ∧ (evsOf b).all rightEv = true := ⟨by unfold readE; rw [if_pos h], h⟩
theorem readE_no' {b : List UInt8} (h : readOk b = false) : readE b = [] := by unfold readE; rw [h]; rfl
theorem evsOf_len (b : List UInt8) : (evsOf b).length = b.length := by simp [evsOf]
theorem lvB_read {b : List UInt8} (h : readOk b = true) : (lvB (readE b)).length = b.length + 1 := by
  obtain ⟨h1, h2⟩ := readE_ok h
  rw [h1]
  unfold lvB
  rw [printE_right h2]
  simp [evsOf_len]
theorem parseN_cons (n : Nat) (c : UInt8) (r : List UInt8) (hc : c.toNat ≠ 0) : parseN (n + 1) (c :: r) = readE (r.take c.toNat) :: parseN n (r.drop c.toNat) := by rw [parseN, if_neg hc]
theorem docAt_parse {N : Nat} {s : List UInt8} {m : List (List Ev)} {k : Nat} {c : UInt8} {r : List UInt8} (h : DocAt N s (c :: r) m k) (hs : s.length ≤ N) (hc : c.toNat ≠ 0) : m ++ (readE (r.take c.toNat) :: parseN (N - 1 - m.length) (r.drop c.toNat)) = parseN N s := by
  obtain ⟨h1, _, h3, _, h5⟩ := h
  rw [List.length_cons] at h1
  rw [← h3, show N - m.length = (N - 1 - m.length) + 1 by omega, parseN_cons _ _ _ hc]
theorem docAt_step {N : Nat} {s : List UInt8} {m : List (List Ev)} {k : Nat} {c : UInt8} {r : List UInt8} (h : DocAt N s (c :: r) m k) (hs : s.length ≤ N) (hc : c.toNat ≠ 0) (hr : c.toNat ≤ r.length) (ho : readOk (r.take c.toNat) = true) :
    DocAt N s (r.drop c.toNat) (m ++ [readE (r.take c.toNat)]) (k + 1 + c.toNat) := by
  have hp := docAt_parse h hs hc
  obtain ⟨h1, h2, h3, h4, h5⟩ := h
  rw [List.length_cons] at h1
  refine ⟨by rw [List.length_drop]; omega, ?_, ?_, ?_, by rw [List.length_append, List.length_singleton]; omega⟩
  · have e : r = s.drop (k + 1) := by
      have := congrArg List.tail h2
      simpa [List.tail_drop] using this
    rw [e, List.drop_drop]
  · rw [List.length_append, List.length_singleton, show N - (m.length + 1) = N - 1 - m.length by omega, ← hp]
    simp
  · rw [List.flatMap_append, List.length_append, h4]
    simp only [List.flatMap_cons, List.flatMap_nil, List.append_nil]
    rw [lvB_read ho, List.length_take]
    omega
theorem keyOk_spell {N : Nat} {s : List UInt8} (h : keyN N s) : levelsF (parseN N s).flatten = parseN N s ∧ s.length = (spellB (parseN N s)).length := by
  have h0 := h
  unfold keyN at h
  by_cases hp : levelsF (parseN N s).flatten = parseN N s
  · refine ⟨hp, ?_⟩
    have e : printF (parseN N s) = spellB (parseN N s) := by unfold printF; rw [if_pos hp]
    rw [e] at h
    have h2 := congrArg ByteArray.size h
    rw [bstr_size] at h2
    rw [h2]
    rfl
  · have e : printF (parseN N s) = [] := by unfold printF; rw [if_neg hp]
    rw [e] at h
    have h2 := congrArg ByteArray.size h
    rw [bstr_size] at h2
    have h3 : s.length = 0 := h2.symm
    obtain rfl := List.eq_nil_of_length_eq_zero h3
    have e0 : parseN N [] = parseN 200 [] := by cases N <;> rfl
    unfold keyN at h0
    rw [e0] at h0
    exact absurd (show keyOk [] from h0) nil_bad
theorem keyOk_full {N : Nat} {s : List UInt8} (h : keyN N s) {m rest : List (List Ev)} (hp : m ++ ([] :: rest) = parseN N s) : False := by
  have h1 := (keyOk_spell h).1
  refine levelsF_ne (parseN N s).flatten m.length ?_ ?_
  · rw [h1, ← hp]; simp
  · rw [h1, ← hp]; simp [List.getD]
theorem doc_bad_read {N : Nat} {s : List UInt8} {m : List (List Ev)} {k : Nat} {c : UInt8} {r : List UInt8} (h : DocAt N s (c :: r) m k) (hs : s.length ≤ N) (hc : c.toNat ≠ 0) (ho : readOk (r.take c.toNat) = false) : ¬ keyN N s := by
  intro hk
  have hp := docAt_parse h hs hc
  rw [readE_no' ho] at hp
  exact keyOk_full hk hp
theorem doc_bad_short {N : Nat} {s : List UInt8} {m : List (List Ev)} {k : Nat} {c : UInt8} {r : List UInt8} (h : DocAt N s (c :: r) m k) (hs : s.length ≤ N) (hc : c.toNat ≠ 0) (hr : r.length < c.toNat) : ¬ keyN N s := by
  intro hk
  have hp := docAt_parse h hs hc
  rw [List.take_of_length_le (by omega), List.drop_eq_nil_of_le (by omega)] at hp
  cases ho : readOk r
  · rw [readE_no' ho] at hp
    exact keyOk_full hk hp
  · have e0 : parseN (N - 1 - m.length) [] = [] := by cases N - 1 - m.length <;> rfl
    rw [e0] at hp
    have h2 := (keyOk_spell hk).2
    obtain ⟨h1, _, _, h4, _⟩ := h
    rw [← hp] at h2
    unfold spellB at h2
    rw [List.length_append, List.length_singleton, List.flatMap_append, List.length_append, h4] at h2
    simp only [List.flatMap_cons, List.flatMap_nil, List.append_nil] at h2
    rw [lvB_read ho] at h2
    rw [List.length_cons] at h1
    omega
theorem doc_end {N : Nat} {s t : List UInt8} {m : List (List Ev)} {k : Nat} (h : DocAt N s t m k) (ht : t = [] ∨ ∃ r, t = 0 :: r) : parseN N s = m := by
  obtain ⟨_, _, h3, _, _⟩ := h
  rw [← h3]
  rcases ht with rfl | ⟨r, rfl⟩
  · have e : parseN (N - m.length) [] = [] := by cases N - m.length <;> rfl
    rw [e, List.append_nil]
  · have e : parseN (N - m.length) (0 :: r) = [] := by cases N - m.length <;> simp [parseN]
    rw [e, List.append_nil]
theorem doc_end_bad {N : Nat} {s t : List UInt8} {m : List (List Ev)} {k : Nat} (h : DocAt N s t m k) (ht : t = [] ∨ ∃ r, t = 0 :: r) (hk : k + 1 ≠ s.length) : ¬ keyN N s := by
  intro ho
  have h2 := (keyOk_spell ho).2
  rw [doc_end h ht] at h2
  obtain ⟨_, _, _, h4, _⟩ := h
  unfold spellB at h2
  rw [List.length_append, List.length_singleton, h4] at h2
  omega
theorem doc_end_key {N : Nat} {s t : List UInt8} {m : List (List Ev)} {k : Nat} (h : DocAt N s t m k) (ht : t = [] ∨ ∃ r, t = 0 :: r) : keyN N s ↔ u8s (printF m) = s := by
  unfold keyN
  rw [doc_end h ht, bstr_u8s]
  constructor
  · intro e
    injection e with e
    simpa using congrArg Array.toList e
  · intro e; rw [e]
/-- As many levels as may be are enough. -/
theorem keyN_parse {N M : Nat} {s : List UInt8} (hM : 200 ≤ M) (h : keyN N s) : parseN M s = parseN N s := by
  have h1 := (keyOk_spell h).1
  have hs : u8s (spellB (parseN N s)) = s := by
    have h0 := h
    unfold keyN at h0
    have e : printF (parseN N s) = spellB (parseN N s) := by unfold printF; rw [if_pos h1]
    rw [e, bstr_u8s] at h0
    injection h0 with h0
    simpa using congrArg Array.toList h0
  have hl : (parseN N s).length ≤ 200 := by rw [← h1]; exact levelsF_len _
  have hf : LvFit (parseN N s) := by
    rw [← h1]
    unfold levelsF
    split
    · rename_i hr
      simp only [rightF, Bool.and_eq_true, decide_eq_true_eq] at hr
      exact lvls_fit hr.2 hr.1
    · intro row hrow; simp at hrow
  have h2 := parse_spell (parseN N s) M hf (by omega)
  rw [hs] at h2
  exact h2
theorem keyN_iff {N : Nat} {s : List UInt8} (hN : 200 ≤ N) : keyN N s ↔ keyOk s := by
  constructor
  · intro h
    have h2 := keyN_parse (M := 200) (Nat.le_refl _) h
    unfold keyN at h
    unfold keyOk
    rw [h2]; exact h
  · intro h
    have h2 := keyN_parse (N := 200) (M := N) hN h
    unfold keyOk at h
    unfold keyN
    rw [h2]; exact h

end Go.Proofs.Ytopklnehhebhmaa

/- The contract of the document's Print of events. -/
namespace Go.Proofs.Ytopklnehhebhmaa
open Go.RowKit

theorem run_bstr_any {w : World} {B : Nat} {v : Value} {ns : List Int} (h : OwnB w B v ns) : (convert 39 9 v).run Try.prog w = .ok (.string (bstr ns)) w := by
  by_cases hn : ns = []
  · subst hn
    obtain ⟨h1, ⟨h2, h3⟩ | ⟨g, cap, cur, h2, h3, h4, h5, h6, h7, h8⟩⟩ := h
    · subst h2
      rw [run_convert_bytes_string w _ _ 5 _ _ _ Try.underlying39 Try.underlying5 Try.underlying9]
      simp [Conv.bytesToString, bstr]
      rfl
    · subst h2
      rw [run_convert_bytes_string w _ _ 5 _ _ _ Try.underlying39 Try.underlying5 Try.underlying9]
      have hl := run_loadCells_list (P := Try.prog) w ⟨g, 0, none⟩ ([].map (Value.int .u8)) (by simp)
      rw [List.length_map] at hl
      have hb := run_bytesToString w ⟨g, 0, none⟩ _ cap [] hl
      exact hb
  · exact run_bstr h hn

set_option maxRecDepth 100000 in
set_option maxHeartbeats 1000000 in
theorem refEvPrint_any (a : Option Addr) (cap : Nat) (l : List Ev) (w : World) (hl : EvsAt w a l) (hm : l.length ≤ 1000000) :
    Calls Try.prog 40 #[.slice a l.length cap] w fun r w' => r = .returned (.string (bstr (printE l))) ∧ Below w.heap.size w w' := by
  have HL := Lib.hid hl
  clear hl
  go_enter Try.func40, Try.ntmps40
  go_wp2
  go_loopw [3, 4] (fun v i wr => ∃ (k : Nat) (ns : List Int), k ≤ l.length ∧ i = .int .i64 k ∧ Hid ((l.take k).all rightEv = true) ∧ Hid (ns = (l.take k).map evB) ∧ ns.length = k ∧ OwnB wr w.heap.size v ns ∧ Below w.heap.size w wr) (fun _ i _ => l.length - (intOf i).toNat)
  case atStart => exact ⟨0, [], Nat.zero_le _, rfl, rfl, rfl, rfl, World.ownsRow_nil _ _ _ _, Below.refl _ _⟩
  case round =>
    obtain ⟨k, ns, hk, rfl, HA, HN, hnl, hown, hb⟩ := hrel
    have HO := Lib.hid hown
    clear hown
    by_cases hlt : k < l.length
    · obtain ⟨b, o, rfl, hc⟩ := HL.out.2 (by intro e; simp [e] at hlt)
      obtain ⟨c0, c1, c2, c3⟩ := hc k hlt
      have d0 := cell_later hb c0
      have d1 := cell_later hb c1
      have d2 := cell_later hb c2
      have d3 := cell_later hb c3
      clear hc c0 c1 c2 c3
      have HT0 := Lib.hid (List.take_succ_eq_append_getElem hlt : l.take (k + 1) = l.take k ++ [l[k]])
      have HT : Hid (ns ++ [evB l[k]] = (l.take (k + 1)).map evB) := by
        show _ = _
        rw [List.take_succ_eq_append_getElem hlt, List.map_append, ← HN.out]
        rfl
      have HX := Lib.hid (List.getElem_mem hlt)
      generalize l[k] = x at *
      go_wp2_with fail
      refine (refEvRight_any x _).mono ?_
      rintro r w2 ⟨rfl, hb2⟩
      have HO2 := Lib.hid (ownsRow_later HO.out hb2)
      have hw2 : Below w.heap.size w w2 := hb.trans (hb2.mono hb.size)
      have e0 := cell_later hb2 d0
      have e1 := cell_later hb2 d1
      have e2 := cell_later hb2 d2
      have e3 := cell_later hb2 d3
      clear HO hb hb2 d0 d1 d2 d3
      cases hr : rightEv x
      · have HR : Hid (printE l = []) := by
          show _ = _
          unfold printE
          rw [if_neg]
          intro h
          rw [List.all_eq_true] at h
          rw [h x HX.out] at hr
          cases hr
        clear hr
        go_wp2
        go_ret
        exact ⟨ret_str (by rw [HR.out]; rfl), hw2⟩
      · have HR := Lib.hid hr
        clear hr
        go_wp2_with fail
        refine (refByte_any x HR.out _).mono ?_
        rintro r w3 ⟨rfl, hb3⟩
        have hown3 := ownsRow_later HO2.out hb3
        have hw3 : Below w.heap.size w w3 := hw2.trans (hb3.mono hw2.size)
        have bd := evB_bd HR.out
        have hwr : IntKind.u8.wrap (evB x) = evB x := IntWalk.u8_in _ (by omega)
        have hz := hw3.size
        clear e0 e1 e2 e3 HO2 hb3
        go_wp2_with (at_builtin; refine wp_appendB rfl (.tmp 17) (.tmp 24) rfl w.heap.size _ ns rfl (OwnB.alloc hown3 _) ⟨w3.heap.size, 0, none⟩ 1 1 rfl [evB x] rfl (bytes_new w3 [evB x] _ _ rfl) (by omega) (by simp; omega) ?_; intro v1 w4 hown4 hb4)
        have hb5 := (hw3.alloc hz _).trans hb4
        go_roundw
        case rel => exact ⟨k + 1, ns ++ [evB x], by omega, by go_num, (by show _ = _; rw [HT0.out, List.all_append, HA.out]; simp [HR.out]), HT, by simp; omega, hown4, hb5⟩
        case measure => simp [intOf]; omega
    · obtain rfl : k = l.length := by omega
      have hcv := run_bstr_any HO.out
      have HP : Hid (printE l = ns) := by
        show _ = _
        unfold printE
        have h := HA.out
        have h2 := HN.out
        rw [List.take_length] at h h2
        rw [if_pos h, h2]
      go_wp2
      go_ret
      exact ⟨ret_str (by rw [HP.out]), hb⟩

end Go.Proofs.Ytopklnehhebhmaa

/- The contracts of the document's Print of levels, and of its Key. -/
namespace Go.Proofs.Ytopklnehhebhmaa
open Go.RowKit

theorem bstr_app (a b : List Int) : bstr a ++ bstr b = bstr (a ++ b) := by
  apply ByteArray.ext
  simp [bstr]
theorem spell_take (m : List (List Ev)) {k : Nat} (hk : k < m.length) : (m.take (k + 1)).flatMap lvB = (m.take k).flatMap lvB ++ ([((m.getD k []).length : Int)] ++ printE (m.getD k [])) := by
  rw [List.take_succ_eq_append_getElem hk, List.flatMap_append, getD_lt _ hk]
  simp [lvB]

/-- One byte as a string. -/
theorem run_byte_str {w : World} {g : Nat} {x : Int} (hc : w.cell? ⟨g, 0, none⟩ = some (.int .u8 x)) : (convert 39 9 (.slice (some ⟨g, 0, none⟩) 1 1)).run Try.prog w = .ok (.string (bstr [x])) w := by
  rw [run_convert_bytes_string w _ _ 5 _ _ _ Try.underlying39 Try.underlying5 Try.underlying9]
  have hl := run_loadCells_list (P := Try.prog) w ⟨g, 0, none⟩ ([x].map (Value.int .u8)) (by intro j u hj; match j with | 0 => (simp at hj; subst hj; exact hc) | j + 1 => simp at hj)
  have h2 := run_bytesToString w ⟨g, 0, none⟩ _ 1 [x] hl
  rw [foldl_bstr] at h2
  have e : ByteArray.empty.data = #[] := rfl
  rw [e, Array.empty_append] at h2
  exact h2
theorem byte_new (w : World) (x : Int) : (w.alloc (.cells #[.int .u8 x] 5)).cell? ⟨w.heap.size, 0, none⟩ = some (.int .u8 x) := by
  rw [World.cell?_alloc_new]
  rfl
theorem step_strB {w : World} {ops : Array Oper} {o : Oper} {a : Act} {K : Act → World → Prop} {Q : Exit → Act → World → Prop} {E : Prop} (hgd : o.guard = none) (x : Operand)
    (ho : o.op = .convert 39 9 x) (S : ByteArray) (v : Value) (hx : a.eval x = v) (hrun : (convert 39 9 v).run Try.prog w = .ok (.string S) w)
    (h : K (a.put o.dst (.string S)) w) : if Region.wanted o (yielded ops a.tmps) = true then Oper.wp Try.prog o a w K Q else E := by
  have hw : Region.wanted o (yielded ops a.tmps) = true := by simp [Region.wanted, hgd]
  rw [if_pos hw]
  unfold Oper.wp
  simp [execOp, ho, hx, hrun, Result.andThen]
  exact h

set_option maxRecDepth 100000 in
set_option maxHeartbeats 4000000 in
theorem refLvPrint_any (a : Option Addr) (cap : Nat) (m : List (List Ev)) (w : World) (hl : LvAt w a m) (hm : m.length ≤ 1000000) (hf : m.flatten.length ≤ 1000000) (hr : ∀ i, (m.getD i []).length ≤ 1000000) :
    Calls Try.prog 30 #[.slice a m.length cap] w fun r w' => r = .returned (.string (bstr (printF m))) ∧ Below w.heap.size w w' := by
  have HL := Lib.hid hl
  have HC := Lib.hid (refLvRight_any a cap m w hl hm hf hr)
  have HP : Hid (printF m = if decide (levelsF m.flatten = m) = true then spellB m else []) := by show _ = _; unfold printF; simp
  have HS : Hid (decide (levelsF m.flatten = m) = true → ∀ i, (m.getD i []).length ≤ 200) := fun h i => by
    have := levelsF_row m.flatten i
    rw [of_decide_eq_true h] at this
    omega
  have HLB : Hid (∀ k, ((m.take k).flatMap lvB).length ≤ 2000000) := fun k => by
    by_cases hk : k ≤ m.length
    · have := lvB_len m k; omega
    · have := lvB_len m m.length
      rw [List.take_length] at this
      rw [List.take_of_length_le (by omega)]
      omega
  clear hl hf hr
  generalize decide (levelsF m.flatten = m) = D at *
  cases D
  · have HP2 : Hid (printF m = []) := by show _ = _; rw [HP.out]; rfl
    clear HS HP
    go_enter Try.func30, Try.ntmps30
    go_wp2_with fail
    refine HC.out.mono ?_
    rintro r w1 ⟨rfl, hb1⟩
    clear HC
    go_wp2
    go_ret
    exact ⟨ret_str (by rw [HP2.out]; rfl), hb1⟩
  · have HP2 : Hid (printF m = spellB m) := by show _ = _; rw [HP.out]; rfl
    have HS2 := Lib.hid (HS.out rfl)
    clear HS HP
    go_enter Try.func30, Try.ntmps30
    go_wp2_with fail
    refine HC.out.mono ?_
    rintro r w1 ⟨rfl, hb1⟩
    clear HC
    go_wp2_with fail
    go_loopw [3, 4] (fun s i wr => ∃ k : Nat, k ≤ m.length ∧ i = .int .i64 k ∧ s = .string (bstr ((m.take k).flatMap lvB)) ∧ Hid (Below w.heap.size w wr)) (fun _ i _ => m.length - (intOf i).toNat)
    case atStart => exact ⟨0, Nat.zero_le _, rfl, rfl, hb1⟩
    case round =>
      clear hb1
      obtain ⟨k, hk, rfl, rfl, HB⟩ := hrel
      by_cases hlt : k < m.length
      · obtain ⟨b, o, sa, sc, rfl, c0, he0, _⟩ := HL.out.one hlt
        have c1 := cell_later HB.out c0
        have HE1 := Lib.hid (he0.later HB.out)
        have HT := Lib.hid (spell_take m hlt)
        have hlen := HS2.out k
        have hpre := HLB.out k
        have hro := printE_le (m.getD k [])
        clear c0 he0
        generalize (m.take k).flatMap lvB = pre at *
        generalize m.getD k [] = row at *
        have hB9 : Below wr.heap.size wr wr.drew := (Below.refl _ _).drew
        have hBA : Below wr.heap.size wr (wr.alloc (.cells #[.int .u8 (row.length : Int)] 5)).drew := (below_alloc1 wr _).drew
        have hwr : IntKind.u8.wrap (row.length : Int) = row.length := IntWalk.u8_in _ (by omega)
        have HX1 : Hid ((convert 39 9 (.slice (some ⟨wr.heap.size, 0, none⟩) 1 1)).run Try.prog (wr.alloc (.cells #[.int .u8 (row.length : Int)] 5)).drew = .ok (.string (bstr [(row.length : Int)])) (wr.alloc (.cells #[.int .u8 (row.length : Int)] 5)).drew) := run_byte_str (byte_new wr _)
        have HX3 : Hid (∀ W : World, (convert 39 9 (.slice (some ⟨W.heap.size, 0, none⟩) 1 1)).run Try.prog (W.alloc (.cells #[.int .u8 (row.length : Int)] 5)) = .ok (.string (bstr [(row.length : Int)])) (W.alloc (.cells #[.int .u8 (row.length : Int)] 5))) := fun W => run_byte_str (byte_new W _)
        have HX5 : Hid (∀ W, Below (wr.alloc (.cells #[.int .u8 (row.length : Int)] 5)).drew.heap.size (wr.alloc (.cells #[.int .u8 (row.length : Int)] 5)).drew W → (convert 39 9 (.slice (some ⟨wr.heap.size, 0, none⟩) 1 1)).run Try.prog W = .ok (.string (bstr [(row.length : Int)])) W) := fun W hW => run_byte_str (cell_later hW (show (wr.alloc (.cells #[.int .u8 (row.length : Int)] 5)).drew.cell? ⟨wr.heap.size, 0, none⟩ = _ from byte_new wr _))
        have HCALL : Hid (∀ W, Below wr.heap.size wr W → Calls Try.prog 40 #[.slice sa row.length sc] W fun r w' => r = .returned (.string (bstr (printE row))) ∧ Below W.heap.size W w') := fun W hW => refEvPrint_any sa sc row W (HE1.out.later hW) (by omega)
        have HQ : Hid (∀ W, Below wr.heap.size wr W → W.cell? ⟨b, o + k, none⟩ = some (.slice sa row.length sc)) := fun W hW => cell_later hW c1
        have HT2 : Hid (bstr pre ++ (bstr [(row.length : Int)] ++ bstr (printE row)) = bstr ((m.take (k + 1)).flatMap lvB)) := by show _ = _; rw [bstr_app, bstr_app, ← HT.out]
        have hki : (k : Int) < (m.length : Int) := by omega
        have hz1 : ¬ 9223372036854775807 < (bstr [(row.length : Int)]).size + (bstr (printE row)).size := by rw [bstr_size, bstr_size]; simp; omega
        have hz2 : ¬ 9223372036854775807 < (bstr pre).size + (bstr [(row.length : Int)] ++ bstr (printE row)).size := by rw [bstr_app, bstr_size, bstr_size, List.length_append]; simp; omega
        have hz3 : ¬ 9223372036854775807 < (bstr pre).size + ((bstr [(row.length : Int)]).size + (bstr (printE row)).size) := by rw [bstr_size, bstr_size, bstr_size]; simp; omega
        have hX1 := HX1.out
        have hX3 := HX3.out
        clear HT
        obtain ⟨S2, hS2⟩ : ∃ S2, S2 = bstr ((m.take (k + 1)).flatMap lvB) := ⟨_, rfl⟩
        rw [← hS2] at HT2
        have HSE := Lib.hid hS2
        clear hS2
        go_wp2_with fail
        have k2 : (wr.alloc (.cells #[.int .u8 (row.length : Int)] 5)).cell? ⟨b, o + k, none⟩ = some (.slice sa row.length sc) := HQ.out _ (below_alloc1 wr _)
        go_region_with (first
          | (go_simp; go_at_call 40; ((with_reducible refine (HCALL.out _ hB9).mono ?_); rintro r w10 ⟨rfl, hb10⟩; have hB10 := hB9.trans (hb10.mono hB9.size); have c10 := HQ.out _ hB10; have c11 := HQ.out _ (hB10.alloc hB10.size (.cells #[.int .u8 (row.length : Int)] 5))))
          | (go_simp; go_at_call 40; ((with_reducible refine (HCALL.out _ hBA).mono ?_); rintro r w10 ⟨rfl, hb10⟩; have hB10 := hBA.trans (hb10.mono hBA.size); have c10 := HQ.out _ hB10; have hX2 := HX5.out _ hb10)))
        all_goals
          have HBZ := Lib.hid (HB.out.trans (hB10.mono HB.out.size))
          have HBY := Lib.hid (HBZ.out.alloc HBZ.out.size (.cells #[.int .u8 (row.length : Int)] 5))
          rw [HT2.out]
          go_wp2
          go_roundw
          case rel => exact ⟨k + 1, by omega, by go_num, by rw [HSE.out], (by first | exact HBZ.out | exact HBY.out)⟩
          case measure => simp [intOf]; omega
      · obtain rfl : k = m.length := by omega
        rw [List.take_length]
        have hcv := run_byte_str (byte_new wr 0)
        have hwz : Below w.heap.size w (wr.alloc (.cells #[.int .u8 0] 5)) := HB.out.alloc HB.out.size _
        have hz1 : ¬ 9223372036854775807 < (bstr (m.flatMap lvB)).size + (bstr [0]).size := by have h := HLB.out m.length; rw [List.take_length] at h; rw [bstr_size, bstr_size]; simp only [List.length_singleton]; omega
        have HT2 : Hid (bstr (m.flatMap lvB) ++ bstr [0] = bstr (spellB m)) := by show _ = _; rw [bstr_app]; rfl
        go_wp2
        go_ret
        exact ⟨ret_str (by rw [HP2.out, ← HT2.out]), hwz⟩

end Go.Proofs.Ytopklnehhebhmaa

/- The contract of the document's Read of levels. -/
namespace Go.Proofs.Ytopklnehhebhmaa
open Go.RowKit

def RefReadR (w : World) (s : List UInt8) (r : Ending) (w' : World) : Prop :=
  ((keyOk s ∧ ∃ v ss, r = .returned (.tuple #[v, .bool true]) ∧ OwnLv w' w.heap.size v ss (parseN 200 s)) ∨ (¬ keyOk s ∧ r = .returned (.tuple #[.slice none 0 0, .bool false]))) ∧ Below w.heap.size w w'

set_option maxRecDepth 100000 in
set_option maxHeartbeats 4000000 in
theorem refLvRead_any (s : List UInt8) (w : World) (hm : s.length ≤ 1000) :
    Calls Try.prog 21 #[.string ⟨s.toArray⟩] w (RefReadR w s) := by
  have hsz : (⟨s.toArray⟩ : ByteArray).size = s.length := rfl
  have HNO : Hid (∀ w', Below w.heap.size w w' → ¬ keyN 1000 s → RefReadR w s (.returned (.tuple #[.slice none 0 0, .bool false])) w') := fun w' h1 h2 => ⟨.inr ⟨fun e => h2 ((keyN_iff (by omega)).2 e), rfl⟩, h1⟩
  have HYES : Hid (∀ w' v ss m, Below w.heap.size w w' → keyN 1000 s → parseN 1000 s = m → OwnLv w' w.heap.size v ss m → RefReadR w s (.returned (.tuple #[v, .bool true])) w') := fun w' v ss m h1 h2 h3 h4 => ⟨.inl ⟨(keyN_iff (by omega)).1 h2, v, ss, rfl, by rw [keyN_parse (Nat.le_refl _) h2, h3]; exact h4⟩, h1⟩
  go_enter Try.func21, Try.ntmps21
  go_wp2
  go_loopw [4, 5] (fun v i wr => ∃ (k : Nat) (t : List UInt8) (ss : List Sl) (m : List (List Ev)) (a : Option Addr) (cap : Nat), i = .int .i64 k ∧ v = .slice a m.length cap ∧ k ≤ s.length ∧ m.length ≤ 1000 ∧ Hid (DocAt 1000 s t m k) ∧ Hid (OwnLv wr w.heap.size v ss m) ∧ Hid (Below w.heap.size w wr)) (fun _ i _ => s.length - (intOf i).toNat)
  case atStart => exact ⟨0, s, [], [], none, 0, rfl, rfl, Nat.zero_le _, by simp, docAt_zero 1000 s, ownLv_nil _ _, Below.refl _ _⟩
  case round =>
    obtain ⟨k, t, ss, m, a, cap, rfl, rfl, hk, hm2, HD, HV, HB⟩ := hrel
    by_cases hlt : k < s.length
    · have hq : decide ((k : Int) < (s.length : Int)) = true := by simp; omega
      have hki : (k : Int) < (s.length : Int) := by omega
      have hki0 : (0 : Int) ≤ k := by omega
      have ht := HD.out.2.1
      obtain ⟨c, r, hcr⟩ : ∃ c r, t = c :: r := by
        cases t with
        | nil => have := HD.out.1; simp at this; omega
        | cons c r => exact ⟨c, r, rfl⟩
      subst hcr
      have hc : s[k] = c := by
        have := List.drop_eq_getElem_cons hlt
        rw [← ht] at this
        injection this with this
        exact this.symm
      have hrl : k + (r.length + 1) = s.length := by have := HD.out.1; simpa using this
      have hix : ∀ h : k < (⟨s.toArray⟩ : ByteArray).size, (⟨s.toArray⟩ : ByteArray)[k] = c := fun _ => hc
      have bc := UInt8.toNat_lt c
      have hdr : r = s.drop (k + 1) := by
        have := congrArg List.tail ht
        simpa [List.tail_drop] using this
      clear ht hc
      by_cases hc0 : c.toNat = 0
      · obtain rfl : c = 0 := UInt8.toNat_inj.1 hc0
        clear hc0
        have hw : IntKind.i64.wrap ((s.length : Int) - 1) = (s.length : Int) - 1 := IntWalk.i64_in _ (by omega)
        by_cases hkl : k + 1 = s.length
        · have hne : ((k : Int) != (s.length : Int) - 1) = false := by simp; omega
          have hP := doc_end HD.out (.inr ⟨r, rfl⟩)
          have HPE := Lib.hid hP
          have HKY := Lib.hid (doc_end_key HD.out (.inr ⟨r, rfl⟩))
          have hgl := parseN_get 1000 s
          rw [hP] at hgl
          have hfl : m.flatten.length ≤ 1000000 := by have := parseN_flat 1000 s; rw [hP] at this; omega
          obtain ⟨_, _, hv, hat, _⟩ := OwnLv.form HV.out (by omega) (fun i _ => by have := hgl i; omega)
          injection hv with hv1 _ hv2
          subst hv1 hv2
          have HC := Lib.hid (refLvPrint_any a cap m wr hat (by omega) hfl (fun i => by have := hgl i; omega))
          rw [bstr_u8s] at HC
          clear hP hgl hfl hat hkl
          go_wp2_with fail
          refine HC.out.mono ?_
          rintro x w1 ⟨rfl, hb1⟩
          have HB1 := Lib.hid (HB.out.trans (hb1.mono HB.out.size))
          have HV1 := Lib.hid (HV.out.later hb1)
          generalize u8s (printF m) = L at *
          by_cases hL : L = s
          · have hq : (L == s) = true := by simp [hL]
            have HKK := Lib.hid (HKY.out.2 hL)
            clear hL HC
            go_wp2
            go_ret2
            exact HYES.out _ _ ss m HB1.out HKK.out HPE.out HV1.out
          · have hq : (L == s) = false := by simp [hL]
            have HKK := Lib.hid (fun e => hL (HKY.out.1 e))
            clear hL HC
            go_wp2
            go_ret2
            exact HNO.out _ HB1.out HKK.out
        · have hne : ((k : Int) != (s.length : Int) - 1) = true := by simp; omega
          have HBAD := Lib.hid (doc_end_bad HD.out (.inr ⟨r, rfl⟩) hkl)
          clear hkl
          go_wp2_with fail
          go_ret2
          exact HNO.out _ HB.out HBAD.out
      · have hq2 : decide ((0 : Int) < (c.toNat : Int)) = true := by simp; omega
        have vc : IntKind.i64.wrap (c.toNat : Int) = c.toNat := IntWalk.i64_in _ (by omega)
        have vd : IntKind.i64.wrap ((k : Int) + 1) = (k : Int) + 1 := IntWalk.i64_in _ (by omega)
        have ve : IntKind.i64.wrap ((k : Int) + 1 + c.toNat) = (k : Int) + 1 + c.toNat := IntWalk.i64_in _ (by omega)
        have vf : IntKind.i64.wrap (1 + (c.toNat : Int)) = 1 + c.toNat := IntWalk.i64_in _ (by omega)
        have vg : IntKind.i64.wrap ((k : Int) + (1 + (c.toNat : Int))) = (k : Int) + (1 + c.toNat) := IntWalk.i64_in _ (by omega)
        by_cases hr : r.length < c.toNat
        · have hq3 : decide ((s.length : Int) < (k : Int) + 1 + (c.toNat : Int)) = true := by simp; omega
          have HN := Lib.hid (HNO.out)
          have HBAD := Lib.hid (doc_bad_short HD.out hm hc0 hr)
          go_wp2
          go_ret2
          exact HNO.out _ HB.out HBAD.out
        · have hq3 : decide ((s.length : Int) < (k : Int) + 1 + (c.toNat : Int)) = false := by simp; omega
          have htl : (r.take c.toNat).length ≤ 1000000 := by have := List.length_take_le' c.toNat r; omega
          have hx1 : (⟨s.toArray⟩ : ByteArray).extract (k + 1) (k + 1 + c.toNat) = ⟨(r.take c.toNat).toArray⟩ := by
            rw [cut_mid, hdr, List.drop_take]
            congr 3
            omega
          have hsl : ∀ W, (Instr.slice 9 (.string ⟨s.toArray⟩) (some (.int .i64 ((k : Int) + 1))) (some (.int .i64 ((k : Int) + 1 + (c.toNat : Int)))) none).run Try.prog W = .ok (.string ⟨(r.take c.toNat).toArray⟩) W := fun W => by
            have h := run_slice_string (P := Try.prog) W 9 ⟨s.toArray⟩ .i64 .i64 ((k : Int) + 1) ((k : Int) + 1 + (c.toNat : Int)) Try.underlying9 (by omega) (by omega) (by rw [hsz]; omega)
            rw [show ((k : Int) + 1).toNat = k + 1 by omega, show ((k : Int) + 1 + (c.toNat : Int)).toNat = k + 1 + c.toNat by omega, hx1] at h
            exact h
          have HDN : Hid (readOk (r.take c.toNat) = true → DocAt 1000 s (r.drop c.toNat) (m ++ [readE (r.take c.toNat)]) (k + 1 + c.toNat)) := docAt_step HD.out hm hc0 (by omega)
          have HBD : Hid (readOk (r.take c.toNat) = false → ¬ keyN 1000 s) := doc_bad_read HD.out hm hc0
          have hmk : m.length ≤ k := HD.out.2.2.2.2
          clear hdr hx1
          go_wp2_with fail
          refine (refEvReadO_any (r.take c.toNat) wr htl).mono ?_
          rintro x w1 ⟨a1, cap1, rfl, h1, hb1⟩
          have HR1 := Lib.hid h1
          have hb1s := hb1.size
          have hBB := HB.out.size
          have HB1 := Lib.hid (HB.out.trans (hb1.mono hBB))
          have HV1 := Lib.hid (HV.out.later hb1)
          have HVB := Lib.hid hb1
          clear hsl h1 hb1 htl
          have hrl2 : c.toNat ≤ r.length := by omega
          cases ho : readOk (r.take c.toNat)
          · have HBAD := Lib.hid (HBD.out ho)
            clear ho HDN HBD
            generalize readE (r.take c.toNat) = row at *
            go_wp2_with fail
            go_ret2
            exact HNO.out _ HB1.out HBAD.out
          · have HDO := Lib.hid (HDN.out ho)
            clear ho HDN HBD
            generalize readE (r.take c.toNat) = row at *
            generalize r.drop c.toNat = t2 at *
            go_wp2_with (at_builtin; refine wp_appendR (f := slCell) (n := 1) 50 63 24 (.slice none 0 0) Try.underlying50 infoSl rfl (by omega) (by omega) slCell_len rfl _ _ rfl w.heap.size _ ss rfl (HV1.out.outer.alloc _) ⟨w1.heap.size, 0, none⟩ rfl ⟨a1, row.length, cap1⟩ (slCell_one _) (cells_new w1 (slCell ⟨a1, row.length, cap1⟩) _ _ rfl) (by have := HV1.out.len; omega) (by simp; omega) ?_; intro v' w' h1 h2 h3; obtain ⟨g, capg, hv, _, _⟩ := OwnRow.block h1 (by simp); rw [List.length_append, List.length_singleton] at hv; subst hv)
            have HV2 : Hid (OwnLv w' w.heap.size (.slice (some ⟨g, 0, none⟩) (m ++ [row]).length capg) (ss ++ [⟨a1, row.length, cap1⟩]) (m ++ [row])) := by
              show OwnLv _ _ _ _ _
              have hlen : (m ++ [row]).length = ss.length + 1 := by simp [HV1.out.len]
              rw [hlen]
              exact OwnLv.push HV.out (HVB.out.trans ((below_alloc1 w1 _).mono hb1s)) (HR1.out.alloc _) hBB h1 h3
            have HB2 : Hid (Below w.heap.size w w') := HB1.out.trans (((below_alloc1 w1 (.cells #[.slice a1 row.length cap1] 63)).mono HB1.out.size).trans h2)
            have hsl2 : ss.length = m.length := HV1.out.len
            rw [hsl2]
            clear h1 h2 h3
            go_roundw
            case rel => exact ⟨k + 1 + c.toNat, t2, ss ++ [⟨a1, row.length, cap1⟩], m ++ [row], some ⟨g, 0, none⟩, capg, by go_num, by simp, by omega, by simp; omega, HDO.out, (by have h := HV2.out; rw [List.length_append, List.length_singleton] at h; exact h), HB2⟩
            case measure => simp [intOf]; omega
    · obtain rfl : k = s.length := by omega
      have htn : t = [] := by have h := HD.out.1; exact List.eq_nil_of_length_eq_zero (by omega)
      have HBAD := Lib.hid (doc_end_bad HD.out (.inl htn) (by omega))
      have hq : decide ((s.length : Int) < (s.length : Int)) = false := by simp
      have hw : IntKind.i64.wrap ((s.length : Int) - 1) = (s.length : Int) - 1 := IntWalk.i64_in _ (by omega)
      have hne : ((s.length : Int) != (s.length : Int) - 1) = true := by simp; omega
      go_wp2
      go_ret2
      exact HNO.out _ HB.out HBAD.out

end Go.Proofs.Ytopklnehhebhmaa

/- Is a text some row's Key: the program's isKey, and what the document's Read tells. -/
namespace Go.Proofs.Ytopklnehhebhmaa
open Go.RowKit

/-- Are these bytes some row's Key? -/
def isK (s : Key) : Bool := decide (u8s (printF (parseN 200 s)) = s)
theorem isK_iff {s : Key} : isK s = true ↔ keyOk s := by
  unfold isK keyOk
  rw [decide_eq_true_eq, bstr_u8s]
  constructor
  · intro e; rw [e]
  · intro e
    injection e with e
    simpa using congrArg Array.toList e
theorem isK_yes {s : Key} (h : keyOk s) : isK s = true := isK_iff.2 h
theorem isK_no {s : Key} (h : ¬ keyOk s) : isK s = false := Bool.eq_false_iff.2 fun e => h (isK_iff.1 e)

set_option maxRecDepth 100000 in
theorem isKey_any (s : Key) (w : World) (hm : s.length ≤ 1000000) :
    Calls Try.prog 20 #[.string ⟨s.toArray⟩] w fun r w' => r = .returned (.bool (isK s)) ∧ Below w.heap.size w w' := by
  go_enter Try.func20, Try.ntmps20
  go_wp2_with fail
  refine (readF_any s w hm).mono ?_
  rintro r w1 ⟨h, hb⟩
  rcases h with ⟨hk, v, ss, rfl, _⟩ | ⟨hk, rfl⟩
  · have HK := Lib.hid (isK_yes hk)
    clear hk
    go_wp2
    go_ret
    exact ⟨ret_bool HK.out.symm, hb⟩
  · have HK := Lib.hid (isK_no hk)
    clear hk
    go_wp2
    go_ret
    exact ⟨ret_bool HK.out.symm, hb⟩
/-- What the document's Read tells of a text, less the levels. -/
theorem refKey_any (s : Key) (w : World) (hm : s.length ≤ 1000) :
    Calls Try.prog 21 #[.string ⟨s.toArray⟩] w fun r w' => (∃ v, r = .returned (.tuple #[v, .bool (isK s)])) ∧ Below w.heap.size w w' := by
  refine (refLvRead_any s w hm).mono ?_
  rintro r w1 ⟨h, hb⟩
  rcases h with ⟨hk, v, ss, rfl, _⟩ | ⟨hk, rfl⟩
  · exact ⟨⟨v, by rw [isK_yes hk]⟩, hb⟩
  · exact ⟨⟨_, by rw [isK_no hk]⟩, hb⟩
end Go.Proofs.Ytopklnehhebhmaa

/- The contract of the report's Right. -/
namespace Go.Proofs.Ytopklnehhebhmaa
open Go.RowKit Go.Sort

/-- So far keys that may be stand, rising. -/
def RiteTo (ks : List Key) (i : Nat) : Prop := ∀ j (h : j < ks.length), j < i → isK ks[j] = true ∧ (0 < j → ks[j - 1] < ks[j])
theorem riteTo_zero (ks : List Key) : RiteTo ks 0 := fun _ _ h => absurd h (Nat.not_lt_zero _)
theorem RiteTo.more {ks : List Key} {i : Nat} (h : RiteTo ks i) (hi : i < ks.length) (h1 : isK ks[i] = true) (h2 : 0 < i → ks[i - 1] < ks[i]) : RiteTo ks (i + 1) := fun j hj hlt => by
  by_cases e : j = i
  · subst e; exact ⟨h1, h2⟩
  · exact h j hj (by omega)
theorem RiteTo.done {ks : List Key} (h : RiteTo ks ks.length) : rightR isK ks = decide (ks.length ≤ 65535) := by
  by_cases hl : ks.length ≤ 65535
  · rw [decide_eq_true hl]
    exact rightR_iff.2 ⟨fun i hi => h i hi hi, hl⟩
  · rw [decide_eq_false hl]
    exact Bool.eq_false_iff.2 fun e => hl (rightR_iff.1 e).2
theorem rightR_many {ks : List Key} (h : 65535 < ks.length) : rightR isK ks = false := Bool.eq_false_iff.2 fun e => by have := (rightR_iff.1 e).2; omega

set_option maxRecDepth 100000 in
set_option maxHeartbeats 2000000 in
theorem right15_any (a : Option Addr) (cap : Nat) (ks : List Key) (c : Bool) (w : World) (hl : RowAt w a 1 strCell ks) (hm : ks.length ≤ 1000000) (hk : ∀ k ∈ ks, k.length ≤ 1000000) :
    Calls Try.prog 12 #[.agg #[.slice a ks.length cap, .bool c]] w fun r w' => r = .returned (.bool (rightR isK ks)) ∧ Below w.heap.size w w' := by
  have HL := Lib.hid hl
  have HK := Lib.hid hk
  clear hl hk
  by_cases hmany : 65535 < ks.length
  case pos =>
    have hq : decide ((65535 : Int) < (ks.length : Int)) = true := by simp; omega
    have HR := Lib.hid (rightR_many hmany)
    have hb := below_alloc1 w (.cells #[.slice a ks.length cap, .bool c] 26)
    go_enter Try.func12, Try.ntmps12
    go_wp2
    go_ret
    exact ⟨ret_bool HR.out.symm, hb⟩
  have hq : decide ((65535 : Int) < (ks.length : Int)) = false := by simp; omega
  have hmm : ¬ 65535 < ks.length := hmany
  go_enter Try.func12, Try.ntmps12
  have hb : Below w.heap.size w (w.alloc (.cells #[.slice a ks.length cap, .bool c] 26)) := below_alloc1 _ _
  have c0 : (w.alloc (.cells #[.slice a ks.length cap, .bool c] 26)).cell? ⟨w.heap.size, 0, none⟩ = some (.slice a ks.length cap) := by simp
  have hsz : w.heap.size < (w.alloc (.cells #[.slice a ks.length cap, .bool c] 26)).heap.size := by simp
  go_wp2
  generalize w.alloc (.cells #[.slice a ks.length cap, .bool c] 26) = W at *
  go_loopw [12] (fun i wr => ∃ k : Nat, k ≤ ks.length ∧ i = .int .i64 k ∧ Hid (RiteTo ks k) ∧ Hid (Below W.heap.size W wr)) (fun i _ => ks.length - (intOf i).toNat)
  case atStart => exact ⟨0, Nat.zero_le _, rfl, riteTo_zero ks, Below.refl _ _⟩
  case round =>
    obtain ⟨k, hk, rfl, HT, HB⟩ := hrel
    have d0 := cell_later HB.out c0
    by_cases hlt : k < ks.length
    · have HA := HL.out.later (hb.trans (HB.out.mono hb.size))
      obtain ⟨b, o, rfl, e1⟩ := HA.str hlt
      have hkl := HK.out ks[k] (List.getElem_mem hlt)
      have hmore : isK ks[k] = true → (0 < k → ks[k - 1] < ks[k]) → RiteTo ks (k + 1) := fun h1 h2 => HT.out.more hlt h1 h2
      have HM := Lib.hid hmore
      have HNO : Hid (isK ks[k] = false ∨ 0 < k ∧ ks[k] ≤ ks[k - 1] → rightR isK ks = false) := fun h => rightR_no hlt h
      by_cases hk0 : k = 0
      · subst hk0
        rw [Nat.add_zero] at e1
        clear hmore
        generalize ks[0] = x at *
        have HC := Lib.hid fun W2 => isKey_any x W2 hkl
        cases hx : isK x
        · rw [hx] at HC
          go_wp2_with fail
          refine (HC.out _).mono ?_
          rintro r w3 ⟨rfl, hb3⟩
          have hb4 := hb.trans ((HB.out.trans (hb3.mono HB.out.size)).mono hb.size)
          go_wp2
          go_ret
          exact ⟨ret_bool (HNO.out (.inl hx)).symm, hb4⟩
        · rw [hx] at HC
          go_wp2_with fail
          refine (HC.out _).mono ?_
          rintro r w3 ⟨rfl, hb3⟩
          have hb4 := HB.out.trans (hb3.mono HB.out.size)
          go_wp2_with fail
          go_roundw
          case rel => exact ⟨1, by omega, by go_num, HM.out hx (fun h => absurd h (Nat.lt_irrefl _)), hb4⟩
          case measure => simp [intOf]; omega
      · have hk1 : k - 1 < ks.length := by omega
        obtain ⟨b', o', e', e2⟩ := HA.str hk1
        cases e'
        have hkd : decide ((0 : Int) < (k : Int)) = true := by simp; omega
        have hks : IntKind.i64.wrap ((k : Int) - 1) = ((k - 1 : Nat) : Int) := by rw [IntWalk.i64_in _ (by omega)]; omega
        clear hmore
        generalize ks[k] = x at *
        generalize ks[k - 1] = y at *
        have HC := Lib.hid fun W2 => isKey_any x W2 hkl
        by_cases hyx : y < x
        · have hd : Op.bytesLess y x = true := by rw [bytesLess_eq]; simp [hyx]
          cases hx : isK x
          · rw [hx] at HC
            go_wp2_with fail
            refine (HC.out _).mono ?_
            rintro r w3 ⟨rfl, hb3⟩
            have hb4 := hb.trans ((HB.out.trans (hb3.mono HB.out.size)).mono hb.size)
            go_wp2
            go_ret
            exact ⟨ret_bool (HNO.out (.inl hx)).symm, hb4⟩
          · rw [hx] at HC
            go_wp2_with fail
            refine (HC.out _).mono ?_
            rintro r w3 ⟨rfl, hb3⟩
            have hb4 := HB.out.trans (hb3.mono HB.out.size)
            go_wp2_with fail
            go_roundw
            case rel => exact ⟨k + 1, by omega, by go_num, HM.out hx (fun _ => hyx), hb4⟩
            case measure => simp [intOf]; omega
        · have hd : Op.bytesLess y x = false := by rw [bytesLess_eq]; simp [hyx]
          have hb4 := hb.trans (HB.out.mono hb.size)
          go_wp2
          go_ret
          exact ⟨ret_bool (HNO.out (.inr ⟨by omega, List.not_lt.1 hyx⟩)).symm, hb4⟩
    · obtain rfl : k = ks.length := by omega
      have HR := Lib.hid HT.out.done
      rw [decide_eq_true (show ks.length ≤ 65535 by omega)] at HR
      have hb4 := hb.trans (HB.out.mono hb.size)
      go_wp2
      go_ret
      exact ⟨ret_bool HR.out.symm, hb4⟩
end Go.Proofs.Ytopklnehhebhmaa

/- The contract of the report's Print. -/
namespace Go.Proofs.Ytopklnehhebhmaa
open Go.RowKit

theorem ofU_cells (s : List UInt8) : Lib.strCells ⟨s.toArray⟩ = (ofU s).map (Value.int .u8) := by
  rw [← bstr_ofU]
  refine strCells_bstr _ fun n hn => ?_
  obtain ⟨c, _, rfl⟩ := List.mem_map.1 hn
  have := UInt8.toNat_lt c
  omega
theorem ownB_one (w : World) : OwnB (w.alloc (.cells #[.int .u8 1] 5)) w.heap.size (.slice (some ⟨w.heap.size, 0, none⟩) 1 1) (ofU [flagR true]) := ownB_made w _ (Nat.le_refl _) [1] (by simp [maxLen])
theorem ownB_zero (w : World) : OwnB (w.alloc (.cells #[.int .u8 0] 5)) w.heap.size (.slice (some ⟨w.heap.size, 0, none⟩) 1 1) (ofU [flagR false]) := ownB_made w _ (Nat.le_refl _) [0] (by simp [maxLen])
/-- Bytes so far. -/
def outR (ks : List Key) (c : Bool) (k : Nat) : List UInt8 := flagR c :: (twoR ks.length ++ bodyR (ks.take k))
theorem outR_zero (ks : List Key) (c : Bool) : outR ks c 0 = [flagR c] ++ twoR ks.length := by simp [outR, bodyR]
theorem outR_more {ks : List Key} {c : Bool} {k : Nat} (h : k < ks.length) : outR ks c (k + 1) = (outR ks c k ++ twoR ks[k].length) ++ ks[k] := by
  unfold outR
  rw [bodyR_take h]
  simp
theorem outR_end {ks : List Key} {c : Bool} (h : rightR isK ks = true) : outR ks c ks.length = printR isK ks c := by
  unfold outR printR
  rw [if_pos h, List.take_length]
theorem outR_len {ks : List Key} {c : Bool} (hm : ks.length ≤ 1000) (hk : ∀ k ∈ ks, k.length ≤ 1000) (k : Nat) : (outR ks c k).length ≤ 1100000 := by
  have h1 := bodyR_len (ks := ks.take k) (m := 1000) fun x hx => hk x (List.mem_of_mem_take hx)
  have h2 : (ks.take k).length ≤ 1000 := by rw [List.length_take]; omega
  have h3 := Nat.mul_le_mul_right (1000 + 2) h2
  unfold outR
  simp only [List.length_cons, List.length_append, twoR, List.length_nil]
  omega

set_option maxRecDepth 100000 in
set_option maxHeartbeats 2000000 in
theorem print15_any (a : Option Addr) (cap : Nat) (ks : List Key) (c : Bool) (w : World) (hl : RowAt w a 1 strCell ks) (hm : ks.length ≤ 1000) (hk : ∀ k ∈ ks, k.length ≤ 1000) :
    Calls Try.prog 8 #[.agg #[.slice a ks.length cap, .bool c]] w fun r w' => r = .returned (.string ⟨(printR isK ks c).toArray⟩) ∧ Below w.heap.size w w' := by
  obtain ⟨i0, hi0, hzz⟩ := Option.map_eq_some_iff.1 (show (Try.prog.info? 5).map (fun i => (i.zero, i.size, i.bytes)) = some (some (.int .u8 0), 1, 1) by kernel_rfl)
  simp only [Prod.mk.injEq] at hzz
  obtain ⟨hz0, hzs, hzb⟩ := hzz
  have HL := Lib.hid hl
  have HK := Lib.hid hk
  have HOL := Lib.hid (outR_len (c := c) hm hk)
  clear hl hk
  have hb : Below w.heap.size w (w.alloc (.cells #[.slice a ks.length cap, .bool c] 26)) := below_alloc1 _ _
  have HC := Lib.hid (right15_any a cap ks c _ (HL.out.later hb) (by omega) (fun k h => Nat.le_trans (HK.out k h) (by omega)))
  have c0 : (w.alloc (.cells #[.slice a ks.length cap, .bool c] 26)).cell? ⟨w.heap.size, 0, none⟩ = some (.slice a ks.length cap) := by simp
  have c1 : (w.alloc (.cells #[.slice a ks.length cap, .bool c] 26)).cell? ⟨w.heap.size, 1, none⟩ = some (.bool c) := by simp
  have hsz : w.heap.size < (w.alloc (.cells #[.slice a ks.length cap, .bool c] 26)).heap.size := by simp
  cases hr : rightR isK ks
  · rw [hr] at HC
    have HP : Hid (printR isK ks c = []) := by show _ = _; unfold printR; rw [hr]; rfl
    clear hr
    go_enter Try.func8, Try.ntmps8
    go_wp2_with fail
    refine HC.out.mono ?_
    rintro r w1 ⟨rfl, hb1⟩
    go_wp2
    go_ret
    exact ⟨congrArg (fun x : List UInt8 => Ending.returned (.string ⟨x.toArray⟩)) HP.out.symm, hb.trans (hb1.mono hb.size)⟩
  rw [hr] at HC
  have HP := Lib.hid (outR_end (c := c) hr)
  clear hr
  go_enter Try.func8, Try.ntmps8
  go_wp2_with fail
  refine HC.out.mono ?_
  rintro r w1 ⟨rfl, hb1⟩
  have d0 := cell_later hb1 c0
  have d1 := cell_later hb1 c1
  have hbw := hb.trans (hb1.mono hb.size)
  have hz := Nat.lt_of_lt_of_le hsz hb1.size
  clear HC c0 c1 hb1 hsz hb
  have HSP : Hid (∀ v W, OwnB W w1.heap.size v (ofU [flagR c]) → w1.heap.size ≤ W.heap.size → Calls Try.prog 17 #[v, .int .i64 (ks.length : Nat)] W fun r w' => ∃ v', r = .returned v' ∧ OwnB w' w1.heap.size v' (ofU (outR ks c 0)) ∧ Below w1.heap.size W w') := fun v W h1 h2 => by
    rw [outR_zero]
    exact rspell_any ks.length h1 (by omega) h2 (by simp)
  have HOWN : Hid (c = true → OwnB (w1.alloc (.cells #[.int .u8 1] 5)) w1.heap.size (.slice (some ⟨w1.heap.size, 0, none⟩) 1 1) (ofU [flagR c])) := fun h => by rw [h]; exact ownB_one w1
  have HOWN2 : Hid (c = false → OwnB (w1.alloc (.cells #[.int .u8 0] 5)) w1.heap.size (.slice (some ⟨w1.heap.size, 0, none⟩) 1 1) (ofU [flagR c])) := fun h => by rw [h]; exact ownB_zero w1
  have hba := below_alloc1 w1 (.cells #[.int .u8 0] 5)
  have hbs := below_alloc1 w1 (.cells #[.int .u8 1] 5)
  have HEND : Hid (∀ v wr, OwnB wr w1.heap.size v (ofU (outR ks c ks.length)) → (convert 39 9 v).run Try.prog wr = .ok (.string ⟨(printR isK ks c).toArray⟩) wr) := fun v wr h => by
    rw [run_bstr h (by simp [outR, ofU]), bstr_ofU, HP.out]
  have HMO : Hid (∀ k (h : k < ks.length), outR ks c (k + 1) = (outR ks c k ++ twoR ks[k].length) ++ ks[k]) := fun _ h => outR_more h
  have e0 := cell_later hba d0
  have e1 := cell_later hbs d0
  clear HP
  generalize outR ks c = out at *
  cases c
  case' true =>
    have HO := Lib.hid (HOWN.out rfl)
    clear HOWN HOWN2
    go_wp2_with fail
    refine (HSP.out _ _ HO.out hbs.size).mono ?_
    rintro r w2 ⟨v2, rfl, hown2, hb2⟩
    have hb3 := hbs.trans hb2
  case' false =>
    have HO := Lib.hid (HOWN2.out rfl)
    clear HOWN HOWN2
    go_wp2_with fail
    refine (HSP.out _ _ HO.out hba.size).mono ?_
    rintro r w2 ⟨v2, rfl, hown2, hb2⟩
    have hb3 := hba.trans hb2
  all_goals
    have HO2 := Lib.hid hown2
    have HB2 := Lib.hid hb3
    have f0 := cell_later hb3 d0
    clear hown2 hb2 hb3 HO hba hbs e0 e1 HSP d1
    go_wp2_with fail
    go_loopw [3, 22] (fun v i wr => ∃ (k : Nat), k ≤ ks.length ∧ i = .int .i64 k ∧ Hid (OwnB wr w1.heap.size v (ofU (out k))) ∧ Hid (Below w1.heap.size w1 wr)) (fun _ i _ => ks.length - (intOf i).toNat)
    case atStart => exact ⟨0, Nat.zero_le _, rfl, HO2.out, HB2.out⟩
    case round =>
      clear HO2 HB2 f0
      obtain ⟨k, hk, rfl, HO, HB⟩ := hrel
      have f0 := cell_later HB.out d0
      by_cases hlt : k < ks.length
      · have HA := HL.out.later (hbw.trans (HB.out.mono hbw.size))
        obtain ⟨b, o, rfl, e1⟩ := HA.str hlt
        have hkl := HK.out ks[k] (List.getElem_mem hlt)
        have hol := HOL.out k
        have hMO := HMO.out k hlt
        have hol2 := HOL.out (k + 1)
        have HS := Lib.hid (rspell_any ks[k].length HO.out (by omega) HB.out.size (by omega))
        rw [hMO] at hol2
        have HM := Lib.hid hMO
        clear HA hMO HO
        generalize ks[k] = x at *
        have hlx : (out k ++ twoR x.length).length + x.length ≤ 1100000 := by rw [List.length_append] at hol2; exact hol2
        have hsx : (⟨x.toArray⟩ : ByteArray).size = x.length := rfl
        clear hol2 hol
        go_wp2_with fail
        refine HS.out.mono ?_
        rintro r w3 ⟨v3, rfl, hown3, hb3⟩
        have HO3 := Lib.hid hown3
        have HB3 := Lib.hid (HB.out.trans hb3)
        have hBB := HB3.out.size
        have hln := ofU_length (out k ++ twoR x.length)
        clear hown3 hb3 HS HB e1 f0
        generalize out k ++ twoR x.length = y at *
        go_wp2_with (at_builtin; refine Lib.wpList_append_own_string _ rfl _ _ 39 9 rfl w1.heap.size 5 i0 Try.underlying39 Try.underlying9 hi0 hz0 hzs hzb _ _ _ rfl HO3.out ⟨x.toArray⟩ rfl (by rw [hsx, hln]; unfold maxLen; omega) (by rw [hsx, hln]; omega) hBB ?_; intro v4 w4 h1 h2 _)
        have HB4 : Hid (Below w1.heap.size w1 w4) := HB3.out.trans ((Below.refl _ w3).grown h2 hBB (fun k hk => (World.ownsRow.lt HO3.out k hk).1))
        have HO4 : Hid (OwnB w4 w1.heap.size v4 (ofU (out (k + 1)))) := by
          show OwnB _ _ _ _
          rw [HM.out]
          unfold OwnB
          rw [ofU_cells, hsx] at h1
          rw [ofU_append, List.length_append, List.map_append, ofU_length x]
          exact h1
        clear h1 h2
        go_roundw
        case rel => exact ⟨k + 1, by omega, by go_num, HO4.out, HB4.out⟩
        case measure => simp [intOf]; omega
      · obtain rfl : k = ks.length := by omega
        have hcv := HEND.out _ _ HO.out
        have hb5 := hbw.trans (HB.out.mono hbw.size)
        go_wp2
        go_ret
        exact ⟨rfl, hb5⟩
end Go.Proofs.Ytopklnehhebhmaa

/- The contract of the report's Read. -/
namespace Go.Proofs.Ytopklnehhebhmaa
open Go.RowKit

/-- What the whole says, where the keys could be read. -/
theorem readR_take {ok : Key → Bool} {u : List UInt8} {ks : List Key} {t : List UInt8} (h3 : 3 ≤ u.length) (h : takeR (numR u 1) (u.drop 3) = some (ks, t)) :
    readR ok u = if 1 < (u.getD 0 0).toNat ∨ t ≠ [] ∨ rightR ok ks = false then .error 3 else .ok (ks, u.getD 0 0 == 1) := by
  obtain ⟨f, a, b, r, rfl⟩ := three_of h3
  rw [numR_cons] at h
  have e3 : (f :: a :: b :: r).drop 3 = r := rfl
  rw [e3] at h
  rw [readR, h]
  rfl
theorem readR_same {ok : Key → Bool} {u : List UInt8} {ks : List Key} {t : List UInt8} (h3 : 3 ≤ u.length) (h : takeR (numR u 1) (u.drop 3) = some (ks, t)) (e : printR ok ks (u.getD 0 0 == 1) = u) : readR ok u = .ok (ks, u.getD 0 0 == 1) := by
  have hr : rightR ok ks = true := by
    cases hr : rightR ok ks
    · unfold printR at e
      rw [hr] at e
      have : u.length = 0 := by rw [← e]; rfl
      omega
    · rfl
  have h1 := read_printR (c := (u.getD 0 0 == 1)) hr (takeR_some h).2.2
  rw [e] at h1
  exact h1
theorem readR_other {ok : Key → Bool} {u : List UInt8} {ks : List Key} {t : List UInt8} (h3 : 3 ≤ u.length) (h : takeR (numR u 1) (u.drop 3) = some (ks, t)) (e : printR ok ks (u.getD 0 0 == 1) ≠ u) : readR ok u = .error 3 := by
  have h1 := readR_take (ok := ok) h3 h
  split at h1
  · exact h1
  · exact absurd (print_readR h1).2.1 e
/-- Keys that are few enough, and short enough, to be walked over. -/
def FewR (u : List UInt8) : Prop := ∀ ks t, takeR (numR u 1) (u.drop 3) = some (ks, t) → ks.length ≤ 1000 ∧ ∀ k ∈ ks, k.length ≤ 1000
theorem body_len {ks : List Key} : ks.length ≤ (bodyR ks).length ∧ ∀ k ∈ ks, k.length ≤ (bodyR ks).length := by
  induction ks with
  | nil => simp
  | cons k l ih =>
    obtain ⟨h1, h2⟩ := ih
    simp only [bodyR, List.length_append, List.length_cons, twoR, List.length_nil]
    refine ⟨by omega, fun x hx => ?_⟩
    rcases List.mem_cons.1 hx with rfl | hx
    · omega
    · have := h2 x hx; omega
theorem fewR_short {u : List UInt8} (h : u.length ≤ 1000) : FewR u := fun ks t e => by
  obtain ⟨h1, _, _⟩ := takeR_some e
  have h2 := congrArg List.length h1
  rw [List.length_append, List.length_drop] at h2
  obtain ⟨h3, h4⟩ := body_len (ks := ks)
  exact ⟨by omega, fun k hk => by have := h4 k hk; omega⟩
theorem fewR_print {ok : Key → Bool} {ks : List Key} {c : Bool} (hl : ks.length ≤ 1000) (hk : ∀ k ∈ ks, k.length ≤ 1000) : FewR (printR ok ks c) := by
  cases hr : rightR ok ks
  · have e : printR ok ks c = [] := by unfold printR; rw [hr]; rfl
    rw [e]
    exact fewR_short (by simp)
  · intro ls t h
    have e : printR ok ks c = flagR c :: UInt8.ofNat (ks.length / 256) :: UInt8.ofNat (ks.length % 256) :: bodyR ks := by unfold printR; rw [if_pos hr]; rfl
    rw [e, numR_cons, twoR_val (by omega)] at h
    have h2 := takeR_body (ks := ks) (fun k h => by have := hk k h; omega) []
    rw [List.append_nil] at h2
    have h3 : takeR ks.length (bodyR ks) = some (ls, t) := h
    rw [h2] at h3
    injection h3 with h3
    injection h3 with h3 _
    subst h3
    exact ⟨hl, hk⟩
/-- What Read answers. -/
def ReadR15 (u : List UInt8) (w : World) (r : Ending) (w' : World) : Prop :=
  ((∃ ks c a cap, readR isK u = .ok (ks, c) ∧ r = .returned (.tuple #[.agg #[.slice a ks.length cap, .bool c], .int .i64 0]) ∧ RowAt w' a 1 strCell ks) ∨
    (∃ e : Nat, readR isK u = .error e ∧ r = .returned (.tuple #[.agg #[.slice none 0 0, .bool false], .int .i64 e]))) ∧ Below w.heap.size w w'

set_option maxRecDepth 100000 in
set_option maxHeartbeats 2000000 in
theorem read15_any (u : List UInt8) (w : World) (hm : u.length ≤ 1000000) (hf : FewR u) :
    Calls Try.prog 9 #[.string ⟨u.toArray⟩] w (ReadR15 u w) := by
  have HN : Hid (∀ w' (e : Nat), Below w.heap.size w w' → readR isK u = .error e → ReadR15 u w (.returned (.tuple #[.agg #[.slice none 0 0, .bool false], .int .i64 e])) w') := fun w' e h h2 => ⟨.inr ⟨e, h2, rfl⟩, h⟩
  have HY : Hid (∀ w' ks c a cap, Below w.heap.size w w' → readR isK u = .ok (ks, c) → RowAt w' a 1 strCell ks → ReadR15 u w (.returned (.tuple #[.agg #[.slice a ks.length cap, .bool c], .int .i64 0])) w') := fun w' ks c a cap h h2 h4 => ⟨.inl ⟨ks, c, a, cap, h2, rfl, h4⟩, h⟩
  have hb0 := below_alloc1 w (.cells #[.slice none 0 0, .bool false] 26)
  have HR0 : Hid ((w.alloc (.cells #[.slice none 0 0, .bool false] 26)).heap[w.heap.size]? = some (.cells #[.slice none 0 0, .bool false] 26 (0, 0))) := heap_alloc_new w _
  have HFEW := Lib.hid hf
  clear hf
  go_enter Try.func9, Try.ntmps9
  go_wp2_with fail
  refine (parse15_any u _ hm).mono ?_
  rintro r w1 ⟨h, hb1⟩
  have hbw := hb0.trans (hb1.mono hb0.size)
  have hz : w.heap.size < w1.heap.size := by have := hb1.size; simp at this; omega
  have HR1 : Hid (w1.heap[w.heap.size]? = some (.cells #[.slice none 0 0, .bool false] 26 (0, 0))) := (hb1.block _ (by simp)).trans HR0.out
  rcases h with ⟨ks, t, a, cap, h3, htk, rfl, hrow, hlow⟩ | ⟨hno, rfl⟩
  · obtain ⟨hkl, hkk⟩ := HFEW.out ks t htk
    have HTK := Lib.hid htk
    have HSAME : Hid (printR isK ks (u.getD 0 0 == 1) = u → readR isK u = .ok (ks, u.getD 0 0 == 1)) := fun e => readR_same h3 htk e
    have HOTH : Hid (printR isK ks (u.getD 0 0 == 1) ≠ u → readR isK u = .error 3) := fun e => readR_other h3 htk e
    clear h3 htk HTK HFEW HR0 hb0 hb1
    generalize (u.getD 0 0 == 1) = c at *
    have HP := Lib.hid fun W hW => print15_any a cap ks c W (hrow.later hW) hkl hkk
    have HRW := Lib.hid hrow
    have HLW : Hid (∀ g o, a = some ⟨g, o, none⟩ → g ≠ w.heap.size) := fun g o e => by have := hlow g o e; simp at this; omega
    clear hlow
    have hba := below_alloc1 w1 (.cells #[.slice a ks.length cap, .bool c] 26)
    clear hkk hrow
    go_wp2_with fail
    refine (HP.out _ hba).mono ?_
    rintro r w2 ⟨rfl, hb2⟩
    have hb3 := hba.trans (hb2.mono hba.size)
    have hb4 := hbw.trans (hb3.mono hbw.size)
    have HR2 : w2.heap[w.heap.size]? = some (.cells #[.slice none 0 0, .bool false] 26 (0, 0)) := (hb3.block _ hz).trans HR1.out
    obtain ⟨⟨c0, c1⟩, f0⟩ := cell_box2 HR2
    obtain ⟨⟨e0, e1⟩, _⟩ := cell_box2 (show (w1.alloc (.cells #[.slice a ks.length cap, .bool c] 26)).heap[w1.heap.size]? = _ from heap_alloc_new w1 _)
    have g0 := cell_later hb2 e0
    have g1 := cell_later hb2 e1
    have HRW2 := Lib.hid (HRW.out.later hb3)
    have HST : Hid (∀ x d, _) := fun x d => box_stored HR2 x d hb4
    clear HP HR1 HR2 hb2 hb3 hba e0 e1 HRW
    generalize printR isK ks c = L at *
    by_cases hL : L = u
    · have hq : (L == u) = true := by simp [hL]
      have HX := Lib.hid (HSAME.out hL)
      obtain ⟨_, y1, y2, yb, yk⟩ := HST.out (.slice a ks.length cap) c
      have HYR := Lib.hid (yk HLW.out HRW2.out)
      clear yk HST HSAME HOTH hL
      go_wp2_with fail
      refine bodyPost_ret (v := .tuple #[.agg #[.slice a ks.length cap, .bool c], .int .i64 0]) (by simp [results, Try.results9, go_sem, y1, y2]) rfl ?_
      exact HY.out _ ks c a cap yb HX.out HYR.out
    · have hq : (L == u) = false := by simp [hL]
      have HX := Lib.hid (HOTH.out hL)
      obtain ⟨_, y1, y2, yb, _⟩ := HST.out (.slice none 0 0) false
      clear HST HSAME HOTH hL
      go_wp2_with fail
      refine bodyPost_ret (v := .tuple #[.agg #[.slice none 0 0, .bool false], .int .i64 3]) (by simp [results, Try.results9, go_sem, y1, y2]) rfl ?_
      exact HN.out _ 3 yb HX.out
  · have HX : Hid (readR isK u = .error 4) := by
      rcases hno with h | ⟨h, h2⟩
      · exact readR_few h
      · exact readR_none h h2
    obtain ⟨⟨c0, c1⟩, f0⟩ := cell_box2 HR1.out
    obtain ⟨_, x1, x2, xb, _⟩ := box_stored HR1.out (.slice none 0 0) false hbw
    have y1 := cell_later (below_alloc1 _ (.cells #[.slice none 0 0, .bool false] 26)) x1
    have y2 := cell_later (below_alloc1 _ (.cells #[.slice none 0 0, .bool false] 26)) x2
    have yb := xb.alloc xb.size (.cells #[.slice none 0 0, .bool false] 26)
    clear hno
    go_wp2_with fail
    refine bodyPost_ret (v := .tuple #[.agg #[.slice none 0 0, .bool false], .int .i64 4]) (by simp [results, Try.results9, go_sem, y1, y2]) rfl ?_
    exact HN.out _ 4 yb HX.out
end Go.Proofs.Ytopklnehhebhmaa
