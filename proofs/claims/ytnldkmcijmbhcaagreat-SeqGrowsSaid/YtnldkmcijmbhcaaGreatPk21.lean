import Derived.Deep.RegionHeld3
import Derived.Deep.DeepCutAuto
import Derived.Test.YtnldkmcijmbhcaaGreatPk04
import Derived.Test.YtnldkmcijmbhcaaGreatPk05
import Derived.Test.YtnldkmcijmbhcaaGreatPk06
import Derived.Test.YtnldkmcijmbhcaaGreatPk08
import Derived.Test.YtnldkmcijmbhcaaGreatPk18
import Derived.Test.YtnldkmcijmbhcaaGreatPk19
import Derived.Test.YtnldkmcijmbhcaaGreatPk20

/- The contract of the document's Levels. -/
namespace Go.Proofs.YtnldkmcijmbhcaaGreat
open Go.RowKit

/-- Levels stay when a row of another kind grows. -/
theorem OwnLv.keptBy {w w' : World} {B B' n' k' : Nat} {t' : TypeId} {v v' : Value} {ss : List Sl} {m : List (List Ev)} {xs : List Value} (h : OwnLv w B v ss m) (ho : w.ownsRow B' t' n' v' k' xs) (h1 : 57 ≠ t') (h2 : 81 ≠ t') (hg : w.grownBy w' v'.ownBlock) : OwnLv w' B v ss m :=
  ⟨h.len, World.ownsRow.kept h.outer hg (rows_apart h.outer ho h1), fun i hi => World.ownsRow.kept (h.inner i hi) hg (rows_apart (h.inner i hi) ho h2), h.apart⟩
def ats (l : List Ev) (k : Nat) : List Int := (List.range k).map fun i => (atL l i : Int)
theorem ats_len (l : List Ev) (k : Nat) : (ats l k).length = k := by simp [ats]
theorem ats_succ (l : List Ev) (k : Nat) : ats l (k + 1) = ats l k ++ [(atL l k : Int)] := by simp [ats, List.range_succ]
theorem ats_get (l : List Ev) (k : Nat) {i : Nat} (h : i < (ats l k).length) : (ats l k)[i] = atL l i := by simp [ats]
theorem intNeSl : 57 ≠ 3 := by decide
theorem intNeEv : 81 ≠ 3 := by decide

/-- Inserting, part of the way. -/
def InsP (e : Ev) (L : List Ev) (j : Nat) (d : Bool) (R : List Ev) : Prop :=
  (d = false ∧ R = L.take j ∧ insE e L = L.take j ++ insE e (L.drop j)) ∨ (d = true ∧ insE e L = R ++ L.drop j)
theorem insP_zero (e : Ev) (L : List Ev) : InsP e L 0 false [] := .inl ⟨rfl, rfl, rfl⟩
theorem insP_lt {e : Ev} {L : List Ev} {j : Nat} {R : List Ev} (h : InsP e L j false R) (hj : j < L.length) (hlt : e.thread < (evI L j).thread) : InsP e L (j + 1) true (R ++ [e] ++ [evI L j]) := by
  rcases h with ⟨_, h2, h3⟩ | ⟨h1, _⟩
  · right
    refine ⟨rfl, ?_⟩
    rw [h3, List.drop_eq_getElem_cons hj, ← evI_get hj, insE_cons_lt _ hlt, h2]
    simp
  · cases h1
theorem insP_ge {e : Ev} {L : List Ev} {j : Nat} {R : List Ev} (h : InsP e L j false R) (hj : j < L.length) (hge : ¬ e.thread < (evI L j).thread) : InsP e L (j + 1) false (R ++ [evI L j]) := by
  rcases h with ⟨_, h2, h3⟩ | ⟨h1, _⟩
  · left
    have e1 : R ++ [evI L j] = L.take (j + 1) := by rw [h2, List.take_succ_eq_append_getElem hj, evI_get hj]
    refine ⟨rfl, e1, ?_⟩
    rw [h3, List.drop_eq_getElem_cons hj, ← evI_get hj, insE_cons_ge _ hge, List.take_succ_eq_append_getElem hj, ← evI_get hj]
    simp
  · cases h1
theorem insP_on {e : Ev} {L : List Ev} {j : Nat} {R : List Ev} (h : InsP e L j true R) (hj : j < L.length) : InsP e L (j + 1) true (R ++ [evI L j]) := by
  rcases h with ⟨h1, _⟩ | ⟨_, h2⟩
  · cases h1
  · right
    refine ⟨rfl, ?_⟩
    rw [h2, List.drop_eq_getElem_cons hj, evI_get hj]
    simp
theorem insP_end {e : Ev} {L R : List Ev} {d : Bool} (h : InsP e L L.length d R) : (d = false → R ++ [e] = insE e L) ∧ (d = true → R = insE e L) := by
  rcases h with ⟨h1, h2, h3⟩ | ⟨h1, h2⟩
  · subst h1
    refine ⟨fun _ => ?_, fun h => (by cases h)⟩
    rw [h3, h2, List.drop_length, List.take_length]
    rfl
  · subst h1
    refine ⟨fun h => (by cases h), fun _ => ?_⟩
    rw [h2, List.drop_length, List.append_nil]

set_option maxRecDepth 100000 in
set_option maxHeartbeats 8000000 in
theorem refLevels_any (a : Option Addr) (cap : Nat) (l : List Ev) (w : World) (hl : EvsAt w a l) :
    Calls Tryz.prog 52 #[.slice a l.length cap] w (LvR w.heap.size w (levelsF l)) := by
  have hm := hl.1
  unfold maxLen at hm
  have HL := Lib.hid hl
  have HRC := Lib.hid (rows_any a cap l w hl)
  clear hl
  cases hr : rightL l
  · have HE : Hid (levelsF l = []) := by show _ = _; unfold levelsF rightF; rw [hr]; simp
    rw [hr] at HRC
    clear hr
    go_enter Tryz.func52, Tryz.ntmps52
    go_wp2_with fail
    refine HRC.out.mono ?_
    rintro r w1 ⟨rfl, hb1⟩
    clear HRC
    go_wp2
    go_ret
    exact ⟨_, [], rfl, by rw [HE.out]; exact ownLv_nil _ _, hb1⟩
  rw [hr] at HRC
  by_cases h200 : l.length ≤ 200
  case neg =>
    have HE : Hid (levelsF l = []) := by
      have h : decide (l.length ≤ 200) = false := by simp; omega
      show _ = _
      unfold levelsF rightF
      rw [h]
      simp
    have hq : decide ((200 : Int) < (l.length : Int)) = true := by simp; omega
    have hq2 : 200 < l.length := by omega
    clear hr h200
    go_enter Tryz.func52, Tryz.ntmps52
    go_wp2_with fail
    refine HRC.out.mono ?_
    rintro r w1 ⟨rfl, hb1⟩
    clear HRC
    go_wp2
    go_ret
    exact ⟨_, [], rfl, by rw [HE.out]; exact ownLv_nil _ _, hb1⟩
  have HE : Hid (levelsF l = lvls l) := by show _ = _; unfold levelsF rightF; rw [hr]; simp [h200]
  have hq : decide ((200 : Int) < (l.length : Int)) = false := by simp; omega
  have hq2 : ¬ 200 < l.length := by omega
  clear hr
  go_enter Tryz.func52, Tryz.ntmps52
  go_wp2_with fail
  refine HRC.out.mono ?_
  rintro r w1 ⟨rfl, hb1⟩
  clear HRC
  go_wp2_with fail
  clear hq hq2
  go_loopw [3, 4, 5] (fun v3 v4 i wr => ∃ (k : Nat) (ss : List Sl) (a3 : Option Addr) (c3 : Nat) (a4 : Option Addr) (c4 : Nat), k ≤ l.length ∧ i = .int .i64 k ∧ v3 = .slice a3 k c3 ∧ v4 = .slice a4 (lvls (l.take k)).length c4 ∧ Hid (OwnN wr w.heap.size v3 (ats l k)) ∧ Hid (OwnLv wr w.heap.size v4 ss (lvls (l.take k))) ∧ Hid (Below w.heap.size w wr)) (fun _ _ i _ => l.length - (intOf i).toNat)
  case atStart => exact ⟨0, [], none, 0, none, 0, Nat.zero_le _, rfl, rfl, rfl, ownN_nil _ _, ownLv_nil _ _, hb1⟩
  case round =>
    clear hb1
    obtain ⟨k, ss, a3, c3, a4, c4, hk, rfl, rfl, rfl, HN, HV, HB⟩ := hrel
    by_cases hlt : k < l.length
    · obtain ⟨b, o, rfl, t0, t1, t2, t3⟩ := HL.out.one hlt
      have HT := Lib.hid (lvls_take l hlt)
      have hmk : (lvls (l.take k)).length ≤ k := by have := lv_count (l.take k); rw [List.length_take] at this; omega
      have HS : Hid (∀ i, ((lvls (l.take k)).getD i []).length ≤ 200) := fun i => by have := lv_small (l.take k) i; rw [List.length_take] at this; omega
      have HMX := Lib.hid (maxN_lvN l (evI l k) hk)
      have HAK : Hid (atL l k = lvN (lvls (l.take k)) (evI l k)) := rfl
      have HSU : Hid (∀ j, maxN l (evI l k) (j + 1) = if dep (evI l j) (evI l k) then max (maxN l (evI l k) j) (atL l j + 1) else maxN l (evI l k) j) := fun j => maxN_succ l _ j
      have HMB : Hid (∀ j, j ≤ k → maxN l (evI l k) j ≤ 201) := fun j hj => top_le fun i hi _ => by have := atL_le l (show i < l.length by omega); show atL l i + 1 ≤ 201; omega
      have HAB : Hid (∀ j, j < l.length → atL l j ≤ 200) := fun j hj => by have := atL_le l hj; omega
      have HZ : Hid (maxN l (evI l k) 0 = 0) := rfl
      obtain ⟨a3', c3', hv3, hn3, _⟩ := OwnN.form HN.out (by rw [ats_len]; omega)
      rw [ats_len] at hv3
      injection hv3 with hv3 _ hc3
      subst hv3 hc3
      have HN3 := Lib.hid hn3
      have HTE := Lib.hid (And.intro t0 (And.intro t1 (And.intro t2 t3)))
      have hle := lvN_le (lvls (l.take k)) (evI l k)
      clear t0 t1 t2 t3 hn3
      generalize lvls (l.take k) = m at *
      generalize hek : evI l k = e at *
      have HEK := Lib.hid hek
      clear hek
      go_wp2_with fail
      go_loopw [6, 7] (fun s6 i wr2 => ∃ (j N : Nat), j ≤ k ∧ i = .int .i64 j ∧ s6 = .int .i64 (N : Int) ∧ Hid (N = maxN l e j) ∧ Hid (Below wr.heap.size wr wr2)) (fun _ i _ => k - (intOf i).toNat)
      case atStart => exact ⟨0, 0, Nat.zero_le _, rfl, rfl, HZ.out.symm, Below.refl _ _⟩
      case round =>
        obtain ⟨j, N, hj, rfl, rfl, HNE, HB2⟩ := hrel
        have HBW := Lib.hid (HB.out.trans (HB2.out.mono HB.out.size))
        by_cases hjk : j < k
        · obtain ⟨b9, o9, e9, x0, x1, x2, x3⟩ := HL.out.one (show j < l.length by omega)
          injection e9 with e9
          injection e9 with e9 e10
          subst e9 e10
          have hji : (j : Int) < (l.length : Int) := by omega
          have hji0 : (0 : Int) ≤ j := by omega
          have hki : (k : Int) < (l.length : Int) := by omega
          have hjk2 : (j : Int) < (k : Int) := by omega
          have hMb : N ≤ 201 := by rw [HNE.out]; exact HMB.out j (by omega)
          have hAb := HAB.out j (by omega)
          have HSJ := Lib.hid (HSU.out j)
          obtain ⟨b3, o3, rfl, hn3⟩ := HN3.out.2 (by intro h; have := ats_len l k; rw [h] at this; simp at this; omega)
          have q3 := cell_later HB2.out (hn3 j (by rw [ats_len]; exact hjk))
          rw [ats_get] at q3
          clear hn3
          generalize atL l j = A at *
          generalize evI l j = x at *
          have HQ : Hid (∀ W, Below wr.heap.size wr W → (W.cell? ⟨b, o + j * 4, none⟩ = some (.int .i64 x.thread) ∧ W.cell? ⟨b, o + j * 4 + 1, none⟩ = some (.int .i64 x.kind) ∧ W.cell? ⟨b, o + j * 4 + 2, none⟩ = some (.int .i64 x.obj) ∧ W.cell? ⟨b, o + j * 4 + 3, none⟩ = some (.bool x.fail)) ∧ (W.cell? ⟨b, o + k * 4, none⟩ = some (.int .i64 e.thread) ∧ W.cell? ⟨b, o + k * 4 + 1, none⟩ = some (.int .i64 e.kind) ∧ W.cell? ⟨b, o + k * 4 + 2, none⟩ = some (.int .i64 e.obj) ∧ W.cell? ⟨b, o + k * 4 + 3, none⟩ = some (.bool e.fail)) ∧ W.cell? ⟨b3, o3 + j, none⟩ = some (.int .i64 (A : Int))) := fun W hW => by
            have h := HBW.out.trans (hW.mono HBW.out.size)
            exact ⟨⟨cell_later h x0, cell_later h x1, cell_later h x2, cell_later h x3⟩, ⟨cell_later h HTE.out.1, cell_later h HTE.out.2.1, cell_later h HTE.out.2.2.1, cell_later h HTE.out.2.2.2⟩, cell_later hW q3⟩
          have hB9 : Below wr.heap.size wr wr.drew := (Below.refl _ _).drew
          clear x0 x1 x2 x3 q3
          go_wp2_with fail
          go_region_held3 (fun W => (W.cell? ⟨b, o + j * 4, none⟩ = some (.int .i64 x.thread) ∧ W.cell? ⟨b, o + j * 4 + 1, none⟩ = some (.int .i64 x.kind) ∧ W.cell? ⟨b, o + j * 4 + 2, none⟩ = some (.int .i64 x.obj) ∧ W.cell? ⟨b, o + j * 4 + 3, none⟩ = some (.bool x.fail)) ∧ (W.cell? ⟨b, o + k * 4, none⟩ = some (.int .i64 e.thread) ∧ W.cell? ⟨b, o + k * 4 + 1, none⟩ = some (.int .i64 e.kind) ∧ W.cell? ⟨b, o + k * 4 + 2, none⟩ = some (.int .i64 e.obj) ∧ W.cell? ⟨b, o + k * 4 + 3, none⟩ = some (.bool e.fail)) ∧ W.cell? ⟨b3, o3 + j, none⟩ = some (.int .i64 (A : Int))) (first | exact HQ.out _ hB9 | exact HQ.out _ hB10)
            (first | (go_at_call 90; ((with_reducible refine (refDepends_any x e _).mono ?_); rintro r w10 ⟨rfl, hb10⟩; have hB10 := hB9.trans (hb10.mono hB9.size); clear hB9)))
          have HB10 := Lib.hid (HB2.out.trans (hB10.mono HB2.out.size))
          have q4 := (HQ.out _ hB10).2.2
          cases hd : dep x e
          · have HN2 : Hid (N = maxN l e (j + 1)) := by have h := HSJ.out; rw [hd] at h; show _ = _; rw [HNE.out, h]; rfl
            clear hd
            go_wp2
            go_roundw
            case rel => exact ⟨j + 1, N, by omega, by go_num, rfl, HN2.out, HB10.out⟩
            case measure => simp [intOf]; omega
          · have HN2 : Hid (max N (A + 1) = maxN l e (j + 1)) := by have h := HSJ.out; rw [hd] at h; show _ = _; rw [h, HNE.out]; rfl
            have hwA : IntKind.i64.wrap ((A : Int) + 1) = (A : Int) + 1 := IntWalk.i64_in _ (by omega)
            clear hd
            go_wp2
            go_roundw
            case rel => exact ⟨j + 1, max N (A + 1), by omega, by go_num, by congr 1; omega, HN2.out, HB10.out⟩
            case measure => simp [intOf]; omega
        · obtain rfl : j = k := by omega
          have HNW := Lib.hid (HN.out.later HB2.out)
          have HVW := Lib.hid (HV.out.later HB2.out)
          have hBs := HBW.out.size
          have hal : (ats l j).length = j := ats_len l j
          have HNN : Hid (N = lvN m e) := by show _ = _; rw [HNE.out]; exact HMX.out
          have hnm : lvN m e ≤ m.length := hle
          rw [← HNN.out] at HAK hnm
          clear HMX HSU HMB HZ HN3 HN HV HNE hle
          go_upto_if 53 with (at_builtin; refine wp_appendN rfl _ _ rfl w.heap.size _ (ats l j) rfl (HNW.out.alloc _) ⟨wr.heap.size, 0, none⟩ 1 1 rfl [(N : Int)] rfl (nums_new wr [(N : Int)] _ _ rfl) (by rw [hal]; omega) (by simp; omega) ?_; intro v9 w9 h9 hb9 hg9; have HV9 : Hid (OwnLv w9 w.heap.size (.slice a4 m.length c4) ss m) := OwnLv.keptBy (HVW.out.later (below_alloc1 wr _)) (HNW.out.alloc _) intNeSl intNeEv hg9; have HN9 : Hid (OwnN w9 w.heap.size v9 (ats l (j + 1))) := (by show OwnN _ _ _ _; rw [ats_succ, HAK.out]; exact h9); have HB9 : Hid (Below w.heap.size w w9) := (HBW.out.trans ((below_alloc1 wr _).mono hBs)).trans hb9; clear h9 hb9 hg9)
          obtain ⟨a9, c9, hv9, _, _⟩ := OwnN.form HN9.out (by rw [ats_len]; omega)
          rw [ats_len] at hv9
          subst hv9
          clear HNW HVW HBW HB HB2
          go_cut [4] (fun s4 wx => ∃ (g M cap3 : Nat) (ss2 : List Sl), s4 = .slice (some ⟨g, 0, none⟩) M cap3 ∧ N < M ∧ M ≤ 300 ∧ Hid (M = (extL m N).length ∧ OwnLv wx w.heap.size s4 ss2 (extL m N)) ∧ Hid (OwnN wx w.heap.size (.slice a9 (j + 1) c9) (ats l (j + 1))) ∧ Hid (Below w.heap.size w wx))
          case first =>
            by_cases hnl : N < m.length
            · have hq : ((N : Int) == (m.length : Int)) = false := by simp; omega
              have HEX : Hid (extL m N = m) := by show _ = _; unfold extL; rw [if_pos hnl]
              obtain ⟨g, capg, hv, _, _⟩ := OwnRow.block HV9.out.outer (by intro h; have := HV9.out.len; rw [h] at this; simp at this; omega)
              injection hv with hv1 hv2 hv3
              subst hv1
              clear hv2 hv3
              go_wp2_with fail
              go_meet
              exact ⟨g, m.length, c4, ss, rfl, hnl, by omega, ⟨by rw [HEX.out], by rw [HEX.out]; exact HV9.out⟩, HN9.out, HB9.out⟩
            · have hnm2 : N = m.length := by omega
              have hq : ((N : Int) == (m.length : Int)) = true := by simp; omega
              have HEX : Hid (extL m N = m ++ [[]]) := by show _ = _; unfold extL; rw [if_neg hnl]
              have HN2 := Lib.hid hnm2
              have hB2 : w.heap.size ≤ w9.heap.size := HB9.out.size
              have hss : ss.length ≤ 1000 := by have := HV9.out.len; omega
              clear hnl hnm2
              go_wp2_with (at_builtin; refine wp_appendR (f := slCell) (n := 1) 114 57 24 (.slice none 0 0) Tryz.underlying114 infoSl rfl (by omega) (by omega) slCell_len rfl _ _ rfl w.heap.size _ ss rfl (HV9.out.outer.alloc _) ⟨w9.heap.size, 0, none⟩ rfl ⟨none, 0, 0⟩ (slCell_one _) (cells_new w9 (slCell ⟨none, 0, 0⟩) _ _ rfl) (by omega) (by simp; omega) ?_; intro v' w' h1 h2 h3; obtain ⟨g, capg, hv, _, _⟩ := OwnRow.block h1 (by simp); rw [List.length_append, List.length_singleton] at hv; subst hv)
              go_meet
              have hb4 : Below w.heap.size w9 w' := (below_alloc1 w9 _).mono hB2 |>.trans h2
              have hv4 : OwnLv w' w.heap.size (.slice (some ⟨g, 0, none⟩) (ss.length + 1) capg) (ss ++ [⟨none, 0, 0⟩]) (m ++ [[]]) := OwnLv.more (HV9.out.later (below_alloc1 w9 _)) h1 h3
              have hn4 : OwnN w' w.heap.size (.slice a9 (j + 1) c9) (ats l (j + 1)) := World.ownsRow.kept (HN9.out.alloc _) h3 (rows_apart (HN9.out.alloc (.cells #[.slice none 0 0] 57)) (HV9.out.outer.alloc _) (Ne.symm intNeSl))
              exact ⟨g, ss.length + 1, capg, _, rfl, by have := HV9.out.len; have := HN2.out; omega, by have := HV9.out.len; omega, ⟨by rw [HEX.out]; simp [HV9.out.len], by rw [HEX.out]; exact hv4⟩, hn4, HB9.out.trans hb4⟩
          case rest =>
            obtain ⟨g, M, cap3, ss2, rfl, hnM, hM300, HW, HNc, HBc⟩ := hcut
            clear HV9 HN9 HB9
            have hn2 : N < ss2.length := by rw [HW.out.2.len, ← HW.out.1]; exact hnM
            have x0 := OwnLv.cell HW.out.2 HW.out.1 hn2
            have hin := HW.out.2.inner N hn2
            rw [extL_get] at hin
            have HLs := HS.out N
            obtain ⟨L, hL⟩ : ∃ L, L = m.getD N [] := ⟨_, rfl⟩
            rw [← hL] at hin HLs
            obtain ⟨hsn, hse, _, _⟩ := OwnE.sl hin (by omega)
            rw [hsn] at x0
            have HSE := Lib.hid hse
            have HLL := Lib.hid hL
            have HSN := Lib.hid hsn
            clear hin hsn hse hL
            have hg0 : ∀ W, Below wc.heap.size wc W → W.cell? ⟨g, N, none⟩ = some (.slice ss2[N].a L.length ss2[N].c) := fun W hW => cell_later hW x0
            have HG0 := Lib.hid hg0
            have hMi : (N : Int) < (M : Int) := by omega
            have hMi0 : (0 : Int) ≤ N := by omega
            have hji : (j : Int) < (l.length : Int) := by omega
            have hji0 : (0 : Int) ≤ j := by omega
            have HEE : Hid (∀ W, Below wc.heap.size wc W → W.cell? ⟨b, o + j * 4, none⟩ = some (.int .i64 e.thread) ∧ W.cell? ⟨b, o + j * 4 + 1, none⟩ = some (.int .i64 e.kind) ∧ W.cell? ⟨b, o + j * 4 + 2, none⟩ = some (.int .i64 e.obj) ∧ W.cell? ⟨b, o + j * 4 + 3, none⟩ = some (.bool e.fail)) := fun W hW => by
              have h := HBc.out.trans (hW.mono HBc.out.size)
              exact ⟨cell_later h HTE.out.1, cell_later h HTE.out.2.1, cell_later h HTE.out.2.2.1, cell_later h HTE.out.2.2.2⟩
            clear hg0 x0
            go_wp2_with fail
            go_loopw [8, 9, 10] (fun s8 s9 i wr => ∃ (q : Nat) (d : Bool) (R : List Ev), q ≤ L.length ∧ i = .int .i64 q ∧ s9 = .bool d ∧ R.length ≤ q + 1 ∧ Hid (InsP e L q d R) ∧ Hid (OwnE wr wc.heap.size s8 R) ∧ Hid (Below wc.heap.size wc wr)) (fun _ _ i _ => L.length - (intOf i).toNat)
            case atStart => exact ⟨0, false, [], Nat.zero_le _, rfl, rfl, by simp, insP_zero e L, ownE_nil _ _, Below.refl _ _⟩
            case round =>
              obtain ⟨q, d, R, hq, rfl, rfl, hRl, HI, HO, HB3⟩ := hrel
              have g0 := HG0.out _ HB3.out
              have hbs := HB3.out.size
              by_cases hql : q < L.length
              · obtain ⟨bL, oL, hsa, y0, y1, y2, y3⟩ := HSE.out.one hql
                rw [hsa] at g0
                have z0 := cell_later HB3.out y0
                have z1 := cell_later HB3.out y1
                have z2 := cell_later HB3.out y2
                have z3 := cell_later HB3.out y3
                obtain ⟨e0, e1, e2, e3⟩ := HEE.out _ HB3.out
                have hqi : (q : Int) < (L.length : Int) := by omega
                have hqi0 : (0 : Int) ≤ q := by omega
                have HLT : Hid (d = false → e.thread < (evI L q).thread → InsP e L (q + 1) true (R ++ [e] ++ [evI L q])) := fun hd h => by subst hd; exact insP_lt HI.out hql h
                have HGE : Hid (d = false → ¬ e.thread < (evI L q).thread → InsP e L (q + 1) false (R ++ [evI L q])) := fun hd h => by subst hd; exact insP_ge HI.out hql h
                have HON : Hid (d = true → InsP e L (q + 1) true (R ++ [evI L q])) := fun hd => by subst hd; exact insP_on HI.out hql
                have HOW : Hid (∀ n, OwnE (wr.drewN n) wc.heap.size u8 R ∧ Below wc.heap.size wc (wr.drewN n)) := fun n => ⟨HO.out, HB3.out.drewN⟩
                have HALL : Hid (∀ W, Below wc.heap.size wc W → W.cell? ⟨g, N, none⟩ = some (.slice (some ⟨bL, oL, none⟩) L.length ss2[N].c) ∧ W.cell? ⟨bL, oL + q * 4, none⟩ = some (.int .i64 (evI L q).thread) ∧ W.cell? ⟨bL, oL + q * 4 + 1, none⟩ = some (.int .i64 (evI L q).kind) ∧ W.cell? ⟨bL, oL + q * 4 + 2, none⟩ = some (.int .i64 (evI L q).obj) ∧ W.cell? ⟨bL, oL + q * 4 + 3, none⟩ = some (.bool (evI L q).fail)) := fun W hW => ⟨by have h := HG0.out _ hW; rw [hsa] at h; exact h, cell_later hW y0, cell_later hW y1, cell_later hW y2, cell_later hW y3⟩
                clear y0 y1 y2 y3 hsa
                generalize evI L q = y at *
                cases d
                · by_cases hty : e.thread < y.thread
                  · have hqt : decide (e.thread < y.thread) = true := by simp [hty]
                    have HI2 := Lib.hid (HLT.out rfl hty)
                    have hI0 : R.length ≤ q := by rcases HI.out with ⟨_, h, _⟩ | ⟨h, _⟩; · rw [h, List.length_take]; omega
                                                  · cases h
                    clear hty
                    go_wp2_with fail
                    go_quiet (fail)
                    have HOQ := Lib.hid (HOW.out nq).1
                    have HBQ := Lib.hid (HOW.out nq).2
                    go_wp2_with (first
                      | (at_builtin; refine wp_appendE rfl _ _ rfl _ _ (R ++ [e]) rfl (HO9.out.alloc _) ⟨w9.heap.size, 0, none⟩ rfl y (ev_new w9 y _ _ rfl) (by simp; omega) (Nat.le_trans HB9.out.size (below_alloc1 _ _).size) ?_; intro v2 w2 hown2 hb2; have HO2 := Lib.hid hown2; have HB2 := Lib.hid ((HB9.out.alloc HB9.out.size _).trans hb2); clear hown2 hb2)
                      | (at_builtin; refine wp_appendE rfl _ _ rfl _ _ R rfl (HOQ.out.alloc _) ⟨wr.heap.size, 0, none⟩ rfl e (ev_new (wr.drewN nq) e _ _ rfl) (by omega) (Nat.le_trans HBQ.out.size (below_alloc1 _ _).size) ?_; intro v9 w9 hown9 hb9; have HO9 := Lib.hid hown9; have HB9 := Lib.hid ((HBQ.out.alloc HBQ.out.size _).trans hb9); obtain ⟨p0, p1, p2, p3, p4⟩ := HALL.out _ HB9.out; clear hown9 hb9))
                    go_roundw
                    case rel => exact ⟨q + 1, true, R ++ [e] ++ [y], by omega, by go_num, rfl, by simp; omega, HI2.out, HO2.out, HB2.out⟩
                    case measure => simp [intOf]; omega
                  · have hqt : decide (e.thread < y.thread) = false := by simp; omega
                    have HI2 := Lib.hid (HGE.out rfl hty)
                    have hI0 : R.length ≤ q := by rcases HI.out with ⟨_, h, _⟩ | ⟨h, _⟩; · rw [h, List.length_take]; omega
                                                  · cases h
                    clear hty
                    go_wp2_with fail
                    go_quiet (fail)
                    have HOQ := Lib.hid (HOW.out nq).1
                    have HBQ := Lib.hid (HOW.out nq).2
                    go_wp2_with (at_builtin; refine wp_appendE rfl _ _ rfl _ _ R rfl (HOQ.out.alloc _) ⟨wr.heap.size, 0, none⟩ rfl y (ev_new (wr.drewN nq) y _ _ rfl) (by omega) (Nat.le_trans HBQ.out.size (below_alloc1 _ _).size) ?_; intro v9 w9 hown9 hb9; have HO9 := Lib.hid hown9; have HB9 := Lib.hid ((HBQ.out.alloc HBQ.out.size _).trans hb9); clear hown9 hb9)
                    go_roundw
                    case rel => exact ⟨q + 1, false, R ++ [y], by omega, by go_num, rfl, by simp; omega, HI2.out, HO9.out, HB9.out⟩
                    case measure => simp [intOf]; omega
                · have HI2 := Lib.hid (HON.out rfl)
                  go_wp2_with fail
                  go_quiet (fail)
                  have HOQ := Lib.hid (HOW.out nq).1
                  have HBQ := Lib.hid (HOW.out nq).2
                  go_wp2_with (at_builtin; refine wp_appendE rfl _ _ rfl _ _ R rfl (HOQ.out.alloc _) ⟨wr.heap.size, 0, none⟩ rfl y (ev_new (wr.drewN nq) y _ _ rfl) (by omega) (Nat.le_trans HBQ.out.size (below_alloc1 _ _).size) ?_; intro v9 w9 hown9 hb9; have HO9 := Lib.hid hown9; have HB9 := Lib.hid ((HBQ.out.alloc HBQ.out.size _).trans hb9); clear hown9 hb9)
                  go_roundw
                  case rel => exact ⟨q + 1, true, R ++ [y], by omega, by go_num, rfl, by simp; omega, HI2.out, HO9.out, HB9.out⟩
                  case measure => simp [intOf]; omega
              · obtain rfl : q = L.length := by omega
                obtain ⟨hi1, hi2⟩ := insP_end HI.out
                have HINS1 := Lib.hid hi1
                have HINS2 := Lib.hid hi2
                have hbl : w.heap.size ≤ wc.heap.size := HBc.out.size
                have HSN2 : Hid (ss2.length = M) := by show _ = _; rw [HW.out.2.len, ← HW.out.1]
                have HPUT : Hid (∀ (W : World) (v : Value), OwnE W wc.heap.size v (insE e L) → Below wc.heap.size wc W → ∃ s' : Sl, v = .slice s'.a s'.n s'.c ∧ (∃ old, W.cell? ⟨g, N, none⟩ = some old) ∧ W.frozen? ⟨g, N, none⟩ = false ∧ OwnLv (W.setCell ⟨g, N, none⟩ (.slice s'.a s'.n s'.c)) w.heap.size (.slice (some ⟨g, 0, none⟩) M cap3) (ss2.set N s') (lvls (l.take (j + 1))) ∧ OwnN (W.setCell ⟨g, N, none⟩ (.slice s'.a s'.n s'.c)) w.heap.size (.slice a9 (j + 1) c9) (ats l (j + 1)) ∧ Below w.heap.size w (W.setCell ⟨g, N, none⟩ (.slice s'.a s'.n s'.c))) := fun W v hv hW => by
                  obtain ⟨a', cap', hv', _⟩ := OwnE.form hv (by rw [insE_length]; omega)
                  subst hv'
                  obtain ⟨p1, p2, p3⟩ := OwnLv.put HW.out.2 HW.out.1 hnM hn2 (s' := ⟨a', (insE e L).length, cap'⟩) (ownsRow_base hv hbl) (grown_below hW _) (fun b hb => .inr (World.ownsRow.lt hv b hb).1)
                  have hsN : ss2.length = M := by rw [HW.out.2.len, ← HW.out.1]
                  have hout : W.ownsRow w.heap.size 57 1 (.slice (some ⟨g, 0, none⟩) M cap3) ss2.length (cellsL slCell ss2) := HW.out.2.outer.later hW
                  rw [hsN] at hout
                  have hst := hout.stored N (.slice a' (insE e L).length cap')
                  have hgB : w.heap.size ≤ g := (World.ownsRow.lt hout g rfl).1
                  refine ⟨⟨a', (insE e L).length, cap'⟩, rfl, Option.isSome_iff_exists.1 p2, p3, ?_, World.ownsRow.kept (HNc.out.later hW) hst.2 (rows_apart (HNc.out.later hW) hout (Ne.symm intNeSl)), (HBc.out.trans (hW.mono hbl)).setCell (p := ⟨g, N, none⟩) hgB _⟩
                  rw [HT.out, addL_ext, ← HNN.out, extL_get, ← HLL.out]
                  exact p1
                cases d
                · obtain ⟨e0, e1, e2, e3⟩ := HEE.out _ HB3.out
                  have HIN := Lib.hid (HINS1.out rfl)
                  have hRl2 : R.length ≤ 200 + 1 := by omega
                  go_wp2_with (at_builtin; refine wp_appendE rfl _ _ rfl _ _ R rfl (HO.out.alloc _) ⟨wr.heap.size, 0, none⟩ rfl e (ev_new wr e _ _ rfl) (by omega) (Nat.le_trans HB3.out.size (below_alloc1 _ _).size) ?_; intro v9 w9 hown9 hb9; rw [HIN.out] at hown9; obtain ⟨s9, rfl, ⟨old, q2⟩, q3, q4, q5, q6⟩ := HPUT.out _ _ hown9 ((HB3.out.alloc HB3.out.size _).trans hb9); have p0 := HG0.out _ ((HB3.out.alloc HB3.out.size _).trans hb9); have Q4 := Lib.hid q4; have Q5 := Lib.hid q5; have Q6 := Lib.hid q6; clear hown9 hb9 q4 q5 q6)
                  go_roundw
                  case rel => exact ⟨j + 1, _, a9, c9, _, cap3, by omega, by go_num, rfl, by rw [← Q4.out.len, List.length_set, HSN2.out], Q5.out, Q4.out, Q6.out⟩
                  case measure => simp [intOf]; omega
                · have HIN := Lib.hid (HINS2.out rfl)
                  have hown9 := HO.out
                  rw [HIN.out] at hown9
                  obtain ⟨s9, rfl, ⟨old, q2⟩, q3, q4, q5, q6⟩ := HPUT.out _ _ hown9 HB3.out
                  have Q4 := Lib.hid q4
                  have Q5 := Lib.hid q5
                  have Q6 := Lib.hid q6
                  clear hown9 q4 q5 q6
                  go_wp2_with fail
                  go_roundw
                  case rel => exact ⟨j + 1, _, a9, c9, _, cap3, by omega, by go_num, rfl, by rw [← Q4.out.len, List.length_set, HSN2.out], Q5.out, Q4.out, Q6.out⟩
                  case measure => simp [intOf]; omega
    · obtain rfl : k = l.length := by omega
      rw [List.take_length] at HV ⊢
      clear HN
      go_wp2
      go_ret
      exact ⟨_, ss, rfl, by rw [HE.out]; exact HV.out, HB.out⟩

end Go.Proofs.YtnldkmcijmbhcaaGreat

/- The contract of the document's Row. -/
namespace Go.Proofs.YtnldkmcijmbhcaaGreat
open Go.RowKit

set_option maxRecDepth 100000 in
set_option maxHeartbeats 2000000 in
theorem refRow_any (a : Option Addr) (cap : Nat) (m : List (List Ev)) (w : World) (hl : LvAt w a m) (hm : m.length ≤ 1000000) (hf : m.flatten.length ≤ 1000000) :
    Calls Tryz.prog 112 #[.slice a m.length cap] w (RowR w m.flatten) := by
  have HL := Lib.hid hl
  have HF := Lib.hid hf
  clear hl hf
  go_enter Tryz.func112, Tryz.ntmps112
  go_wp2
  go_loopw [3, 4] (fun s i wr => ∃ k : Nat, k ≤ m.length ∧ i = .int .i64 k ∧ Hid (RowR w (m.take k).flatten (.returned s) wr)) (fun _ i _ => m.length - (intOf i).toNat)
  case atStart => exact ⟨0, Nat.zero_le _, rfl, ⟨_, rfl, ownE_nil _ _, Below.refl _ _⟩⟩
  case round =>
    obtain ⟨k, hk, rfl, HV⟩ := hrel
    obtain ⟨s, hs, hv, hb⟩ := HV.out
    injection hs with hs
    subst hs
    have HO := Lib.hid hv
    by_cases hlt : k < m.length
    · obtain ⟨b, o, sa, sc, rfl, c0, he, hn⟩ := HL.out.one hlt
      have c1 := cell_later hb c0
      have HE := Lib.hid (he.later hb)
      have HT := Lib.hid (flat_take m hlt)
      have hle := flat_le m (k + 1)
      have hf := HF.out
      rw [HT.out, List.length_append] at hle
      have hra : sa = none → sc = 0 ∧ m.getD k [] = [] := fun e => ⟨hn e, by subst e; exact evsAt_none he⟩
      have HRA := Lib.hid hra
      have hBB := hb.size
      have hlen2 : (m.take k).flatten.length + (m.getD k []).length ≤ 1000000 := by omega
      clear hle hra he hn c0 hv hf
      generalize m.getD k [] = row at *
      go_wp2_with (at_builtin; refine wpList_copyE rfl _ _ rfl w.heap.size _ _ rfl HO.out sa sc row rfl HE.out HRA.out hlen2 hBB ?_; intro v' w' h1 h2; have HO2 := Lib.hid h1; clear h1)
      go_roundw
      case rel => exact ⟨k + 1, by omega, by go_num, by rw [HT.out]; exact ⟨v', rfl, HO2.out, hb.trans h2⟩⟩
      case measure => simp [intOf]; omega
    · obtain rfl : k = m.length := by omega
      rw [List.take_length] at HO
      go_wp2
      go_ret
      exact ⟨_, rfl, HO.out, hb⟩

end Go.Proofs.YtnldkmcijmbhcaaGreat

/- The contract of the document's Same of levels. -/
namespace Go.Proofs.YtnldkmcijmbhcaaGreat
open Go.RowKit

set_option maxRecDepth 100000 in
set_option maxHeartbeats 4000000 in
theorem refLvSame_any (a a' : Option Addr) (cap cap' : Nat) (m m' : List (List Ev)) (w : World) (hl : LvAt w a m) (hl' : LvAt w a' m') (hm : m.length ≤ 1000000) (hm' : m'.length ≤ 1000000) (hr : ∀ i, (m.getD i []).length ≤ 1000000) (hr' : ∀ i, (m'.getD i []).length ≤ 1000000) :
    Calls Tryz.prog 113 #[.slice a m.length cap, .slice a' m'.length cap'] w fun r w' => r = .returned (.bool (decide (m = m'))) ∧ Below w.heap.size w w' := by
  have HL := Lib.hid hl
  have HL' := Lib.hid hl'
  have HR := Lib.hid hr
  have HR' := Lib.hid hr'
  clear hl hl' hr hr'
  by_cases hne : m.length = m'.length
  case neg =>
    have hq : ((m.length : Int) != m'.length) = true := by simp; omega
    have H : Hid (decide (m = m') = false) := by show _ = _; simp; intro e; exact hne (by rw [e])
    clear hne
    go_enter Tryz.func113, Tryz.ntmps113
    go_wp2
    go_ret
    exact ⟨ret_bool H.out.symm, Below.refl _ _⟩
  have HE := Lib.hid hne
  have hq : ((m.length : Int) != m'.length) = false := by simp [hne]
  have hm2 : m.length ≤ m'.length := by omega
  have hm3 : m'.length ≤ m.length := by omega
  clear hne
  go_enter Tryz.func113, Tryz.ntmps113
  go_wp2
  clear hq
  go_loopw [5] (fun i wr => ∃ k : Nat, k ≤ m.length ∧ i = .int .i64 k ∧ Hid (m.take k = m'.take k) ∧ Hid (Below w.heap.size w wr)) (fun i _ => m.length - (intOf i).toNat)
  case atStart => exact ⟨0, Nat.zero_le _, rfl, rfl, Below.refl _ _⟩
  case round =>
    obtain ⟨k, hk, rfl, HT, HB⟩ := hrel
    by_cases hlt : k < m.length
    · have hlt' : k < m'.length := by omega
      obtain ⟨b, o, sa, sc, rfl, t0, he, _⟩ := HL.out.one hlt
      obtain ⟨b', o', sa', sc', rfl, t0', he', _⟩ := HL'.out.one hlt'
      have c0 := cell_later HB.out t0
      have c0' := cell_later HB.out t0'
      have HE1 := Lib.hid (he.later HB.out)
      have HE2 := Lib.hid (he'.later HB.out)
      have hx1 : Hid (m.getD k [] = m'.getD k [] → m.take (k + 1) = m'.take (k + 1)) := fun h => take_snoc hlt hlt' HT.out h
      have hx2 : Hid (m.getD k [] ≠ m'.getD k [] → decide (m = m') = false) := fun h => by simp; rintro rfl; exact h rfl
      have hlx := HR.out k
      have hlx' := HR'.out k
      clear t0 t0' he he'
      generalize m.getD k [] = x at *
      generalize m'.getD k [] = x' at *
      by_cases hxl : x.length = x'.length
      case neg =>
        have hq : ((x.length : Int) != x'.length) = true := by simp; omega
        have HN := Lib.hid (hx2.out (fun e => hxl (by rw [e])))
        clear hxl hx1 hx2
        go_wp2_with fail
        go_quiet (fail)
        go_wp2
        go_ret
        exact ⟨ret_bool HN.out.symm, HB.out.drewN⟩
      have hq : ((x.length : Int) != x'.length) = false := by simp [hxl]
      have hxl1 : x.length ≤ x'.length := by omega
      have hxl2 : x'.length ≤ x.length := by omega
      have HXL := Lib.hid hxl
      clear hxl
      go_wp2_with fail
      go_quiet (fail)
      go_wp2_with fail
      clear hq
      go_loopw [6] (fun i w2 => ∃ j : Nat, j ≤ x.length ∧ i = .int .i64 j ∧ Hid (x.take j = x'.take j) ∧ Hid (Below wr.heap.size wr w2)) (fun i _ => x.length - (intOf i).toNat)
      case atStart => exact ⟨0, Nat.zero_le _, rfl, rfl, (Below.refl _ _).drewN⟩
      case round =>
        obtain ⟨j, hj, rfl, HJ, HB2⟩ := hrel
        have d0 := cell_later HB2.out c0
        have d0' := cell_later HB2.out c0'
        have HB3 := Lib.hid (HB.out.trans (HB2.out.mono HB.out.size))
        clear c0 c0'
        by_cases hjl : j < x.length
        · have hjl' : j < x'.length := by omega
          obtain ⟨xb, xo, rfl, x0, x1, x2, x3⟩ := HE1.out.one hjl
          obtain ⟨yb, yo, rfl, y0, y1, y2, y3⟩ := HE2.out.one hjl'
          have e0 := cell_later HB2.out x0
          have e1 := cell_later HB2.out x1
          have e2 := cell_later HB2.out x2
          have e3 := cell_later HB2.out x3
          have f0 := cell_later HB2.out y0
          have f1 := cell_later HB2.out y1
          have f2 := cell_later HB2.out y2
          have f3 := cell_later HB2.out y3
          clear x0 x1 x2 x3 y0 y1 y2 y3
          have heq := run_equal_ev (evI x j) (evI x' j)
          by_cases he : evI x j = evI x' j
          · have hq2 : decide (evI x j = evI x' j) = true := by simp [he]
            rw [hq2] at heq
            have HN : Hid (x.take (j + 1) = x'.take (j + 1)) := by
              show _ = _
              rw [List.take_succ_eq_append_getElem hjl, List.take_succ_eq_append_getElem hjl', HJ.out, ← evI_get hjl, ← evI_get hjl', he]
            clear he hq2
            generalize evI x j = p at *
            generalize evI x' j = p' at *
            go_wp2_with fail
            go_quiet (fail)
            go_wp2
            go_roundw
            case rel => exact ⟨j + 1, by omega, by go_num, HN, HB2.out.drewN⟩
            case measure => simp [intOf]; omega
          · have hq2 : decide (evI x j = evI x' j) = false := by simpa using he
            rw [hq2] at heq
            have HN : Hid (decide (m = m') = false) := hx2.out (fun e => he (by rw [e]))
            clear he hq2
            generalize evI x j = p at *
            generalize evI x' j = p' at *
            go_wp2_with fail
            go_quiet (fail)
            go_wp2
            go_ret
            exact ⟨ret_bool HN.out.symm, HB3.out.drewN⟩
        · obtain rfl : j = x.length := by omega
          have HN : Hid (m.take (k + 1) = m'.take (k + 1)) := by
            have h := HJ.out
            rw [List.take_length, HXL.out, List.take_length] at h
            exact hx1.out h
          clear hx1 hx2
          go_wp2
          go_roundw
          case rel => exact ⟨k + 1, by omega, by go_num, HN, HB3.out⟩
          case measure => simp [intOf]; omega
    · obtain rfl : k = m.length := by omega
      have HR : Hid (decide (m = m') = true) := by
        show _ = _
        have h := HT.out
        rw [List.take_length, HE.out, List.take_length] at h
        simp [h]
      go_wp2
      go_ret
      exact ⟨ret_bool HR.out.symm, HB.out⟩

end Go.Proofs.YtnldkmcijmbhcaaGreat

/- The contract of the document's Right of levels. -/
namespace Go.Proofs.YtnldkmcijmbhcaaGreat
open Go.RowKit

theorem levelsF_ne (l : List Ev) (i : Nat) (hi : i < (levelsF l).length) : (levelsF l).getD i [] ≠ [] := by
  unfold levelsF at *
  split at hi
  · rw [if_pos (by assumption)]
    exact (lvls_ok l).full i hi
  · simp at hi
theorem levelsF_bad {m : List (List Ev)} (h : rightF m.flatten = false) : levelsF m.flatten ≠ m := by
  intro e
  have h0 : levelsF m.flatten = [] := by unfold levelsF; rw [h]; rfl
  rw [h0] at e
  subst e
  revert h
  decide

set_option maxRecDepth 100000 in
set_option maxHeartbeats 4000000 in
theorem refLvRight_any (a : Option Addr) (cap : Nat) (m : List (List Ev)) (w : World) (hl : LvAt w a m) (hm : m.length ≤ 1000000) (hf : m.flatten.length ≤ 1000000) (hr : ∀ i, (m.getD i []).length ≤ 1000000) :
    Calls Tryz.prog 88 #[.slice a m.length cap] w fun r w' => r = .returned (.bool (decide (levelsF m.flatten = m))) ∧ Below w.heap.size w w' := by
  have HL := Lib.hid hl
  have HF := Lib.hid hf
  have HC : Hid (∀ W, Below w.heap.size w W → Calls Tryz.prog 112 #[.slice a m.length cap] W (RowR W m.flatten)) := fun W hW => refRow_any a cap m W (hl.later hW) hm hf
  have HE0 : Hid (∀ i, i < m.length → m.getD i [] = [] → decide (levelsF m.flatten = m) = false) := fun i hi h => by
    simp only [decide_eq_false_iff_not]
    intro e
    refine levelsF_ne m.flatten i (by rw [e]; exact hi) ?_
    rw [e]
    exact h
  have HB0 : Hid (rightF m.flatten = false → decide (levelsF m.flatten = m) = false) := fun h => by simp only [decide_eq_false_iff_not]; exact levelsF_bad h
  have HSM : Hid (∀ a2 cap2 W, LvAt W a2 (levelsF m.flatten) → Below w.heap.size w W → Calls Tryz.prog 113 #[.slice a2 (levelsF m.flatten).length cap2, .slice a m.length cap] W fun r w' => r = .returned (.bool (decide (levelsF m.flatten = m))) ∧ Below W.heap.size W w') := fun a2 cap2 W h1 hW =>
    refLvSame_any a2 a cap2 cap (levelsF m.flatten) m W h1 (hl.later hW) (by have := levelsF_len m.flatten; omega) hm (fun i => by have := levelsF_row m.flatten i; omega) hr
  clear hl hf hr
  obtain ⟨D, hD⟩ : ∃ D, D = decide (levelsF m.flatten = m) := ⟨_, rfl⟩
  rw [← hD] at HE0 HB0 HSM ⊢
  clear hD
  go_enter Tryz.func88, Tryz.ntmps88
  go_wp2
  go_loopw [3] (fun i wr => ∃ k : Nat, k ≤ m.length ∧ i = .int .i64 k ∧ Hid (Below w.heap.size w wr)) (fun i _ => m.length - (intOf i).toNat)
  case atStart => exact ⟨0, Nat.zero_le _, rfl, Below.refl _ _⟩
  case round =>
    obtain ⟨k, hk, rfl, HB⟩ := hrel
    by_cases hlt : k < m.length
    · obtain ⟨b, o, sa, sc, rfl, c0, _, _⟩ := HL.out.one hlt
      have c1 := cell_later HB.out c0
      have HK0 := Lib.hid (HE0.out k hlt)
      clear c0
      by_cases h0 : m.getD k [] = []
      · have HR := Lib.hid (HK0.out h0)
        have hq : (((m.getD k []).length : Int) == 0) = true := by rw [h0]; rfl
        clear h0 HK0
        generalize m.getD k [] = row at *
        go_wp2
        go_ret
        exact ⟨ret_bool HR.out.symm, HB.out⟩
      · have hq : (((m.getD k []).length : Int) == 0) = false := by
          have := List.length_pos_iff.2 h0
          simp
          exact h0
        clear h0 HK0
        generalize m.getD k [] = row at *
        go_wp2
        go_roundw
        case rel => exact ⟨k + 1, by omega, by go_num, HB.out⟩
        case measure => simp [intOf]; omega
    · obtain rfl : k = m.length := by omega
      have HC1 := Lib.hid (HC.out _ HB.out)
      have hBB := HB.out.size
      clear HE0 HC hlt
      go_wp2_with fail
      refine HC1.out.mono ?_
      rintro r w1 ⟨v1, rfl, h1, hb1⟩
      have hb1' := HB.out.trans (hb1.mono hBB)
      obtain ⟨a1, cap1, rfl, he1⟩ := OwnE.form h1 HF.out
      have HE1 := Lib.hid he1
      clear h1 he1 HC1 hb1
      have HRF : Hid (rightF m.flatten = (decide (m.flatten.length ≤ 200) && rightL m.flatten)) := rfl
      generalize m.flatten = fl at *
      by_cases h200 : fl.length ≤ 200
      case neg =>
        have hq : decide ((fl.length : Int) ≤ 200) = false := by simp; omega
        have hq2 : decide (fl.length ≤ 200) = false := by simp; omega
        have HR := Lib.hid (HB0.out (by rw [HRF.out, hq2]; rfl))
        clear h200 HB0
        go_wp2
        go_ret
        exact ⟨ret_bool HR.out.symm, hb1'⟩
      have hq : decide ((fl.length : Int) ≤ 200) = true := by simp; omega
      have hq2 : decide (fl.length ≤ 200) = true := by simp; omega
      have HRC := Lib.hid (rows_any a1 cap1 fl w1 HE1.out)
      cases hr : rightL fl
      · have HR := Lib.hid (HB0.out (by rw [HRF.out, hr]; simp))
        rw [hr] at HRC
        clear HB0 hr
        go_wp2_with fail
        refine HRC.out.mono ?_
        rintro r w2 ⟨rfl, hb2⟩
        have hb2' := hb1'.trans (hb2.mono hb1'.size)
        go_wp2
        go_ret
        exact ⟨ret_bool HR.out.symm, hb2'⟩
      · rw [hr] at HRC
        clear HB0 hr
        go_wp2_with fail
        refine HRC.out.mono ?_
        rintro r w2 ⟨rfl, hb2⟩
        have hb2' := hb1'.trans (hb2.mono hb1'.size)
        have HLC := Lib.hid (refLevels_any a1 cap1 fl w2 (HE1.out.later hb2))
        clear hb2
        go_wp2_with fail
        refine HLC.out.mono ?_
        rintro r w3 ⟨v3, ss, rfl, h3, hb3⟩
        obtain ⟨a3, cap3, rfl, hat, _⟩ := OwnLv.formF h3
        have hb3' := hb2'.trans (hb3.mono hb2'.size)
        have HSM2 := Lib.hid (HSM.out a3 cap3 w3 hat hb3')
        clear hat h3 hb3
        go_wp2_with fail
        refine HSM2.out.mono ?_
        rintro r w4 ⟨rfl, hb4⟩
        have hb4' := hb3'.trans (hb4.mono hb3'.size)
        go_wp2
        go_ret
        exact ⟨rfl, hb4'⟩

end Go.Proofs.YtnldkmcijmbhcaaGreat

/- The contract of the document's Print of events. -/
namespace Go.Proofs.YtnldkmcijmbhcaaGreat
open Go.RowKit

theorem run_bstr_any {w : World} {B : Nat} {v : Value} {ns : List Int} (h : OwnB w B v ns) : (convert 25 9 v).run Tryz.prog w = .ok (.string (bstr ns)) w := by
  by_cases hn : ns = []
  · subst hn
    obtain ⟨h1, ⟨h2, h3⟩ | ⟨g, cap, cur, h2, h3, h4, h5, h6, h7, h8⟩⟩ := h
    · subst h2
      rw [run_convert_bytes_string w _ _ 5 _ _ _ Tryz.underlying25 Tryz.underlying5 Tryz.underlying9]
      simp [Conv.bytesToString, bstr]
      rfl
    · subst h2
      rw [run_convert_bytes_string w _ _ 5 _ _ _ Tryz.underlying25 Tryz.underlying5 Tryz.underlying9]
      have hl := run_loadCells_list (P := Tryz.prog) w ⟨g, 0, none⟩ ([].map (Value.int .u8)) (by simp)
      rw [List.length_map] at hl
      have hb := run_bytesToString w ⟨g, 0, none⟩ _ cap [] hl
      exact hb
  · exact run_bstr h hn

set_option maxRecDepth 100000 in
set_option maxHeartbeats 1000000 in
theorem refEvPrint_any (a : Option Addr) (cap : Nat) (l : List Ev) (w : World) (hl : EvsAt w a l) (hm : l.length ≤ 1000000) :
    Calls Tryz.prog 89 #[.slice a l.length cap] w fun r w' => r = .returned (.string (bstr (printE l))) ∧ Below w.heap.size w w' := by
  have HL := Lib.hid hl
  clear hl
  go_enter Tryz.func89, Tryz.ntmps89
  go_wp2
  go_loopw [3, 4] (fun v i wr => ∃ (k : Nat) (ns : List Int), k ≤ l.length ∧ i = .int .i64 k ∧ Hid ((l.take k).all rightEv = true) ∧ Hid (ns = (l.take k).map evB) ∧ ns.length = k ∧ OwnB wr w.heap.size v ns ∧ Below w.heap.size w wr) (fun _ i _ => l.length - (intOf i).toNat)
  case atStart => exact ⟨0, [], Nat.zero_le _, rfl, rfl, rfl, rfl, World.ownsRow_nil _ _ _ _, Below.refl _ _⟩
  case round =>
    obtain ⟨k, ns, hk, rfl, HA, HN, hnl, hown, hb⟩ := hrel
    have HO := Lib.hid hown
    clear hown
    by_cases hlt : k < l.length
    · obtain ⟨b, o, rfl, hc⟩ := HL.out.2 (by intro e; simp [e] at hlt)
      obtain ⟨c0, c1, c2, c3⟩ := hc k hlt
      have d0 := cell_later hb c0
      have d1 := cell_later hb c1
      have d2 := cell_later hb c2
      have d3 := cell_later hb c3
      clear hc c0 c1 c2 c3
      have HT0 := Lib.hid (List.take_succ_eq_append_getElem hlt : l.take (k + 1) = l.take k ++ [l[k]])
      have HT : Hid (ns ++ [evB l[k]] = (l.take (k + 1)).map evB) := by
        show _ = _
        rw [List.take_succ_eq_append_getElem hlt, List.map_append, ← HN.out]
        rfl
      have HX := Lib.hid (List.getElem_mem hlt)
      generalize l[k] = x at *
      go_wp2_with fail
      refine (refEvRight_any x _).mono ?_
      rintro r w2 ⟨rfl, hb2⟩
      have HO2 := Lib.hid (ownsRow_later HO.out hb2)
      have hw2 : Below w.heap.size w w2 := hb.trans (hb2.mono hb.size)
      have e0 := cell_later hb2 d0
      have e1 := cell_later hb2 d1
      have e2 := cell_later hb2 d2
      have e3 := cell_later hb2 d3
      clear HO hb hb2 d0 d1 d2 d3
      cases hr : rightEv x
      · have HR : Hid (printE l = []) := by
          show _ = _
          unfold printE
          rw [if_neg]
          intro h
          rw [List.all_eq_true] at h
          rw [h x HX.out] at hr
          cases hr
        clear hr
        go_wp2
        go_ret
        exact ⟨ret_str (by rw [HR.out]; rfl), hw2⟩
      · have HR := Lib.hid hr
        clear hr
        go_wp2_with fail
        refine (refByte_any x HR.out _).mono ?_
        rintro r w3 ⟨rfl, hb3⟩
        have hown3 := ownsRow_later HO2.out hb3
        have hw3 : Below w.heap.size w w3 := hw2.trans (hb3.mono hw2.size)
        have bd := evB_bd HR.out
        have hwr : IntKind.u8.wrap (evB x) = evB x := IntWalk.u8_in _ (by omega)
        have hz := hw3.size
        clear e0 e1 e2 e3 HO2 hb3
        go_wp2_with (at_builtin; refine wp_appendB rfl (.tmp 17) (.tmp 24) rfl w.heap.size _ ns rfl (OwnB.alloc hown3 _) ⟨w3.heap.size, 0, none⟩ 1 1 rfl [evB x] rfl (bytes_new w3 [evB x] _ _ rfl) (by omega) (by simp; omega) ?_; intro v1 w4 hown4 hb4)
        have hb5 := (hw3.alloc hz _).trans hb4
        go_roundw
        case rel => exact ⟨k + 1, ns ++ [evB x], by omega, by go_num, (by show _ = _; rw [HT0.out, List.all_append, HA.out]; simp [HR.out]), HT, by simp; omega, hown4, hb5⟩
        case measure => simp [intOf]; omega
    · obtain rfl : k = l.length := by omega
      have hcv := run_bstr_any HO.out
      have HP : Hid (printE l = ns) := by
        show _ = _
        unfold printE
        have h := HA.out
        have h2 := HN.out
        rw [List.take_length] at h h2
        rw [if_pos h, h2]
      go_wp2
      go_ret
      exact ⟨ret_str (by rw [HP.out]), hb⟩

end Go.Proofs.YtnldkmcijmbhcaaGreat

/- The contracts of the document's Print of levels, and of its Key. -/
namespace Go.Proofs.YtnldkmcijmbhcaaGreat
open Go.RowKit

theorem bstr_app (a b : List Int) : bstr a ++ bstr b = bstr (a ++ b) := by
  apply ByteArray.ext
  simp [bstr]
theorem spell_take (m : List (List Ev)) {k : Nat} (hk : k < m.length) : (m.take (k + 1)).flatMap lvB = (m.take k).flatMap lvB ++ ([((m.getD k []).length : Int)] ++ printE (m.getD k [])) := by
  rw [List.take_succ_eq_append_getElem hk, List.flatMap_append, getD_lt _ hk]
  simp [lvB]

/-- One byte as a string. -/
theorem run_byte_str {w : World} {g : Nat} {x : Int} (hc : w.cell? ⟨g, 0, none⟩ = some (.int .u8 x)) : (convert 25 9 (.slice (some ⟨g, 0, none⟩) 1 1)).run Tryz.prog w = .ok (.string (bstr [x])) w := by
  rw [run_convert_bytes_string w _ _ 5 _ _ _ Tryz.underlying25 Tryz.underlying5 Tryz.underlying9]
  have hl := run_loadCells_list (P := Tryz.prog) w ⟨g, 0, none⟩ ([x].map (Value.int .u8)) (by intro j u hj; match j with | 0 => (simp at hj; subst hj; exact hc) | j + 1 => simp at hj)
  have h2 := run_bytesToString w ⟨g, 0, none⟩ _ 1 [x] hl
  rw [foldl_bstr] at h2
  have e : ByteArray.empty.data = #[] := rfl
  rw [e, Array.empty_append] at h2
  exact h2
theorem byte_new (w : World) (x : Int) : (w.alloc (.cells #[.int .u8 x] 5)).cell? ⟨w.heap.size, 0, none⟩ = some (.int .u8 x) := by
  rw [World.cell?_alloc_new]
  rfl
set_option maxRecDepth 100000 in
set_option maxHeartbeats 4000000 in
theorem refLvPrint_any (a : Option Addr) (cap : Nat) (m : List (List Ev)) (w : World) (hl : LvAt w a m) (hm : m.length ≤ 1000000) (hf : m.flatten.length ≤ 1000000) (hr : ∀ i, (m.getD i []).length ≤ 1000000) :
    Calls Tryz.prog 51 #[.slice a m.length cap] w fun r w' => r = .returned (.string (bstr (printF m))) ∧ Below w.heap.size w w' := by
  have HL := Lib.hid hl
  have HC := Lib.hid (refLvRight_any a cap m w hl hm hf hr)
  have HP : Hid (printF m = if decide (levelsF m.flatten = m) = true then spellB m else []) := by show _ = _; unfold printF; simp
  have HS : Hid (decide (levelsF m.flatten = m) = true → ∀ i, (m.getD i []).length ≤ 200) := fun h i => by
    have := levelsF_row m.flatten i
    rw [of_decide_eq_true h] at this
    omega
  have HLB : Hid (∀ k, ((m.take k).flatMap lvB).length ≤ 2000000) := fun k => by
    by_cases hk : k ≤ m.length
    · have := lvB_len m k; omega
    · have := lvB_len m m.length
      rw [List.take_length] at this
      rw [List.take_of_length_le (by omega)]
      omega
  clear hl hf hr
  generalize decide (levelsF m.flatten = m) = D at *
  cases D
  · have HP2 : Hid (printF m = []) := by show _ = _; rw [HP.out]; rfl
    clear HS HP
    go_enter Tryz.func51, Tryz.ntmps51
    go_wp2_with fail
    refine HC.out.mono ?_
    rintro r w1 ⟨rfl, hb1⟩
    clear HC
    go_wp2
    go_ret
    exact ⟨ret_str (by rw [HP2.out]; rfl), hb1⟩
  · have HP2 : Hid (printF m = spellB m) := by show _ = _; rw [HP.out]; rfl
    have HS2 := Lib.hid (HS.out rfl)
    clear HS HP
    go_enter Tryz.func51, Tryz.ntmps51
    go_wp2_with fail
    refine HC.out.mono ?_
    rintro r w1 ⟨rfl, hb1⟩
    clear HC
    go_wp2_with fail
    go_loopw [3, 4] (fun s i wr => ∃ k : Nat, k ≤ m.length ∧ i = .int .i64 k ∧ s = .string (bstr ((m.take k).flatMap lvB)) ∧ Hid (Below w.heap.size w wr)) (fun _ i _ => m.length - (intOf i).toNat)
    case atStart => exact ⟨0, Nat.zero_le _, rfl, rfl, hb1⟩
    case round =>
      clear hb1
      obtain ⟨k, hk, rfl, rfl, HB⟩ := hrel
      by_cases hlt : k < m.length
      · obtain ⟨b, o, sa, sc, rfl, c0, he0, _⟩ := HL.out.one hlt
        have c1 := cell_later HB.out c0
        have HE1 := Lib.hid (he0.later HB.out)
        have HT := Lib.hid (spell_take m hlt)
        have hlen := HS2.out k
        have hpre := HLB.out k
        have hro := printE_le (m.getD k [])
        clear c0 he0
        generalize (m.take k).flatMap lvB = pre at *
        generalize m.getD k [] = row at *
        have hB9 : Below wr.heap.size wr wr.drew := (Below.refl _ _).drew
        have hBA : Below wr.heap.size wr (wr.alloc (.cells #[.int .u8 (row.length : Int)] 5)).drew := (below_alloc1 wr _).drew
        have hwr : IntKind.u8.wrap (row.length : Int) = row.length := IntWalk.u8_in _ (by omega)
        have HX1 : Hid ((convert 25 9 (.slice (some ⟨wr.heap.size, 0, none⟩) 1 1)).run Tryz.prog (wr.alloc (.cells #[.int .u8 (row.length : Int)] 5)).drew = .ok (.string (bstr [(row.length : Int)])) (wr.alloc (.cells #[.int .u8 (row.length : Int)] 5)).drew) := run_byte_str (byte_new wr _)
        have HX3 : Hid (∀ W : World, (convert 25 9 (.slice (some ⟨W.heap.size, 0, none⟩) 1 1)).run Tryz.prog (W.alloc (.cells #[.int .u8 (row.length : Int)] 5)) = .ok (.string (bstr [(row.length : Int)])) (W.alloc (.cells #[.int .u8 (row.length : Int)] 5))) := fun W => run_byte_str (byte_new W _)
        have HX5 : Hid (∀ W, Below (wr.alloc (.cells #[.int .u8 (row.length : Int)] 5)).drew.heap.size (wr.alloc (.cells #[.int .u8 (row.length : Int)] 5)).drew W → (convert 25 9 (.slice (some ⟨wr.heap.size, 0, none⟩) 1 1)).run Tryz.prog W = .ok (.string (bstr [(row.length : Int)])) W) := fun W hW => run_byte_str (cell_later hW (show (wr.alloc (.cells #[.int .u8 (row.length : Int)] 5)).drew.cell? ⟨wr.heap.size, 0, none⟩ = _ from byte_new wr _))
        have HCALL : Hid (∀ W, Below wr.heap.size wr W → Calls Tryz.prog 89 #[.slice sa row.length sc] W fun r w' => r = .returned (.string (bstr (printE row))) ∧ Below W.heap.size W w') := fun W hW => refEvPrint_any sa sc row W (HE1.out.later hW) (by omega)
        have HQ : Hid (∀ W, Below wr.heap.size wr W → W.cell? ⟨b, o + k, none⟩ = some (.slice sa row.length sc)) := fun W hW => cell_later hW c1
        have HT2 : Hid (bstr pre ++ (bstr [(row.length : Int)] ++ bstr (printE row)) = bstr ((m.take (k + 1)).flatMap lvB)) := by show _ = _; rw [bstr_app, bstr_app, ← HT.out]
        have hki : (k : Int) < (m.length : Int) := by omega
        have hz1 : ¬ 9223372036854775807 < (bstr [(row.length : Int)]).size + (bstr (printE row)).size := by rw [bstr_size, bstr_size]; simp; omega
        have hz2 : ¬ 9223372036854775807 < (bstr pre).size + (bstr [(row.length : Int)] ++ bstr (printE row)).size := by rw [bstr_app, bstr_size, bstr_size, List.length_append]; simp; omega
        have hz3 : ¬ 9223372036854775807 < (bstr pre).size + ((bstr [(row.length : Int)]).size + (bstr (printE row)).size) := by rw [bstr_size, bstr_size, bstr_size]; simp; omega
        have hX1 := HX1.out
        have hX3 := HX3.out
        clear HT
        obtain ⟨S2, hS2⟩ : ∃ S2, S2 = bstr ((m.take (k + 1)).flatMap lvB) := ⟨_, rfl⟩
        rw [← hS2] at HT2
        have HSE := Lib.hid hS2
        clear hS2
        go_wp2_with fail
        have k2 : (wr.alloc (.cells #[.int .u8 (row.length : Int)] 5)).cell? ⟨b, o + k, none⟩ = some (.slice sa row.length sc) := HQ.out _ (below_alloc1 wr _)
        go_region_with (first
          | (go_simp; go_at_call 89; ((with_reducible refine (HCALL.out _ hB9).mono ?_); rintro r w10 ⟨rfl, hb10⟩; have hB10 := hB9.trans (hb10.mono hB9.size); have c10 := HQ.out _ hB10; have c11 := HQ.out _ (hB10.alloc hB10.size (.cells #[.int .u8 (row.length : Int)] 5))))
          | (go_simp; go_at_call 89; ((with_reducible refine (HCALL.out _ hBA).mono ?_); rintro r w10 ⟨rfl, hb10⟩; have hB10 := hBA.trans (hb10.mono hBA.size); have c10 := HQ.out _ hB10; have hX2 := HX5.out _ hb10)))
        all_goals
          have HBZ := Lib.hid (HB.out.trans (hB10.mono HB.out.size))
          have HBY := Lib.hid (HBZ.out.alloc HBZ.out.size (.cells #[.int .u8 (row.length : Int)] 5))
          rw [HT2.out]
          go_wp2
          go_roundw
          case rel => exact ⟨k + 1, by omega, by go_num, by rw [HSE.out], (by first | exact HBZ.out | exact HBY.out)⟩
          case measure => simp [intOf]; omega
      · obtain rfl : k = m.length := by omega
        rw [List.take_length]
        have hcv := run_byte_str (byte_new wr 0)
        have hwz : Below w.heap.size w (wr.alloc (.cells #[.int .u8 0] 5)) := HB.out.alloc HB.out.size _
        have hz1 : ¬ 9223372036854775807 < (bstr (m.flatMap lvB)).size + (bstr [0]).size := by have h := HLB.out m.length; rw [List.take_length] at h; rw [bstr_size, bstr_size]; simp only [List.length_singleton]; omega
        have HT2 : Hid (bstr (m.flatMap lvB) ++ bstr [0] = bstr (spellB m)) := by show _ = _; rw [bstr_app]; rfl
        go_wp2
        go_ret
        exact ⟨ret_str (by rw [HP2.out, ← HT2.out]), hwz⟩

end Go.Proofs.YtnldkmcijmbhcaaGreat

/- The contract of the document's Key. -/
namespace Go.Proofs.YtnldkmcijmbhcaaGreat
open Go.RowKit

/-- A row of a row's levels has these levels. -/
theorem levelsF_row_self {l : List Ev} (hr : rightF l = true) : levelsF (lvls l).flatten = lvls l := by
  have h1 : rightL l = true ∧ l.length ≤ 200 := by
    unfold rightF at hr
    simp at hr
    exact ⟨hr.2, hr.1⟩
  have h2 : rightF (lvls l).flatten = true := by
    unfold rightF
    rw [lvls_count]
    simp only [Bool.and_eq_true, decide_eq_true_eq]
    refine ⟨h1.2, ?_⟩
    have h := h1.1
    unfold rightL at *
    exact List.all_eq_true.2 fun e he => List.all_eq_true.1 h e (mem_lvls he)
  unfold levelsF
  rw [if_pos h2]
  exact (lvls_iff _ _).2 (sim_row l)
theorem printF_levels (l : List Ev) (hr : rightF l = true) : printF (levelsF l) = keyF l := by
  have h0 : levelsF l = lvls l := by unfold levelsF; rw [if_pos hr]
  unfold printF keyF
  rw [h0, levelsF_row_self hr, if_pos rfl, if_pos hr]

set_option maxRecDepth 100000 in
set_option maxHeartbeats 2000000 in
theorem refKey_any (a : Option Addr) (cap : Nat) (l : List Ev) (w : World) (hl : EvsAt w a l) :
    Calls Tryz.prog 30 #[.slice a l.length cap] w fun r w' => r = .returned (.string (bstr (keyF l))) ∧ Below w.heap.size w w' := by
  have hm := hl.1
  unfold maxLen at hm
  have HRC := Lib.hid (rows_any a cap l w hl)
  have HL := Lib.hid hl
  clear hl
  have HRF : Hid (rightF l = (decide (l.length ≤ 200) && rightL l)) := rfl
  have HE : Hid (rightF l = false → keyF l = []) := fun h => by unfold keyF; rw [h]; rfl
  have HE2 : Hid (rightF l = true → printF (levelsF l) = keyF l) := printF_levels l
  cases hr : rightL l
  · have HE3 := Lib.hid (HE.out (by rw [HRF.out, hr]; simp))
    rw [hr] at HRC
    clear hr HE2 HE
    go_enter Tryz.func30, Tryz.ntmps30
    go_wp2_with fail
    refine HRC.out.mono ?_
    rintro r w1 ⟨rfl, hb1⟩
    clear HRC
    go_wp2
    go_ret
    exact ⟨ret_str (by rw [HE3.out]; rfl), hb1⟩
  rw [hr] at HRC
  by_cases h200 : l.length ≤ 200
  case neg =>
    have HE3 := Lib.hid (HE.out (by rw [HRF.out, hr]; simp; omega))
    have hq : decide ((200 : Int) < (l.length : Int)) = true := by simp; omega
    have hq2 : 200 < l.length := by omega
    clear hr HE2 HE h200
    go_enter Tryz.func30, Tryz.ntmps30
    go_wp2_with fail
    refine HRC.out.mono ?_
    rintro r w1 ⟨rfl, hb1⟩
    clear HRC
    go_wp2
    go_ret
    exact ⟨ret_str (by rw [HE3.out]; rfl), hb1⟩
  have HE3 := Lib.hid (HE2.out (by rw [HRF.out, hr]; simp; omega))
  have hq : decide ((200 : Int) < (l.length : Int)) = false := by simp; omega
  have hq2 : ¬ 200 < l.length := by omega
  clear hr HE2 HE h200
  go_enter Tryz.func30, Tryz.ntmps30
  go_wp2_with fail
  refine HRC.out.mono ?_
  rintro r w1 ⟨rfl, hb1⟩
  clear HRC
  have HLC := Lib.hid (refLevels_any a cap l w1 (HL.out.later hb1))
  go_wp2_with fail
  refine HLC.out.mono ?_
  rintro r w2 ⟨v, ss, rfl, hv, hb2⟩
  obtain ⟨a2, cap2, rfl, hat, _⟩ := OwnLv.formF hv
  have HC := Lib.hid (refLvPrint_any a2 cap2 (levelsF l) w2 hat (by have := levelsF_len l; omega) (by have := levelsF_flat l; omega) (fun i => by have := levelsF_row l i; omega))
  rw [HE3.out] at HC
  have hb3 := hb1.trans (hb2.mono hb1.size)
  clear hv hat hb1 hb2 HLC HE3
  generalize levelsF l = m at *
  go_wp2_with fail
  refine HC.out.mono ?_
  rintro r w3 ⟨rfl, hb4⟩
  have hb5 := hb3.trans (hb4.mono hb3.size)
  clear HC hb3 hb4
  go_wp2
  go_ret
  exact ⟨rfl, hb5⟩

end Go.Proofs.YtnldkmcijmbhcaaGreat

/- What the document's over is asked, and answers. -/
namespace Go.Proofs.YtnldkmcijmbhcaaGreat
open Go.RowKit

/-- What has been found so far. -/
structure SumV where
  k : List Key
  r : Nat
  c : Nat
  st : Nat
def sumA (x : SumV) (ka : Option Addr) (kc : Nat) : Array Value := #[.slice ka x.k.length kc, .int .i64 (x.r : Int), .int .i64 (x.c : Int), .int .i64 (x.st : Int)]
def SumAt (w : World) (mb B : Nat) (x : SumV) : Prop := ∃ ka kc, w.heap[mb]? = some (.cells (sumA x ka kc) 31 (0, 0)) ∧ OwnRow w B 9 1 strCell (.slice ka x.k.length kc) x.k
def BdS (x : SumV) : Prop := x.k.length ≤ x.c ∧ x.r ≤ x.c ∧ x.st ≤ x.c
def OvP (n : Nat) (s : St) (row : List Ev) (most : Nat) (x y : SumV) : Prop :=
  (x.c + s.pre n ≤ most → y.c = x.c + s.pre n ∧ y.k = (keysOf (s.runs n row)).foldl putK x.k ∧ y.r = x.r + (s.runs n row).length ∧ y.st = x.st + stuckN (s.runs n row)) ∧
    (most < x.c + s.pre n → most < y.c) ∧ (most ≤ x.c → y.c = x.c + 1) ∧ (x.c < most → y.c ≤ most + 4 * n + 1) ∧ BdS y
section
variable {w : World} {mb B : Nat} {x : SumV}
theorem SumAt.cells (h : SumAt w mb B x) : ∃ ka kc, (w.cell? ⟨mb, 0, none⟩ = some (.slice ka x.k.length kc) ∧ w.cell? ⟨mb, 1, none⟩ = some (.int .i64 (x.r : Int)) ∧ w.cell? ⟨mb, 2, none⟩ = some (.int .i64 (x.c : Int)) ∧ w.cell? ⟨mb, 3, none⟩ = some (.int .i64 (x.st : Int))) ∧
    (w.frozen? ⟨mb, 0, none⟩ = false ∧ w.frozen? ⟨mb, 1, none⟩ = false ∧ w.frozen? ⟨mb, 2, none⟩ = false ∧ w.frozen? ⟨mb, 3, none⟩ = false) ∧ OwnRow w B 9 1 strCell (.slice ka x.k.length kc) x.k := by
  obtain ⟨ka, kc, h1, h2⟩ := h
  have hc : ∀ j, w.cell? ⟨mb, j, none⟩ = (sumA x ka kc)[j]? := fun j => by
    unfold World.cell?
    dsimp only
    rw [h1]
    rfl
  have hf : ∀ j, w.frozen? ⟨mb, j, none⟩ = false := fun j => by
    unfold World.frozen?
    dsimp only
    rw [h1]
    rfl
  exact ⟨ka, kc, ⟨hc 0, hc 1, hc 2, hc 3⟩, ⟨hf 0, hf 1, hf 2, hf 3⟩, h2⟩
theorem SumAt.lt (h : SumAt w mb B x) : mb < w.heap.size := by
  obtain ⟨_, _, h1, _⟩ := h
  exact (Array.getElem?_eq_some_iff.1 h1).1
theorem SumAt.later {w' : World} (h : SumAt w mb B x) (hb : Below w.heap.size w w') : SumAt w' mb B x := by
  have hl := h.lt
  obtain ⟨ka, kc, h1, h2⟩ := h
  exact ⟨ka, kc, (hb.block mb hl).trans h1, h2.later hb⟩
theorem row_set {w : World} {B : Nat} {v : Value} {ks : List Key} (h : OwnRow w B 9 1 strCell v ks) (hm : mb < B) (j : Nat) (u : Value) : OwnRow (w.setCell ⟨mb, j, none⟩ u) B 9 1 strCell v ks := ownsRow_setCell_below (a := ⟨mb, j, none⟩) h hm u
theorem SumAt.setC (h : SumAt w mb B x) (hm : mb < B) (n : Nat) : SumAt (w.setCell ⟨mb, 2, none⟩ (.int .i64 (n : Int))) mb B { x with c := n } := by
  obtain ⟨ka, kc, h1, h2⟩ := h
  exact ⟨ka, kc, by rw [heap_setCell_same w mb 2 _ _ _ h1]; rfl, row_set h2 hm _ _⟩
theorem SumAt.setR (h : SumAt w mb B x) (hm : mb < B) (n : Nat) : SumAt (w.setCell ⟨mb, 1, none⟩ (.int .i64 (n : Int))) mb B { x with r := n } := by
  obtain ⟨ka, kc, h1, h2⟩ := h
  exact ⟨ka, kc, by rw [heap_setCell_same w mb 1 _ _ _ h1]; rfl, row_set h2 hm _ _⟩
theorem SumAt.setS (h : SumAt w mb B x) (hm : mb < B) (n : Nat) : SumAt (w.setCell ⟨mb, 3, none⟩ (.int .i64 (n : Int))) mb B { x with st := n } := by
  obtain ⟨ka, kc, h1, h2⟩ := h
  exact ⟨ka, kc, by rw [heap_setCell_same w mb 3 _ _ _ h1]; rfl, row_set h2 hm _ _⟩
theorem SumAt.setK (h : SumAt w mb B x) (hm : mb < B) {a : Option Addr} {c : Nat} {ks : List Key} (ho : OwnRow w B 9 1 strCell (.slice a ks.length c) ks) : SumAt (w.setCell ⟨mb, 0, none⟩ (.slice a ks.length c)) mb B { x with k := ks } := by
  obtain ⟨ka, kc, h1, h2⟩ := h
  exact ⟨a, c, by rw [heap_setCell_same w mb 0 _ _ _ h1]; rfl, row_set ho hm _ _⟩
end

theorem EvsAt.onlyB {w w' : World} {mb : Nat} {a : Option Addr} {l : List Ev} (h : EvsAt w a l) (ho : Only mb w w') (hm : ∀ o, a = some o → o.block ≠ mb) : EvsAt w' a l := by
  refine ⟨h.1, fun hn => ?_⟩
  obtain ⟨b, o, rfl, hc⟩ := h.2 hn
  have hb := hm _ rfl
  refine ⟨b, o, rfl, fun i hi => ?_⟩
  obtain ⟨h0, h1, h2, h3⟩ := hc i hi
  have hk : ∀ {j : Nat} {v : Value}, w.cell? ⟨b, j, none⟩ = some v → w'.cell? ⟨b, j, none⟩ = some v := fun {j v} e => by
    rw [World.cell?_of_block (w := w) (a := ⟨b, j, none⟩) (ho.block b (cell_block e) hb)]
    exact e
  exact ⟨hk h0, hk h1, hk h2, hk h3⟩
/-- One more call of over, from what has been found and what is left. -/
def OverH (W0 : World) (F B mb n most : Nat) : Prop :=
  ∀ (s : St) (row : List Ev) (w : World) (b tb : Nat) (a : Option Addr) (cap tcap : Nat) (ra : Option Addr) (rcap : Nat) (x : SumV), s.Ok F → s.fuel ≤ n → row.length + n ≤ 100 → RefAt w b tb a cap tcap s → ThreadsAt W0 a s.p.threads → Below W0.heap.size W0 w → EvsAt w ra row → (ra = none → rcap = 0 ∧ row = []) → (∀ o, ra = some o → o.block ≠ mb) →
    SumAt w mb B x → BdS x → x.c ≤ 5000 → B ≤ w.heap.size → b ≠ mb → tb ≠ mb →
    Calls Tryz.prog 18 #[.pointer (some ⟨mb, 0, none⟩), .pointer (some ⟨b, 0, none⟩), .slice ra row.length rcap, .int .i64 (most : Int)] w fun r w' => r = .returned (.tuple #[]) ∧ ∃ y, SumAt w' mb B y ∧ OvP n s row most x y ∧ Only mb w w'

theorem bdS_step {x : SumV} (h : BdS x) : BdS { x with c := x.c + 1 } := by
  obtain ⟨h1, h2, h3⟩ := h
  exact ⟨by show _ ≤ x.c + 1; exact Nat.le_succ_of_le h1, Nat.le_succ_of_le h2, Nat.le_succ_of_le h3⟩

set_option maxRecDepth 100000 in
set_option maxHeartbeats 8000000 in
theorem over_full {B mb : Nat} (n most : Nat) (s : St) (row : List Ev) (w : World) (b : Nat) (ra : Option Addr) (rcap : Nat) (x : SumV) (hm : mb < B) (hs : SumAt w mb B x) (hb : BdS x) (hc : x.c ≤ 5000) (hx : most ≤ x.c) :
    Calls Tryz.prog 18 #[.pointer (some ⟨mb, 0, none⟩), .pointer (some ⟨b, 0, none⟩), .slice ra row.length rcap, .int .i64 (most : Int)] w fun r w' => r = .returned (.tuple #[]) ∧ ∃ y, SumAt w' mb B y ∧ OvP n s row most x y ∧ Only mb w w' := by
  obtain ⟨ka, kc, ⟨c0, c1, c2, c3⟩, ⟨f0, f1, f2, f3⟩, _⟩ := hs.cells
  have HS1 := Lib.hid (hs.setC hm (x.c + 1))
  have hw : IntKind.i64.wrap ((x.c : Int) + 1) = (x.c : Int) + 1 := IntWalk.i64_in _ (by omega)
  have hq : decide ((most : Int) < (x.c : Int) + 1) = true := by simp; omega
  have HP : Hid (OvP n s row most x { x with c := x.c + 1 }) := by
    have := pre_pos n s
    exact ⟨fun h => by omega, fun _ => by show most < x.c + 1; omega, fun _ => rfl, fun h => by omega, bdS_step hb⟩
  have HO : Hid (Only mb w (w.setCell ⟨mb, 2, none⟩ (.int .i64 ((x.c : Int) + 1)))) := (Only.refl mb w).setCell 2 _
  clear hs hb
  go_enter Tryz.func18, Tryz.ntmps18
  go_wp2_with fail
  refine bodyPost_ret (results_none rfl _ _ _) rfl ?_
  exact ⟨rfl, _, HS1.out, HP.out, HO.out⟩

end Go.Proofs.YtnldkmcijmbhcaaGreat
