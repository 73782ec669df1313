/- The contract of Copy. -/
import Derived.Test.YtjkfocmfgcmegaaCopyList
namespace Go.Proofs.Ytjkfocmfgcmegaa
open Go.RowKit

def OwnCode (w : World) (B g0 : Nat) (c : Option Addr) (l : List Ins) : Prop :=
  l ≠ [] → ∃ g, c = some ⟨g, 0, none⟩ ∧ B ≤ g ∧ g ≠ g0 ∧ w.heap[g]? = some (.cells (insCells l).toArray 34 (0, 0))

def OwnThreads (w : World) (B : Nat) (a : Option Addr) (ts : List (List Ins)) : Prop :=
  ts ≠ [] → ∃ g vs, a = some ⟨g, 0, none⟩ ∧ B ≤ g ∧ w.heap[g]? = some (.cells (List.toArray vs) 32 (0, 0)) ∧ vs.length = ts.length ∧
    ∀ i (h : i < ts.length), ∃ c cap, vs[i]? = some (.slice c ts[i].length cap) ∧ (c = none → cap = 0) ∧ OwnCode w B g c ts[i]

theorem exists_list {α : Type} (n : Nat) (P : Nat → α → Prop) (h : ∀ i, i < n → ∃ x, P i x) : ∃ xs : List α, xs.length = n ∧ ∀ i x, xs[i]? = some x → P i x := by
  induction n with
  | zero => exact ⟨[], rfl, by simp⟩
  | succ n ih =>
    obtain ⟨xs, hl, hx⟩ := ih (fun i hi => h i (by omega))
    obtain ⟨x, hp⟩ := h n (by omega)
    refine ⟨xs ++ [x], by simp [hl], fun i y hy => ?_⟩
    by_cases hi : i < n
    · rw [List.getElem?_append_left (by omega)] at hy; exact hx i y hy
    · rw [List.getElem?_append_right (by omega)] at hy
      have : i - xs.length = 0 := by
        have := (List.getElem?_eq_some_iff.1 hy).1
        simp at this
        omega
      rw [this] at hy
      have hin : i = n := by omega
      subst hin
      simp at hy
      subst hy
      exact hp

theorem OwnThreads.at {w : World} {B : Nat} {a : Option Addr} {ts : List (List Ins)} (h : OwnThreads w B a ts) (hm : ts.length ≤ maxLen) (hms : ∀ l ∈ ts, l.length ≤ maxLen) : ThreadsAt w a ts := by
  refine ⟨hm, fun hn => ?_⟩
  obtain ⟨g, vs, rfl, _, hg, hl, hv⟩ := h hn
  refine ⟨g, 0, rfl, fun i hi => ?_⟩
  obtain ⟨c, cap, h1, h2, h3⟩ := hv i hi
  refine ⟨c, cap, ?_, ⟨hms _ (List.getElem_mem _), fun hne => ?_⟩, h2⟩
  · simp [World.cell?, hg, h1]
  · obtain ⟨g', rfl, _, _, hg'⟩ := h3 hne
    exact (codeAt_row (hms _ (List.getElem_mem _)) hg').2 hne

/-- What a copy of a program is. -/
def CopyPost (p : Pg) (w : World) (r : Ending) (w' : World) : Prop :=
  ∃ a' cap', r = .returned (pgV p a' cap') ∧ (a' = none → cap' = 0) ∧ Below w.heap.size w w' ∧ OwnThreads w' w.heap.size a' p.threads ∧ cap' = p.threads.length

theorem trip_of {w : World} {b o : Nat} {ts : List (List Ins)} (hc : ∀ i (h : i < ts.length), ∃ c cap, w.cell? ⟨b, o + i, none⟩ = some (.slice c ts[i].length cap) ∧ CodeAt w c ts[i] ∧ (c = none → cap = 0)) :
    ∃ cs : List (Option Addr × Nat × Nat), cs.length = ts.length ∧ ∀ i (h : i < ts.length), ∃ c cap, cs[i]? = some (c, ts[i].length, cap) ∧ w.cell? ⟨b, o + i, none⟩ = some (.slice c ts[i].length cap) ∧ CodeAt w c ts[i] ∧ (c = none → cap = 0) := by
  obtain ⟨cs, hl, hx⟩ := exists_list ts.length (fun i (x : Option Addr × Nat × Nat) => ∃ h : i < ts.length, x.2.1 = ts[i].length ∧ w.cell? ⟨b, o + i, none⟩ = some (.slice x.1 x.2.1 x.2.2) ∧ CodeAt w x.1 ts[i] ∧ (x.1 = none → x.2.2 = 0))
    (fun i hi => by obtain ⟨c, cap, h1, h2, h3⟩ := hc i hi; exact ⟨(c, ts[i].length, cap), hi, rfl, h1, h2, h3⟩)
  refine ⟨cs, hl, fun i hi => ?_⟩
  obtain ⟨_, e, h1, h2, h3⟩ := hx i (cs[i]'(by omega)) (List.getElem?_eq_getElem _)
  refine ⟨(cs[i]'(by omega)).1, (cs[i]'(by omega)).2.2, ?_, ?_, h2, h3⟩
  · rw [List.getElem?_eq_getElem (by omega), ← e]
  · rw [h1, e]

theorem OwnThreads.mono {w : World} {B B' : Nat} {a : Option Addr} {ts : List (List Ins)} (h : OwnThreads w B a ts) (hB : B' ≤ B) : OwnThreads w B' a ts := by
  intro hn
  obtain ⟨g, vs, e, hg, h1, h2, h3⟩ := h hn
  refine ⟨g, vs, e, by omega, h1, h2, fun i hi => ?_⟩
  obtain ⟨c, cap, q1, q2, q3⟩ := h3 i hi
  refine ⟨c, cap, q1, q2, fun hne => ?_⟩
  obtain ⟨g', e', h1', h2', h3'⟩ := q3 hne
  exact ⟨g', e', by omega, h2', h3'⟩

theorem OwnThreads.keep {w w' : World} {B : Nat} {a : Option Addr} {ts : List (List Ins)} (h : OwnThreads w B a ts) (hk : ∀ g, B ≤ g → g < w.heap.size → w'.heap[g]? = w.heap[g]?) : OwnThreads w' B a ts := by
  intro hn
  have lt : ∀ {g : Nat} {o : Obj}, w.heap[g]? = some o → g < w.heap.size := fun e => (Array.getElem?_eq_some_iff.1 e).1
  obtain ⟨g, vs, e, hg, h1, h2, h3⟩ := h hn
  refine ⟨g, vs, e, hg, (hk g hg (lt h1)).trans h1, h2, fun i hi => ?_⟩
  obtain ⟨c, cap, q1, q2, q3⟩ := h3 i hi
  refine ⟨c, cap, q1, q2, fun hne => ?_⟩
  obtain ⟨g', e', h1', h2', h3'⟩ := q3 hne
  exact ⟨g', e', h1', h2', (hk g' h1' (lt h3')).trans h3'⟩

theorem row_set {w : World} {g k : Nat} {vs : List Value} {t : TypeId} {fr : Nat × Nat} (h : w.heap[g]? = some (.cells vs.toArray t fr)) (v : Value) :
    (w.setCell ⟨g, k, none⟩ v).heap[g]? = some (.cells (vs.set k v).toArray t fr) := by
  simp [World.setCell, Array.getElem?_modify, h]

/-- The world in the middle of a copy. -/
def CopyRel (w W2 : World) (cs : List (Option Addr × Nat × Nat)) (ts : List (List Ins)) (k : Nat) (wr : World) : Prop :=
  Below (w.heap.size + 1 + 1) W2 wr ∧ ∃ vs : List Value, wr.heap[w.heap.size + 1 + 1]? = some (.cells vs.toArray 32 (0, 0)) ∧ vs.length = ts.length ∧ (∀ i, k ≤ i → vs[i]? = (cs.map slV)[i]?) ∧
    ∀ i (h : i < ts.length), i < k → ∃ c cap, vs[i]? = some (.slice c ts[i].length cap) ∧ (c = none → cap = 0) ∧ OwnCode wr (w.heap.size + 1 + 1) (w.heap.size + 1 + 1) c ts[i]

theorem CopyRel.step {w W2 wr wn : World} {cs : List (Option Addr × Nat × Nat)} {ts : List (List Ins)} {k : Nat} (h : CopyRel w W2 cs ts k wr) (hk : k < ts.length)
    (c : Option Addr) (cap : Nat) (hc : c = none → cap = 0) (hn : Below wr.heap.size wr wn) (ho : OwnCode wn (w.heap.size + 1 + 1) (w.heap.size + 1 + 1) c ts[k]) (n : Nat) (hl : n = ts[k].length) :
    CopyRel w W2 cs ts (k + 1) (wn.setCell ⟨w.heap.size + 1 + 1, k, none⟩ (.slice c n cap)) := by
  subst hl
  obtain ⟨hb, vs, h1, h2, h3, h4⟩ := h
  have hlt : w.heap.size + 1 + 1 < wr.heap.size := (Array.getElem?_eq_some_iff.1 h1).1
  have keep : ∀ {c l}, OwnCode wn (w.heap.size + 1 + 1) (w.heap.size + 1 + 1) c l → ∀ v, OwnCode (wn.setCell ⟨w.heap.size + 1 + 1, k, none⟩ v) (w.heap.size + 1 + 1) (w.heap.size + 1 + 1) c l := by
    intro c l h v hne
    obtain ⟨g, e, q1, q2, q3⟩ := h hne
    exact ⟨g, e, q1, q2, (Below.heap_setCell _ _ _ _ q2).trans q3⟩
  have keep2 : ∀ {c l}, OwnCode wr (w.heap.size + 1 + 1) (w.heap.size + 1 + 1) c l → OwnCode wn (w.heap.size + 1 + 1) (w.heap.size + 1 + 1) c l := by
    intro c l h hne
    obtain ⟨g, e, q1, q2, q3⟩ := h hne
    exact ⟨g, e, q1, q2, (hn.block g ((Array.getElem?_eq_some_iff.1 q3).1)).trans q3⟩
  refine ⟨(hb.trans (hn.mono (by omega))).setCell (by simp) _, vs.set k _, row_set ((hn.block _ hlt).trans h1) _, by simp [h2], fun i hi => ?_, fun i hi hik => ?_⟩
  · rw [List.getElem?_set_ne (by omega)]; exact h3 i (by omega)
  · by_cases e : i = k
    · subst e
      exact ⟨c, cap, by rw [List.getElem?_set_self (by omega)], hc, keep ho _⟩
    · obtain ⟨c', cap', q1, q2, q3⟩ := h4 i hi (by omega)
      exact ⟨c', cap', by rw [List.getElem?_set_ne (by omega)]; exact q1, q2, keep (keep2 q3) _⟩

theorem CopyRel.own {w W2 wr : World} {cs : List (Option Addr × Nat × Nat)} {ts : List (List Ins)} (h : CopyRel w W2 cs ts ts.length wr) : OwnThreads wr (w.heap.size + 1 + 1) (some ⟨w.heap.size + 1 + 1, 0, none⟩) ts := by
  obtain ⟨hb, vs, h1, h2, h3, h4⟩ := h
  exact fun _ => ⟨_, vs, rfl, Nat.le_refl _, h1, h2, fun i hi => h4 i hi hi⟩

set_option maxRecDepth 100000 in
set_option maxHeartbeats 1000000 in
theorem copy_some (V M : Int) (ts : List (List Ins)) (b : Addr) (cap : Nat) (w : World) (cs : List (Option Addr × Nat × Nat)) (hcl : cs.length = ts.length)
    (hcc : ∀ j v, (cs.map slV)[j]? = some v → w.cell? (b.add j) = some v)
    (hco : ∀ i (h : i < ts.length), ∃ c ccap, cs[i]? = some (c, ts[i].length, ccap) ∧ CodeAt w c ts[i] ∧ (c = none → ccap = 0)) (hm : ts.length ≤ 1000000) (hms : ∀ l ∈ ts, l.length ≤ 1000000) :
    Calls Try.prog 14 #[.agg #[.int .i64 V, .int .i64 M, .slice (some b) ts.length cap]] w (CopyPost ⟨V, M, ts⟩ w) := by
  have HCC := Lib.hid hcc
  have HCO := Lib.hid hco
  have HMS := Lib.hid hms
  have HCL := Lib.hid hcl
  have hm2 : cs.length ≤ 1000000 := by omega
  clear hcc hco hms
  rw [← hcl]
  clear hcl
  go_enter Try.func14, Try.ntmps14
  go_wp2_with fail
  refine (copyThreads_any b cap cs _ ?hx hm2).mono ?_
  case hx => 
    intro j v hv
    exact cell_later (below_alloc2 w _ _) (HCC.out j v hv)
  rintro r w1 ⟨rfl, rfl⟩
  go_wp2_with fail
  go_loopw [11] (fun i wr => ∃ k : Nat, k ≤ cs.length ∧ i = .int .i64 k ∧ CopyRel w ((w.alloc (.cells #[.int .i64 V, .int .i64 M, .slice (some b) cs.length cap] 24)).alloc (.cells #[.int .i64 0, .int .i64 0, .slice none 0 0] 24)) cs ts k wr) (fun i _ => cs.length - (intOf i).toNat)
  case atStart =>
    refine ⟨0, Nat.zero_le _, rfl, (Below.refl _ _).alloc (by simp) _, cs.map slV, ?_, by rw [← HCL.out]; simp, fun i _ => rfl, fun i _ h => absurd h (by omega)⟩
    have := (MapKept.heap_alloc ((w.alloc (.cells #[.int .i64 V, .int .i64 M, .slice (some b) cs.length cap] 24)).alloc (.cells #[.int .i64 0, .int .i64 0, .slice none 0 0] 24)) (.cells (cs.map slV).toArray 32)).1
    simpa using this
  case round =>
    obtain ⟨k, hk, rfl, hR⟩ := hrel
    have hb := hR.1
    have p0 : wr.cell? ⟨w.heap.size, 0, none⟩ = some (.int .i64 V) := by rw [hb.cell (p := ⟨w.heap.size, 0, none⟩) (by simp; omega)]; simp
    have p1 : wr.cell? ⟨w.heap.size, 1, none⟩ = some (.int .i64 M) := by rw [hb.cell (p := ⟨w.heap.size, 1, none⟩) (by simp; omega)]; simp
    have hz : w.heap.size + 1 + 1 ≤ wr.heap.size := by have := hb.size; simp at this; omega
    have hbw : Below w.heap.size w wr := (below_alloc2 w _ _).trans (hb.mono (by omega))
    by_cases hlt : k < cs.length
    · have hkt : k < ts.length := by have := HCL.out; omega
      obtain ⟨c, ccap, e1, hc1, hc2⟩ := HCO.out k hkt
      obtain ⟨_, vs, v1, v2, v3, v4⟩ := id hR
      have hcell : wr.cell? ⟨w.heap.size + 1 + 1, k, none⟩ = some (.slice c ts[k].length ccap) := by
        have := v3 k (Nat.le_refl _)
        rw [List.getElem?_map, e1] at this
        simp [World.cell?, v1, this, slV]
      have hfr : wr.frozen? ⟨w.heap.size + 1 + 1, k, none⟩ = false := by simp [World.frozen?, v1]
      have hz2 : w.heap.size + 1 + 1 < wr.heap.size := (Array.getElem?_eq_some_iff.1 v1).1
      have HR := Lib.hid hR
      have hkm : ts[k].length ≤ 1000000 := HMS.out _ (List.getElem_mem _)
      have HC1 := Lib.hid (hc1.later hbw)
      clear v1 v2 v3 v4 hR e1 hc1
      obtain ⟨l, hl⟩ : ∃ l, l = ts[k] := ⟨_, rfl⟩
      rw [← hl] at hcell hkm
      have HLk := Lib.hid hl
      clear hl
      cases c with
      | none =>
        obtain rfl : ccap = 0 := hc2 rfl
        have hl0 : l = [] := by
          rw [HLk.out]
          by_cases e : ts[k] = []
          · exact e
          · obtain ⟨_, _, h, _⟩ := HC1.out.2 e; cases h
        subst hl0
        clear hc2
        dsimp only [List.length_nil] at hcell
        go_wp2_with fail
        refine (copyIns_nil _).mono ?_
        rintro r w1 ⟨rfl, rfl⟩
        have hst := HR.out.step hkt none 0 (fun _ => rfl) (Below.refl _ _) (by intro hne; exact absurd HLk.out.symm hne) 0 (by rw [← HLk.out]; rfl)
        have HST := Lib.hid hst
        clear hst
        go_wp2
        go_roundw
        case rel => exact ⟨k + 1, by omega, by go_num, HST.out⟩
        case measure => simp [intOf]; omega
      | some a =>
        clear hc2
        have hcs : ∀ j v, (insCells l)[j]? = some v → wr.cell? (a.add j) = some v := by
          intro j v hv
          rw [HLk.out] at hv
          by_cases e : ts[k] = []
          · rw [e] at hv; simp [insCells] at hv
          · obtain ⟨b', o', h, _⟩ := HC1.out.2 e
            obtain rfl : a = ⟨b', o', none⟩ := by simpa using h
            exact CodeAt.cells HC1.out j v hv
        have HCS := Lib.hid hcs
        clear hcs
        go_wp2_with fail
        refine (copyIns_any a ccap l _ HCS.out hkm).mono ?_
        rintro r w1 ⟨rfl, rfl⟩
        have hst := HR.out.step hkt (some ⟨wr.heap.size, 0, none⟩) l.length (by simp) (below_alloc1 wr (.cells (insCells l).toArray 34)) (by
          intro _
          exact ⟨wr.heap.size, rfl, by omega, by omega, by rw [← HLk.out]; exact (MapKept.heap_alloc wr _).1⟩) l.length (by rw [← HLk.out])
        rw [World.setCell_alloc_past _ _ _ _ hz2] at hst
        have HST := Lib.hid hst
        clear hst
        go_wp2
        go_roundw
        case rel => exact ⟨k + 1, by omega, by go_num, HST.out⟩
        case measure => simp [intOf]; omega
    · obtain rfl : k = cs.length := by omega
      have z0 : (wr.cell? ⟨w.heap.size + 1, 0, none⟩) = some (.int .i64 0) := by rw [hb.cell (p := ⟨w.heap.size + 1, 0, none⟩) (by simp)]; simp
      have z1 : (wr.cell? ⟨w.heap.size + 1, 1, none⟩) = some (.int .i64 0) := by rw [hb.cell (p := ⟨w.heap.size + 1, 1, none⟩) (by simp)]; simp
      have z2 : (wr.cell? ⟨w.heap.size + 1, 2, none⟩) = some (.slice none 0 0) := by rw [hb.cell (p := ⟨w.heap.size + 1, 2, none⟩) (by simp)]; simp
      have f0 : ∀ j, (wr.frozen? ⟨w.heap.size + 1, j, none⟩) = false := fun j => by rw [hb.frozen (p := ⟨w.heap.size + 1, j, none⟩) (by simp)]; simp
      go_wp2
      have hfin : OwnThreads (((wr.setCell ⟨w.heap.size + 1, 0, none⟩ (.int .i64 V)).setCell ⟨w.heap.size + 1, 1, none⟩ (.int .i64 M)).setCell ⟨w.heap.size + 1, 2, none⟩ (.slice (some ⟨w.heap.size + 1 + 1, 0, none⟩) cs.length cs.length)) w.heap.size (some ⟨w.heap.size + 1 + 1, 0, none⟩) ts := by
        have h := hR
        rw [HCL.out] at h
        refine (h.own.keep (fun g hg _ => ?_)).mono (by omega)
        rw [Below.heap_setCell _ _ _ _ (by simp; omega), Below.heap_setCell _ _ _ _ (by simp; omega), Below.heap_setCell _ _ _ _ (by simp; omega)]
      have hbf := ((hbw.setCell (p := ⟨w.heap.size + 1, 0, none⟩) (by simp) (.int .i64 V)).setCell (p := ⟨w.heap.size + 1, 1, none⟩) (by simp) (.int .i64 M)).setCell (p := ⟨w.heap.size + 1, 2, none⟩) (by simp) (.slice (some ⟨w.heap.size + 1 + 1, 0, none⟩) cs.length cs.length)
      exact bodyPost_ret (v := .agg #[.int .i64 V, .int .i64 M, .slice (some ⟨w.heap.size + 1 + 1, 0, none⟩) cs.length cs.length]) (by simp [results, Try.results14, go_sem, z0, z1, z2]) rfl
        ⟨some ⟨w.heap.size + 1 + 1, 0, none⟩, cs.length, by rw [HCL.out]; rfl, by simp, hbf, hfin, HCL.out⟩

set_option maxRecDepth 100000 in
set_option maxHeartbeats 1000000 in
theorem copy_none (V M : Int) (w : World) :
    Calls Try.prog 14 #[.agg #[.int .i64 V, .int .i64 M, .slice none 0 0]] w (CopyPost ⟨V, M, []⟩ w) := by
  go_enter Try.func14, Try.ntmps14
  go_wp2_with fail
  refine (copyThreads_nil _).mono ?_
  rintro r w1 ⟨rfl, rfl⟩
  go_wp2_with fail
  refine wp_loop_rounds 1 ?_
  rw [rounds_succ]
  go_wp2
  have hbf := below_alloc2 w (.cells #[.int .i64 V, .int .i64 M, .slice none 0 0] 24) (.cells #[.int .i64 V, .int .i64 M, .slice none 0 0] 24)
  exact bodyPost_ret (v := .agg #[.int .i64 V, .int .i64 M, .slice none 0 0]) (by simp [results, Try.results14, go_sem]) rfl
        ⟨none, 0, rfl, by simp, hbf, fun h => absurd rfl h, rfl⟩

theorem copy_any (p : Pg) (a : Option Addr) (cap : Nat) (w : World) (hp : ThreadsAt w a p.threads) (ha : a = none → cap = 0) (hm : p.threads.length ≤ 1000000) (hms : ∀ l ∈ p.threads, l.length ≤ 1000000) :
    Calls Try.prog 14 #[pgV p a cap] w (CopyPost p w) := by
  obtain ⟨V, M, ts⟩ := p
  dsimp only at *
  cases a with
  | none =>
    obtain rfl := ha rfl
    have e : ts = [] := by
      by_cases e : ts = []
      · exact e
      · obtain ⟨_, _, h, _⟩ := hp.2 e; cases h
    subst e
    exact copy_none V M w
  | some b =>
    by_cases e : ts = []
    · subst e
      exact copy_some V M [] b cap w [] rfl (by simp) (by simp) (by simp) (by simp)
    · obtain ⟨b', o', h, hc⟩ := hp.2 e
      obtain rfl : b = ⟨b', o', none⟩ := by simpa using h
      obtain ⟨cs, hl, hx⟩ := trip_of hc
      refine copy_some V M ts ⟨b', o', none⟩ cap w cs hl ?_ ?_ hm hms
      · intro j v hv
        have hj : j < ts.length := by
          have := (List.getElem?_eq_some_iff.1 hv).1
          simp at this
          omega
        obtain ⟨c, ccap, h1, h2, _⟩ := hx j hj
        rw [List.getElem?_map, h1] at hv
        have hv' : Value.slice c ts[j].length ccap = v := by simpa [slV] using hv
        subst hv'
        have : Addr.add ⟨b', o', none⟩ j = ⟨b', o' + j, none⟩ := by
          unfold Addr.add
          split
          · rename_i h0; subst h0; rfl
          · rfl
        rw [this]; exact h2
      · intro i hi
        obtain ⟨c, ccap, h1, _, h3, h4⟩ := hx i hi
        exact ⟨c, ccap, h1, h3, h4⟩
end Go.Proofs.Ytjkfocmfgcmegaa
