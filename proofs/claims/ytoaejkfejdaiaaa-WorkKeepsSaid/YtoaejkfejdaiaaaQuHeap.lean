/- The contracts of the library's Push, Pop, Remove, over an end. -/
import Derived.Test.YtoaejkfejdaiaaaQuDown
import Derived.Test.YtoaejkfejdaiaaaQuPush
import Derived.Test.YtoaejkfejdaiaaaQuPop
namespace Go.Proofs.Ytoaejkfejdaiaaa
open Go.RowKit

/-- A side is a heap, and its items know their places. -/
structure SideOk (pre : Nat → Txt) (p : Nat → Int) (l : List Nat) (s : Nat) : Prop where
  nodup : l.Nodup
  pos : PosOk p l
  heap : HeapF (ltQ pre s) l.length fun k => l.getD k 0
/-- None is nearer to the top than the top. -/
theorem SideOk.top {pre : Nat → Txt} {p : Nat → Int} {l : List Nat} {s : Nat} (h : SideOk pre p l s) {y : Nat} (hy : y ∈ l) : ltQ pre s y (l.getD 0 0) = false := by
  obtain ⟨k, hk, rfl⟩ := mem_getD hy
  exact heap_top (ltQ_ord pre s) h.heap k hk
theorem getD_snoc_lt {l : List Nat} {x k : Nat} (h : k < l.length) : (l ++ [x]).getD k 0 = l.getD k 0 := by simp [List.getD, List.getElem?_append_left h]
theorem getD_snoc_eq {l : List Nat} {x : Nat} : (l ++ [x]).getD l.length 0 = x := by simp [List.getD]
theorem getD_dropLast {l : List Nat} {m k : Nat} (hm : l.length = m + 1) (h : k < m) : l.dropLast.getD k 0 = l.getD k 0 := by
  have h1 : k < l.dropLast.length := by rw [List.length_dropLast]; omega
  simp only [List.getD, List.getElem?_eq_getElem h1, List.getElem?_eq_getElem (by omega : k < l.length), Option.getD_some, List.getElem_dropLast]
theorem snoc_last {l : List Nat} {m : Nat} (hm : l.length = m + 1) : l.dropLast ++ [l.getD m 0] = l := by
  have hne : l ≠ [] := fun e => by rw [e] at hm; simp at hm
  have h := List.dropLast_concat_getLast hne
  have e : l.getLast hne = l.getD m 0 := by
    rw [List.getLast_eq_getElem]
    simp [List.getD, hm]
  rw [← e]
  exact h
/-- A row that lies where it lay, or anew: the queue's blocks are the elder ones, or new. -/
theorem qs_upd {b : Nat} {ids : List Nat} {vs : Nat → Value} {s : Nat} (hs : s < 2) {v' : Value} {z : Nat} (hv : v'.ownBlock = (vs s).ownBlock ∨ ∃ y, v'.ownBlock = some y ∧ z ≤ y) {x : Nat} (hx : QS b ids (updF vs s v') x) : QS b ids vs x ∨ z ≤ x := by
  have key : ∀ t, t < 2 → (updF vs s v' t).ownBlock = some x → QS b ids vs x ∨ z ≤ x := fun t ht h => by
    by_cases e : t = s
    · subst e
      rw [updF_same] at h
      rcases hv with hv | ⟨y, hv, hy⟩
      · exact .inl (.own ht (hv ▸ h))
      · rw [hv] at h; injection h with h; subst h; exact .inr hy
    · rw [updF_ne _ _ e] at h
      exact .inl (.own ht h)
  rcases hx with hx | hx | hx | hx
  · exact .inl (.inl hx)
  · exact key 0 (by omega) hx
  · exact key 1 (by omega) hx
  · exact .inl (.inr (.inr (.inr hx)))
section
variable {w w' w'' : World} {B b : Nat} {pre : Nat → Txt} {ids : List Nat} {vs : Nat → Value} {pl pl1 pl2 : Nat → Nat → Int} {ls : Nat → List Nat} {s n n2 : Nat} {l1 l2 : List Nat}
theorem MvR.trans (a : MvR B b pre ids vs pl ls s n w pl1 l1 w') (c : MvR B b pre ids vs pl1 (updF ls s l1) s n2 w' pl2 l2 w'') {k : Nat} (hk : (ls s).length ≤ k) : MvR B b pre ids vs pl ls s k w pl2 l2 w'' := by
  have hq := c.qr
  have hp := c.perm
  rw [updF_upd] at hq
  rw [updF_same] at hp
  refine ⟨hq, hp.trans a.perm, c.pos, fun t ht => (c.oth t ht).trans (a.oth t ht), fun j hj => ?_, a.only.trans c.only⟩
  have h1 : l2.length = (ls s).length := (hp.trans a.perm).length_eq
  simp only [List.getD, List.getElem?_eq_none (by omega : l2.length ≤ j), List.getElem?_eq_none (by omega : (ls s).length ≤ j)]
/-- What is left behind the last one's strike. -/
theorem MvR.last {m : Nat} (a : MvR B b pre ids vs pl ls s n w pl1 l1 w') (hm : (ls s).length = m + 1) (hd : (ls s).Nodup) (hh : HeapF (ltQ pre s) m fun k => l1.getD k 0) : SideOk pre (pl1 s) l1.dropLast s ∧ (l1.getD m 0 :: l1.dropLast).Perm (ls s) := by
  have hl : l1.length = m + 1 := a.len.trans hm
  have hdl : l1.dropLast.length = m := by rw [List.length_dropLast]; omega
  refine ⟨⟨(a.nodup hd).sublist (List.dropLast_sublist _), fun j hj => ?_, ?_⟩, ?_⟩
  · rw [hdl] at hj
    rw [getD_dropLast hl hj]
    exact a.pos j (by omega)
  · rw [hdl]
    exact heapF_congr hh fun k hk => (getD_dropLast hl hk).symm
  · have h1 : (l1.getD m 0 :: l1.dropLast).Perm (l1.dropLast ++ [l1.getD m 0]) := (List.perm_append_singleton _ _).symm
    rw [snoc_last hl] at h1
    exact h1.trans a.perm
/-- What a push leaves of a side. -/
def HPushR (B b : Nat) (pre : Nat → Txt) (ids : List Nat) (vs : Nat → Value) (pl : Nat → Nat → Int) (ls : Nat → List Nat) (s x z : Nat) (w w' : World) : Prop :=
  ∃ v' pl' l', QR w' B b pre ids (updF vs s v') pl' (updF ls s l') ∧ SideOk pre (pl' s) l' s ∧ (∀ t, t ≠ s → pl' t = pl t) ∧ l'.Perm (x :: ls s) ∧ OnlyS (QS b ids vs) w w' ∧ (v'.ownBlock = (vs s).ownBlock ∨ ∃ y, v'.ownBlock = some y ∧ z ≤ y)
set_option maxRecDepth 100000 in
set_option maxHeartbeats 2000000 in
theorem heapPush_any (q : QR w B b pre ids vs pl ls) (hs : s < 2) (ok : SideOk pre (pl s) (ls s) s) {x : Nat} (hx : x ∈ ids) (hxn : x ∉ ls s) (hl : (ls s).length < 100000) :
    Calls Try.prog 33 #[endI b s, .iface 69 (.pointer (some ⟨x, 0, none⟩))] w fun r w' => r = .returned (.tuple #[]) ∧ HPushR B b pre ids vs pl ls s x w.heap.size w w' := by
  have HP := Lib.hid (endPush_any q hs hx hl (z := w.heap.size) (Nat.le_refl _))
  have HOK := Lib.hid ok
  have HLT : Hid (∀ y, QS b ids vs y → y < w.heap.size) := fun y hy => q.lt hy
  have hmp := meth_push b s
  have hml := meth_len b s
  clear q ok
  go_enter Try.func33, Try.ntmps33
  go_wp2_with fail
  refine HP.out.mono ?_
  rintro r w2 ⟨rfl, v', q2, o2, hv⟩
  have hlen : ((updF ls s (ls s ++ [x])) s).length = (ls s).length + 1 := by rw [updF_same, List.length_append]; rfl
  have HL : Hid (Calls Try.prog 55 #[endV b s] w2 fun r w' => r = .returned (.int .i64 ((ls s).length + 1)) ∧ Below w2.heap.size w2 w') := by
    have h := endLen_any q2 hs
    rw [hlen] at h
    exact h
  have HU : Hid (∀ w3, Below w2.heap.size w2 w3 → Calls Try.prog 37 #[endI b s, .int .i64 (ls s).length] w3 fun r w' => r = .returned (.tuple #[]) ∧ ∃ pl' l', MvR B b pre ids (updF vs s v') (plPut pl s x (ls s).length) (updF ls s (ls s ++ [x])) s ((ls s).length + 1) w3 pl' l' w' ∧ HeapF (ltQ pre s) ((ls s).length + 1) (fun k => l'.getD k 0)) := fun w3 hb => by
    refine up_any (q2.later hb) hs ?_ ?_ (by rw [hlen]; exact Nat.le_refl _) (Nat.lt_succ_self _) ?_
    · rw [updF_same, List.nodup_append]
      exact ⟨HOK.out.nodup, by simp, fun y hy z hz => by simp at hz; subst hz; rintro rfl; exact hxn hy⟩
    · rw [updF_same]
      intro j hj
      rw [List.length_append, List.length_singleton] at hj
      unfold plPut
      rw [updF_same]
      by_cases e : j = (ls s).length
      · subst e
        rw [getD_snoc_eq, updF_same]
      · rw [getD_snoc_lt (by omega), updF_ne _ _ (fun e2 => hxn (by rw [← e2]; exact getD_mem (by omega)))]
        exact HOK.out.pos j (by omega)
    · rw [updF_same]
      exact heap_snoc (heapF_congr HOK.out.heap fun k hk => (getD_snoc_lt hk).symm)
  have O2 := Lib.hid o2
  have HV := Lib.hid hv
  clear q2 o2 hv hlen
  go_wp2_with fail
  refine HL.out.mono ?_
  rintro r w3 ⟨rfl, hb3⟩
  have HB3 := Lib.hid hb3
  go_wp2_with fail
  refine (HU.out w3 hb3).mono ?_
  rintro r w4 ⟨rfl, pl', l', m, hh⟩
  have HM := Lib.hid m
  have HH := Lib.hid hh
  clear hb3 m hh
  go_wp2
  refine bodyPost_end (results_none rfl _ _ _) rfl ⟨rfl, v', pl', l', ?_, ?_, ?_, ?_, ?_, HV.out⟩
  · have := HM.out.qr
    rw [updF_upd] at this
    exact this
  · have hp := HM.out.perm
    rw [updF_same] at hp
    have hl' : l'.length = (ls s).length + 1 := by rw [hp.length_eq, List.length_append]; rfl
    refine ⟨hp.nodup_iff.2 ?_, HM.out.pos, by rw [hl']; exact HH.out⟩
    rw [List.nodup_append]
    exact ⟨HOK.out.nodup, by simp, fun y hy z hz => by simp at hz; subst hz; rintro rfl; exact hxn hy⟩
  · intro t ht
    rw [HM.out.oth t ht]
    unfold plPut
    rw [updF_ne _ _ ht]
  · have hp := HM.out.perm
    rw [updF_same] at hp
    exact hp.trans (List.perm_append_singleton _ _)
  · refine (O2.out.trans (OnlyS.of_below HB3.out)).thenS HM.out.only fun y hy h => ?_
    rcases qs_upd hs HV.out h with h1 | h1
    · exact h1
    · omega
/-- What a pop leaves of a side. -/
def HPopR (B b : Nat) (pre : Nat → Txt) (ids : List Nat) (vs : Nat → Value) (pl : Nat → Nat → Int) (ls : Nat → List Nat) (s x : Nat) (w w' : World) : Prop :=
  ∃ v' pl' l', QR w' B b pre ids (updF vs s v') pl' (updF ls s l') ∧ SideOk pre (pl' s) l' s ∧ (∀ t, t ≠ s → pl' t = pl t) ∧ (x :: l').Perm (ls s) ∧ OnlyS (QS b ids vs) w w' ∧ v'.ownBlock = (vs s).ownBlock
/-- The last step: the last one is struck. -/
theorem hpop_end (a : MvR B b pre ids vs pl ls s n w pl1 l1 w') (hs : s < 2) {m : Nat} (hm : (ls s).length = m + 1) (hd : (ls s).Nodup) (hh : HeapF (ltQ pre s) m fun k => l1.getD k 0) {x : Nat} (hx : l1.getD m 0 = x) :
    Calls Try.prog 57 #[endV b s] w' fun r w'' => r = .returned (.iface 69 (.pointer (some ⟨x, 0, none⟩))) ∧ HPopR B b pre ids vs pl ls s x w w'' := by
  have hl : l1.length = m + 1 := a.len.trans hm
  refine (endPop_any a.qr hs (m := m) (by rw [updF_same]; exact hl)).mono ?_
  rintro r w'' ⟨rfl, v', q, o, hv⟩
  rw [updF_same] at q ⊢
  rw [updF_upd] at q
  obtain ⟨h1, h2⟩ := a.last hm hd hh
  rw [hx] at h2
  rw [hx]
  exact ⟨rfl, v', pl1, l1.dropLast, q, h1, a.oth, h2, a.only.trans o, hv⟩
set_option maxRecDepth 100000 in
set_option maxHeartbeats 2000000 in
theorem heapPop_any (q : QR w B b pre ids vs pl ls) (hs : s < 2) (ok : SideOk pre (pl s) (ls s) s) {m : Nat} (hm : (ls s).length = m + 1) :
    Calls Try.prog 35 #[endI b s] w fun r w' => r = .returned (.iface 69 (.pointer (some ⟨(ls s).getD 0 0, 0, none⟩))) ∧ HPopR B b pre ids vs pl ls s ((ls s).getD 0 0) w w' := by
  have hml := q.len s hs
  rw [hm] at hml
  have HL : Hid (Calls Try.prog 55 #[endV b s] w fun r w' => r = .returned (.int .i64 ((m : Int) + 1)) ∧ Below w.heap.size w w') := by
    have h := endLen_any q hs
    rw [hm] at h
    exact h
  have HS : Hid (∀ w2, Below w.heap.size w w2 → Calls Try.prog 59 #[endV b s, .int .i64 0, .int .i64 m] w2 fun r w' => r = .returned (.tuple #[]) ∧ ∃ pl1, MvR B b pre ids vs pl ls s (m + 1) w pl1 (swpL (ls s) 0 m) w') := fun w2 hb => by
    have M2 : MvR B b pre ids vs pl ls s (m + 1) w pl (ls s) w2 := (MvR.refl q ok.pos).later hb
    refine (endSwap_any (q.later hb) hs (i := 0) (k := m) (by omega) (by omega)).mono ?_
    rintro r w3 ⟨rfl, q3, o3⟩
    exact ⟨rfl, _, M2.swap hs ok.nodup (by omega) (by omega) (by omega) (by omega) (by rw [updF_id]; exact q3) o3⟩
  have HDN : Hid (∀ w3 pl1, MvR B b pre ids vs pl ls s (m + 1) w pl1 (swpL (ls s) 0 m) w3 → Calls Try.prog 38 #[endI b s, .int .i64 0, .int .i64 m] w3 fun r w' => ∃ d pl2 l2, r = .returned (.bool d) ∧ MvR B b pre ids vs pl ls s (m + 1) w pl2 l2 w' ∧ HeapF (ltQ pre s) m (fun k => l2.getD k 0) ∧ l2.getD m 0 = (ls s).getD 0 0) := fun w3 pl1 M3 => by
    refine (down_any M3.qr hs (n := m) (i0 := 0) (by rw [updF_same]; exact M3.nodup ok.nodup) (by rw [updF_same]; exact M3.pos) (by rw [updF_same, swpL_len]; omega) (Nat.zero_le _) ?_).mono ?_
    · rw [updF_same]
      refine holeF_congr (Nat.zero_le _) (heap_hole (ltQ_ord pre s) (n := m) (f := fun k => (ls s).getD k 0) (by have := ok.heap; rw [hm] at this; exact this) (i := 0)) fun k _ => (swpL_get (by omega) (by omega) k).symm
    · rintro r w4 ⟨d, pl2, l2, rfl, M4, h1, h2⟩
      refine ⟨d, pl2, l2, rfl, M3.trans M4 (by omega), ?_, ?_⟩
      · cases d
        · exact up_zero (h2 rfl)
        · exact h1 rfl
      · have := M4.rest m (Nat.le_refl _)
        rw [updF_same, swpL_get (by omega) (by omega), swpF_r] at this
        exact this
  have HE : Hid (∀ w4 pl2 l2, MvR B b pre ids vs pl ls s (m + 1) w pl2 l2 w4 → HeapF (ltQ pre s) m (fun k => l2.getD k 0) → l2.getD m 0 = (ls s).getD 0 0 → _) := fun w4 pl2 l2 h1 h2 h3 => hpop_end (w' := w4) h1 hs hm ok.nodup h2 h3
  have hmp := meth_pop b s
  have hmn := meth_len b s
  have hms := meth_swap b s
  clear q ok
  generalize (ls s).getD 0 0 = x0 at *
  go_enter Try.func35, Try.ntmps35
  go_wp2_with fail
  refine HL.out.mono ?_
  rintro r w2 ⟨rfl, hb2⟩
  go_wp2_with fail
  refine (HS.out w2 hb2).mono ?_
  rintro r w3 ⟨rfl, pl1, m3⟩
  have M3 := Lib.hid m3
  clear m3 hb2
  go_wp2_with fail
  refine (HDN.out w3 pl1 M3.out).mono ?_
  rintro r w4 ⟨d, pl2, l2, rfl, m4, h4, e4⟩
  have HEE := Lib.hid (HE.out w4 pl2 l2 m4 h4 e4)
  clear m4 h4 e4
  go_wp2_with fail
  refine HEE.out.mono ?_
  rintro r w5 ⟨rfl, h5⟩
  have H5 := Lib.hid h5
  clear h5
  go_wp2
  go_ret
  exact ⟨rfl, H5.out⟩
set_option maxRecDepth 100000 in
set_option maxHeartbeats 2000000 in
theorem heapRemove_any (q : QR w B b pre ids vs pl ls) (hs : s < 2) (ok : SideOk pre (pl s) (ls s) s) {i m : Nat} (hm : (ls s).length = m + 1) (hi : i ≤ m) :
    Calls Try.prog 36 #[endI b s, .int .i64 i] w fun r w' => r = .returned (.iface 69 (.pointer (some ⟨(ls s).getD i 0, 0, none⟩))) ∧ HPopR B b pre ids vs pl ls s ((ls s).getD i 0) w w' := by
  have hml := q.len s hs
  rw [hm] at hml
  have HL : Hid (Calls Try.prog 55 #[endV b s] w fun r w' => r = .returned (.int .i64 ((m : Int) + 1)) ∧ Below w.heap.size w w') := by
    have h := endLen_any q hs
    rw [hm] at h
    exact h
  have hmp := meth_pop b s
  have hmn := meth_len b s
  have hms := meth_swap b s
  have HE : Hid (∀ w4 n pl2 l2, MvR B b pre ids vs pl ls s n w pl2 l2 w4 → HeapF (ltQ pre s) m (fun k => l2.getD k 0) → l2.getD m 0 = (ls s).getD i 0 → _) := fun w4 n pl2 l2 h1 h2 h3 => hpop_end (n := n) (w' := w4) h1 hs hm ok.nodup h2 h3
  by_cases him : i = m
  · have HE2 : Hid (∀ w2, Below w.heap.size w w2 → _) := fun w2 hb => HE.out w2 (m + 1) pl (ls s) ((MvR.refl q ok.pos).later hb) (by have := ok.heap; rw [hm] at this; exact heap_less this) (by rw [him])
    have q0 : ((m : Int) == (i : Int)) = true := by simp [him]
    clear q ok him HE
    generalize (ls s).getD i 0 = x0 at *
    go_enter Try.func36, Try.ntmps36
    go_wp2_with fail
    refine HL.out.mono ?_
    rintro r w2 ⟨rfl, hb2⟩
    have HEE := Lib.hid (HE2.out w2 hb2)
    go_wp2_with fail
    refine HEE.out.mono ?_
    rintro r w5 ⟨rfl, h5⟩
    have H5 := Lib.hid h5
    clear h5
    go_wp2
    go_ret
    exact ⟨rfl, H5.out⟩
  have HS : Hid (∀ w2, Below w.heap.size w w2 → Calls Try.prog 59 #[endV b s, .int .i64 i, .int .i64 m] w2 fun r w' => r = .returned (.tuple #[]) ∧ ∃ pl1, MvR B b pre ids vs pl ls s (m + 1) w pl1 (swpL (ls s) i m) w') := fun w2 hb => by
    have M2 : MvR B b pre ids vs pl ls s (m + 1) w pl (ls s) w2 := (MvR.refl q ok.pos).later hb
    refine (endSwap_any (q.later hb) hs (i := i) (k := m) (by omega) (by omega)).mono ?_
    rintro r w3 ⟨rfl, q3, o3⟩
    exact ⟨rfl, _, M2.swap hs ok.nodup (by omega) (by omega) (by omega) (by omega) (by rw [updF_id]; exact q3) o3⟩
  have HDN : Hid (∀ w3 pl1, MvR B b pre ids vs pl ls s (m + 1) w pl1 (swpL (ls s) i m) w3 → Calls Try.prog 38 #[endI b s, .int .i64 i, .int .i64 m] w3 fun r w' => ∃ d pl2 l2, r = .returned (.bool d) ∧ MvR B b pre ids vs pl ls s (m + 1) w pl2 l2 w' ∧ (d = true → HeapF (ltQ pre s) m (fun k => l2.getD k 0)) ∧ (d = false → UpF (ltQ pre s) m (fun k => l2.getD k 0) i) ∧ l2.getD m 0 = (ls s).getD i 0) := fun w3 pl1 M3 => by
    refine (down_any M3.qr hs (n := m) (i0 := i) (by rw [updF_same]; exact M3.nodup ok.nodup) (by rw [updF_same]; exact M3.pos) (by rw [updF_same, swpL_len]; omega) hi ?_).mono ?_
    · rw [updF_same]
      refine holeF_congr hi (heap_hole (ltQ_ord pre s) (n := m) (f := fun k => (ls s).getD k 0) (by have := ok.heap; rw [hm] at this; exact this) (i := i)) fun k _ => (swpL_get (by omega) (by omega) k).symm
    · rintro r w4 ⟨d, pl2, l2, rfl, M4, h1, h2⟩
      refine ⟨d, pl2, l2, rfl, M3.trans M4 (by omega), h1, h2, ?_⟩
      have := M4.rest m (Nat.le_refl _)
      rw [updF_same, swpL_get (by omega) (by omega), swpF_r] at this
      exact this
  have HUP : Hid (∀ w4 pl2 l2, MvR B b pre ids vs pl ls s (m + 1) w pl2 l2 w4 → UpF (ltQ pre s) m (fun k => l2.getD k 0) i → l2.getD m 0 = (ls s).getD i 0 → Calls Try.prog 37 #[endI b s, .int .i64 i] w4 fun r w' => r = .returned (.tuple #[]) ∧ ∃ pl3 l3, MvR B b pre ids vs pl ls s (m + 1) w pl3 l3 w' ∧ HeapF (ltQ pre s) m (fun k => l3.getD k 0) ∧ l3.getD m 0 = (ls s).getD i 0) := fun w4 pl2 l2 M4 hu e4 => by
    refine (up_any M4.qr hs (n := m) (j := i) (by rw [updF_same]; exact M4.nodup ok.nodup) (by rw [updF_same]; exact M4.pos) (by rw [updF_same, M4.len]; omega) (by omega) (by rw [updF_same]; exact hu)).mono ?_
    rintro r w5 ⟨rfl, pl3, l3, M5, h5⟩
    refine ⟨rfl, pl3, l3, M4.trans M5 (by omega), h5, ?_⟩
    have := M5.rest m (Nat.le_refl _)
    rw [updF_same] at this
    exact this.trans e4
  have q0 : ((m : Int) == (i : Int)) = false := by rw [beq_eq_false_iff_ne]; omega
  clear q ok him
  generalize (ls s).getD i 0 = x0 at *
  go_enter Try.func36, Try.ntmps36
  go_wp2_with fail
  refine HL.out.mono ?_
  rintro r w2 ⟨rfl, hb2⟩
  go_wp2_with fail
  refine (HS.out w2 hb2).mono ?_
  rintro r w3 ⟨rfl, pl1, m3⟩
  have M3 := Lib.hid m3
  clear m3 hb2
  go_wp2_with fail
  refine (HDN.out w3 pl1 M3.out).mono ?_
  rintro r w4 ⟨d, pl2, l2, rfl, m4, h4, u4, e4⟩
  cases d
  · have HUU := Lib.hid (HUP.out w4 pl2 l2 m4 (u4 rfl) e4)
    clear m4 h4 u4 e4
    go_wp2_with fail
    refine HUU.out.mono ?_
    rintro r w5 ⟨rfl, pl3, l3, m5, h5, e5⟩
    have HEE := Lib.hid (HE.out w5 (m + 1) pl3 l3 m5 h5 e5)
    clear m5 h5 e5
    go_wp2_with fail
    refine HEE.out.mono ?_
    rintro r w6 ⟨rfl, h6⟩
    have H6 := Lib.hid h6
    clear h6
    go_wp2
    go_ret
    exact ⟨rfl, H6.out⟩
  · have HEE := Lib.hid (HE.out w4 (m + 1) pl2 l2 m4 (h4 rfl) e4)
    clear m4 h4 u4 e4
    go_wp2_with fail
    refine HEE.out.mono ?_
    rintro r w6 ⟨rfl, h6⟩
    have H6 := Lib.hid h6
    clear h6
    go_wp2
    go_ret
    exact ⟨rfl, H6.out⟩
end

end Go.Proofs.Ytoaejkfejdaiaaa
