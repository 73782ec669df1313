/- The law QueueTwo, walked. -/
import Derived.Test.YtkphdmfcmfojeaaQuAll
import Derived.BigRegion
import Derived.Deep.DeepCutAuto
namespace Go.Proofs.Ytkphdmfcmfojeaa
open Go.RowKit

/-- Two of a row of texts, swapped. -/
def swpT (l : List Txt) (i j : Nat) : List Txt := (l.set i (l.getD j [])).set j (l.getD i [])
theorem swpT_len (l : List Txt) (i j : Nat) : (swpT l i j).length = l.length := by simp [swpT]
theorem swpT_perm {l : List Txt} {i j : Nat} (hi : i < l.length) (hj : j < l.length) : (swpT l i j).Perm l := by
  have h := Array.swap_perm (xs := l.toArray) (i := i) (j := j) (by simpa using hi) (by simpa using hj)
  rw [List.swap_toArray] at h
  have h2 := Array.perm_iff_toList_perm.1 h
  simpa [swpT, List.getD, hi, hj] using h2
/-- A row of texts of the call's own, that is not empty. -/
structure TxtR (w : World) (g cap : Nat) (l : List Txt) : Prop where
  row : ∃ c, w.heap[g]? = some (.cells c 9 (0, 0)) ∧ c.size = cap ∧ l.length ≤ cap ∧ ∀ i, i < l.length → c[i]? = some (.string ⟨(l.getD i []).toArray⟩)
theorem TxtR.keep {w w' : World} {g cap : Nat} {l : List Txt} (t : TxtR w g cap l) (h : ∀ c : Array Value, w.heap[g]? = some (.cells c 9 (0, 0)) → w'.heap[g]? = w.heap[g]?) : TxtR w' g cap l := by
  obtain ⟨c, h1, h2⟩ := t.row
  exact ⟨⟨c, (h c h1).trans h1, h2⟩⟩
theorem TxtR.later {w w' : World} {g cap : Nat} {l : List Txt} (t : TxtR w g cap l) (hb : Below w.heap.size w w') : TxtR w' g cap l := t.keep fun _ h => hb.block g (Array.getElem?_eq_some_iff.1 h).1
theorem TxtR.cell {w : World} {g cap : Nat} {l : List Txt} (t : TxtR w g cap l) {i : Nat} (hi : i < l.length) : w.cell? ⟨g, i, none⟩ = some (.string ⟨(l.getD i []).toArray⟩) := by
  obtain ⟨c, h1, _, _, h4⟩ := t.row
  rw [cell_of_row w g i _ _ _ h1]
  exact h4 i hi
theorem TxtR.frozen {w : World} {g cap : Nat} {l : List Txt} (t : TxtR w g cap l) (i : Nat) : w.frozen? ⟨g, i, none⟩ = false := by
  obtain ⟨c, h1, _⟩ := t.row
  simp [World.frozen?, h1]
theorem TxtR.store {w : World} {g cap : Nat} {l : List Txt} (t : TxtR w g cap l) {i : Nat} (hi : i < l.length) (x : Txt) : TxtR (w.setCell ⟨g, i, none⟩ (.string ⟨x.toArray⟩)) g cap (l.set i x) := by
  obtain ⟨c, h1, h2, h3, h4⟩ := t.row
  refine ⟨⟨_, heap_setCell_same w g i _ _ _ h1, by simp [h2], by simpa using h3, fun k hk => ?_⟩⟩
  rw [List.length_set] at hk
  by_cases e : k = i
  · subst e
    simp [List.getD, hi, show k < c.size by omega]
  · have := h4 k hk
    simp only [List.getD] at *
    rw [List.getElem?_set_ne (Ne.symm e), Array.getElem?_setIfInBounds_ne (Ne.symm e)]
    exact this
theorem TxtR.lt {w : World} {g cap : Nat} {l : List Txt} (t : TxtR w g cap l) : g < w.heap.size := by
  obtain ⟨c, h1, _⟩ := t.row
  exact (Array.getElem?_eq_some_iff.1 h1).1
/-- Where a row of one's own lies, it is one. -/
theorem txtR_own {w : World} {B : Nat} {v : Value} {l : List Txt} (h : OwnRow w B 9 1 txtCell v l) (hn : l ≠ []) : ∃ g cap, v = .slice (some ⟨g, 0, none⟩) l.length cap ∧ B ≤ g ∧ TxtR w g cap l := by
  obtain ⟨h1, ⟨rfl, h3⟩ | ⟨g, cap, cur, h2, h3, h4, h5, h6, h7, h8⟩⟩ := h
  · exact absurd (List.eq_nil_of_length_eq_zero h3) hn
  · refine ⟨g, cap, h2, h3, ⟨⟨cur, h4, by omega, h5, fun i hi => ?_⟩⟩⟩
    rw [txts_ch, Nat.mul_one] at h8
    have : (cur.toList.take l.length)[i]? = some (.string ⟨l[i].toArray⟩) := by
      rw [h8]; simp [hi]
    rw [List.getElem?_take_of_lt hi] at this
    simp only [List.getD, List.getElem?_eq_getElem hi, Option.getD_some]
    simpa using this
/-- A copy of the list, in a row of the call's own, or nothing. -/
def OthV (w : World) (B : Nat) (oa : Option Addr) (oc : Nat) (ot : List Txt) : Prop := ot ≠ [] → ∃ g, oa = some ⟨g, 0, none⟩ ∧ B ≤ g ∧ TxtR w g oc ot
/-- Of two queues with the same texts the same one is taken. -/
theorem same_deep {Ta Tb Ta' Tb' : List Txt} {ka kb : Txt} (p : Ta.Perm Tb) (pa : (ka :: Ta').Perm Ta) (pb : (kb :: Tb').Perm Tb) (ha : ∀ y ∈ Ta, aheadT y ka = false) (hb : ∀ y ∈ Tb, aheadT y kb = false) : ka = kb ∧ Ta'.Perm Tb' := by
  have h1 : ka ∈ Tb := p.subset (pa.subset (List.mem_cons_self))
  have h2 : kb ∈ Ta := p.symm.subset (pb.subset (List.mem_cons_self))
  have e : ka = kb := aheadT_eq (hb ka h1) (ha kb h2)
  subst e
  exact ⟨rfl, (pa.trans (p.trans pb.symm)).cons_inv⟩
theorem same_last {Ta Tb Ta' Tb' : List Txt} {ka kb : Txt} (p : Ta.Perm Tb) (pa : (ka :: Ta').Perm Ta) (pb : (kb :: Tb').Perm Tb) (ha : ∀ y ∈ Ta, aheadT ka y = false) (hb : ∀ y ∈ Tb, aheadT kb y = false) : ka = kb ∧ Ta'.Perm Tb' := by
  have h1 : ka ∈ Tb := p.subset (pa.subset (List.mem_cons_self))
  have h2 : kb ∈ Ta := p.symm.subset (pb.subset (List.mem_cons_self))
  have e : ka = kb := aheadT_eq (ha kb h2) (hb ka h1)
  subst e
  exact ⟨rfl, (pa.trans (p.trans pb.symm)).cons_inv⟩
/-- What the law's pushes and takes leave: two queues that touch nothing of one another's. -/
structure TwoI (w : World) (a b : Nat) (Ta Tb : List Txt) (Sa Sb : Nat → Prop) (wr : World) : Prop where
  qa : QU wr a a Sa Ta
  qb : QU wr b b Sb Tb
  apart : ∀ x, Sa x → ¬ Sb x
  below : Below w.heap.size w wr
  la : w.heap.size ≤ a
  lb : w.heap.size ≤ b
section
variable {w wr w' : World} {a b : Nat} {Ta Tb T : List Txt} {Sa Sb S' : Nat → Prop}
theorem TwoI.pushA (h : TwoI w a b Ta Tb Sa Sb wr) (q : QU w' a a S' T) (o : OnlyS Sa wr w') (hs : ∀ x, S' x → Sa x ∨ wr.heap.size ≤ x) : TwoI w a b T Tb S' Sb w' :=
  ⟨q, h.qb.onlyS o fun x hx hy => h.apart x hy hx, fun x hx hy => by
    rcases hs x hx with h1 | h1
    · exact h.apart x h1 hy
    · have := h.qb.lt hy; omega, h.below.trans (h.qa.only h.la o), h.la, h.lb⟩
theorem TwoI.pushB (h : TwoI w a b Ta Tb Sa Sb wr) (q : QU w' b b S' T) (o : OnlyS Sb wr w') (hs : ∀ x, S' x → Sb x ∨ wr.heap.size ≤ x) : TwoI w a b Ta T Sa S' w' :=
  ⟨h.qa.onlyS o fun x hx hy => h.apart x hx hy, q, fun x hx hy => by
    rcases hs x hy with h1 | h1
    · exact h.apart x hx h1
    · have := h.qa.lt hx; omega, h.below.trans (h.qb.only h.lb o), h.la, h.lb⟩
theorem TxtR.onlyQ {g cap : Nat} {l : List Txt} (t : TxtR wr g cap l) {B c : Nat} {S : Nat → Prop} (q : QU wr B c S T) (o : OnlyS S wr w') : TxtR w' g cap l := t.keep fun _ h => o.block g (Array.getElem?_eq_some_iff.1 h).1 (q.not_row h (by decide) (by decide) (by decide))
end
set_option maxRecDepth 100000 in
set_option maxHeartbeats 8000000 in
theorem queueTwo_any (la : Option Addr) (ll : List Txt) (lc : Nat) (ta : Option Addr) (tl : List Nat) (tc : Nat) (ba : Option Addr) (bl : List Bool) (bc : Nat) (w : World) (hll : RowAt w la 1 txtCell ll) (hln : la = none → lc = 0) (hls : ∀ y ∈ ll, y.length ≤ 281474976710656) (htl : RowAt w ta 1 byCell tl) (ht8 : ∀ n ∈ tl, n < 256) (hbl : RowAt w ba 1 boolCell bl) :
    Calls Try.prog 9 #[.slice la ll.length lc, .slice ta tl.length tc, .slice ba bl.length bc] w fun r w' => r = .returned (.bool true) ∧ Below w.heap.size w w' := by
  have HLL : Hid (∀ W, Below w.heap.size w W → RowAt W la 1 txtCell ll) := fun W hb => hll.later hb
  have HBL : Hid (∀ W, Below w.heap.size w W → RowAt W ba 1 boolCell bl) := fun W hb => hbl.later hb
  have HTL : Hid (∀ W, Below w.heap.size w W → RowAt W ta 1 byCell tl) := fun W hb => htl.later hb
  have HT8 := Lib.hid ht8
  have HLS := Lib.hid hls
  clear hll hbl htl ht8 hls
  go_enter Try.func9, Try.ntmps9
  go_wp2_with fail
  refine (awake11_any w).mono ?_
  rintro r W2 ⟨rfl, hb2⟩
  by_cases h100 : 100 < ll.length
  · have q3 : decide ((100 : Int) < (ll.length : Int)) = true := decide_eq_true (by omega)
    go_wp2_with fail
    refine (awake11_any _).mono ?_
    rintro r w3 ⟨rfl, hb3⟩
    go_wp2
    go_ret
    exact ⟨rfl, hb2.trans (hb3.mono hb2.size)⟩
  have q3 : decide ((100 : Int) < (ll.length : Int)) = false := decide_eq_false (by omega)
  by_cases h101 : 100 < tl.length
  · have q4 : decide ((100 : Int) < (tl.length : Int)) = true := decide_eq_true (by omega)
    go_wp2_with fail
    refine (awake11_any _).mono ?_
    rintro r w3 ⟨rfl, hb3⟩
    go_wp2
    go_ret
    exact ⟨rfl, hb2.trans (hb3.mono hb2.size)⟩
  have q4 : decide ((100 : Int) < (tl.length : Int)) = false := decide_eq_false (by omega)
  by_cases h102 : 100 < bl.length
  · have q5 : decide ((100 : Int) < (bl.length : Int)) = true := decide_eq_true (by omega)
    go_wp2_with fail
    refine (awake11_any _).mono ?_
    rintro r w3 ⟨rfl, hb3⟩
    go_wp2
    go_ret
    exact ⟨rfl, hb2.trans (hb3.mono hb2.size)⟩
  have q5 : decide ((100 : Int) < (bl.length : Int)) = false := decide_eq_false (by omega)
  have hl100 : ll.length ≤ 100 := by omega
  have ht100 : tl.length ≤ 100 := by omega
  have hb100 : bl.length ≤ 100 := by omega
  clear h100 h101 h102
  have HB2 := Lib.hid hb2
  clear hb2
  go_upto_region 3 with (fail)
  go_cut [7] (fun v wx => ∃ (oa : Option Addr) (oc : Nat), v = .slice oa ll.length oc ∧ Hid (OthV wx W2.heap.size oa oc ll) ∧ Hid (Below W2.heap.size W2 wx))
  case first =>
    have HBA : Hid (Below W2.heap.size W2 (W2.alloc (.cells #[] 9))) := below_alloc1 _ _
    by_cases h0 : ll = []
    · subst h0
      cases la with
      | none =>
        obtain rfl := hln rfl
        go_wp2_with fail
        go_meet
        exact ⟨_, _, rfl, fun h => absurd rfl h, HBA.out⟩
      | some ad =>
        go_wp2_with fail
        go_meet
        exact ⟨_, _, rfl, fun h => absurd rfl h, HBA.out⟩
    · obtain ⟨b, o, rfl, hc⟩ := (HLL.out _ HB2.out).2 h0
      have hi := infoTxt
      obtain ⟨i, hi, hzz⟩ := Option.map_eq_some_iff.1 hi
      simp only [Prod.mk.injEq] at hzz
      obtain ⟨hiz, hisz, hiby⟩ := hzz
      have hown0 : OwnRow (W2.alloc (.cells #[] 9)) W2.heap.size 9 1 txtCell (.slice (some ⟨W2.heap.size, 0, none⟩) 0 0) [] := ⟨rfl, .inr ⟨W2.heap.size, 0, #[], rfl, Nat.le_refl _, heap_alloc_new W2 _, Nat.le_refl _, by simp [maxLen], rfl, rfl⟩⟩
      have hnews : ∀ j u, (cellsL txtCell ll)[j]? = some u → (W2.alloc (.cells #[] 9)).cell? (Addr.add ⟨b, o, none⟩ j) = some u := fun j u hu => by
        have hj : j < ll.length := by have := (List.getElem?_eq_some_iff.1 hu).1; rw [cellsL_length txtCell_len] at this; omega
        have h1 := cellsL_get txtCell_len ll j 0 hj (by omega)
        rw [Nat.mul_one, Nat.add_zero] at h1
        rw [h1] at hu
        have h2 := hc j hj 0 u hu
        rw [add_row]
        rw [Nat.mul_one, Nat.add_zero] at h2
        exact cell_later (below_alloc1 W2 _) h2
      have hone := cellsL_one txtCell_one ll
      have HNE := Lib.hid h0
      go_wp2_with (at_builtin; refine wpList_append_own _ rfl (.tmp 38) (.tmp 39) 76 rfl W2.heap.size 9 i (.string ByteArray.empty) 1 16 Try.underlying76 hi hiz hisz hiby rfl (by omega) _ 0 [] rfl hown0 ⟨b, o, none⟩ ll.length lc (cellsL txtCell ll) rfl (by rw [cellsL_length txtCell_len]) hnews hone (by unfold maxLen; omega) (by omega) (by rw [World.size_alloc]; omega) ?_; intro v7 w7 hown7 hg7 _)
      have hown8 : OwnRow w7 W2.heap.size 9 1 txtCell v7 ll := by
        rw [Nat.zero_add, List.nil_append] at hown7
        exact hown7
      obtain ⟨g, cap, rfl, hgB, ht⟩ := txtR_own hown8 HNE.out
      have hb7 : Below W2.heap.size W2 w7 := HBA.out.grown hg7 (by rw [World.size_alloc]; omega) fun k hk => by
        have : (Value.slice (some ⟨W2.heap.size, 0, none⟩) 0 0).ownBlock = some k := hk
        simp [Value.ownBlock] at this
        omega
      go_meet
      exact ⟨_, _, rfl, fun _ => ⟨g, rfl, hgB, ht⟩, hb7⟩
  case rest =>
    obtain ⟨oa, oc, rfl, HOV, HBC⟩ := hcut
    generalize wc = W3 at *
    go_wp2_with fail
    go_loopw [8, 9, 10, 43] (fun _ _ _ i wr => ∃ (j : Nat) (ot : List Txt), j ≤ tl.length ∧ i = .int .i64 j ∧ Hid (ot.Perm ll) ∧ Hid (OthV wr W2.heap.size oa oc ot) ∧ Hid (Below W2.heap.size W2 wr)) (fun _ _ _ i _ => tl.length - (intOf i).toNat)
    case atStart => exact ⟨0, ll, Nat.zero_le _, rfl, List.Perm.refl _, HOV, HBC⟩
    case round =>
      clear HOV HBC
      obtain ⟨j, ot, hj, rfl, HP, HOV, HBC⟩ := hrel
      have HBW : Hid (Below w.heap.size w wr) := HB2.out.trans (HBC.out.mono HB2.out.size)
      by_cases hlt : j < tl.length
      · obtain ⟨tb, to_, rfl, ht0⟩ := (HTL.out _ HBW.out).2 (by intro e; rw [e] at hlt; exact absurd hlt (Nat.not_lt_zero _))
        have e0 := ht0 j hlt 0 _ rfl
        rw [Nat.mul_one, Nat.add_zero] at e0
        have hb8 := HT8.out _ (List.getElem_mem hlt)
        generalize tl[j] = tv at *
        have hcv : IntKind.i64.wrap (tv : Int) = tv := IntWalk.i64_in _ (by omega)
        clear ht0
        by_cases hjl : j < ll.length
        · have hol : ot.length = ll.length := HP.out.length_eq
          have hne : ot ≠ [] := fun e => by rw [e] at hol; simp at hol; omega
          obtain ⟨g, rfl, hgB, ht⟩ := HOV.out hne
          obtain ⟨k, hk⟩ : ∃ k, k = tv % ll.length := ⟨_, rfl⟩
          have hkl : k < ll.length := by rw [hk]; exact Nat.mod_lt _ (by omega)
          have htm : ((tv : Nat) : Int).tmod (ll.length : Int) = (k : Nat) := by rw [hk]; rfl
          have hn0 : ((ll.length : Int) == 0) = false := by rw [beq_eq_false_iff_ne]; omega
          have hqj : decide ((j : Int) < (ll.length : Int)) = true := decide_eq_true (by omega)
          have cj := ht.cell (i := j) (by omega)
          have ck := ht.cell (i := k) (by omega)
          have fj := ht.frozen j
          have fk := ht.frozen k
          have hkk : (k : Int) < ll.length := by omega
          have hck2 : (wr.setCell ⟨g, j, none⟩ (.string ⟨(ot.getD k []).toArray⟩)).cell? ⟨g, k, none⟩ = some (.string ⟨(ot.getD k []).toArray⟩) := by
            have h1 := (ht.store (i := j) (by omega) (ot.getD k [])).cell (i := k) (by rw [List.length_set]; omega)
            by_cases e : k = j
            · subst e
              simp only [List.getD, List.getElem?_set_self (by omega : k < ot.length), Option.getD_some] at h1 ⊢
              exact h1
            · simp only [List.getD, List.getElem?_set_ne (Ne.symm e)] at h1 ⊢
              exact h1
          have HTS : Hid (TxtR (((wr.setCell ⟨g, j, none⟩ (.string ⟨(ot.getD k []).toArray⟩)).setCell ⟨g, k, none⟩ (.string ⟨(ot.getD j []).toArray⟩)).drew) g oc (swpT ot j k)) := ((ht.store (i := j) (by omega) _).store (i := k) (by rw [List.length_set]; omega) _).keep fun _ _ => rfl
          have HBS : Hid (Below W2.heap.size W2 (((wr.setCell ⟨g, j, none⟩ (.string ⟨(ot.getD k []).toArray⟩)).setCell ⟨g, k, none⟩ (.string ⟨(ot.getD j []).toArray⟩)).drew)) := ((HBC.out.setCell (p := ⟨g, j, none⟩) hgB _).setCell (p := ⟨g, k, none⟩) hgB _).drew
          have HP2 : Hid ((swpT ot j k).Perm ll) := (swpT_perm (by omega) (by omega)).trans HP.out
          have HGB := Lib.hid hgB
          clear ht hne hol hk hgB
          generalize ot.getD k [] = y at *
          generalize ot.getD j [] = x at *
          generalize swpT ot j k = ot2 at *
          generalize ll.length = n at *
          go_wp2_with fail
          go_region
          go_wp2_with fail
          go_roundw
          case rel => exact ⟨j + 1, ot2, by omega, by go_num, HP2, fun _ => ⟨g, rfl, HGB.out, HTS.out⟩, HBS.out⟩
          case measure => simp [intOf]; omega
        · have hqj : decide ((j : Int) < (ll.length : Int)) = false := decide_eq_false (by omega)
          go_wp2_with fail
          go_roundw
          case rel => exact ⟨j + 1, ot, by omega, by go_num, HP, HOV, HBC⟩
          case measure => simp [intOf]; omega
      · obtain rfl : j = tl.length := by omega
        go_wp2_with fail
        refine (qNew_any wr).mono ?_
        rintro r W4 ⟨rfl, hb4, Sa, qa, hSa⟩
        go_wp2_with fail
        refine (qNew_any W4).mono ?_
        rintro r W5 ⟨rfl, hb5, Sb, qb, hSb⟩
        have HT0 : Hid (TwoI w wr.heap.size W4.heap.size (ll.take 0).reverse (ot.take 0).reverse Sa Sb W5) := by
          have hb6 := HBW.out.trans (hb4.mono HBW.out.size)
          refine ⟨qa.later hb5, qb, fun x hx hy => ?_, hb6.trans (hb5.mono hb6.size), HBW.out.size, hb6.size⟩
          have h1 := qa.lt hx
          have h2 := hSb x hy
          omega
        have HO0 : Hid (OthV W5 W2.heap.size oa oc ot) := fun hne => by
          obtain ⟨g, e, h1, h2⟩ := HOV.out hne
          exact ⟨g, e, h1, (h2.later hb4).later hb5⟩
        clear hb4 hb5 hSa hSb qa qb HOV HBC HBW hlt hj
        generalize wr.heap.size = a at *
        generalize W4.heap.size = b at *
        go_wp2_with fail
        go_loopw [13, 76] (fun _ i wr => ∃ (j : Nat) (Sa Sb : Nat → Prop), j ≤ ll.length ∧ i = .int .i64 j ∧ Hid (TwoI w a b (ll.take j).reverse (ot.take j).reverse Sa Sb wr) ∧ Hid (OthV wr W2.heap.size oa oc ot)) (fun _ i _ => ll.length - (intOf i).toNat)
        case atStart => exact ⟨0, Sa, Sb, Nat.zero_le _, rfl, HT0, HO0⟩
        case round =>
          clear HT0 HO0
          obtain ⟨j, Sa, Sb, hj, rfl, HT, HO⟩ := hrel
          by_cases hlt : j < ll.length
          · obtain ⟨pb, o, rfl, e0⟩ := (HLL.out _ HT.out.below).txt hlt
            have hqs : (⟨ll[j].toArray⟩ : ByteArray).size = ll[j].length := by simp [ByteArray.size]
            have HN1 : Hid ((ll.take (j + 1)).reverse = ll[j] :: (ll.take j).reverse) := by
              show _ = _
              rw [List.take_succ_eq_append_getElem hlt, List.reverse_append]; rfl
            have hol : ot.length = ll.length := HP.out.length_eq
            have HN2 : Hid ((ot.take (j + 1)).reverse = ot.getD j [] :: (ot.take j).reverse) := by
              show _ = _
              rw [List.take_succ_eq_append_getElem (by omega), List.reverse_append]
              simp [List.getD, show j < ot.length by omega]
            have hne : ot ≠ [] := fun e => by rw [e] at hol; simp at hol; omega
            obtain ⟨g, rfl, hgB, ht⟩ := HO.out hne
            have hyl : (ot.getD j []).length ≤ 281474976710656 := HLS.out _ (HP.out.subset (by simp [List.getD, show j < ot.length by omega]))
            have htl1 : ((ll.take j).reverse).length ≤ 100 := by rw [List.length_reverse, List.length_take]; omega
            have htl2 : ((ot.take j).reverse).length ≤ 100 := by rw [List.length_reverse, List.length_take]; omega
            have HXC : Hid (∀ W, Below w.heap.size w W → W.cell? ⟨pb, o + j, none⟩ = some (.string ⟨ll[j].toArray⟩)) := fun W hbW => by
              obtain ⟨b', o', e', c'⟩ := (HLL.out W hbW).txt hlt
              injection e' with e'
              injection e' with e1 e2
              subst e1 e2
              exact c'
            have HTR := Lib.hid ht
            have HGB := Lib.hid hgB
            have hjj : j < ot.length := by omega
            clear ht hgB hne hol
            generalize ll[j] = x at *
            by_cases h100 : 100 < x.length
            · have q100 : decide ((100 : Int) < (x.length : Int)) = true := decide_eq_true (by omega)
              have HB := Lib.hid HT.out.below
              go_wp2
              go_ret
              exact ⟨rfl, HB.out⟩
            have q100 : decide ((100 : Int) < (x.length : Int)) = false := decide_eq_false (by omega)
            have HPA := Lib.hid (qPush_any HT.out.qa x (by omega) (by omega))
            have HTL2 := Lib.hid htl2
            clear h100 htl1 htl2
            go_wp2_with fail
            refine HPA.out.mono ?_
            rintro r W7 ⟨rfl, Sa2, qa7, oa7, sa7⟩
            have HTR7 := Lib.hid (HTR.out.onlyQ HT.out.qa oa7)
            have HT7 := Lib.hid (HT.out.pushA qa7 oa7 sa7)
            have hcy := HTR7.out.cell (i := j) hjj
            have HPB := Lib.hid (qPush_any HT7.out.qb (ot.getD j []) hyl (by have := HTL2.out; omega))
            clear qa7 oa7 sa7 e0
            generalize ot.getD j [] = y at *
            have hjn : (j : Int) < (ll.length : Int) := by omega
            go_wp2_with fail
            refine HPB.out.mono ?_
            rintro r W8 ⟨rfl, Sb2, qb8, ob8, sb8⟩
            have HTR8 := Lib.hid (HTR7.out.onlyQ HT7.out.qb ob8)
            have HT8 := Lib.hid (HT7.out.pushB qb8 ob8 sb8)
            rw [← HN1.out, ← HN2.out] at HT8
            clear qb8 ob8 sb8 hcy
            go_wp2_with fail
            go_roundw
            case rel => exact ⟨j + 1, Sa2, Sb2, by omega, by go_num, HT8, fun _ => ⟨g, rfl, HGB.out, HTR8.out⟩⟩
            case measure => simp [intOf]; omega
          · obtain rfl : j = ll.length := by omega
            have hol : ot.length = ll.length := HP.out.length_eq
            have HTP0 : Hid (((ll.take ll.length).reverse).Perm ((ot.take ll.length).reverse)) := by
              rw [List.take_length, List.take_of_length_le (by omega)]
              exact (List.reverse_perm ll).trans (HP.out.symm.trans (List.reverse_perm ot).symm)
            clear hol HO hlt hj
            generalize (ll.take ll.length).reverse = Ta at *
            generalize (ot.take ll.length).reverse = Tb at *
            go_wp2_with fail
            go_loopw [15, 16, 17, 18, 19, 100] (fun _ _ _ _ _ i wr => ∃ (q : Nat) (Ta Tb : List Txt) (Sa Sb : Nat → Prop), q ≤ bl.length ∧ i = .int .i64 q ∧ Hid (Ta.Perm Tb) ∧ Hid (TwoI w a b Ta Tb Sa Sb wr)) (fun _ _ _ _ _ i _ => bl.length - (intOf i).toNat)
            case atStart => exact ⟨0, Ta, Tb, Sa, Sb, Nat.zero_le _, rfl, HTP0, HT⟩
            case round =>
              clear HT HTP0
              obtain ⟨q, Ta, Tb, Sa, Sb, hq, rfl, HTP, HT⟩ := hrel
              by_cases hlt : q < bl.length
              · obtain ⟨pb, o, rfl, e0⟩ := (HBL.out _ HT.out.below).bool hlt
                cases hTe : Ta with
                | nil =>
                  subst hTe
                  have hTb0 : Tb = [] := List.eq_nil_of_length_eq_zero (by rw [← HTP.out.length_eq]; rfl)
                  subst hTb0
                  cases hst : bl[q]
                  · rw [hst] at e0
                    clear hst
                    have HPA := Lib.hid (qSteal_none HT.out.qa)
                    have HPB := Lib.hid (qSteal_none HT.out.qb)
                    have HLA := Lib.hid (qLen_any HT.out.qa)
                    have HLB := Lib.hid (qLen_any HT.out.qb)
                    go_wp2_with fail
                    refine HPA.out.mono ?_
                    rintro r w' ⟨rfl, rfl⟩
                    go_wp2_with fail
                    refine HPB.out.mono ?_
                    rintro r w' ⟨rfl, rfl⟩
                    go_wp2_with fail
                    refine HLA.out.mono ?_
                    rintro r w' ⟨rfl, rfl⟩
                    go_wp2_with fail
                    refine HLB.out.mono ?_
                    rintro r w' ⟨rfl, rfl⟩
                    go_wp2_with fail
                    go_roundw
                    case rel => exact ⟨q + 1, [], [], _, _, by omega, by go_num, List.Perm.refl _, HT⟩
                    case measure => simp [intOf]; omega
                  · rw [hst] at e0
                    clear hst
                    have HPA := Lib.hid (qPop_none HT.out.qa)
                    have HPB := Lib.hid (qPop_none HT.out.qb)
                    have HLA := Lib.hid (qLen_any HT.out.qa)
                    have HLB := Lib.hid (qLen_any HT.out.qb)
                    go_wp2_with fail
                    refine HPA.out.mono ?_
                    rintro r w' ⟨rfl, rfl⟩
                    go_wp2_with fail
                    refine HPB.out.mono ?_
                    rintro r w' ⟨rfl, rfl⟩
                    go_wp2_with fail
                    refine HLA.out.mono ?_
                    rintro r w' ⟨rfl, rfl⟩
                    go_wp2_with fail
                    refine HLB.out.mono ?_
                    rintro r w' ⟨rfl, rfl⟩
                    go_wp2_with fail
                    go_roundw
                    case rel => exact ⟨q + 1, [], [], _, _, by omega, by go_num, List.Perm.refl _, HT⟩
                    case measure => simp [intOf]; omega
                | cons ya Tl =>
                  have hTa : Ta ≠ [] := by rw [hTe]; simp
                  have hTb : Tb ≠ [] := fun e => by have := HTP.out.length_eq; rw [e, hTe] at this; simp at this
                  clear hTe
                  cases hst : bl[q]
                  · rw [hst] at e0
                    clear hst
                    have HPA := Lib.hid (qSteal_any HT.out.qa hTa)
                    go_wp2_with fail
                    refine HPA.out.mono ?_
                    rintro r W7 ⟨ka, Ta', rfl, pa, xa, qa, oa7⟩
                    have HT7 := Lib.hid (HT.out.pushA qa oa7 (fun x hx => .inl hx))
                    have HPB := Lib.hid (qSteal_any HT7.out.qb hTb)
                    have HPP := Lib.hid pa
                    have HXA := Lib.hid xa
                    clear pa xa qa oa7
                    go_wp2_with fail
                    refine HPB.out.mono ?_
                    rintro r W8 ⟨kb, Tb', rfl, pb, xb, qb, ob8⟩
                    have HT8 := Lib.hid (HT7.out.pushB qb ob8 (fun x hx => .inl hx))
                    obtain ⟨hkk, hpp⟩ := same_last HTP.out HPP.out pb HXA.out xb
                    subst hkk
                    have HTP8 := Lib.hid hpp
                    have HLA := Lib.hid (qLen_any HT8.out.qa)
                    have HLB := Lib.hid (qLen_any HT8.out.qb)
                    rw [hpp.length_eq] at HLA
                    clear pb xb qb ob8 hpp
                    go_wp2_with fail
                    refine HLA.out.mono ?_
                    rintro r w' ⟨rfl, rfl⟩
                    go_wp2_with fail
                    refine HLB.out.mono ?_
                    rintro r w' ⟨rfl, rfl⟩
                    go_wp2_with fail
                    go_roundw
                    case rel => exact ⟨q + 1, Ta', Tb', _, _, by omega, by go_num, HTP8, HT8⟩
                    case measure => simp [intOf]; omega
                  · rw [hst] at e0
                    clear hst
                    have HPA := Lib.hid (qPop_any HT.out.qa hTa)
                    go_wp2_with fail
                    refine HPA.out.mono ?_
                    rintro r W7 ⟨ka, Ta', rfl, pa, xa, qa, oa7⟩
                    have HT7 := Lib.hid (HT.out.pushA qa oa7 (fun x hx => .inl hx))
                    have HPB := Lib.hid (qPop_any HT7.out.qb hTb)
                    have HPP := Lib.hid pa
                    have HXA := Lib.hid xa
                    clear pa xa qa oa7
                    go_wp2_with fail
                    refine HPB.out.mono ?_
                    rintro r W8 ⟨kb, Tb', rfl, pb, xb, qb, ob8⟩
                    have HT8 := Lib.hid (HT7.out.pushB qb ob8 (fun x hx => .inl hx))
                    obtain ⟨hkk, hpp⟩ := same_deep HTP.out HPP.out pb HXA.out xb
                    subst hkk
                    have HTP8 := Lib.hid hpp
                    have HLA := Lib.hid (qLen_any HT8.out.qa)
                    have HLB := Lib.hid (qLen_any HT8.out.qb)
                    rw [hpp.length_eq] at HLA
                    clear pb xb qb ob8 hpp
                    go_wp2_with fail
                    refine HLA.out.mono ?_
                    rintro r w' ⟨rfl, rfl⟩
                    go_wp2_with fail
                    refine HLB.out.mono ?_
                    rintro r w' ⟨rfl, rfl⟩
                    go_wp2_with fail
                    go_roundw
                    case rel => exact ⟨q + 1, Ta', Tb', _, _, by omega, by go_num, HTP8, HT8⟩
                    case measure => simp [intOf]; omega
              · obtain rfl : q = bl.length := by omega
                have HB := Lib.hid HT.out.below
                go_wp2
                go_ret
                exact ⟨rfl, HB.out⟩
end Go.Proofs.Ytkphdmfcmfojeaa
