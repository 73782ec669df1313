/- The law QueuePlays, walked. -/
import Derived.Test.YtkphdmfcmfojeaaQuWake
import Derived.Deep.DeepCutAuto
import Derived.Deep.CutBlock
import Derived.BigQuiet
namespace Go.Proofs.Ytkphdmfcmfojeaa
open Go.RowKit

/-- A slice of texts, wherever in a row of the call's own it begins. -/
structure TxtV (w : World) (B : Nat) (v : Value) (l : List Txt) : Prop where
  form : ∃ a cap, v = .slice a l.length cap ∧ l.length ≤ cap ∧ (l ≠ [] → ∃ g o c, a = some ⟨g, o, none⟩ ∧ B ≤ g ∧ w.heap[g]? = some (.cells c 9 (0, 0)) ∧ ∀ i (h : i < l.length), c[o + i]? = some (.string ⟨l[i].toArray⟩))
theorem txtV_nil (w : World) (B : Nat) : TxtV w B (.slice none 0 0) [] := ⟨⟨none, 0, rfl, Nat.le_refl _, fun h => absurd rfl h⟩⟩
theorem TxtV.keep {w w' : World} {B : Nat} {v : Value} {l : List Txt} (t : TxtV w B v l) (h : ∀ (g : Nat) (c : Array Value), w.heap[g]? = some (.cells c 9 (0, 0)) → w'.heap[g]? = w.heap[g]?) : TxtV w' B v l := by
  obtain ⟨a, cap, e, hc, hr⟩ := t.form
  refine ⟨a, cap, e, hc, fun hn => ?_⟩
  obtain ⟨g, o, c, e1, e2, e3, e4⟩ := hr hn
  exact ⟨g, o, c, e1, e2, (h g c e3).trans e3, e4⟩
theorem TxtV.later {w w' : World} {B : Nat} {v : Value} {l : List Txt} (t : TxtV w B v l) (hb : Below w.heap.size w w') : TxtV w' B v l := t.keep fun g _ h => hb.block g (Array.getElem?_eq_some_iff.1 h).1
theorem txts_ch (l : List Txt) : cellsL txtCell l = l.map fun k => Value.string ⟨k.toArray⟩ := by
  induction l with
  | nil => rfl
  | cons a l ih => show txtCell a ++ cellsL txtCell l = _; rw [ih]; rfl
theorem txtV_own {w : World} {B : Nat} {v : Value} {l : List Txt} (h : OwnRow w B 9 1 txtCell v l) : TxtV w B v l := by
  obtain ⟨h1, ⟨rfl, h3⟩ | ⟨g, cap, cur, h2, h3, h4, h5, h6, h7, h8⟩⟩ := h
  · have e : l = [] := List.eq_nil_of_length_eq_zero h3
    subst e
    exact txtV_nil _ _
  · refine ⟨_, cap, h2, h5, fun _ => ⟨g, 0, cur, rfl, h3, h4, fun i hi => ?_⟩⟩
    rw [txts_ch, Nat.mul_one] at h8
    have : (cur.toList.take l.length)[i]? = some (.string ⟨l[i].toArray⟩) := by
      rw [h8]; simp [hi]
    rw [List.getElem?_take_of_lt hi] at this
    rw [Nat.zero_add]
    simpa using this
theorem TxtV.row {w : World} {B : Nat} {a : Option Addr} {cap n : Nat} {l : List Txt} (t : TxtV w B (.slice a n cap) l) (hl : l.length ≤ 1000) : RowAt w a 1 txtCell l := by
  obtain ⟨a', cap', e, hc, hr⟩ := t.form
  injection e with e1 e2 e3
  subst e1 e3
  refine ⟨by unfold maxLen; omega, fun hn => ?_⟩
  obtain ⟨g, o, c, e1, e2, e3, e4⟩ := hr hn
  refine ⟨g, o, e1, fun i hi j u hu => ?_⟩
  have hj : j < 1 := (List.getElem?_eq_some_iff.1 hu).1
  obtain rfl : j = 0 := by omega
  simp [txtCell] at hu
  subst hu
  rw [cell_of_row w g _ _ _ _ e3, Nat.mul_one, Nat.add_zero]
  exact e4 i hi
theorem RowAt.qop {w : World} {a : Option Addr} {l : List QOp} (h : RowAt w a 2 qopCell l) {k : Nat} (hk : k < l.length) : ∃ b o, a = some ⟨b, o, none⟩ ∧ w.cell? ⟨b, o + k * 2, none⟩ = some (.int .i64 l[k].kind) ∧ w.cell? ⟨b, o + k * 2 + 1, none⟩ = some (.string ⟨l[k].s.toArray⟩) := by
  obtain ⟨b, o, rfl, hc⟩ := h.2 (by intro e; simp [e] at hk)
  have h0 := hc k hk 0 _ rfl
  have h1 := hc k hk 1 _ rfl
  exact ⟨b, o, rfl, by simpa using h0, by simpa using h1⟩
/-- What the law's loop leaves: a queue, and a list in order of what it holds. -/
structure PlaysI (w : World) (B b : Nat) (v : Value) (wl : List Txt) (S : Nat → Prop) (wr : World) : Prop where
  q : QU wr B b S wl
  sort : SortT wl
  row : TxtV wr B v wl
  below : Below w.heap.size w wr
  base : w.heap.size ≤ B
theorem PlaysI.later {w wr w' : World} {B b : Nat} {v : Value} {wl : List Txt} {S : Nat → Prop} (h : PlaysI w B b v wl S wr) (hb : Below wr.heap.size wr w') : PlaysI w B b v wl S w' :=
  ⟨h.q.later hb, h.sort, h.row.later hb, h.below.trans (hb.mono h.below.size), h.base⟩
theorem PlaysI.kept {w wr w' : World} {B b : Nat} {v : Value} {wl : List Txt} {S : Nat → Prop} (h : PlaysI w B b v wl S wr) (o : OnlyS S wr w') : TxtV w' B v wl ∧ Below w.heap.size w w' :=
  ⟨h.row.keep fun g _ hg => o.block g (Array.getElem?_eq_some_iff.1 hg).1 (h.q.not_row hg (by decide) (by decide) (by decide)), h.below.trans (h.q.only h.base o)⟩
/-- The list without its first. -/
theorem TxtV.tail {w : World} {B g o m cap : Nat} {k : Txt} {l : List Txt} (t : TxtV w B (.slice (some ⟨g, o, none⟩) (m + 1) cap) (k :: l)) : TxtV w B (.slice (some ⟨g, o + 1, none⟩) m (cap - 1)) l := by
  obtain ⟨a, cap', e, hc, hr⟩ := t.form
  injection e with e1 e2 e3
  subst e1 e3
  have e2 : m = l.length := by simpa using e2
  have hc : l.length + 1 ≤ cap := hc
  subst e2
  refine ⟨_, _, rfl, by omega, fun hn => ?_⟩
  obtain ⟨g', o', c, e1, e2, e3, e4⟩ := hr (by simp)
  injection e1 with e1
  injection e1 with e5 e6
  subst e5 e6
  refine ⟨g, o + 1, c, rfl, e2, e3, fun i hi => ?_⟩
  have := e4 (i + 1) (by simp; omega)
  rw [show o + 1 + i = o + (i + 1) by omega]
  simpa using this
theorem TxtV.one {w : World} {B g o m cap : Nat} {k : Txt} {l : List Txt} (t : TxtV w B (.slice (some ⟨g, o, none⟩) (m + 1) cap) (k :: l)) (h : cap = 1) : TxtV w B (.slice (some ⟨g, o, none⟩) m 0) l := by
  obtain ⟨a, cap', e, hc, hr⟩ := t.form
  injection e with e1 e2 e3
  subst e1 e3
  have e2 : m = l.length := by simpa using e2
  have hc : l.length + 1 ≤ cap := hc
  have hl : l = [] := List.eq_nil_of_length_eq_zero (by omega)
  subst hl e2
  exact ⟨_, 0, rfl, Nat.le_refl _, fun h => absurd rfl h⟩
/-- The list without its last. -/
theorem TxtV.init {w : World} {B g o m cap : Nat} {k : Txt} {l : List Txt} (t : TxtV w B (.slice (some ⟨g, o, none⟩) (m + 1) cap) (l ++ [k])) : TxtV w B (.slice (some ⟨g, o, none⟩) m cap) l := by
  obtain ⟨a, cap', e, hc, hr⟩ := t.form
  injection e with e1 e2 e3
  subst e1 e3
  have e2 : m = l.length := by simpa using e2
  have hc : l.length + 1 ≤ cap := by simpa using hc
  subst e2
  refine ⟨_, _, rfl, by omega, fun hn => ?_⟩
  obtain ⟨g', o', c, e1, e2, e3, e4⟩ := hr (by simp)
  injection e1 with e1
  injection e1 with e5 e6
  subst e5 e6
  refine ⟨g, o, c, rfl, e2, e3, fun i hi => ?_⟩
  have := e4 i (by simp; omega)
  rw [List.getElem_append_left hi] at this
  exact this
set_option maxRecDepth 100000 in
set_option maxHeartbeats 8000000 in
theorem queuePlays_any (oa : Option Addr) (ol : List QOp) (oc : Nat) (w : World) (hord : RowAt w oa 2 qopCell ol) :
    Calls Try.prog 7 #[.slice oa ol.length oc] w fun r w' => r = .returned (.bool true) ∧ Below w.heap.size w w' := by
  have HOP : Hid (∀ W, Below w.heap.size w W → RowAt W oa 2 qopCell ol) := fun W hb => hord.later hb
  clear hord
  go_enter Try.func7, Try.ntmps7
  go_wp2_with fail
  refine (awake11_any w).mono ?_
  rintro r W2 ⟨rfl, hb2⟩
  by_cases h300 : 300 < ol.length
  · have q3 : decide ((300 : Int) < (ol.length : Int)) = true := decide_eq_true (by omega)
    go_wp2_with fail
    refine (awake11_any _).mono ?_
    rintro r w3 ⟨rfl, hb3⟩
    go_wp2
    go_ret
    exact ⟨rfl, hb2.trans (hb3.mono hb2.size)⟩
  have q3 : decide ((300 : Int) < (ol.length : Int)) = false := decide_eq_false (by omega)
  have hol : ol.length ≤ 300 := by omega
  go_wp2_with fail
  refine (qNew_any W2).mono ?_
  rintro r W3 ⟨rfl, hb3, S, q, hS⟩
  have HI0 : Hid (PlaysI w W2.heap.size W2.heap.size (.slice none 0 0) [] S W3) := ⟨q, List.Pairwise.nil, txtV_nil _ _, hb2.trans (hb3.mono hb2.size), hb2.size⟩
  clear hb2 hb3 hS q h300
  generalize W2.heap.size = b at *
  go_wp2_with fail
  go_loopw [4, 6, 7, 8, 9, 10, 22] (fun v _ _ _ _ _ i wr => ∃ (j : Nat) (wl : List Txt) (S : Nat → Prop), j ≤ ol.length ∧ i = .int .i64 j ∧ wl.length ≤ j ∧ Hid (PlaysI w b b v wl S wr)) (fun _ _ _ _ _ _ i _ => ol.length - (intOf i).toNat)
  case atStart => exact ⟨0, [], S, Nat.zero_le _, rfl, Nat.zero_le _, HI0⟩
  case round =>
    clear HI0
    obtain ⟨j, wl, S', hj, rfl, hwl, HI⟩ := hrel
    by_cases hlt : j < ol.length
    · obtain ⟨pb, o, rfl, e0, e1⟩ := (HOP.out _ HI.out.below).qop hlt
      obtain ⟨a, cap, e, hcap, _⟩ := HI.out.row.form
      subst e
      obtain ⟨n, hn⟩ : ∃ n, n = wl.length := ⟨_, rfl⟩
      have HN := Lib.hid hn
      rw [← hn] at hcap HI hwl
      rw [← hn]
      clear hn
      generalize ol[j] = x at *
      obtain ⟨xk, xs⟩ := x
      dsimp only at e0 e1
      have hqs : (⟨xs.toArray⟩ : ByteArray).size = xs.length := by simp [ByteArray.size]
      by_cases h100 : 100 < xs.length
      · have q100 : decide ((100 : Int) < (xs.length : Int)) = true := decide_eq_true (by omega)
        have HB : Hid (Below w.heap.size w (wr.alloc (.cells #[.int .i64 xk, .string ⟨xs.toArray⟩] 81))) := HI.out.below.alloc HI.out.below.size _
        go_wp2
        go_ret
        exact ⟨rfl, HB.out⟩
      have q100 : decide ((100 : Int) < (xs.length : Int)) = false := decide_eq_false (by omega)
      have HI6 := Lib.hid (HI.out.later (below_alloc1 wr (.cells #[.int .i64 xk, .string ⟨xs.toArray⟩] 81)))
      have HBK : Hid ((wr.alloc (.cells #[.int .i64 xk, .string ⟨xs.toArray⟩] 81)).heap[wr.heap.size]? = some (.cells #[.int .i64 xk, .string ⟨xs.toArray⟩] 81 (0, 0))) := heap_alloc_new wr _
      have hxs : xs.length ≤ 1000 := by omega
      clear h100
      go_upto_block 2 with (fail)
      generalize wr.alloc (.cells #[.int .i64 xk, .string ⟨xs.toArray⟩] 81) = W6 at *
      generalize wr.heap.size = G6 at *
      have HF6 : Hid (∀ W : World, W.heap[G6]? = some (.cells #[.int .i64 xk, .string ⟨xs.toArray⟩] 81 (0, 0)) → W.cell? ⟨G6, 1, none⟩ = some (.string ⟨xs.toArray⟩)) := fun W hW => by rw [cell_of_row W _ 1 _ _ _ hW]; rfl
      have f1 := HF6.out W6 HBK.out
      have HNS : Hid (¬ S' G6) := HI6.out.q.not_row HBK.out (by decide) (by decide) (by decide)
      clear e0 e1
      by_cases k1 : xk = 1
      · subst k1
        have HP := Lib.hid (qPush_any HI6.out.q xs (by omega) (by rw [← HN.out]; omega))
        go_wp2_with fail
        refine HP.out.mono ?_
        rintro r W7 ⟨rfl, S2, q7, o7, s7⟩
        obtain ⟨r7, b7⟩ := HI6.out.kept o7
        have f7 := HF6.out W7 (o7.row HBK.out HNS.out)
        have HPT : Hid (Calls Try.prog 41 #[.slice a n cap, .string ⟨xs.toArray⟩] W7 fun r w' => ∃ v, r = .returned v ∧ OwnRow w' W7.heap.size 9 1 txtCell v (putT wl xs) ∧ Below W7.heap.size W7 w') := by
          have h := refPut_any a cap wl xs W7 (r7.row (by rw [← HN.out]; omega)) (by rw [← HN.out]; omega)
          rw [← HN.out] at h
          exact h
        have HI7 : Hid (∀ v w', OwnRow w' W7.heap.size 9 1 txtCell v (putT wl xs) → Below W7.heap.size W7 w' → PlaysI w b b v (putT wl xs) S2 w') := fun v w' hv hb => ⟨(q7.later hb).perm (putT_perm wl xs).symm, putT_sort HI6.out.sort xs, ⟨by
          obtain ⟨a', cap', e', hc', hr'⟩ := (txtV_own hv).form
          refine ⟨a', cap', e', hc', fun hn => ?_⟩
          obtain ⟨g, o, c, h1, h2, h3⟩ := hr' hn
          exact ⟨g, o, c, h1, Nat.le_trans q7.low h2, h3⟩⟩, b7.trans (hb.mono b7.size), HI6.out.base⟩
        have hpl : (putT wl xs).length = n + 1 := by rw [(putT_perm wl xs).length_eq, HN.out]; rfl
        have HPL := Lib.hid hpl
        clear q7 o7 s7 r7 b7 f1 hpl
        go_wp2_with fail
        refine HPT.out.mono ?_
        rintro r W8 ⟨v8, rfl, hv8, hb8⟩
        have HI8 := Lib.hid (HI7.out v8 W8 hv8 hb8)
        clear hv8 hb8 HI7 f7
        have HL8 := Lib.hid (qLen_any HI8.out.q)
        obtain ⟨a8, cap8, e8, _, _⟩ := HI8.out.row.form
        rw [HPL.out] at e8 HL8
        subst e8
        go_wp2_with fail
        refine HL8.out.mono ?_
        rintro r w' ⟨rfl, rfl⟩
        have hp1 : (putT wl xs).length ≤ j + 1 := by rw [HPL.out]; omega
        go_wp2_with fail
        go_roundw
        case rel => exact ⟨j + 1, _, _, by omega, by go_num, hp1, HI8⟩
        case measure => simp [intOf]; omega
      have q1 : (xk == 1) = false := by simpa using k1
      have HL6 := Lib.hid (qLen_any HI6.out.q)
      rw [← HN.out] at HL6
      cases n with
      | zero =>
        have hw0 : wl = [] := List.eq_nil_of_length_eq_zero HN.out.symm
        subst hw0
        by_cases k2 : xk = 2
        · subst k2
          have HP := Lib.hid (qPop_none HI6.out.q)
          go_wp2_with fail
          refine HP.out.mono ?_
          rintro r w' ⟨rfl, rfl⟩
          go_wp2_with fail
          refine HL6.out.mono ?_
          rintro r w' ⟨rfl, rfl⟩
          go_wp2_with fail
          go_roundw
          case rel => exact ⟨j + 1, [], _, by omega, by go_num, Nat.zero_le _, HI6⟩
          case measure => simp [intOf]; omega
        · have q2 : (xk == 2) = false := by simpa using k2
          have HP := Lib.hid (qSteal_none HI6.out.q)
          go_wp2_with fail
          refine HP.out.mono ?_
          rintro r w' ⟨rfl, rfl⟩
          go_wp2_with fail
          refine HL6.out.mono ?_
          rintro r w' ⟨rfl, rfl⟩
          go_wp2_with fail
          go_roundw
          case rel => exact ⟨j + 1, [], _, by omega, by go_num, Nat.zero_le _, HI6⟩
          case measure => simp [intOf]; omega
      | succ m =>
        by_cases k2 : xk = 2
        · subst k2
          obtain ⟨y, l, rfl⟩ : ∃ y l, wl = y :: l := by
            cases wl with
            | nil => exact absurd HN.out (by simp)
            | cons y l => exact ⟨y, l, rfl⟩
          have HP := Lib.hid (qPop_any HI6.out.q (by simp))
          have HML : Hid (m = l.length) := by have := HN.out; simp at this; exact this
          go_wp2_with fail
          refine HP.out.mono ?_
          rintro r W7 ⟨k, T', rfl, p7, t7, q7, o7⟩
          obtain ⟨r7, b7⟩ := HI6.out.kept o7
          obtain ⟨rfl, p7'⟩ := sort_first HI6.out.sort p7 t7
          obtain ⟨g, o9, e9, c9⟩ := (r7.row (by rw [← HN.out]; omega)).txt (j := 0) (by simp)
          subst e9
          rw [Nat.add_zero, List.getElem_cons_zero] at c9
          have HL7 : Hid (∀ W, Below W7.heap.size W7 W → Calls Try.prog 44 #[.pointer (some ⟨b, 0, none⟩)] W fun r w' => r = .returned (.int .i64 m) ∧ W = w') := fun W hb => by
            have h := qLen_any ((q7.perm p7').later hb)
            rw [← HML.out] at h
            exact h
          have HQ7 := Lib.hid (q7.perm p7')
          have HR7 := Lib.hid r7
          have HB7 := Lib.hid b7
          have HML2 : Hid (l.length ≤ j + 1) := by have := HML.out; show _ ≤ _; omega
          have HST := Lib.hid (HI6.out.sort.tail)
          have HBS := Lib.hid HI6.out.base
          clear p7 t7 q7 o7 r7 b7 p7' f1
          by_cases hc1 : cap = 1
          · have HF : Hid (∀ W, Below W7.heap.size W7 W → PlaysI w b b (.slice (some ⟨g, o9, none⟩) m 0) l S' W) := fun W hb => ⟨HQ7.out.later hb, HST.out, (HR7.out.one hc1).later hb, HB7.out.trans (hb.mono HB7.out.size), HBS.out⟩
            go_wp2_with fail
            go_quiet (fail)
            go_wp2_with fail
            refine (HL7.out _ (Below.refl _ _).drewN).mono ?_
            rintro r w' ⟨rfl, rfl⟩
            go_wp2_with fail
            go_roundw
            case rel => exact ⟨j + 1, l, _, by omega, by go_num, HML2.out, HF.out _ (Below.refl _ _).drewN⟩
            case measure => simp [intOf]; omega
          · have HF : Hid (∀ W, Below W7.heap.size W7 W → PlaysI w b b (.slice (some ⟨g, o9 + 1, none⟩) m (cap - 1)) l S' W) := fun W hb => ⟨HQ7.out.later hb, HST.out, HR7.out.tail.later hb, HB7.out.trans (hb.mono HB7.out.size), HBS.out⟩
            go_wp2_with fail
            go_quiet (fail)
            go_wp2_with fail
            refine (HL7.out _ (Below.refl _ _).drewN).mono ?_
            rintro r w' ⟨rfl, rfl⟩
            go_wp2_with fail
            go_roundw
            case rel => exact ⟨j + 1, l, _, by omega, by go_num, HML2.out, HF.out _ (Below.refl _ _).drewN⟩
            case measure => simp [intOf]; omega
        · have q2 : (xk == 2) = false := by simpa using k2
          obtain ⟨l, y, rfl⟩ : ∃ l y, wl = l ++ [y] := by
            have hne : wl ≠ [] := fun e => by have := HN.out; rw [e] at this; simp at this
            exact ⟨wl.dropLast, wl.getLast hne, (List.dropLast_concat_getLast hne).symm⟩
          have HP := Lib.hid (qSteal_any HI6.out.q (by simp))
          have HML : Hid (m = l.length) := by have := HN.out; simp at this; exact this
          go_wp2_with fail
          refine HP.out.mono ?_
          rintro r W7 ⟨k, T', rfl, p7, t7, q7, o7⟩
          obtain ⟨r7, b7⟩ := HI6.out.kept o7
          obtain ⟨rfl, p7'⟩ := sort_last HI6.out.sort p7 t7
          obtain ⟨g, o9, e9, c9⟩ := (r7.row (by rw [← HN.out]; omega)).txt (j := m) (by rw [← HN.out]; omega)
          subst e9
          replace c9 : W7.cell? ⟨g, o9 + m, none⟩ = some (.string ⟨k.toArray⟩) := by
            rw [c9]
            have : (l ++ [k])[m]'(by rw [← HN.out]; omega) = k := by simp [HML.out]
            rw [this]
          have HL7 : Hid (∀ W, Below W7.heap.size W7 W → Calls Try.prog 44 #[.pointer (some ⟨b, 0, none⟩)] W fun r w' => r = .returned (.int .i64 m) ∧ W = w') := fun W hb => by
            have h := qLen_any ((q7.perm p7').later hb)
            rw [← HML.out] at h
            exact h
          have HQ7 := Lib.hid (q7.perm p7')
          have HR7 := Lib.hid r7
          have HB7 := Lib.hid b7
          have HML2 : Hid (l.length ≤ j + 1) := by have := HML.out; show _ ≤ _; omega
          have HST := Lib.hid (HI6.out.sort.init)
          have HBS := Lib.hid HI6.out.base
          clear p7 t7 q7 o7 r7 b7 p7' f1
          have HF : Hid (∀ W, Below W7.heap.size W7 W → PlaysI w b b (.slice (some ⟨g, o9, none⟩) m cap) l S' W) := fun W hb => ⟨HQ7.out.later hb, HST.out, HR7.out.init.later hb, HB7.out.trans (hb.mono HB7.out.size), HBS.out⟩
          have hw1 : IntKind.i64.wrap (m : Int) = m := IntWalk.i64_in _ (by omega)
          have hw2 : IntKind.i64.wrap ((m : Int) + 1 - 1) = m := by rw [Int.add_sub_cancel]; exact hw1
          have hmi : (m : Int) < (m : Int) + 1 := by omega
          have hm0 : (0 : Int) ≤ (m : Int) := by omega
          go_wp2_with fail
          go_quiet (fail)
          go_wp2_with fail
          refine (HL7.out _ (Below.refl _ _).drewN).mono ?_
          rintro r w' ⟨rfl, rfl⟩
          go_wp2_with fail
          go_roundw
          case rel => exact ⟨j + 1, l, _, by omega, by go_num, HML2.out, HF.out _ (Below.refl _ _).drewN⟩
          case measure => simp [intOf]; omega
    · obtain rfl : j = ol.length := by omega
      have HB := Lib.hid HI.out.below
      go_wp2
      go_ret
      exact ⟨rfl, HB.out⟩
end Go.Proofs.Ytkphdmfcmfojeaa
