import Derived.Lib.AppendStr
import Derived.Laws.StructEq
import Derived.StillTailTactics
import Derived.Sort.KeysCollected
import Derived.Sort.Walk0
import Derived.Test.YtopklnehhebhmaaPk01
import Derived.Test.YtopklnehhebhmaaPk02
import Derived.Test.YtopklnehhebhmaaPk03

/- Levels of one's own: one level more, and one level changed. -/
namespace Go.Proofs.Ytopklnehhebhmaa
open Go.RowKit

theorem infoSl : (Try.prog.info? 63).map (fun i => (i.zero, i.size, i.bytes)) = some (some (.slice none 0 0), 1, 24) := by kernel_rfl
theorem tyNe : 63 ≠ 73 := by decide
theorem rows_apart {w : World} {B B' n n' m m' : Nat} {t t' : TypeId} {v v' : Value} {xs xs' : List Value} (h : w.ownsRow B t n v m xs) (h' : w.ownsRow B' t' n' v' m' xs') (hne : t ≠ t') : v.ownBlock = none ∨ v.ownBlock ≠ v'.ownBlock := by
  obtain ⟨_, ⟨rfl, _⟩ | ⟨g, cap, cur, rfl, _, hg, _⟩⟩ := h
  · exact .inl rfl
  · right
    obtain ⟨_, ⟨rfl, _⟩ | ⟨g', cap', cur', rfl, _, hg', _⟩⟩ := h'
    · simp [Value.ownBlock]
    · intro e
      injection e with e
      have e2 : g = g' := e
      subst e2
      rw [hg] at hg'
      injection hg' with hg'
      injection hg' with _ h2
      exact hne h2

/-- A level more, still empty. -/
theorem OwnLv.more {w w' : World} {B : Nat} {v v' : Value} {ss : List Sl} {m : List (List Ev)} (h : OwnLv w B v ss m) (ho : OwnRow w' B 63 1 slCell v' (ss ++ [⟨none, 0, 0⟩])) (hg : w.grownBy w' v.ownBlock) :
    OwnLv w' B v' (ss ++ [⟨none, 0, 0⟩]) (m ++ [[]]) := by
  refine ⟨by simp [h.len], ho, fun i hi => ?_, fun i j hi hj hne => ?_⟩
  · by_cases hlt : i < ss.length
    · have e1 : (ss ++ [(⟨none, 0, 0⟩ : Sl)])[i] = ss[i] := List.getElem_append_left hlt
      have e2 : (m ++ [[]]).getD i [] = m.getD i [] := by simp [List.getD, List.getElem?_append_left (show i < m.length by rw [← h.len]; exact hlt)]
      rw [e1, e2]
      refine World.ownsRow.kept (h.inner i hlt) hg ?_
      exact rows_apart (h.inner i hlt) h.outer (Ne.symm tyNe)
    · have e0 : i = ss.length := by simp at hi; omega
      subst e0
      have e1 : (ss ++ [(⟨none, 0, 0⟩ : Sl)])[ss.length] = ⟨none, 0, 0⟩ := by simp
      have e2 : (m ++ [[]]).getD ss.length [] = [] := by rw [h.len]; simp [List.getD]
      rw [e1, e2]
      exact ownE_nil _ _
  · by_cases hlt : i < ss.length
    · have e1 : (ss ++ [(⟨none, 0, 0⟩ : Sl)])[i] = ss[i] := List.getElem_append_left hlt
      rw [e1]
      by_cases hlj : j < ss.length
      · have e2 : (ss ++ [(⟨none, 0, 0⟩ : Sl)])[j] = ss[j] := List.getElem_append_left hlj
        rw [e2]
        exact h.apart i j hlt hlj hne
      · have e0 : j = ss.length := by simp at hj; omega
        subst e0
        have e2 : (ss ++ [(⟨none, 0, 0⟩ : Sl)])[ss.length] = ⟨none, 0, 0⟩ := by simp
        rw [e2]
        cases hb : (slV ss[i]).ownBlock
        · exact .inl rfl
        · exact .inr (by simp [slV, Value.ownBlock])
    · have e0 : i = ss.length := by simp at hi; omega
      subst e0
      left
      have e1 : (ss ++ [(⟨none, 0, 0⟩ : Sl)])[ss.length] = ⟨none, 0, 0⟩ := by simp
      rw [e1]
      rfl

theorem cellsL_one_set (ss : List Sl) (n : Nat) (s : Sl) : (cellsL slCell ss).set n (.slice s.a s.n s.c) = cellsL slCell (ss.set n s) := by
  induction ss generalizing n with
  | nil => rfl
  | cons x ss ih =>
    cases n with
    | zero => rfl
    | succ n =>
      show slCell x ++ _ = _
      simp only [cellsL, List.flatMap_cons, List.set_cons_succ] at *
      rw [← ih]
      rfl

/-- One level, changed. -/
theorem OwnLv.put {w w3 : World} {B g N cap n : Nat} {ss : List Sl} {m : List (List Ev)} {s' : Sl} {es' : List Ev} (h : OwnLv w B (.slice (some ⟨g, 0, none⟩) N cap) ss m) (hN : N = m.length) (_hn : n < N) (hn2 : n < ss.length)
    (ho : OwnE w3 B (slV s') es') (hg : w.grownBy w3 (slV ss[n]).ownBlock) (hb : ∀ b, (slV s').ownBlock = some b → (slV ss[n]).ownBlock = some b ∨ w.heap.size ≤ b) :
    OwnLv (w3.setCell ⟨g, n, none⟩ (.slice s'.a s'.n s'.c)) B (.slice (some ⟨g, 0, none⟩) N cap) (ss.set n s') (m.set n es') ∧ (w3.cell? ⟨g, n, none⟩).isSome = true ∧ w3.frozen? ⟨g, n, none⟩ = false := by
  have hout : w3.ownsRow B 63 1 (.slice (some ⟨g, 0, none⟩) N cap) ss.length (cellsL slCell ss) := World.ownsRow.kept h.outer hg (rows_apart h.outer (h.inner n hn2) tyNe)
  have hsN : ss.length = N := by rw [h.len, hN]
  rw [hsN] at hout
  have hst := hout.stored n (.slice s'.a s'.n s'.c)
  rw [cellsL_one_set] at hst
  have hgs : w3.grownBy (w3.setCell ⟨g, n, none⟩ (.slice s'.a s'.n s'.c)) (some g) := hst.2
  have hkeep : ∀ {v2 : Value} {es : List Ev}, OwnE w3 B v2 es → OwnE (w3.setCell ⟨g, n, none⟩ (.slice s'.a s'.n s'.c)) B v2 es := fun {v2 es} hv => World.ownsRow.kept hv hgs (rows_apart hv hout (Ne.symm tyNe))
  have hold : ∀ i (hi : i < ss.length), i ≠ n → OwnE w3 B (slV ss[i]) (m.getD i []) := fun i hi hne => World.ownsRow.kept (h.inner i hi) hg (h.apart i n hi hn2 hne)
  refine ⟨⟨by simp [h.len], ?_, fun i hi => ?_, fun i j hi hj hne => ?_⟩, ?_, hout.frozenAt n⟩
  · unfold OwnRow
    rw [List.length_set, hsN]
    exact hst.1
  · simp only [List.length_set] at hi
    by_cases e : n = i
    · subst e
      have e1 : (ss.set n s')[n]'(by simpa using hi) = s' := by simp
      have e2 : (m.set n es').getD n [] = es' := by simp [List.getD, show n < m.length by omega]
      rw [e1, e2]
      exact hkeep ho
    · have e1 : (ss.set n s')[i]'(by simpa using hi) = ss[i] := List.getElem_set_ne e _
      have e2 : (m.set n es').getD i [] = m.getD i [] := by simp [List.getD, List.getElem?_set_ne e]
      rw [e1, e2]
      exact hkeep (hold i hi (fun e' => e e'.symm))
  · simp only [List.length_set] at hi hj
    have hnew : ∀ i (hi : i < ss.length), i ≠ n → (slV s').ownBlock = none ∨ (slV s').ownBlock ≠ (slV ss[i]).ownBlock := fun i hi hne => by
      cases hb' : (slV s').ownBlock with
      | none => exact .inl rfl
      | some b =>
        right
        intro e
        rcases hb b hb' with h1 | h1
        · rcases h.apart n i hn2 hi (fun e => hne e.symm) with h2 | h2
          · rw [h1] at h2; cases h2
          · exact h2 (h1.trans e)
        · have := (World.ownsRow.lt (h.inner i hi) b e.symm).2
          omega
    by_cases e : n = i
    · subst e
      have e1 : (ss.set n s')[n]'(by simpa using hi) = s' := by simp
      have e2 : (ss.set n s')[j]'(by simpa using hj) = ss[j] := List.getElem_set_ne hne _
      rw [e1, e2]
      exact hnew j hj (fun e => hne e.symm)
    · have e1 : (ss.set n s')[i]'(by simpa using hi) = ss[i] := List.getElem_set_ne e _
      rw [e1]
      by_cases e' : n = j
      · subst e'
        have e2 : (ss.set n s')[n]'(by simpa using hj) = s' := by simp
        rw [e2]
        rcases hnew i hi hne with h1 | h1
        · cases hb2 : (slV ss[i]).ownBlock
          · exact .inl rfl
          · right; rw [h1]; simp
        · exact .inr (fun e => h1 e.symm)
      · have e2 : (ss.set n s')[j]'(by simpa using hj) = ss[j] := List.getElem_set_ne e' _
        rw [e2]
        exact h.apart i j hi hj hne
  · rw [hout.cellAt n (by omega), List.getElem?_eq_getElem (by rw [cellsL_length slCell_len]; omega)]
    rfl
theorem OwnLv.cell {w : World} {B g N cap n : Nat} {ss : List Sl} {m : List (List Ev)} (h : OwnLv w B (.slice (some ⟨g, 0, none⟩) N cap) ss m) (hN : N = m.length) (hn2 : n < ss.length) : w.cell? ⟨g, n, none⟩ = some (.slice ss[n].a ss[n].n ss[n].c) := by
  have hsN : ss.length = N := by rw [h.len, hN]
  have hout : w.ownsRow B 63 1 (.slice (some ⟨g, 0, none⟩) N cap) ss.length (cellsL slCell ss) := h.outer
  rw [hsN] at hout
  rw [hout.cellAt n (by omega)]
  have := cellsL_get slCell_len ss n 0 hn2 (by omega)
  rw [Nat.mul_one, Nat.add_zero] at this
  rw [this]
  rfl

/-- Putting an event in, in two steps. -/
def extL (m : List (List Ev)) (n : Nat) : List (List Ev) := if n < m.length then m else m ++ [[]]
theorem extL_length {m : List (List Ev)} {n : Nat} (h : n ≤ m.length) : n < (extL m n).length := by
  unfold extL
  split
  · assumption
  · simp; omega
theorem addL_ext (m : List (List Ev)) (e : Ev) : addL m e = (extL m (lvN m e)).set (lvN m e) (insE e ((extL m (lvN m e)).getD (lvN m e) [])) := by
  have hle := lvN_le m e
  unfold addL putL extL
  by_cases h : lvN m e < m.length
  · rw [if_pos h, if_pos h]
  · have h0 : lvN m e = m.length := by omega
    rw [if_neg h, if_neg h, h0]
    simp [List.getD, insE]
theorem extL_get (m : List (List Ev)) (n : Nat) : (extL m n).getD n [] = m.getD n [] := by
  unfold extL
  by_cases h : n < m.length
  · rw [if_pos h]
  · rw [if_neg h]
    simp only [List.getD]
    rw [List.getElem?_eq_none (Nat.le_of_not_lt h)]
    by_cases h0 : n = m.length
    · subst h0; simp
    · rw [List.getElem?_eq_none (by simp; omega)]
theorem lv_other {m : List (List Ev)} {e x : Ev} (hx : x ∈ m.getD (lvN m e) []) : x.thread ≠ e.thread := by
  intro ht
  have h1 := lvN_free (Nat.le_refl _) hx
  rw [dep_thread ht] at h1
  cases h1
theorem lv_small (l : List Ev) (i : Nat) : ((lvls l).getD i []).length ≤ l.length := by
  rw [← lvls_count l]
  by_cases h : i < (lvls l).length
  · rw [getD_lt _ h]
    exact List.Sublist.length_le (List.sublist_flatten_of_mem (List.getElem_mem h))
  · simp [List.getD, List.getElem?_eq_none (Nat.le_of_not_lt h)]
theorem lv_count (l : List Ev) : (lvls l).length ≤ l.length := by
  have : ∀ n (l : List Ev), l.length = n → (lvls l).length ≤ l.length := by
    intro n
    induction n with
    | zero =>
      intro l hl
      obtain rfl := List.eq_nil_of_length_eq_zero hl
      exact Nat.le_refl _
    | succ n ih =>
      intro l hl
      have hne : l ≠ [] := by rintro rfl; simp at hl
      obtain ⟨l', e, rfl⟩ : ∃ l' e, l = l' ++ [e] := ⟨l.dropLast, l.getLast hne, (List.dropLast_concat_getLast hne).symm⟩
      have h1 := ih l' (by simpa using hl)
      rw [lvls_snoc, addL_length, List.length_append, List.length_singleton]
      split <;> omega
  exact this _ l rfl


/-- Has a row levels? -/
def rightF (l : List Ev) : Bool := decide (l.length ≤ 200) && rightL l
/-- Its levels, or none. -/
def levelsF (l : List Ev) : List (List Ev) := if rightF l then lvls l else []

set_option maxRecDepth 100000 in
set_option maxHeartbeats 1000000 in
theorem fRight_any (a : Option Addr) (cap : Nat) (l : List Ev) (w : World) (hl : EvsAt w a l) :
    Calls Try.prog 71 #[.slice a l.length cap] w fun r w' => r = .returned (.bool (rightF l)) ∧ Below w.heap.size w w' := by
  have hm := hl.1
  unfold maxLen at hm
  have HL := Lib.hid hl
  clear hl
  by_cases h200 : l.length ≤ 200
  case neg =>
    have HE : Hid (rightF l = false) := by show _ = _; unfold rightF; simp; omega
    have hq : decide ((200 : Int) < (l.length : Int)) = true := by simp; omega
    have hq2 : 200 < l.length := by omega
    clear h200
    go_enter Try.func71, Try.ntmps71
    go_wp2
    go_ret
    exact ⟨ret_bool HE.out.symm, Below.refl _ _⟩
  have hq : decide ((200 : Int) < (l.length : Int)) = false := by simp; omega
  have hq2 : ¬ 200 < l.length := by omega
  go_enter Try.func71, Try.ntmps71
  go_wp2
  go_loopw [10] (fun i wr => ∃ k : Nat, k ≤ l.length ∧ i = .int .i64 k ∧ Hid (rightL (l.take k) = true) ∧ Below w.heap.size w wr) (fun i _ => l.length - (intOf i).toNat)
  case atStart => exact ⟨0, Nat.zero_le _, rfl, rfl, Below.refl _ _⟩
  case round =>
    obtain ⟨k, hk, rfl, HR, hb⟩ := hrel
    by_cases hlt : k < l.length
    · obtain ⟨b, o, rfl, hc⟩ := HL.out.2 (by intro e; simp [e] at hlt)
      obtain ⟨c0, c1, c2, c3⟩ := hc k hlt
      have d0 := cell_later hb c0
      have d1 := cell_later hb c1
      have d2 := cell_later hb c2
      have d3 := cell_later hb c3
      have HT := Lib.hid (rightL_take l k hlt)
      have hx1 : Hid (rightEv l[k] = false → rightF l = false) := fun h => by unfold rightF; rw [rightL_no hlt h]; simp
      have hb4 := hb.alloc hb.size (.cells #[.int .i64 l[k].thread, .int .i64 l[k].kind, .int .i64 l[k].obj, .bool l[k].fail] 73)
      clear hc c0 c1 c2 c3
      generalize l[k] = x at *
      go_wp2_with fail
      refine (evRight_any x _).mono ?_
      rintro r w2 ⟨rfl, hb5⟩
      have hb6 := hb4.trans (hb5.mono hb4.size)
      clear hb4 hb5
      cases hr : rightEv x
      · have HN := Lib.hid (hx1.out hr)
        clear hx1 HT
        go_wp2
        go_ret
        exact ⟨ret_bool HN.out.symm, hb6⟩
      · have HN : Hid (rightL (l.take (k + 1)) = true) := by show _ = _; rw [HT.out, HR.out, hr]; rfl
        clear hx1 HT
        go_wp2
        go_roundw
        case rel => exact ⟨k + 1, by omega, by go_num, HN, hb6⟩
        case measure => simp [intOf]; omega
    · obtain rfl : k = l.length := by omega
      have HE : Hid (rightF l = true) := by have h := HR.out; rw [List.take_length] at h; show _ = _; unfold rightF; rw [h]; simp; omega
      go_wp2
      go_ret
      exact ⟨ret_bool HE.out.symm, hb⟩

end Go.Proofs.Ytopklnehhebhmaa

/- The contract of foata's Levels. -/
namespace Go.Proofs.Ytopklnehhebhmaa
open Go.RowKit

theorem box_kept {w w' : World} {B g n m : Nat} {t : TypeId} {v : Value} {e : Ev} {xs : List Value} (h : EvBox w g e) (ho : w.ownsRow B t n v m xs) (hne : t ≠ 73) (hg : w.grownBy w' v.ownBlock) : EvBox w' g e := by
  refine (hg.block g h.lt fun e' => ?_).trans h
  obtain ⟨_, ⟨rfl, _⟩ | ⟨b, cap, cur, rfl, _, hb, _⟩⟩ := ho
  · cases e'
  · injection e' with e'
    have e2 : g = b := e'
    subst e2
    rw [show w.heap[g]? = _ from h] at hb
    injection hb with hb
    injection hb with _ h2
    exact hne h2.symm

/-- Levels that a call answers. -/
def LvR (B : Nat) (w : World) (m : List (List Ev)) (r : Ending) (w' : World) : Prop := ∃ v ss, r = .returned v ∧ OwnLv w' B v ss m ∧ Below B w w'

set_option maxRecDepth 100000 in
set_option maxHeartbeats 4000000 in
theorem levels_any (a : Option Addr) (cap : Nat) (l : List Ev) (w : World) (hl : EvsAt w a l) :
    Calls Try.prog 54 #[.slice a l.length cap] w (LvR w.heap.size w (levelsF l)) := by
  have hm := hl.1
  unfold maxLen at hm
  have HL := Lib.hid hl
  have HRC := Lib.hid (fRight_any a cap l w hl)
  clear hl
  cases hr : rightF l
  · have HE : Hid (levelsF l = []) := by show _ = _; unfold levelsF; rw [hr]; rfl
    rw [hr] at HRC
    clear hr
    go_enter Try.func54, Try.ntmps54
    go_wp2_with fail
    refine HRC.out.mono ?_
    rintro r w1 ⟨rfl, hb1⟩
    clear HRC
    go_wp2
    go_ret
    exact ⟨_, [], rfl, by rw [HE.out]; exact ownLv_nil _ _, hb1⟩
  have h200 : l.length ≤ 200 := by unfold rightF at hr; simp at hr; exact hr.1
  have HE : Hid (levelsF l = lvls l) := by show _ = _; unfold levelsF; rw [hr]; rfl
  rw [hr] at HRC
  clear hr
  go_enter Try.func54, Try.ntmps54
  go_wp2_with fail
  refine HRC.out.mono ?_
  rintro r w1 ⟨rfl, hb1⟩
  clear HRC
  go_wp2_with fail
  go_loopw [3, 12] (fun v i wr => ∃ (k : Nat) (ss : List Sl), k ≤ l.length ∧ i = .int .i64 k ∧ Hid (OwnLv wr w.heap.size v ss (lvls (l.take k))) ∧ Hid (Below w.heap.size w wr)) (fun _ i _ => l.length - (intOf i).toNat)
  case atStart => exact ⟨0, [], Nat.zero_le _, rfl, ownLv_nil _ _, hb1⟩
  case round =>
    clear hb1
    obtain ⟨k, ss, hk, rfl, HV, HB⟩ := hrel
    by_cases hlt : k < l.length
    · obtain ⟨b, o, rfl, t0, t1, t2, t3⟩ := HL.out.one hlt
      have d0 := cell_later HB.out t0
      have d1 := cell_later HB.out t1
      have d2 := cell_later HB.out t2
      have d3 := cell_later HB.out t3
      have HT : Hid (lvls (l.take (k + 1)) = addL (lvls (l.take k)) (evI l k)) := by
        show _ = _
        rw [← lvls_snoc, evI_get hlt, List.take_add_one, List.getElem?_eq_getElem hlt]
        rfl
      have hmk : (lvls (l.take k)).length ≤ k := by have := lv_count (l.take k); rw [List.length_take] at this; omega
      have HS : Hid (∀ i, ((lvls (l.take k)).getD i []).length ≤ 200) := fun i => by have := lv_small (l.take k) i; rw [List.length_take] at this; omega
      obtain ⟨a2, cap2, rfl, hat, hca⟩ := OwnLv.form HV.out (by omega) (fun i _ => by have := HS.out i; omega)
      have HAT := Lib.hid hat
      clear t0 t1 t2 t3 hat hca
      generalize lvls (l.take k) = m at *
      generalize evI l k = e at *
      go_wp2_with fail
      have hba := below_alloc1 wr (.cells #[.int .i64 e.thread, .int .i64 e.kind, .int .i64 e.obj, .bool e.fail] 73)
      have HBX := Lib.hid (EvBox.new wr e)
      generalize wr.alloc (.cells #[.int .i64 e.thread, .int .i64 e.kind, .int .i64 e.obj, .bool e.fail] 73) = W0 at *
      refine (levelOf_any a2 cap2 m e W0 (HAT.out.later hba) (by omega)).mono ?_
      rintro r W1 ⟨rfl, hb2⟩
      have hb3 := hba.trans (hb2.mono hba.size)
      have HV1 := Lib.hid (HV.out.later hb3)
      have HB1 := Lib.hid (HB.out.trans (hb3.mono HB.out.size))
      have HX1 := Lib.hid (HBX.out.later hb2)
      have hle := lvN_le m e
      have HA := Lib.hid (addL_ext m e)
      have HO : Hid (∀ x ∈ m.getD (lvN m e) [], x.thread ≠ e.thread) := fun x hx => lv_other hx
      have hbx0 : wr.heap.size < W1.heap.size := HX1.out.lt
      have hsz1 : wr.heap.size ≤ W1.heap.size := by omega
      clear HV HB HAT HBX hba hb2 hb3 d0 d1 d2 d3
      generalize lvN m e = n at *
      go_upto_if 22 with (fail)
      go_cut [3] (fun s3 wx => ∃ (g N cap3 : Nat) (ss2 : List Sl), s3 = .slice (some ⟨g, 0, none⟩) N cap3 ∧ n < N ∧ N ≤ 300 ∧ Hid (N = (extL m n).length ∧ OwnLv wx w.heap.size s3 ss2 (extL m n)) ∧ Hid (EvBox wx wr.heap.size e) ∧ Hid (Below w.heap.size w wx))
      case first =>
        by_cases hnm : n < m.length
        · have hq : ((n : Int) == (m.length : Int)) = false := by simp; omega
          have HEX : Hid (extL m n = m) := by show _ = _; unfold extL; rw [if_pos hnm]
          obtain ⟨g, capg, hv, _, _⟩ := OwnRow.block HV1.out.outer (by intro e; have := HV1.out.len; rw [e] at this; simp at this; omega)
          injection hv with hv1 hv2 hv3
          subst hv1
          clear hv2 hv3
          go_wp2_with fail
          go_meet
          exact ⟨g, m.length, cap2, ss, rfl, hnm, by omega, ⟨by rw [HEX.out], by rw [HEX.out]; exact HV1.out⟩, HX1.out, HB1.out⟩
        · have hnm2 : n = m.length := by omega
          have hq : ((n : Int) == (m.length : Int)) = true := by simp; omega
          have HEX : Hid (extL m n = m ++ [[]]) := by show _ = _; unfold extL; rw [if_neg hnm]
          have HN2 := Lib.hid hnm2
          have hB2 : w.heap.size ≤ W1.heap.size := HB1.out.size
          have hss : ss.length ≤ 1000 := by have := HV1.out.len; omega
          clear hnm hnm2
          go_wp2_with (at_builtin; refine wp_appendR (f := slCell) (n := 1) 50 63 24 (.slice none 0 0) Try.underlying50 infoSl rfl (by omega) (by omega) slCell_len rfl _ _ rfl w.heap.size _ ss rfl (HV1.out.outer.alloc _) ⟨W1.heap.size, 0, none⟩ rfl ⟨none, 0, 0⟩ (slCell_one _) (cells_new W1 (slCell ⟨none, 0, 0⟩) _ _ rfl) (by omega) (by simp; omega) ?_; intro v' w' h1 h2 h3; obtain ⟨g, capg, hv, _, _⟩ := OwnRow.block h1 (by simp); rw [List.length_append, List.length_singleton] at hv; subst hv)
          go_meet
          have hb4 : Below w.heap.size W1 w' := (below_alloc1 W1 _).mono hB2 |>.trans h2
          have hv4 : OwnLv w' w.heap.size (.slice (some ⟨g, 0, none⟩) (ss.length + 1) capg) (ss ++ [⟨none, 0, 0⟩]) (m ++ [[]]) := OwnLv.more (HV1.out.later (below_alloc1 W1 _)) h1 h3
          exact ⟨g, ss.length + 1, capg, _, rfl, by have := HV1.out.len; have := HN2.out; omega, by have := HV1.out.len; omega, ⟨by rw [HEX.out]; simp [HV1.out.len], by rw [HEX.out]; exact hv4⟩, box_kept (HX1.out.later (below_alloc1 W1 _)) (HV1.out.outer.alloc _) tyNe h3, HB1.out.trans hb4⟩
      case rest =>
        obtain ⟨g, N, cap3, ss2, rfl, hnN, hN300, HW, HXc, HBc⟩ := hcut
        have hn2 : n < ss2.length := by rw [HW.out.2.len, ← HW.out.1]; exact hnN
        have hB2 : w.heap.size ≤ wc.heap.size := HBc.out.size
        have x0 := OwnLv.cell HW.out.2 HW.out.1 hn2
        obtain ⟨c0, c1, c2, c3⟩ := HXc.out.cells
        have hni : (n : Int) < (N : Int) := by omega
        have hni0 : (0 : Int) ≤ n := by omega
        have HIN : Hid (OwnE wc w.heap.size (slV ss2[n]) (m.getD n [])) := by
          have h := HW.out.2.inner n hn2
          rw [extL_get] at h
          exact h
        have HCALL : Hid (∀ W, Below wc.heap.size wc W → Calls Try.prog 73 #[.slice ss2[n].a ss2[n].n ss2[n].c, .agg #[.int .i64 e.thread, .int .i64 e.kind, .int .i64 e.obj, .bool e.fail]] W fun r w' =>
            ∃ s' : Sl, r = .returned (.slice s'.a s'.n s'.c) ∧ Below w.heap.size w w' ∧ (∃ old, w'.cell? ⟨g, n, none⟩ = some old) ∧ w'.frozen? ⟨g, n, none⟩ = false ∧ OwnLv (w'.setCell ⟨g, n, none⟩ (.slice s'.a s'.n s'.c)) w.heap.size (.slice (some ⟨g, 0, none⟩) N cap3) (ss2.set n s') (addL m e)) := fun W hW => by
          refine (lay_any w.heap.size (slV ss2[n]) (m.getD n []) e W (Nat.le_trans hB2 hW.size) (by have := HS.out n; omega) (HIN.out.later hW) HO.out).mono ?_
          rintro r w' ⟨v', rfl, h2, h3, h4, h5⟩
          obtain ⟨a', cap', hv', _⟩ := OwnE.form h2 (by rw [insE_length]; have := HS.out n; omega)
          subst hv'
          obtain ⟨p1, p2, p3⟩ := OwnLv.put (HW.out.2) HW.out.1 hnN hn2 (s' := ⟨a', (insE e (m.getD n [])).length, cap'⟩) h2 ((grown_below hW _).trans h4) (fun b hb => (h5 b hb).imp id (fun h => Nat.le_trans hW.size h))
          rw [HA.out, extL_get]
          exact ⟨⟨a', _, cap'⟩, rfl, HBc.out.trans ((hW.mono hB2).trans h3), Option.isSome_iff_exists.1 p2, p3, p1⟩
        clear HIN
        go_wp2_with fail
        go_region_with ((go_simp; go_at_call 73; refine (HCALL.out _ (Below.refl _ _).drew).mono ?_; rintro r w3 ⟨s', rfl, q1, ⟨old, q2⟩, q3, q4⟩; have HQ4 := Lib.hid q4; have HQ1 := Lib.hid q1; clear q1 q4))
        all_goals
          have HVN : Hid (OwnLv (w3.setCell ⟨g, n, none⟩ (.slice s'.a s'.n s'.c)) w.heap.size (.slice (some ⟨g, 0, none⟩) N cap3) (ss2.set n s') (lvls (l.take (k + 1)))) := by
            show OwnLv _ _ _ _ _
            rw [HT.out]
            exact HQ4.out
          have hgB : w.heap.size ≤ g := by
            obtain ⟨_, ⟨h2, _⟩ | ⟨b', cap', cur, h2, h3, _⟩⟩ := HW.out.2.outer
            · cases h2
            · injection h2 with h2
              injection h2 with h2
              injection h2 with h2
              rw [h2]; exact h3
          go_wp2
          go_roundw
          case rel => exact ⟨k + 1, _, by omega, by go_num, HVN, (HQ1.out).setCell (p := ⟨g, n, none⟩) hgB _⟩
          case measure => simp [intOf]; omega
    · obtain rfl : k = l.length := by omega
      have HV2 := HV.out
      rw [List.take_length, ← HE.out] at HV2
      have HV3 := Lib.hid HV2
      clear HV2 HV
      go_wp2
      go_ret
      exact ⟨_, ss, rfl, HV3.out, HB.out⟩

end Go.Proofs.Ytopklnehhebhmaa

/- The contracts of event's Print and Threads. -/
namespace Go.Proofs.Ytopklnehhebhmaa
open Go.RowKit

theorem run_bstr_mid {w : World} {g n c : Nat} {ns : List Int} (h : MidAt w g 5 (ns.map (Value.int .u8))) (hn : n = ns.length) : (convert 39 9 (.slice (some ⟨g, 0, none⟩) n c)).run Try.prog w = .ok (.string (bstr ns)) w := by
  subst hn
  rw [run_convert_bytes_string w _ _ 5 _ _ _ Try.underlying39 Try.underlying5 Try.underlying9]
  have hl := run_loadCells_list (P := Try.prog) w ⟨g, 0, none⟩ (ns.map (Value.int .u8)) (fun j u hj => by
    have e : Addr.add ⟨g, 0, none⟩ j = ⟨g, j, none⟩ := by
      unfold Addr.add
      split
      · rename_i h0; subst h0; rfl
      · simp
    rw [e, h.cell]
    exact hj)
  rw [List.length_map] at hl
  rw [run_bytesToString w _ _ _ ns hl, foldl_bstr]
  have e : ByteArray.empty.data = #[] := rfl
  rw [e, Array.empty_append]
  rfl

theorem ret_str {a b : ByteArray} (h : a = b) : Ending.returned (.string a) = .returned (.string b) := by rw [h]

set_option maxRecDepth 100000 in
set_option maxHeartbeats 1000000 in
theorem evPrint_any (a : Option Addr) (cap : Nat) (l : List Ev) (w : World) (hl : EvsAt w a l) (hm : l.length ≤ 1000000) :
    Calls Try.prog 75 #[.slice a l.length cap] w fun r w' => r = .returned (.string (bstr (printE l))) ∧ Below w.heap.size w w' := by
  have hmk := run_make_k (P := Try.prog) 39 5 (.int .u8 0) 1 1 Try.underlying39 (by kernel_rfl) l.length (by omega) (by omega)
  have HL := Lib.hid hl
  clear hl
  go_enter Try.func75, Try.ntmps75
  go_wp2
  go_loopw [11] (fun i wr => ∃ k : Nat, k ≤ l.length ∧ i = .int .i64 k ∧ Hid ((l.take k).all rightEv = true) ∧ Hid (MidAt wr w.heap.size 5 (fill (fun e => .int .u8 (evB e)) (.int .u8 0) l k)) ∧ Below w.heap.size w wr) (fun i _ => l.length - (intOf i).toNat)
  case atStart =>
    refine ⟨0, Nat.zero_le _, rfl, rfl, ?_, below_alloc1 _ _⟩
    show MidAt _ _ _ _
    rw [fill_zero]
    have := MidAt.made w 5 (.int .u8 0) l.length
    simpa using this
  case round =>
    clear hmk
    obtain ⟨k, hk, rfl, HA, HM, hb⟩ := hrel
    by_cases hlt : k < l.length
    · obtain ⟨b, o, rfl, hc⟩ := HL.out.2 (by intro e; simp [e] at hlt)
      obtain ⟨c0, c1, c2, c3⟩ := hc k hlt
      have d0 := cell_later hb c0
      have d1 := cell_later hb c1
      have d2 := cell_later hb c2
      have d3 := cell_later hb c3
      have hz := HM.out.lt
      clear hc c0 c1 c2 c3
      have HT := Lib.hid (List.take_succ_eq_append_getElem hlt : l.take (k + 1) = l.take k ++ [l[k]])
      have HS := Lib.hid (fill_set (fun e => .int .u8 (evB e)) (.int .u8 0) l k hlt)
      have HX := Lib.hid (List.getElem_mem hlt)
      have HB1 := Lib.hid (EvBox.new wr l[k])
      have HM1 := Lib.hid (HM.out.later (below_alloc1 wr (.cells #[.int .i64 l[k].thread, .int .i64 l[k].kind, .int .i64 l[k].obj, .bool l[k].fail] 73)))
      have hb1 : Below w.heap.size w (wr.alloc (.cells #[.int .i64 l[k].thread, .int .i64 l[k].kind, .int .i64 l[k].obj, .bool l[k].fail] 73)) := hb.alloc hb.size _
      clear HM
      generalize l[k] = x at *
      go_wp2_with fail
      generalize wr.alloc (.cells #[.int .i64 x.thread, .int .i64 x.kind, .int .i64 x.obj, .bool x.fail] 73) = W1 at *
      generalize wr.heap.size = E at *
      clear d0 d1 d2 d3
      refine (evRight_any x _).mono ?_
      rintro r w2 ⟨rfl, hb2⟩
      have HB2 := Lib.hid (HB1.out.later hb2)
      have HM2 := Lib.hid (HM1.out.later hb2)
      have hw2 : Below w.heap.size w w2 := hb1.trans (hb2.mono hb1.size)
      clear HB1 HM1 hb1 hb2 hb
      obtain ⟨x0, x1, x2, x3⟩ := HB2.out.cells
      have lx := HB2.out.lt
      cases hr : rightEv x
      · have HR : Hid (printE l = []) := by
          show _ = _
          unfold printE
          rw [if_neg]
          intro h
          rw [List.all_eq_true] at h
          rw [h x HX.out] at hr
          cases hr
        clear hr HB2
        go_wp2
        go_ret
        exact ⟨ret_str (by rw [HR.out]; rfl), hw2⟩
      · have HR := Lib.hid hr
        clear hr
        go_wp2_with fail
        refine (toByte_any x HR.out _).mono ?_
        rintro r w3 ⟨rfl, hb3⟩
        have HM3 := Lib.hid (HM2.out.later hb3)
        have hw3 : Below w.heap.size w w3 := hw2.trans (hb3.mono hw2.size)
        have hf3 := HM3.out.frozen k
        have hc3 := HM3.out.cell k
        obtain ⟨y, hy⟩ : ∃ y, (fill (fun e => .int .u8 (evB e)) (.int .u8 0) l k)[k]? = some y := ⟨_, List.getElem?_eq_getElem (by rw [fill_length _ _ _ _ hk]; exact hlt)⟩
        rw [hy] at hc3
        have HM4 := Lib.hid (HM3.out.set k (.int .u8 (evB x)))
        rw [HS.out] at HM4
        have hb4 := hw3.setCell (p := ⟨w.heap.size, k, none⟩) (Nat.le_refl _) (.int .u8 (evB x))
        clear hy HM2 HM3 HB2 x0 x1 x2 x3 hb3
        go_wp2
        go_roundw
        case rel => exact ⟨k + 1, by omega, by go_num, (by show _ = _; rw [HT.out, List.all_append, HA.out]; simp [HR.out]), HM4, hb4⟩
        case measure => simp [intOf]; omega
    · obtain rfl : k = l.length := by omega
      have hcv : (convert 39 9 (.slice (some ⟨w.heap.size, 0, none⟩) l.length l.length)).run Try.prog wr = .ok (.string (bstr (l.map evB))) wr := by
        have h := HM.out
        rw [fill_all] at h
        refine run_bstr_mid (ns := l.map evB) ?_ (by simp)
        rw [List.map_map]
        exact h
      have HP : Hid (printE l = l.map evB) := by
        show _ = _
        unfold printE
        have h := HA.out
        rw [List.take_length] at h
        rw [if_pos h]
      go_wp2
      go_ret
      exact ⟨ret_str (by rw [HP.out]), hb⟩

end Go.Proofs.Ytopklnehhebhmaa

/- The contract of foata's spell. -/
namespace Go.Proofs.Ytopklnehhebhmaa
open Go.RowKit

/-- The bytes of levels. -/
def lvB (row : List Ev) : List Int := (row.length : Int) :: printE row
def spellB (m : List (List Ev)) : List Int := m.flatMap lvB ++ [0]
theorem printE_le (row : List Ev) : (printE row).length ≤ row.length := by
  unfold printE
  split
  · simp
  · simp
theorem printE_bd (row : List Ev) : ∀ n ∈ printE row, 0 ≤ n ∧ n < 256 := by
  intro n hn
  unfold printE at hn
  split at hn
  · rename_i h
    obtain ⟨e, he, rfl⟩ := List.mem_map.1 hn
    exact evB_bd (List.all_eq_true.1 h e he)
  · simp at hn
theorem strCells_bstr (ns : List Int) (h : ∀ n ∈ ns, 0 ≤ n ∧ n < 256) : Lib.strCells (bstr ns) = ns.map (Value.int .u8) := by
  unfold Lib.strCells bstr
  simp only [List.map_map]
  refine List.map_congr_left fun n hn => ?_
  obtain ⟨h0, h1⟩ := h n hn
  simp only [Function.comp]
  congr 1
  have : (UInt8.ofNat n.toNat).toNat = n.toNat := by rw [UInt8.toNat_ofNat']; omega
  rw [this]
  omega
theorem bstr_size (ns : List Int) : (bstr ns).size = ns.length := by
  show (bstr ns).data.size = _
  simp [bstr]
theorem lvB_len (m : List (List Ev)) (k : Nat) : ((m.take k).flatMap lvB).length ≤ k + m.flatten.length := by
  have h : ∀ (m : List (List Ev)), (m.flatMap lvB).length ≤ m.length + m.flatten.length := by
    intro m
    induction m with
    | nil => simp
    | cons r m ih =>
      rw [List.flatMap_cons, List.length_append, List.flatten_cons, List.length_append, List.length_cons]
      have := printE_le r
      have e : (lvB r).length = (printE r).length + 1 := rfl
      omega
  have h1 := h (m.take k)
  have h2 := flat_le m k
  rw [List.length_take] at h1
  omega

set_option maxRecDepth 100000 in
set_option maxHeartbeats 2000000 in
theorem spell_any (a : Option Addr) (cap : Nat) (m : List (List Ev)) (w : World) (hl : LvAt w a m) (hm : m.length ≤ 1000000) (hf : m.flatten.length ≤ 1000000) (h255 : ∀ i, (m.getD i []).length ≤ 255) :
    Calls Try.prog 57 #[.slice a m.length cap] w fun r w' => r = .returned (.string (bstr (spellB m))) ∧ Below w.heap.size w w' := by
  have HL := Lib.hid hl
  have HF := Lib.hid hf
  have H255 := Lib.hid h255
  clear hl hf h255
  obtain ⟨i0, hi0, hzz⟩ := Option.map_eq_some_iff.1 (show (Try.prog.info? 5).map (fun i => (i.zero, i.size, i.bytes)) = some (some (.int .u8 0), 1, 1) by kernel_rfl)
  simp only [Prod.mk.injEq] at hzz
  obtain ⟨hz0, hzs, hzb⟩ := hzz
  go_enter Try.func57, Try.ntmps57
  go_wp2
  go_loopw [3, 8] (fun v i wr => ∃ (k : Nat) (ns : List Int), k ≤ m.length ∧ i = .int .i64 k ∧ Hid (ns = (m.take k).flatMap lvB) ∧ ns.length ≤ 2000000 ∧ Hid (OwnB wr w.heap.size v ns) ∧ Hid (Below w.heap.size w wr)) (fun _ i _ => m.length - (intOf i).toNat)
  case atStart => exact ⟨0, [], Nat.zero_le _, rfl, rfl, by simp, World.ownsRow_nil _ _ _ _, Below.refl _ _⟩
  case round =>
    obtain ⟨k, ns, hk, rfl, HN, hnl, HO, HB⟩ := hrel
    by_cases hlt : k < m.length
    · obtain ⟨b, o, sa, sc, rfl, t0, he, hn⟩ := HL.out.one hlt
      have c0 := cell_later HB.out t0
      have HE := Lib.hid he
      have hL := H255.out k
      have HT : Hid ((m.take (k + 1)).flatMap lvB = (m.take k).flatMap lvB ++ ((((m.getD k []).length : Nat) : Int) :: printE (m.getD k []))) := by
        show _ = _
        rw [List.take_add_one, List.getElem?_eq_getElem hlt, List.flatMap_append, getD_lt _ hlt]
        simp [lvB]
      have HLn : Hid (((m.take (k + 1)).flatMap lvB).length ≤ 2000000) := by
        have := lvB_len m (k + 1)
        have := HF.out
        show _ ≤ _
        omega
      have HPL := Lib.hid (printE_le (m.getD k []))
      have HPB := Lib.hid (printE_bd (m.getD k []))
      clear t0 he hn
      generalize m.getD k [] = row at *
      have hw : IntKind.u8.wrap (row.length : Int) = row.length := by
        simp [IntKind.wrap, IntKind.bits, IntKind.signed]
        omega
      have hBB := HB.out.size
      go_wp2_with (at_builtin; refine wp_appendB rfl _ _ rfl w.heap.size _ ns rfl (HO.out.alloc _) ⟨wr.heap.size, 0, none⟩ 1 1 rfl [(row.length : Int)] rfl (bytes_new wr [(row.length : Int)] _ _ rfl) (by omega) (by simp; omega) ?_; intro v1 w4 hown4 hb4)
      have HO4 := Lib.hid hown4
      have hb5 := (HB.out.alloc hBB _).trans hb4
      clear hown4 hb4
      refine (evPrint_any sa sc row w4 (HE.out.later hb5) (by omega)).mono ?_
      rintro r w5 ⟨rfl, hb6⟩
      have HO5 : Hid (w5.ownsRow w.heap.size 5 1 v1 (ns ++ [(row.length : Int)]).length ((ns ++ [(row.length : Int)]).map (Value.int .u8))) := ownsRow_later HO4.out hb6
      have HB5 := Lib.hid (hb5.trans (hb6.mono hb5.size))
      have hBB5 := HB5.out.size
      have hsz : (bstr (printE row)).size = (printE row).length := bstr_size _
      have hpl := HPL.out
      clear hb5 hb6 HO4
      go_wp2_with (at_builtin; refine Lib.wpList_append_own_string _ rfl _ _ 39 9 rfl w.heap.size 5 i0 Try.underlying39 Try.underlying9 hi0 hz0 hzs hzb _ _ _ rfl HO5.out (bstr (printE row)) rfl (by simp [hsz]; unfold maxLen; omega) (by simp [hsz]; omega) hBB5 ?_; intro v2 w6 h1 h2 _)
      have HB7 : Hid (Below w.heap.size w w6) := HB5.out.trans ((Below.refl _ w5).grown h2 hBB5 (fun k hk => (World.ownsRow.lt HO5.out k hk).1))
      have HO7 : Hid (OwnB w6 w.heap.size v2 (ns ++ [(row.length : Int)] ++ printE row)) := by
        show OwnB _ _ _ _
        unfold OwnB
        rw [strCells_bstr _ HPB.out, hsz] at h1
        rw [List.length_append, List.map_append]
        exact h1
      have HN7 : Hid (ns ++ [(row.length : Int)] ++ printE row = (m.take (k + 1)).flatMap lvB) := by
        show _ = _
        rw [HT.out, HN.out]
        simp
      clear h1 h2
      go_roundw
      case rel => exact ⟨k + 1, ns ++ [(row.length : Int)] ++ printE row, by omega, by go_num, HN7, by rw [HN7.out]; exact HLn.out, HO7, HB7⟩
      case measure => simp [intOf]; omega
    · obtain rfl : k = m.length := by omega
      have HS : Hid (spellB m = ns ++ [0]) := by
        show _ = _
        have h := HN.out
        rw [List.take_length] at h
        unfold spellB
        rw [h]
      have hBB := HB.out.size
      go_wp2_with (at_builtin; refine wp_appendB rfl _ _ rfl w.heap.size _ ns rfl (HO.out.alloc _) ⟨wr.heap.size, 0, none⟩ 1 1 rfl [0] rfl (bytes_new wr [0] _ _ rfl) (by omega) (by simp; omega) ?_; intro v1 w4 hown4 hb4; have hcv := run_bstr hown4 (by simp); have HB4 := Lib.hid ((HB.out.alloc hBB _).trans hb4); clear hown4 hb4)
      go_ret
      exact ⟨ret_str (by rw [HS.out]), HB4.out⟩

end Go.Proofs.Ytopklnehhebhmaa

/- The contracts of slices.Equal of events, and of slices.EqualFunc of levels with it. -/
namespace Go.Proofs.Ytopklnehhebhmaa
open Go.RowKit

set_option maxRecDepth 100000 in
set_option maxHeartbeats 1000000 in
theorem equalE_any (a a' : Option Addr) (cap cap' : Nat) (l l' : List Ev) (w : World) (hl : EvsAt w a l) (hl' : EvsAt w a' l') :
    Calls Try.prog 56 #[.slice a l.length cap, .slice a' l'.length cap'] w fun r w' => r = .returned (.bool (decide (l = l'))) ∧ Below w.heap.size w w' := by
  have hm := hl.1
  have hm' := hl'.1
  unfold maxLen at hm hm'
  have HL := Lib.hid hl
  have HL' := Lib.hid hl'
  clear hl hl'
  by_cases hne : l.length = l'.length
  · have HE := Lib.hid hne
    have hq : ((l.length : Int) != l'.length) = false := by simp [hne]
    have hm2 : l.length ≤ l'.length := by omega
    have hm3 : l'.length ≤ l.length := by omega
    clear hne
    go_enter Try.func56, Try.ntmps56
    go_wp2
    go_loopw [13] (fun i wr => ∃ k : Nat, k ≤ l.length ∧ i = .int .i64 k ∧ Hid (l.take k = l'.take k) ∧ Below w.heap.size w wr) (fun i _ => l.length - (intOf i).toNat)
    case atStart => exact ⟨0, Nat.zero_le _, rfl, rfl, Below.refl _ _⟩
    case round =>
      obtain ⟨k, hk, rfl, hall, hb⟩ := hrel
      by_cases hlt : k < l.length
      · have hlt' : k < l'.length := by omega
        obtain ⟨b, o, rfl, hc⟩ := HL.out.2 (by intro e; simp [e] at hlt)
        obtain ⟨b', o', rfl, hc'⟩ := HL'.out.2 (by intro e; simp [e] at hlt')
        obtain ⟨c0, c1, c2, c3⟩ := hc k hlt
        obtain ⟨c0', c1', c2', c3'⟩ := hc' k hlt'
        have d0 := cell_later hb c0
        have d1 := cell_later hb c1
        have d2 := cell_later hb c2
        have d3 := cell_later hb c3
        have d0' := cell_later hb c0'
        have d1' := cell_later hb c1'
        have d2' := cell_later hb c2'
        have d3' := cell_later hb c3'
        clear hc hc' c0 c1 c2 c3 c0' c1' c2' c3'
        have HT := Lib.hid (List.take_succ_eq_append_getElem hlt : l.take (k + 1) = l.take k ++ [l[k]])
        have HT' := Lib.hid (List.take_succ_eq_append_getElem hlt' : l'.take (k + 1) = l'.take k ++ [l'[k]])
        have heq := run_equal_ev l[k] l'[k]
        by_cases he : l[k] = l'[k]
        · have hq2 : decide (l[k] = l'[k]) = true := by simp [he]
          rw [hq2] at heq
          have HR : Hid (l.take (k + 1) = l'.take (k + 1)) := by show _ = _; rw [HT.out, HT'.out, hall.out, he]
          clear he hq2 HT HT'
          generalize l[k] = x at *
          generalize l'[k] = x' at *
          go_wp2
          go_quiet (fail)
          go_wp2
          go_roundw
          case rel => exact ⟨k + 1, by omega, by go_num, HR, hb.drewN⟩
          case measure => simp [intOf]; omega
        · have hq2 : decide (l[k] = l'[k]) = false := by simpa using he
          rw [hq2] at heq
          have HR : Hid (decide (l = l') = false) := by show _ = _; simp; rintro rfl; exact he rfl
          clear he hq2 HT HT'
          generalize l[k] = x at *
          generalize l'[k] = x' at *
          go_wp2
          go_quiet (fail)
          go_wp2
          go_ret
          exact ⟨ret_bool HR.out.symm, hb.drewN⟩
      · obtain rfl : k = l.length := by omega
        have HR : Hid (decide (l = l') = true) := by
          show _ = _
          have h := hall.out
          rw [List.take_length, HE.out, List.take_length] at h
          simp [h]
        go_wp2
        go_ret
        exact ⟨ret_bool HR.out.symm, hb⟩
  · have hq : ((l.length : Int) != l'.length) = true := by simp; omega
    have H : Hid (decide (l = l') = false) := by show _ = _; simp; intro e; exact hne (by rw [e])
    clear hne
    go_enter Try.func56, Try.ntmps56
    go_wp2
    go_ret
    exact ⟨ret_bool H.out.symm, Below.refl _ _⟩

theorem take_snoc {T : Type} {m m' : List (List T)} {k : Nat} (hk : k < m.length) (hk' : k < m'.length) (h : m.take k = m'.take k) (he : m.getD k [] = m'.getD k []) : m.take (k + 1) = m'.take (k + 1) := by
  rw [List.take_add_one, List.take_add_one, h, List.getElem?_eq_getElem hk, List.getElem?_eq_getElem hk']
  rw [getD_lt _ hk, getD_lt _ hk'] at he
  rw [he]

set_option maxRecDepth 100000 in
set_option maxHeartbeats 2000000 in
theorem lvEq_any (a a' : Option Addr) (cap cap' : Nat) (m m' : List (List Ev)) (w : World) (hl : LvAt w a m) (hl' : LvAt w a' m') (hm : m.length ≤ 1000000) (hm' : m'.length ≤ 1000000) :
    Calls Try.prog 53 #[.slice a m.length cap, .slice a' m'.length cap', .func (.func 56) #[] #[]] w fun r w' => r = .returned (.bool (decide (m = m'))) ∧ Below w.heap.size w w' := by
  have HL := Lib.hid hl
  have HL' := Lib.hid hl'
  clear hl hl'
  by_cases hne : m.length = m'.length
  case neg =>
    have hq : ((m.length : Int) != m'.length) = true := by simp; omega
    have H : Hid (decide (m = m') = false) := by show _ = _; simp; intro e; exact hne (by rw [e])
    clear hne
    go_enter Try.func53, Try.ntmps53
    go_wp2
    go_ret
    exact ⟨ret_bool H.out.symm, Below.refl _ _⟩
  have HE := Lib.hid hne
  have hq : ((m.length : Int) != m'.length) = false := by simp [hne]
  have hm2 : m.length ≤ m'.length := by omega
  have hm3 : m'.length ≤ m.length := by omega
  clear hne
  go_enter Try.func53, Try.ntmps53
  go_wp2
  go_loopw [17] (fun i wr => ∃ k : Nat, k ≤ m.length ∧ i = .int .i64 k ∧ Hid (m.take k = m'.take k) ∧ Hid (Below w.heap.size w wr)) (fun i _ => m.length - (intOf i).toNat)
  case atStart => exact ⟨0, Nat.zero_le _, rfl, rfl, Below.refl _ _⟩
  case round =>
    obtain ⟨k, hk, rfl, HT, HB⟩ := hrel
    by_cases hlt : k < m.length
    · have hlt' : k < m'.length := by omega
      obtain ⟨b, o, sa, sc, rfl, t0, he, _⟩ := HL.out.one hlt
      obtain ⟨b', o', sa', sc', rfl, t0', he', _⟩ := HL'.out.one hlt'
      have c0 := cell_later HB.out t0
      have c0' := cell_later HB.out t0'
      have HE1 := Lib.hid (he.later HB.out)
      have HE2 := Lib.hid (he'.later HB.out)
      have hx1 : Hid (m.getD k [] = m'.getD k [] → m.take (k + 1) = m'.take (k + 1)) := fun h => take_snoc hlt hlt' HT.out h
      have hx2 : Hid (m.getD k [] ≠ m'.getD k [] → decide (m = m') = false) := fun h => by simp; rintro rfl; exact h rfl
      clear t0 t0' he he'
      generalize m.getD k [] = x at *
      generalize m'.getD k [] = x' at *
      go_wp2_with fail
      refine (equalE_any sa sa' sc sc' x x' _ HE1.out HE2.out).mono ?_
      rintro r w2 ⟨rfl, hb2⟩
      have HB2 := Lib.hid (HB.out.trans (hb2.mono HB.out.size))
      clear hb2
      by_cases hxx : x = x'
      · have hq2 : decide (x = x') = true := by simp [hxx]
        have HN := Lib.hid (hx1.out hxx)
        rw [hq2]
        clear hx1 hx2 hxx hq2
        go_wp2
        go_roundw
        case rel => exact ⟨k + 1, by omega, by go_num, HN, HB2.out⟩
        case measure => simp [intOf]; omega
      · have hq2 : decide (x = x') = false := by simp [hxx]
        have HN := Lib.hid (hx2.out hxx)
        rw [hq2]
        clear hx1 hx2 hxx hq2
        go_wp2
        go_ret
        exact ⟨ret_bool HN.out.symm, HB2.out⟩
    · obtain rfl : k = m.length := by omega
      have HR : Hid (decide (m = m') = true) := by
        show _ = _
        have h := HT.out
        rw [List.take_length, HE.out, List.take_length] at h
        simp [h]
      go_wp2
      go_ret
      exact ⟨ret_bool HR.out.symm, HB.out⟩

end Go.Proofs.Ytopklnehhebhmaa

/- The contracts of foata's Key and Print. -/
namespace Go.Proofs.Ytopklnehhebhmaa
open Go.RowKit

def keyF (l : List Ev) : List Int := if rightF l then spellB (lvls l) else []
def printF (m : List (List Ev)) : List Int := if levelsF m.flatten = m then spellB m else []
theorem levelsF_len (l : List Ev) : (levelsF l).length ≤ 200 := by
  unfold levelsF
  cases h : rightF l
  · simp
  · simp only [if_pos]
    have := lv_count l
    unfold rightF at h
    simp at h
    omega
theorem levelsF_row (l : List Ev) (i : Nat) : ((levelsF l).getD i []).length ≤ 200 := by
  unfold levelsF
  cases h : rightF l
  · simp [List.getD]
  · simp only [if_pos]
    have := lv_small l i
    unfold rightF at h
    simp at h
    omega
theorem levelsF_flat (l : List Ev) : (levelsF l).flatten.length ≤ 200 := by
  unfold levelsF
  cases h : rightF l
  · simp
  · simp only [if_pos]
    have := lvls_count l
    unfold rightF at h
    simp at h
    omega
theorem OwnLv.formF {w : World} {B : Nat} {v : Value} {ss : List Sl} {l : List Ev} (h : OwnLv w B v ss (levelsF l)) : ∃ a cap, v = .slice a (levelsF l).length cap ∧ LvAt w a (levelsF l) ∧ (a = none → cap = 0) :=
  OwnLv.form h (by have := levelsF_len l; omega) (fun i _ => by have := levelsF_row l i; omega)

set_option maxRecDepth 100000 in
set_option maxHeartbeats 2000000 in
theorem print_any (a : Option Addr) (cap : Nat) (m : List (List Ev)) (w : World) (hl : LvAt w a m) (hm : m.length ≤ 1000000) (hf : m.flatten.length ≤ 1000000) :
    Calls Try.prog 37 #[.slice a m.length cap] w fun r w' => r = .returned (.string (bstr (printF m))) ∧ Below w.heap.size w w' := by
  have HL := Lib.hid hl
  have HF := Lib.hid hf
  have HC0 := Lib.hid (row_any a cap m w hl hm hf)
  have HSP : Hid (∀ w', LvAt w' a m → (∀ i, (m.getD i []).length ≤ 255) → Calls Try.prog 57 #[.slice a m.length cap] w' fun r w'' => r = .returned (.string (bstr (spellB m))) ∧ Below w'.heap.size w' w'') := fun w' h1 h2 => spell_any a cap m w' h1 hm hf h2
  clear hl hf
  have HS : Hid (levelsF m.flatten = m → ∀ i, (m.getD i []).length ≤ 255) := fun h i => by
    have := levelsF_row m.flatten i
    rw [h] at this
    omega
  have HP : Hid (printF m = if decide (levelsF m.flatten = m) = true then spellB m else []) := by show _ = _; unfold printF; simp
  have HLF : Hid ((levelsF m.flatten).length ≤ 200) := levelsF_len _
  go_enter Try.func37, Try.ntmps37
  go_wp2_with fail
  refine HC0.out.mono ?_
  rintro r w1 ⟨v1, rfl, h1, hb1⟩
  obtain ⟨a1, cap1, rfl, he1⟩ := OwnE.form h1 HF.out
  have HC1 := Lib.hid (levels_any a1 cap1 m.flatten w1 he1)
  have HL1 := Lib.hid (HL.out.later hb1)
  clear h1 he1 HC0 HF
  generalize m.flatten = fl at *
  go_wp2_with fail
  refine HC1.out.mono ?_
  rintro r w2 ⟨v2, ss, rfl, hv, hb2⟩
  obtain ⟨a2, cap2, rfl, hat, _⟩ := OwnLv.formF hv
  have HC2 := Lib.hid (lvEq_any a2 a cap2 cap (levelsF fl) m w2 hat (HL1.out.later hb2) (by have := HLF.out; omega) hm)
  have hb3 := hb1.trans (hb2.mono hb1.size)
  clear hv hat hb1 hb2 HC1
  generalize levelsF fl = m2 at *
  go_wp2_with fail
  refine HC2.out.mono ?_
  rintro r w3 ⟨rfl, hb4⟩
  have hb5 := hb3.trans (hb4.mono hb3.size)
  clear HC2 hb3 hb4
  by_cases h : m2 = m
  · have hq : decide (m2 = m) = true := by simp [h]
    have HS2 := Lib.hid (HS.out h)
    have HP2 : Hid (printF m = spellB m) := by show _ = _; rw [HP.out, if_pos hq]
    rw [hq]
    clear h hq HP HS
    go_wp2_with fail
    refine (HSP.out _ (HL.out.later hb5) HS2.out).mono ?_
    rintro r w4 ⟨rfl, hb6⟩
    have hb7 := hb5.trans (hb6.mono hb5.size)
    clear hb6
    go_wp2
    go_ret
    exact ⟨ret_str (by rw [HP2.out]), hb7⟩
  · have hq : decide (m2 = m) = false := by simp [h]
    have HP2 : Hid (printF m = []) := by show _ = _; rw [HP.out, hq]; rfl
    rw [hq]
    clear h hq HP HS
    go_wp2
    go_ret
    exact ⟨ret_str (by rw [HP2.out]; rfl), hb5⟩

end Go.Proofs.Ytopklnehhebhmaa

/- The contract of foata's parse. -/
namespace Go.Proofs.Ytopklnehhebhmaa
open Go.RowKit

/-- At most n levels out of bytes. -/
def parseN : Nat → List UInt8 → List (List Ev)
  | 0, _ => []
  | _ + 1, [] => []
  | n + 1, c :: r => if c.toNat = 0 then [] else readE (r.take c.toNat) :: parseN n (r.drop c.toNat)

/-- A level more, read. -/
theorem OwnLv.push {w w1 w' : World} {B : Nat} {v v' : Value} {ss : List Sl} {m : List (List Ev)} {s : Sl} {es : List Ev} (h : OwnLv w B v ss m) (hb : Below w.heap.size w w1) (hr : OwnE w1 w.heap.size (slV s) es) (hB : B ≤ w.heap.size)
    (ho : OwnRow w' B 63 1 slCell v' (ss ++ [s])) (hg : w1.grownBy w' v.ownBlock) : OwnLv w' B v' (ss ++ [s]) (m ++ [es]) := by
  have h1 := h.later hb
  have hnew : ∀ i (hi : i < ss.length), (slV s).ownBlock = none ∨ (slV s).ownBlock ≠ (slV ss[i]).ownBlock := fun i hi => by
    cases e : (slV s).ownBlock with
    | none => exact .inl rfl
    | some b =>
      right
      intro e2
      have h2 := (World.ownsRow.lt (h.inner i hi) b e2.symm).2
      have h3 := (World.ownsRow.lt hr b e).1
      omega
  have hr' : OwnE w' B (slV s) es := World.ownsRow.kept (ownsRow_base hr hB) hg (rows_apart hr h1.outer (Ne.symm tyNe))
  refine ⟨by simp [h.len], ho, fun i hi => ?_, fun i j hi hj hne => ?_⟩
  · by_cases hlt : i < ss.length
    · have e1 : (ss ++ [s])[i] = ss[i] := List.getElem_append_left hlt
      have e2 : (m ++ [es]).getD i [] = m.getD i [] := by simp [List.getD, List.getElem?_append_left (show i < m.length by rw [← h.len]; exact hlt)]
      rw [e1, e2]
      exact World.ownsRow.kept (h1.inner i hlt) hg (rows_apart (h1.inner i hlt) h1.outer (Ne.symm tyNe))
    · have e0 : i = ss.length := by simp at hi; omega
      subst e0
      have e1 : (ss ++ [s])[ss.length] = s := by simp
      have e2 : (m ++ [es]).getD ss.length [] = es := by rw [h.len]; simp [List.getD]
      rw [e1, e2]
      exact hr'
  · by_cases hlt : i < ss.length
    · have e1 : (ss ++ [s])[i] = ss[i] := List.getElem_append_left hlt
      rw [e1]
      by_cases hlj : j < ss.length
      · have e2 : (ss ++ [s])[j] = ss[j] := List.getElem_append_left hlj
        rw [e2]
        exact h.apart i j hlt hlj hne
      · have e0 : j = ss.length := by simp at hj; omega
        subst e0
        have e2 : (ss ++ [s])[ss.length] = s := by simp
        rw [e2]
        rcases hnew i hlt with h2 | h2
        · cases e3 : (slV ss[i]).ownBlock
          · exact .inl rfl
          · right; rw [h2]; simp
        · exact .inr (fun e => h2 e.symm)
    · have e0 : i = ss.length := by simp at hi; omega
      subst e0
      have e1 : (ss ++ [s])[ss.length] = s := by simp
      rw [e1]
      have hlj : j < ss.length := by simp at hj; omega
      have e2 : (ss ++ [s])[j] = ss[j] := List.getElem_append_left hlj
      rw [e2]
      exact hnew j hlj

theorem cut_mid (l : List UInt8) (i j : Nat) : (⟨l.toArray⟩ : ByteArray).extract i j = ⟨((l.take j).drop i).toArray⟩ := by
  apply ByteArray.ext
  rw [ByteArray.data_extract]
  simp [List.extract_eq_take_drop, List.drop_take]

def strLen : Value → Nat
  | .string b => b.size
  | _ => 0

set_option maxRecDepth 100000 in
set_option maxHeartbeats 4000000 in
theorem parse_any (s : List UInt8) (w : World) (hm : s.length ≤ 1000000) :
    Calls Try.prog 36 #[.string ⟨s.toArray⟩] w (LvR w.heap.size w (parseN 200 s)) := by
  go_enter Try.func36, Try.ntmps36
  go_wp2
  go_loopw [0, 3] (fun s0 v wr => ∃ (t : List UInt8) (ss : List Sl) (m : List (List Ev)) (a : Option Addr) (cap : Nat), s0 = .string ⟨t.toArray⟩ ∧ v = .slice a m.length cap ∧ t.length ≤ 1000000 ∧ m.length ≤ 200 ∧ Hid (m ++ parseN (200 - m.length) t = parseN 200 s) ∧ Hid (OwnLv wr w.heap.size v ss m) ∧ Hid (Below w.heap.size w wr)) (fun s0 _ _ => strLen s0)
  case atStart => exact ⟨s, [], [], none, 0, rfl, rfl, hm, by simp, rfl, ownLv_nil _ _, Below.refl _ _⟩
  case round =>
    obtain ⟨t, ss, m, a, cap, rfl, rfl, ht, hm200, HP, HV, HB⟩ := hrel
    cases t with
    | nil =>
      have HE : Hid (m = parseN 200 s) := by
        have h := HP.out
        have e : parseN (200 - m.length) [] = [] := by cases 200 - m.length <;> rfl
        rw [e, List.append_nil] at h
        exact h
      have hsz : (⟨([] : List UInt8).toArray⟩ : ByteArray).size = 0 := rfl
      go_wp2
      go_ret
      exact ⟨_, ss, rfl, by rw [← HE.out]; exact HV.out, HB.out⟩
    | cons c r =>
      have hsz : (⟨(c :: r).toArray⟩ : ByteArray).size = r.length + 1 := rfl
      have hix : ∀ h : 0 < (⟨(c :: r).toArray⟩ : ByteArray).size, (⟨(c :: r).toArray⟩ : ByteArray)[0] = c := fun _ => rfl
      have bc := UInt8.toNat_lt c
      have hl0 : decide ((0 : Int) < (r.length : Int) + 1) = true := by simp
      have hl1 : (0 : Int) < (r.length : Int) + 1 := by omega
      simp only [List.length_cons] at ht
      by_cases hc0 : c.toNat = 0
      · obtain rfl : c = 0 := UInt8.toNat_inj.1 hc0
        have HE : Hid (m = parseN 200 s) := by
          have h := HP.out
          have e : parseN (200 - m.length) (0 :: r) = [] := by cases 200 - m.length <;> simp [parseN]
          rw [e, List.append_nil] at h
          exact h
        clear hc0
        go_wp2
        go_ret
        exact ⟨_, ss, rfl, by rw [← HE.out]; exact HV.out, HB.out⟩
      · have hq : decide ((0 : Int) < (c.toNat : Int)) = true := by simp; omega
        by_cases hm2 : m.length = 200
        · have HE : Hid (m = parseN 200 s) := by
            have h := HP.out
            rw [hm2] at h
            have e : parseN (200 - 200) (c :: r) = [] := rfl
            rw [e, List.append_nil] at h
            exact h
          rw [hm2] at HV ⊢
          clear hm2
          go_wp2
          go_ret
          exact ⟨_, ss, rfl, by rw [← HE.out]; exact HV.out, HB.out⟩
        · have hq2 : decide ((m.length : Int) < 200) = true := by simp; omega
          have hq3 : m.length < 200 := by omega
          have hq4 : (m.length : Int) < 200 := by omega
          have hq5 : decide (m.length < 200) = true := by simp; omega
          obtain ⟨E, hE, hE1, hE2, hE3⟩ : ∃ E : Nat, min (1 + (c.toNat : Int)) ((r.length : Int) + 1) = E ∧ 1 ≤ E ∧ E ≤ r.length + 1 ∧ E = min (1 + c.toNat) (r.length + 1) := ⟨min (1 + c.toNat) (r.length + 1), by omega, by omega, by omega, rfl⟩
          have HP2 : Hid ((m ++ [readE (r.take c.toNat)]) ++ parseN (200 - (m.length + 1)) (r.drop c.toNat) = parseN 200 s) := by
            show _ = _
            rw [← HP.out]
            obtain ⟨q, hq'⟩ : ∃ q, 200 - m.length = q + 1 := ⟨200 - m.length - 1, by omega⟩
            have e2 : 200 - (m.length + 1) = q := by omega
            rw [hq', e2, parseN, if_neg hc0]
            simp
          have vc : IntKind.i64.wrap (c.toNat : Int) = c.toNat := IntWalk.i64_in _ (by omega)
          have vd : IntKind.i64.wrap (1 + (c.toNat : Int)) = 1 + c.toNat := IntWalk.i64_in _ (by omega)
          have hx1 : (⟨(c :: r).toArray⟩ : ByteArray).extract 1 E = ⟨(r.take c.toNat).toArray⟩ := by
            rw [cut_mid]
            congr 2
            obtain ⟨q, rfl⟩ : ∃ q, E = q + 1 := ⟨E - 1, by omega⟩
            rw [List.take_succ_cons, List.drop_succ_cons, List.drop_zero]
            by_cases hcr : c.toNat ≤ r.length
            · congr 1; omega
            · rw [List.take_of_length_le (by omega), List.take_of_length_le (by omega)]
          have hx2 : (⟨(c :: r).toArray⟩ : ByteArray).extract E (r.length + 1) = ⟨(r.drop c.toNat).toArray⟩ := by
            rw [cut_mid]
            congr 2
            obtain ⟨q, rfl⟩ : ∃ q, E = q + 1 := ⟨E - 1, by omega⟩
            rw [List.take_of_length_le (by simp), List.drop_succ_cons]
            by_cases hcr : c.toNat ≤ r.length
            · congr 1; omega
            · rw [List.drop_eq_nil_of_le (by omega), List.drop_eq_nil_of_le (by omega)]
          have hE4 : (1 : Int) ≤ (E : Int) := by omega
          have hE5 : (E : Int) ≤ (r.length : Int) + 1 := by omega
          clear hm2 hE3
          have htl : (r.take c.toNat).length ≤ 1000000 := by have := List.length_take_le' c.toNat r; omega
          have hdl : (r.drop c.toNat).length ≤ r.length := by simp
          have HDL := Lib.hid hdl
          go_wp2_with fail
          refine (evReadO_any (r.take c.toNat) wr htl).mono ?_
          rintro x w1 ⟨a1, cap1, rfl, h1, hb1⟩
          have HR1 := Lib.hid h1
          have hb1s := hb1.size
          have hBB := HB.out.size
          have HB1 := Lib.hid (HB.out.trans (hb1.mono hBB))
          have HV1 := Lib.hid (HV.out.later hb1)
          have HVB := Lib.hid hb1
          clear hx1 h1 hb1 htl hdl
          have hinf := infoSl
          go_wp2_with (at_builtin; refine wp_appendR (f := slCell) (n := 1) 50 63 24 (.slice none 0 0) Try.underlying50 infoSl rfl (by omega) (by omega) slCell_len rfl _ _ rfl w.heap.size _ ss rfl (HV1.out.outer.alloc _) ⟨w1.heap.size, 0, none⟩ rfl ⟨a1, (readE (r.take c.toNat)).length, cap1⟩ (slCell_one _) (cells_new w1 (slCell ⟨a1, (readE (r.take c.toNat)).length, cap1⟩) _ _ rfl) (by have := HV1.out.len; omega) (by simp; omega) ?_; intro v' w' h1 h2 h3; obtain ⟨g, capg, hv, _, _⟩ := OwnRow.block h1 (by simp); rw [List.length_append, List.length_singleton] at hv; subst hv)
          have HV2 : Hid (OwnLv w' w.heap.size (.slice (some ⟨g, 0, none⟩) (m ++ [readE (r.take c.toNat)]).length capg) (ss ++ [⟨a1, (readE (r.take c.toNat)).length, cap1⟩]) (m ++ [readE (r.take c.toNat)])) := by
            show OwnLv _ _ _ _ _
            have hlen : (m ++ [readE (r.take c.toNat)]).length = ss.length + 1 := by simp [HV1.out.len]
            rw [hlen]
            exact OwnLv.push HV.out (HVB.out.trans ((below_alloc1 w1 _).mono hb1s)) (HR1.out.alloc _) hBB h1 h3
          have HB2 : Hid (Below w.heap.size w w') := HB1.out.trans (((below_alloc1 w1 (.cells #[.slice a1 (readE (r.take c.toNat)).length cap1] 63)).mono HB1.out.size).trans h2)
          have hsl : ss.length = m.length := HV.out.len
          rw [hsl]
          clear h1 h2 h3
          go_roundw
          case rel => exact ⟨r.drop c.toNat, ss ++ [⟨a1, (readE (r.take c.toNat)).length, cap1⟩], m ++ [readE (r.take c.toNat)], some ⟨g, 0, none⟩, capg, rfl, by simp, by have := HDL.out; omega, by simp; omega, by rw [List.length_append, List.length_singleton]; exact HP2, (by have h := HV2.out; rw [List.length_append, List.length_singleton] at h; exact h), HB2⟩
          case measure =>
            have h1 := HDL.out
            show (⟨(r.drop c.toNat).toArray⟩ : ByteArray).size < (⟨(c :: r).toArray⟩ : ByteArray).size
            have e1 : (⟨(r.drop c.toNat).toArray⟩ : ByteArray).size = (r.drop c.toNat).length := rfl
            rw [e1, hsz]
            omega

end Go.Proofs.Ytopklnehhebhmaa

/- The contract of foata's Read. -/
namespace Go.Proofs.Ytopklnehhebhmaa
open Go.RowKit

theorem readE_le (s : List UInt8) : (readE s).length ≤ s.length := by
  unfold readE
  split
  · simp [evsOf]
  · simp
theorem parseN_len : ∀ (n : Nat) (s : List UInt8), (parseN n s).length ≤ n
  | 0, _ => by simp [parseN]
  | n + 1, [] => by simp [parseN]
  | n + 1, c :: r => by
    unfold parseN
    split
    · simp
    · have := parseN_len n (r.drop c.toNat)
      simp
      omega
theorem parseN_row : ∀ (n : Nat) (s : List UInt8), ∀ row ∈ parseN n s, row.length ≤ 255
  | 0, _ => by simp [parseN]
  | n + 1, [] => by simp [parseN]
  | n + 1, c :: r => by
    unfold parseN
    split
    · simp
    · intro row hrow
      rcases List.mem_cons.1 hrow with rfl | hrow
      · have := readE_le (r.take c.toNat)
        have := List.length_take_le c.toNat r
        have := UInt8.toNat_lt c
        omega
      · exact parseN_row n _ row hrow
theorem parseN_flat : ∀ (n : Nat) (s : List UInt8), (parseN n s).flatten.length ≤ n * 255
  | 0, _ => by simp [parseN]
  | n + 1, [] => by simp [parseN]
  | n + 1, c :: r => by
    unfold parseN
    split
    · simp
    · rw [List.flatten_cons, List.length_append]
      have := parseN_flat n (r.drop c.toNat)
      have := readE_le (r.take c.toNat)
      have := List.length_take_le c.toNat r
      have := UInt8.toNat_lt c
      omega
theorem parseN_get (n : Nat) (s : List UInt8) (i : Nat) : ((parseN n s).getD i []).length ≤ 255 := by
  by_cases h : i < (parseN n s).length
  · rw [getD_lt _ h]
    exact parseN_row n s _ (List.getElem_mem h)
  · simp [List.getD, List.getElem?_eq_none (Nat.le_of_not_lt h)]

/-- Are these bytes some row's Key? -/
def keyOk (s : List UInt8) : Prop := bstr (printF (parseN 200 s)) = ⟨s.toArray⟩
def ReadFR (w : World) (s : List UInt8) (r : Ending) (w' : World) : Prop :=
  ((keyOk s ∧ ∃ v ss, r = .returned (.tuple #[v, .int .i64 0]) ∧ OwnLv w' w.heap.size v ss (parseN 200 s)) ∨ (¬ keyOk s ∧ r = .returned (.tuple #[.slice none 0 0, .int .i64 3]))) ∧ Below w.heap.size w w'

set_option maxRecDepth 100000 in
set_option maxHeartbeats 2000000 in
theorem readF_any (s : List UInt8) (w : World) (hm : s.length ≤ 1000000) :
    Calls Try.prog 28 #[.string ⟨s.toArray⟩] w (ReadFR w s) := by
  have HC := Lib.hid (parse_any s w hm)
  have HPL := Lib.hid (parseN_len 200 s)
  have HPF := Lib.hid (parseN_flat 200 s)
  have HPG := Lib.hid (parseN_get 200 s)
  have HK : Hid (keyOk s ↔ bstr (printF (parseN 200 s)) = ⟨s.toArray⟩) := Iff.rfl
  have HFR : Hid (∀ r w', ReadFR w s r w' ↔ ((keyOk s ∧ ∃ v ss, r = .returned (.tuple #[v, .int .i64 0]) ∧ OwnLv w' w.heap.size v ss (parseN 200 s)) ∨ (¬ keyOk s ∧ r = .returned (.tuple #[.slice none 0 0, .int .i64 3]))) ∧ Below w.heap.size w w') := fun _ _ => Iff.rfl
  generalize parseN 200 s = m at *
  go_enter Try.func28, Try.ntmps28
  go_wp2_with fail
  refine HC.out.mono ?_
  rintro r w1 ⟨v, ss, rfl, hv, hb1⟩
  obtain ⟨a, cap, rfl, hat, _⟩ := OwnLv.form hv (by have := HPL.out; omega) (fun i _ => by have := HPG.out i; omega)
  have HV := Lib.hid hv
  have HP := Lib.hid (print_any a cap m w1 hat (by have := HPL.out; omega) (by have := HPF.out; omega))
  clear hv hat HC
  go_wp2_with fail
  refine HP.out.mono ?_
  rintro r w2 ⟨rfl, hb2⟩
  have hb3 := hb1.trans (hb2.mono hb1.size)
  have HV2 := Lib.hid (HV.out.later hb2)
  clear HP HV hb1 hb2
  generalize bstr (printF m) = S at *
  obtain ⟨L, rfl⟩ : ∃ L : List UInt8, S = ⟨L.toArray⟩ := ⟨S.data.toList, by simp⟩
  by_cases h : L = s
  · have hq : (L == s) = true := by simp [h]
    have HKK : Hid (keyOk s) := HK.out.2 (by rw [h])
    clear h HK
    go_wp2
    go_ret2
    exact (HFR.out _ _).2 ⟨.inl ⟨HKK.out, _, ss, rfl, HV2.out⟩, hb3⟩
  · have hq : (L == s) = false := by simp [h]
    have HKK : Hid (¬ keyOk s) := fun e => h (by
      have e2 := HK.out.1 e
      injection e2 with e2
      simpa using congrArg Array.toList e2)
    clear h HK
    go_wp2
    go_ret2
    exact (HFR.out _ _).2 ⟨.inr ⟨HKK.out, rfl⟩, hb3⟩

end Go.Proofs.Ytopklnehhebhmaa

/- Two rows are the same, plainly, and as a call answers it. -/
namespace Go.Proofs.Ytopklnehhebhmaa
open Go.RowKit

/-- Two rows are the same, but for an order that doesn't matter. -/
def SameO (a b : List Ev) : Prop := rightL a = true ∧ rightL b = true ∧ Sim a b
def SameR (a b : List Ev) (w : World) (r : Ending) (w' : World) : Prop := ∃ c : Bool, r = .returned (.bool c) ∧ (c = true ↔ SameO a b) ∧ Below w.heap.size w w'
theorem in4_of_right {l : List Ev} (h : rightL l = true) : In4 l := by
  intro e he
  unfold rightL at h
  have := rightEv_bd (List.all_eq_true.1 h e he)
  omega
theorem SameO.len {a b : List Ev} (h : SameO a b) : a.length = b.length := h.2.2.len (in4_of_right h.1) (in4_of_right h.2.1)
theorem below_step2 {w8 W w' : World} (h1 : Below w8.heap.size w8 W) (hb : Below W.heap.size W w') : Below w8.heap.size w8 w' := h1.trans (hb.mono h1.size)

end Go.Proofs.Ytopklnehhebhmaa

/- Keys, plainly: bytes are read as they were printed, and two rows have one key just if they are the same. -/
namespace Go.Proofs.Ytopklnehhebhmaa
open Go.RowKit

/-- Numbers as bytes. -/
def u8s (ns : List Int) : List UInt8 := ns.map fun n => UInt8.ofNat n.toNat
theorem bstr_u8s (ns : List Int) : bstr ns = ⟨(u8s ns).toArray⟩ := rfl
theorem u8s_append (a b : List Int) : u8s (a ++ b) = u8s a ++ u8s b := by simp [u8s]
theorem u8s_length (a : List Int) : (u8s a).length = a.length := by simp [u8s]
/-- Levels whose bytes can be read. -/
def LvFit (m : List (List Ev)) : Prop := ∀ row ∈ m, 1 ≤ row.length ∧ row.length ≤ 255 ∧ row.all rightEv = true
theorem evsOf_u8s {row : List Ev} (h : row.all rightEv = true) : evsOf (u8s (row.map evB)) = row := by
  unfold evsOf u8s
  rw [List.map_map, List.map_map]
  conv => rhs; rw [← List.map_id row]
  refine List.map_congr_left fun e he => ?_
  have hr := List.all_eq_true.1 h e he
  obtain ⟨h0, h1⟩ := evB_bd hr
  simp only [Function.comp, id]
  have e1 : (UInt8.ofNat (evB e).toNat).toNat = (evB e).toNat := by rw [UInt8.toNat_ofNat']; omega
  rw [e1, show (((evB e).toNat : Nat) : Int) = evB e by omega, evOf_evB hr]
theorem printE_right {row : List Ev} (h : row.all rightEv = true) : printE row = row.map evB := by unfold printE; rw [if_pos h]
theorem readE_print {row : List Ev} (h : row.all rightEv = true) : readE (u8s (printE row)) = row := by
  rw [printE_right h]
  have h1 := evsOf_u8s h
  unfold readE readOk
  rw [h1, if_pos h]
theorem parse_spell : ∀ (m : List (List Ev)) (n : Nat), LvFit m → m.length ≤ n → parseN n (u8s (spellB m)) = m
  | [], 0, _, _ => rfl
  | [], n + 1, _, _ => by
    show parseN (n + 1) [0] = []
    unfold parseN
    rfl
  | row :: m, 0, _, h => by simp at h
  | row :: m, n + 1, hf, h => by
    obtain ⟨h1, h2, h3⟩ := hf row (by simp)
    have e1 : u8s (spellB (row :: m)) = UInt8.ofNat row.length :: (u8s (printE row) ++ u8s (spellB m)) := by
      unfold spellB lvB u8s
      simp
    have e2 : (UInt8.ofNat row.length).toNat = row.length := by rw [UInt8.toNat_ofNat']; omega
    have e3 : (u8s (printE row)).length = row.length := by rw [u8s_length, printE_right h3, List.length_map]
    rw [e1, parseN, e2, if_neg (by omega), List.take_left' e3, List.drop_left' e3, readE_print h3, parse_spell m n (fun r hr => hf r (by simp [hr])) (by simpa using h)]
theorem rightL_all (l : List Ev) : rightL l = l.all rightEv := rfl
theorem lvls_fit {l : List Ev} (hr : rightL l = true) (hl : l.length ≤ 200) : LvFit (lvls l) := by
  intro row hrow
  obtain ⟨i, hi, rfl⟩ := List.mem_iff_getElem.1 hrow
  have hfull := (lvls_ok l).full i hi
  have hsm := lv_small l i
  rw [getD_lt _ hi] at hfull hsm
  refine ⟨List.length_pos_iff.2 hfull, by omega, List.all_eq_true.2 fun e he => ?_⟩
  rw [rightL_all] at hr
  exact List.all_eq_true.1 hr e (mem_lvls (List.mem_flatten.2 ⟨_, hrow, he⟩))
theorem keyF_right {l : List Ev} (hr : rightL l = true) (hl : l.length ≤ 200) : keyF l = spellB (lvls l) := by
  unfold keyF rightF
  rw [hr]
  simp [hl]
theorem keyF_wrong {l : List Ev} (hr : rightL l = false) : keyF l = [] := by
  unfold keyF rightF
  rw [hr]
  simp
theorem parse_key {l : List Ev} (hr : rightL l = true) (hl : l.length ≤ 200) : parseN 200 (u8s (keyF l)) = lvls l := by
  rw [keyF_right hr hl]
  exact parse_spell _ _ (lvls_fit hr hl) (by have := lv_count l; omega)
theorem spell_ne (m : List (List Ev)) : u8s (spellB m) ≠ [] := by
  unfold spellB
  rw [u8s_append]
  simp [u8s]
/-- P5.2. -/
theorem key_iff {a b : List Ev} (hr : rightL a = true) (hl : a.length ≤ 200) (hl' : b.length ≤ 200) : u8s (keyF a) = u8s (keyF b) ↔ SameO a b := by
  constructor
  · intro h
    cases hb : rightL b
    · rw [keyF_wrong hb, keyF_right hr hl] at h
      exact absurd h (spell_ne _)
    · refine ⟨hr, hb, (lvls_iff a b).1 ?_⟩
      rw [← parse_key hr hl, ← parse_key hb hl', h]
  · rintro ⟨_, hb, hs⟩
    rw [keyF_right hr hl, keyF_right hb hl', (lvls_iff a b).2 hs]
theorem right_row {l : List Ev} (hr : rightL l = true) : rightL (lvls l).flatten = true := by
  rw [rightL_all] at *
  exact List.all_eq_true.2 fun e he => List.all_eq_true.1 hr e (mem_lvls he)
theorem row_same {l : List Ev} (hr : rightL l = true) : SameO (lvls l).flatten l := ⟨right_row hr, hr, sim_row l⟩

end Go.Proofs.Ytopklnehhebhmaa

/- Keys of rows as bytes; rows of keys, rising, each once. -/
namespace Go.Proofs.Ytopklnehhebhmaa
open Go.RowKit Go.Maps Go.Sort

/-- Each once. -/
def dedupK : List (List UInt8) → List (List UInt8)
  | [] => []
  | x :: l => if x ∈ l then dedupK l else x :: dedupK l
theorem mem_dedupK {x : List UInt8} : ∀ {l : List (List UInt8)}, x ∈ dedupK l ↔ x ∈ l
  | [] => Iff.rfl
  | y :: l => by
    unfold dedupK
    split
    · rename_i h
      rw [mem_dedupK, List.mem_cons]
      exact ⟨.inr, fun e => e.elim (fun e => e ▸ h) id⟩
    · rw [List.mem_cons, List.mem_cons, mem_dedupK]
theorem nodup_dedupK : ∀ l : List (List UInt8), (dedupK l).Nodup
  | [] => List.nodup_nil
  | y :: l => by
    unfold dedupK
    split
    · exact nodup_dedupK l
    · rename_i h
      exact List.nodup_cons.2 ⟨fun e => h (mem_dedupK.1 e), nodup_dedupK l⟩
theorem dedupK_len : ∀ l : List (List UInt8), (dedupK l).length ≤ l.length
  | [] => Nat.le_refl _
  | y :: l => by
    unfold dedupK
    have := dedupK_len l
    split
    · simp; omega
    · simp; omega

abbrev Key := List UInt8
/-- Keys, rising, each once. -/
def sortK (ks : List Key) : List Key := (dedupK ks).mergeSort (fun x y => decide (x ≤ y))
theorem sortK_unique {ks L : List Key} (h1 : L.Pairwise (fun x y => decide (x ≤ y) = true)) (h2 : L.Nodup) (h3 : ∀ x, x ∈ L ↔ x ∈ ks) : L = sortK ks := by
  have hp : L.Perm (sortK ks) := by
    refine ((List.perm_ext_iff_of_nodup h2 ?_).2 fun x => ?_).trans (List.mergeSort_perm _ _).symm
    · exact (nodup_dedupK _)
    · rw [h3, mem_dedupK]
  have tr : ∀ a b c : Key, decide (a ≤ b) = true → decide (b ≤ c) = true → decide (a ≤ c) = true := fun a b c h1 h2 => by simp only [decide_eq_true_eq] at *; exact List.le_trans h1 h2
  have tt : ∀ a b : Key, (decide (a ≤ b) || decide (b ≤ a)) = true := fun a b => by simp only [Bool.or_eq_true, decide_eq_true_eq]; exact List.le_total a b
  refine List.Perm.eq_of_pairwise (le := fun a b => decide (a ≤ b) = true) (fun a b _ _ h1 h2 => ?_) h1 (List.pairwise_mergeSort tr tt _) hp
  simp only [decide_eq_true_eq] at h1 h2
  exact List.le_antisymm h1 h2
theorem sortK_of_perm {ks ss : List Key} (h2 : ss.Nodup) (h3 : ∀ x, x ∈ ss ↔ x ∈ ks) : ss.mergeSort (fun x y => decide (x ≤ y)) = sortK ks := by
  have tr : ∀ a b c : Key, decide (a ≤ b) = true → decide (b ≤ c) = true → decide (a ≤ c) = true := fun a b c h1 h2 => by simp only [decide_eq_true_eq] at *; exact List.le_trans h1 h2
  have tt : ∀ a b : Key, (decide (a ≤ b) || decide (b ≤ a)) = true := fun a b => by simp only [Bool.or_eq_true, decide_eq_true_eq]; exact List.le_total a b
  refine sortK_unique (List.pairwise_mergeSort tr tt _) ((List.mergeSort_perm ss _).nodup_iff.2 h2) fun x => ?_
  rw [(List.mergeSort_perm ss _).mem_iff]
  exact h3 x
theorem mem_sortK {ks : List Key} {x : Key} : x ∈ sortK ks ↔ x ∈ ks := by
  unfold sortK
  rw [(List.mergeSort_perm _ _).mem_iff, mem_dedupK]
theorem sortK_len (ks : List Key) : (sortK ks).length ≤ ks.length := by
  unfold sortK
  rw [List.length_mergeSort]
  exact dedupK_len _

/-- A row's key, as bytes. -/
def keyB (row : List Ev) : Key := u8s (keyF row)
def keysOf (acc : Ends) : List Key := acc.map fun x => keyB x.2
theorem keyB_len (l : List Ev) : (keyB l).length ≤ 1000 := by
  unfold keyB
  rw [u8s_length]
  unfold keyF
  split
  · rename_i h
    unfold rightF at h
    simp only [Bool.and_eq_true, decide_eq_true_eq] at h
    unfold spellB
    have h1 := lvB_len (lvls l) (lvls l).length
    rw [List.take_length] at h1
    have := lvls_count l
    have := lv_count l
    rw [List.length_append, List.length_singleton]
    omega
  · simp
theorem sortK_length (ks : List Key) : (sortK ks).length = (dedupK ks).length := by
  unfold sortK
  rw [List.length_mergeSort]

end Go.Proofs.Ytopklnehhebhmaa

/- Rows of keys in memory. -/
namespace Go.Proofs.Ytopklnehhebhmaa
open Go.RowKit
def strCell (k : Key) : List Value := [.string ⟨k.toArray⟩]
theorem strCell_len (k : Key) : (strCell k).length = 1 := rfl
theorem strCell_one (k : Key) : ∀ v ∈ strCell k, v.oneCell' = true := by
  intro v hv
  simp [strCell] at hv
  subst hv
  rfl
theorem infoStr : (Try.prog.info? 9).map (fun i => (i.zero, i.size, i.bytes)) = some (some (.string ByteArray.empty), 1, 16) := by kernel_rfl
/-- A row of texts, read. -/
theorem RowAt.str {w : World} {a : Option Addr} {ks : List Key} (h : RowAt w a 1 strCell ks) {j : Nat} (hj : j < ks.length) : ∃ b o, a = some ⟨b, o, none⟩ ∧ w.cell? ⟨b, o + j, none⟩ = some (.string ⟨ks[j].toArray⟩) := by
  obtain ⟨b, o, rfl, hc⟩ := h.2 (by intro e; simp [e] at hj)
  have h1 := hc j hj 0 _ rfl
  rw [Nat.mul_one, Nat.add_zero] at h1
  exact ⟨b, o, rfl, h1⟩

end Go.Proofs.Ytopklnehhebhmaa

/- Slices of keys that can be read, wherever they lie from a block on. -/
namespace Go.Proofs.Ytopklnehhebhmaa
open Go.RowKit

/-- A slice of keys that can be read, in a block from B on. -/
def KeyV (w : World) (B : Nat) (v : Value) (ks : List Key) : Prop := ∃ a cap, v = .slice a ks.length cap ∧ (ks.length ≤ 1000000 ∧ ks.length ≤ cap) ∧ (ks ≠ [] → ∃ g o c, a = some ⟨g, o, none⟩ ∧ B ≤ g ∧ w.heap[g]? = some (.cells c 9 (0, 0)) ∧ ∀ i (h : i < ks.length), c[o + i]? = some (.string ⟨ks[i].toArray⟩))
theorem KeyV.keep {w w' : World} {B : Nat} {v : Value} {ks : List Key} (h : KeyV w B v ks) (hk : ∀ (g : Nat) (c : Array Value), B ≤ g → w.heap[g]? = some (.cells c 9 (0, 0)) → w'.heap[g]? = w.heap[g]?) : KeyV w' B v ks := by
  obtain ⟨a, cap, e, hl, hr⟩ := h
  refine ⟨a, cap, e, hl, fun hn => ?_⟩
  obtain ⟨g, o, c, e1, e2, e3, e4⟩ := hr hn
  exact ⟨g, o, c, e1, e2, (hk g c e2 e3).trans e3, e4⟩
theorem KeyV.onlyS {w w' : World} {B : Nat} {v : Value} {ks : List Key} {R : Nat → Prop} (h : KeyV w B v ks) (o : OnlyS R w w') (hR : ∀ x, B ≤ x → x < w.heap.size → ¬ R x) : KeyV w' B v ks := h.keep fun g c hg hc => by
  have hl := (Array.getElem?_eq_some_iff.1 hc).1
  exact o.block g hl (hR g hg hl)
theorem KeyV.later {w w' : World} {B : Nat} {v : Value} {ks : List Key} (h : KeyV w B v ks) (hb : Below w.heap.size w w') : KeyV w' B v ks := h.keep fun g _ _ hc => hb.block g (Array.getElem?_eq_some_iff.1 hc).1
theorem KeyV.lower {w : World} {B C : Nat} {v : Value} {ks : List Key} (h : KeyV w B v ks) (hC : C ≤ B) : KeyV w C v ks := by
  obtain ⟨a, cap, e, hl, hr⟩ := h
  exact ⟨a, cap, e, hl, fun hn => by obtain ⟨g, o, c, e1, e2, e3, e4⟩ := hr hn; exact ⟨g, o, c, e1, Nat.le_trans hC e2, e3, e4⟩⟩
theorem KeyV.form {w : World} {B : Nat} {v : Value} {ks : List Key} (h : KeyV w B v ks) : ∃ a cap, v = .slice a ks.length cap ∧ RowAt w a 1 strCell ks := by
  obtain ⟨a, cap, e, hl, hr⟩ := h
  refine ⟨a, cap, e, by unfold maxLen; omega, fun hn => ?_⟩
  obtain ⟨g, o, c, e1, e2, e3, e4⟩ := hr hn
  refine ⟨g, o, e1, fun i hi j u hu => ?_⟩
  have hj : j < 1 := (List.getElem?_eq_some_iff.1 hu).1
  obtain rfl : j = 0 := by omega
  simp [strCell] at hu
  subst hu
  rw [cell_of_row w g _ _ _ _ e3, Nat.mul_one, Nat.add_zero]
  exact e4 i hi
theorem KeyV.formB {w : World} {B : Nat} {v : Value} {ks : List Key} (h : KeyV w B v ks) : ∃ a cap, v = .slice a ks.length cap ∧ RowAt w a 1 strCell ks ∧ ks.length ≤ cap := by
  obtain ⟨a, cap, e, hr⟩ := h.form
  obtain ⟨a', cap', e', hl, _⟩ := h
  rw [e] at e'
  injection e' with e1 _ e3
  subst e1 e3
  exact ⟨a, cap, e, hr, hl.2⟩
theorem keyV_own {w : World} {B : Nat} {v : Value} {ks : List Key} (h : OwnRow w B 9 1 strCell v ks) (hl : ks.length ≤ 1000000) : KeyV w B v ks := by
  obtain ⟨h1, ⟨rfl, h3⟩ | ⟨g, cap, cur, h2, h3, h4, h5, h6, h7, h8⟩⟩ := h
  · have e : ks = [] := List.eq_nil_of_length_eq_zero h3
    subst e
    exact ⟨none, 0, rfl, by simp, fun h => absurd rfl h⟩
  · refine ⟨_, cap, h2, ⟨hl, h5⟩, fun _ => ⟨g, 0, cur, rfl, h3, h4, fun i hi => ?_⟩⟩
    have h9 := cellsL_get strCell_len ks i 0 hi (by omega)
    rw [← h8, Nat.mul_one, Nat.mul_one, Nat.add_zero, List.getElem?_take_of_lt hi] at h9
    rw [Nat.zero_add]
    simpa [strCell] using h9

end Go.Proofs.Ytopklnehhebhmaa

/- The document's put, plainly: a text put in, in order, each once. -/
namespace Go.Proofs.Ytopklnehhebhmaa
open Go.RowKit

/-- Put in ahead of the first greater one. -/
def insK (k : Key) : List Key → List Key
  | [] => [k]
  | x :: l => if k < x then k :: x :: l else x :: insK k l
def putK (l : List Key) (k : Key) : List Key := if k ∈ l then l else insK k l
theorem insK_len (k : Key) : ∀ l, (insK k l).length = l.length + 1
  | [] => rfl
  | x :: l => by
    unfold insK
    split
    · rfl
    · simp [insK_len k l]
theorem putK_len (l : List Key) (k : Key) : (putK l k).length ≤ l.length + 1 := by
  unfold putK
  split
  · omega
  · rw [insK_len]; omega
theorem mem_insK {k x : Key} : ∀ {l : List Key}, x ∈ insK k l ↔ x = k ∨ x ∈ l
  | [] => by simp [insK]
  | y :: l => by
    unfold insK
    split
    · simp
    · rw [List.mem_cons, mem_insK, List.mem_cons]
      constructor
      · rintro (h | h | h)
        · exact .inr (.inl h)
        · exact .inl h
        · exact .inr (.inr h)
      · rintro (h | h | h)
        · exact .inr (.inl h)
        · exact .inl h
        · exact .inr (.inr h)
theorem mem_putK {l : List Key} {k x : Key} : x ∈ putK l k ↔ x = k ∨ x ∈ l := by
  unfold putK
  split
  · rename_i h
    exact ⟨.inr, fun e => e.elim (fun e => e ▸ h) id⟩
  · exact mem_insK
theorem insK_sorted {k : Key} : ∀ {l : List Key}, l.Pairwise (· < ·) → k ∉ l → (insK k l).Pairwise (· < ·)
  | [], _, _ => by simp [insK]
  | y :: l, h, hk => by
    obtain ⟨h1, h2⟩ := List.pairwise_cons.1 h
    unfold insK
    split
    · rename_i hlt
      exact List.pairwise_cons.2 ⟨fun z hz => by
        rcases List.mem_cons.1 hz with rfl | hz
        · exact hlt
        · exact List.lt_trans hlt (h1 z hz), h⟩
    · rename_i hlt
      refine List.pairwise_cons.2 ⟨fun z hz => ?_, insK_sorted h2 (fun e => hk (List.mem_cons_of_mem _ e))⟩
      rcases mem_insK.1 hz with rfl | hz
      · have hle : y ≤ z := by
          rcases List.le_total y z with h | h
          · exact h
          · exact absurd (by
              rcases List.le_iff_lt_or_eq.1 h with h | h
              · exact h
              · exact absurd (h ▸ List.mem_cons_self) hk) hlt
        rcases List.le_iff_lt_or_eq.1 hle with h | h
        · exact h
        · exact absurd (h ▸ List.mem_cons_self) hk
      · exact h1 z hz
theorem putK_sorted {l : List Key} {k : Key} (h : l.Pairwise (· < ·)) : (putK l k).Pairwise (· < ·) := by
  unfold putK
  split
  · exact h
  · rename_i hk
    exact insK_sorted h hk
theorem putAll (ks : List Key) : ∀ l : List Key, l.Pairwise (· < ·) → (ks.foldl putK l).Pairwise (· < ·) ∧ ∀ x, x ∈ ks.foldl putK l ↔ x ∈ ks ∨ x ∈ l := by
  induction ks with
  | nil => intro l h; exact ⟨h, fun x => by simp⟩
  | cons k ks ih =>
    intro l h
    obtain ⟨h1, h2⟩ := ih (putK l k) (putK_sorted h)
    refine ⟨h1, fun x => ?_⟩
    rw [List.foldl_cons, h2, mem_putK, List.mem_cons]
    constructor
    · rintro (h | h | h)
      · exact .inl (.inr h)
      · exact .inl (.inl h)
      · exact .inr h
    · rintro ((h | h) | h)
      · exact .inr (.inl h)
      · exact .inl h
      · exact .inr (.inr h)
/-- What is put in one by one is what stands sorted, each once. -/
theorem putAll_sortK (ks : List Key) : ks.foldl putK [] = sortK ks := by
  obtain ⟨h1, h2⟩ := putAll ks [] List.Pairwise.nil
  refine sortK_unique (h1.imp fun {a b} h => ?_) (h1.imp fun {a b} h e => ?_) fun x => ?_
  · simp only [decide_eq_true_eq]
    exact List.le_of_lt h
  · subst e
    exact List.lt_irrefl _ h
  · rw [h2]; simp

/-- Part of the way. -/
def PutP (k : Key) (l : List Key) (j : Nat) (d : Bool) (R : List Key) : Prop :=
  k ∉ l.take j ∧ ((d = false ∧ R = l.take j ∧ insK k l = l.take j ++ insK k (l.drop j)) ∨ (d = true ∧ insK k l = R ++ l.drop j))
theorem putP_zero (k : Key) (l : List Key) : PutP k l 0 false [] := ⟨by simp, .inl ⟨rfl, rfl, rfl⟩⟩
theorem putP_not {k : Key} {l : List Key} {j : Nat} (h : k ∉ l.take j) (hj : j < l.length) (hne : l[j] ≠ k) : k ∉ l.take (j + 1) := by
  rw [List.take_succ_eq_append_getElem hj, List.mem_append]
  rintro (e | e)
  · exact h e
  · exact hne (List.mem_singleton.1 e).symm
theorem putP_lt {k : Key} {l : List Key} {j : Nat} {R : List Key} (h : PutP k l j false R) (hj : j < l.length) (hne : l[j] ≠ k) (hlt : k < l[j]) : PutP k l (j + 1) true (R ++ [k] ++ [l[j]]) := by
  obtain ⟨h0, ⟨_, h2, h3⟩ | ⟨h1, _⟩⟩ := h
  · refine ⟨putP_not h0 hj hne, .inr ⟨rfl, ?_⟩⟩
    rw [h3, List.drop_eq_getElem_cons hj, insK, if_pos hlt, h2]
    simp
  · cases h1
theorem putP_ge {k : Key} {l : List Key} {j : Nat} {R : List Key} (h : PutP k l j false R) (hj : j < l.length) (hne : l[j] ≠ k) (hlt : ¬ k < l[j]) : PutP k l (j + 1) false (R ++ [l[j]]) := by
  obtain ⟨h0, ⟨_, h2, h3⟩ | ⟨h1, _⟩⟩ := h
  · have e1 : R ++ [l[j]] = l.take (j + 1) := by rw [h2, List.take_succ_eq_append_getElem hj]
    refine ⟨putP_not h0 hj hne, .inl ⟨rfl, e1, ?_⟩⟩
    rw [h3, List.drop_eq_getElem_cons hj, insK, if_neg hlt, ← e1, h2, List.append_assoc]
    rfl
  · cases h1
theorem putP_on {k : Key} {l : List Key} {j : Nat} {R : List Key} (h : PutP k l j true R) (hj : j < l.length) (hne : l[j] ≠ k) : PutP k l (j + 1) true (R ++ [l[j]]) := by
  obtain ⟨h0, ⟨h1, _⟩ | ⟨_, h2⟩⟩ := h
  · cases h1
  · refine ⟨putP_not h0 hj hne, .inr ⟨rfl, ?_⟩⟩
    rw [h2, List.drop_eq_getElem_cons hj]
    simp
theorem putP_end {k : Key} {l R : List Key} {d : Bool} (h : PutP k l l.length d R) : putK l k = if d then R else R ++ [k] := by
  obtain ⟨h0, h⟩ := h
  rw [List.take_length] at h0 h
  rw [List.drop_length] at h
  unfold putK
  rw [if_neg h0]
  rcases h with ⟨rfl, h2, h3⟩ | ⟨rfl, h2⟩
  · rw [h3, h2]; rfl
  · rw [h2]; simp

end Go.Proofs.Ytopklnehhebhmaa

/- The contract of the document's put. -/
namespace Go.Proofs.Ytopklnehhebhmaa
open Go.RowKit Go.Sort


end Go.Proofs.Ytopklnehhebhmaa

/- The contract of the document's Same of lists of texts. -/
namespace Go.Proofs.Ytopklnehhebhmaa
open Go.RowKit

theorem takeK_snoc {l m : List Key} {k : Nat} (h1 : k < l.length) (h2 : k < m.length) (ht : l.take k = m.take k) (he : l[k] = m[k]) : l.take (k + 1) = m.take (k + 1) := by
  rw [List.take_succ_eq_append_getElem h1, List.take_succ_eq_append_getElem h2, ht, he]

set_option maxRecDepth 100000 in
set_option maxHeartbeats 4000000 in
theorem sameK_any (a a' : Option Addr) (cap cap' : Nat) (ks ms : List Key) (w : World) (hl : RowAt w a 1 strCell ks) (hl' : RowAt w a' 1 strCell ms) (hm : ks.length ≤ 1000000) (hm' : ms.length ≤ 1000000) :
    Calls Try.prog 14 #[.slice a ks.length cap, .slice a' ms.length cap'] w fun r w' => r = .returned (.bool (decide (ks = ms))) ∧ Below w.heap.size w w' := by
  have HL := Lib.hid hl
  have HL' := Lib.hid hl'
  clear hl hl'
  by_cases hne : ks.length = ms.length
  case neg =>
    have hq : ((ks.length : Int) != ms.length) = true := by simp; omega
    have H : Hid (decide (ks = ms) = false) := by show _ = _; simp; intro e; exact hne (by rw [e])
    clear hne
    go_enter Try.func14, Try.ntmps14
    go_wp2
    go_ret
    exact ⟨ret_bool H.out.symm, Below.refl _ _⟩
  have HE := Lib.hid hne
  have hq : ((ks.length : Int) != ms.length) = false := by simp [hne]
  have hm2 : ks.length ≤ ms.length := by omega
  have hm3 : ms.length ≤ ks.length := by omega
  clear hne
  go_enter Try.func14, Try.ntmps14
  go_wp2
  clear hq
  go_loopw [5] (fun i wr => ∃ k : Nat, k ≤ ks.length ∧ i = .int .i64 k ∧ Hid (ks.take k = ms.take k) ∧ Hid (Below w.heap.size w wr)) (fun i _ => ks.length - (intOf i).toNat)
  case atStart => exact ⟨0, Nat.zero_le _, rfl, rfl, Below.refl _ _⟩
  case round =>
    obtain ⟨k, hk, rfl, HT, HB⟩ := hrel
    by_cases hlt : k < ks.length
    · have hlt' : k < ms.length := by omega
      obtain ⟨b, o, rfl, t0⟩ := HL.out.str hlt
      obtain ⟨b', o', rfl, t0'⟩ := HL'.out.str hlt'
      have c0 := cell_later HB.out t0
      have c0' := cell_later HB.out t0'
      clear t0 t0'
      have hx1 : Hid (ks[k] = ms[k] → ks.take (k + 1) = ms.take (k + 1)) := fun h => takeK_snoc hlt hlt' HT.out h
      have hx2 : Hid (ks[k] ≠ ms[k] → decide (ks = ms) = false) := fun h => by simp; rintro rfl; exact h rfl
      generalize ks[k] = x at *
      generalize ms[k] = y at *
      by_cases hxy : x = y
      · have hq : (x == y) = true := by simp [hxy]
        have HN := Lib.hid (hx1.out hxy)
        clear hxy hx1 hx2
        go_wp2_with fail
        go_quiet (fail)
        go_wp2
        go_roundw
        case rel => exact ⟨k + 1, by omega, by go_num, HN.out, HB.out.drewN⟩
        case measure => simp [intOf]; omega
      · have hq : (x == y) = false := by simp [hxy]
        have HN := Lib.hid (hx2.out hxy)
        clear hxy hx1 hx2
        go_wp2_with fail
        go_quiet (fail)
        go_wp2
        go_ret
        exact ⟨ret_bool HN.out.symm, HB.out.drewN⟩
    · obtain rfl : k = ks.length := by omega
      have H : Hid (decide (ks = ms) = true) := by
        show _ = _
        have := HT.out
        rw [List.take_length, List.take_of_length_le hm3] at this
        simpa using this
      go_wp2
      go_ret
      exact ⟨ret_bool H.out.symm, HB.out⟩

end Go.Proofs.Ytopklnehhebhmaa

/- The contracts of the document's insert and Among. -/
namespace Go.Proofs.Ytopklnehhebhmaa
open Go.RowKit Go.Sort

set_option maxRecDepth 100000 in
set_option maxHeartbeats 4000000 in
theorem ins_any (a : Option Addr) (cap : Nat) (ks : List Key) (k : Key) (w : World) (hl : RowAt w a 1 strCell ks) (hm : ks.length ≤ 900000) :
    Calls Try.prog 35 #[.slice a ks.length cap, .string ⟨k.toArray⟩] w fun r w' => ∃ a2 cap2, r = .returned (.slice a2 (putK ks k).length cap2) ∧ RowAt w' a2 1 strCell (putK ks k) ∧ Below w.heap.size w w' := by
  have HA := Lib.hid hl
  clear hl
  go_enter Try.func35, Try.ntmps35
  go_wp2
  go_loopw [5, 6, 7] (fun s5 d7 i wr => ∃ (j : Nat) (d : Bool) (R : List Key), j ≤ ks.length ∧ i = .int .i64 j ∧ d7 = .bool d ∧ R.length ≤ j + 1 ∧ Hid (PutP k ks j d R) ∧ Hid (OwnRow wr w.heap.size 9 1 strCell s5 R) ∧ Hid (Below w.heap.size w wr)) (fun _ _ i _ => ks.length - (intOf i).toNat)
  case atStart => exact ⟨0, false, [], Nat.zero_le _, rfl, rfl, by simp, putP_zero k ks, ownRow_nil _ _ _ _ _, Below.refl _ _⟩
  case round =>
    obtain ⟨j, d, R, hj, rfl, rfl, hR, HP, HO, HB⟩ := hrel
    by_cases hlt : j < ks.length
    · obtain ⟨b, o, rfl, c0⟩ := HA.out.str hlt
      have c1 := cell_later HB.out c0
      have hji : (j : Int) < (ks.length : Int) := by omega
      have hji0 : (0 : Int) ≤ j := by omega
      have HEQ : Hid (ks[j] = k → putK ks k = ks) := fun h => by unfold putK; rw [if_pos (by rw [← h]; exact List.getElem_mem hlt)]
      have HLT : Hid (d = false → ks[j] ≠ k → k < ks[j] → PutP k ks (j + 1) true (R ++ [k] ++ [ks[j]])) := fun hd h1 h2 => by subst hd; exact putP_lt HP.out hlt h1 h2
      have HGE : Hid (d = false → ks[j] ≠ k → ¬ k < ks[j] → PutP k ks (j + 1) false (R ++ [ks[j]])) := fun hd h1 h2 => by subst hd; exact putP_ge HP.out hlt h1 h2
      have HON : Hid (d = true → ks[j] ≠ k → PutP k ks (j + 1) true (R ++ [ks[j]])) := fun hd h1 => by subst hd; exact putP_on HP.out hlt h1
      have HC : Hid (∀ W, Below w.heap.size w W → W.cell? ⟨b, o + j, none⟩ = some (.string ⟨ks[j].toArray⟩)) := fun W h => cell_later h c0
      have hbs := HB.out.size
      have hsz := (below_alloc1 wr (.cells #[.string ⟨k.toArray⟩] 9)).size
      clear c0
      generalize ks[j] = x at *
      by_cases hx : x = k
      · have hq : (x == k) = true := by simp [hx]
        have HE := Lib.hid (HEQ.out hx)
        have HL2 := Lib.hid (HA.out.later HB.out)
        clear hx HLT HGE HON HEQ
        go_wp2_with fail
        go_ret
        exact ⟨some ⟨b, o, none⟩, cap, (by rw [HE.out]; rfl), by rw [HE.out]; exact HL2.out, HB.out⟩
      · have hq : (x == k) = false := by simp [hx]
        have HLT2 := Lib.hid (fun h => HLT.out h hx)
        have HGE2 := Lib.hid (fun h => HGE.out h hx)
        have HON2 := Lib.hid (fun h => HON.out h hx)
        clear hx HLT HGE HON HEQ
        cases d
        · by_cases hlx : k < x
          · have HI := Lib.hid (HLT2.out rfl hlx)
            have hR0 : R.length ≤ j := by
              rcases HP.out.2 with ⟨_, h, _⟩ | ⟨h, _⟩
              · rw [h, List.length_take]; omega
              · cases h
            have hd : Op.bytesLess k x = true := by rw [bytesLess_eq]; simp [hlx]
            clear hlx HLT2 HGE2 HON2
            go_wp2_with (first
              | (at_builtin; refine wp_appendR (f := strCell) (n := 1) 22 9 16 (.string ByteArray.empty) Try.underlying22 infoStr rfl (by omega) (by omega) strCell_len rfl _ _ rfl w.heap.size _ (R ++ [k]) rfl (HO9.out.alloc _) ⟨w9.heap.size, 0, none⟩ rfl x (strCell_one _) (cells_new w9 (strCell x) _ _ rfl) (by simp; omega) (Nat.le_trans hb9s (below_alloc1 _ _).size) ?_; intro v2 w2 hown2 hb2 _; have HO2 := Lib.hid hown2; have HB2 := Lib.hid (HB9.out.trans (((below_alloc1 w9 (.cells #[.string ⟨x.toArray⟩] 9)).mono hb9s).trans hb2)); clear hown2 hb2)
              | (at_builtin; refine wp_appendR (f := strCell) (n := 1) 22 9 16 (.string ByteArray.empty) Try.underlying22 infoStr rfl (by omega) (by omega) strCell_len rfl _ _ rfl w.heap.size _ R rfl (HO.out.alloc _) ⟨wr.heap.size, 0, none⟩ rfl k (strCell_one _) (cells_new wr (strCell k) _ _ rfl) (by omega) (Nat.le_trans hbs (below_alloc1 _ _).size) ?_; intro v9 w9 hown9 hb9 _; have HO9 := Lib.hid hown9; have HB9 := Lib.hid (HB.out.trans (((below_alloc1 wr (.cells #[.string ⟨k.toArray⟩] 9)).mono hbs).trans hb9)); have hb9s := HB9.out.size; have c9 := HC.out w9 HB9.out; clear hown9 hb9))
            go_roundw
            case rel => exact ⟨j + 1, true, R ++ [k] ++ [x], by omega, by go_num, rfl, by simp; omega, HI.out, HO2.out, HB2.out⟩
            case measure => simp [intOf]; omega
          · have HI := Lib.hid (HGE2.out rfl hlx)
            have hR0 : R.length ≤ j := by
              rcases HP.out.2 with ⟨_, h, _⟩ | ⟨h, _⟩
              · rw [h, List.length_take]; omega
              · cases h
            have hd : Op.bytesLess k x = false := by rw [bytesLess_eq]; simp [hlx]
            clear hlx HLT2 HGE2 HON2
            go_wp2_with (at_builtin; refine wp_appendR (f := strCell) (n := 1) 22 9 16 (.string ByteArray.empty) Try.underlying22 infoStr rfl (by omega) (by omega) strCell_len rfl _ _ rfl w.heap.size _ R rfl (HO.out.alloc _) ⟨wr.heap.size, 0, none⟩ rfl x (strCell_one _) (cells_new wr (strCell x) _ _ rfl) (by omega) (Nat.le_trans hbs (below_alloc1 _ _).size) ?_; intro v9 w9 hown9 hb9 _; have HO9 := Lib.hid hown9; have HB9 := Lib.hid (HB.out.trans (((below_alloc1 wr (.cells #[.string ⟨x.toArray⟩] 9)).mono hbs).trans hb9)); clear hown9 hb9)
            go_roundw
            case rel => exact ⟨j + 1, false, R ++ [x], by omega, by go_num, rfl, by simp; omega, HI.out, HO9.out, HB9.out⟩
            case measure => simp [intOf]; omega
        · have HI := Lib.hid (HON2.out rfl)
          clear HLT2 HGE2 HON2
          go_wp2_with (at_builtin; refine wp_appendR (f := strCell) (n := 1) 22 9 16 (.string ByteArray.empty) Try.underlying22 infoStr rfl (by omega) (by omega) strCell_len rfl _ _ rfl w.heap.size _ R rfl (HO.out.alloc _) ⟨wr.heap.size, 0, none⟩ rfl x (strCell_one _) (cells_new wr (strCell x) _ _ rfl) (by omega) (Nat.le_trans hbs (below_alloc1 _ _).size) ?_; intro v9 w9 hown9 hb9 _; have HO9 := Lib.hid hown9; have HB9 := Lib.hid (HB.out.trans (((below_alloc1 wr (.cells #[.string ⟨x.toArray⟩] 9)).mono hbs).trans hb9)); clear hown9 hb9)
          go_roundw
          case rel => exact ⟨j + 1, true, R ++ [x], by omega, by go_num, rfl, by simp; omega, HI.out, HO9.out, HB9.out⟩
          case measure => simp [intOf]; omega
    · obtain rfl : j = ks.length := by omega
      have HE := Lib.hid (putP_end HP.out)
      have hbs := HB.out.size
      cases d
      · have HE2 : Hid (putK ks k = R ++ [k]) := HE.out
        go_wp2_with (at_builtin; refine wp_appendR (f := strCell) (n := 1) 22 9 16 (.string ByteArray.empty) Try.underlying22 infoStr rfl (by omega) (by omega) strCell_len rfl _ _ rfl w.heap.size _ R rfl (HO.out.alloc _) ⟨wr.heap.size, 0, none⟩ rfl k (strCell_one _) (cells_new wr (strCell k) _ _ rfl) (by omega) (Nat.le_trans hbs (below_alloc1 _ _).size) ?_; intro v9 w9 hown9 hb9 _; have HO9 := Lib.hid hown9; have HB9 := Lib.hid (HB.out.trans (((below_alloc1 wr (.cells #[.string ⟨k.toArray⟩] 9)).mono hbs).trans hb9)); have hb9s := HB9.out.size; clear hown9 hb9)
        obtain ⟨a2, cap2, hv2, hat2, _⟩ := OwnRow.form HO9.out strCell_len (by simp; omega)
        subst hv2
        have HT2 := Lib.hid hat2
        clear hat2
        go_wp2_with fail
        go_ret
        exact ⟨a2, cap2, (by rw [HE2.out]; rfl), by rw [HE2.out]; exact HT2.out, HB9.out⟩
      · have HE2 : Hid (putK ks k = R) := HE.out
        obtain ⟨a2, cap2, hv2, hat2, _⟩ := OwnRow.form HO.out strCell_len (by omega)
        subst hv2
        have HT2 := Lib.hid hat2
        clear hat2
        go_wp2_with fail
        go_ret
        exact ⟨a2, ⟨cap2, (by rw [HE2.out]; rfl)⟩, by rw [HE2.out]; exact HT2.out, HB.out⟩

theorem putK_eq_len {ks : List Key} {k : Key} : (putK ks k).length = ks.length ↔ k ∈ ks := by
  unfold putK
  by_cases h : k ∈ ks
  · simp [h]
  · rw [if_neg h, insK_len]
    simp [h]
end Go.Proofs.Ytopklnehhebhmaa

/- Rows of slices of keys; the document's Gather. -/
namespace Go.Proofs.Ytopklnehhebhmaa
open Go.RowKit

def valCell (v : Value) : List Value := [v]
theorem valCell_len (v : Value) : (valCell v).length = 1 := rfl
theorem infoRowK : (Try.prog.info? 22).map (fun i => (i.zero, i.size, i.bytes)) = some (some (.slice none 0 0), 1, 24) := by kernel_rfl
/-- A row of slices of keys. -/
def RowsV (w : World) (B : Nat) (v : Value) (ls : List (List Key)) : Prop := ∃ es : List Value, OwnRow w B 22 1 valCell v es ∧ es.length = ls.length ∧ ∀ i (h1 : i < es.length) (h2 : i < ls.length), KeyV w B es[i] ls[i]
theorem rowsV_nil (w : World) (B : Nat) : RowsV w B (.slice none 0 0) [] := ⟨[], ownRow_nil _ _ _ _ _, rfl, fun _ h1 _ => absurd h1 (Nat.not_lt_zero _)⟩
theorem RowsV.later {w w' : World} {B : Nat} {v : Value} {ls : List (List Key)} (h : RowsV w B v ls) (hb : Below w.heap.size w w') : RowsV w' B v ls := by
  obtain ⟨es, h1, h2, h3⟩ := h
  exact ⟨es, h1.later hb, h2, fun i a c => (h3 i a c).later hb⟩
theorem RowsV.lower {w : World} {B C : Nat} {v : Value} {ls : List (List Key)} (h : RowsV w B v ls) (hC : C ≤ B) : RowsV w C v ls := by
  obtain ⟨es, ⟨h1, h4⟩, h2, h3⟩ := h
  refine ⟨es, ⟨h1, h4.imp id fun ⟨g, cap, cur, e1, e2, e3⟩ => ⟨g, cap, cur, e1, Nat.le_trans hC e2, e3⟩⟩, h2, fun i a c => (h3 i a c).lower hC⟩
theorem RowsV.onlyS {w w' : World} {B : Nat} {v : Value} {ls : List (List Key)} {R : Nat → Prop} (h : RowsV w B v ls) (o : OnlyS R w w') (hR : ∀ x, B ≤ x → x < w.heap.size → ¬ R x) : RowsV w' B v ls := by
  obtain ⟨es, h1, h2, h3⟩ := h
  refine ⟨es, h1.keepQ fun g hg => ?_, h2, fun i a c => (h3 i a c).onlyS o hR⟩
  obtain ⟨h4, c, h5⟩ := h1.kindQ hg
  have h6 := (Array.getElem?_eq_some_iff.1 h5).1
  exact o.block g h6 (hR g h4 h6)
theorem RowsV.at_ {w : World} {B : Nat} {v : Value} {ls : List (List Key)} (h : RowsV w B v ls) (hl : ls.length ≤ 1000) : ∃ a cap, v = .slice a ls.length cap ∧ ∀ i (hi : i < ls.length), ∃ b o a2 c2, a = some ⟨b, o, none⟩ ∧ w.cell? ⟨b, o + i, none⟩ = some (.slice a2 ls[i].length c2) ∧ RowAt w a2 1 strCell ls[i] := by
  obtain ⟨es, h1, h2, h3⟩ := h
  obtain ⟨a, cap, e, hr, _⟩ := h1.form valCell_len (by omega)
  rw [h2] at e
  refine ⟨a, cap, e, fun i hi => ?_⟩
  obtain ⟨b, o, rfl, hc⟩ := hr.2 (by intro e; simp [e] at h2; omega)
  have h4 := hc i (by omega) 0 _ rfl
  rw [Nat.mul_one, Nat.add_zero] at h4
  obtain ⟨a2, c2, e2, hr2⟩ := (h3 i (by omega) hi).form
  rw [e2] at h4
  exact ⟨b, o, a2, c2, rfl, h4, hr2⟩
theorem RowsV.atB {w : World} {B : Nat} {v : Value} {ls : List (List Key)} (h : RowsV w B v ls) (hl : ls.length ≤ 1000) : ∃ a cap, v = .slice a ls.length cap ∧ ∀ i (hi : i < ls.length), ∃ b o a2 c2, a = some ⟨b, o, none⟩ ∧ w.cell? ⟨b, o + i, none⟩ = some (.slice a2 ls[i].length c2) ∧ RowAt w a2 1 strCell ls[i] ∧ ls[i].length ≤ c2 := by
  obtain ⟨es, h1, h2, h3⟩ := h
  obtain ⟨a, cap, e, hr, _⟩ := h1.form valCell_len (by omega)
  rw [h2] at e
  refine ⟨a, cap, e, fun i hi => ?_⟩
  obtain ⟨b, o, rfl, hc⟩ := hr.2 (by intro e; simp [e] at h2; omega)
  have h4 := hc i (by omega) 0 _ rfl
  rw [Nat.mul_one, Nat.add_zero] at h4
  obtain ⟨a2, c2, e2, hr2, hb⟩ := (h3 i (by omega) hi).formB
  rw [e2] at h4
  exact ⟨b, o, a2, c2, rfl, h4, hr2, hb⟩
/-- A row more. -/
theorem RowsV.more {w w1 w4 : World} {B C : Nat} {v v4 x : Value} {ls : List (List Key)} {es : List Value} {ks : List Key} (h1 : OwnRow w B 22 1 valCell v es) (h2 : es.length = ls.length) (h3 : ∀ i (h1 : i < es.length) (h2 : i < ls.length), KeyV w B es[i] ls[i]) (hx : KeyV w1 C x ks) (hC : B ≤ C) (hb : Below w.heap.size w w1) (hg : w1.grownBy w4 v.ownBlock) (hv : OwnRow w4 B 22 1 valCell v4 (es ++ [x])) : RowsV w4 B v4 (ls ++ [ks]) := by
  have hkv : ∀ {l : List Key} {u : Value}, KeyV w1 B u l → KeyV w4 B u l := fun {l u} hu => hu.keep fun g c _ hc => hg.block g (Array.getElem?_eq_some_iff.1 hc).1 fun e => by
    obtain ⟨_, d, hd⟩ := (h1.later hb).kindQ e.symm
    rw [hc] at hd; injection hd with hd; injection hd with _ hd
    exact absurd hd (by decide)
  refine ⟨es ++ [x], hv, by simp [h2], fun i a c => ?_⟩
  by_cases e : i < es.length
  · rw [List.getElem_append_left e, List.getElem_append_left (by omega)]
    exact hkv ((h3 i e (by omega)).later hb)
  · have e2 : i = es.length := by simp at a; omega
    subst e2
    rw [List.getElem_append_right (by omega), List.getElem_append_right (by omega)]
    simpa using hkv (hx.lower hC)

/-- What Gather has put in behind i lists, and j of the next one. -/
def gatK (ls : List (List Key)) (i j : Nat) : List Key := (ls.take i).flatten ++ (ls.getD i []).take j
theorem gatK_zero (ls : List (List Key)) : gatK ls 0 0 = [] := by simp [gatK]
theorem gatK_more {ls : List (List Key)} {i j : Nat} (hi : i < ls.length) (hj : j < ls[i].length) : gatK ls i (j + 1) = gatK ls i j ++ [ls[i][j]] := by
  have e : ls.getD i [] = ls[i] := by simp [List.getD, hi]
  unfold gatK
  rw [e, List.take_succ_eq_append_getElem hj, List.append_assoc]
theorem gatK_next {ls : List (List Key)} {i : Nat} (hi : i < ls.length) : gatK ls i ls[i].length = gatK ls (i + 1) 0 := by
  have e : ls.getD i [] = ls[i] := by simp [List.getD, hi]
  unfold gatK
  rw [e, List.take_length, List.take_succ_eq_append_getElem hi]
  simp only [List.flatten_append, List.flatten_cons, List.flatten_nil, List.append_nil, List.take_zero]
theorem gatK_end (ls : List (List Key)) : gatK ls ls.length 0 = ls.flatten := by simp [gatK]
theorem gatK_le (ls : List (List Key)) (i j : Nat) : (gatK ls i j).length ≤ ls.flatten.length := by
  unfold gatK
  have h1 : ls = ls.take i ++ ls.drop i := (List.take_append_drop i ls).symm
  have h2 : ls.flatten.length = (ls.take i).flatten.length + (ls.drop i).flatten.length := by
    rw [← List.length_append, ← List.flatten_append, List.take_append_drop]
  rw [List.length_append, h2]
  have h3 : ((ls.getD i []).take j).length ≤ (ls.drop i).flatten.length := by
    by_cases h : i < ls.length
    · have e : ls.getD i [] = ls[i] := by simp [List.getD, h]
      rw [e, List.drop_eq_getElem_cons h, List.flatten_cons, List.length_append, List.length_take]
      omega
    · have e : ls.getD i [] = [] := by simp [List.getD, h]
      rw [e]
      simp
  omega
theorem putK_fold (l : List Key) (k : Key) : (l ++ [k]).foldl putK [] = putK (l.foldl putK []) k := by
  rw [List.foldl_append]
  rfl
theorem sortK_le (l : List Key) : (l.foldl putK []).length ≤ l.length := by
  have key : ∀ (l acc : List Key), (l.foldl putK acc).length ≤ acc.length + l.length := by
    intro l
    induction l with
    | nil => intro acc; simp
    | cons k l ih =>
      intro acc
      rw [List.foldl_cons]
      have h1 := ih (putK acc k)
      have h2 := putK_len acc k
      rw [List.length_cons]
      omega
  have := key l []
  simpa using this
/-- Rows of keys that can be read, whatever they are. -/
def RowsR (w : World) (a : Option Addr) (ls : List (List Key)) : Prop := ∀ i (hi : i < ls.length), ∃ b o a2 c2, a = some ⟨b, o, none⟩ ∧ w.cell? ⟨b, o + i, none⟩ = some (.slice a2 ls[i].length c2) ∧ RowAt w a2 1 strCell ls[i]
theorem RowsR.later {w w' : World} {a : Option Addr} {ls : List (List Key)} (h : RowsR w a ls) (hb : Below w.heap.size w w') : RowsR w' a ls := fun i hi => by
  obtain ⟨b, o, a2, c2, e, h1, h2⟩ := h i hi
  exact ⟨b, o, a2, c2, e, cell_later hb h1, h2.later hb⟩
theorem RowsV.rows {w : World} {B : Nat} {a : Option Addr} {cap n : Nat} {ls : List (List Key)} (h : RowsV w B (.slice a n cap) ls) (hl : ls.length ≤ 1000) : RowsR w a ls := fun i hi => by
  obtain ⟨a', cap', e, h2⟩ := h.at_ hl
  injection e with e1 _ e3
  subst e1 e3
  exact h2 i hi
set_option maxRecDepth 100000 in
set_option maxHeartbeats 2000000 in
theorem gather_at {w : World} {a : Option Addr} {cap : Nat} {ls : List (List Key)} (h : RowsR w a ls) (hl : ls.length ≤ 1000) (hf : ls.flatten.length ≤ 100000) :
    Calls Try.prog 26 #[.slice a ls.length cap] w fun r w' => ∃ ka kc, r = .returned (.tuple #[.slice ka (sortK ls.flatten).length kc, .bool (decide ((sortK ls.flatten).length = ls.flatten.length))]) ∧ RowAt w' ka 1 strCell (sortK ls.flatten) ∧ Below w.heap.size w w' := by
  have HAT : Hid (∀ wr, Below w.heap.size w wr → ∀ i (hi : i < ls.length), ∃ b o a2 c2, a = some ⟨b, o, none⟩ ∧ wr.cell? ⟨b, o + i, none⟩ = some (.slice a2 ls[i].length c2) ∧ RowAt wr a2 1 strCell ls[i]) := fun wr hb => h.later hb
  have HFL := Lib.hid hf
  clear h hf
  go_enter Try.func26, Try.ntmps26
  go_wp2_with fail
  go_loopw [4, 5, 6, 7] (fun v c i _ wr => ∃ (u m : Nat) (ka : Option Addr) (kc n : Nat), u ≤ ls.length ∧ i = .int .i64 u ∧ c = .int .i64 m ∧ v = .slice ka n kc ∧ m ≤ 100000 ∧ n ≤ 100000 ∧ Hid (n = ((gatK ls u 0).foldl putK []).length) ∧ Hid ((gatK ls u 0).length = m) ∧ Hid (RowAt wr ka 1 strCell ((gatK ls u 0).foldl putK [])) ∧ Hid (Below w.heap.size w wr)) (fun _ _ i _ _ => ls.length - (intOf i).toNat)
  case atStart => exact ⟨0, 0, none, 0, 0, Nat.zero_le _, rfl, rfl, rfl, by omega, by omega, (by show 0 = _; rw [gatK_zero]; rfl), (by show _ = 0; rw [gatK_zero]; rfl), (by show RowAt _ _ _ _ _; rw [gatK_zero]; exact rowAt_nil _ _ _ _), Below.refl _ _⟩
  case round =>
    obtain ⟨u, m, ka, kc, n, hu, rfl, rfl, rfl, hm, hn, HN, HM, HR, HB⟩ := hrel
    by_cases hut : u < ls.length
    · have HE : Hid (gatK ls u ls[u].length = gatK ls (u + 1) 0) := gatK_next hut
      have HGM : Hid (∀ j (hj : j < ls[u].length), gatK ls u (j + 1) = gatK ls u j ++ [ls[u][j]]) := fun j hj => gatK_more hut hj
      have HAU : Hid (∀ wr, Below w.heap.size w wr → ∃ b o a2 c2, a = some ⟨b, o, none⟩ ∧ wr.cell? ⟨b, o + u, none⟩ = some (.slice a2 ls[u].length c2) ∧ RowAt wr a2 1 strCell ls[u]) := fun wr hb => HAT.out wr hb u hut
      have hul : ls[u].length ≤ 100000 := by
        have h1 := gatK_le ls (u + 1) 0
        rw [← HE.out] at h1
        have h2 : ls[u].length ≤ (gatK ls u ls[u].length).length := by
          have e : ls.getD u [] = ls[u] := by simp [List.getD, hut]
          unfold gatK
          rw [e, List.length_append, List.take_length]
          omega
        have := HFL.out
        omega
      have HGL : Hid (∀ j, (gatK ls u j).length ≤ 100000) := fun j => Nat.le_trans (gatK_le ls u j) HFL.out
      generalize ls[u] = l at *
      go_wp2_with fail
      go_loopw [4, 5, 7] (fun v c i wr => ∃ (j m : Nat) (ka : Option Addr) (kc n : Nat), j ≤ l.length ∧ i = .int .i64 j ∧ c = .int .i64 m ∧ v = .slice ka n kc ∧ m ≤ 100000 ∧ n ≤ 100000 ∧ Hid (n = ((gatK ls u j).foldl putK []).length) ∧ Hid ((gatK ls u j).length = m) ∧ Hid (RowAt wr ka 1 strCell ((gatK ls u j).foldl putK [])) ∧ Hid (Below w.heap.size w wr)) (fun _ _ i _ => l.length - (intOf i).toNat)
      case atStart => exact ⟨0, m, ka, kc, n, Nat.zero_le _, rfl, rfl, rfl, hm, hn, HN, HM, HR, HB⟩
      case round =>
        clear HN HM HR HB hm hn
        obtain ⟨j, m, ka, kc, n, hj, rfl, rfl, rfl, hm, hn, HN, HM, HR, HB⟩ := hrel
        obtain ⟨b, o, a2, c2, rfl, c0, hrow⟩ := HAU.out _ HB.out
        by_cases hjt : j < l.length
        · obtain ⟨b2, o2, rfl, c1⟩ := hrow.str hjt
          have hI := ins_any ka kc ((gatK ls u j).foldl putK []) l[j] wr HR.out (by rw [← HN.out]; omega)
          rw [← HN.out, ← putK_fold, ← HGM.out j hjt] at hI
          have HI := Lib.hid hI
          have hm2 : m + 1 ≤ 100000 := by
            have := HGL.out (j + 1)
            rw [HGM.out j hjt, List.length_append, HM.out] at this
            exact this
          have HM2 : Hid ((gatK ls u (j + 1)).length = m + 1) := by
            show _ = _
            rw [HGM.out j hjt, List.length_append, HM.out]
            rfl
          obtain ⟨n2, hn2⟩ : ∃ n2, n2 = ((gatK ls u (j + 1)).foldl putK []).length := ⟨_, rfl⟩
          have hn3 : n2 ≤ 100000 := by
            have := sortK_le (gatK ls u (j + 1))
            have := HGL.out (j + 1)
            omega
          have HN2 := Lib.hid hn2
          rw [← hn2] at HI
          clear hrow hI HN HM HR hn2
          generalize l[j] = x at *
          go_wp2_with fail
          refine HI.out.mono ?_
          rintro r w3 ⟨a3, c3, rfl, hr3, hb3⟩
          have HR3 := Lib.hid hr3
          have HB3 := Lib.hid (HB.out.trans (hb3.mono HB.out.size))
          clear hr3 hb3 HI c0 c1
          go_wp2_with fail
          go_roundw
          case rel => exact ⟨j + 1, m + 1, a3, c3, n2, by omega, by go_num, by go_num, rfl, hm2, hn3, HN2, HM2, HR3, HB3⟩
          case measure => simp [intOf]; omega
        · obtain rfl : j = l.length := by omega
          have HN' := HN
          have HM' := HM
          have HR' := HR
          rw [HE.out] at HN' HM' HR'
          clear HN HM HR hrow
          go_wp2_with fail
          go_roundw
          case rel => exact ⟨u + 1, m, ka, kc, n, by omega, by go_num, rfl, rfl, hm, hn, HN', HM', HR', HB⟩
          case measure => simp [intOf]; omega
    · obtain rfl : u = ls.length := by omega
      have HN' := HN
      have HM' := HM
      have HR' := HR
      rw [gatK_end] at HN' HM' HR'
      rw [putAll_sortK] at HN' HR'
      have hd : ((n : Int) == (m : Int)) = decide ((sortK ls.flatten).length = ls.flatten.length) := by
        rw [HN'.out, HM'.out]
        by_cases e : (sortK ls.flatten).length = m
        · simp [e]
        · have e2 : (((sortK ls.flatten).length : Int) == (m : Int)) = false := by rw [beq_eq_false_iff_ne]; omega
          rw [e2, decide_eq_false e]
      have HD := Lib.hid hd
      clear hd HN HM HR
      go_wp2
      refine bodyPost_ret (v := .tuple #[.slice ka n kc, .bool ((n : Int) == (m : Int))]) (by simp [results, Try.results26, go_sem]) rfl ?_
      exact ⟨ka, kc, by rw [HD.out, HN'.out], HR'.out, HB.out⟩
theorem gather_any {w : World} {B : Nat} {a : Option Addr} {cap : Nat} {ls : List (List Key)} (h : RowsV w B (.slice a ls.length cap) ls) (hl : ls.length ≤ 1000) (hf : ls.flatten.length ≤ 100000) :
    Calls Try.prog 26 #[.slice a ls.length cap] w fun r w' => ∃ ka kc, r = .returned (.tuple #[.slice ka (sortK ls.flatten).length kc, .bool (decide ((sortK ls.flatten).length = ls.flatten.length))]) ∧ RowAt w' ka 1 strCell (sortK ls.flatten) ∧ Below w.heap.size w w' := gather_at (h.rows hl) hl hf

end Go.Proofs.Ytopklnehhebhmaa
