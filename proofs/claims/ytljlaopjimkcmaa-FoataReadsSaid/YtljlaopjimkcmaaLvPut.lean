/- Levels of one's own: one level more, and one level changed. -/
import Derived.Test.YtljlaopjimkcmaaLevelOf
import Derived.Test.YtljlaopjimkcmaaRightL
namespace Go.Proofs.Ytljlaopjimkcmaa
open Go.RowKit

theorem infoSl : (Try.prog.info? 22).map (fun i => (i.zero, i.size, i.bytes)) = some (some (.slice none 0 0), 1, 24) := by kernel_rfl
theorem tyNe : 22 ≠ 39 := by decide
theorem rows_apart {w : World} {B B' n n' m m' : Nat} {t t' : TypeId} {v v' : Value} {xs xs' : List Value} (h : w.ownsRow B t n v m xs) (h' : w.ownsRow B' t' n' v' m' xs') (hne : t ≠ t') : v.ownBlock = none ∨ v.ownBlock ≠ v'.ownBlock := by
  obtain ⟨_, ⟨rfl, _⟩ | ⟨g, cap, cur, rfl, _, hg, _⟩⟩ := h
  · exact .inl rfl
  · right
    obtain ⟨_, ⟨rfl, _⟩ | ⟨g', cap', cur', rfl, _, hg', _⟩⟩ := h'
    · simp [Value.ownBlock]
    · intro e
      injection e with e
      have e2 : g = g' := e
      subst e2
      rw [hg] at hg'
      injection hg' with hg'
      injection hg' with _ h2
      exact hne h2

/-- A level more, still empty. -/
theorem OwnLv.more {w w' : World} {B : Nat} {v v' : Value} {ss : List Sl} {m : List (List Ev)} (h : OwnLv w B v ss m) (ho : OwnRow w' B 22 1 slCell v' (ss ++ [⟨none, 0, 0⟩])) (hg : w.grownBy w' v.ownBlock) :
    OwnLv w' B v' (ss ++ [⟨none, 0, 0⟩]) (m ++ [[]]) := by
  refine ⟨by simp [h.len], ho, fun i hi => ?_, fun i j hi hj hne => ?_⟩
  · by_cases hlt : i < ss.length
    · have e1 : (ss ++ [(⟨none, 0, 0⟩ : Sl)])[i] = ss[i] := List.getElem_append_left hlt
      have e2 : (m ++ [[]]).getD i [] = m.getD i [] := by simp [List.getD, List.getElem?_append_left (show i < m.length by rw [← h.len]; exact hlt)]
      rw [e1, e2]
      refine World.ownsRow.kept (h.inner i hlt) hg ?_
      exact rows_apart (h.inner i hlt) h.outer (Ne.symm tyNe)
    · have e0 : i = ss.length := by simp at hi; omega
      subst e0
      have e1 : (ss ++ [(⟨none, 0, 0⟩ : Sl)])[ss.length] = ⟨none, 0, 0⟩ := by simp
      have e2 : (m ++ [[]]).getD ss.length [] = [] := by rw [h.len]; simp [List.getD]
      rw [e1, e2]
      exact ownE_nil _ _
  · by_cases hlt : i < ss.length
    · have e1 : (ss ++ [(⟨none, 0, 0⟩ : Sl)])[i] = ss[i] := List.getElem_append_left hlt
      rw [e1]
      by_cases hlj : j < ss.length
      · have e2 : (ss ++ [(⟨none, 0, 0⟩ : Sl)])[j] = ss[j] := List.getElem_append_left hlj
        rw [e2]
        exact h.apart i j hlt hlj hne
      · have e0 : j = ss.length := by simp at hj; omega
        subst e0
        have e2 : (ss ++ [(⟨none, 0, 0⟩ : Sl)])[ss.length] = ⟨none, 0, 0⟩ := by simp
        rw [e2]
        cases hb : (slV ss[i]).ownBlock
        · exact .inl rfl
        · exact .inr (by simp [slV, Value.ownBlock])
    · have e0 : i = ss.length := by simp at hi; omega
      subst e0
      left
      have e1 : (ss ++ [(⟨none, 0, 0⟩ : Sl)])[ss.length] = ⟨none, 0, 0⟩ := by simp
      rw [e1]
      rfl

theorem cellsL_one_set (ss : List Sl) (n : Nat) (s : Sl) : (cellsL slCell ss).set n (.slice s.a s.n s.c) = cellsL slCell (ss.set n s) := by
  induction ss generalizing n with
  | nil => rfl
  | cons x ss ih =>
    cases n with
    | zero => rfl
    | succ n =>
      show slCell x ++ _ = _
      simp only [cellsL, List.flatMap_cons, List.set_cons_succ] at *
      rw [← ih]
      rfl

/-- One level, changed. -/
theorem OwnLv.put {w w3 : World} {B g N cap n : Nat} {ss : List Sl} {m : List (List Ev)} {s' : Sl} {es' : List Ev} (h : OwnLv w B (.slice (some ⟨g, 0, none⟩) N cap) ss m) (hN : N = m.length) (_hn : n < N) (hn2 : n < ss.length)
    (ho : OwnE w3 B (slV s') es') (hg : w.grownBy w3 (slV ss[n]).ownBlock) (hb : ∀ b, (slV s').ownBlock = some b → (slV ss[n]).ownBlock = some b ∨ w.heap.size ≤ b) :
    OwnLv (w3.setCell ⟨g, n, none⟩ (.slice s'.a s'.n s'.c)) B (.slice (some ⟨g, 0, none⟩) N cap) (ss.set n s') (m.set n es') ∧ (w3.cell? ⟨g, n, none⟩).isSome = true ∧ w3.frozen? ⟨g, n, none⟩ = false := by
  have hout : w3.ownsRow B 22 1 (.slice (some ⟨g, 0, none⟩) N cap) ss.length (cellsL slCell ss) := World.ownsRow.kept h.outer hg (rows_apart h.outer (h.inner n hn2) tyNe)
  have hsN : ss.length = N := by rw [h.len, hN]
  rw [hsN] at hout
  have hst := hout.stored n (.slice s'.a s'.n s'.c)
  rw [cellsL_one_set] at hst
  have hgs : w3.grownBy (w3.setCell ⟨g, n, none⟩ (.slice s'.a s'.n s'.c)) (some g) := hst.2
  have hkeep : ∀ {v2 : Value} {es : List Ev}, OwnE w3 B v2 es → OwnE (w3.setCell ⟨g, n, none⟩ (.slice s'.a s'.n s'.c)) B v2 es := fun {v2 es} hv => World.ownsRow.kept hv hgs (rows_apart hv hout (Ne.symm tyNe))
  have hold : ∀ i (hi : i < ss.length), i ≠ n → OwnE w3 B (slV ss[i]) (m.getD i []) := fun i hi hne => World.ownsRow.kept (h.inner i hi) hg (h.apart i n hi hn2 hne)
  refine ⟨⟨by simp [h.len], ?_, fun i hi => ?_, fun i j hi hj hne => ?_⟩, ?_, hout.frozenAt n⟩
  · unfold OwnRow
    rw [List.length_set, hsN]
    exact hst.1
  · simp only [List.length_set] at hi
    by_cases e : n = i
    · subst e
      have e1 : (ss.set n s')[n]'(by simpa using hi) = s' := by simp
      have e2 : (m.set n es').getD n [] = es' := by simp [List.getD, show n < m.length by omega]
      rw [e1, e2]
      exact hkeep ho
    · have e1 : (ss.set n s')[i]'(by simpa using hi) = ss[i] := List.getElem_set_ne e _
      have e2 : (m.set n es').getD i [] = m.getD i [] := by simp [List.getD, List.getElem?_set_ne e]
      rw [e1, e2]
      exact hkeep (hold i hi (fun e' => e e'.symm))
  · simp only [List.length_set] at hi hj
    have hnew : ∀ i (hi : i < ss.length), i ≠ n → (slV s').ownBlock = none ∨ (slV s').ownBlock ≠ (slV ss[i]).ownBlock := fun i hi hne => by
      cases hb' : (slV s').ownBlock with
      | none => exact .inl rfl
      | some b =>
        right
        intro e
        rcases hb b hb' with h1 | h1
        · rcases h.apart n i hn2 hi (fun e => hne e.symm) with h2 | h2
          · rw [h1] at h2; cases h2
          · exact h2 (h1.trans e)
        · have := (World.ownsRow.lt (h.inner i hi) b e.symm).2
          omega
    by_cases e : n = i
    · subst e
      have e1 : (ss.set n s')[n]'(by simpa using hi) = s' := by simp
      have e2 : (ss.set n s')[j]'(by simpa using hj) = ss[j] := List.getElem_set_ne hne _
      rw [e1, e2]
      exact hnew j hj (fun e => hne e.symm)
    · have e1 : (ss.set n s')[i]'(by simpa using hi) = ss[i] := List.getElem_set_ne e _
      rw [e1]
      by_cases e' : n = j
      · subst e'
        have e2 : (ss.set n s')[n]'(by simpa using hj) = s' := by simp
        rw [e2]
        rcases hnew i hi hne with h1 | h1
        · cases hb2 : (slV ss[i]).ownBlock
          · exact .inl rfl
          · right; rw [h1]; simp
        · exact .inr (fun e => h1 e.symm)
      · have e2 : (ss.set n s')[j]'(by simpa using hj) = ss[j] := List.getElem_set_ne e' _
        rw [e2]
        exact h.apart i j hi hj hne
  · rw [hout.cellAt n (by omega), List.getElem?_eq_getElem (by rw [cellsL_length slCell_len]; omega)]
    rfl
theorem OwnLv.cell {w : World} {B g N cap n : Nat} {ss : List Sl} {m : List (List Ev)} (h : OwnLv w B (.slice (some ⟨g, 0, none⟩) N cap) ss m) (hN : N = m.length) (hn2 : n < ss.length) : w.cell? ⟨g, n, none⟩ = some (.slice ss[n].a ss[n].n ss[n].c) := by
  have hsN : ss.length = N := by rw [h.len, hN]
  have hout : w.ownsRow B 22 1 (.slice (some ⟨g, 0, none⟩) N cap) ss.length (cellsL slCell ss) := h.outer
  rw [hsN] at hout
  rw [hout.cellAt n (by omega)]
  have := cellsL_get slCell_len ss n 0 hn2 (by omega)
  rw [Nat.mul_one, Nat.add_zero] at this
  rw [this]
  rfl

/-- Putting an event in, in two steps. -/
def extL (m : List (List Ev)) (n : Nat) : List (List Ev) := if n < m.length then m else m ++ [[]]
theorem extL_length {m : List (List Ev)} {n : Nat} (h : n ≤ m.length) : n < (extL m n).length := by
  unfold extL
  split
  · assumption
  · simp; omega
theorem addL_ext (m : List (List Ev)) (e : Ev) : addL m e = (extL m (lvN m e)).set (lvN m e) (insE e ((extL m (lvN m e)).getD (lvN m e) [])) := by
  have hle := lvN_le m e
  unfold addL putL extL
  by_cases h : lvN m e < m.length
  · rw [if_pos h, if_pos h]
  · have h0 : lvN m e = m.length := by omega
    rw [if_neg h, if_neg h, h0]
    simp [List.getD, insE]
theorem extL_get (m : List (List Ev)) (n : Nat) : (extL m n).getD n [] = m.getD n [] := by
  unfold extL
  by_cases h : n < m.length
  · rw [if_pos h]
  · rw [if_neg h]
    simp only [List.getD]
    rw [List.getElem?_eq_none (Nat.le_of_not_lt h)]
    by_cases h0 : n = m.length
    · subst h0; simp
    · rw [List.getElem?_eq_none (by simp; omega)]
theorem lv_other {m : List (List Ev)} {e x : Ev} (hx : x ∈ m.getD (lvN m e) []) : x.thread ≠ e.thread := by
  intro ht
  have h1 := lvN_free (Nat.le_refl _) hx
  rw [dep_thread ht] at h1
  cases h1
theorem lv_small (l : List Ev) (i : Nat) : ((lvls l).getD i []).length ≤ l.length := by
  rw [← lvls_count l]
  by_cases h : i < (lvls l).length
  · rw [getD_lt _ h]
    exact List.Sublist.length_le (List.sublist_flatten_of_mem (List.getElem_mem h))
  · simp [List.getD, List.getElem?_eq_none (Nat.le_of_not_lt h)]
theorem lv_count (l : List Ev) : (lvls l).length ≤ l.length := by
  have : ∀ n (l : List Ev), l.length = n → (lvls l).length ≤ l.length := by
    intro n
    induction n with
    | zero =>
      intro l hl
      obtain rfl := List.eq_nil_of_length_eq_zero hl
      exact Nat.le_refl _
    | succ n ih =>
      intro l hl
      have hne : l ≠ [] := by rintro rfl; simp at hl
      obtain ⟨l', e, rfl⟩ : ∃ l' e, l = l' ++ [e] := ⟨l.dropLast, l.getLast hne, (List.dropLast_concat_getLast hne).symm⟩
      have h1 := ih l' (by simpa using hl)
      rw [lvls_snoc, addL_length, List.length_append, List.length_singleton]
      split <;> omega
  exact this _ l rfl


/-- Has a row levels? -/
def rightF (l : List Ev) : Bool := decide (l.length ≤ 200) && rightL l
/-- Its levels, or none. -/
def levelsF (l : List Ev) : List (List Ev) := if rightF l then lvls l else []

set_option maxRecDepth 100000 in
set_option maxHeartbeats 1000000 in
theorem fRight_any (a : Option Addr) (cap : Nat) (l : List Ev) (w : World) (hl : EvsAt w a l) :
    Calls Try.prog 18 #[.slice a l.length cap] w fun r w' => r = .returned (.bool (rightF l)) ∧ Below w.heap.size w w' := by
  have hm := hl.1
  unfold maxLen at hm
  have HL := Lib.hid hl
  clear hl
  by_cases h200 : l.length ≤ 200
  case neg =>
    have HE : Hid (rightF l = false) := by show _ = _; unfold rightF; simp; omega
    have hq : decide ((200 : Int) < (l.length : Int)) = true := by simp; omega
    have hq2 : 200 < l.length := by omega
    clear h200
    go_enter Try.func18, Try.ntmps18
    go_wp2
    go_ret
    exact ⟨ret_bool HE.out.symm, Below.refl _ _⟩
  have hq : decide ((200 : Int) < (l.length : Int)) = false := by simp; omega
  have hq2 : ¬ 200 < l.length := by omega
  go_enter Try.func18, Try.ntmps18
  go_wp2
  go_loopw [10] (fun i wr => ∃ k : Nat, k ≤ l.length ∧ i = .int .i64 k ∧ Hid (rightL (l.take k) = true) ∧ Below w.heap.size w wr) (fun i _ => l.length - (intOf i).toNat)
  case atStart => exact ⟨0, Nat.zero_le _, rfl, rfl, Below.refl _ _⟩
  case round =>
    obtain ⟨k, hk, rfl, HR, hb⟩ := hrel
    by_cases hlt : k < l.length
    · obtain ⟨b, o, rfl, hc⟩ := HL.out.2 (by intro e; simp [e] at hlt)
      obtain ⟨c0, c1, c2, c3⟩ := hc k hlt
      have d0 := cell_later hb c0
      have d1 := cell_later hb c1
      have d2 := cell_later hb c2
      have d3 := cell_later hb c3
      have HT := Lib.hid (rightL_take l k hlt)
      have hx1 : Hid (rightEv l[k] = false → rightF l = false) := fun h => by unfold rightF; rw [rightL_no hlt h]; simp
      have hb4 := hb.alloc hb.size (.cells #[.int .i64 l[k].thread, .int .i64 l[k].kind, .int .i64 l[k].obj, .bool l[k].fail] 39)
      clear hc c0 c1 c2 c3
      generalize l[k] = x at *
      go_wp2_with fail
      refine (evRight_any x _).mono ?_
      rintro r w2 ⟨rfl, hb5⟩
      have hb6 := hb4.trans (hb5.mono hb4.size)
      clear hb4 hb5
      cases hr : rightEv x
      · have HN := Lib.hid (hx1.out hr)
        clear hx1 HT
        go_wp2
        go_ret
        exact ⟨ret_bool HN.out.symm, hb6⟩
      · have HN : Hid (rightL (l.take (k + 1)) = true) := by show _ = _; rw [HT.out, HR.out, hr]; rfl
        clear hx1 HT
        go_wp2
        go_roundw
        case rel => exact ⟨k + 1, by omega, by go_num, HN, hb6⟩
        case measure => simp [intOf]; omega
    · obtain rfl : k = l.length := by omega
      have HE : Hid (rightF l = true) := by have h := HR.out; rw [List.take_length] at h; show _ = _; unfold rightF; rw [h]; simp; omega
      go_wp2
      go_ret
      exact ⟨ret_bool HE.out.symm, hb⟩

end Go.Proofs.Ytljlaopjimkcmaa
