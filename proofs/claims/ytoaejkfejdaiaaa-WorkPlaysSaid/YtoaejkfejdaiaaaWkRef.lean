/- The document's work, in memory, and what tells of it without a change. -/
import Derived.Test.YtoaejkfejdaiaaaQuTxt
import Derived.Test.YtoaejkfejdaiaaaWkPlain
namespace Go.Proofs.Ytoaejkfejdaiaaa
open Go.RowKit

/-- The document's work: its box, its row of slices, of each the texts. -/
structure RW (w : World) (B b g n : Nat) (vs : Nat → Value) (ls : Nat → List Txt) : Prop where
  low : B ≤ w.heap.size
  lowb : B ≤ b
  lowg : B ≤ g
  box : w.heap[b]? = some (.cells #[.slice (some ⟨g, 0, none⟩) n n] 31 (0, 0))
  row : w.heap[g]? = some (.cells (cxA n vs) 38 (0, 0))
  txt : ∀ j, j < n → TxtV w B (vs j) (ls j)
section
variable {w w' : World} {B b g n : Nat} {vs : Nat → Value} {ls : Nat → List Txt}
theorem RW.ltb (q : RW w B b g n vs ls) : b < w.heap.size := (Array.getElem?_eq_some_iff.1 q.box).1
theorem RW.ltg (q : RW w B b g n vs ls) : g < w.heap.size := (Array.getElem?_eq_some_iff.1 q.row).1
theorem RW.bg (q : RW w B b g n vs ls) : b ≠ g := fun e => by
  have h1 := q.box
  rw [e, q.row] at h1
  injection h1 with h1
  injection h1 with _ h1
  exact absurd h1 (by decide)
theorem RW.later (q : RW w B b g n vs ls) (hb : Below w.heap.size w w') : RW w' B b g n vs ls :=
  ⟨Nat.le_trans q.low hb.size, q.lowb, q.lowg, (hb.block _ q.ltb).trans q.box, (hb.block _ q.ltg).trans q.row, fun j hj => (q.txt j hj).later hb⟩
/-- What changes no block of these types leaves it. -/
theorem RW.keep (q : RW w B b g n vs ls) (hz : B ≤ w'.heap.size) (h : ∀ (x : Nat) (c : Array Value) (ty : TypeId), w.heap[x]? = some (.cells c ty (0, 0)) → ty = 31 ∨ ty = 38 ∨ ty = 9 → w'.heap[x]? = w.heap[x]?) : RW w' B b g n vs ls :=
  ⟨hz, q.lowb, q.lowg, (h _ _ _ q.box (.inl rfl)).trans q.box, (h _ _ _ q.row (.inr (.inl rfl))).trans q.row, fun j hj => (q.txt j hj).keep fun x c hx => h x c _ hx (.inr (.inr rfl))⟩
theorem RW.drew (q : RW w B b g n vs ls) : RW w.drew B b g n vs ls := q.keep q.low fun _ _ _ _ _ => rfl
theorem RW.cellB (q : RW w B b g n vs ls) : w.cell? ⟨b, 0, none⟩ = some (.slice (some ⟨g, 0, none⟩) n n) := by rw [cell_of_row w b 0 _ _ _ q.box]; rfl
theorem RW.cellR (q : RW w B b g n vs ls) {j : Nat} (hj : j < n) : w.cell? ⟨g, j, none⟩ = some (vs j) := by rw [cell_of_row w g j _ _ _ q.row, cxA_get _ hj]
theorem RW.frozen (q : RW w B b g n vs ls) (j : Nat) : w.frozen? ⟨g, j, none⟩ = false := by simp [World.frozen?, q.row]
theorem RW.form (q : RW w B b g n vs ls) {j : Nat} (hj : j < n) (hl : (ls j).length ≤ 1000) : ∃ a cap, vs j = .slice a (ls j).length cap ∧ (ls j).length ≤ cap ∧ RowAt w a 1 txtCell (ls j) := by
  have t := q.txt j hj
  obtain ⟨a, cap, e, hc, _⟩ := t.form
  rw [e] at t
  exact ⟨a, cap, e, hc, t.row hl⟩
/-- A slice is stored. -/
theorem RW.store (q : RW w B b g n vs ls) (j : Nat) {v : Value} {l : List Txt} (t : TxtV w B v l) : RW (w.setCell ⟨g, j, none⟩ v) B b g n (updF vs j v) (updF ls j l) ∧ OnlyS (fun x => x = g) w (w.setCell ⟨g, j, none⟩ v) := by
  have hne : ∀ y, y ≠ g → (w.setCell ⟨g, j, none⟩ v).heap[y]? = w.heap[y]? := fun y hy => Below.heap_setCell _ _ _ _ hy
  have ht : ∀ {v2 : Value} {l2 : List Txt}, TxtV w B v2 l2 → TxtV (w.setCell ⟨g, j, none⟩ v) B v2 l2 := fun t2 => t2.keep fun x c hx => hne x fun e => by
    rw [e, q.row] at hx
    injection hx with hx
    injection hx with _ hx
    exact absurd hx (by decide)
  refine ⟨⟨by rw [World.size_setCell]; exact q.low, q.lowb, q.lowg, (hne _ q.bg).trans q.box, ?_, fun k hk => ?_⟩, (OnlyS.refl (fun x => x = g) w).setCell (p := ⟨g, j, none⟩) rfl _⟩
  · rw [heap_setCell_same w g j _ _ _ q.row, cxA_set]
  · by_cases e : k = j
    · subst e
      rw [updF_same, updF_same]
      exact ht t
    · rw [updF_ne _ _ e, updF_ne _ _ e]
      exact ht (q.txt k hk)
end
section
variable {w : World} {B b g n : Nat} {vs : Nat → Value} {ls : Nat → List Txt}
set_option maxRecDepth 100000 in
theorem refIs_any (q : RW w B b g n vs ls) (z : Int) : Calls Try.prog 22 #[.pointer (some ⟨b, 0, none⟩), .int .i64 z] w fun r w' => r = .returned (.bool (isW n z)) ∧ w' = w := by
  have c0 := q.cellB
  clear q
  by_cases h : 0 ≤ z
  · have hd : decide (z ≥ 0) = true := by simpa using h
    go_enter Try.func22, Try.ntmps22
    go_wp2
    go_ret
    exact ⟨by simp [isW, h], rfl⟩
  · have hd : decide (z ≥ 0) = false := by simpa using h
    go_enter Try.func22, Try.ntmps22
    go_wp2
    go_ret
    exact ⟨by simp [isW]; omega, rfl⟩
set_option maxRecDepth 100000 in
set_option maxHeartbeats 1000000 in
theorem refTotal_any (q : RW w B b g n vs ls) (hn : n ≤ 64) (hl : ∀ j, j < n → (ls j).length ≤ 1000) : Calls Try.prog 16 #[.pointer (some ⟨b, 0, none⟩)] w fun r w' => r = .returned (.int .i64 (totW n ls : Nat)) ∧ w' = w := by
  have c0 := q.cellB
  have HQ := Lib.hid q
  have HL := Lib.hid hl
  clear q hl
  go_enter Try.func16, Try.ntmps16
  go_wp2_with fail
  go_loopw [3, 4] (fun t i wr => ∃ j m : Nat, j ≤ n ∧ i = .int .i64 j ∧ t = .int .i64 m ∧ m ≤ j * 1000 ∧ Hid (totW j ls = m) ∧ wr = w) (fun _ i _ => n - (intOf i).toNat)
  case atStart => exact ⟨0, 0, Nat.zero_le _, rfl, rfl, Nat.zero_le _, rfl, rfl⟩
  case round =>
    obtain ⟨j, m, hj, rfl, rfl, hm, HT, rfl⟩ := hrel
    by_cases hlt : j < n
    · obtain ⟨a, cap, e, _, _⟩ := HQ.out.form hlt (HL.out j hlt)
      have c1 := HQ.out.cellR hlt
      rw [e] at c1
      have hlj := HL.out j hlt
      have HT2 : Hid (totW (j + 1) ls = m + (ls j).length) := by show _ = _; rw [totW_succ, HT.out]
      clear e HT
      generalize (ls j).length = x at *
      go_wp2
      go_roundw
      case rel => exact ⟨j + 1, m + x, by omega, by go_num, by go_num, by omega, HT2, trivial⟩
      case measure => simp [intOf]; omega
    · obtain rfl : j = n := by omega
      have e2 := HT.out
      go_wp2
      go_ret
      exact ⟨by rw [e2]; rfl, rfl⟩
set_option maxRecDepth 100000 in
set_option maxHeartbeats 2000000 in
theorem refHas_any (q : RW w B b g n vs ls) (hn : n ≤ 64) (hl : ∀ j, j < n → (ls j).length ≤ 1000) (s : Txt) : Calls Try.prog 18 #[.pointer (some ⟨b, 0, none⟩), .string ⟨s.toArray⟩] w fun r w' => r = .returned (.bool (hasW n ls s)) ∧ w' = w := by
  have c0 := q.cellB
  have HQ := Lib.hid q
  have HL := Lib.hid hl
  clear q hl
  go_enter Try.func18, Try.ntmps18
  go_wp2_with fail
  go_loopw [5] (fun i wr => ∃ j : Nat, j ≤ n ∧ i = .int .i64 j ∧ Hid (∀ u, u < j → s ∉ ls u) ∧ wr = w) (fun i _ => n - (intOf i).toNat)
  case atStart => exact ⟨0, Nat.zero_le _, rfl, fun u hu => absurd hu (Nat.not_lt_zero _), rfl⟩
  case round =>
    obtain ⟨j, hj, rfl, HNO, rfl⟩ := hrel
    by_cases hlt : j < n
    · obtain ⟨a, cap, e, _, hrow⟩ := HQ.out.form hlt (HL.out j hlt)
      have c1 := HQ.out.cellR hlt
      rw [e] at c1
      have hlj := HL.out j hlt
      have HROW := Lib.hid hrow
      clear e hrow
      have HYES : Hid (∀ k (h : k < (ls j).length), (ls j)[k] = s → hasW n ls s = true) := fun k h e => hasW_iff.2 ⟨j, hlt, e ▸ List.getElem_mem h⟩
      generalize hle : ls j = l at c1 hlj HROW HYES
      go_wp2_with fail
      go_loopw [6] (fun i wr2 => ∃ k : Nat, k ≤ l.length ∧ i = .int .i64 k ∧ Hid (∀ u (h : u < l.length), u < k → l[u] ≠ s) ∧ wr2 = wr) (fun i _ => l.length - (intOf i).toNat)
      case atStart => exact ⟨0, Nat.zero_le _, rfl, fun u _ hu => absurd hu (Nat.not_lt_zero _), rfl⟩
      case round =>
        obtain ⟨k, hk, rfl, HN2, rfl⟩ := hrel
        by_cases hkt : k < l.length
        · obtain ⟨rb, ro, rfl, c2⟩ := HROW.out.txt hkt
          by_cases e : l[k] = s
          · have HY := Lib.hid (HYES.out k hkt e)
            rw [e] at c2
            go_wp2
            go_ret
            exact ⟨by rw [HY.out]; rfl, rfl⟩
          · have HN3 : Hid (∀ u (h : u < l.length), u < k + 1 → l[u] ≠ s) := fun u h hu => by
              by_cases e2 : u = k
              · subst e2; exact e
              · exact HN2.out u h (by omega)
            generalize l[k] = x at *
            have he : (x == s) = false := by rw [beq_eq_false_iff_ne]; exact e
            go_wp2
            go_roundw
            case rel => exact ⟨k + 1, by omega, by go_num, HN3.out, trivial⟩
            case measure => simp [intOf]; omega
        · obtain rfl : k = l.length := by omega
          have HN3 : Hid (∀ u, u < j + 1 → s ∉ ls u) := fun u hu hm => by
            by_cases e2 : u = j
            · subst e2
              rw [hle] at hm
              obtain ⟨i, hi, e3⟩ := List.getElem_of_mem hm
              exact HN2.out i hi hi e3
            · exact HNO.out u (by omega) hm
          go_wp2
          go_roundw
          case rel => exact ⟨j + 1, by omega, by go_num, HN3.out, trivial⟩
          case measure => simp [intOf]; omega
    · obtain rfl : j = n := by omega
      have HF : Hid (hasW j ls s = false) := by
        show _ = _
        rw [Bool.eq_false_iff]
        intro h
        obtain ⟨u, hu, hm⟩ := hasW_iff.1 h
        exact HNO.out u hu hm
      go_wp2
      go_ret
      exact ⟨by rw [HF.out]; rfl, rfl⟩
end
end Go.Proofs.Ytoaejkfejdaiaaa
