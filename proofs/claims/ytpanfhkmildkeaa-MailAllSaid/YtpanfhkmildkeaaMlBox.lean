/- The contracts of a box's put and take. -/
import Derived.Test.YtpanfhkmildkeaaMlMem
import Derived.BigQuiet
import Derived.BigRegion
namespace Go.Proofs.Ytpanfhkmildkeaa
open Go.RowKit

section
variable {w w' : World} {B b g n : Nat} {ids : List Nat} {le : Nat → Let} {nx : Nat → Option Nat} {cx : Nat → Value} {tot : Int} {ls : Nat → List Nat}
/-- What put leaves. -/
def PutR (B b g n : Nat) (ids : List Nat) (le : Nat → Let) (tot : Int) (ls : Nat → List Nat) (j : Nat) (l : Let) (w w' : World) : Prop :=
  ∃ x le' nx' cx', w.heap.size ≤ x ∧ MOk w' B b g n (x :: ids) le' nx' cx' tot (updF ls j (ls j ++ [x])) ∧ le' x = l ∧ (∀ y ∈ ids, le' y = le y) ∧ OnlyS (MS b g ids) w w'
/-- A cell of the row is stored into: what the walk asks, and what it leaves. -/
theorem MR.putX (q : MR w B b g n ids le nx cx tot) {p : Nat} (hp : p < n * 3) (v : Value) : w.cell? ⟨g, p, none⟩ = some (cx p) ∧ w.frozen? ⟨g, p, none⟩ = false ∧ MR (w.setCell ⟨g, p, none⟩ v) B b g n ids le nx (updF cx p v) tot ∧ OnlyS (MS b g ids) w (w.setCell ⟨g, p, none⟩ v) :=
  ⟨q.cellR hp, q.frozen (.inr (.inl rfl)) p, q.storeX p v⟩
theorem ptr_some (x : Nat) : ptrO (some x) = .pointer (some ⟨x, 0, none⟩) := rfl
theorem put_end (q : MOk w B b g n ids le nx cx tot ls) {w' : World} {j : Nat} (hj : j < n) {l : Let} {x : Nat} {cx' : Nat → Value} {nx' : Nat → Option Nat} (hx : w.heap.size ≤ x) (m : MR w' B b g n (x :: ids) (updF le x l) nx' cx' tot)
    (hc0 : cx' (j * 3) = ptrO (ls j ++ [x]).head?) (hc1 : cx' (j * 3 + 1) = ptrO (some x)) (hc2 : cx' (j * 3 + 2) = .int .i64 ((ls j).length + 1 : Nat)) (hco : ∀ k, k ≠ j → ∀ i, i < 3 → cx' (k * 3 + i) = cx (k * 3 + i))
    (hch : Chn nx' (ls j ++ [x])) (hno : ∀ k, k < n → k ≠ j → ∀ y ∈ ls k, nx' y = nx y) (o : OnlyS (MS b g ids) w w') : PutR B b g n ids le tot ls j l w w' := by
  have hlt : ∀ y ∈ ids, y < x := fun y hy => Nat.lt_of_lt_of_le (q.mr.lt (.inr (.inr hy))) hx
  have hnx : ∀ k, k < n → x ∉ ls k := fun k hk h => Nat.lt_irrefl _ (hlt x (q.sub k hk x h))
  refine ⟨x, updF le x l, nx', cx', hx, q.change m hc0 ?_ ?_ hco ?_ (fun y hy => List.mem_cons_of_mem _ hy) ?_ ?_ hch hno, updF_same _ _ _, fun y hy => updF_ne _ _ (Nat.ne_of_lt (hlt y hy)), o⟩
  · rw [hc1, List.getLast?_append]
    rfl
  · rw [hc2, List.length_append]
    rfl
  · intro y hy
    rcases List.mem_append.1 hy with h | h
    · exact List.mem_cons_of_mem _ (q.sub j hj y h)
    · obtain rfl : y = x := by simpa using h
      exact List.mem_cons_self
  · rw [List.nodup_append]
    refine ⟨q.nodup j hj, by simp, fun y hy z hz => ?_⟩
    obtain rfl : z = x := by simpa using hz
    rintro rfl
    exact hnx j hj hy
  · intro k hk hkj y hy
    rcases List.mem_append.1 hy with h | h
    · exact q.apart j k hj hk (Ne.symm hkj) y h
    · obtain rfl : y = x := by simpa using h
      exact hnx k hk
set_option maxRecDepth 100000 in
set_option maxHeartbeats 2000000 in
theorem put_none (q : MOk w B b g n ids le nx cx tot ls) {j : Nat} (hj : j < n) (l : Let) (hl : ls j = []) :
    Calls Try.prog 16 #[.pointer (some ⟨g, j * 3, none⟩), letV l] w fun r w' => r = .returned (.tuple #[]) ∧ PutR B b g n ids le tot ls j l w w' := by
  have hb1 : Below w.heap.size w (w.alloc (.cells #[.string ⟨l.s.toArray⟩, .int .u8 l.set] 34)) := below_alloc1 w _
  have q2 := (q.mr.later hb1).newLink l rfl
  rw [World.size_alloc] at q2
  have o2 : OnlyS (MS b g ids) w ((w.alloc (.cells #[.string ⟨l.s.toArray⟩, .int .u8 l.set] 34)).alloc (.cells #[.string ⟨l.s.toArray⟩, .int .u8 l.set, .pointer none] 59)) := OnlyS.of_below (below_alloc2 w _ _)
  obtain ⟨c0, f0, q3, o3⟩ := q2.putX (p := j * 3) (by omega) (.pointer (some ⟨w.heap.size + 1, 0, none⟩))
  obtain ⟨c1, f1, q4, o4⟩ := q3.putX (p := j * 3 + 1) (by omega) (.pointer (some ⟨w.heap.size + 1, 0, none⟩))
  obtain ⟨c2, f2, q5, o5⟩ := q4.putX (p := j * 3 + 2) (by omega) (.int .i64 1)
  rw [q.first j hj, hl] at c0
  rw [updF_ne _ _ (by omega), updF_ne _ _ (by omega), q.count j hj, hl] at c2
  replace c0 : _ = some (Value.pointer none) := c0
  replace c2 : _ = some (Value.int .i64 0) := c2
  have Q5 := Lib.hid q5
  have O5 := Lib.hid (((o2.thenS o3 fun y hy h => h.imp id (·.imp id fun h => by
    rcases List.mem_cons.1 h with rfl | h
    · omega
    · exact h)).thenS o4 fun y hy h => h.imp id (·.imp id fun h => by
    rcases List.mem_cons.1 h with rfl | h
    · omega
    · exact h)).thenS o5 fun y hy h => h.imp id (·.imp id fun h => by
    rcases List.mem_cons.1 h with rfl | h
    · omega
    · exact h))
  have Q := Lib.hid q
  have HL := Lib.hid hl
  clear q q2 q3 q4 q5 o2 o3 o4 o5 hl hb1
  go_enter Try.func16, Try.ntmps16
  go_wp2
  refine bodyPost_end (results_none rfl _ _ _) rfl ⟨rfl, ?_⟩
  refine put_end Q.out hj (by omega) Q5.out ?_ ?_ ?_ (fun k hk i hi => ?_) ?_ (fun k hk hkj y hy => ?_) O5.out
  · have := updF_row (cx := cx) (j := j) (k := j) (i := 0) (v0 := .pointer (some ⟨w.heap.size + 1, 0, none⟩)) (v1 := .pointer (some ⟨w.heap.size + 1, 0, none⟩)) (v2 := .int .i64 1) (by omega)
    rw [if_pos rfl, if_pos rfl] at this
    rw [HL.out]
    exact this
  · have := updF_row (cx := cx) (j := j) (k := j) (i := 1) (v0 := .pointer (some ⟨w.heap.size + 1, 0, none⟩)) (v1 := .pointer (some ⟨w.heap.size + 1, 0, none⟩)) (v2 := .int .i64 1) (by omega)
    rw [if_pos rfl, if_neg (by omega), if_pos rfl] at this
    exact this
  · have := updF_row (cx := cx) (j := j) (k := j) (i := 2) (v0 := .pointer (some ⟨w.heap.size + 1, 0, none⟩)) (v1 := .pointer (some ⟨w.heap.size + 1, 0, none⟩)) (v2 := .int .i64 1) (by omega)
    rw [if_pos rfl, if_neg (by omega), if_neg (by omega)] at this
    rw [HL.out]
    exact this
  · rw [updF_row hi, if_neg hk]
  · rw [HL.out]
    exact chn_one (updF_same _ _ _)
  · have h1 := Q.out.mr.lt (.inr (.inr (Q.out.sub k hk y hy)))
    rw [updF_ne _ _ (by omega)]
theorem cons_ids {w : World} {b g x : Nat} {ids : List Nat} {y : Nat} (hy : y < w.heap.size) (hx : w.heap.size ≤ x) (h : MS b g (x :: ids) y) : MS b g ids y := h.imp id (·.imp id fun h => by
    rcases List.mem_cons.1 h with rfl | h
    · omega
    · exact h)
set_option maxRecDepth 100000 in
set_option maxHeartbeats 2000000 in
theorem put_some (q : MOk w B b g n ids le nx cx tot ls) {j : Nat} (hj : j < n) (l : Let) {l0 : List Nat} {y : Nat} (hl : ls j = l0 ++ [y]) (hlen : l0.length < 1000000) :
    Calls Try.prog 16 #[.pointer (some ⟨g, j * 3, none⟩), letV l] w fun r w' => r = .returned (.tuple #[]) ∧ PutR B b g n ids le tot ls j l w w' := by
  have hb1 : Below w.heap.size w (w.alloc (.cells #[.string ⟨l.s.toArray⟩, .int .u8 l.set] 34)) := below_alloc1 w _
  have q2 := (q.mr.later hb1).newLink l rfl
  rw [World.size_alloc] at q2
  have o2 : OnlyS (MS b g ids) w ((w.alloc (.cells #[.string ⟨l.s.toArray⟩, .int .u8 l.set] 34)).alloc (.cells #[.string ⟨l.s.toArray⟩, .int .u8 l.set, .pointer none] 59)) := OnlyS.of_below (below_alloc2 w _ _)
  have hy : y ∈ ls j := by rw [hl]; simp
  have hyi := q.sub j hj y hy
  have hyw : y < w.heap.size := q.mr.lt (.inr (.inr hyi))
  obtain ⟨a, ha⟩ : ∃ a, (ls j).head? = some a := by
    rw [hl]
    cases l0 with
    | nil => exact ⟨y, rfl⟩
    | cons a l => exact ⟨a, rfl⟩
  have cf := q2.cellR (p := j * 3) (by omega)
  rw [q.first j hj, ha] at cf
  replace cf : _ = some (Value.pointer (some ⟨a, 0, none⟩)) := cf
  have cl := q2.cellR (p := j * 3 + 1) (by omega)
  rw [q.last j hj, hl, List.getLast?_append] at cl
  replace cl : _ = some (Value.pointer (some ⟨y, 0, none⟩)) := cl
  have hym : y ∈ (w.heap.size + 1) :: ids := List.mem_cons_of_mem _ hyi
  have cn := (q2.cellL hym).2.2
  have fn := q2.frozen (.inr (.inr hym)) 2
  have hnn : updF nx (w.heap.size + 1) none y = none := by
    rw [updF_ne _ _ (by omega)]
    have := q.chain j hj l0.length (by rw [hl]; simp)
    simp [hl] at this
    exact this
  rw [hnn] at cn
  replace cn : _ = some (Value.pointer none) := cn
  obtain ⟨q3, o3⟩ := q2.storeN hym (some (w.heap.size + 1))
  replace q3 : MR (World.setCell _ ⟨y, 2, none⟩ (.pointer (some ⟨w.heap.size + 1, 0, none⟩))) B b g n _ _ _ cx tot := q3
  replace o3 : OnlyS _ _ (World.setCell _ ⟨y, 2, none⟩ (.pointer (some ⟨w.heap.size + 1, 0, none⟩))) := o3
  obtain ⟨c1, f1, q4, o4⟩ := q3.putX (p := j * 3 + 1) (by omega) (.pointer (some ⟨w.heap.size + 1, 0, none⟩))
  obtain ⟨c2, f2, q5, o5⟩ := q4.putX (p := j * 3 + 2) (by omega) (.int .i64 ((l0.length : Int) + 1 + 1))
  rw [updF_ne _ _ (by omega), q.count j hj, hl, List.length_append] at c2
  replace c2 : _ = some (Value.int .i64 ((l0.length : Int) + 1)) := c2
  have Q5 := Lib.hid q5
  have O5 := Lib.hid (((o2.thenS o3 fun y hy h => cons_ids hy (by omega) h).thenS o4 fun y hy h => cons_ids hy (by omega) h).thenS o5 fun y hy h => cons_ids hy (by omega) h)
  have Q := Lib.hid q
  have HL := Lib.hid hl
  have HA := Lib.hid ha
  have HY := Lib.hid hy
  clear q q2 q3 q4 q5 o2 o3 o4 o5 hl hb1 ha hy hyi hym hnn hyw
  go_enter Try.func16, Try.ntmps16
  go_wp2
  refine bodyPost_end (results_none rfl _ _ _) rfl ⟨rfl, ?_⟩
  refine put_end Q.out hj (by omega) Q5.out ?_ ?_ ?_ (fun k hk i hi => ?_) ?_ (fun k hk hkj z hz => ?_) O5.out
  · rw [updF_ne _ _ (by omega), updF_ne _ _ (by omega), Q.out.first j hj, List.head?_append, HA.out]
    rfl
  · rw [updF_ne _ _ (by omega), updF_same]
    rfl
  · rw [updF_same, HL.out, List.length_append]
    rfl
  · rw [updF_ne _ _ (by omega), updF_ne _ _ (by omega)]
  · have h1 := Q.out.chain j hj
    have h2 := Q.out.nodup j hj
    have h3 : w.heap.size + 1 ∉ ls j := fun h => by
      have := Q.out.mr.lt (.inr (.inr (Q.out.sub j hj _ h)))
      omega
    have h4 : ∀ z ∈ ls j, updF nx (w.heap.size + 1) none z = nx z := fun z hz => updF_ne _ _ fun e => h3 (e ▸ hz)
    rw [HL.out] at h1 h2 h3 h4 ⊢
    exact chn_snoc (chn_congr h1 h4) h2 h3 (updF_same _ _ _)
  · have h1 := Q.out.mr.lt (.inr (.inr (Q.out.sub k hk z hz)))
    rw [updF_ne _ _ fun e => Q.out.apart k j hk hj hkj z hz (by rw [e]; exact HY.out), updF_ne _ _ (by omega)]
theorem put_any (q : MOk w B b g n ids le nx cx tot ls) {j : Nat} (hj : j < n) (l : Let) (hlen : (ls j).length < 1000000) :
    Calls Try.prog 16 #[.pointer (some ⟨g, j * 3, none⟩), letV l] w fun r w' => r = .returned (.tuple #[]) ∧ PutR B b g n ids le tot ls j l w w' := by
  by_cases h : ls j = []
  · exact put_none q hj l h
  · obtain ⟨l0, y, e⟩ : ∃ l0 y, ls j = l0 ++ [y] := ⟨_, _, (List.dropLast_concat_getLast h).symm⟩
    exact put_some q hj l e (by rw [e, List.length_append] at hlen; exact Nat.lt_of_le_of_lt (Nat.le_add_right _ _) hlen)
/-- What take leaves: the letter is gone. -/
def TakeM (B b g n : Nat) (ids : List Nat) (le : Nat → Let) (nx : Nat → Option Nat) (tot : Int) (ls : Nat → List Nat) (j : Nat) (l : List Nat) (w w' : World) : Prop :=
  ∃ cx', MOk w' B b g n ids le nx cx' tot (updF ls j l) ∧ OnlyS (MS b g ids) w w'
theorem take_end (q : MOk w B b g n ids le nx cx tot ls) {j : Nat} (hj : j < n) {x : Nat} {l : List Nat} (hl : ls j = x :: l) {cx' : Nat → Value} (m : MR w' B b g n ids le nx cx' tot)
    (hc0 : cx' (j * 3) = ptrO l.head?) (hc1 : cx' (j * 3 + 1) = ptrO l.getLast?) (hc2 : cx' (j * 3 + 2) = .int .i64 l.length) (hco : ∀ k, k ≠ j → ∀ i, i < 3 → cx' (k * 3 + i) = cx (k * 3 + i))
    (o : OnlyS (MS b g ids) w w') : TakeM B b g n ids le nx tot ls j l w w' := by
  have hm : ∀ y ∈ l, y ∈ ls j := fun y hy => by rw [hl]; exact List.mem_cons_of_mem _ hy
  have hch := q.chain j hj
  have hnd := q.nodup j hj
  rw [hl] at hch hnd
  exact ⟨cx', q.change m hc0 hc1 hc2 hco (fun y hy => q.sub j hj y (hm y hy)) (fun _ h => h) (List.nodup_cons.1 hnd).2 (fun k hk hkj y hy => q.apart j k hj hk (Ne.symm hkj) y (hm y hy)) (chn_tail hch).1 (fun _ _ _ _ _ => rfl), o⟩
/-- Two stores into a box of two cells. -/
theorem box_two {W : World} {y : Nat} {a b : Value} {t : TypeId} (h : W.heap[y]? = some (.cells #[a, b] t (0, 0))) (a' b' : Value) :
    W.cell? ⟨y, 0, none⟩ = some a ∧ W.frozen? ⟨y, 0, none⟩ = false ∧ (W.setCell ⟨y, 0, none⟩ a').cell? ⟨y, 1, none⟩ = some b ∧ (W.setCell ⟨y, 0, none⟩ a').frozen? ⟨y, 1, none⟩ = false ∧
    ((W.setCell ⟨y, 0, none⟩ a').setCell ⟨y, 1, none⟩ b').cell? ⟨y, 0, none⟩ = some a' ∧ ((W.setCell ⟨y, 0, none⟩ a').setCell ⟨y, 1, none⟩ b').cell? ⟨y, 1, none⟩ = some b' ∧ ((W.setCell ⟨y, 0, none⟩ a').setCell ⟨y, 1, none⟩ b').heap[y]? = some (.cells #[a', b'] t (0, 0)) := by
  have h1 := heap_setCell_same W y 0 _ _ a' h
  have h2 := heap_setCell_same _ y 1 _ _ b' h1
  refine ⟨by rw [cell_of_row W y 0 _ _ _ h]; rfl, by simp [World.frozen?, h], by rw [cell_of_row _ y 1 _ _ _ h1]; rfl, by simp only [World.frozen?, h1]; rfl, by rw [cell_of_row _ y 0 _ _ _ h2]; rfl, by rw [cell_of_row _ y 1 _ _ _ h2]; rfl, h2⟩
theorem only_two {S : Nat → Prop} {u W : World} {y : Nat} (o : OnlyS S u W) (hy : u.heap.size ≤ y) (a b : Value) : OnlyS S u ((W.setCell ⟨y, 0, none⟩ a).setCell ⟨y, 1, none⟩ b) := by
  have o1 : OnlyS (fun z => z = y) W ((W.setCell ⟨y, 0, none⟩ a).setCell ⟨y, 1, none⟩ b) := ((OnlyS.refl (fun z => z = y) W).setCell (p := ⟨y, 0, none⟩) rfl a).setCell (p := ⟨y, 1, none⟩) rfl b
  exact o.thenS o1 fun x hx h => by subst h; omega
set_option maxRecDepth 100000 in
set_option maxHeartbeats 2000000 in
theorem take_one (q : MOk w B b g n ids le nx cx tot ls) {j : Nat} (hj : j < n) {x : Nat} (hl : ls j = [x]) :
    Calls Try.prog 17 #[.pointer (some ⟨g, j * 3, none⟩)] w fun r w' => r = .returned (letV (le x)) ∧ TakeM B b g n ids le nx tot ls j [] w w' := by
  have hb1 : Below w.heap.size w (w.alloc (.cells #[.string ⟨#[]⟩, .int .u8 0] 34)) := below_alloc1 w _
  have hb1n : ¬ MS b g ids w.heap.size := fun h => Nat.lt_irrefl _ (q.mr.lt h)
  have q2 := q.mr.later hb1
  have hx : x ∈ ids := q.sub j hj x (by rw [hl]; simp)
  have cf := q2.cellR (p := j * 3) (by omega)
  rw [q.first j hj, hl] at cf
  replace cf : _ = some (Value.pointer (some ⟨x, 0, none⟩)) := cf
  have cn := (q2.cellL hx).2.2
  have hch := q.chain j hj
  rw [hl] at hch
  rw [(chn_tail hch).2] at cn
  replace cn : _ = some (Value.pointer none) := cn
  obtain ⟨c0, f0, q3, o3⟩ := q2.putX (p := j * 3) (by omega) (.pointer none)
  have c1 := q3.cellR (p := j * 3) (by omega)
  rw [updF_same] at c1
  obtain ⟨c2, f2, q4, o4⟩ := q3.putX (p := j * 3 + 1) (by omega) (.pointer none)
  obtain ⟨c3, f3, q5, o5⟩ := q4.putX (p := j * 3 + 2) (by omega) (.int .i64 0)
  rw [updF_ne _ _ (by omega), updF_ne _ _ (by omega), q.count j hj, hl] at c3
  replace c3 : _ = some (Value.int .i64 1) := c3
  obtain ⟨cl0, cl1, _⟩ := q5.cellL hx
  have O5 := (((OnlyS.of_below (S := MS b g ids) hb1).trans o3).trans o4).trans o5
  have hbx := (((o3.trans o4).trans o5).row (heap_alloc_new w _) hb1n)
  obtain ⟨x0, y0, x1, y1, r0, r1, hbx2⟩ := box_two hbx (.string ⟨(le x).s.toArray⟩) (.int .u8 (le x).set)
  have q6 := q5.onlyS (((OnlyS.refl (fun z => z = w.heap.size) _).setCell (p := ⟨w.heap.size, 0, none⟩) rfl (.string ⟨(le x).s.toArray⟩)).setCell (p := ⟨w.heap.size, 1, none⟩) rfl (.int .u8 (le x).set)) fun z hz e => hb1n (e ▸ hz)
  have HT := Lib.hid (take_end q hj hl q6 (by rw [updF_ne _ _ (by omega), updF_ne _ _ (by omega), updF_same]; rfl) (by rw [updF_ne _ _ (by omega), updF_same]; rfl) (by rw [updF_same]; rfl) (fun k hk i hi => by rw [updF_ne _ _ (by omega), updF_ne _ _ (by omega), updF_ne _ _ (by omega)]) (only_two O5 (Nat.le_refl _) _ _))
  clear q q2 q3 q4 q5 q6 o3 o4 o5 O5 hl hb1 hx hch hbx hbx2 hb1n
  go_enter Try.func17, Try.ntmps17
  go_wp2
  refine bodyPost_ret (v := letV (le x)) (by simp [results, Try.results17, go_sem, r0, r1]) rfl ?_
  exact ⟨rfl, HT.out⟩
set_option maxRecDepth 100000 in
set_option maxHeartbeats 2000000 in
theorem take_more (q : MOk w B b g n ids le nx cx tot ls) {j : Nat} (hj : j < n) {x x2 : Nat} {l : List Nat} (hl : ls j = x :: x2 :: l) (hlen : l.length < 1000000) :
    Calls Try.prog 17 #[.pointer (some ⟨g, j * 3, none⟩)] w fun r w' => r = .returned (letV (le x)) ∧ TakeM B b g n ids le nx tot ls j (x2 :: l) w w' := by
  have hb1 : Below w.heap.size w (w.alloc (.cells #[.string ⟨#[]⟩, .int .u8 0] 34)) := below_alloc1 w _
  have hb1n : ¬ MS b g ids w.heap.size := fun h => Nat.lt_irrefl _ (q.mr.lt h)
  have q2 := q.mr.later hb1
  have hx : x ∈ ids := q.sub j hj x (by rw [hl]; simp)
  have cf := q2.cellR (p := j * 3) (by omega)
  rw [q.first j hj, hl] at cf
  replace cf : _ = some (Value.pointer (some ⟨x, 0, none⟩)) := cf
  have cn := (q2.cellL hx).2.2
  have hch := q.chain j hj
  rw [hl] at hch
  rw [(chn_tail hch).2] at cn
  replace cn : _ = some (Value.pointer (some ⟨x2, 0, none⟩)) := cn
  obtain ⟨c0, f0, q3, o3⟩ := q2.putX (p := j * 3) (by omega) (.pointer (some ⟨x2, 0, none⟩))
  have c1 := q3.cellR (p := j * 3) (by omega)
  rw [updF_same] at c1
  obtain ⟨c3, f3, q5, o5⟩ := q3.putX (p := j * 3 + 2) (by omega) (.int .i64 ((l.length : Int) + 1))
  rw [updF_ne _ _ (by omega), q.count j hj, hl] at c3
  replace c3 : _ = some (Value.int .i64 ((l.length : Int) + 1 + 1)) := c3
  obtain ⟨cl0, cl1, _⟩ := q5.cellL hx
  have O5 := ((OnlyS.of_below (S := MS b g ids) hb1).trans o3).trans o5
  have hbx := ((o3.trans o5).row (heap_alloc_new w _) hb1n)
  obtain ⟨x0, y0, x1, y1, r0, r1, hbx2⟩ := box_two hbx (.string ⟨(le x).s.toArray⟩) (.int .u8 (le x).set)
  have q6 := q5.onlyS (((OnlyS.refl (fun z => z = w.heap.size) _).setCell (p := ⟨w.heap.size, 0, none⟩) rfl (.string ⟨(le x).s.toArray⟩)).setCell (p := ⟨w.heap.size, 1, none⟩) rfl (.int .u8 (le x).set)) fun z hz e => hb1n (e ▸ hz)
  have HT := Lib.hid (take_end q hj hl q6 (by rw [updF_ne _ _ (by omega), updF_same]; rfl) (by
    rw [updF_ne _ _ (by omega), updF_ne _ _ (by omega), q.last j hj, hl]
    rfl) (by rw [updF_same]; rfl) (fun k hk i hi => by rw [updF_ne _ _ (by omega), updF_ne _ _ (by omega)]) (only_two O5 (Nat.le_refl _) _ _))
  clear q q2 q3 q5 q6 o3 o5 O5 hl hb1 hx hch hbx hbx2 hb1n
  go_enter Try.func17, Try.ntmps17
  go_wp2
  refine bodyPost_ret (v := letV (le x)) (by simp [results, Try.results17, go_sem, r0, r1]) rfl ?_
  exact ⟨rfl, HT.out⟩
theorem take_any (q : MOk w B b g n ids le nx cx tot ls) {j : Nat} (hj : j < n) {x : Nat} {l : List Nat} (hl : ls j = x :: l) (hlen : l.length < 1000000) :
    Calls Try.prog 17 #[.pointer (some ⟨g, j * 3, none⟩)] w fun r w' => r = .returned (letV (le x)) ∧ TakeM B b g n ids le nx tot ls j l w w' := by
  cases l with
  | nil => exact take_one q hj hl
  | cons x2 l => exact take_more q hj hl (Nat.lt_of_le_of_lt (Nat.le_succ _) hlen)
end
end Go.Proofs.Ytpanfhkmildkeaa
