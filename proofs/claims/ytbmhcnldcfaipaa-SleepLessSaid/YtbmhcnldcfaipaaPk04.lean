import Derived.Laws.CopyOwn
import Derived.Deep.WholeRow
import Derived.Deep.MidRow
import Derived.Test.YtbmhcnldcfaipaaPk01
import Derived.Test.YtbmhcnldcfaipaaPk02
import Derived.Test.YtbmhcnldcfaipaaPk03

/- Plain numbers for New: a state that is being laid. -/
namespace Go.Proofs.Ytbmhcnldcfaipaa
open Go.RowKit

def insNums (l : List Ins) : List Int := l.flatMap fun i => [i.kind, i.r, i.x, i.n]
theorem insNums_cells (l : List Ins) : insCells l = (insNums l).map (Value.int .i64) := by
  simp [insCells, insNums, List.map_flatMap]
theorem insNums_length (l : List Ins) : (insNums l).length = l.length * 4 := by
  have := insCells_length l
  rw [insNums_cells] at this
  simpa using this
theorem insNums_get (l : List Ins) (j : Nat) : (insNums l).getD j 0 = insNum (l.getD (j / 4) ins0) (j % 4) := by
  induction l generalizing j with
  | nil =>
    simp [insNums]
    unfold insNum ins0
    repeat' split
    all_goals rfl
  | cons i l ih =>
    by_cases h : j < 4
    · rw [show j / 4 = 0 by omega, show j % 4 = j by omega]
      obtain rfl | rfl | rfl | rfl : j = 0 ∨ j = 1 ∨ j = 2 ∨ j = 3 := by omega
      all_goals rfl
    · obtain ⟨k, rfl⟩ : ∃ k, j = k + 4 := ⟨j - 4, by omega⟩
      rw [show (k + 4) / 4 = k / 4 + 1 by omega, show (k + 4) % 4 = k % 4 by omega]
      exact ih k

/-- In block g lie the numbers f. -/
def NumAt (w : World) (g : Nat) (f : Nat → Int) : Prop := w.heap[g]? = some (.cells (numA f) 81 (0, 0))
theorem NumAt.lt {w : World} {g : Nat} {f : Nat → Int} (h : NumAt w g f) : g < w.heap.size := (Array.getElem?_eq_some_iff.1 h).1
theorem NumAt.cell {w : World} {g : Nat} {f : Nat → Int} (h : NumAt w g f) (o : Nat) (ho : o < 156) : w.cell? ⟨g, o, none⟩ = some (.int .i64 (f o)) := by
  rw [cell_of_row w g o _ _ _ h, numA_get _ _ ho]
theorem NumAt.frozen {w : World} {g : Nat} {f : Nat → Int} (h : NumAt w g f) (o : Nat) : w.frozen? ⟨g, o, none⟩ = false := by
  simp [World.frozen?, show w.heap[g]? = _ from h]
theorem NumAt.set {w : World} {g : Nat} {f : Nat → Int} (h : NumAt w g f) (f' : Nat → Int) (o : Nat) (n : Int) (ho : o < 156) (hs : ∀ j, j < 156 → f' j = if j = o then n else f j) : NumAt (w.setCell ⟨g, o, none⟩ (.int .i64 n)) g f' := by
  have := heap_setCell_same w g o _ _ (.int .i64 n) h
  rw [numA_set _ _ o n ho hs] at this
  exact this

theorem numA_splice (f f1 : Nat → Int) (o : Nat) (vs : List Int) (h : ∀ j, j < 156 → f1 j = if o ≤ j ∧ j < o + vs.length then vs.getD (j - o) 0 else f j) (ho : o + vs.length ≤ 156) :
    ((numA f).toList.take o ++ vs.map (Value.int .i64) ++ (numA f).toList.drop (o + vs.length)).toArray = numA f1 := by
  have hl : (numA f).toList.length = 156 := by simp [numA]
  apply Array.ext_getElem?
  intro j
  rw [List.getElem?_toArray]
  by_cases hj : j < 156
  · rw [numA_get f1 j hj, h j hj]
    by_cases h1 : j < o
    · rw [if_neg (by omega), List.append_assoc, List.getElem?_append_left (by simp [hl]; omega), List.getElem?_take_of_lt h1]
      have := numA_get f j hj
      simpa using this
    · by_cases h2 : j < o + vs.length
      · rw [if_pos ⟨by omega, h2⟩, List.getElem?_append_left (by simp [hl]; omega), List.getElem?_append_right (by simp [hl]; omega)]
        have e : j - ((numA f).toList.take o).length = j - o := by simp [hl]; omega
        rw [e, List.getElem?_map, List.getElem?_eq_getElem (by omega), getD_lt _ (by omega)]
        rfl
      · rw [if_neg (by omega), List.getElem?_append_right (by simp [hl]; omega), List.getElem?_drop]
        have e : o + vs.length + (j - ((numA f).toList.take o ++ vs.map (Value.int .i64)).length) = j := by simp [hl]; omega
        rw [e]
        have := numA_get f j hj
        simpa using this
  · have h1 : (numA f1)[j]? = none := Array.getElem?_eq_none (by rw [numA_size]; omega)
    rw [h1, List.getElem?_eq_none]
    simp [hl]
    omega

/-- copy(dst, src) into the middle of the block: elements of four numbers. -/
theorem run_copy_code (w : World) (g o : Nat) (f f1 : Nat → Int) (hg : NumAt w g f) (c : Option Addr) (cap : Nat) (l : List Ins) (hl : CodeAt w c l) (h8 : l.length ≤ 8) (ho : o + 32 ≤ 156)
    (h : ∀ j, j < 156 → f1 j = if o ≤ j ∧ j < o + l.length * 4 then insNum (l.getD ((j - o) / 4) ins0) ((j - o) % 4) else f j) :
    (Builtin.copy_ #[65, 65] 3 #[.slice (some ⟨g, o, none⟩) 8 8, .slice c l.length cap]).run Try.prog w = .ok (.int .i64 l.length) (w.setRow g (numA f1)) := by
  have hs : (Try.prog.info? 64).map (·.size) = some 4 := by kernel_rfl
  have hm : Nat.min l.length 8 = l.length := Nat.min_eq_left h8
  cases hq : Try.prog.info? 64 with
  | none => simp [hq] at hs
  | some i =>
    have hi : i.size = 4 := by simpa [hq] using hs
    have hst := run_storeCells_at (P := Try.prog) g o 81 (insCells l) 0 _ w hg (by rw [insCells_length, numA_size]; omega) (insCells_one l)
    have hsp := numA_splice f f1 o (insNums l) (fun j hj => by rw [h j hj, insNums_length, insNums_get]) (by rw [insNums_length]; omega)
    rw [Nat.add_zero, insNums_cells, List.length_map, hsp] at hst
    by_cases h0 : l = []
    · subst h0
      have hlc : ∀ (x : Addr), (loadCells x 0).run Try.prog w = .ok #[] w := fun x => by simpa using run_loadCells_list (P := Try.prog) w x [] (by simp)
      have hst' : (storeCells ⟨g, o, none⟩ ([] : List Value)).run Try.prog w = .ok () (w.setRow g (numA f1)) := hst
      cases c <;> simp [Builtin.copy_, run_underlying Try.underlying65, Builtin.lenOf, Builtin.firstCells, sizeOf, typeInfo, hq, hlc, hst', goInt]
    · obtain ⟨b', o', rfl, _⟩ := hl.2 h0
      have hld := run_loadCells_list (P := Try.prog) w ⟨b', o', none⟩ (insCells l) hl.cells
      rw [insCells_length] at hld
      rw [← insNums_cells] at hst
      simp [Builtin.copy_, run_underlying Try.underlying65, Builtin.lenOf, Builtin.firstCells, sizeOf, typeInfo, hq, hi, hm, hld, hst, goInt]

/-- The numbers when the first k threads are laid. -/
def newNum (p : Pg) (F k o : Nat) : Int := if o < 2 + k * 37 ∧ o < 150 then stNum (St.new p F) o else 0
/-- The numbers when all threads are, and k mutexes. -/
def newNum2 (p : Pg) (F k o : Nat) : Int := if o < 154 + k then stNum (St.new p F) o else 0

theorem new_th (p : Pg) (F k : Nat) (hk : k < p.threads.length) : (St.new p F).th k = ⟨0, F, [0, 0]⟩ := by
  unfold St.th St.new
  dsimp only
  rw [getD_lt _ (by simpa using hk)]
  simp
theorem new_th_out (p : Pg) (F k : Nat) (hk : p.threads.length ≤ k) : (St.new p F).th k = thr0 := by
  unfold St.th St.new
  simp [List.getD, hk]
theorem new_code (p : Pg) (F k : Nat) (hk : k < p.threads.length) : (St.new p F).code k = p.threads[k] := by
  unfold St.code St.new
  exact getD_lt _ hk
theorem new_code_out (p : Pg) (F k : Nat) (hk : p.threads.length ≤ k) : (St.new p F).code k = [] := by
  unfold St.code St.new
  simp [List.getD, hk]
theorem thrNum_out (k : Nat) : thrNum [] thr0 k = 0 := by
  unfold thrNum
  have e : ∀ n, insNum ins0 n = 0 := fun n => by unfold insNum ins0; repeat' split
                                                 all_goals rfl
  have e2 : ∀ n : Nat, ([0, 0] : List Int).getD n 0 = 0 := fun n => match n with | 0 => rfl | 1 => rfl | n + 2 => rfl
  dsimp only [thr0]
  by_cases h : k < 32
  · rw [if_pos h]; exact e _
  rw [if_neg h]
  by_cases h : k = 32
  · rw [if_pos h]; rfl
  rw [if_neg h]
  by_cases h : k = 33
  · rw [if_pos h]; rfl
  rw [if_neg h]
  by_cases h : k = 34
  · rw [if_pos h]; rfl
  rw [if_neg h]
  exact e2 _

theorem newNum_zero (p : Pg) (F o : Nat) : newNum p F 0 o = if o = 0 then (p.threads.length : Int) else if o = 1 then p.mutexes else 0 := by
  unfold newNum
  by_cases h0 : o = 0
  · subst h0; simp [stNum_threads, St.new]
  · by_cases h1 : o = 1
    · subst h1; simp [stNum_mutexes, St.new]
    · rw [if_neg (by omega), if_neg h0, if_neg h1]

/-- The thread k is laid: its code, then its size, then its fuel. -/
theorem newNum_succ (p : Pg) (F k : Nat) (hk : k < p.threads.length) (h4 : p.threads.length ≤ 4) (h8 : p.threads[k].length ≤ 8) (f1 f2 : Nat → Int)
    (h1 : ∀ j, j < 156 → f1 j = if 2 + k * 37 ≤ j ∧ j < 2 + k * 37 + p.threads[k].length * 4 then insNum (p.threads[k].getD ((j - (2 + k * 37)) / 4) ins0) ((j - (2 + k * 37)) % 4) else newNum p F k j)
    (h2 : ∀ j, j < 156 → f2 j = if j = 2 + k * 37 + 32 then (p.threads[k].length : Int) else f1 j) :
    ∀ j, j < 156 → newNum p F (k + 1) j = if j = 2 + k * 37 + 34 then (F : Int) else f2 j := by
  intro j hj
  rw [h2 j hj, h1 j hj]
  unfold newNum
  by_cases a : j < 2 + k * 37
  · rw [if_pos (by omega), if_neg (by omega), if_neg (by omega), if_neg (by omega), if_pos (by omega)]
  · by_cases b : j < 2 + (k + 1) * 37
    · obtain ⟨d, rfl⟩ : ∃ d, j = 2 + k * 37 + d := ⟨j - (2 + k * 37), by omega⟩
      rw [if_pos (by omega), stNum_thr _ _ _ (by omega) (by omega), new_th p F k hk, new_code p F k hk]
      have ed : 2 + k * 37 + d - (2 + k * 37) = d := by omega
      rw [ed]
      unfold thrNum
      by_cases c1 : d < 32
      · rw [if_pos c1, if_neg (by omega), if_neg (by omega)]
        by_cases c2 : d < p.threads[k].length * 4
        · rw [if_pos (by omega)]
        · rw [if_neg (by omega), if_neg (by omega)]
          have e : p.threads[k].getD (d / 4) ins0 = ins0 := by
            rw [List.getD, List.getElem?_eq_none (by omega)]; rfl
          rw [e]
          unfold insNum ins0
          repeat' split
          all_goals rfl
      · rw [if_neg c1, if_neg (c := 2 + k * 37 ≤ 2 + k * 37 + d ∧ 2 + k * 37 + d < 2 + k * 37 + p.threads[k].length * 4) (by omega), if_neg (c := 2 + k * 37 + d < 2 + k * 37 ∧ 2 + k * 37 + d < 150) (by omega)]
        obtain rfl | rfl | rfl | rfl | rfl : d = 32 ∨ d = 33 ∨ d = 34 ∨ d = 35 ∨ d = 36 := by omega
        all_goals simp
    · rw [if_neg (by omega), if_neg (by omega), if_neg (by omega), if_neg (by omega), if_neg (by omega)]

theorem newNum_all (p : Pg) (F : Nat) : ∀ j, j < 156 → newNum p F p.threads.length j = newNum2 p F 0 j := by
  intro j hj
  unfold newNum newNum2
  by_cases a : j < 2 + p.threads.length * 37 ∧ j < 150
  · rw [if_pos a, if_pos (by omega)]
  · rw [if_neg a]
    by_cases b : j < 150
    · rw [if_pos (by omega)]
      obtain ⟨d, t, rfl, ht⟩ : ∃ d t, j = 2 + t * 37 + d ∧ d < 37 := ⟨(j - 2) % 37, (j - 2) / 37, by omega, by omega⟩
      rw [stNum_thr _ _ _ (by omega) ht, new_th_out _ _ _ (by omega), new_code_out _ _ _ (by omega), thrNum_out]
    · by_cases c : j < 154
      · rw [if_pos (by omega)]
        obtain ⟨d, rfl⟩ : ∃ d, j = 150 + d := ⟨j - 150, by omega⟩
        rw [stNum_var _ _ (by omega)]
        obtain rfl | rfl | rfl | rfl : d = 0 ∨ d = 1 ∨ d = 2 ∨ d = 3 := by omega
        all_goals rfl
      · rw [if_neg (by omega)]

theorem newNum2_succ (p : Pg) (F k : Nat) (hk : k < 2) : ∀ j, j < 156 → newNum2 p F (k + 1) j = if j = 154 + k then -1 else newNum2 p F k j := by
  intro j hj
  unfold newNum2
  by_cases a : j = 154 + k
  · rw [if_pos (by omega), if_pos a, a, stNum_who]
    obtain rfl | rfl : k = 0 ∨ k = 1 := by omega
    all_goals rfl
  · rw [if_neg a]
    by_cases b : j < 154 + k
    · rw [if_pos (by omega), if_pos b]
    · rw [if_neg (by omega), if_neg b]

theorem newNum2_all (p : Pg) (F : Nat) : ∀ j, j < 156 → newNum2 p F 2 j = stNum (St.new p F) j := by
  intro j hj
  unfold newNum2
  rw [if_pos (by omega)]

end Go.Proofs.Ytbmhcnldcfaipaa

/- The contract of rightCode. -/
namespace Go.Proofs.Ytbmhcnldcfaipaa
open Go.RowKit

set_option maxRecDepth 100000 in
set_option maxHeartbeats 1000000 in
theorem rightCode_any (V M : Int) (t : Value) (a : Option Addr) (cap : Nat) (l : List Ins) (w : World) (hl : CodeAt w a l) :
    Calls Try.prog 53 #[.agg #[.int .i64 V, .int .i64 M, t], .slice a l.length cap] w fun r w' => r = .returned (.bool (rightCode V M l)) ∧ Below w.heap.size w w' := by
  have hm := hl.1
  unfold maxLen at hm
  by_cases h8 : l.length ≤ 8
  · have H : Hid (rightCode V M l = l.all (rightIns V M l.length)) := by show _ = _; simp [rightCode, h8]
    have HL := Lib.hid hl
    have h9 : decide (8 < l.length) = false := by simp; omega
    clear hl
    go_enter Try.func53, Try.ntmps53
    go_wp2
    go_loopw [12] (fun i wr => ∃ k : Nat, k ≤ l.length ∧ i = .int .i64 k ∧ Hid ((l.take k).all (rightIns V M l.length) = true) ∧ Below (w.heap.size + 1) (w.alloc (.cells #[.int .i64 V, .int .i64 M, t] 37)) wr) (fun i _ => l.length - (intOf i).toNat)
    case atStart => exact ⟨0, Nat.zero_le _, rfl, rfl, Below.refl _ _⟩
    case round =>
      obtain ⟨k, hk, rfl, hall, hb⟩ := hrel
      by_cases hlt : k < l.length
      · obtain ⟨b, o, rfl, hc⟩ := HL.out.2 (by intro e; simp [e] at hlt)
        have hbw : Below w.heap.size w wr := ((Below.refl _ _).alloc (Nat.le_refl _) _).trans (hb.mono (by omega))
        obtain ⟨c0, c1, c2, c3⟩ := hc k hlt
        have d0 := cell_later hbw c0
        have d1 := cell_later hbw c1
        have d2 := cell_later hbw c2
        have d3 := cell_later hbw c3
        have p0 : wr.cell? ⟨w.heap.size, 0, none⟩ = some (.int .i64 V) := by rw [hb.cell (p := ⟨w.heap.size, 0, none⟩) (by simp)]; simp
        have p1 : wr.cell? ⟨w.heap.size, 1, none⟩ = some (.int .i64 M) := by rw [hb.cell (p := ⟨w.heap.size, 1, none⟩) (by simp)]; simp
        have p2 : wr.cell? ⟨w.heap.size, 2, none⟩ = some t := by rw [hb.cell (p := ⟨w.heap.size, 2, none⟩) (by simp)]; simp
        have hz : w.heap.size < wr.heap.size := by have := hb.size; simp at this; omega
        clear c0 c1 c2 c3 hc
        go_wp2_with fail
        refine (rightInstr_any V M l.length (by omega) (by omega) t l[k] _).mono ?_
        rintro r w1 ⟨rfl, hb1⟩
        have hb2 : Below (w.heap.size + 1) (w.alloc (.cells #[.int .i64 V, .int .i64 M, t] 37)) w1 := (hb.alloc (by omega) _).trans (hb1.mono (by simp; omega))
        have hb3 : Below w.heap.size w w1 := ((Below.refl _ _).alloc (Nat.le_refl _) _).trans (hb2.mono (by omega))
        have ht : (l.take (k + 1)) = l.take k ++ [l[k]] := List.take_succ_eq_append_getElem hlt
        cases hr : rightIns V M l.length l[k]
        · have HR : Hid (rightCode V M l = false) := by
            show _ = _
            rw [H.out, List.all_eq_false]; exact ⟨l[k], List.getElem_mem _, by simp [hr]⟩
          clear hr ht
          go_wp2
          go_ret
          exact ⟨ret_bool HR.out.symm, hb3⟩
        · have HR : Hid ((l.take (k + 1)).all (rightIns V M l.length) = true) := by
            show _ = _
            rw [ht, List.all_append, hall.out]; simp [hr]
          clear hr ht
          go_wp2
          go_roundw
          case rel => exact ⟨k + 1, by omega, by go_num, HR, hb2⟩
          case measure => simp [intOf]; omega
      · obtain rfl : k = l.length := by omega
        have HR : Hid (rightCode V M l = true) := by
          show _ = _
          rw [H.out, ← hall.out, List.take_length]
        have hbw : Below w.heap.size w wr := ((Below.refl _ _).alloc (Nat.le_refl _) _).trans (hb.mono (by omega))
        go_wp2
        go_ret
        exact ⟨ret_bool HR.out.symm, hbw⟩
  · have H : Hid (rightCode V M l = false) := by show _ = _; simp [rightCode]; omega
    have h9 : 8 < l.length := by omega
    clear hl
    go_enter Try.func53, Try.ntmps53
    go_wp2
    go_ret
    exact ⟨ret_bool H.out.symm, below_alloc1 _ _⟩
end Go.Proofs.Ytbmhcnldcfaipaa

/- The contract of Right. -/
namespace Go.Proofs.Ytbmhcnldcfaipaa
open Go.RowKit

set_option maxRecDepth 100000 in
set_option maxHeartbeats 1000000 in
theorem right_any (p : Pg) (a : Option Addr) (cap : Nat) (w : World) (hp : ThreadsAt w a p.threads) :
    Calls Try.prog 48 #[pgV p a cap] w fun r w' => r = .returned (.bool (rightPg p)) ∧ Below w.heap.size w w' := by
  obtain ⟨V, M, ts⟩ := p
  unfold pgV
  dsimp only at *
  have hm := hp.1
  unfold maxLen at hm
  cases hV : belowB V 5
  · have H : Hid (rightPg ⟨V, M, ts⟩ = false) := by
      show _ = _
      simp [belowB] at hV
      simp [rightPg]; omega
    have HL := Lib.hid hp
    clear hp
    go_enter Try.func48, Try.ntmps48
    go_wp2_with (go_at_call 52; refine (below_any _ _ _).mono ?_; rintro r w' ⟨rfl, rfl⟩)
    go_ret
    exact ⟨ret_bool H.out.symm, below_alloc1 _ _⟩
  cases hM : belowB M 3
  · have H : Hid (rightPg ⟨V, M, ts⟩ = false) := by
      show _ = _
      simp [belowB] at hM
      simp [rightPg]; omega
    have HL := Lib.hid hp
    clear hp
    go_enter Try.func48, Try.ntmps48
    go_wp2_with (go_at_call 52; refine (below_any _ _ _).mono ?_; rintro r w' ⟨rfl, rfl⟩)
    go_ret
    exact ⟨ret_bool H.out.symm, below_alloc1 _ _⟩
  by_cases h1 : ts.length < 1
  · have H : Hid (rightPg ⟨V, M, ts⟩ = false) := by
      show _ = _
      simp [rightPg]; omega
    have HL := Lib.hid hp
    clear hp
    go_enter Try.func48, Try.ntmps48
    go_wp2_with (go_at_call 52; refine (below_any _ _ _).mono ?_; rintro r w' ⟨rfl, rfl⟩)
    go_ret
    exact ⟨ret_bool H.out.symm, below_alloc1 _ _⟩
  by_cases h4 : 4 < ts.length
  · have H : Hid (rightPg ⟨V, M, ts⟩ = false) := by
      show _ = _
      simp [rightPg]; omega
    have HL := Lib.hid hp
    clear hp
    go_enter Try.func48, Try.ntmps48
    go_wp2_with (go_at_call 52; refine (below_any _ _ _).mono ?_; rintro r w' ⟨rfl, rfl⟩)
    go_ret
    exact ⟨ret_bool H.out.symm, below_alloc1 _ _⟩
  have H : Hid (rightPg ⟨V, M, ts⟩ = ts.all (rightCode V M)) := by
    show _ = _
    simp [belowB] at hV hM
    have : decide (0 ≤ V ∧ V ≤ 4 ∧ 0 ≤ M ∧ M ≤ 2 ∧ 1 ≤ ts.length ∧ ts.length ≤ 4) = true := by simp; omega
    unfold rightPg
    dsimp only
    rw [this, Bool.true_and]
  have HL := Lib.hid hp
  clear hp
  go_enter Try.func48, Try.ntmps48
  go_wp2_with (go_at_call 52; refine (below_any _ _ _).mono ?_; rintro r w' ⟨rfl, rfl⟩)
  go_loopw [28] (fun i wr => ∃ k : Nat, k ≤ ts.length ∧ i = .int .i64 k ∧ Hid ((ts.take k).all (rightCode V M) = true) ∧ Below (w.heap.size + 1) (w.alloc (.cells #[.int .i64 V, .int .i64 M, .slice a ts.length cap] 37)) wr) (fun i _ => ts.length - (intOf i).toNat)
  case atStart => exact ⟨0, Nat.zero_le _, rfl, rfl, Below.refl _ _⟩
  case round =>
    obtain ⟨k, hk, rfl, hall, hb⟩ := hrel
    by_cases hlt : k < ts.length
    · obtain ⟨b, o, rfl, hc⟩ := HL.out.2 (by intro e; simp [e] at hlt)
      have hbw : Below w.heap.size w wr := ((Below.refl _ _).alloc (Nat.le_refl _) _).trans (hb.mono (by omega))
      obtain ⟨c, ccap, c0, c1, _⟩ := hc k hlt
      have d0 := cell_later hbw c0
      have D1 := Lib.hid (c1.later hbw)
      have p0 : wr.cell? ⟨w.heap.size, 0, none⟩ = some (.int .i64 V) := by rw [hb.cell (p := ⟨w.heap.size, 0, none⟩) (by simp)]; simp
      have p1 : wr.cell? ⟨w.heap.size, 1, none⟩ = some (.int .i64 M) := by rw [hb.cell (p := ⟨w.heap.size, 1, none⟩) (by simp)]; simp
      have p2 : wr.cell? ⟨w.heap.size, 2, none⟩ = some (.slice (some ⟨b, o, none⟩) ts.length cap) := by rw [hb.cell (p := ⟨w.heap.size, 2, none⟩) (by simp)]; simp
      have hz : w.heap.size < wr.heap.size := by have := hb.size; simp at this; omega
      clear c0 c1 hc
      go_wp2_with fail
      refine (rightCode_any V M _ c ccap ts[k] _ D1.out).mono ?_
      rintro r w1 ⟨rfl, hb1⟩
      have hb2 : Below (w.heap.size + 1) (w.alloc (.cells #[.int .i64 V, .int .i64 M, .slice (some ⟨b, o, none⟩) ts.length cap] 37)) w1 := hb.trans (hb1.mono (by omega))
      have hb3 : Below w.heap.size w w1 := ((Below.refl _ _).alloc (Nat.le_refl _) _).trans (hb2.mono (by omega))
      have ht : (ts.take (k + 1)) = ts.take k ++ [ts[k]] := List.take_succ_eq_append_getElem hlt
      cases hr : rightCode V M ts[k]
      · have HR : Hid (rightPg ⟨V, M, ts⟩ = false) := by
          show _ = _
          rw [H.out, List.all_eq_false]; exact ⟨ts[k], List.getElem_mem _, by simp [hr]⟩
        clear hr ht
        go_wp2
        go_ret
        exact ⟨ret_bool HR.out.symm, hb3⟩
      · have HR : Hid ((ts.take (k + 1)).all (rightCode V M) = true) := by
          show _ = _
          rw [ht, List.all_append, hall.out]; simp [hr]
        clear hr ht
        go_wp2
        go_roundw
        case rel => exact ⟨k + 1, by omega, by go_num, HR, hb2⟩
        case measure => simp [intOf]; omega
    · obtain rfl : k = ts.length := by omega
      have HR : Hid (rightPg ⟨V, M, ts⟩ = true) := by
        show _ = _
        rw [H.out, ← hall.out, List.take_length]
      have hbw : Below w.heap.size w wr := ((Below.refl _ _).alloc (Nat.le_refl _) _).trans (hb.mono (by omega))
      go_wp2
      go_ret
      exact ⟨ret_bool HR.out.symm, hbw⟩
end Go.Proofs.Ytbmhcnldcfaipaa

/- The contract of New. -/
namespace Go.Proofs.Ytbmhcnldcfaipaa
open Go.RowKit

/-- A new state, or none. -/
def NewR (p : Pg) (fuel : Int) (w : World) (r : Ending) (w' : World) : Prop :=
  if rightPg p = true ∧ 0 ≤ fuel ∧ fuel ≤ 8 then ∃ g, r = .returned (.tuple #[.pointer (some ⟨g, 0, none⟩), .int .i64 0]) ∧ w.heap.size ≤ g ∧ StAt w' g (St.new p fuel.toNat) ∧ Below w.heap.size w w'
  else r = .returned (.tuple #[.pointer none, .int .i64 1]) ∧ Below w.heap.size w w'

set_option maxRecDepth 100000 in
set_option maxHeartbeats 2000000 in
theorem new_no (p : Pg) (a : Option Addr) (cap : Nat) (fuel : Int) (w : World) (hp : ThreadsAt w a p.threads) (hr : rightPg p = false) :
    Calls Try.prog 32 #[.agg #[.int .i64 p.vars, .int .i64 p.mutexes, .slice a p.threads.length cap], .int .i64 fuel] w fun r w' => r = .returned (.tuple #[.pointer none, .int .i64 1]) ∧ Below w.heap.size w w' := by
  have HR := Lib.hid hr
  have HP := Lib.hid hp
  clear hr hp
  go_enter Try.func32, Try.ntmps32
  go_wp2_with fail
  refine (right_any p a cap _ (HP.out.later (below_alloc1 w _))).mono ?_
  rw [HR.out]
  rintro r w1 ⟨rfl, hb⟩
  have hb1 : Below w.heap.size w w1 := (below_alloc1 w _).trans (hb.mono (by simp))
  clear hb
  go_wp2
  go_ret2
  exact ⟨rfl, hb1⟩

set_option maxRecDepth 100000 in
set_option maxHeartbeats 2000000 in
theorem new_fuel (p : Pg) (a : Option Addr) (cap : Nat) (fuel : Int) (w : World) (hp : ThreadsAt w a p.threads) (hr : rightPg p = true) (hf : belowB fuel 9 = false) :
    Calls Try.prog 32 #[.agg #[.int .i64 p.vars, .int .i64 p.mutexes, .slice a p.threads.length cap], .int .i64 fuel] w fun r w' => r = .returned (.tuple #[.pointer none, .int .i64 1]) ∧ Below w.heap.size w w' := by
  have HR := Lib.hid hr
  have HP := Lib.hid hp
  clear hr hp
  go_enter Try.func32, Try.ntmps32
  go_wp2_with fail
  refine (right_any p a cap _ (HP.out.later (below_alloc1 w _))).mono ?_
  rw [HR.out]
  rintro r w1 ⟨rfl, hb⟩
  have hb1 : Below w.heap.size w w1 := (below_alloc1 w _).trans (hb.mono (by simp))
  clear hb
  go_wp2_with (go_at_call 42; refine (sbelow_any _ _ _).mono ?_; rintro r w' ⟨rfl, rfl⟩)
  go_ret2
  exact ⟨rfl, hb1⟩

theorem zero_state : ∃ Z : Array Value, Z = numA (fun _ => 0) ∧ ∀ w, (zeroValue 81).run Try.prog w = .ok (.agg Z) w :=
  ⟨_, rfl, (zero_of_info (P := Try.prog) (t := 81) (v := .agg (numA fun _ => 0)) (n := 156) (by kernel_rfl)).1⟩

set_option maxRecDepth 100000 in
set_option maxHeartbeats 4000000 in
theorem new_yes (p : Pg) (a : Option Addr) (cap F : Nat) (w : World) (hp : ThreadsAt w a p.threads) (hr : rightPg p = true) (hF : F ≤ 8) :
    Calls Try.prog 32 #[.agg #[.int .i64 p.vars, .int .i64 p.mutexes, .slice a p.threads.length cap], .int .i64 F] w
      fun r w' => ∃ g, r = .returned (.tuple #[.pointer (some ⟨g, 0, none⟩), .int .i64 0]) ∧ w.heap.size ≤ g ∧ StAt w' g (St.new p F) ∧ Below w.heap.size w w' := by
  have hf : belowB F 9 = true := by simp [belowB]; omega
  have hn4 : p.threads.length ≤ 4 := by
    unfold rightPg at hr
    rw [Bool.and_eq_true, decide_eq_true_eq] at hr
    omega
  have HR := Lib.hid hr
  have HP := Lib.hid hp
  obtain ⟨Z, hZ, hzv⟩ := zero_state
  have hne : ¬ Z = #[] := fun e => by have := congrArg Array.size e; rw [hZ, numA_size] at this; simp at this
  have hsz : Z.size = 156 := by rw [hZ, numA_size]
  have hset : (Z.setIfInBounds 0 (.int .i64 p.threads.length)).setIfInBounds 1 (.int .i64 p.mutexes) = numA (newNum p F 0) := by
    rw [hZ, numA_set (fun _ => 0) (fun j => if j = 0 then (p.threads.length : Int) else 0) 0 _ (by omega) (fun j _ => rfl)]
    refine numA_set _ _ 1 _ (by omega) (fun j _ => ?_)
    rw [newNum_zero]
    by_cases h0 : j = 0
    · simp [h0]
    · simp [h0]
  clear hZ
  clear hr hp
  go_enter Try.func32, Try.ntmps32
  go_wp2_with fail
  refine (right_any p a cap _ (HP.out.later (below_alloc1 w _))).mono ?_
  rw [HR.out]
  rintro r w1 ⟨rfl, hb⟩
  have hb1 : Below w.heap.size w w1 := (below_alloc1 w _).trans (hb.mono (by simp))
  have hc : ∀ o, w1.cell? ⟨w.heap.size, o, none⟩ = (w.alloc (.cells #[.int .i64 p.vars, .int .i64 p.mutexes, .slice a p.threads.length cap] 37)).cell? ⟨w.heap.size, o, none⟩ := fun o => hb.cell (p := ⟨w.heap.size, o, none⟩) (by simp)
  have hz : w.heap.size < w1.heap.size := by have := hb.size; simp at this; omega
  clear hb
  go_wp2_with (go_at_call 42; refine (sbelow_any _ _ _).mono ?_; rintro r w' ⟨rfl, rfl⟩)
  clear hset hsz hne hzv hc hf
  go_loopw [29] (fun i wr => ∃ k : Nat, k ≤ p.threads.length ∧ i = .int .i64 k ∧ NumAt wr w1.heap.size (newNum p F k) ∧ Below w1.heap.size w1 wr) (fun i _ => p.threads.length - (intOf i).toNat)
  case atStart => exact ⟨0, Nat.zero_le _, rfl, heap_alloc_last w1 _, below_alloc1 _ _⟩
  case round =>
    obtain ⟨k, hk, rfl, hnum, hb2⟩ := hrel
    by_cases hlt : k < p.threads.length
    · obtain ⟨b, o, rfl, hc⟩ := HP.out.2 (by intro e; simp [e] at hlt)
      obtain ⟨c, ccap, c0, c1, _⟩ := hc k hlt
      have hbw : Below w.heap.size w wr := hb1.trans (hb2.mono (by omega))
      have d0 := cell_later hbw c0
      have D1 := c1.later hbw
      have h8 := (rightPg_code HR.out hlt).1
      obtain ⟨f1, hf1⟩ : ∃ f1 : Nat → Int, ∀ j, f1 j = if 2 + k * 37 ≤ j ∧ j < 2 + k * 37 + p.threads[k].length * 4 then insNum (p.threads[k].getD ((j - (2 + k * 37)) / 4) ins0) ((j - (2 + k * 37)) % 4) else newNum p F k j := ⟨_, fun _ => rfl⟩
      have hcp := run_copy_code wr w1.heap.size (2 + k * 37) _ f1 hnum c ccap p.threads[k] D1 h8 (by omega) (fun j _ => hf1 j)
      have hn1 : NumAt (wr.setRow w1.heap.size (numA f1)) w1.heap.size f1 := setRow_heap wr _ _ _ _ _ hnum
      have hbs : Below w1.heap.size w1 (wr.setRow w1.heap.size (numA f1)) := hb2.trans ⟨rfl, rfl, rfl, by simp, fun q hq => setRow_other _ _ _ _ (by omega)⟩
      generalize wr.setRow w1.heap.size (numA f1) = W1 at *
      have hn2 : NumAt (W1.setCell ⟨w1.heap.size, 2 + k * 37 + 32, none⟩ (.int .i64 p.threads[k].length)) w1.heap.size (fun j => if j = 2 + k * 37 + 32 then (p.threads[k].length : Int) else f1 j) := hn1.set _ _ _ (by omega) (fun j _ => rfl)
      have hn3 : NumAt ((W1.setCell ⟨w1.heap.size, 2 + k * 37 + 32, none⟩ (.int .i64 p.threads[k].length)).setCell ⟨w1.heap.size, 2 + k * 37 + 34, none⟩ (.int .i64 F)) w1.heap.size (newNum p F (k + 1)) :=
        hn2.set _ _ _ (by omega) (newNum_succ p F k hlt hn4 h8 f1 _ (fun j _ => hf1 j) (fun j _ => rfl))
      have hb3 : Below w1.heap.size w1 ((W1.setCell ⟨w1.heap.size, 2 + k * 37 + 32, none⟩ (.int .i64 p.threads[k].length)).setCell ⟨w1.heap.size, 2 + k * 37 + 34, none⟩ (.int .i64 F)) := (hbs.setCell (p := ⟨w1.heap.size, 2 + k * 37 + 32, none⟩) (Nat.le_refl _) _).setCell (p := ⟨w1.heap.size, 2 + k * 37 + 34, none⟩) (Nat.le_refl _) _
      have e0 := hn1.cell (2 + k * 37 + 32) (by omega)
      have e1 := hn1.frozen (2 + k * 37 + 32)
      have e2 := hn1.cell (2 + k * 37 + 34) (by omega)
      have e3 := hn1.frozen (2 + k * 37 + 34)
      have HN3 := Lib.hid hn3
      have hk4 : k < 4 := by omega
      clear c0 c1 hc D1 hf1 hn1 hn2 hn3 hbs hnum hb2 hbw
      go_wp2
      go_roundw
      case rel => exact ⟨k + 1, by omega, by go_num, HN3.out, hb3⟩
      case measure => simp [intOf]; omega
    · obtain rfl : k = p.threads.length := by omega
      have hnum2 : NumAt wr w1.heap.size (newNum2 p F 0) := by
        unfold NumAt
        rw [← numA_congr _ _ (newNum_all p F)]
        exact hnum
      clear hnum
      go_wp2
      go_loopw [53] (fun i wq => ∃ k : Nat, k ≤ 2 ∧ i = .int .i64 k ∧ NumAt wq w1.heap.size (newNum2 p F k) ∧ Below w1.heap.size w1 wq) (fun i _ => 2 - (intOf i).toNat)
      case atStart => exact ⟨0, by omega, rfl, hnum2, hb2⟩
      case round =>
        clear hnum2 hb2
        obtain ⟨k, hk, rfl, hnum, hb2⟩ := hrel
        by_cases hlt : k < 2
        · have e0 := hnum.cell (154 + k) (by omega)
          have e1 := hnum.frozen (154 + k)
          have HN := Lib.hid (hnum.set _ (154 + k) (-1) (by omega) (newNum2_succ p F k hlt))
          have hb3 := hb2.setCell (p := ⟨w1.heap.size, 154 + k, none⟩) (Nat.le_refl _) (.int .i64 (-1))
          clear hnum hb2
          go_wp2
          go_roundw
          case rel => exact ⟨k + 1, by omega, by go_num, HN.out, hb3⟩
          case measure => simp [intOf]; omega
        · obtain rfl : k = 2 := by omega
          have HN : Hid (StAt wr w1.heap.size (St.new p F)) := by
            show _ = _
            rw [← numA_congr _ _ (newNum2_all p F)]
            exact hnum
          clear hnum
          go_wp2
          go_ret2
          exact ⟨_, rfl, by omega, HN.out, hb1.trans (hb2.mono (by omega))⟩

theorem new_any (p : Pg) (a : Option Addr) (cap : Nat) (fuel : Int) (w : World) (hp : ThreadsAt w a p.threads) :
    Calls Try.prog 32 #[.agg #[.int .i64 p.vars, .int .i64 p.mutexes, .slice a p.threads.length cap], .int .i64 fuel] w (NewR p fuel w) := by
  cases hr : rightPg p
  · refine (new_no p a cap fuel w hp hr).mono fun r w' h => ?_
    unfold NewR
    rw [if_neg (by simp [hr])]
    exact h
  · cases hf : belowB fuel 9
    · refine (new_fuel p a cap fuel w hp hr hf).mono fun r w' h => ?_
      unfold NewR
      rw [if_neg (by simp [belowB] at hf; omega)]
      exact h
    · have hf' : 0 ≤ fuel ∧ fuel < 9 := by simpa [belowB] using hf
      obtain ⟨F, rfl⟩ : ∃ F : Nat, fuel = F := ⟨fuel.toNat, by omega⟩
      refine (new_yes p a cap F w hp hr (by omega)).mono fun r w' h => ?_
      unfold NewR
      rw [if_pos ⟨hr, by omega, by omega⟩]
      exact h

end Go.Proofs.Ytbmhcnldcfaipaa

/- The contract of Replay. -/
namespace Go.Proofs.Ytbmhcnldcfaipaa
open Go.RowKit

/-- Steps one behind the other: an error, the events, the state. -/
def St.run (s : St) : List Int → Int × List Ev × St
  | [] => (0, [], s)
  | t :: row => if (s.step t).1 = 0 then
      (if ((s.step t).2.2.run row).1 = 0 then (0, (s.step t).2.1 :: ((s.step t).2.2.run row).2.1, ((s.step t).2.2.run row).2.2) else (((s.step t).2.2.run row).1, [], s))
    else ((s.step t).1, [], s)

/-- Steps behind events that are done. -/
def comb (es : List Ev) (x : Int × List Ev × St) : Int × List Ev × Option St := if x.1 = 0 then (0, es ++ x.2.1, some x.2.2) else (x.1, [], none)

theorem comb_ok (es : List Ev) (s : St) (t : Int) (row : List Int) (h : (s.step t).1 = 0) : comb es (s.run (t :: row)) = comb (es ++ [(s.step t).2.1]) ((s.step t).2.2.run row) := by
  unfold comb
  rw [St.run, if_pos h]
  by_cases h2 : ((s.step t).2.2.run row).1 = 0
  · rw [if_pos h2, if_pos h2]; simp
  · rw [if_neg h2, if_neg h2, if_neg h2]
theorem comb_err (es : List Ev) (s : St) (t : Int) (row : List Int) (h : (s.step t).1 ≠ 0) : comb es (s.run (t :: row)) = ((s.step t).1, [], none) := by
  unfold comb
  rw [St.run, if_neg h, if_neg h]
theorem comb_nil (es : List Ev) (s : St) : comb es (s.run []) = (0, es, some s) := by
  unfold comb
  simp [St.run]

def goodPg (p : Pg) (fuel : Int) : Bool := rightPg p && decide (0 ≤ fuel ∧ fuel ≤ 8)
/-- What Replay answers: an error, the events, the state. -/
def rep (p : Pg) (fuel : Int) (row : List Int) : Int × List Ev × Option St := if goodPg p fuel = true then comb [] ((St.new p fuel.toNat).run row) else (1, [], none)

theorem step_code {s : St} (t : Int) : 0 ≤ (s.step t).1 ∧ (s.step t).1 ≤ 9 := by
  rcases s.step_cases t with ⟨i, _, _, e⟩ | ⟨e, he, e'⟩
  · rw [e]; simp
  · rw [e']; dsimp only; omega

def ReplayR (p : Pg) (fuel : Int) (row : List Int) (w : World) (r : Ending) (w' : World) : Prop :=
  Below w.heap.size w w' ∧ match rep p fuel row with
  | (_, es, some s) => ∃ g v, r = .returned (.tuple #[.pointer (some ⟨g, 0, none⟩), v, .int .i64 0]) ∧ w.heap.size ≤ g ∧ StAt w' g s ∧ s.Ok fuel.toNat ∧ OwnE w' w.heap.size v es
  | (e, _, none) => r = .returned (.tuple #[.pointer none, .slice none 0 0, .int .i64 e])

theorem replayR_some {p : Pg} {fuel : Int} {row : List Int} {w w' : World} {es : List Ev} {s : St} (h : rep p fuel row = (0, es, some s)) {g : Nat} {v : Value} (hb : Below w.heap.size w w') (hg : w.heap.size ≤ g) (hs : StAt w' g s) (ok : s.Ok fuel.toNat) (ho : OwnE w' w.heap.size v es) :
    ReplayR p fuel row w (.returned (.tuple #[.pointer (some ⟨g, 0, none⟩), v, .int .i64 0])) w' := by
  unfold ReplayR
  rw [h]
  exact ⟨hb, g, v, rfl, hg, hs, ok, ho⟩
theorem replayR_none {p : Pg} {fuel : Int} {row : List Int} {w w' : World} {e : Int} (h : rep p fuel row = (e, [], none)) (hb : Below w.heap.size w w') :
    ReplayR p fuel row w (.returned (.tuple #[.pointer none, .slice none 0 0, .int .i64 e])) w' := by
  unfold ReplayR
  rw [h]
  exact ⟨hb, rfl⟩

theorem ownE_base {w : World} {B B' : Nat} {v : Value} {l : List Ev} (h : OwnE w B v l) (hB : B' ≤ B) : OwnE w B' v l := by
  obtain ⟨h1, h2 | ⟨g, cap, cur, h2, h3, h4⟩⟩ := h
  · exact ⟨h1, .inl h2⟩
  · exact ⟨h1, .inr ⟨g, cap, cur, h2, by omega, h4⟩⟩

set_option maxRecDepth 100000 in
set_option maxHeartbeats 4000000 in
theorem replay_any (p : Pg) (a : Option Addr) (cap : Nat) (fuel : Int) (ra : Option Addr) (rcap : Nat) (row : List Int) (w : World) (hp : ThreadsAt w a p.threads) (hrow : NumsAt w ra row) (hr1000 : row.length ≤ 1000) :
    Calls Try.prog 20 #[.agg #[.int .i64 p.vars, .int .i64 p.mutexes, .slice a p.threads.length cap], .int .i64 fuel, .slice ra row.length rcap] w (ReplayR p fuel row w) := by
  have HP := Lib.hid hp
  have HROW := Lib.hid hrow
  clear hp hrow
  go_enter Try.func20, Try.ntmps20
  go_wp2_with fail
  refine (new_any p a cap fuel _ (HP.out.later (below_alloc1 w _))).mono ?_
  rintro r w3 hr
  unfold NewR at hr
  by_cases hgood : rightPg p = true ∧ 0 ≤ fuel ∧ fuel ≤ 8
  case neg =>
    rw [if_neg hgood] at hr
    obtain ⟨rfl, hb3⟩ := hr
    have hw3 : Below w.heap.size w w3 := (below_alloc1 w _).trans (hb3.mono (by simp))
    have HRP : Hid (rep p fuel row = (1, [], none)) := by
      show _ = _
      unfold rep goodPg
      rw [if_neg]
      simpa using hgood
    clear hb3 hgood
    go_wp2
    refine bodyPost_ret (v := .tuple #[.pointer none, .slice none 0 0, .int .i64 1]) (by simp [results, Try.results20, go_sem]) rfl ?_
    exact replayR_none HRP.out hw3
  rw [if_pos hgood] at hr
  obtain ⟨g, rfl, hg, hs, hb3⟩ := hr
  obtain ⟨hr1, hf0, hf8⟩ := hgood
  obtain ⟨F, rfl⟩ : ∃ F : Nat, fuel = F := ⟨fuel.toNat, by omega⟩
  have HRP : Hid (rep p F row = comb [] ((St.new p F).run row)) := by
    show _ = _
    unfold rep goodPg
    rw [if_pos (by simp [hr1]; omega)]
    rfl
  simp only [Int.toNat_natCast] at hs
  have hw3 : Below w.heap.size w w3 := (below_alloc1 w _).trans (hb3.mono (by simp))
  have hgw : w.heap.size ≤ g := by have : (w.alloc (.cells #[.int .i64 p.vars, .int .i64 p.mutexes, .slice a p.threads.length cap] 37)).heap.size ≤ g := hg; simp at this; omega
  have hg3 := hs.lt
  have HS := Lib.hid hs
  have HOK := Lib.hid (new_ok hr1 F (by omega))
  clear hs hb3 hr1 hg
  go_wp2_with fail
  go_loopw [11, 27] (fun l i wr => ∃ (k : Nat) (s : St) (es : List Ev), k ≤ row.length ∧ i = .int .i64 k ∧ es.length ≤ k ∧ Hid (rep p F row = comb es (s.run (row.drop k))) ∧ OwnE wr w3.heap.size l es ∧ StAt wr g s ∧ s.Ok F ∧ Below w.heap.size w wr ∧ w3.heap.size ≤ wr.heap.size) (fun _ i _ => row.length - (intOf i).toNat)
  case atStart => exact ⟨0, _, [], Nat.zero_le _, rfl, Nat.zero_le _, HRP, ownE_nil _ _, HS.out, HOK.out, hw3, Nat.le_refl _⟩
  case round =>
    clear HS HOK HRP
    obtain ⟨k, s, es, hk, rfl, hel, HRP, hown, hs, ok, hb, hz⟩ := hrel
    have HS := Lib.hid hs
    have OK := Lib.hid ok
    have hgr := hs.lt
    clear hs ok
    by_cases hlt : k < row.length
    · obtain ⟨rb, ro, rfl, hc⟩ := HROW.out.2 (by intro e; simp [e] at hlt)
      have d0 := cell_later hb (hc k hlt)
      have hdr : row.drop k = row[k] :: row.drop (k + 1) := List.drop_eq_getElem_cons hlt
      have HDR := Lib.hid hdr
      clear hc hdr
      generalize row[k] = t at *
      go_wp2_with fail
      refine (step_any HS.out OK.out t).mono ?_
      rintro r w5 ⟨rfl, hs5, ho5⟩
      have hok5 := OK.out.step_ok t
      have HCE := Lib.hid (comb_err es s t (row.drop (k + 1)))
      have HCO := Lib.hid (comb_ok es s t (row.drop (k + 1)))
      have hb5 := hb.trans (ho5.below hgw hb.size)
      have hown5 := hown.only ho5 hg3
      have hz5 : w3.heap.size ≤ w5.heap.size := Nat.le_trans hz ho5.size
      unfold stepV evV
      generalize s.step t = st at *
      obtain ⟨e, x, s'⟩ := st
      dsimp only at *
      have HS5 := Lib.hid (hs5.later (below_alloc1 w5 (.cells #[.int .i64 x.thread, .int .i64 x.kind, .int .i64 x.obj, .bool x.fail] 54)))
      have HOK5 := Lib.hid hok5
      have hbe : Below w.heap.size w (w5.alloc (.cells #[.int .i64 x.thread, .int .i64 x.kind, .int .i64 x.obj, .bool x.fail] 54)) := hb5.alloc hb5.size _
      clear hb hown ho5 hs5 hok5 hb5 HS d0 hgr
      by_cases he : e = 0
      · subst he
        have HR2 : Hid (rep p F row = comb (es ++ [x]) (s'.run (row.drop (k + 1)))) := by
          show _ = _
          rw [HRP.out, HDR.out]
          exact HCO.out rfl
        clear HCE HCO
        go_wp2_with (at_builtin; refine wp_appendE rfl (.tmp 40) (.tmp 42) rfl w3.heap.size _ es rfl ((hown5.alloc _).alloc _) ⟨w5.heap.size + 1, 0, none⟩ rfl x (ev_new (w5.alloc (.cells #[.int .i64 x.thread, .int .i64 x.kind, .int .i64 x.obj, .bool x.fail] 54)) x _ _ (by simp)) (by omega) (by simp; omega) ?_; intro v7 w7 hown7 hb7)
        have hb7' : Below w3.heap.size (w5.alloc (.cells #[.int .i64 x.thread, .int .i64 x.kind, .int .i64 x.obj, .bool x.fail] 54)) w7 := ((Below.refl _ _).alloc (by simp; omega) _).trans hb7
        have HS7 : Hid (StAt w7 g s') := (hb7'.block g hg3).trans HS5.out
        have hw7 : Below w.heap.size w w7 := hbe.trans (hb7'.mono (by omega))
        have hz7 : w3.heap.size ≤ w7.heap.size := by have := hb7'.size; simp at this; omega
        clear hb7 hb7' hown5
        go_roundw
        case rel => exact ⟨k + 1, s', es ++ [x], by omega, by go_num, by simp; omega, HR2, hown7, HS7.out, HOK5.out, hw7, hz7⟩
        case measure => simp [intOf]; omega
      · have q0 : (e != 0) = true := by simpa using he
        have HR2 : Hid (rep p F row = (e, [], none)) := by
          show _ = _
          rw [HRP.out, HDR.out]
          exact HCE.out he
        clear he HCE HCO
        go_wp2
        refine bodyPost_ret (v := .tuple #[.pointer none, .slice none 0 0, .int .i64 e]) (by simp [results, Try.results20, go_sem]) rfl ?_
        exact replayR_none HR2.out hbe
    · obtain rfl : k = row.length := by omega
      have HR2 : Hid (rep p F row = (0, es, some s)) := by
        show _ = _
        rw [HRP.out, List.drop_length]
        exact comb_nil es s
      go_wp2
      refine bodyPost_ret (v := .tuple #[.pointer (some ⟨g, 0, none⟩), _, .int .i64 0]) (by simp [results, Try.results20, go_sem]; rfl) rfl ?_
      exact replayR_some HR2.out hb hgw HS.out OK.out (ownE_base hown (by have := hw3.size; omega))

end Go.Proofs.Ytbmhcnldcfaipaa

/- The contract of the document's Replay. -/
namespace Go.Proofs.Ytbmhcnldcfaipaa
open Go.RowKit

def RefReplayR (p : Pg) (a : Option Addr) (cap : Nat) (fuel : Int) (row : List Int) (w : World) (r : Ending) (w' : World) : Prop :=
  Below w.heap.size w w' ∧ match rep p fuel row with
  | (_, es, some s) => ∃ b tb tcap v, r = .returned (.tuple #[.pointer (some ⟨b, 0, none⟩), v, .int .i64 0]) ∧ RefAt w' b tb a cap tcap s ∧ s.p = p ∧ s.Ok fuel.toNat ∧ OwnE w' w.heap.size v es
  | (e, _, none) => r = .returned (.tuple #[.pointer none, .slice none 0 0, .int .i64 e])

theorem step_prog (s : St) (t : Int) : (s.step t).2.2.p = s.p := by
  rcases s.step_cases t with ⟨i, _, _, e⟩ | ⟨e, _, e'⟩
  · rw [e]; rfl
  · rw [e']
theorem OwnE.only2 {w w' : World} {B b c : Nat} {v : Value} {l : List Ev} (h : OwnE w B v l) (ho : Only2 b c w w') (hb : b < B) (hc : c < B) : OwnE w' B v l := by
  obtain ⟨h1, h2 | ⟨g, cap, cur, h2, h3, h4, h5⟩⟩ := h
  · exact ⟨h1, .inl h2⟩
  · exact ⟨h1, .inr ⟨g, cap, cur, h2, h3, (ho.block g (Array.getElem?_eq_some_iff.1 h4).1 (by omega) (by omega)).trans h4, h5⟩⟩
theorem RefAt.below {w w' : World} {b tb B : Nat} {a : Option Addr} {cap tcap : Nat} {s : St} (h : RefAt w b tb a cap tcap s) (hb : Below B w w') (h1 : b < B) (h2 : tb < B) : RefAt w' b tb a cap tcap s := by
  obtain ⟨g1, g0, cur, g2, g3⟩ := h
  exact ⟨(hb.block b h1).trans g1, g0, cur, (hb.block tb h2).trans g2, g3⟩

set_option maxRecDepth 100000 in
set_option maxHeartbeats 4000000 in
theorem refReplay_any (p : Pg) (a : Option Addr) (cap : Nat) (fuel : Int) (ra : Option Addr) (rcap : Nat) (row : List Int) (w : World) (hp : ThreadsAt w a p.threads) (hrow : NumsAt w ra row) (hr1000 : row.length ≤ 1000) :
    Calls Try.prog 21 #[.agg #[.int .i64 p.vars, .int .i64 p.mutexes, .slice a p.threads.length cap], .int .i64 fuel, .slice ra row.length rcap] w (RefReplayR p a cap fuel row w) := by
  have HP := Lib.hid hp
  have HROW := Lib.hid hrow
  clear hp hrow
  by_cases hgood : rightPg p = true ∧ 0 ≤ fuel ∧ fuel ≤ 8
  case neg =>
    have HRP : Hid (rep p fuel row = (1, [], none)) := by
      show _ = _
      unfold rep goodPg
      rw [if_neg]
      simpa using hgood
    have HGD := Lib.hid hgood
    clear hgood
    go_enter Try.func21, Try.ntmps21
    go_wp2_with fail
    refine (refNew_no p a cap fuel _ (HP.out.later (below_alloc1 w _)) HGD.out).mono ?_
    rintro r w3 ⟨rfl, hb3⟩
    have hw3 : Below w.heap.size w w3 := (below_alloc1 w _).trans (hb3.mono (by simp))
    clear hb3
    go_wp2
    refine bodyPost_ret (v := .tuple #[.pointer none, .slice none 0 0, .int .i64 1]) (by simp [results, Try.results21, go_sem]) rfl ?_
    unfold RefReplayR
    rw [HRP.out]
    exact ⟨hw3, rfl⟩
  obtain ⟨hr1, hf0, hf8⟩ := hgood
  obtain ⟨F, rfl⟩ : ∃ F : Nat, fuel = F := ⟨fuel.toNat, by omega⟩
  have HRP : Hid (rep p F row = comb [] ((St.new p F).run row)) := by
    show _ = _
    unfold rep goodPg
    rw [if_pos (by simp [hr1]; omega)]
    rfl
  have HR1 := Lib.hid hr1
  clear hr1
  go_enter Try.func21, Try.ntmps21
  go_wp2_with fail
  refine (refNew_yes p a cap F _ (HP.out.later (below_alloc1 w _)) HR1.out (by omega)).mono ?_
  rintro r w3 ⟨b, tb, tcap, rfl, hgb, hgt, hs, hb3⟩
  have hw3 : Below w.heap.size w w3 := (below_alloc1 w _).trans (hb3.mono (by simp))
  have hgb1 : w.heap.size ≤ b := by simp at hgb; omega
  have hgt1 : w.heap.size ≤ tb := by simp at hgt; omega
  obtain ⟨hb3a, hb3b⟩ := hs.lt
  have HS := Lib.hid hs
  have HOK := Lib.hid (new_ok HR1.out F (by omega))
  clear hs hb3 hgb hgt
  go_wp2_with fail
  go_loopw [10, 11] (fun l i wr => ∃ (k : Nat) (s : St) (es : List Ev), k ≤ row.length ∧ i = .int .i64 k ∧ es.length ≤ k ∧ Hid (rep p F row = comb es (s.run (row.drop k))) ∧ Hid (s.p = p) ∧ OwnE wr w3.heap.size l es ∧ RefAt wr b tb a cap tcap s ∧ s.Ok F ∧ Below w.heap.size w wr ∧ w3.heap.size ≤ wr.heap.size) (fun _ i _ => row.length - (intOf i).toNat)
  case atStart => exact ⟨0, _, [], Nat.zero_le _, rfl, Nat.zero_le _, HRP, rfl, ownE_nil _ _, HS.out, HOK.out, hw3, Nat.le_refl _⟩
  case round =>
    clear HS HOK HRP
    obtain ⟨k, s, es, hk, rfl, hel, HRP, HSP, hown, hs, ok, hb, hz⟩ := hrel
    have HS := Lib.hid hs
    have OK := Lib.hid ok
    clear hs ok
    by_cases hlt : k < row.length
    · obtain ⟨rb, ro, rfl, hc⟩ := HROW.out.2 (by intro e; simp [e] at hlt)
      have d0 := cell_later hb (hc k hlt)
      have hdr : row.drop k = row[k] :: row.drop (k + 1) := List.drop_eq_getElem_cons hlt
      have HDR := Lib.hid hdr
      have HTW : Hid (ThreadsAt wr a s.p.threads) := by rw [HSP.out]; exact HP.out.later hb
      clear hc hdr
      generalize row[k] = t at *
      go_wp2_with fail
      refine (refStep_any HS.out HTW.out OK.out t).mono ?_
      rintro r w5 ⟨rfl, hs5, ho5⟩
      have hok5 := OK.out.step_ok t
      have hsp5 := (step_prog s t).trans HSP.out
      have HCE := Lib.hid (comb_err es s t (row.drop (k + 1)))
      have HCO := Lib.hid (comb_ok es s t (row.drop (k + 1)))
      have hb5 := hb.trans (ho5.below hgb1 hgt1 hb.size)
      have hown5 := hown.only2 ho5 hb3a hb3b
      have hz5 : w3.heap.size ≤ w5.heap.size := Nat.le_trans hz ho5.size
      unfold stepV evV
      generalize s.step t = st at *
      obtain ⟨e, x, s'⟩ := st
      dsimp only at *
      have HS5 := Lib.hid (hs5.later (below_alloc1 w5 (.cells #[.int .i64 x.thread, .int .i64 x.kind, .int .i64 x.obj, .bool x.fail] 54)))
      have HOK5 := Lib.hid hok5
      have HSP5 := Lib.hid hsp5
      have hbe : Below w.heap.size w (w5.alloc (.cells #[.int .i64 x.thread, .int .i64 x.kind, .int .i64 x.obj, .bool x.fail] 54)) := hb5.alloc hb5.size _
      clear hb hown ho5 hs5 hok5 hb5 HS d0 hsp5 HTW
      by_cases he : e = 0
      · subst he
        have HR2 : Hid (rep p F row = comb (es ++ [x]) (s'.run (row.drop (k + 1)))) := by
          show _ = _
          rw [HRP.out, HDR.out]
          exact HCO.out rfl
        clear HCE HCO
        go_wp2_with (at_builtin; refine wp_appendE rfl (.tmp 37) (.tmp 39) rfl w3.heap.size _ es rfl ((hown5.alloc _).alloc _) ⟨w5.heap.size + 1, 0, none⟩ rfl x (ev_new (w5.alloc (.cells #[.int .i64 x.thread, .int .i64 x.kind, .int .i64 x.obj, .bool x.fail] 54)) x _ _ (by simp)) (by omega) (by simp; omega) ?_; intro v7 w7 hown7 hb7)
        have hb7' : Below w3.heap.size (w5.alloc (.cells #[.int .i64 x.thread, .int .i64 x.kind, .int .i64 x.obj, .bool x.fail] 54)) w7 := ((Below.refl _ _).alloc (by simp; omega) _).trans hb7
        have HS7 := Lib.hid (HS5.out.below hb7' hb3a hb3b)
        have hw7 : Below w.heap.size w w7 := hbe.trans (hb7'.mono (by omega))
        have hz7 : w3.heap.size ≤ w7.heap.size := by have := hb7'.size; simp at this; omega
        clear hb7 hb7' hown5
        go_roundw
        case rel => exact ⟨k + 1, s', es ++ [x], by omega, by go_num, by simp; omega, HR2, HSP5, hown7, HS7.out, HOK5.out, hw7, hz7⟩
        case measure => simp [intOf]; omega
      · have q0 : (e != 0) = true := by simpa using he
        have HR2 : Hid (rep p F row = (e, [], none)) := by
          show _ = _
          rw [HRP.out, HDR.out]
          exact HCE.out he
        clear he HCE HCO
        go_wp2
        refine bodyPost_ret (v := .tuple #[.pointer none, .slice none 0 0, .int .i64 e]) (by simp [results, Try.results21, go_sem]) rfl ?_
        unfold RefReplayR
        rw [HR2.out]
        exact ⟨hbe, rfl⟩
    · obtain rfl : k = row.length := by omega
      have HR2 : Hid (rep p F row = (0, es, some s)) := by
        show _ = _
        rw [HRP.out, List.drop_length]
        exact comb_nil es s
      go_wp2
      refine bodyPost_ret (v := .tuple #[.pointer (some ⟨b, 0, none⟩), _, .int .i64 0]) (by simp [results, Try.results21, go_sem]; rfl) rfl ?_
      unfold RefReplayR
      rw [HR2.out]
      exact ⟨hb, b, tb, tcap, _, rfl, HS.out, HSP.out, OK.out, ownE_base hown (by have := hw3.size; omega)⟩

end Go.Proofs.Ytbmhcnldcfaipaa

/- The contract of Copy; what a state that is none does. -/
namespace Go.Proofs.Ytbmhcnldcfaipaa
open Go.RowKit

theorem zero_stateC : ∃ Z : Array Value, Z = numA (fun _ => 0) ∧ ∀ w, (zeroValue 81).run Try.prog w = .ok (.agg Z) w :=
  ⟨_, rfl, (zero_of_info (P := Try.prog) (t := 81) (v := .agg (numA fun _ => 0)) (n := 156) (by kernel_rfl)).1⟩

set_option maxRecDepth 100000 in
set_option maxHeartbeats 2000000 in
theorem copy_state {s : St} {b : Nat} {w : World} (h : StAt w b s) :
    Calls Try.prog 27 #[.pointer (some ⟨b, 0, none⟩)] w fun r w' => r = .returned (.pointer (some ⟨w.heap.size, 0, none⟩)) ∧ w.alloc (.cells (numA (stNum s)) 81) = w' := by
  obtain ⟨Z, hZ, hzv⟩ := zero_stateC
  have hi : (Try.prog.info? 81).map (·.size) = some 156 := by kernel_rfl
  have hX : (numA (stNum s)).size = 156 := numA_size _
  have hX1 := numA_one (stNum s)
  have hZ1 : Z.size = 156 := by rw [hZ, numA_size]
  have hg : w.heap[b]? = some (.cells (numA (stNum s)) 81 (0, 0)) := h
  clear hZ h
  generalize numA (stNum s) = X at *
  have HI : Hid ((Try.prog.info? 81).map (·.size) = some X.size) := by rw [hX]; exact hi
  have HG := Lib.hid hg
  have HO : Hid (Z.size = X.size) := by show _ = _; rw [hX, hZ1]
  have H1 := Lib.hid hX1
  clear hi hX hZ1 hg hX1
  go_enter Try.func27, Try.ntmps27
  go_wp2_with (first
    | (refine wpList_load_row rfl 81 (.tmp 7) rfl b rfl 81 X (0, 0) _ HG.out Try.underlying81 rfl HI.out ?_)
    | (refine wpList_store_row rfl 81 (.tmp 3) (.tmp 8) rfl w.heap.size X rfl rfl 81 Z (heap_alloc_last w _) HI.out HO.out H1.out ?_; rw [World.setRow_alloc_new]))
  go_ret
  exact ⟨rfl, rfl⟩

theorem heap_new_st (w : World) (s : St) : StAt (w.alloc (.cells (numA (stNum s)) 81)) w.heap.size s := heap_alloc_new w _

end Go.Proofs.Ytbmhcnldcfaipaa

/- What Replay answers, in plain words: lengths, errors, more fuel. -/
namespace Go.Proofs.Ytbmhcnldcfaipaa

theorem more_run {d : Nat} (row : List Int) : ∀ s s' : St, s.More d s' → (s.run row).1 = 0 → (s'.run row).1 = 0 ∧ (s'.run row).2.1 = (s.run row).2.1 := by
  induction row with
  | nil => intro s s' _ _; exact ⟨rfl, rfl⟩
  | cons t row ih =>
    intro s s' h h0
    have h1 : (s.step t).1 = 0 := by
      rcases Decidable.em ((s.step t).1 = 0) with h1 | h1
      · exact h1
      · rw [St.run, if_neg h1] at h0; exact absurd h0 h1
    obtain ⟨g0, g1, g2⟩ := h.step h1
    have h2 : ((s.step t).2.2.run row).1 = 0 := by
      rcases Decidable.em (((s.step t).2.2.run row).1 = 0) with h2 | h2
      · exact h2
      · rw [St.run, if_pos h1, if_neg h2] at h0; exact absurd h0 h2
    obtain ⟨e0, e1⟩ := ih _ _ g2 h2
    rw [St.run, if_pos g0, if_pos e0, St.run, if_pos h1, if_pos h2]
    exact ⟨rfl, by dsimp only; rw [g1, e1]⟩

theorem rep_none {p : Pg} {fuel : Int} {row : List Int} {e : Int} {es : List Ev} (h : rep p fuel row = (e, es, none)) : e ≠ 0 := by
  unfold rep at h
  split at h
  · unfold comb at h
    split at h
    · injection h with _ h; injection h with _ h; cases h
    · rename_i h0
      injection h with h1 _
      rw [← h1]; exact h0
  · injection h with h1 _
    rw [← h1]; simp
theorem rep_some {p : Pg} {fuel : Int} {row : List Int} {e : Int} {es : List Ev} {s : St} (h : rep p fuel row = (e, es, some s)) : e = 0 ∧ goodPg p fuel = true ∧ ((St.new p fuel.toNat).run row).1 = 0 ∧ ((St.new p fuel.toNat).run row).2.1 = es := by
  unfold rep at h
  split at h
  · rename_i hg
    unfold comb at h
    split at h
    · rename_i h0
      injection h with h1 h; injection h with h2 h
      exact ⟨h1.symm, hg, h0, by simpa using h2⟩
    · injection h with _ h; injection h with _ h; cases h
  · injection h with _ h; injection h with _ h; cases h

theorem run_len (row : List Int) : ∀ s : St, ((s.run row).2.1).length ≤ row.length := by
  induction row with
  | nil => intro s; simp [St.run]
  | cons t row ih =>
    intro s
    rw [St.run]
    split
    · split
      · have := ih (s.step t).2.2; simp; omega
      · simp
    · simp

theorem rep_len {p : Pg} {fuel : Int} {row : List Int} {e : Int} {es : List Ev} {s : St} (h : rep p fuel row = (e, es, some s)) : es.length ≤ row.length := by
  obtain ⟨_, _, _, rfl⟩ := rep_some h
  exact run_len row _

theorem rep_more {p : Pg} {f m : Int} {row : List Int} {e : Int} {es : List Ev} {s : St} (h : rep p f row = (e, es, some s)) (h1 : f ≤ m) (h2 : m ≤ 8) : ∃ s', rep p m row = (0, es, some s') := by
  obtain ⟨_, hg, h0, rfl⟩ := rep_some h
  unfold goodPg at hg
  rw [Bool.and_eq_true, decide_eq_true_eq] at hg
  obtain ⟨d, hd⟩ : ∃ d : Nat, m.toNat = f.toNat + d := ⟨m.toNat - f.toNat, by omega⟩
  have hm := more_run row _ _ (new_more p f.toNat d) h0
  rw [← hd] at hm
  refine ⟨((St.new p m.toNat).run row).2.2, ?_⟩
  unfold rep goodPg
  rw [if_pos (by simp [hg.1]; omega)]
  unfold comb
  rw [if_pos hm.1, hm.2]
  simp

end Go.Proofs.Ytbmhcnldcfaipaa

/-
  Plain data and plain functions for layer 3: which events depend on one another, which may be, their bytes. Nothing of the translation.
-/
namespace Go.Proofs.Ytbmhcnldcfaipaa

def memE (e : Ev) : Bool := decide (e.kind = 2 ∨ e.kind = 3)
def mutE (e : Ev) : Bool := decide (e.kind = 4 ∨ e.kind = 5)

/-- Do two events depend on one another? -/
def dep (a b : Ev) : Bool :=
  decide (a.thread = b.thread ∨ (a.obj = b.obj ∧ (((a.kind = 2 ∨ a.kind = 3) ∧ (b.kind = 2 ∨ b.kind = 3) ∧ (a.kind = 3 ∨ b.kind = 3)) ∨ ((a.kind = 4 ∨ a.kind = 5) ∧ (b.kind = 4 ∨ b.kind = 5)))))

theorem dep_symm (a b : Ev) : dep a b = dep b a := by
  unfold dep
  rw [decide_eq_decide]
  omega

/-- May an event be? -/
def rightEv (e : Ev) : Bool :=
  decide (0 ≤ e.thread ∧ e.thread ≤ 3 ∧ ((e.kind = 1 ∧ e.obj = 0) ∨ ((e.kind = 2 ∨ e.kind = 3) ∧ 0 ≤ e.obj ∧ e.obj ≤ 3 ∧ e.fail = false) ∨ ((e.kind = 4 ∨ e.kind = 5) ∧ 0 ≤ e.obj ∧ e.obj ≤ 1 ∧ e.fail = false)))

/-- An event's byte. -/
def evB (e : Ev) : Int := e.thread + 4 * e.kind + 32 * e.obj + if e.fail then 128 else 0

/-- The event of a byte, whether it may be or not. -/
def evOf (n : Int) : Ev := ⟨n % 4, n / 4 % 8, n / 32 % 4, decide (128 ≤ n)⟩

theorem rightEv_bd {e : Ev} (h : rightEv e = true) : 0 ≤ e.thread ∧ e.thread ≤ 3 ∧ 1 ≤ e.kind ∧ e.kind ≤ 5 ∧ 0 ≤ e.obj ∧ e.obj ≤ 3 := by
  unfold rightEv at h
  rw [decide_eq_true_eq] at h
  omega

theorem evB_bd {e : Ev} (h : rightEv e = true) : 0 ≤ evB e ∧ evB e < 256 := by
  have := rightEv_bd h
  unfold evB
  split <;> omega

theorem evOf_evB {e : Ev} (h : rightEv e = true) : evOf (evB e) = e := by
  have := rightEv_bd h
  obtain ⟨t, k, o, f⟩ := e
  dsimp only at this
  unfold evOf evB
  cases f
  · simp
    omega
  · simp
    omega

theorem evB_evOf {n : Int} (h0 : 0 ≤ n) (h1 : n < 256) : evB (evOf n) = n := by
  unfold evOf evB
  dsimp only
  by_cases h : 128 ≤ n
  · simp [h]
    omega
  · simp [h]
    omega

theorem evB_inj {a b : Ev} (ha : rightEv a = true) (hb : rightEv b = true) (h : evB a = evB b) : a = b := by
  rw [← evOf_evB ha, ← evOf_evB hb, h]

/-- The bytes of events, or none. -/
def printE (l : List Ev) : List Int := if l.all rightEv then l.map evB else []

theorem map_evB_inj {a b : List Ev} (ha : ∀ e ∈ a, rightEv e = true) (hb : ∀ e ∈ b, rightEv e = true) (h : a.map evB = b.map evB) : a = b := by
  induction a generalizing b with
  | nil => cases b <;> simp_all
  | cons x a ih =>
    cases b with
    | nil => simp at h
    | cons y b =>
      simp only [List.map_cons, List.cons.injEq] at h
      rw [evB_inj (ha x (by simp)) (hb y (by simp)) h.1, ih (fun e he => ha e (by simp [he])) (fun e he => hb e (by simp [he])) h.2]

end Go.Proofs.Ytbmhcnldcfaipaa

/-
  Plain data for layer 4: which event happens before which, numbers, clocks. Nothing of the translation.
-/
namespace Go.Proofs.Ytbmhcnldcfaipaa

/-- The event at a place. -/
def evI (l : List Ev) (i : Nat) : Ev := l.getD i ev0

/-- What happens before what, up to a place. -/
def hbT (l : List Ev) : Nat → Nat → Nat → Bool
  | 0, _, _ => false
  | n + 1, j, m => if m < n then hbT l n j m else if m = n then decide (j = n) || (List.range n).any (fun i => dep (evI l i) (evI l n) && hbT l n j i) else false
def hb (l : List Ev) (j k : Nat) : Bool := hbT l (k + 1) j k

theorem hbT_eq (l : List Ev) (n j m : Nat) (h : m < n) : hbT l n j m = hb l j m := by
  induction n with
  | zero => omega
  | succ n ih =>
    by_cases h1 : m < n
    · rw [hbT, if_pos h1, ih h1]
    · obtain rfl : m = n := by omega
      rfl

theorem hb_def (l : List Ev) (j k : Nat) : hb l j k = true ↔ (j = k ∨ ∃ i, i < k ∧ dep (evI l i) (evI l k) = true ∧ hb l j i = true) := by
  unfold hb
  rw [hbT, if_neg (by omega), if_pos rfl, Bool.or_eq_true, decide_eq_true_eq, List.any_eq_true]
  constructor
  · rintro (h | ⟨i, hi, h⟩)
    · exact .inl h
    · rw [List.mem_range] at hi
      rw [Bool.and_eq_true, hbT_eq l k j i hi] at h
      exact .inr ⟨i, hi, h⟩
  · rintro (h | ⟨i, hi, h⟩)
    · exact .inl h
    · refine .inr ⟨i, List.mem_range.2 hi, ?_⟩
      rw [Bool.and_eq_true, hbT_eq l k j i hi]
      exact h

theorem hb_self (l : List Ev) (k : Nat) : hb l k k = true := (hb_def l k k).2 (.inl rfl)
theorem hb_dep {l : List Ev} {i k : Nat} (h : i < k) (hd : dep (evI l i) (evI l k) = true) : hb l i k = true := (hb_def l i k).2 (.inr ⟨i, h, hd, hb_self l i⟩)
theorem hb_le {l : List Ev} {k : Nat} : ∀ {j : Nat}, hb l j k = true → j ≤ k := by
  induction k using Nat.strongRecOn with
  | _ k ih =>
    intro j h
    rcases (hb_def l j k).1 h with rfl | ⟨i, hi, _, h⟩
    · exact Nat.le_refl _
    · have := ih i hi h
      omega
theorem hb_trans {l : List Ev} {k : Nat} : ∀ {i j : Nat}, hb l i j = true → hb l j k = true → hb l i k = true := by
  induction k using Nat.strongRecOn with
  | _ k ih =>
    intro i j h1 h2
    rcases (hb_def l j k).1 h2 with rfl | ⟨m, hm, hd, h3⟩
    · exact h1
    · exact (hb_def l i k).2 (.inr ⟨m, hm, hd, ih m hm h1 h3⟩)
theorem dep_thread {a b : Ev} (h : a.thread = b.thread) : dep a b = true := by unfold dep; simp [h]
/-- Of one thread: in order. -/
theorem hb_thread {l : List Ev} {i k : Nat} (h : i ≤ k) (ht : (evI l i).thread = (evI l k).thread) : hb l i k = true := by
  rcases Nat.lt_or_eq_of_le h with h | rfl
  · exact hb_dep h (dep_thread ht)
  · exact hb_self l i

theorem evI_append {l m : List Ev} {i : Nat} (h : i < l.length) : evI (l ++ m) i = evI l i := by
  unfold evI
  simp only [List.getD]
  rw [List.getElem?_append_left h]
theorem evI_get {l : List Ev} {i : Nat} (h : i < l.length) : evI l i = l[i] := getD_lt _ h
theorem evI_mem {l : List Ev} {i : Nat} (h : i < l.length) : evI l i ∈ l := by rw [evI_get h]; exact List.getElem_mem h
/-- A beginning has its own order. -/
theorem hb_append {l m : List Ev} {k : Nat} : ∀ {j : Nat}, k < l.length → (hb (l ++ m) j k = true ↔ hb l j k = true) := by
  induction k using Nat.strongRecOn with
  | _ k ih =>
    intro j hk
    rw [hb_def, hb_def]
    constructor
    · rintro (h | ⟨i, hi, hd, h⟩)
      · exact .inl h
      · refine .inr ⟨i, hi, ?_, (ih i hi (by omega)).1 h⟩
        rw [evI_append hk, evI_append (by omega)] at hd
        exact hd
    · rintro (h | ⟨i, hi, hd, h⟩)
      · exact .inl h
      · refine .inr ⟨i, hi, ?_, (ih i hi (by omega)).2 h⟩
        rw [evI_append hk, evI_append (by omega)]
        exact hd
theorem hb_append_eq {l m : List Ev} {k : Nat} (j : Nat) (hk : k < l.length) : hb (l ++ m) j k = hb l j k := by
  rw [Bool.eq_iff_iff]
  exact hb_append hk

/-- How many of the first n places have q. -/
def cnt (q : Nat → Bool) (n : Nat) : Nat := ((List.range n).filter q).length
theorem cnt_zero (q : Nat → Bool) : cnt q 0 = 0 := rfl
theorem cnt_succ (q : Nat → Bool) (n : Nat) : cnt q (n + 1) = cnt q n + if q n = true then 1 else 0 := by
  unfold cnt
  rw [List.range_succ, List.filter_append, List.length_append]
  congr 1
  cases h : q n <;> simp [h]
theorem cnt_le {q r : Nat → Bool} (n : Nat) (h : ∀ i, i < n → q i = true → r i = true) : cnt q n ≤ cnt r n := by
  induction n with
  | zero => exact Nat.le_refl _
  | succ n ih =>
    have := ih (fun i hi => h i (by omega))
    rw [cnt_succ, cnt_succ]
    by_cases hq : q n = true
    · rw [if_pos hq, if_pos (h n (by omega) hq)]
      omega
    · rw [if_neg hq]
      omega
theorem cnt_congr {q r : Nat → Bool} (n : Nat) (h : ∀ i, i < n → q i = r i) : cnt q n = cnt r n :=
  Nat.le_antisymm (cnt_le n fun i hi hq => by rw [← h i hi]; exact hq) (cnt_le n fun i hi hq => by rw [h i hi]; exact hq)
theorem cnt_mono (q : Nat → Bool) {m n : Nat} (h : m ≤ n) : cnt q m ≤ cnt q n := by
  induction n with
  | zero => obtain rfl : m = 0 := by omega
            exact Nat.le_refl _
  | succ n ih =>
    rcases Nat.lt_or_eq_of_le h with h | rfl
    · have := ih (by omega)
      rw [cnt_succ]
      omega
    · exact Nat.le_refl _
theorem cnt_lt (q : Nat → Bool) {m n : Nat} (h : m < n) (hq : q m = true) : cnt q m < cnt q n := by
  have h1 := cnt_mono q (show m + 1 ≤ n by omega)
  rw [cnt_succ, if_pos hq] at h1
  omega
/-- A set that is a beginning of another one. -/
theorem cnt_begin {q r : Nat → Bool} {n : Nat} (h1 : ∀ i, i < n → q i = true → r i = true) (h2 : ∀ i j, i < j → j < n → r i = true → q j = true → q i = true) {i : Nat} (hi : i < n) (hr : r i = true) : q i = true ↔ cnt r (i + 1) ≤ cnt q n := by
  constructor
  · intro hq
    have e : cnt r (i + 1) = cnt q (i + 1) := cnt_congr _ fun j hj => by
      by_cases hji : j = i
      · rw [hji, hq, hr]
      · rw [Bool.eq_iff_iff]
        exact ⟨fun hrj => h2 j i (by omega) hi hrj hq, fun hqj => h1 j (by omega) hqj⟩
    rw [e]
    exact cnt_mono q (by omega)
  · intro hle
    cases hq : q i
    · exfalso
      have e : cnt q n ≤ cnt r i := by
        have hno : ∀ j, i ≤ j → j < n → q j = false := by
          intro j hj hjn
          cases hqj : q j
          · rfl
          · rcases Nat.lt_or_eq_of_le hj with hj | rfl
            · rw [h2 i j hj hjn hr hqj] at hq; cases hq
            · rw [hqj] at hq; cases hq
        have e1 : ∀ m, i ≤ m → m ≤ n → cnt q m = cnt q i := by
          intro m
          induction m with
          | zero => intro him _; obtain rfl : i = 0 := by omega
                    rfl
          | succ m ih =>
            intro him hmn
            rcases Nat.lt_or_eq_of_le him with him | him
            · rw [cnt_succ, hno m (by omega) (by omega), ih (by omega) (by omega)]
              rfl
            · rw [← him]
        rw [e1 n (by omega) (Nat.le_refl _)]
        exact cnt_le i fun j hj => h1 j (by omega)
      rw [cnt_succ, if_pos hr] at hle
      omega
    · rfl

/-- Which number of its thread's events an event is. -/
def isT (l : List Ev) (t : Int) (i : Nat) : Bool := decide ((evI l i).thread = t)
def num (l : List Ev) (i : Nat) : Nat := cnt (isT l (evI l i).thread) (i + 1)
/-- A clock. -/
def clk (l : List Ev) (k : Nat) (t : Int) : Nat := cnt (fun i => hb l i k && isT l t i) (k + 1)

/-- P4.3. -/
theorem hb_iff_num {l : List Ev} {i k : Nat} : hb l i k = true ↔ num l i ≤ clk l k (evI l i).thread := by
  by_cases hik : i ≤ k
  · have h := cnt_begin (q := fun j => hb l j k && isT l (evI l i).thread j) (r := isT l (evI l i).thread) (n := k + 1)
      (fun j _ hq => by rw [Bool.and_eq_true] at hq; exact hq.2)
      (fun j m hjm hm hr hq => by
        rw [Bool.and_eq_true] at hq ⊢
        refine ⟨hb_trans (hb_thread (by omega) ?_) hq.1, hr⟩
        unfold isT at hr hq
        rw [decide_eq_true_eq] at hr hq
        rw [hr, hq.2])
      (i := i) (by omega) (by simp [isT])
    rw [Bool.and_eq_true] at h
    unfold num clk
    rw [← h]
    simp [isT]
  · constructor
    · intro h; exact absurd (hb_le h) hik
    · intro h
      exfalso
      unfold num clk at h
      have h1 : cnt (fun j => hb l j k && isT l (evI l i).thread j) (k + 1) ≤ cnt (isT l (evI l i).thread) (k + 1) := cnt_le _ fun j _ hq => by rw [Bool.and_eq_true] at hq; exact hq.2
      have h3 := cnt_mono (isT l (evI l i).thread) (show k + 1 ≤ i by omega)
      have h4 : cnt (isT l (evI l i).thread) (i + 1) = cnt (isT l (evI l i).thread) i + 1 := by rw [cnt_succ, if_pos (by simp [isT])]
      omega

/-- An event's clock tells its own number of its thread. -/
theorem clk_own (l : List Ev) (k : Nat) : clk l k (evI l k).thread = num l k := by
  unfold clk num
  refine cnt_congr _ fun i hi => ?_
  rw [Bool.eq_iff_iff, Bool.and_eq_true]
  refine ⟨fun h => h.2, fun h => ⟨hb_thread (by omega) ?_, h⟩⟩
  unfold isT at h
  rw [decide_eq_true_eq] at h
  exact h

theorem clk_le_cnt (l : List Ev) (k : Nat) (t : Int) : clk l k t ≤ cnt (isT l t) (k + 1) := cnt_le _ fun j _ hq => by rw [Bool.and_eq_true] at hq; exact hq.2

theorem clk_mono {l : List Ev} {i k : Nat} (h : hb l i k = true) (t : Int) : clk l i t ≤ clk l k t := by
  have hik := hb_le h
  unfold clk
  refine Nat.le_trans (cnt_le (r := fun j => hb l j k && isT l t j) (i + 1) fun j _ hq => ?_) (cnt_mono _ (by omega))
  rw [Bool.and_eq_true] at hq ⊢
  exact ⟨hb_trans hq.1 h, hq.2⟩

theorem num_append {l m : List Ev} {i : Nat} (h : i < l.length) : num (l ++ m) i = num l i := by
  unfold num
  rw [evI_append h]
  refine cnt_congr _ fun j hj => ?_
  unfold isT
  rw [evI_append (by omega)]
theorem clk_append {l m : List Ev} {k : Nat} (h : k < l.length) (t : Int) : clk (l ++ m) k t = clk l k t := by
  unfold clk
  refine cnt_congr _ fun j hj => ?_
  unfold isT
  rw [evI_append (by omega), hb_append_eq j h]

/-- The greatest of the clocks of those ahead that an event depends on. -/
def top (f : Nat → Nat) (q : Nat → Bool) : Nat → Nat
  | 0 => 0
  | n + 1 => if q n = true then max (top f q n) (f n) else top f q n
theorem top_ge {f : Nat → Nat} {q : Nat → Bool} {n i : Nat} (hi : i < n) (hq : q i = true) : f i ≤ top f q n := by
  induction n with
  | zero => omega
  | succ n ih =>
    unfold top
    by_cases hin : i = n
    · subst hin
      rw [if_pos hq]
      exact Nat.le_max_right _ _
    · have := ih (by omega)
      split <;> omega
theorem top_le {f : Nat → Nat} {q : Nat → Bool} {n b : Nat} (h : ∀ i, i < n → q i = true → f i ≤ b) : top f q n ≤ b := by
  induction n with
  | zero => exact Nat.zero_le _
  | succ n ih =>
    have h1 := ih (fun i hi => h i (by omega))
    unfold top
    split
    · rename_i hq
      have := h n (by omega) hq
      omega
    · exact h1
theorem top_zero_or {f : Nat → Nat} {q : Nat → Bool} {n : Nat} : top f q n = 0 ∨ ∃ i, i < n ∧ q i = true ∧ top f q n = f i := by
  induction n with
  | zero => exact .inl rfl
  | succ n ih =>
    unfold top
    split
    · rename_i hq
      rcases Nat.le_total (top f q n) (f n) with h | h
      · exact .inr ⟨n, by omega, hq, by omega⟩
      · rcases ih with h0 | ⟨i, hi, hqi, e⟩
        · exact .inr ⟨n, by omega, hq, by omega⟩
        · exact .inr ⟨i, by omega, hqi, by omega⟩
    · rcases ih with h0 | ⟨i, hi, hqi, e⟩
      · exact .inl h0
      · exact .inr ⟨i, by omega, hqi, e⟩

/-- A clock, by those ahead. -/
theorem clk_top (l : List Ev) (k : Nat) (t : Int) : clk l k t = top (fun i => clk l i t) (fun i => dep (evI l i) (evI l k)) k + if (evI l k).thread = t then 1 else 0 := by
  by_cases ht : (evI l k).thread = t
  · subst ht
    rw [if_pos rfl, clk_own]
    have e : num l k = cnt (isT l (evI l k).thread) k + 1 := by unfold num; rw [cnt_succ, if_pos (by simp [isT])]
    rw [e]
    congr 1
    apply Nat.le_antisymm
    · -- the last one of the thread ahead
      by_cases h0 : cnt (isT l (evI l k).thread) k = 0
      · omega
      · have hex : ∀ n, n ≤ k → cnt (isT l (evI l k).thread) n ≠ 0 → ∃ i, i < n ∧ isT l (evI l k).thread i = true ∧ cnt (isT l (evI l k).thread) (i + 1) = cnt (isT l (evI l k).thread) n := by
          intro n
          induction n with
          | zero => intro _ h; exact absurd (cnt_zero _) h
          | succ n ih =>
            intro hn h
            cases hq : isT l (evI l k).thread n
            · rw [cnt_succ, hq] at h ⊢
              simp only [Bool.false_eq_true, if_false, Nat.add_zero] at h ⊢
              obtain ⟨i, hi, h1, h2⟩ := ih (by omega) h
              exact ⟨i, by omega, h1, h2⟩
            · exact ⟨n, by omega, hq, rfl⟩
        obtain ⟨i, hi, h1, h2⟩ := hex k (Nat.le_refl _) h0
        rw [← h2]
        have ht : (evI l i).thread = (evI l k).thread := by unfold isT at h1; rw [decide_eq_true_eq] at h1; exact h1
        have h3 := top_ge (f := fun i => clk l i (evI l k).thread) (q := fun i => dep (evI l i) (evI l k)) hi (dep_thread ht)
        have h4 := clk_own l i
        unfold num at h4
        rw [ht] at h4
        omega
    · refine top_le fun i hi _ => Nat.le_trans (clk_le_cnt l i _) (cnt_mono _ (by omega))
  · rw [if_neg ht, Nat.add_zero]
    apply Nat.le_antisymm
    · -- the last one that happens before
      have e : clk l k t = cnt (fun i => hb l i k && isT l t i) k := by
        unfold clk
        rw [cnt_succ, if_neg (by simp [isT, ht])]
        rfl
      rw [e]
      have hex : ∀ n, n ≤ k → cnt (fun i => hb l i k && isT l t i) n ≤ top (fun i => clk l i t) (fun i => dep (evI l i) (evI l k)) k := by
        intro n
        induction n with
        | zero => intro _; exact Nat.zero_le _
        | succ n ih =>
          intro hn
          rw [cnt_succ]
          by_cases hq : (hb l n k && isT l t n) = true
          · rw [if_pos hq]
            rw [Bool.and_eq_true] at hq
            have htn : (evI l n).thread = t := by have := hq.2; unfold isT at this; rw [decide_eq_true_eq] at this; exact this
            rcases (hb_def l n k).1 hq.1 with h | ⟨i, hi, hd, h⟩
            · omega
            · refine Nat.le_trans ?_ (top_ge (f := fun i => clk l i t) (q := fun i => dep (evI l i) (evI l k)) hi hd)
              have h1 := hb_iff_num.1 h
              rw [htn] at h1
              refine Nat.le_trans ?_ h1
              unfold num
              rw [htn, cnt_succ, if_pos hq.2]
              have := cnt_le (q := fun i => hb l i k && isT l t i) (r := isT l t) n fun j _ hq => by rw [Bool.and_eq_true] at hq; exact hq.2
              omega
          · rw [if_neg hq, Nat.add_zero]
            exact ih (by omega)
      exact hex k (Nat.le_refl _)
    · exact top_le fun i hi hd => clk_mono (hb_dep hi hd) t

end Go.Proofs.Ytbmhcnldcfaipaa

/-
  Plain data for layer 4: rows that are the same, but for an order that doesn't matter. Nothing of the translation.
-/
namespace Go.Proofs.Ytbmhcnldcfaipaa

/-- The events of a row with their clocks, and those of one thread. -/
def prs (l : List Ev) : List (Ev × (Int → Nat)) := (List.range l.length).map fun k => (evI l k, clk l k)
def psi (l : List Ev) (t : Int) : List (Ev × (Int → Nat)) := (prs l).filter fun p => decide (p.1.thread = t)
/-- Each thread has the same events, with the same clocks. -/
def Sim (a b : List Ev) : Prop := ∀ t, psi a t = psi b t

theorem Sim.refl (a : List Ev) : Sim a a := fun _ => rfl
theorem Sim.symm {a b : List Ev} (h : Sim a b) : Sim b a := fun t => (h t).symm
theorem Sim.trans {a b c : List Ev} (h : Sim a b) (k : Sim b c) : Sim a c := fun t => (h t).trans (k t)

/-- The clock of an event behind those that are there. -/
def topL (ps : List (Ev × (Int → Nat))) (t : Int) : Nat := ps.foldr (fun p m => max (p.2 t) m) 0
def nxt (ps : List (Ev × (Int → Nat))) (e : Ev) : Int → Nat := fun t => topL (ps.filter fun p => dep p.1 e) t + if e.thread = t then 1 else 0

theorem topL_le {ps : List (Ev × (Int → Nat))} {t : Int} {b : Nat} : topL ps t ≤ b ↔ ∀ p ∈ ps, p.2 t ≤ b := by
  induction ps with
  | nil => simp [topL]
  | cons p ps ih =>
    have e : topL (p :: ps) t = max (p.2 t) (topL ps t) := rfl
    rw [e, Nat.max_le, ih]
    simp
theorem topL_append (ps qs : List (Ev × (Int → Nat))) (t : Int) : topL (ps ++ qs) t = max (topL ps t) (topL qs t) := by
  induction ps with
  | nil => simp [topL]
  | cons p ps ih =>
    have e : topL (p :: ps ++ qs) t = max (p.2 t) (topL (ps ++ qs) t) := rfl
    have e2 : topL (p :: ps) t = max (p.2 t) (topL ps t) := rfl
    rw [e, ih, e2, Nat.max_assoc]
theorem topL_mem {ps qs : List (Ev × (Int → Nat))} (h : ∀ p, p ∈ ps ↔ p ∈ qs) (t : Int) : topL ps t = topL qs t :=
  Nat.le_antisymm (topL_le.2 fun p hp => topL_le.1 (Nat.le_refl _) p ((h p).1 hp)) (topL_le.2 fun p hp => topL_le.1 (Nat.le_refl _) p ((h p).2 hp))
theorem nxt_mem {ps qs : List (Ev × (Int → Nat))} (h : ∀ p, p ∈ ps ↔ p ∈ qs) (e : Ev) : nxt ps e = nxt qs e := by
  funext t
  unfold nxt
  rw [topL_mem (qs := qs.filter fun p => dep p.1 e) (fun p => by rw [List.mem_filter, List.mem_filter, h])]

theorem top_succ (f : Nat → Nat) (q : Nat → Bool) (n : Nat) : top f q (n + 1) = if q n = true then max (top f q n) (f n) else top f q n := rfl
theorem top_topL (l : List Ev) (e : Ev) (t : Int) (n : Nat) : top (fun i => clk l i t) (fun i => dep (evI l i) e) n = topL (((List.range n).map fun k => (evI l k, clk l k)).filter fun p => dep p.1 e) t := by
  induction n with
  | zero => rfl
  | succ n ih =>
    rw [List.range_succ, List.map_append, List.filter_append, topL_append, ← ih, top_succ]
    by_cases h : dep (evI l n) e = true
    · rw [if_pos h]
      simp [h, topL]
    · rw [if_neg h]
      simp [h, topL]

theorem prs_snoc (l : List Ev) (e : Ev) : prs (l ++ [e]) = prs l ++ [(e, nxt (prs l) e)] := by
  unfold prs
  rw [List.length_append, List.length_singleton, List.range_succ, List.map_append]
  have h1 : (List.range l.length).map (fun k => (evI (l ++ [e]) k, clk (l ++ [e]) k)) = (List.range l.length).map fun k => (evI l k, clk l k) := by
    apply List.map_congr_left
    intro k hk
    rw [List.mem_range] at hk
    have : clk (l ++ [e]) k = clk l k := funext fun t => clk_append hk t
    rw [this, evI_append hk]
  have h2 : evI (l ++ [e]) l.length = e := by unfold evI; simp [List.getD]
  have h3 : clk (l ++ [e]) l.length = nxt ((List.range l.length).map fun k => (evI l k, clk l k)) e := by
    funext t
    rw [clk_top, h2, top_topL (l ++ [e]) e t, h1]
    rfl
  rw [h1, List.map_singleton, h2, h3]

/-- A row goes on. -/
def grow (ps : List (Ev × (Int → Nat))) : List Ev → List (Ev × (Int → Nat))
  | [] => ps
  | e :: y => grow (ps ++ [(e, nxt ps e)]) y
theorem grow_cons (ps : List (Ev × (Int → Nat))) (e : Ev) (y : List Ev) : grow ps (e :: y) = grow (ps ++ [(e, nxt ps e)]) y := rfl
theorem prs_grow (y : List Ev) : ∀ x : List Ev, prs (x ++ y) = grow (prs x) y := by
  induction y with
  | nil => intro x; rw [List.append_nil]; rfl
  | cons e y ih =>
    intro x
    rw [show x ++ e :: y = (x ++ [e]) ++ y by simp, ih, prs_snoc]
    rfl
theorem grow_same (y : List Ev) : ∀ {ps qs : List (Ev × (Int → Nat))}, (∀ p, p ∈ ps ↔ p ∈ qs) → ∃ z, grow ps y = ps ++ z ∧ grow qs y = qs ++ z := by
  induction y with
  | nil => intro ps qs _; exact ⟨[], by simp [grow], by simp [grow]⟩
  | cons e y ih =>
    intro ps qs h
    have hn := nxt_mem h e
    obtain ⟨z, h1, h2⟩ := ih (ps := ps ++ [(e, nxt ps e)]) (qs := qs ++ [(e, nxt ps e)]) (fun p => by rw [List.mem_append, List.mem_append, h])
    refine ⟨(e, nxt ps e) :: z, ?_, ?_⟩
    · unfold grow
      rw [h1]
      simp
    · unfold grow
      rw [← hn, h2]
      simp

/-- Two neighbours that don't depend on one another swapped: the same. -/
theorem sim_swap {x y : List Ev} {e f : Ev} (hd : dep e f = false) : Sim (x ++ e :: f :: y) (x ++ f :: e :: y) := by
  have hd' : dep f e = false := by rw [dep_symm]; exact hd
  have hne : e.thread ≠ f.thread := by
    intro h
    rw [dep_thread h] at hd
    cases hd
  have n1 : nxt (prs x ++ [(e, nxt (prs x) e)]) f = nxt (prs x) f := by
    funext t
    unfold nxt
    rw [List.filter_append]
    simp [hd]
  have n2 : nxt (prs x ++ [(f, nxt (prs x) f)]) e = nxt (prs x) e := by
    funext t
    unfold nxt
    rw [List.filter_append]
    simp [hd']
  have e1 : prs (x ++ e :: f :: y) = grow (prs x ++ [(e, nxt (prs x) e), (f, nxt (prs x) f)]) y := by
    rw [prs_grow, grow_cons, grow_cons, n1, List.append_assoc]
    rfl
  have e2 : prs (x ++ f :: e :: y) = grow (prs x ++ [(f, nxt (prs x) f), (e, nxt (prs x) e)]) y := by
    rw [prs_grow, grow_cons, grow_cons, n2, List.append_assoc]
    rfl
  obtain ⟨z, h1, h2⟩ := grow_same y (ps := prs x ++ [(e, nxt (prs x) e), (f, nxt (prs x) f)]) (qs := prs x ++ [(f, nxt (prs x) f), (e, nxt (prs x) e)]) (fun p => by simp only [List.mem_append, List.mem_cons, List.not_mem_nil, or_false]; constructor <;> (rintro (h | h | h) <;> simp [h]))
  intro t
  unfold psi
  rw [e1, e2, h1, h2]
  simp only [List.filter_append]
  congr 2
  by_cases he : e.thread = t
  · have hf : f.thread ≠ t := by omega
    simp [he, hf]
  · simp [List.filter_cons, he]

theorem prs_take {x l : List Ev} {a b : Ev} (hlt : x.length + 1 < (x ++ l).length) (hl : ∀ i, i < x.length → evI (x ++ l) i = evI x i) (h0 : evI (x ++ l) x.length = a) (h1 : evI (x ++ l) (x.length + 1) = b) :
    (prs (x ++ l)).take (x.length + 2) = prs x ++ [(a, clk (x ++ l) x.length), (b, clk (x ++ l) (x.length + 1))] := by
  unfold prs
  rw [← List.map_take, List.take_range, show min (x.length + 2) (x ++ l).length = x.length + 1 + 1 by omega, List.range_succ, List.range_succ, List.map_append, List.map_append, List.append_assoc]
  congr 1
  · apply List.map_congr_left
    intro k hk
    rw [List.mem_range] at hk
    have : clk (x ++ l) k = clk x k := funext fun t => clk_append hk t
    rw [this, hl k hk]
  · simp [h0, h1]

/-- Two neighbours of unlike threads that depend on one another swapped: not the same. -/
theorem sim_swap_dep {x y : List Ev} {e f : Ev} (hd : dep e f = true) (hne : e.thread ≠ f.thread) : ¬ Sim (x ++ f :: e :: y) (x ++ e :: f :: y) := by
  intro h
  have hl : ∀ (a b : Ev) (i : Nat), i < x.length → evI (x ++ a :: b :: y) i = evI x i := fun a b i hi => evI_append hi
  have h0 : ∀ (a b : Ev), evI (x ++ a :: b :: y) x.length = a := fun a b => by unfold evI; simp [List.getD]
  have h1 : ∀ (a b : Ev), evI (x ++ a :: b :: y) (x.length + 1) = b := fun a b => by
    unfold evI
    simp only [List.getD]
    rw [List.getElem?_append_right (by omega), show x.length + 1 - x.length = 1 by omega]
    rfl
  have hlt : ∀ (a b : Ev), x.length + 1 < (x ++ a :: b :: y).length := fun a b => by simp
  -- the clock of e, in the one and in the other
  have c1 : clk (x ++ e :: f :: y) x.length f.thread ≤ cnt (isT x f.thread) x.length := by
    refine Nat.le_trans (clk_le_cnt _ _ _) ?_
    rw [cnt_succ, if_neg (by unfold isT; rw [h0]; simpa using hne)]
    exact Nat.le_of_eq (cnt_congr _ fun i hi => by unfold isT; rw [hl _ _ i hi])
  have c2 : cnt (isT x f.thread) x.length + 1 ≤ clk (x ++ f :: e :: y) (x.length + 1) f.thread := by
    have hb1 : hb (x ++ f :: e :: y) x.length (x.length + 1) = true := hb_dep (by omega) (by rw [h0, h1, dep_symm]; exact hd)
    have h2 := hb_iff_num.1 hb1
    rw [h0] at h2
    refine Nat.le_trans ?_ h2
    unfold num
    rw [h0, cnt_succ, if_pos (by unfold isT; rw [h0]; simp)]
    exact Nat.add_le_add_right (Nat.le_of_eq (cnt_congr _ fun i hi => by unfold isT; rw [hl _ _ i hi])) 1
  -- both stand at one place of the thread's events
  have ht := h e.thread
  have hp1 : prs (x ++ f :: e :: y) = prs x ++ ((f, clk (x ++ f :: e :: y) x.length) :: (e, clk (x ++ f :: e :: y) (x.length + 1)) :: (prs (x ++ f :: e :: y)).drop (x.length + 2)) := by
    conv => lhs; rw [← List.take_append_drop (x.length + 2) (prs (x ++ f :: e :: y))]
    rw [show prs x ++ ((f, clk (x ++ f :: e :: y) x.length) :: (e, clk (x ++ f :: e :: y) (x.length + 1)) :: (prs (x ++ f :: e :: y)).drop (x.length + 2)) = (prs x ++ [(f, clk (x ++ f :: e :: y) x.length), (e, clk (x ++ f :: e :: y) (x.length + 1))]) ++ (prs (x ++ f :: e :: y)).drop (x.length + 2) by simp]
    congr 1
    exact prs_take (hlt f e) (hl f e) (h0 f e) (h1 f e)
  have hp2 : prs (x ++ e :: f :: y) = prs x ++ ((e, clk (x ++ e :: f :: y) x.length) :: (f, clk (x ++ e :: f :: y) (x.length + 1)) :: (prs (x ++ e :: f :: y)).drop (x.length + 2)) := by
    conv => lhs; rw [← List.take_append_drop (x.length + 2) (prs (x ++ e :: f :: y))]
    rw [show prs x ++ ((e, clk (x ++ e :: f :: y) x.length) :: (f, clk (x ++ e :: f :: y) (x.length + 1)) :: (prs (x ++ e :: f :: y)).drop (x.length + 2)) = (prs x ++ [(e, clk (x ++ e :: f :: y) x.length), (f, clk (x ++ e :: f :: y) (x.length + 1))]) ++ (prs (x ++ e :: f :: y)).drop (x.length + 2) by simp]
    congr 1
    exact prs_take (hlt e f) (hl e f) (h0 e f) (h1 e f)
  unfold psi at ht
  rw [hp1, hp2, List.filter_append, List.filter_append] at ht
  have ht2 := List.append_cancel_left ht
  simp only [List.filter_cons, decide_eq_true_eq] at ht2
  rw [if_neg (Ne.symm hne)] at ht2
  simp only [if_true] at ht2
  injection ht2 with ht3 _
  injection ht3 with _ ht4
  have := congrFun ht4 f.thread
  omega

end Go.Proofs.Ytbmhcnldcfaipaa

/-
  Plain data for layer 4: the document's words of rows that are the same, and the clocks'. Nothing of the translation.
-/
namespace Go.Proofs.Ytbmhcnldcfaipaa

theorem filter_range_get (q : Nat → Bool) {n i : Nat} (hi : i < n) (hq : q i = true) : ((List.range n).filter q)[cnt q i]? = some i := by
  induction n with
  | zero => omega
  | succ n ih =>
    rw [List.range_succ, List.filter_append]
    by_cases h : i < n
    · have h1 := ih h
      rw [List.getElem?_append_left (List.getElem?_eq_some_iff.1 h1).1]
      exact h1
    · obtain rfl : i = n := by omega
      have e : cnt q i = ((List.range i).filter q).length := rfl
      rw [e, List.getElem?_append_right (Nat.le_refl _)]
      simp [hq]
theorem filter_range_inv (q : Nat → Bool) {n i j : Nat} (h : ((List.range n).filter q)[j]? = some i) : i < n ∧ q i = true ∧ cnt q i = j := by
  induction n with
  | zero => simp at h
  | succ n ih =>
    rw [List.range_succ, List.filter_append] at h
    by_cases hj : j < ((List.range n).filter q).length
    · rw [List.getElem?_append_left hj] at h
      obtain ⟨h1, h2, h3⟩ := ih h
      exact ⟨by omega, h2, h3⟩
    · rw [List.getElem?_append_right (by omega)] at h
      cases hq : q n
      · simp [hq] at h
      · have e : [n].filter q = [n] := by simp [hq]
        rw [e] at h
        obtain ⟨h1, h2⟩ := List.getElem?_eq_some_iff.1 h
        simp at h1 h2
        subst h2
        refine ⟨by omega, hq, ?_⟩
        unfold cnt
        omega

theorem psi_eq (l : List Ev) (t : Int) : psi l t = ((List.range l.length).filter (isT l t)).map fun k => (evI l k, clk l k) := by
  unfold psi prs
  rw [List.filter_map]
  rfl
theorem psi_len (l : List Ev) (t : Int) : (psi l t).length = cnt (isT l t) l.length := by rw [psi_eq, List.length_map]; rfl
theorem psi_get {l : List Ev} {t : Int} {i : Nat} (hi : i < l.length) (ht : isT l t i = true) : (psi l t)[cnt (isT l t) i]? = some (evI l i, clk l i) := by
  rw [psi_eq, List.getElem?_map, filter_range_get _ hi ht]
  rfl
theorem psi_inv {l : List Ev} {t : Int} {j : Nat} {p : Ev × (Int → Nat)} (h : (psi l t)[j]? = some p) : ∃ i, i < l.length ∧ isT l t i = true ∧ cnt (isT l t) i = j ∧ p = (evI l i, clk l i) := by
  rw [psi_eq, List.getElem?_map] at h
  obtain ⟨i, h1, h2⟩ := Option.map_eq_some_iff.1 h
  obtain ⟨h3, h4, h5⟩ := filter_range_inv _ h1
  exact ⟨i, h3, h4, h5, h2.symm⟩

/-- The place of a thread's event behind m others. -/
def At (l : List Ev) (t : Int) (m i : Nat) : Prop := i < l.length ∧ isT l t i = true ∧ cnt (isT l t) i = m
theorem At.uniq {l : List Ev} {t : Int} {m i j : Nat} (h : At l t m i) (k : At l t m j) : i = j := by
  rcases Nat.lt_trichotomy i j with hl | he | hl
  · have := cnt_lt _ hl h.2.1
    have := h.2.2
    have := k.2.2
    omega
  · exact he
  · have := cnt_lt _ hl k.2.1
    have := h.2.2
    have := k.2.2
    omega
theorem at_ex {l : List Ev} {t : Int} {m : Nat} (h : m < cnt (isT l t) l.length) : ∃ i, At l t m i := by
  rw [← psi_len] at h
  obtain ⟨i, h1, h2, h3, _⟩ := psi_inv (List.getElem?_eq_getElem h)
  exact ⟨i, h1, h2, h3⟩
theorem At.lt {l : List Ev} {t : Int} {m i : Nat} (h : At l t m i) : m < cnt (isT l t) l.length := by
  have := cnt_lt _ h.1 h.2.1
  rw [h.2.2] at this
  exact this
theorem isT_iff {l : List Ev} {t : Int} {i : Nat} : isT l t i = true ↔ (evI l i).thread = t := by unfold isT; rw [decide_eq_true_eq]
theorem at_self {l : List Ev} {i : Nat} (h : i < l.length) : At l (evI l i).thread (cnt (isT l (evI l i).thread) i) i := ⟨h, isT_iff.2 rfl, rfl⟩
theorem num_eq (l : List Ev) (i : Nat) : num l i = cnt (isT l (evI l i).thread) i + 1 := by unfold num; rw [cnt_succ, if_pos (isT_iff.2 rfl)]

theorem clk_iff {l : List Ev} {i m : Nat} {u : Int} (hi : i < l.length) : m < clk l i u ↔ ∃ k, At l u m k ∧ hb l k i = true := by
  constructor
  · intro h
    have h1 := clk_le_cnt l i u
    have h2 := cnt_mono (isT l u) (show i + 1 ≤ l.length by omega)
    obtain ⟨k, hk⟩ := at_ex (l := l) (t := u) (m := m) (by omega)
    refine ⟨k, hk, hb_iff_num.2 ?_⟩
    have ht := isT_iff.1 hk.2.1
    rw [num_eq, ht, hk.2.2]
    omega
  · rintro ⟨k, hk, hh⟩
    have h1 := hb_iff_num.1 hh
    have ht := isT_iff.1 hk.2.1
    rw [num_eq, ht, hk.2.2] at h1
    omega

/-- P4.2: the same events of each thread, in order, and of each pair of them the one before the other alike. -/
def SameD (a b : List Ev) : Prop := a.length = b.length ∧ ∃ tw : Nat → Nat, (∀ i, i < a.length → At b (evI a i).thread (cnt (isT a (evI a i).thread) i) (tw i) ∧ evI b (tw i) = evI a i) ∧
  ∀ i k, i < a.length → k < a.length → hb a k i = hb b (tw k) (tw i)

/-- All threads are 0 to 3. -/
def In4 (l : List Ev) : Prop := ∀ e ∈ l, 0 ≤ e.thread ∧ e.thread ≤ 3
theorem len_sum {l : List Ev} (h : In4 l) (n : Nat) (hn : n ≤ l.length) : n = cnt (isT l 0) n + cnt (isT l 1) n + cnt (isT l 2) n + cnt (isT l 3) n := by
  induction n with
  | zero => rfl
  | succ n ih =>
    have h1 := ih (by omega)
    have h2 := h _ (evI_mem (l := l) (i := n) (by omega))
    simp only [cnt_succ, isT_iff]
    rcases (by omega : (evI l n).thread = 0 ∨ (evI l n).thread = 1 ∨ (evI l n).thread = 2 ∨ (evI l n).thread = 3) with e | e | e | e <;> simp [e] <;> omega
theorem cnt_none {l : List Ev} (h : In4 l) {t : Int} (ht : ¬ (0 ≤ t ∧ t ≤ 3)) : cnt (isT l t) l.length = 0 := by
  have : ∀ n, n ≤ l.length → cnt (isT l t) n = 0 := by
    intro n
    induction n with
    | zero => intro _; rfl
    | succ n ih =>
      intro hn
      have h2 := h _ (evI_mem (l := l) (i := n) (by omega))
      rw [cnt_succ, ih (by omega), if_neg]
      rw [isT_iff]
      intro e
      exact ht (by omega)
  exact this _ (Nat.le_refl _)

theorem Sim.cnt {a b : List Ev} (h : Sim a b) (t : Int) : cnt (isT a t) a.length = cnt (isT b t) b.length := by rw [← psi_len, ← psi_len, h t]
theorem Sim.len {a b : List Ev} (h : Sim a b) (ha : In4 a) (hb : In4 b) : a.length = b.length := by
  have h1 := len_sum ha a.length (Nat.le_refl _)
  have h2 := len_sum hb b.length (Nat.le_refl _)
  have := h.cnt 0
  have := h.cnt 1
  have := h.cnt 2
  have := h.cnt 3
  omega
/-- Where an event of the one stands in the other. -/
theorem Sim.at {a b : List Ev} (h : Sim a b) {i : Nat} (hi : i < a.length) : ∃ k, At b (evI a i).thread (Proofs.Ytbmhcnldcfaipaa.cnt (isT a (evI a i).thread) i) k ∧ evI b k = evI a i ∧ clk b k = clk a i := by
  have h1 := psi_get hi (isT_iff.2 rfl)
  rw [h] at h1
  obtain ⟨k, h2, h3, h4, h5⟩ := psi_inv h1
  injection h5 with h5 h6
  exact ⟨k, ⟨h2, h3, h4⟩, h5.symm, h6.symm⟩

theorem sameD_of_sim {a b : List Ev} (h : Sim a b) (ha : In4 a) (hb4 : In4 b) : SameD a b := by
  refine ⟨h.len ha hb4, ?_⟩
  have hx : ∀ i, ∃ k, i < a.length → At b (evI a i).thread (cnt (isT a (evI a i).thread) i) k ∧ evI b k = evI a i ∧ clk b k = clk a i := fun i => by
    by_cases hi : i < a.length
    · obtain ⟨k, hk⟩ := h.at hi
      exact ⟨k, fun _ => hk⟩
    · exact ⟨0, fun hi' => absurd hi' hi⟩
  obtain ⟨tw, hto⟩ := Classical.skolem.1 hx
  refine ⟨tw, fun i hi => ⟨(hto i hi).1, (hto i hi).2.1⟩, fun i k hi hk => ?_⟩
  have h1 := hto i hi
  have h2 := hto k hk
  rw [Bool.eq_iff_iff, hb_iff_num, hb_iff_num, h1.2.2, num_eq, num_eq, h2.2.1, h2.1.2.2]

theorem sim_of_sameD {a b : List Ev} (h : SameD a b) (ha : In4 a) (hb4 : In4 b) : Sim a b := by
  obtain ⟨hl, tw, h1, h2⟩ := h
  -- no thread has more events in the one than in the other
  have hle : ∀ t, cnt (isT a t) a.length ≤ cnt (isT b t) b.length := by
    intro t
    apply Classical.byContradiction
    intro hn
    obtain ⟨i, hi⟩ := at_ex (l := a) (t := t) (m := cnt (isT b t) b.length) (by omega)
    have h3 := (h1 i hi.1).1
    have ht := isT_iff.1 hi.2.1
    rw [ht, hi.2.2] at h3
    have := h3.lt
    omega
  have heq : ∀ t, cnt (isT a t) a.length = cnt (isT b t) b.length := by
    intro t
    by_cases ht : 0 ≤ t ∧ t ≤ 3
    · have s1 := len_sum ha a.length (Nat.le_refl _)
      have s2 := len_sum hb4 b.length (Nat.le_refl _)
      have l0 := hle 0
      have l1 := hle 1
      have l2 := hle 2
      have l3 := hle 3
      rcases (by omega : t = 0 ∨ t = 1 ∨ t = 2 ∨ t = 3) with rfl | rfl | rfl | rfl <;> omega
    · rw [cnt_none ha ht, cnt_none hb4 ht]
  have hclk : ∀ i, i < a.length → clk b (tw i) = clk a i := by
    intro i hi
    funext u
    obtain ⟨g1, g2⟩ := h1 i hi
    have key : ∀ m, m < clk a i u ↔ m < clk b (tw i) u := by
      intro m
      rw [clk_iff hi, clk_iff g1.1]
      constructor
      · rintro ⟨k, hk, hh⟩
        have h3 := (h1 k hk.1).1
        have ht := isT_iff.1 hk.2.1
        rw [ht, hk.2.2] at h3
        exact ⟨tw k, h3, by rw [← h2 i k hi hk.1]; exact hh⟩
      · rintro ⟨k', hk', hh⟩
        obtain ⟨k, hk⟩ := at_ex (l := a) (t := u) (m := m) (by rw [heq]; exact hk'.lt)
        have h3 := (h1 k hk.1).1
        have ht := isT_iff.1 hk.2.1
        rw [ht, hk.2.2] at h3
        obtain rfl := h3.uniq hk'
        exact ⟨k, hk, by rw [h2 i k hi hk.1]; exact hh⟩
    apply Nat.le_antisymm
    · apply Nat.le_of_not_lt
      intro hc
      have := (key _).2 hc
      omega
    · apply Nat.le_of_not_lt
      intro hc
      have := (key _).1 hc
      omega
  intro t
  apply List.ext_getElem?
  intro j
  by_cases hj : j < cnt (isT a t) a.length
  · obtain ⟨i, hi⟩ := at_ex hj
    obtain ⟨g1, g2⟩ := h1 i hi.1
    have ht := isT_iff.1 hi.2.1
    rw [ht, hi.2.2] at g1
    have e1 := psi_get hi.1 hi.2.1
    have e2 := psi_get g1.1 g1.2.1
    rw [hi.2.2] at e1
    rw [g1.2.2] at e2
    rw [e1, e2, g2, hclk i hi.1]
  · rw [List.getElem?_eq_none (by rw [psi_len]; omega), List.getElem?_eq_none (by rw [psi_len, ← heq]; omega)]

theorem sameD_iff {a b : List Ev} (ha : In4 a) (hb4 : In4 b) : SameD a b ↔ Sim a b := ⟨fun h => sim_of_sameD h ha hb4, fun h => sameD_of_sim h ha hb4⟩

/-- One event more behind both. -/
theorem psi_snoc (l : List Ev) (e : Ev) (t : Int) : psi (l ++ [e]) t = psi l t ++ if e.thread = t then [(e, nxt (prs l) e)] else [] := by
  unfold psi
  rw [prs_snoc, List.filter_append]
  congr 1
  by_cases h : e.thread = t <;> simp [h]
theorem mem_prs {l : List Ev} {p : Ev × (Int → Nat)} : p ∈ prs l ↔ p ∈ psi l p.1.thread := by
  unfold psi
  rw [List.mem_filter]
  simp
theorem sim_snoc (a b : List Ev) (e : Ev) : Sim (a ++ [e]) (b ++ [e]) ↔ Sim a b := by
  constructor
  · intro h t
    have ht := h t
    rw [psi_snoc, psi_snoc] at ht
    by_cases he : e.thread = t
    · rw [if_pos he, if_pos he] at ht
      exact (List.append_inj' ht rfl).1
    · rw [if_neg he, if_neg he, List.append_nil, List.append_nil] at ht
      exact ht
  · intro h t
    have hn : nxt (prs a) e = nxt (prs b) e := nxt_mem (fun p => by rw [mem_prs, mem_prs, h]) e
    rw [psi_snoc, psi_snoc, h t, hn]

/-- Two places of a row, one behind the other. -/
theorem split_two {l : List Ev} {i : Nat} (h : i + 1 < l.length) : l = l.take i ++ l[i] :: l[i + 1] :: l.drop (i + 2) ∧ (l.set i l[i + 1]).set (i + 1) l[i] = l.take i ++ l[i + 1] :: l[i] :: l.drop (i + 2) := by
  have e1 : l = l.take i ++ l[i] :: l[i + 1] :: l.drop (i + 2) := by
    conv => lhs; rw [← List.take_append_drop i l, List.drop_eq_getElem_cons (show i < l.length by omega), List.drop_eq_getElem_cons h]
  refine ⟨e1, ?_⟩
  have hi : (l.take i).length = i := by simp; omega
  generalize l[i] = x at *
  generalize l[i + 1] = y at *
  generalize l.take i = p at *
  generalize l.drop (i + 2) = q at *
  subst e1
  subst hi
  rw [List.set_append_right _ _ (by omega), List.set_append_right _ _ (by omega)]
  simp

end Go.Proofs.Ytbmhcnldcfaipaa

/-
  Plain data for layer 5: what swaps of neighbours that don't depend on one another leave as it is, is alike for rows that are the same. Nothing of the translation.
-/
namespace Go.Proofs.Ytbmhcnldcfaipaa

/-- A thing that is told of rows, whatever neighbours that don't depend on one another are swapped. -/
def Blind {T : Type} (F : List Ev → T) : Prop := ∀ (x y : List Ev) (e f : Ev), dep e f = false → F (x ++ e :: f :: y) = F (x ++ f :: e :: y)

theorem Blind.move {T : Type} {F : List Ev → T} (h : Blind F) (e : Ev) (y : List Ev) : ∀ x : List Ev, (∀ f ∈ y, dep e f = false) → F (x ++ e :: y) = F (x ++ y ++ [e]) := by
  induction y with
  | nil => intro x _; rw [List.append_nil]
  | cons f y ih =>
    intro x hy
    rw [h x y e f (hy f (by simp)), show x ++ f :: e :: y = (x ++ [f]) ++ e :: y by simp, ih (x ++ [f]) (fun g hg => hy g (by simp [hg]))]
    congr 1
    simp
theorem sim_move (e : Ev) (y : List Ev) : ∀ x : List Ev, (∀ f ∈ y, dep e f = false) → Sim (x ++ e :: y) (x ++ y ++ [e]) := by
  induction y with
  | nil => intro x _; rw [List.append_nil]; exact Sim.refl _
  | cons f y ih =>
    intro x hy
    have h1 : Sim (x ++ e :: f :: y) (x ++ f :: e :: y) := sim_swap (hy f (by simp))
    have h2 := ih (x ++ [f]) (fun g hg => hy g (by simp [hg]))
    rw [show (x ++ [f]) ++ e :: y = x ++ f :: e :: y by simp, show x ++ [f] ++ y ++ [e] = x ++ f :: y ++ [e] by simp] at h2
    exact h1.trans h2

theorem mem_prs_inv {l : List Ev} {p : Ev × (Int → Nat)} (h : p ∈ prs l) : ∃ i, i < l.length ∧ p = (evI l i, clk l i) := by
  unfold prs at h
  obtain ⟨i, hi, e⟩ := List.mem_map.1 h
  exact ⟨i, List.mem_range.1 hi, e.symm⟩
theorem prs_mem {l : List Ev} {i : Nat} (h : i < l.length) : (evI l i, clk l i) ∈ prs l := List.mem_map.2 ⟨i, List.mem_range.2 h, rfl⟩
theorem split_at {l : List Ev} {k : Nat} (h : k < l.length) : l = l.take k ++ evI l k :: l.drop (k + 1) := by
  conv => lhs; rw [← List.take_append_drop k l, List.drop_eq_getElem_cons h]
  rw [evI_get h]

/-- The last event of the one row stands in the other one, and nothing behind it depends on it. -/
theorem sim_last {a b : List Ev} {e : Ev} (h : Sim (a ++ [e]) b) : ∃ x y, b = x ++ e :: y ∧ ∀ f ∈ y, dep e f = false := by
  have hp : psi (a ++ [e]) e.thread = psi a e.thread ++ [(e, nxt (prs a) e)] := by rw [psi_snoc, if_pos rfl]
  have hq := h e.thread
  have hl := congrArg List.length hq
  have hN : cnt (isT (a ++ [e]) e.thread) (a ++ [e]).length = cnt (isT a e.thread) a.length + 1 := by
    rw [← psi_len, hp, List.length_append, psi_len]
    rfl
  rw [psi_len, psi_len, hN] at hl
  have hg : (psi b e.thread)[cnt (isT a e.thread) a.length]? = some (e, nxt (prs a) e) := by
    rw [← hq, hp, List.getElem?_append_right (by rw [psi_len]; exact Nat.le_refl _), psi_len, Nat.sub_self]
    rfl
  obtain ⟨k, hk, hkt, hkc, hke⟩ := psi_inv hg
  injection hke with hke _
  refine ⟨b.take k, b.drop (k + 1), by rw [hke]; exact split_at hk, fun f hf => ?_⟩
  cases hd : dep e f
  · rfl
  · exfalso
    obtain ⟨m, hm, hfm⟩ := List.mem_iff_getElem.1 hf
    rw [List.length_drop] at hm
    have hj : k + 1 + m < b.length := by omega
    have hfj : evI b (k + 1 + m) = f := by rw [evI_get hj, ← hfm, List.getElem_drop]
    have hbj : hb b k (k + 1 + m) = true := hb_dep (by omega) (by rw [← hke, hfj]; exact hd)
    have h1 := hb_iff_num.1 hbj
    rw [num_eq, ← hke, hkc] at h1
    have hmem : (evI b (k + 1 + m), clk b (k + 1 + m)) ∈ prs (a ++ [e]) := by rw [mem_prs, h, ← mem_prs]; exact prs_mem hj
    obtain ⟨i, hi, hie⟩ := mem_prs_inv hmem
    injection hie with hie1 hie2
    rw [hie2] at h1
    have h2 := clk_le_cnt (a ++ [e]) i e.thread
    rw [List.length_append, List.length_singleton] at hi
    rcases Nat.lt_or_eq_of_le (show i ≤ a.length by omega) with hia | hia
    · have h3 := cnt_mono (isT (a ++ [e]) e.thread) (show i + 1 ≤ a.length by omega)
      have h4 : cnt (isT (a ++ [e]) e.thread) a.length = cnt (isT a e.thread) a.length := cnt_congr _ fun j hj => by unfold isT; rw [evI_append hj]
      omega
    · have he2 : evI (a ++ [e]) i = e := by rw [hia]; unfold evI; simp [List.getD]
      rw [he2] at hie1
      have h5 : isT b e.thread (k + 1 + m) = true := isT_iff.2 (by rw [hie1])
      have h6 := (show At b e.thread _ _ from ⟨hj, h5, rfl⟩).lt
      have h7 := cnt_lt (isT b e.thread) (show k < k + 1 + m by omega) hkt
      omega

theorem psi_nil (t : Int) : psi [] t = [] := rfl

/-- Rows that are the same are alike in all that such swaps leave. -/
theorem sim_fun {T : Type} (n : Nat) : ∀ (a b : List Ev) (F : List Ev → T), a.length = n → Sim a b → Blind F → F a = F b := by
  induction n with
  | zero =>
    intro a b F hn h _
    obtain rfl := List.eq_nil_of_length_eq_zero hn
    rcases b with _ | ⟨e, b⟩
    · rfl
    · exfalso
      have h1 := psi_get (l := e :: b) (t := e.thread) (i := 0) (by simp) (isT_iff.2 rfl)
      rw [← h, psi_nil] at h1
      simp at h1
  | succ n ih =>
    intro a b F hn h hF
    have hne : a ≠ [] := by rintro rfl; simp at hn
    obtain ⟨a', e, rfl⟩ : ∃ a' e, a = a' ++ [e] := ⟨a.dropLast, a.getLast hne, (List.dropLast_concat_getLast hne).symm⟩
    obtain ⟨x, y, rfl, hy⟩ := sim_last h
    rw [hF.move e y x hy]
    have h2 : Sim (a' ++ [e]) (x ++ y ++ [e]) := h.trans (sim_move e y x hy)
    have h3 := (sim_snoc a' (x ++ y) e).1 h2
    refine ih a' (x ++ y) (fun l => F (l ++ [e])) (by simpa using hn) h3 (fun p q u v huv => ?_)
    have := hF p (q ++ [e]) u v huv
    simpa using this

end Go.Proofs.Ytbmhcnldcfaipaa

/-
  Plain data: two threads whose next events are independent, and who both may, come to one state in either order. Nothing of the translation.
-/
namespace Go.Proofs.Ytbmhcnldcfaipaa

theorem dep_vars {s : St} {a b : Int} {i j : Ins} (hd : dep (s.ev a i) (s.ev b j) = false) (h1 : i.kind = 2) (h2 : j.kind = 1 ∨ j.kind = 2) : i.x ≠ j.x := by
  intro hx
  have e1 : s.ev a i = ⟨a, 3, i.x, false⟩ := by simp [St.ev, h1]
  rw [e1] at hd
  rcases h2 with h2 | h2
  · have e2 : s.ev b j = ⟨b, 2, j.x, false⟩ := by simp [St.ev, h2]
    rw [e2] at hd
    simp [dep, hx] at hd
  · have e2 : s.ev b j = ⟨b, 3, j.x, false⟩ := by simp [St.ev, h2]
    rw [e2] at hd
    simp [dep, hx] at hd

theorem ev_mut {s : St} {a : Int} {i : Ins} (h : i.kind = 5 ∨ (i.kind = 6 ∧ s.who i.x = a)) : (s.ev a i).obj = i.x ∧ ((s.ev a i).kind = 4 ∨ (s.ev a i).kind = 5) := by
  rcases h with h | ⟨h, hw⟩
  · simp [St.ev, h]
  · simp [St.ev, h, hw]

theorem dep_muts {s : St} {a b : Int} {i j : Ins} (hd : dep (s.ev a i) (s.ev b j) = false) (h1 : i.kind = 5 ∨ (i.kind = 6 ∧ s.who i.x = a)) (h2 : j.kind = 5 ∨ (j.kind = 6 ∧ s.who j.x = b)) : i.x ≠ j.x := by
  intro hx
  obtain ⟨o1, k1⟩ := ev_mut h1
  obtain ⟨o2, k2⟩ := ev_mut h2
  unfold dep at hd
  rw [decide_eq_false_iff_not] at hd
  exact hd (.inr ⟨by rw [o1, o2, hx], .inr ⟨k1, k2⟩⟩)

theorem St.Ok.hold_do {F : Nat} {s : St} (h : s.Ok F) {a b : Int} {i : Ins} (hi : s.ins a = some i) (hm : s.may a = true) (hab : a ≠ b) (hb : 0 ≤ b) (x : Int) : ((s.do_ a i).who x = b) ↔ (s.who x = b) := by
  rw [h.who_do hi x]
  split
  · rename_i h5
    have := St.may_free hi hm h5.1
    rw [St.who_eq h5.2]
    omega
  split
  · rename_i h6
    rw [St.who_eq h6.2.2, h6.2.1]
    omega
  · exact Iff.rfl

theorem St.ins_do {s : St} {a b : Int} {i : Ins} (hi : s.ins a = some i) (hb : s.has b) (hab : a ≠ b) : (s.do_ a i).ins b = s.ins b := by
  obtain ⟨ha, _, _⟩ := St.ins_has hi
  have hl : (s.do_ a i).ts.length = s.ts.length := by simp [St.do_]
  have hh : (s.do_ a i).has b ↔ s.has b := by unfold St.has; rw [hl]
  have hth : (s.do_ a i).th b.toNat = s.th b.toNat := by
    rw [St.th_do s a i ha, if_neg]
    unfold St.has at ha hb
    omega
  have hc : (s.do_ a i).code b.toNat = s.code b.toNat := rfl
  unfold St.ins
  rw [hth, hc]
  by_cases hx : s.has b
  · simp [hx, hh]
  · simp [hx, hh]

theorem St.Ok.thr_do {F : Nat} {s : St} (h : s.Ok F) {a b : Int} {i j : Ins} (hi : s.ins a = some i) (hj : s.ins b = some j) (hab : a ≠ b) (hd : dep (s.ev a i) (s.ev b j) = false) : (s.do_ a i).thr b j = s.thr b j := by
  obtain ⟨ha, _, _⟩ := St.ins_has hi
  obtain ⟨hb, _, _⟩ := St.ins_has hj
  have hth : (s.do_ a i).th b.toNat = s.th b.toNat := by
    rw [St.th_do s a i ha, if_neg]
    unfold St.has at ha hb
    omega
  have hr : (s.do_ a i).reg b j = s.reg b j := by unfold St.reg; rw [hth]
  have hv : j.kind = 1 → (s.do_ a i).var j.x = s.var j.x := by
    intro h1
    rw [h.var_do hi j.x, if_neg]
    rintro ⟨h2, hx⟩
    have := dep_vars hd h2 (.inl h1)
    have := (h.obj hi).1 (.inr h2)
    have := (h.obj hj).1 (.inl h1)
    omega
  unfold St.thr
  rw [hth, hr]
  by_cases h1 : j.kind = 1
  · rw [hv h1]
  · simp [h1]

theorem St.Ok.may_do {F : Nat} {s : St} (h : s.Ok F) {a b : Int} {i j : Ins} (hi : s.ins a = some i) (hj : s.ins b = some j) (hmb : s.may b = true) (hab : a ≠ b) (hd : dep (s.ev a i) (s.ev b j) = false) : (s.do_ a i).may b = true := by
  obtain ⟨hb, _, _⟩ := St.ins_has hj
  have h1 := St.ins_do hi hb hab
  unfold St.may
  rw [h1, hj]
  simp only [decide_eq_true_eq]
  intro h5
  have hf := St.may_free hj hmb h5
  rw [h.who_do hi]
  split
  · rename_i hx
    have := dep_muts hd (.inl hx.1) (.inl h5)
    have := (h.obj hi).2.1 (.inl hx.1)
    have := (h.obj hj).2.1 (.inl h5)
    omega
  split
  · omega
  · exact hf

theorem St.Ok.do_swap {F : Nat} {s : St} (h : s.Ok F) {a b : Int} {i j : Ins} (hi : s.ins a = some i) (hj : s.ins b = some j) (hma : s.may a = true) (hmb : s.may b = true) (hab : a ≠ b)
    (hd : dep (s.ev a i) (s.ev b j) = false) : (s.do_ a i).do_ b j = (s.do_ b j).do_ a i := by
  obtain ⟨ha, _, _⟩ := St.ins_has hi
  obtain ⟨hb, _, _⟩ := St.ins_has hj
  have hd' : dep (s.ev b j) (s.ev a i) = false := by rw [dep_symm]; exact hd
  have hn : a.toNat ≠ b.toNat := by unfold St.has at ha hb; omega
  have t1 := h.thr_do hi hj hab hd
  have t2 := h.thr_do hj hi (Ne.symm hab) hd'
  have w1 := h.hold_do hi hma hab (by unfold St.has at hb; exact hb.1) j.x
  have w2 := h.hold_do hj hmb (Ne.symm hab) (by unfold St.has at ha; exact ha.1) i.x
  have r1 : (s.do_ a i).reg b j = s.reg b j := by
    unfold St.reg
    rw [St.th_do s a i ha, if_neg (Ne.symm hn)]
  have r2 : (s.do_ b j).reg a i = s.reg a i := by
    unfold St.reg
    rw [St.th_do s b j hb, if_neg hn]
  obtain ⟨oi1, oi2, _⟩ := h.obj hi
  obtain ⟨oj1, oj2, _⟩ := h.obj hj
  have ets : ((s.do_ a i).do_ b j).ts = ((s.do_ b j).do_ a i).ts := by
    show (s.ts.set a.toNat (s.thr a i)).set b.toNat ((s.do_ a i).thr b j) = (s.ts.set b.toNat (s.thr b j)).set a.toNat ((s.do_ b j).thr a i)
    rw [t1, t2, List.set_comm _ _ hn]
  have ev : ((s.do_ a i).do_ b j).v = ((s.do_ b j).do_ a i).v := by
    show (if j.kind = 2 then (if i.kind = 2 then s.v.set i.x.toNat (s.reg a i) else s.v).set j.x.toNat ((s.do_ a i).reg b j) else if i.kind = 2 then s.v.set i.x.toNat (s.reg a i) else s.v) =
      (if i.kind = 2 then (if j.kind = 2 then s.v.set j.x.toNat (s.reg b j) else s.v).set i.x.toNat ((s.do_ b j).reg a i) else if j.kind = 2 then s.v.set j.x.toNat (s.reg b j) else s.v)
    rw [r1, r2]
    by_cases h1 : i.kind = 2
    · by_cases h2 : j.kind = 2
      · have hne := dep_vars hd h1 (.inr h2)
        have := oi1 (.inr h1)
        have := oj1 (.inr h2)
        simp only [h1, h2, if_true]
        exact List.set_comm _ _ (by omega)
      · simp [h1, h2]
    · by_cases h2 : j.kind = 2
      · simp [h1, h2]
      · simp [h1, h2]
  have em : ((s.do_ a i).do_ b j).m = ((s.do_ b j).do_ a i).m := by
    show (if j.kind = 5 then (s.do_ a i).m.set j.x.toNat b else if j.kind = 6 ∧ (s.do_ a i).who j.x = b then (s.do_ a i).m.set j.x.toNat (-1) else (s.do_ a i).m) =
      (if i.kind = 5 then (s.do_ b j).m.set i.x.toNat a else if i.kind = 6 ∧ (s.do_ b j).who i.x = a then (s.do_ b j).m.set i.x.toNat (-1) else (s.do_ b j).m)
    have mi : (s.do_ a i).m = if i.kind = 5 then s.m.set i.x.toNat a else if i.kind = 6 ∧ s.who i.x = a then s.m.set i.x.toNat (-1) else s.m := rfl
    have mj : (s.do_ b j).m = if j.kind = 5 then s.m.set j.x.toNat b else if j.kind = 6 ∧ s.who j.x = b then s.m.set j.x.toNat (-1) else s.m := rfl
    simp only [w1, w2]
    rw [mi, mj]
    by_cases p : i.kind = 5 ∨ (i.kind = 6 ∧ s.who i.x = a)
    · by_cases q : j.kind = 5 ∨ (j.kind = 6 ∧ s.who j.x = b)
      · have hne := dep_muts hd p q
        have := oi2 (by omega)
        have := oj2 (by omega)
        have hx : i.x.toNat ≠ j.x.toNat := by omega
        rcases p with p | p
        · rcases q with q | q
          · simp only [p, q, if_true]
            exact List.set_comm _ _ hx
          · simp [p, q]
            exact List.set_comm _ _ hx
        · rcases q with q | q
          · simp [p, q]
            exact List.set_comm _ _ hx
          · simp [p, q]
            exact List.set_comm _ _ hx
      · have q1 : ¬ j.kind = 5 := fun e => q (.inl e)
        have q2 : ¬ (j.kind = 6 ∧ s.who j.x = b) := fun e => q (.inr e)
        simp only [q1, q2, if_false]
    · have p1 : ¬ i.kind = 5 := fun e => p (.inl e)
      have p2 : ¬ (i.kind = 6 ∧ s.who i.x = a) := fun e => p (.inr e)
      simp only [p1, p2, if_false]
  have ep : ((s.do_ a i).do_ b j).p = ((s.do_ b j).do_ a i).p := rfl
  generalize (s.do_ a i).do_ b j = z at *
  generalize (s.do_ b j).do_ a i = z' at *
  cases z
  cases z'
  simp_all

theorem St.step_may {s : St} {t : Int} {i : Ins} (hi : s.ins t = some i) (hm : s.may t = true) : s.step t = (0, s.ev t i, s.do_ t i) := by
  obtain ⟨ht, _, _⟩ := St.ins_has hi
  unfold St.step
  rw [if_pos ht, hi]
  simp [hm]

theorem St.Ok.ev_do {F : Nat} {s : St} (h : s.Ok F) {a b : Int} {i j : Ins} (hi : s.ins a = some i) (hj : s.ins b = some j) (hma : s.may a = true) (hab : a ≠ b) : (s.do_ a i).ev b j = s.ev b j := by
  obtain ⟨hb, _, _⟩ := St.ins_has hj
  have h1 := h.next_do hi hma (Ne.symm hab)
  unfold St.next at h1
  rw [St.ins_do hi hb hab, hj] at h1
  simpa using h1

/-- Both orders. -/
theorem St.Ok.swap {F : Nat} {s : St} (h : s.Ok F) {a b : Int} {x y : Ev} (hx : s.next a = some x) (hy : s.next b = some y) (hma : s.may a = true) (hmb : s.may b = true) (hab : a ≠ b) (hd : dep x y = false) :
    ∃ c d z, s.step a = (0, x, c) ∧ c.step b = (0, y, z) ∧ s.step b = (0, y, d) ∧ d.step a = (0, x, z) ∧ c.Ok F ∧ d.Ok F ∧ z.Ok F := by
  unfold St.next at hx hy
  obtain ⟨i, hi, rfl⟩ := Option.map_eq_some_iff.1 hx
  obtain ⟨j, hj, rfl⟩ := Option.map_eq_some_iff.1 hy
  have hd' : dep (s.ev b j) (s.ev a i) = false := by rw [dep_symm]; exact hd
  obtain ⟨ha, _, _⟩ := St.ins_has hi
  obtain ⟨hb, _, _⟩ := St.ins_has hj
  have i1 := (St.ins_do hi hb hab).trans hj
  have i2 := (St.ins_do hj ha (Ne.symm hab)).trans hi
  refine ⟨s.do_ a i, s.do_ b j, (s.do_ a i).do_ b j, St.step_may hi hma, ?_, St.step_may hj hmb, ?_, h.do_ok hi, h.do_ok hj, (h.do_ok hi).do_ok i1⟩
  · rw [St.step_may i1 (h.may_do hi hj hmb hab hd), h.ev_do hi hj hma hab]
  · rw [St.step_may i2 (h.may_do hj hi hma (Ne.symm hab) hd'), h.ev_do hj hi hmb (Ne.symm hab), h.do_swap hi hj hma hmb hab hd]

end Go.Proofs.Ytbmhcnldcfaipaa
