/- Plain numbers for New: a state that is being laid. -/
import Derived.Test.YtfhndbibabbnlaaInsCells
import Derived.Test.YtfhndbibabbnlaaStateMem
import Derived.Test.YtfhndbibabbnlaaDoPlain
import Derived.Laws.CopyOwn
namespace Go.Proofs.Ytfhndbibabbnlaa
open Go.RowKit

def insNums (l : List Ins) : List Int := l.flatMap fun i => [i.kind, i.r, i.x, i.n]
theorem insNums_cells (l : List Ins) : insCells l = (insNums l).map (Value.int .i64) := by
  simp [insCells, insNums, List.map_flatMap]
theorem insNums_length (l : List Ins) : (insNums l).length = l.length * 4 := by
  have := insCells_length l
  rw [insNums_cells] at this
  simpa using this
theorem insNums_get (l : List Ins) (j : Nat) : (insNums l).getD j 0 = insNum (l.getD (j / 4) ins0) (j % 4) := by
  induction l generalizing j with
  | nil =>
    simp [insNums]
    unfold insNum ins0
    repeat' split
    all_goals rfl
  | cons i l ih =>
    by_cases h : j < 4
    · rw [show j / 4 = 0 by omega, show j % 4 = j by omega]
      obtain rfl | rfl | rfl | rfl : j = 0 ∨ j = 1 ∨ j = 2 ∨ j = 3 := by omega
      all_goals rfl
    · obtain ⟨k, rfl⟩ : ∃ k, j = k + 4 := ⟨j - 4, by omega⟩
      rw [show (k + 4) / 4 = k / 4 + 1 by omega, show (k + 4) % 4 = k % 4 by omega]
      exact ih k

/-- In block g lie the numbers f. -/
def NumAt (w : World) (g : Nat) (f : Nat → Int) : Prop := w.heap[g]? = some (.cells (numA f) 77 (0, 0))
theorem NumAt.lt {w : World} {g : Nat} {f : Nat → Int} (h : NumAt w g f) : g < w.heap.size := (Array.getElem?_eq_some_iff.1 h).1
theorem NumAt.cell {w : World} {g : Nat} {f : Nat → Int} (h : NumAt w g f) (o : Nat) (ho : o < 156) : w.cell? ⟨g, o, none⟩ = some (.int .i64 (f o)) := by
  rw [cell_of_row w g o _ _ _ h, numA_get _ _ ho]
theorem NumAt.frozen {w : World} {g : Nat} {f : Nat → Int} (h : NumAt w g f) (o : Nat) : w.frozen? ⟨g, o, none⟩ = false := by
  simp [World.frozen?, show w.heap[g]? = _ from h]
theorem NumAt.set {w : World} {g : Nat} {f : Nat → Int} (h : NumAt w g f) (f' : Nat → Int) (o : Nat) (n : Int) (ho : o < 156) (hs : ∀ j, j < 156 → f' j = if j = o then n else f j) : NumAt (w.setCell ⟨g, o, none⟩ (.int .i64 n)) g f' := by
  have := heap_setCell_same w g o _ _ (.int .i64 n) h
  rw [numA_set _ _ o n ho hs] at this
  exact this

theorem numA_splice (f f1 : Nat → Int) (o : Nat) (vs : List Int) (h : ∀ j, j < 156 → f1 j = if o ≤ j ∧ j < o + vs.length then vs.getD (j - o) 0 else f j) (ho : o + vs.length ≤ 156) :
    ((numA f).toList.take o ++ vs.map (Value.int .i64) ++ (numA f).toList.drop (o + vs.length)).toArray = numA f1 := by
  have hl : (numA f).toList.length = 156 := by simp [numA]
  apply Array.ext_getElem?
  intro j
  rw [List.getElem?_toArray]
  by_cases hj : j < 156
  · rw [numA_get f1 j hj, h j hj]
    by_cases h1 : j < o
    · rw [if_neg (by omega), List.append_assoc, List.getElem?_append_left (by simp [hl]; omega), List.getElem?_take_of_lt h1]
      have := numA_get f j hj
      simpa using this
    · by_cases h2 : j < o + vs.length
      · rw [if_pos ⟨by omega, h2⟩, List.getElem?_append_left (by simp [hl]; omega), List.getElem?_append_right (by simp [hl]; omega)]
        have e : j - ((numA f).toList.take o).length = j - o := by simp [hl]; omega
        rw [e, List.getElem?_map, List.getElem?_eq_getElem (by omega), getD_lt _ (by omega)]
        rfl
      · rw [if_neg (by omega), List.getElem?_append_right (by simp [hl]; omega), List.getElem?_drop]
        have e : o + vs.length + (j - ((numA f).toList.take o ++ vs.map (Value.int .i64)).length) = j := by simp [hl]; omega
        rw [e]
        have := numA_get f j hj
        simpa using this
  · have h1 : (numA f1)[j]? = none := Array.getElem?_eq_none (by rw [numA_size]; omega)
    rw [h1, List.getElem?_eq_none]
    simp [hl]
    omega

/-- copy(dst, src) into the middle of the block: elements of four numbers. -/
theorem run_copy_code (w : World) (g o : Nat) (f f1 : Nat → Int) (hg : NumAt w g f) (c : Option Addr) (cap : Nat) (l : List Ins) (hl : CodeAt w c l) (h8 : l.length ≤ 8) (ho : o + 32 ≤ 156)
    (h : ∀ j, j < 156 → f1 j = if o ≤ j ∧ j < o + l.length * 4 then insNum (l.getD ((j - o) / 4) ins0) ((j - o) % 4) else f j) :
    (Builtin.copy_ #[66, 66] 3 #[.slice (some ⟨g, o, none⟩) 8 8, .slice c l.length cap]).run Try.prog w = .ok (.int .i64 l.length) (w.setRow g (numA f1)) := by
  have hs : (Try.prog.info? 68).map (·.size) = some 4 := by kernel_rfl
  have hm : Nat.min l.length 8 = l.length := Nat.min_eq_left h8
  cases hq : Try.prog.info? 68 with
  | none => simp [hq] at hs
  | some i =>
    have hi : i.size = 4 := by simpa [hq] using hs
    have hst := run_storeCells_at (P := Try.prog) g o 77 (insCells l) 0 _ w hg (by rw [insCells_length, numA_size]; omega) (insCells_one l)
    have hsp := numA_splice f f1 o (insNums l) (fun j hj => by rw [h j hj, insNums_length, insNums_get]) (by rw [insNums_length]; omega)
    rw [Nat.add_zero, insNums_cells, List.length_map, hsp] at hst
    by_cases h0 : l = []
    · subst h0
      have hlc : ∀ (x : Addr), (loadCells x 0).run Try.prog w = .ok #[] w := fun x => by simpa using run_loadCells_list (P := Try.prog) w x [] (by simp)
      have hst' : (storeCells ⟨g, o, none⟩ ([] : List Value)).run Try.prog w = .ok () (w.setRow g (numA f1)) := hst
      cases c <;> simp [Builtin.copy_, run_underlying Try.underlying66, Builtin.lenOf, Builtin.firstCells, sizeOf, typeInfo, hq, hlc, hst', goInt]
    · obtain ⟨b', o', rfl, _⟩ := hl.2 h0
      have hld := run_loadCells_list (P := Try.prog) w ⟨b', o', none⟩ (insCells l) hl.cells
      rw [insCells_length] at hld
      rw [← insNums_cells] at hst
      simp [Builtin.copy_, run_underlying Try.underlying66, Builtin.lenOf, Builtin.firstCells, sizeOf, typeInfo, hq, hi, hm, hld, hst, goInt]

/-- The numbers when the first k threads are laid. -/
def newNum (p : Pg) (F k o : Nat) : Int := if o < 2 + k * 37 ∧ o < 150 then stNum (St.new p F) o else 0
/-- The numbers when all threads are, and k mutexes. -/
def newNum2 (p : Pg) (F k o : Nat) : Int := if o < 154 + k then stNum (St.new p F) o else 0

theorem new_th (p : Pg) (F k : Nat) (hk : k < p.threads.length) : (St.new p F).th k = ⟨0, F, [0, 0]⟩ := by
  unfold St.th St.new
  dsimp only
  rw [getD_lt _ (by simpa using hk)]
  simp
theorem new_th_out (p : Pg) (F k : Nat) (hk : p.threads.length ≤ k) : (St.new p F).th k = thr0 := by
  unfold St.th St.new
  simp [List.getD, hk]
theorem new_code (p : Pg) (F k : Nat) (hk : k < p.threads.length) : (St.new p F).code k = p.threads[k] := by
  unfold St.code St.new
  exact getD_lt _ hk
theorem new_code_out (p : Pg) (F k : Nat) (hk : p.threads.length ≤ k) : (St.new p F).code k = [] := by
  unfold St.code St.new
  simp [List.getD, hk]
theorem thrNum_out (k : Nat) : thrNum [] thr0 k = 0 := by
  unfold thrNum
  have e : ∀ n, insNum ins0 n = 0 := fun n => by unfold insNum ins0; repeat' split
                                                 all_goals rfl
  have e2 : ∀ n : Nat, ([0, 0] : List Int).getD n 0 = 0 := fun n => match n with | 0 => rfl | 1 => rfl | n + 2 => rfl
  dsimp only [thr0]
  by_cases h : k < 32
  · rw [if_pos h]; exact e _
  rw [if_neg h]
  by_cases h : k = 32
  · rw [if_pos h]; rfl
  rw [if_neg h]
  by_cases h : k = 33
  · rw [if_pos h]; rfl
  rw [if_neg h]
  by_cases h : k = 34
  · rw [if_pos h]; rfl
  rw [if_neg h]
  exact e2 _

theorem newNum_zero (p : Pg) (F o : Nat) : newNum p F 0 o = if o = 0 then (p.threads.length : Int) else if o = 1 then p.mutexes else 0 := by
  unfold newNum
  by_cases h0 : o = 0
  · subst h0; simp [stNum_threads, St.new]
  · by_cases h1 : o = 1
    · subst h1; simp [stNum_mutexes, St.new]
    · rw [if_neg (by omega), if_neg h0, if_neg h1]

/-- The thread k is laid: its code, then its size, then its fuel. -/
theorem newNum_succ (p : Pg) (F k : Nat) (hk : k < p.threads.length) (h4 : p.threads.length ≤ 4) (h8 : p.threads[k].length ≤ 8) (f1 f2 : Nat → Int)
    (h1 : ∀ j, j < 156 → f1 j = if 2 + k * 37 ≤ j ∧ j < 2 + k * 37 + p.threads[k].length * 4 then insNum (p.threads[k].getD ((j - (2 + k * 37)) / 4) ins0) ((j - (2 + k * 37)) % 4) else newNum p F k j)
    (h2 : ∀ j, j < 156 → f2 j = if j = 2 + k * 37 + 32 then (p.threads[k].length : Int) else f1 j) :
    ∀ j, j < 156 → newNum p F (k + 1) j = if j = 2 + k * 37 + 34 then (F : Int) else f2 j := by
  intro j hj
  rw [h2 j hj, h1 j hj]
  unfold newNum
  by_cases a : j < 2 + k * 37
  · rw [if_pos (by omega), if_neg (by omega), if_neg (by omega), if_neg (by omega), if_pos (by omega)]
  · by_cases b : j < 2 + (k + 1) * 37
    · obtain ⟨d, rfl⟩ : ∃ d, j = 2 + k * 37 + d := ⟨j - (2 + k * 37), by omega⟩
      rw [if_pos (by omega), stNum_thr _ _ _ (by omega) (by omega), new_th p F k hk, new_code p F k hk]
      have ed : 2 + k * 37 + d - (2 + k * 37) = d := by omega
      rw [ed]
      unfold thrNum
      by_cases c1 : d < 32
      · rw [if_pos c1, if_neg (by omega), if_neg (by omega)]
        by_cases c2 : d < p.threads[k].length * 4
        · rw [if_pos (by omega)]
        · rw [if_neg (by omega), if_neg (by omega)]
          have e : p.threads[k].getD (d / 4) ins0 = ins0 := by
            rw [List.getD, List.getElem?_eq_none (by omega)]; rfl
          rw [e]
          unfold insNum ins0
          repeat' split
          all_goals rfl
      · rw [if_neg c1, if_neg (c := 2 + k * 37 ≤ 2 + k * 37 + d ∧ 2 + k * 37 + d < 2 + k * 37 + p.threads[k].length * 4) (by omega), if_neg (c := 2 + k * 37 + d < 2 + k * 37 ∧ 2 + k * 37 + d < 150) (by omega)]
        obtain rfl | rfl | rfl | rfl | rfl : d = 32 ∨ d = 33 ∨ d = 34 ∨ d = 35 ∨ d = 36 := by omega
        all_goals simp
    · rw [if_neg (by omega), if_neg (by omega), if_neg (by omega), if_neg (by omega), if_neg (by omega)]

theorem newNum_all (p : Pg) (F : Nat) : ∀ j, j < 156 → newNum p F p.threads.length j = newNum2 p F 0 j := by
  intro j hj
  unfold newNum newNum2
  by_cases a : j < 2 + p.threads.length * 37 ∧ j < 150
  · rw [if_pos a, if_pos (by omega)]
  · rw [if_neg a]
    by_cases b : j < 150
    · rw [if_pos (by omega)]
      obtain ⟨d, t, rfl, ht⟩ : ∃ d t, j = 2 + t * 37 + d ∧ d < 37 := ⟨(j - 2) % 37, (j - 2) / 37, by omega, by omega⟩
      rw [stNum_thr _ _ _ (by omega) ht, new_th_out _ _ _ (by omega), new_code_out _ _ _ (by omega), thrNum_out]
    · by_cases c : j < 154
      · rw [if_pos (by omega)]
        obtain ⟨d, rfl⟩ : ∃ d, j = 150 + d := ⟨j - 150, by omega⟩
        rw [stNum_var _ _ (by omega)]
        obtain rfl | rfl | rfl | rfl : d = 0 ∨ d = 1 ∨ d = 2 ∨ d = 3 := by omega
        all_goals rfl
      · rw [if_neg (by omega)]

theorem newNum2_succ (p : Pg) (F k : Nat) (hk : k < 2) : ∀ j, j < 156 → newNum2 p F (k + 1) j = if j = 154 + k then -1 else newNum2 p F k j := by
  intro j hj
  unfold newNum2
  by_cases a : j = 154 + k
  · rw [if_pos (by omega), if_pos a, a, stNum_who]
    obtain rfl | rfl : k = 0 ∨ k = 1 := by omega
    all_goals rfl
  · rw [if_neg a]
    by_cases b : j < 154 + k
    · rw [if_pos (by omega), if_pos b]
    · rw [if_neg (by omega), if_neg b]

theorem newNum2_all (p : Pg) (F : Nat) : ∀ j, j < 156 → newNum2 p F 2 j = stNum (St.new p F) j := by
  intro j hj
  unfold newNum2
  rw [if_pos (by omega)]

end Go.Proofs.Ytfhndbibabbnlaa
