/- A state of the program in memory: one block of 156 numbers. -/
import Derived.Test.YtkphdmfcmfojeaaMem
import Derived.Test.YtkphdmfcmfojeaaPlainState
import Derived.Laws.Rows
import Derived.Laws.Tables
import Derived.Lib.Hide
namespace Go.Proofs.Ytkphdmfcmfojeaa
open Go.RowKit

def ins0 : Ins := ⟨0, 0, 0, 0⟩
def insNum (i : Ins) (k : Nat) : Int := if k = 0 then i.kind else if k = 1 then i.r else if k = 2 then i.x else i.n

/-- The number of cell k of a thread's 37. -/
def thrNum (c : List Ins) (x : Thr) (k : Nat) : Int :=
  if k < 32 then insNum (c.getD (k / 4) ins0) (k % 4)
  else if k = 32 then c.length
  else if k = 33 then x.at_
  else if k = 34 then x.fuel
  else x.r.getD (k - 35) 0

/-- The number of cell o of a state's 156. -/
def stNum (s : St) (o : Nat) : Int :=
  if o = 0 then s.ts.length
  else if o = 1 then s.p.mutexes
  else if o < 150 then thrNum (s.code ((o - 2) / 37)) (s.th ((o - 2) / 37)) ((o - 2) % 37)
  else if o < 154 then s.v.getD (o - 150) 0
  else s.m.getD (o - 154) (-1)

def numA (f : Nat → Int) : Array Value := ((List.range 156).map fun o => Value.int .i64 (f o)).toArray

theorem numA_size (f : Nat → Int) : (numA f).size = 156 := by simp [numA]
theorem numA_get (f : Nat → Int) (o : Nat) (h : o < 156) : (numA f)[o]? = some (.int .i64 (f o)) := by simp [numA, h]
theorem numA_one (f : Nat → Int) : (numA f).all (·.oneCell') = true := by
  simp [numA, Value.oneCell']
theorem numA_set (f g : Nat → Int) (o : Nat) (n : Int) (ho : o < 156) (h : ∀ j, j < 156 → g j = if j = o then n else f j) : (numA f).setIfInBounds o (.int .i64 n) = numA g := by
  apply Array.ext_getElem?
  intro j
  rw [Array.getElem?_setIfInBounds]
  by_cases hj : j < 156
  · rw [numA_get g j hj, h j hj]
    by_cases e : o = j
    · subst e; simp [numA_size, hj]
    · rw [if_neg e, if_neg (fun e' => e e'.symm), numA_get f j hj]
  · have h1 : (numA g)[j]? = none := Array.getElem?_eq_none (by rw [numA_size]; omega)
    have h2 : (numA f)[j]? = none := Array.getElem?_eq_none (by rw [numA_size]; omega)
    rw [h1, h2]
    split
    · rw [numA_size, if_neg (by omega)]
    · rfl
theorem numA_congr (f g : Nat → Int) (h : ∀ j, j < 156 → f j = g j) : numA f = numA g := by
  unfold numA
  congr 1
  apply List.map_congr_left
  intro j hj
  rw [h j (by simpa using hj)]

/-- In block b lies the state s. -/
def StAt (w : World) (b : Nat) (s : St) : Prop := w.heap[b]? = some (.cells (numA (stNum s)) 153 (0, 0))

theorem StAt.lt {w : World} {b : Nat} {s : St} (h : StAt w b s) : b < w.heap.size := (Array.getElem?_eq_some_iff.1 h).1
theorem StAt.num {w : World} {b : Nat} {s : St} (h : StAt w b s) (o : Nat) (ho : o < 156) : w.cell? ⟨b, o, none⟩ = some (.int .i64 (stNum s o)) := by
  rw [cell_of_row w b o _ _ _ h, numA_get _ _ ho]
theorem StAt.frozen {w : World} {b : Nat} {s : St} (h : StAt w b s) (o : Nat) : w.frozen? ⟨b, o, none⟩ = false := by
  simp [World.frozen?, show w.heap[b]? = _ from h]
theorem StAt.set {w : World} {b : Nat} {s : St} (h : StAt w b s) (s' : St) (o : Nat) (n : Int) (ho : o < 156) (hs : ∀ j, j < 156 → stNum s' j = if j = o then n else stNum s j) : StAt (w.setCell ⟨b, o, none⟩ (.int .i64 n)) b s' := by
  have := heap_setCell_same w b o _ _ (.int .i64 n) h
  rw [numA_set _ _ o n ho hs] at this
  exact this
theorem StAt.later {w w' : World} {b : Nat} {s : St} (h : StAt w b s) (hb : Below w.heap.size w w') : StAt w' b s := (hb.block b h.lt).trans h
theorem StAt.drew {w : World} {b : Nat} {s : St} (h : StAt w b s) : StAt w.drew b s := h

theorem stNum_threads (s : St) : stNum s 0 = s.ts.length := rfl
theorem stNum_mutexes (s : St) : stNum s 1 = s.p.mutexes := rfl
theorem stNum_thr (s : St) (t k : Nat) (ht : t < 4) (hk : k < 37) : stNum s (2 + t * 37 + k) = thrNum (s.code t) (s.th t) k := by
  unfold stNum
  rw [if_neg (by omega), if_neg (by omega), if_pos (by omega), show (2 + t * 37 + k - 2) / 37 = t by omega, show (2 + t * 37 + k - 2) % 37 = k by omega]
theorem stNum_var (s : St) (x : Nat) (h : x < 4) : stNum s (150 + x) = s.v.getD x 0 := by
  unfold stNum
  rw [if_neg (by omega), if_neg (by omega), if_neg (by omega), if_pos (by omega), show 150 + x - 150 = x by omega]
theorem stNum_who (s : St) (x : Nat) : stNum s (154 + x) = s.m.getD x (-1) := by
  unfold stNum
  rw [if_neg (by omega), if_neg (by omega), if_neg (by omega), if_neg (by omega), show 154 + x - 154 = x by omega]

theorem stNum_put (s : St) (t : Nat) (y : Thr) (k : Nat) (n : Int) (ht : t < s.ts.length) (h4 : s.ts.length ≤ 4) (hk : k < 37) (hy : ∀ j, j < 37 → thrNum (s.code t) y j = if j = k then n else thrNum (s.code t) (s.th t) j) :
    ∀ j, j < 156 → stNum (s.put t y) j = if j = 2 + t * 37 + k then n else stNum s j := by
  intro j hj
  have hth : ∀ u, (s.put t y).th u = if u = t then y else s.th u := fun u => by
    unfold St.put St.th
    simp only [Int.toNat_natCast]
    exact getD_set _ _ _ _ _ ht
  have hcd : ∀ u, (s.put t y).code u = s.code u := fun _ => rfl
  unfold stNum
  by_cases h0 : j = 0
  · rw [if_pos h0, if_neg (by omega), if_pos h0]; simp [St.put]
  rw [if_neg h0, if_neg (c := j = 0) h0]
  by_cases h1 : j = 1
  · rw [if_pos h1, if_neg (by omega), if_pos h1]; rfl
  rw [if_neg h1, if_neg (c := j = 1) h1]
  by_cases h2 : j < 150
  · rw [if_pos h2, if_pos h2, hth, hcd]
    by_cases e : (j - 2) / 37 = t
    · rw [if_pos e, e, hy _ (by omega)]
      by_cases e2 : (j - 2) % 37 = k
      · rw [if_pos e2, if_pos (by omega)]
      · rw [if_neg e2, if_neg (by omega)]
    · rw [if_neg e, if_neg (by omega)]
  · rw [if_neg h2, if_neg (c := j < 150) h2, if_neg (c := j = 2 + t * 37 + k) (by omega)]; rfl

theorem thrNum_at (c : List Ins) (x : Thr) (n : Nat) : ∀ j, j < 37 → thrNum c { x with at_ := n } j = if j = 33 then (n : Int) else thrNum c x j := by
  intro j hj
  unfold thrNum
  dsimp only
  by_cases e : j = 33
  · subst e; simp
  · rw [if_neg e]; simp only [e, if_false]
theorem thrNum_fuel (c : List Ins) (x : Thr) (n : Nat) : ∀ j, j < 37 → thrNum c { x with fuel := n } j = if j = 34 then (n : Int) else thrNum c x j := by
  intro j hj
  unfold thrNum
  dsimp only
  by_cases e : j = 34
  · subst e; simp
  · rw [if_neg e]; simp only [e, if_false]
theorem thrNum_reg (c : List Ins) (x : Thr) (r : Nat) (n : Int) (hr : r < 2) (hl : x.r.length = 2) : ∀ j, j < 37 → thrNum c { x with r := x.r.set r n } j = if j = 35 + r then n else thrNum c x j := by
  intro j hj
  unfold thrNum
  dsimp only
  by_cases h1 : j < 35
  · rw [if_neg (c := j = 35 + r) (by omega)]
    by_cases a : j < 32
    · simp [a]
    · by_cases b : j = 32
      · simp [b]
      · by_cases c : j = 33
        · simp [c]
        · have : j = 34 := by omega
          simp [this]
  · have a1 : ¬ j < 32 := by omega
    have a2 : ¬ j = 32 := by omega
    have a3 : ¬ j = 33 := by omega
    have a4 : ¬ j = 34 := by omega
    simp only [a1, a2, a3, a4, if_false]
    rw [getD_set _ _ _ _ _ (by omega)]
    by_cases e : j = 35 + r
    · rw [if_pos (by omega), if_pos e]
    · rw [if_neg (by omega), if_neg e]

theorem stNum_setVar (s : St) (x : Nat) (n : Int) (hx : x < 4) (hl : s.v.length = 4) : ∀ j, j < 156 → stNum { s with v := s.v.set x n } j = if j = 150 + x then n else stNum s j := by
  intro j hj
  unfold stNum St.th St.code
  dsimp only
  by_cases h2 : j < 150
  · rw [if_neg (c := j = 150 + x) (by omega)]; simp only [h2, if_true]
  · rw [if_neg (by omega), if_neg (by omega), if_neg h2]
    by_cases h3 : j < 154
    · rw [if_pos h3, getD_set _ _ _ _ _ (by omega)]
      by_cases e : j = 150 + x
      · rw [if_pos (by omega), if_pos e]
      · rw [if_neg (by omega), if_neg e, if_neg (by omega), if_neg (by omega), if_neg h2, if_pos h3]
    · rw [if_neg h3, if_neg (c := j = 150 + x) (by omega), if_neg (by omega), if_neg (by omega), if_neg h2, if_neg h3]
theorem stNum_setWho (s : St) (x : Nat) (n : Int) (hx : x < 2) (hl : s.m.length = 2) : ∀ j, j < 156 → stNum { s with m := s.m.set x n } j = if j = 154 + x then n else stNum s j := by
  intro j hj
  unfold stNum St.th St.code
  dsimp only
  by_cases h3 : j < 154
  · rw [if_neg (c := j = 154 + x) (by omega)]; simp only [h3, if_true]
  · rw [if_neg (by omega), if_neg (by omega), if_neg (by omega), if_neg h3, getD_set _ _ _ _ _ (by omega)]
    by_cases e : j = 154 + x
    · rw [if_pos (by omega), if_pos e]
    · rw [if_neg (by omega), if_neg e, if_neg (by omega), if_neg (by omega), if_neg (by omega), if_neg h3]

theorem Only.stAt {b c : Nat} {w w' : World} {s : St} (h : Only b w w') (hs : StAt w c s) (hc : c ≠ b) : StAt w' c s := (h.block c hs.lt hc).trans hs

end Go.Proofs.Ytkphdmfcmfojeaa
