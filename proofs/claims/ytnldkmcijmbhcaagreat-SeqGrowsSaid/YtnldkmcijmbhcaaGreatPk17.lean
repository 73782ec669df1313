import Derived.Deep.WholeRow
import Derived.Maps.AppendAt
import Derived.Test.YtnldkmcijmbhcaaGreatPk01
import Derived.Test.YtnldkmcijmbhcaaGreatPk05
import Derived.Test.YtnldkmcijmbhcaaGreatPk16

/- The contract of New. -/
namespace Go.Proofs.YtnldkmcijmbhcaaGreat
open Go.RowKit

/-- A new state, or none. -/
def NewR (p : Pg) (fuel : Int) (w : World) (r : Ending) (w' : World) : Prop :=
  if rightPg p = true ∧ 0 ≤ fuel ∧ fuel ≤ 8 then ∃ g, r = .returned (.tuple #[.pointer (some ⟨g, 0, none⟩), .int .i64 0]) ∧ w.heap.size ≤ g ∧ StAt w' g (St.new p fuel.toNat) ∧ Below w.heap.size w w'
  else r = .returned (.tuple #[.pointer none, .int .i64 1]) ∧ Below w.heap.size w w'

set_option maxRecDepth 100000 in
set_option maxHeartbeats 2000000 in
theorem new_no (p : Pg) (a : Option Addr) (cap : Nat) (fuel : Int) (w : World) (hp : ThreadsAt w a p.threads) (hr : rightPg p = false) :
    Calls Tryz.prog 19 #[.agg #[.int .i64 p.vars, .int .i64 p.mutexes, .slice a p.threads.length cap], .int .i64 fuel] w fun r w' => r = .returned (.tuple #[.pointer none, .int .i64 1]) ∧ Below w.heap.size w w' := by
  have HR := Lib.hid hr
  have HP := Lib.hid hp
  clear hr hp
  go_enter Tryz.func19, Tryz.ntmps19
  go_wp2_with fail
  refine (right_any p a cap _ (HP.out.later (below_alloc1 w _))).mono ?_
  rw [HR.out]
  rintro r w1 ⟨rfl, hb⟩
  have hb1 : Below w.heap.size w w1 := (below_alloc1 w _).trans (hb.mono (by simp))
  clear hb
  go_wp2
  go_ret2
  exact ⟨rfl, hb1⟩

set_option maxRecDepth 100000 in
set_option maxHeartbeats 2000000 in
theorem new_fuel (p : Pg) (a : Option Addr) (cap : Nat) (fuel : Int) (w : World) (hp : ThreadsAt w a p.threads) (hr : rightPg p = true) (hf : belowB fuel 9 = false) :
    Calls Tryz.prog 19 #[.agg #[.int .i64 p.vars, .int .i64 p.mutexes, .slice a p.threads.length cap], .int .i64 fuel] w fun r w' => r = .returned (.tuple #[.pointer none, .int .i64 1]) ∧ Below w.heap.size w w' := by
  have HR := Lib.hid hr
  have HP := Lib.hid hp
  clear hr hp
  go_enter Tryz.func19, Tryz.ntmps19
  go_wp2_with fail
  refine (right_any p a cap _ (HP.out.later (below_alloc1 w _))).mono ?_
  rw [HR.out]
  rintro r w1 ⟨rfl, hb⟩
  have hb1 : Below w.heap.size w w1 := (below_alloc1 w _).trans (hb.mono (by simp))
  clear hb
  go_wp2_with (go_at_call 35; refine (sbelow_any _ _ _).mono ?_; rintro r w' ⟨rfl, rfl⟩)
  go_ret2
  exact ⟨rfl, hb1⟩

theorem zero_state : ∃ Z : Array Value, Z = numA (fun _ => 0) ∧ ∀ w, (zeroValue 92).run Tryz.prog w = .ok (.agg Z) w :=
  ⟨_, rfl, (zero_of_info (P := Tryz.prog) (t := 92) (v := .agg (numA fun _ => 0)) (n := 156) (by kernel_rfl)).1⟩

set_option maxRecDepth 100000 in
set_option maxHeartbeats 4000000 in
theorem new_yes (p : Pg) (a : Option Addr) (cap F : Nat) (w : World) (hp : ThreadsAt w a p.threads) (hr : rightPg p = true) (hF : F ≤ 8) :
    Calls Tryz.prog 19 #[.agg #[.int .i64 p.vars, .int .i64 p.mutexes, .slice a p.threads.length cap], .int .i64 F] w
      fun r w' => ∃ g, r = .returned (.tuple #[.pointer (some ⟨g, 0, none⟩), .int .i64 0]) ∧ w.heap.size ≤ g ∧ StAt w' g (St.new p F) ∧ Below w.heap.size w w' := by
  have hf : belowB F 9 = true := by simp [belowB]; omega
  have hn4 : p.threads.length ≤ 4 := by
    unfold rightPg at hr
    rw [Bool.and_eq_true, decide_eq_true_eq] at hr
    omega
  have HR := Lib.hid hr
  have HP := Lib.hid hp
  obtain ⟨Z, hZ, hzv⟩ := zero_state
  have hne : ¬ Z = #[] := fun e => by have := congrArg Array.size e; rw [hZ, numA_size] at this; simp at this
  have hsz : Z.size = 156 := by rw [hZ, numA_size]
  have hset : (Z.setIfInBounds 0 (.int .i64 p.threads.length)).setIfInBounds 1 (.int .i64 p.mutexes) = numA (newNum p F 0) := by
    rw [hZ, numA_set (fun _ => 0) (fun j => if j = 0 then (p.threads.length : Int) else 0) 0 _ (by omega) (fun j _ => rfl)]
    refine numA_set _ _ 1 _ (by omega) (fun j _ => ?_)
    rw [newNum_zero]
    by_cases h0 : j = 0
    · simp [h0]
    · simp [h0]
  clear hZ
  clear hr hp
  go_enter Tryz.func19, Tryz.ntmps19
  go_wp2_with fail
  refine (right_any p a cap _ (HP.out.later (below_alloc1 w _))).mono ?_
  rw [HR.out]
  rintro r w1 ⟨rfl, hb⟩
  have hb1 : Below w.heap.size w w1 := (below_alloc1 w _).trans (hb.mono (by simp))
  have hc : ∀ o, w1.cell? ⟨w.heap.size, o, none⟩ = (w.alloc (.cells #[.int .i64 p.vars, .int .i64 p.mutexes, .slice a p.threads.length cap] 24)).cell? ⟨w.heap.size, o, none⟩ := fun o => hb.cell (p := ⟨w.heap.size, o, none⟩) (by simp)
  have hz : w.heap.size < w1.heap.size := by have := hb.size; simp at this; omega
  clear hb
  go_wp2_with (go_at_call 35; refine (sbelow_any _ _ _).mono ?_; rintro r w' ⟨rfl, rfl⟩)
  clear hset hsz hne hzv hc hf
  go_loopw [29] (fun i wr => ∃ k : Nat, k ≤ p.threads.length ∧ i = .int .i64 k ∧ NumAt wr w1.heap.size (newNum p F k) ∧ Below w1.heap.size w1 wr) (fun i _ => p.threads.length - (intOf i).toNat)
  case atStart => exact ⟨0, Nat.zero_le _, rfl, heap_alloc_last w1 _, below_alloc1 _ _⟩
  case round =>
    obtain ⟨k, hk, rfl, hnum, hb2⟩ := hrel
    by_cases hlt : k < p.threads.length
    · obtain ⟨b, o, rfl, hc⟩ := HP.out.2 (by intro e; simp [e] at hlt)
      obtain ⟨c, ccap, c0, c1, _⟩ := hc k hlt
      have hbw : Below w.heap.size w wr := hb1.trans (hb2.mono (by omega))
      have d0 := cell_later hbw c0
      have D1 := c1.later hbw
      have h8 := (rightPg_code HR.out hlt).1
      obtain ⟨f1, hf1⟩ : ∃ f1 : Nat → Int, ∀ j, f1 j = if 2 + k * 37 ≤ j ∧ j < 2 + k * 37 + p.threads[k].length * 4 then insNum (p.threads[k].getD ((j - (2 + k * 37)) / 4) ins0) ((j - (2 + k * 37)) % 4) else newNum p F k j := ⟨_, fun _ => rfl⟩
      have hcp := run_copy_code wr w1.heap.size (2 + k * 37) _ f1 hnum c ccap p.threads[k] D1 h8 (by omega) (fun j _ => hf1 j)
      have hn1 : NumAt (wr.setRow w1.heap.size (numA f1)) w1.heap.size f1 := setRow_heap wr _ _ _ _ _ hnum
      have hbs : Below w1.heap.size w1 (wr.setRow w1.heap.size (numA f1)) := hb2.trans ⟨rfl, rfl, rfl, by simp, fun q hq => setRow_other _ _ _ _ (by omega)⟩
      generalize wr.setRow w1.heap.size (numA f1) = W1 at *
      have hn2 : NumAt (W1.setCell ⟨w1.heap.size, 2 + k * 37 + 32, none⟩ (.int .i64 p.threads[k].length)) w1.heap.size (fun j => if j = 2 + k * 37 + 32 then (p.threads[k].length : Int) else f1 j) := hn1.set _ _ _ (by omega) (fun j _ => rfl)
      have hn3 : NumAt ((W1.setCell ⟨w1.heap.size, 2 + k * 37 + 32, none⟩ (.int .i64 p.threads[k].length)).setCell ⟨w1.heap.size, 2 + k * 37 + 34, none⟩ (.int .i64 F)) w1.heap.size (newNum p F (k + 1)) :=
        hn2.set _ _ _ (by omega) (newNum_succ p F k hlt hn4 h8 f1 _ (fun j _ => hf1 j) (fun j _ => rfl))
      have hb3 : Below w1.heap.size w1 ((W1.setCell ⟨w1.heap.size, 2 + k * 37 + 32, none⟩ (.int .i64 p.threads[k].length)).setCell ⟨w1.heap.size, 2 + k * 37 + 34, none⟩ (.int .i64 F)) := (hbs.setCell (p := ⟨w1.heap.size, 2 + k * 37 + 32, none⟩) (Nat.le_refl _) _).setCell (p := ⟨w1.heap.size, 2 + k * 37 + 34, none⟩) (Nat.le_refl _) _
      have e0 := hn1.cell (2 + k * 37 + 32) (by omega)
      have e1 := hn1.frozen (2 + k * 37 + 32)
      have e2 := hn1.cell (2 + k * 37 + 34) (by omega)
      have e3 := hn1.frozen (2 + k * 37 + 34)
      have HN3 := Lib.hid hn3
      have hk4 : k < 4 := by omega
      clear c0 c1 hc D1 hf1 hn1 hn2 hn3 hbs hnum hb2 hbw
      go_wp2
      go_roundw
      case rel => exact ⟨k + 1, by omega, by go_num, HN3.out, hb3⟩
      case measure => simp [intOf]; omega
    · obtain rfl : k = p.threads.length := by omega
      have hnum2 : NumAt wr w1.heap.size (newNum2 p F 0) := by
        unfold NumAt
        rw [← numA_congr _ _ (newNum_all p F)]
        exact hnum
      clear hnum
      go_wp2
      go_loopw [53] (fun i wq => ∃ k : Nat, k ≤ 2 ∧ i = .int .i64 k ∧ NumAt wq w1.heap.size (newNum2 p F k) ∧ Below w1.heap.size w1 wq) (fun i _ => 2 - (intOf i).toNat)
      case atStart => exact ⟨0, by omega, rfl, hnum2, hb2⟩
      case round =>
        clear hnum2 hb2
        obtain ⟨k, hk, rfl, hnum, hb2⟩ := hrel
        by_cases hlt : k < 2
        · have e0 := hnum.cell (154 + k) (by omega)
          have e1 := hnum.frozen (154 + k)
          have HN := Lib.hid (hnum.set _ (154 + k) (-1) (by omega) (newNum2_succ p F k hlt))
          have hb3 := hb2.setCell (p := ⟨w1.heap.size, 154 + k, none⟩) (Nat.le_refl _) (.int .i64 (-1))
          clear hnum hb2
          go_wp2
          go_roundw
          case rel => exact ⟨k + 1, by omega, by go_num, HN.out, hb3⟩
          case measure => simp [intOf]; omega
        · obtain rfl : k = 2 := by omega
          have HN : Hid (StAt wr w1.heap.size (St.new p F)) := by
            show _ = _
            rw [← numA_congr _ _ (newNum2_all p F)]
            exact hnum
          clear hnum
          go_wp2
          go_ret2
          exact ⟨_, rfl, by omega, HN.out, hb1.trans (hb2.mono (by omega))⟩

theorem new_any (p : Pg) (a : Option Addr) (cap : Nat) (fuel : Int) (w : World) (hp : ThreadsAt w a p.threads) :
    Calls Tryz.prog 19 #[.agg #[.int .i64 p.vars, .int .i64 p.mutexes, .slice a p.threads.length cap], .int .i64 fuel] w (NewR p fuel w) := by
  cases hr : rightPg p
  · refine (new_no p a cap fuel w hp hr).mono fun r w' h => ?_
    unfold NewR
    rw [if_neg (by simp [hr])]
    exact h
  · cases hf : belowB fuel 9
    · refine (new_fuel p a cap fuel w hp hr hf).mono fun r w' h => ?_
      unfold NewR
      rw [if_neg (by simp [belowB] at hf; omega)]
      exact h
    · have hf' : 0 ≤ fuel ∧ fuel < 9 := by simpa [belowB] using hf
      obtain ⟨F, rfl⟩ : ∃ F : Nat, fuel = F := ⟨fuel.toNat, by omega⟩
      refine (new_yes p a cap F w hp hr (by omega)).mono fun r w' h => ?_
      unfold NewR
      rw [if_pos ⟨hr, by omega, by omega⟩]
      exact h

end Go.Proofs.YtnldkmcijmbhcaaGreat

/- The contract of Explore. -/
namespace Go.Proofs.YtnldkmcijmbhcaaGreat
open Go.RowKit

/-- What Explore answers. -/
def ExplR (p : Pg) (fuel budget : Int) (order : List Int) (w : World) (r : Ending) (w' : World) : Prop :=
  (if okPg p fuel then ∃ v, r = .returned (.tuple #[.agg #[v, .int .i64 ((endX (s0 p fuel) order budget).nodes : Nat), .int .i64 ((endX (s0 p fuel) order budget).runs : Nat), .int .i64 ((endX (s0 p fuel) order budget).blocked : Nat), .bool (!anyX (endX (s0 p fuel) order budget))], .int .i64 0]) ∧ OwnRow w' w.heap.size 9 1 strCell v (sortK (endX (s0 p fuel) order budget).keys)
   else r = .returned (.tuple #[.agg #[.slice none 0 0, .int .i64 0, .int .i64 0, .int .i64 0, .bool false], .int .i64 1])) ∧ Below w.heap.size w w'
def exA2 (pv rv kv ov : Value) (x : Xp) (c : Bool) : Array Value := #[pv, rv, ov, .int .i64 (x.choices : Nat), kv, .int .i64 (x.nodes : Nat), .int .i64 (x.runs : Nat), .int .i64 (x.blocked : Nat), .bool c]
theorem own_lowR {T : Type} {f : T → List Value} {n : Nat} {w : World} {B A : Nat} {t : TypeId} {v : Value} {l : List T} (h : w.ownsRow B t n v l.length (cellsL f l)) (hA : A ≤ B) : OwnRow w A t n f v l := by
  obtain ⟨h1, h2 | ⟨g, cap, cur, h2, h3, h4⟩⟩ := h
  · exact ⟨h1, .inl h2⟩
  · exact ⟨h1, .inr ⟨g, cap, cur, h2, by omega, h4⟩⟩
/-- The worker's block at its end. -/
def XEnd (w : World) (xb : Nat) (pv rv kv ov : Value) (x : Xp) (c : Bool) : Prop := w.heap[xb]? = some (.cells (exA2 pv rv kv ov x c) 59 (0, 0))
theorem XEnd.cells {w : World} {xb : Nat} {pv rv kv ov : Value} {x : Xp} {c : Bool} (h : XEnd w xb pv rv kv ov x c) : w.cell? ⟨xb, 4, none⟩ = some kv ∧ w.cell? ⟨xb, 5, none⟩ = some (.int .i64 (x.nodes : Nat)) ∧ w.cell? ⟨xb, 6, none⟩ = some (.int .i64 (x.runs : Nat)) ∧ w.cell? ⟨xb, 7, none⟩ = some (.int .i64 (x.blocked : Nat)) ∧ w.cell? ⟨xb, 8, none⟩ = some (.bool c) := by
  refine ⟨?_, ?_, ?_, ?_, ?_⟩ <;> (rw [cell_of_row w xb _ _ _ _ h]; rfl)
theorem XEnd.frozen {w : World} {xb : Nat} {pv rv kv ov : Value} {x : Xp} {c : Bool} (h : XEnd w xb pv rv kv ov x c) (j : Nat) : w.frozen? ⟨xb, j, none⟩ = false := by simp [World.frozen?, show w.heap[xb]? = _ from h]
theorem XEnd.kept {w w' : World} {B xb n m : Nat} {v pv rv kv ov : Value} {xs : List Value} {x : Xp} {c : Bool} (h : XEnd w xb pv rv kv ov x c) (ho : w.ownsRow B 9 n v m xs) (hg : w.grownBy w' v.ownBlock) : XEnd w' xb pv rv kv ov x c := by
  refine (hg.block xb (Array.getElem?_eq_some_iff.1 h).1 fun e => ?_).trans h
  obtain ⟨_, cs, hcs⟩ := own_ty ho xb e.symm
  rw [show w.heap[xb]? = _ from h] at hcs
  injection hcs with hcs
  injection hcs with _ h2
  exact tyExSt h2

set_option maxRecDepth 100000 in
set_option maxHeartbeats 16000000 in
theorem explore_any (p : Pg) (a : Option Addr) (cap : Nat) (fuel budget : Int) (oa : Option Addr) (oc : Nat) (order : List Int) (w : World) (hp : ThreadsAt w a p.threads) (hord : BytesAt w oa order) (hob : ∀ x, oa = some x → x.block < w.heap.size) (hbs : ∀ n ∈ order, 0 ≤ n ∧ n < 256) (ho : order.length ≤ 1000) (hpre : okPg p fuel → preW p fuel ≤ 600) :
    Calls Tryz.prog 10 #[.agg #[.int .i64 p.vars, .int .i64 p.mutexes, .slice a p.threads.length cap], .int .i64 fuel, .int .i64 budget, .slice oa order.length oc] w (ExplR p fuel budget order w) := by
  have hb1 := below_alloc2 w (.cells #[.int .i64 p.vars, .int .i64 p.mutexes, .slice a p.threads.length cap] 24) (.cells #[.slice none 0 0, .int .i64 0, .int .i64 0, .int .i64 0, .bool false] 35)
  have hsz1 : ((w.alloc (.cells #[.int .i64 p.vars, .int .i64 p.mutexes, .slice a p.threads.length cap] 24)).alloc (.cells #[.slice none 0 0, .int .i64 0, .int .i64 0, .int .i64 0, .bool false] 35)).heap.size = w.heap.size + 2 := by simp [World.size_alloc]
  have HNEW := Lib.hid (new_any p a cap fuel _ (hp.later hb1))
  go_enter Tryz.func10, Tryz.ntmps10
  go_wp2_with fail
  refine HNEW.out.mono ?_
  rintro r W2 hn
  unfold NewR at hn
  obtain ⟨hcond, hb2⟩ : (if okPg p fuel then ∃ g, r = .returned (.tuple #[.pointer (some ⟨g, 0, none⟩), .int .i64 0]) ∧ w.heap.size ≤ g ∧ StAt W2 g (s0 p fuel) else r = .returned (.tuple #[.pointer none, .int .i64 1])) ∧ Below (w.heap.size + 2) ((w.alloc (.cells #[.int .i64 p.vars, .int .i64 p.mutexes, .slice a p.threads.length cap] 24)).alloc (.cells #[.slice none 0 0, .int .i64 0, .int .i64 0, .int .i64 0, .bool false] 35)) W2 := by
    rw [hsz1] at hn
    by_cases hok : okPg p fuel
    · rw [if_pos hok]
      have hok' : rightPg p = true ∧ 0 ≤ fuel ∧ fuel ≤ 8 := hok
      rw [if_pos hok'] at hn
      obtain ⟨g, h1, h2, h3, h4⟩ := hn
      exact ⟨⟨g, h1, by omega, h3⟩, h4⟩
    · rw [if_neg hok]
      have hok' : ¬ (rightPg p = true ∧ 0 ≤ fuel ∧ fuel ≤ 8) := hok
      rw [if_neg hok'] at hn
      exact hn
  have hrb : W2.heap[w.heap.size + 1]? = some (.cells #[.slice none 0 0, .int .i64 0, .int .i64 0, .int .i64 0, .bool false] 35 (0, 0)) := by
    rw [hb2.block _ (by omega)]
    have := heap_alloc_new (w.alloc (.cells #[.int .i64 p.vars, .int .i64 p.mutexes, .slice a p.threads.length cap] 24)) (.cells #[.slice none 0 0, .int .i64 0, .int .i64 0, .int .i64 0, .bool false] 35)
    rw [World.size_alloc] at this
    exact this
  have HB2 : Hid (Below w.heap.size w W2) := hb1.trans (hb2.mono (by omega))
  have hs2 : w.heap.size + 2 ≤ W2.heap.size := by have := hb2.size; rw [hsz1] at this; exact this
  have HRB := Lib.hid hrb
  have HORD := Lib.hid hord
  have HOB := Lib.hid hob
  have HBS := Lib.hid hbs
  have HPRE := Lib.hid hpre
  have HEX : Hid (∀ r w', ExplR p fuel budget order w r w' ↔ (if okPg p fuel then ∃ v, r = .returned (.tuple #[.agg #[v, .int .i64 ((endX (s0 p fuel) order budget).nodes : Nat), .int .i64 ((endX (s0 p fuel) order budget).runs : Nat), .int .i64 ((endX (s0 p fuel) order budget).blocked : Nat), .bool (!anyX (endX (s0 p fuel) order budget))], .int .i64 0]) ∧ OwnRow w' w.heap.size 9 1 strCell v (sortK (endX (s0 p fuel) order budget).keys)
   else r = .returned (.tuple #[.agg #[.slice none 0 0, .int .i64 0, .int .i64 0, .int .i64 0, .bool false], .int .i64 1])) ∧ Below w.heap.size w w') := fun r w' => Iff.rfl
  clear hn hb1 hsz1 hp hord hob hbs hpre HNEW hb2
  by_cases hok : okPg p fuel
  · rw [if_pos hok] at hcond
    obtain ⟨sg, rfl, hsg, hst⟩ := hcond
    have ok : (s0 p fuel).Ok fuel.toNat := new_ok hok.1 fuel.toNat (by have := hok.2; omega)
    have HOK := Lib.hid ok
    have HPG := Lib.hid hok
    have hpw := HPRE.out hok
    obtain ⟨T0, M0, C0, hI0⟩ := first_inv ok order
    have HI0 := Lib.hid hI0
    have hb3 := below_alloc1 W2 (.cells #[.slice none 0 0, .slice none 0 0, .slice oa order.length oc, .int .i64 0, .slice none 0 0, .int .i64 0, .int .i64 0, .int .i64 0, .bool false] 59)
    have HX3 : Hid (XM (W2.alloc (.cells #[.slice none 0 0, .slice none 0 0, .slice oa order.length oc, .int .i64 0, .slice none 0 0, .int .i64 0, .int .i64 0, .int .i64 0, .bool false] 59)) W2.heap.size W2.heap.size (.slice none 0 0) (.slice none 0 0) (.slice none 0 0) oa oc [] ⟨[], [], order, 0, [], 0, 0, 0⟩) :=
      ⟨Nat.le_refl _, heap_alloc_new W2 _, rfl, ownRow_nil _ _ _ _ _, ownRow_nil _ _ _ _ evCell, ownRow_nil _ _ _ _ _, bytes_below ((HORD.out)) HOB.out (HB2.out.trans (hb3.mono HB2.out.size)), fun x hx => Nat.lt_of_lt_of_le (HOB.out x hx) HB2.out.size, fun q hq => by cases hq⟩
    have HS3 := Lib.hid (StAt.later hst hb3)
    have HB3 : Hid (Below W2.heap.size W2 (W2.alloc (.cells #[.slice none 0 0, .slice none 0 0, .slice oa order.length oc, .int .i64 0, .slice none 0 0, .int .i64 0, .int .i64 0, .int .i64 0, .bool false] 59))) := hb3
    have HMK := Lib.hid (makeNode_any (F := fuel.toNat) (z := 0) HX3.out HB3.out.size HS3.out ok (by omega) rfl (by show 0 ≤ 100; omega) rfl (fun n hn => by cases hn) (by show 0 ≤ _; omega) (by show 0 ≤ _; omega) (by show 0 ≤ _; omega) (by show 0 ≤ _; omega) (by show 0 ≤ _; omega) ho HBS.out)
    have HOF : Hid (∀ W, Calls Tryz.prog 21 #[.slice none 0 0] W fun r w' => r = .returned (.int .u8 0) ∧ W = w') := fun W => of_any none 0 [] W ⟨by simp [maxLen], fun h => absurd rfl h⟩ (by simp)
    clear hst ok hok hb3 HX3 HS3 hI0
    obtain ⟨xb, hxb⟩ : ∃ xb, xb = W2.heap.size := ⟨_, rfl⟩
    go_wp2_with fail
    refine (HOF.out _).mono ?_
    rintro r w' ⟨rfl, rfl⟩
    go_wp2_with fail
    refine HMK.out.mono ?_
    rintro r W4 ⟨rfl, hx4, hb4⟩
    have HB4 : Hid (Below W2.heap.size W2 W4) := HB3.out.trans hb4
    have HE4 : Hid (ExR W2.heap.size xb oa oc (firstX (s0 p fuel) order) W4) := by rw [hxb]; exact hx4
    rw [← hxb]
    clear HMK HOF HB3 hx4 hb4 hxb
    have hn0 := first_nodes (s0 p fuel) order
    go_wp2_with fail
    go_loopw [28] (fun z wr => ∃ y : Xp, Hid (∃ T M C, InvX (s0 p fuel) y T M C) ∧ Hid (ExR W2.heap.size xb oa oc y wr) ∧ Hid (y.choices ≤ 2 * y.nodes) ∧ Hid (y.order = order) ∧ Hid (itX (budget.toNat - y.nodes) y = endX (s0 p fuel) order budget) ∧ Hid (Below W2.heap.size W2 wr)) (fun _ wr => 601 - (intOf ((wr.cell? ⟨xb, 5, none⟩).getD undef)).toNat)
    case atStart => exact ⟨_, ⟨_, _, _, HI0.out⟩, HE4.out, (by show _ ≤ _; have := ch_make ⟨[], [], order, 0, [], 0, 0, 0⟩ (s0 p fuel) 0; have h2 : (firstX (s0 p fuel) order).choices ≤ 0 + 1 := this; omega), ord_make _ _ _, (end_it _ _ _).symm, HB4.out⟩
    case round =>
      obtain ⟨y, HI, HE, HCH, HOY, HIT, HB⟩ := hrel
      obtain ⟨T, M, C, hI⟩ := HI.out
      obtain ⟨pv, rv, kv, ps, hX⟩ := HE.out
      have hBr : W2.heap.size ≤ wr.heap.size := HB.out.size
      obtain ⟨f1, f2, f3, f4⟩ := hI.facts HOK.out
      obtain ⟨n1, n2, n3, n4⟩ := hI.bounds HOK.out
      have hpl := hI.plen
      have HGB := Lib.hid (goBack_any hX hBr (by omega) (by omega) (by omega) (by omega) f4)
      have hyn := hX.cells.2.2.2.2.2.1
      have HIB := Lib.hid (hI.back)
      have HYN : Hid (wr.cell? ⟨xb, 5, none⟩ = some (.int .i64 (y.nodes : Nat))) := hyn
      clear hX f1 f2 f3 f4 hI HI HE hyn
      go_wp2_with fail
      refine HGB.out.mono ?_
      rintro r W5 ⟨rfl, hx5, hb5⟩
      have HE5 := Lib.hid hx5
      have HB5 : Hid (Below W2.heap.size W2 W5) := HB.out.trans hb5
      obtain ⟨g1, g2, g3, g4, g5, g6⟩ := back_same y
      clear HGB hx5 hb5 HB
      cases ha : anyX y
      · have HEQ : Hid (endX (s0 p fuel) order budget = backX y) := HIT.out.symm.trans (it_end (.inl ha))
        obtain ⟨pv5, rv5, kv5, ps5, hX5⟩ := HE5.out
        obtain ⟨f1, f2, f3, f4⟩ := HIB.out.facts HOK.out
        obtain ⟨p1, p2, p3, p4⟩ := HIB.out.bounds HOK.out
        have hpl2 := HIB.out.plen
        have HGB2 := Lib.hid (goBack_any hX5 HB5.out.size (by omega) (by omega) (by omega) (by omega) f4)
        have HEND := Lib.hid (end_part (order := order) (b := budget) HOK.out)
        rw [HEQ.out] at HEND
        have HANY : Hid (anyX (backX y) = anyX (endX (s0 p fuel) order budget)) := by show _ = _; rw [HEQ.out]
        have HZ := Lib.hid (back_same (backX y))
        clear hX5 f1 f2 f3 f4 hpl2 HIB HE5 HCH HOY HIT p1 p2 p3 g1 g2 g3 g4 g5 g6
        go_wp2_with fail
        refine HGB2.out.mono ?_
        rintro r W6 ⟨rfl, ⟨pv6, rv6, kv6, ps6, hX6⟩, hb6⟩
        have HB6 : Hid (Below W2.heap.size W2 W6) := HB5.out.trans hb6
        obtain ⟨z1, z2, z3, z4, z5, z6⟩ := HZ.out
        have hks6 : (backX (backX y)).keys.length ≤ 600 := by rw [z3]; omega
        obtain ⟨ka, kc, rfl, _, _, _⟩ := OwnRow.form2 hX6.keys strCell_len (by omega)
        obtain ⟨kn, hkn⟩ : ∃ kn, kn = (backX (backX y)).keys.length := ⟨_, rfl⟩
        rw [← hkn] at hX6
        have q4 := hX6.cells.2.2.2.2.1
        have q8 := hX6.cells.2.2.2.2.2.2.2.2
        have g8 := hX6.frozen 8
        obtain ⟨c, hc⟩ : ∃ c, c = anyX (backX y) := ⟨_, rfl⟩
        rw [← hc]
        have hgx := grown_set W6 xb 8 (.bool (!c))
        have HE7 : Hid (XEnd (W6.setCell ⟨xb, 8, none⟩ (.bool (!c))) xb pv6 rv6 (.slice ka kn kc) (.slice oa (backX (backX y)).order.length oc) (backX (backX y)) (!c)) := heap_setCell_same W6 xb 8 _ _ _ hX6.blk
        have HK7 : Hid (OwnRow (W6.setCell ⟨xb, 8, none⟩ (.bool (!c))) W2.heap.size 9 1 strCell (.slice ka kn kc) (backX (backX y)).keys) := own_keptT hX6.keys hgx hX6.ty (Ne.symm tyExSt)
        have HB7 : Hid (Below W2.heap.size W2 (W6.setCell ⟨xb, 8, none⟩ (.bool (!c)))) := HB6.out.setCell (p := ⟨xb, 8, none⟩) hX6.low _
        have HLO : Hid (W2.heap.size ≤ xb) := hX6.low
        have HSO := Lib.hid (sort_own HK7.out (by omega))
        obtain ⟨r4, _⟩ := HE7.out.cells
        have HCC := Lib.hid hc
        have HKN := Lib.hid hkn
        clear hX6 HGB2 hb6 hgx hc hkn HB5 HB6
        generalize hW7 : W6.setCell ⟨xb, 8, none⟩ (.bool (!c)) = W7 at *
        go_wp2_with fail
        refine HSO.out.mono ?_
        rintro r W8 ⟨rfl, hk8, hg8⟩
        clear q4 q8 g8 hW7
        have HE8 := Lib.hid (HE7.out.kept HK7.out hg8)
        have hnd8 : ((backX (backX y)).keys.mergeSort fun x y => decide (x ≤ y)).Nodup := by
          rw [(List.mergeSort_perm _ _).nodup_iff, z3]
          exact HEND.out.2.2.1
        have HB8 : Hid (Below W2.heap.size W2 W8) := HB7.out.trans (below_keptT hg8 (own_ty HK7.out) HB7.out.size)
        have HCO := Lib.hid (compact_own hk8 (by rw [keys_len]; omega) hnd8)
        obtain ⟨s4, _⟩ := HE8.out.cells
        clear HSO HE7 HK7 HB7 hg8 r4
        go_wp2_with fail
        refine HCO.out.mono ?_
        rintro r W9 ⟨rfl, hk9, hg9⟩
        have HE9 := Lib.hid (HE8.out.kept hk8 hg9)
        have HB9 : Hid (Below W2.heap.size W2 W9) := HB8.out.trans (below_keptT hg9 (own_ty hk8) HB8.out.size)
        obtain ⟨t4, t5, t6, t7, t8⟩ := HE9.out.cells
        have u4 := HE9.out.frozen 4
        have HE10 : Hid (XEnd (W9.setCell ⟨xb, 4, none⟩ (.slice ka kn kc)) xb pv6 rv6 (.slice ka kn kc) (.slice oa (backX (backX y)).order.length oc) (backX (backX y)) (!c)) := heap_setCell_same W9 xb 4 _ _ _ HE9.out
        have HT9 : Ty W9 W2.heap.size (some xb) 59 := by
          intro r hr
          injection hr with hr
          subst hr
          exact ⟨HLO.out, _, HE9.out⟩
        have HK10 : Hid (OwnRow (W9.setCell ⟨xb, 4, none⟩ (.slice ka kn kc)) W2.heap.size 9 1 strCell (.slice ka kn kc) ((backX (backX y)).keys.mergeSort fun x y => decide (x ≤ y))) := own_keptT hk9 (grown_set W9 xb 4 _) HT9 (Ne.symm tyExSt)
        have HB10 : Hid (Below W2.heap.size W2 (W9.setCell ⟨xb, 4, none⟩ (.slice ka kn kc))) := HB9.out.setCell (p := ⟨xb, 4, none⟩) HLO.out _
        have hrb10 : (W9.setCell ⟨xb, 4, none⟩ (.slice ka kn kc)).heap[w.heap.size + 1]? = some (.cells #[.slice none 0 0, .int .i64 0, .int .i64 0, .int .i64 0, .bool false] 35 (0, 0)) := (HB10.out.block _ (by omega)).trans hrb
        obtain ⟨v4, v5, v6, v7, v8⟩ := HE10.out.cells
        rw [z1] at v5
        rw [z2] at v6
        rw [z4] at v7
        clear HCO hk8 hg9 hk9 HT9 s4 HE9 HB9 HE8 HB8 hnd8 t5 t6 t7 t8 z1 z2 z4 z5 z6 HZ
        generalize hW10 : W9.setCell ⟨xb, 4, none⟩ (.slice ka kn kc) = W10 at *
        have hr := fun j => cell_of_row W10 (w.heap.size + 1) j _ _ _ hrb10
        have x0 : W10.cell? ⟨w.heap.size + 1, 0, none⟩ = some (.slice none 0 0) := hr 0
        have x1 : W10.cell? ⟨w.heap.size + 1, 1, none⟩ = some (.int .i64 0) := hr 1
        have x2 : W10.cell? ⟨w.heap.size + 1, 2, none⟩ = some (.int .i64 0) := hr 2
        have x3 : W10.cell? ⟨w.heap.size + 1, 3, none⟩ = some (.int .i64 0) := hr 3
        have x4 : W10.cell? ⟨w.heap.size + 1, 4, none⟩ = some (.bool false) := hr 4
        have hf : ∀ j, W10.frozen? ⟨w.heap.size + 1, j, none⟩ = false := fun j => by simp [World.frozen?, hrb10]
        have k0 := hf 0
        have k1 := hf 1
        have k2 := hf 2
        have k3 := hf 3
        have k4 := hf 4
        generalize hNN : (backX y).nodes = NN at *
        generalize hRR : (backX y).runs = RR at *
        generalize hBB : (backX y).blocked = BB at *
        have HFB : Hid (Below w.heap.size w (((((W10.setCell ⟨w.heap.size + 1, 0, none⟩ (.slice ka kn kc)).setCell ⟨w.heap.size + 1, 1, none⟩ (.int .i64 (NN : Int))).setCell ⟨w.heap.size + 1, 2, none⟩ (.int .i64 (RR : Int))).setCell ⟨w.heap.size + 1, 3, none⟩ (.int .i64 (BB : Int))).setCell ⟨w.heap.size + 1, 4, none⟩ (.bool (!c)))) :=
          (((((HB2.out.trans (HB10.out.mono HB2.out.size)).setCell (p := ⟨w.heap.size + 1, 0, none⟩) (by show _ ≤ w.heap.size + 1; omega) _).setCell (p := ⟨w.heap.size + 1, 1, none⟩) (by show _ ≤ w.heap.size + 1; omega) _).setCell (p := ⟨w.heap.size + 1, 2, none⟩) (by show _ ≤ w.heap.size + 1; omega) _).setCell (p := ⟨w.heap.size + 1, 3, none⟩) (by show _ ≤ w.heap.size + 1; omega) _).setCell (p := ⟨w.heap.size + 1, 4, none⟩) (by show _ ≤ w.heap.size + 1; omega) _
        have hlr : w.heap.size + 1 < W2.heap.size := by omega
        have HFK : Hid (OwnRow (((((W10.setCell ⟨w.heap.size + 1, 0, none⟩ (.slice ka kn kc)).setCell ⟨w.heap.size + 1, 1, none⟩ (.int .i64 (NN : Int))).setCell ⟨w.heap.size + 1, 2, none⟩ (.int .i64 (RR : Int))).setCell ⟨w.heap.size + 1, 3, none⟩ (.int .i64 (BB : Int))).setCell ⟨w.heap.size + 1, 4, none⟩ (.bool (!c))) w.heap.size 9 1 strCell (.slice ka kn kc) (sortK (endX (s0 p fuel) order budget).keys)) := by
          have h1 := ownsRow_setCell_below (ownsRow_setCell_below (ownsRow_setCell_below (ownsRow_setCell_below (ownsRow_setCell_below HK10.out (a := ⟨w.heap.size + 1, 0, none⟩) hlr (.slice ka kn kc)) (a := ⟨w.heap.size + 1, 1, none⟩) hlr (.int .i64 (NN : Int))) (a := ⟨w.heap.size + 1, 2, none⟩) hlr (.int .i64 (RR : Int))) (a := ⟨w.heap.size + 1, 3, none⟩) hlr (.int .i64 (BB : Int))) (a := ⟨w.heap.size + 1, 4, none⟩) hlr (.bool (!c))
          have h2 := own_lowR (A := w.heap.size) h1 (by omega)
          rw [HEQ.out, keys_sorted HEND.out.2.2.1, ← z3]
          exact h2
        have HFR : Hid (Ending.returned (.tuple #[.agg #[.slice ka kn kc, .int .i64 (NN : Int), .int .i64 (RR : Int), .int .i64 (BB : Int), .bool (!c)], .int .i64 0]) = .returned (.tuple #[.agg #[.slice ka kn kc, .int .i64 ((endX (s0 p fuel) order budget).nodes : Nat), .int .i64 ((endX (s0 p fuel) order budget).runs : Nat), .int .i64 ((endX (s0 p fuel) order budget).blocked : Nat), .bool (!anyX (endX (s0 p fuel) order budget))], .int .i64 0])) := by
          show _ = _
          rw [HCC.out, HANY.out, HEQ.out, hNN, hRR, hBB]
        have hh4 := heap_setCell_same _ (w.heap.size + 1) 4 _ _ (.bool (!c)) (heap_setCell_same _ (w.heap.size + 1) 3 _ _ (.int .i64 (BB : Int)) (heap_setCell_same _ (w.heap.size + 1) 2 _ _ (.int .i64 (RR : Int)) (heap_setCell_same _ (w.heap.size + 1) 1 _ _ (.int .i64 (NN : Int)) (heap_setCell_same W10 (w.heap.size + 1) 0 _ _ (.slice ka kn kc) hrb10))))
        have hh5 : (((((W10.setCell ⟨w.heap.size + 1, 0, none⟩ (.slice ka kn kc)).setCell ⟨w.heap.size + 1, 1, none⟩ (.int .i64 (NN : Int))).setCell ⟨w.heap.size + 1, 2, none⟩ (.int .i64 (RR : Int))).setCell ⟨w.heap.size + 1, 3, none⟩ (.int .i64 (BB : Int))).setCell ⟨w.heap.size + 1, 4, none⟩ (.bool (!c))).heap[w.heap.size + 1]? = some (.cells #[.slice ka kn kc, .int .i64 (NN : Int), .int .i64 (RR : Int), .int .i64 (BB : Int), .bool (!c)] 35 (0, 0)) := hh4
        have hy := fun j => cell_of_row _ (w.heap.size + 1) j _ _ _ hh5
        have y0 : (((((W10.setCell ⟨w.heap.size + 1, 0, none⟩ (.slice ka kn kc)).setCell ⟨w.heap.size + 1, 1, none⟩ (.int .i64 (NN : Int))).setCell ⟨w.heap.size + 1, 2, none⟩ (.int .i64 (RR : Int))).setCell ⟨w.heap.size + 1, 3, none⟩ (.int .i64 (BB : Int))).setCell ⟨w.heap.size + 1, 4, none⟩ (.bool (!c))).cell? ⟨w.heap.size + 1, 0, none⟩ = some (.slice ka kn kc) := hy 0
        have y1 : (((((W10.setCell ⟨w.heap.size + 1, 0, none⟩ (.slice ka kn kc)).setCell ⟨w.heap.size + 1, 1, none⟩ (.int .i64 (NN : Int))).setCell ⟨w.heap.size + 1, 2, none⟩ (.int .i64 (RR : Int))).setCell ⟨w.heap.size + 1, 3, none⟩ (.int .i64 (BB : Int))).setCell ⟨w.heap.size + 1, 4, none⟩ (.bool (!c))).cell? ⟨w.heap.size + 1, 1, none⟩ = some (.int .i64 (NN : Int)) := hy 1
        have y2 : (((((W10.setCell ⟨w.heap.size + 1, 0, none⟩ (.slice ka kn kc)).setCell ⟨w.heap.size + 1, 1, none⟩ (.int .i64 (NN : Int))).setCell ⟨w.heap.size + 1, 2, none⟩ (.int .i64 (RR : Int))).setCell ⟨w.heap.size + 1, 3, none⟩ (.int .i64 (BB : Int))).setCell ⟨w.heap.size + 1, 4, none⟩ (.bool (!c))).cell? ⟨w.heap.size + 1, 2, none⟩ = some (.int .i64 (RR : Int)) := hy 2
        have y3 : (((((W10.setCell ⟨w.heap.size + 1, 0, none⟩ (.slice ka kn kc)).setCell ⟨w.heap.size + 1, 1, none⟩ (.int .i64 (NN : Int))).setCell ⟨w.heap.size + 1, 2, none⟩ (.int .i64 (RR : Int))).setCell ⟨w.heap.size + 1, 3, none⟩ (.int .i64 (BB : Int))).setCell ⟨w.heap.size + 1, 4, none⟩ (.bool (!c))).cell? ⟨w.heap.size + 1, 3, none⟩ = some (.int .i64 (BB : Int)) := hy 3
        have y4 : (((((W10.setCell ⟨w.heap.size + 1, 0, none⟩ (.slice ka kn kc)).setCell ⟨w.heap.size + 1, 1, none⟩ (.int .i64 (NN : Int))).setCell ⟨w.heap.size + 1, 2, none⟩ (.int .i64 (RR : Int))).setCell ⟨w.heap.size + 1, 3, none⟩ (.int .i64 (BB : Int))).setCell ⟨w.heap.size + 1, 4, none⟩ (.bool (!c))).cell? ⟨w.heap.size + 1, 4, none⟩ = some (.bool (!c)) := hy 4
        clear HE10 HK10 HB10 hr hf hrb10 z3 HEND hNN hRR hBB hh4 hh5 hy
        go_wp2_with fail
        generalize (((((W10.setCell ⟨w.heap.size + 1, 0, none⟩ (.slice ka kn kc)).setCell ⟨w.heap.size + 1, 1, none⟩ (.int .i64 (NN : Int))).setCell ⟨w.heap.size + 1, 2, none⟩ (.int .i64 (RR : Int))).setCell ⟨w.heap.size + 1, 3, none⟩ (.int .i64 (BB : Int))).setCell ⟨w.heap.size + 1, 4, none⟩ (.bool (!c))) = W11 at *
        clear x0 x1 x2 x3 x4 k0 k1 k2 k3 k4 v4 v5 v6 v7 v8
        refine bodyPost_ret (v := .tuple #[.agg #[.slice ka kn kc, .int .i64 (NN : Int), .int .i64 (RR : Int), .int .i64 (BB : Int), .bool (!c)], .int .i64 0]) (by simp [results, Tryz.results10, go_sem, y0, y1, y2, y3, y4]) rfl ?_
        exact (HEX.out _ _).2 ⟨by rw [if_pos HPG.out]; exact ⟨_, HFR.out, HFK.out⟩, HFB.out⟩
      · obtain ⟨pv5, rv5, kv5, ps5, hX5⟩ := HE5.out
        have c5 : W5.cell? ⟨xb, 5, none⟩ = some (.int .i64 (y.nodes : Nat)) := by rw [← g1]; exact hX5.cells.2.2.2.2.2.1
        by_cases hlt : (y.nodes : Int) < budget
        · obtain ⟨e, s1, hst, hri⟩ := HIB.out.goes HOK.out (back_last ha)
          obtain ⟨f1, f2, f3, f4⟩ := HIB.out.facts HOK.out
          have hpl2 := HIB.out.plen
          have hch := HCH.out
          have hoy := HOY.out
          have HGO := Lib.hid (goOn_any hX5 HB5.out.size hpl2 (by omega) hri f3 f4 (back_last ha) hst (by rw [g6]; omega) (by rw [g1]; omega) (by rw [g2]; omega) (by rw [g4]; omega) (by rw [g3]; omega) (by rw [g5, hoy]; exact ho) (by rw [g5, hoy]; exact HBS.out))
          obtain ⟨T1, M1, C1, hI1⟩ := HIB.out.go HOK.out (back_last ha)
          have HI1 := Lib.hid hI1
          have HC1 : Hid ((goX (backX y)).choices ≤ 2 * (goX (backX y)).nodes) := by
            show _ ≤ _
            have h1 := ch_go (backX y)
            rw [go_nodes]
            omega
          have HO1 : Hid ((goX (backX y)).order = order) := by show _ = _; rw [ord_go, g5]; exact hoy
          have HT1 : Hid (itX (budget.toNat - (goX (backX y)).nodes) (goX (backX y)) = endX (s0 p fuel) order budget) := by
            show _ = _
            rw [← it_step ha (by omega)]
            exact HIT.out
          have HN1 : Hid ((goX (backX y)).nodes = y.nodes + 1) := by show _ = _; rw [go_nodes, g1]
          clear hX5 hst hri f1 f2 f3 f4 hpl2 hch hoy hI1 HCH HOY HIT HIB HE5 g1 g2 g3 g4 g5 g6
          go_wp2_with fail
          refine HGO.out.mono ?_
          rintro r W6 ⟨rfl, hx6, hb6⟩
          have HE6 := Lib.hid hx6
          have HB6 : Hid (Below W2.heap.size W2 W6) := HB5.out.trans hb6
          have HM6 : Hid (W6.cell? ⟨xb, 5, none⟩ = some (.int .i64 ((y.nodes + 1 : Nat) : Int))) := by
            obtain ⟨_, _, _, _, h9⟩ := hx6
            rw [← HN1.out]
            exact h9.cells.2.2.2.2.2.1
          clear HGO hx6 hb6 c5
          go_wp2
          go_roundw
          case rel => exact ⟨goX (backX y), ⟨_, _, _, HI1.out⟩, HE6, HC1, HO1, HT1, HB6⟩
          case measure =>
            rw [HM6.out, HYN.out]
            simp [intOf]
            omega
        · have HEQ : Hid (endX (s0 p fuel) order budget = backX y) := HIT.out.symm.trans (it_end (.inr (by omega)))
          obtain ⟨f1, f2, f3, f4⟩ := HIB.out.facts HOK.out
          obtain ⟨p1, p2, p3, p4⟩ := HIB.out.bounds HOK.out
          have hpl2 := HIB.out.plen
          have HGB2 := Lib.hid (goBack_any hX5 HB5.out.size (by omega) (by omega) (by omega) (by omega) f4)
          have HEND := Lib.hid (end_part (order := order) (b := budget) HOK.out)
          rw [HEQ.out] at HEND
          have HANY : Hid (anyX (backX y) = anyX (endX (s0 p fuel) order budget)) := by show _ = _; rw [HEQ.out]
          have HZ := Lib.hid (back_same (backX y))
          clear hX5 f1 f2 f3 f4 hpl2 HIB HE5 HCH HOY HIT p1 p2 p3 g1 g2 g3 g4 g5 g6
          go_wp2_with fail
          refine HGB2.out.mono ?_
          rintro r W6 ⟨rfl, ⟨pv6, rv6, kv6, ps6, hX6⟩, hb6⟩
          have HB6 : Hid (Below W2.heap.size W2 W6) := HB5.out.trans hb6
          obtain ⟨z1, z2, z3, z4, z5, z6⟩ := HZ.out
          have hks6 : (backX (backX y)).keys.length ≤ 600 := by rw [z3]; omega
          obtain ⟨ka, kc, rfl, _, _, _⟩ := OwnRow.form2 hX6.keys strCell_len (by omega)
          obtain ⟨kn, hkn⟩ : ∃ kn, kn = (backX (backX y)).keys.length := ⟨_, rfl⟩
          rw [← hkn] at hX6
          have q4 := hX6.cells.2.2.2.2.1
          have q8 := hX6.cells.2.2.2.2.2.2.2.2
          have g8 := hX6.frozen 8
          obtain ⟨c, hc⟩ : ∃ c, c = anyX (backX y) := ⟨_, rfl⟩
          rw [← hc]
          have hgx := grown_set W6 xb 8 (.bool (!c))
          have HE7 : Hid (XEnd (W6.setCell ⟨xb, 8, none⟩ (.bool (!c))) xb pv6 rv6 (.slice ka kn kc) (.slice oa (backX (backX y)).order.length oc) (backX (backX y)) (!c)) := heap_setCell_same W6 xb 8 _ _ _ hX6.blk
          have HK7 : Hid (OwnRow (W6.setCell ⟨xb, 8, none⟩ (.bool (!c))) W2.heap.size 9 1 strCell (.slice ka kn kc) (backX (backX y)).keys) := own_keptT hX6.keys hgx hX6.ty (Ne.symm tyExSt)
          have HB7 : Hid (Below W2.heap.size W2 (W6.setCell ⟨xb, 8, none⟩ (.bool (!c)))) := HB6.out.setCell (p := ⟨xb, 8, none⟩) hX6.low _
          have HLO : Hid (W2.heap.size ≤ xb) := hX6.low
          have HSO := Lib.hid (sort_own HK7.out (by omega))
          obtain ⟨r4, _⟩ := HE7.out.cells
          have HCC := Lib.hid hc
          have HKN := Lib.hid hkn
          clear hX6 HGB2 hb6 hgx hc hkn HB5 HB6
          generalize hW7 : W6.setCell ⟨xb, 8, none⟩ (.bool (!c)) = W7 at *
          go_wp2_with fail
          refine HSO.out.mono ?_
          rintro r W8 ⟨rfl, hk8, hg8⟩
          clear q4 q8 g8 hW7
          have HE8 := Lib.hid (HE7.out.kept HK7.out hg8)
          have hnd8 : ((backX (backX y)).keys.mergeSort fun x y => decide (x ≤ y)).Nodup := by
            rw [(List.mergeSort_perm _ _).nodup_iff, z3]
            exact HEND.out.2.2.1
          have HB8 : Hid (Below W2.heap.size W2 W8) := HB7.out.trans (below_keptT hg8 (own_ty HK7.out) HB7.out.size)
          have HCO := Lib.hid (compact_own hk8 (by rw [keys_len]; omega) hnd8)
          obtain ⟨s4, _⟩ := HE8.out.cells
          clear HSO HE7 HK7 HB7 hg8 r4
          go_wp2_with fail
          refine HCO.out.mono ?_
          rintro r W9 ⟨rfl, hk9, hg9⟩
          have HE9 := Lib.hid (HE8.out.kept hk8 hg9)
          have HB9 : Hid (Below W2.heap.size W2 W9) := HB8.out.trans (below_keptT hg9 (own_ty hk8) HB8.out.size)
          obtain ⟨t4, t5, t6, t7, t8⟩ := HE9.out.cells
          have u4 := HE9.out.frozen 4
          have HE10 : Hid (XEnd (W9.setCell ⟨xb, 4, none⟩ (.slice ka kn kc)) xb pv6 rv6 (.slice ka kn kc) (.slice oa (backX (backX y)).order.length oc) (backX (backX y)) (!c)) := heap_setCell_same W9 xb 4 _ _ _ HE9.out
          have HT9 : Ty W9 W2.heap.size (some xb) 59 := by
            intro r hr
            injection hr with hr
            subst hr
            exact ⟨HLO.out, _, HE9.out⟩
          have HK10 : Hid (OwnRow (W9.setCell ⟨xb, 4, none⟩ (.slice ka kn kc)) W2.heap.size 9 1 strCell (.slice ka kn kc) ((backX (backX y)).keys.mergeSort fun x y => decide (x ≤ y))) := own_keptT hk9 (grown_set W9 xb 4 _) HT9 (Ne.symm tyExSt)
          have HB10 : Hid (Below W2.heap.size W2 (W9.setCell ⟨xb, 4, none⟩ (.slice ka kn kc))) := HB9.out.setCell (p := ⟨xb, 4, none⟩) HLO.out _
          have hrb10 : (W9.setCell ⟨xb, 4, none⟩ (.slice ka kn kc)).heap[w.heap.size + 1]? = some (.cells #[.slice none 0 0, .int .i64 0, .int .i64 0, .int .i64 0, .bool false] 35 (0, 0)) := (HB10.out.block _ (by omega)).trans hrb
          obtain ⟨v4, v5, v6, v7, v8⟩ := HE10.out.cells
          rw [z1] at v5
          rw [z2] at v6
          rw [z4] at v7
          clear HCO hk8 hg9 hk9 HT9 s4 HE9 HB9 HE8 HB8 hnd8 t5 t6 t7 t8 z1 z2 z4 z5 z6 HZ
          generalize hW10 : W9.setCell ⟨xb, 4, none⟩ (.slice ka kn kc) = W10 at *
          have hr := fun j => cell_of_row W10 (w.heap.size + 1) j _ _ _ hrb10
          have x0 : W10.cell? ⟨w.heap.size + 1, 0, none⟩ = some (.slice none 0 0) := hr 0
          have x1 : W10.cell? ⟨w.heap.size + 1, 1, none⟩ = some (.int .i64 0) := hr 1
          have x2 : W10.cell? ⟨w.heap.size + 1, 2, none⟩ = some (.int .i64 0) := hr 2
          have x3 : W10.cell? ⟨w.heap.size + 1, 3, none⟩ = some (.int .i64 0) := hr 3
          have x4 : W10.cell? ⟨w.heap.size + 1, 4, none⟩ = some (.bool false) := hr 4
          have hf : ∀ j, W10.frozen? ⟨w.heap.size + 1, j, none⟩ = false := fun j => by simp [World.frozen?, hrb10]
          have k0 := hf 0
          have k1 := hf 1
          have k2 := hf 2
          have k3 := hf 3
          have k4 := hf 4
          generalize hNN : (backX y).nodes = NN at *
          generalize hRR : (backX y).runs = RR at *
          generalize hBB : (backX y).blocked = BB at *
          have HFB : Hid (Below w.heap.size w (((((W10.setCell ⟨w.heap.size + 1, 0, none⟩ (.slice ka kn kc)).setCell ⟨w.heap.size + 1, 1, none⟩ (.int .i64 (NN : Int))).setCell ⟨w.heap.size + 1, 2, none⟩ (.int .i64 (RR : Int))).setCell ⟨w.heap.size + 1, 3, none⟩ (.int .i64 (BB : Int))).setCell ⟨w.heap.size + 1, 4, none⟩ (.bool (!c)))) :=
            (((((HB2.out.trans (HB10.out.mono HB2.out.size)).setCell (p := ⟨w.heap.size + 1, 0, none⟩) (by show _ ≤ w.heap.size + 1; omega) _).setCell (p := ⟨w.heap.size + 1, 1, none⟩) (by show _ ≤ w.heap.size + 1; omega) _).setCell (p := ⟨w.heap.size + 1, 2, none⟩) (by show _ ≤ w.heap.size + 1; omega) _).setCell (p := ⟨w.heap.size + 1, 3, none⟩) (by show _ ≤ w.heap.size + 1; omega) _).setCell (p := ⟨w.heap.size + 1, 4, none⟩) (by show _ ≤ w.heap.size + 1; omega) _
          have hlr : w.heap.size + 1 < W2.heap.size := by omega
          have HFK : Hid (OwnRow (((((W10.setCell ⟨w.heap.size + 1, 0, none⟩ (.slice ka kn kc)).setCell ⟨w.heap.size + 1, 1, none⟩ (.int .i64 (NN : Int))).setCell ⟨w.heap.size + 1, 2, none⟩ (.int .i64 (RR : Int))).setCell ⟨w.heap.size + 1, 3, none⟩ (.int .i64 (BB : Int))).setCell ⟨w.heap.size + 1, 4, none⟩ (.bool (!c))) w.heap.size 9 1 strCell (.slice ka kn kc) (sortK (endX (s0 p fuel) order budget).keys)) := by
            have h1 := ownsRow_setCell_below (ownsRow_setCell_below (ownsRow_setCell_below (ownsRow_setCell_below (ownsRow_setCell_below HK10.out (a := ⟨w.heap.size + 1, 0, none⟩) hlr (.slice ka kn kc)) (a := ⟨w.heap.size + 1, 1, none⟩) hlr (.int .i64 (NN : Int))) (a := ⟨w.heap.size + 1, 2, none⟩) hlr (.int .i64 (RR : Int))) (a := ⟨w.heap.size + 1, 3, none⟩) hlr (.int .i64 (BB : Int))) (a := ⟨w.heap.size + 1, 4, none⟩) hlr (.bool (!c))
            have h2 := own_lowR (A := w.heap.size) h1 (by omega)
            rw [HEQ.out, keys_sorted HEND.out.2.2.1, ← z3]
            exact h2
          have HFR : Hid (Ending.returned (.tuple #[.agg #[.slice ka kn kc, .int .i64 (NN : Int), .int .i64 (RR : Int), .int .i64 (BB : Int), .bool (!c)], .int .i64 0]) = .returned (.tuple #[.agg #[.slice ka kn kc, .int .i64 ((endX (s0 p fuel) order budget).nodes : Nat), .int .i64 ((endX (s0 p fuel) order budget).runs : Nat), .int .i64 ((endX (s0 p fuel) order budget).blocked : Nat), .bool (!anyX (endX (s0 p fuel) order budget))], .int .i64 0])) := by
            show _ = _
            rw [HCC.out, HANY.out, HEQ.out, hNN, hRR, hBB]
          have hh4 := heap_setCell_same _ (w.heap.size + 1) 4 _ _ (.bool (!c)) (heap_setCell_same _ (w.heap.size + 1) 3 _ _ (.int .i64 (BB : Int)) (heap_setCell_same _ (w.heap.size + 1) 2 _ _ (.int .i64 (RR : Int)) (heap_setCell_same _ (w.heap.size + 1) 1 _ _ (.int .i64 (NN : Int)) (heap_setCell_same W10 (w.heap.size + 1) 0 _ _ (.slice ka kn kc) hrb10))))
          have hh5 : (((((W10.setCell ⟨w.heap.size + 1, 0, none⟩ (.slice ka kn kc)).setCell ⟨w.heap.size + 1, 1, none⟩ (.int .i64 (NN : Int))).setCell ⟨w.heap.size + 1, 2, none⟩ (.int .i64 (RR : Int))).setCell ⟨w.heap.size + 1, 3, none⟩ (.int .i64 (BB : Int))).setCell ⟨w.heap.size + 1, 4, none⟩ (.bool (!c))).heap[w.heap.size + 1]? = some (.cells #[.slice ka kn kc, .int .i64 (NN : Int), .int .i64 (RR : Int), .int .i64 (BB : Int), .bool (!c)] 35 (0, 0)) := hh4
          have hy := fun j => cell_of_row _ (w.heap.size + 1) j _ _ _ hh5
          have y0 : (((((W10.setCell ⟨w.heap.size + 1, 0, none⟩ (.slice ka kn kc)).setCell ⟨w.heap.size + 1, 1, none⟩ (.int .i64 (NN : Int))).setCell ⟨w.heap.size + 1, 2, none⟩ (.int .i64 (RR : Int))).setCell ⟨w.heap.size + 1, 3, none⟩ (.int .i64 (BB : Int))).setCell ⟨w.heap.size + 1, 4, none⟩ (.bool (!c))).cell? ⟨w.heap.size + 1, 0, none⟩ = some (.slice ka kn kc) := hy 0
          have y1 : (((((W10.setCell ⟨w.heap.size + 1, 0, none⟩ (.slice ka kn kc)).setCell ⟨w.heap.size + 1, 1, none⟩ (.int .i64 (NN : Int))).setCell ⟨w.heap.size + 1, 2, none⟩ (.int .i64 (RR : Int))).setCell ⟨w.heap.size + 1, 3, none⟩ (.int .i64 (BB : Int))).setCell ⟨w.heap.size + 1, 4, none⟩ (.bool (!c))).cell? ⟨w.heap.size + 1, 1, none⟩ = some (.int .i64 (NN : Int)) := hy 1
          have y2 : (((((W10.setCell ⟨w.heap.size + 1, 0, none⟩ (.slice ka kn kc)).setCell ⟨w.heap.size + 1, 1, none⟩ (.int .i64 (NN : Int))).setCell ⟨w.heap.size + 1, 2, none⟩ (.int .i64 (RR : Int))).setCell ⟨w.heap.size + 1, 3, none⟩ (.int .i64 (BB : Int))).setCell ⟨w.heap.size + 1, 4, none⟩ (.bool (!c))).cell? ⟨w.heap.size + 1, 2, none⟩ = some (.int .i64 (RR : Int)) := hy 2
          have y3 : (((((W10.setCell ⟨w.heap.size + 1, 0, none⟩ (.slice ka kn kc)).setCell ⟨w.heap.size + 1, 1, none⟩ (.int .i64 (NN : Int))).setCell ⟨w.heap.size + 1, 2, none⟩ (.int .i64 (RR : Int))).setCell ⟨w.heap.size + 1, 3, none⟩ (.int .i64 (BB : Int))).setCell ⟨w.heap.size + 1, 4, none⟩ (.bool (!c))).cell? ⟨w.heap.size + 1, 3, none⟩ = some (.int .i64 (BB : Int)) := hy 3
          have y4 : (((((W10.setCell ⟨w.heap.size + 1, 0, none⟩ (.slice ka kn kc)).setCell ⟨w.heap.size + 1, 1, none⟩ (.int .i64 (NN : Int))).setCell ⟨w.heap.size + 1, 2, none⟩ (.int .i64 (RR : Int))).setCell ⟨w.heap.size + 1, 3, none⟩ (.int .i64 (BB : Int))).setCell ⟨w.heap.size + 1, 4, none⟩ (.bool (!c))).cell? ⟨w.heap.size + 1, 4, none⟩ = some (.bool (!c)) := hy 4
          clear HE10 HK10 HB10 hr hf hrb10 z3 HEND hNN hRR hBB hh4 hh5 hy
          go_wp2_with fail
          generalize (((((W10.setCell ⟨w.heap.size + 1, 0, none⟩ (.slice ka kn kc)).setCell ⟨w.heap.size + 1, 1, none⟩ (.int .i64 (NN : Int))).setCell ⟨w.heap.size + 1, 2, none⟩ (.int .i64 (RR : Int))).setCell ⟨w.heap.size + 1, 3, none⟩ (.int .i64 (BB : Int))).setCell ⟨w.heap.size + 1, 4, none⟩ (.bool (!c))) = W11 at *
          clear x0 x1 x2 x3 x4 k0 k1 k2 k3 k4 v4 v5 v6 v7 v8
          refine bodyPost_ret (v := .tuple #[.agg #[.slice ka kn kc, .int .i64 (NN : Int), .int .i64 (RR : Int), .int .i64 (BB : Int), .bool (!c)], .int .i64 0]) (by simp [results, Tryz.results10, go_sem, y0, y1, y2, y3, y4]) rfl ?_
          exact (HEX.out _ _).2 ⟨by rw [if_pos HPG.out]; exact ⟨_, HFR.out, HFK.out⟩, HFB.out⟩
  · rw [if_neg hok] at hcond
    subst hcond
    have HFB : Hid (Below w.heap.size w (((((W2.setCell ⟨w.heap.size + 1, 0, none⟩ (.slice none 0 0)).setCell ⟨w.heap.size + 1, 1, none⟩ (.int .i64 0)).setCell ⟨w.heap.size + 1, 2, none⟩ (.int .i64 0)).setCell ⟨w.heap.size + 1, 3, none⟩ (.int .i64 0)).setCell ⟨w.heap.size + 1, 4, none⟩ (.bool false))) :=
      ((((HB2.out.setCell (p := ⟨w.heap.size + 1, 0, none⟩) (by show _ ≤ w.heap.size + 1; omega) _).setCell (p := ⟨w.heap.size + 1, 1, none⟩) (by show _ ≤ w.heap.size + 1; omega) _).setCell (p := ⟨w.heap.size + 1, 2, none⟩) (by show _ ≤ w.heap.size + 1; omega) _).setCell (p := ⟨w.heap.size + 1, 3, none⟩) (by show _ ≤ w.heap.size + 1; omega) _).setCell (p := ⟨w.heap.size + 1, 4, none⟩) (by show _ ≤ w.heap.size + 1; omega) _
    have hr := fun j => cell_of_row W2 (w.heap.size + 1) j _ _ _ hrb
    have x0 : W2.cell? ⟨w.heap.size + 1, 0, none⟩ = some (.slice none 0 0) := hr 0
    have x1 : W2.cell? ⟨w.heap.size + 1, 1, none⟩ = some (.int .i64 0) := hr 1
    have x2 : W2.cell? ⟨w.heap.size + 1, 2, none⟩ = some (.int .i64 0) := hr 2
    have x3 : W2.cell? ⟨w.heap.size + 1, 3, none⟩ = some (.int .i64 0) := hr 3
    have x4 : W2.cell? ⟨w.heap.size + 1, 4, none⟩ = some (.bool false) := hr 4
    have hf : ∀ j, W2.frozen? ⟨w.heap.size + 1, j, none⟩ = false := fun j => by simp [World.frozen?, hrb]
    have f0 := hf 0
    have f1 := hf 1
    have f2 := hf 2
    have f3 := hf 3
    have f4 := hf 4
    have HNO := Lib.hid hok
    clear hr hf hrb hok
    go_wp2_with fail
    refine bodyPost_ret (v := .tuple #[.agg #[.slice none 0 0, .int .i64 0, .int .i64 0, .int .i64 0, .bool false], .int .i64 1]) (by simp [results, Tryz.results10, go_sem, x0, x1, x2, x3, x4]) rfl ?_
    exact (HEX.out _ _).2 ⟨by rw [if_neg HNO.out], HFB.out⟩

end Go.Proofs.YtnldkmcijmbhcaaGreat

/- Explore of programs that may be, and of such as may not. -/
namespace Go.Proofs.YtnldkmcijmbhcaaGreat
open Go.RowKit

theorem explore_yes (p : Pg) (a : Option Addr) (cap : Nat) (fuel budget : Int) (oa : Option Addr) (oc : Nat) (order : List Int) (w : World) (hp : ThreadsAt w a p.threads) (hord : BytesAt w oa order) (hob : ∀ x, oa = some x → x.block < w.heap.size) (hbs : ∀ n ∈ order, 0 ≤ n ∧ n < 256) (ho : order.length ≤ 1000) (hok : okPg p fuel) (hpre : preW p fuel ≤ 600) :
    Calls Tryz.prog 10 #[.agg #[.int .i64 p.vars, .int .i64 p.mutexes, .slice a p.threads.length cap], .int .i64 fuel, .int .i64 budget, .slice oa order.length oc] w fun r w' => ∃ ka kc, r = .returned (.tuple #[.agg #[.slice ka (endX (s0 p fuel) order budget).runs kc, .int .i64 ((endX (s0 p fuel) order budget).nodes : Nat), .int .i64 ((endX (s0 p fuel) order budget).runs : Nat), .int .i64 ((endX (s0 p fuel) order budget).blocked : Nat), .bool (!anyX (endX (s0 p fuel) order budget))], .int .i64 0]) ∧
      OwnRow w' w.heap.size 9 1 strCell (.slice ka (endX (s0 p fuel) order budget).runs kc) (sortK (endX (s0 p fuel) order budget).keys) ∧ Below w.heap.size w w' := by
  refine (explore_any p a cap fuel budget oa oc order w hp hord hob hbs ho (fun _ => hpre)).mono ?_
  rintro r w' ⟨h1, h2⟩
  rw [if_pos hok] at h1
  obtain ⟨v, h3, h4⟩ := h1
  have ok : (s0 p fuel).Ok fuel.toNat := new_ok hok.1 fuel.toNat (by have := hok.2; omega)
  obtain ⟨e1, e2, e3, _⟩ := end_part (order := order) (b := budget) ok
  have hlen : (sortK (endX (s0 p fuel) order budget).keys).length = (endX (s0 p fuel) order budget).runs := by rw [sortK_nodup_len e3, e2]
  obtain ⟨ka, kc, rfl, _⟩ := h4.form strCell_len (by omega)
  rw [hlen] at h3 h4
  exact ⟨ka, kc, h3, h4, h2⟩
theorem explore_bad (p : Pg) (a : Option Addr) (cap : Nat) (fuel budget : Int) (oa : Option Addr) (oc : Nat) (order : List Int) (w : World) (hp : ThreadsAt w a p.threads) (hord : BytesAt w oa order) (hob : ∀ x, oa = some x → x.block < w.heap.size) (hbs : ∀ n ∈ order, 0 ≤ n ∧ n < 256) (ho : order.length ≤ 1000) (hok : ¬ okPg p fuel) :
    Calls Tryz.prog 10 #[.agg #[.int .i64 p.vars, .int .i64 p.mutexes, .slice a p.threads.length cap], .int .i64 fuel, .int .i64 budget, .slice oa order.length oc] w fun r w' => r = .returned (.tuple #[.agg #[.slice none 0 0, .int .i64 0, .int .i64 0, .int .i64 0, .bool false], .int .i64 1]) ∧ Below w.heap.size w w' := by
  refine (explore_any p a cap fuel budget oa oc order w hp hord hob hbs ho (fun h => absurd h hok)).mono ?_
  rintro r w' ⟨h1, h2⟩
  rw [if_neg hok] at h1
  exact ⟨h1, h2⟩

def wkI9 (k : Int) : Ins := ⟨k, 0, 0, 0⟩
def wkP9 (k : Int) : Pg := ⟨1, 0, [[wkI9 k], [wkI9 k]]⟩
theorem wk9a : okPg (wkP9 1) 1 ∧ preW (wkP9 1) 1 ≤ 600 ∧ (endX (s0 (wkP9 1) 1) [] 100).nodes = 3 ∧ (endX (s0 (wkP9 1) 1) [] 100).runs = 1 ∧ (endX (s0 (wkP9 1) 1) [] 100).blocked = 0 ∧ anyX (endX (s0 (wkP9 1) 1) [] 100) = false := by decide +kernel
theorem wk9b : okPg (wkP9 2) 1 ∧ preW (wkP9 2) 1 ≤ 600 ∧ (endX (s0 (wkP9 2) 1) [] 100).nodes = 5 ∧ (endX (s0 (wkP9 2) 1) [] 100).runs = 2 ∧ (endX (s0 (wkP9 2) 1) [] 100).blocked = 0 ∧ anyX (endX (s0 (wkP9 2) 1) [] 100) = false := by decide +kernel
theorem wk9c : (endX (s0 (wkP9 2) 1) [] 2).nodes = 2 ∧ (endX (s0 (wkP9 2) 1) [] 2).runs = 0 ∧ (endX (s0 (wkP9 2) 1) [] 2).blocked = 0 ∧ anyX (endX (s0 (wkP9 2) 1) [] 2) = true := by decide +kernel
theorem wk9_code (k : Int) (w : World) : CodeAt (w.alloc (.cells #[.int .i64 k, .int .i64 0, .int .i64 0, .int .i64 0] 48)) (some ⟨w.heap.size, 0, none⟩) [wkI9 k] := by
  refine ⟨by simp [maxLen], fun _ => ⟨w.heap.size, 0, rfl, fun i hi => ?_⟩⟩
  have hi' : i < 1 := hi
  obtain rfl : i = 0 := by omega
  simp [wkI9]
theorem wk9_threads (k : Int) (w : World) (c : Addr) (h : CodeAt w (some c) [wkI9 k]) : ThreadsAt (w.alloc (.cells #[.slice (some c) 1 1, .slice (some c) 1 1] 44)) (some ⟨w.heap.size, 0, none⟩) (wkP9 k).threads := by
  refine ⟨by simp [maxLen, wkP9], fun _ => ⟨w.heap.size, 0, rfl, fun i hi => ?_⟩⟩
  have hi' : i < 2 := hi
  obtain rfl | rfl : i = 0 ∨ i = 1 := by omega
  · exact ⟨some c, 1, by simp [wkP9], h.later (below_alloc1 _ _), fun e => by cases e⟩
  · exact ⟨some c, 1, by simp [wkP9], h.later (below_alloc1 _ _), fun e => by cases e⟩
/-- A report's block. -/
def RepAt (w : World) (b : Nat) (vs : Array Value) : Prop := w.heap[b]? = some (.cells vs 35 (0, 0))
theorem RepAt.later {w w' : World} {b : Nat} {vs : Array Value} (h : RepAt w b vs) (hb : Below w.heap.size w w') : RepAt w' b vs := (hb.block b (Array.getElem?_eq_some_iff.1 h).1).trans h
theorem RepAt.at_ {w : World} {b : Nat} {vs : Array Value} (h : RepAt w b vs) (j : Nat) {v : Value} (hv : vs[j]? = some v) : w.cell? ⟨b, j, none⟩ = some v := by rw [cell_of_row w b j _ _ _ h, hv]
theorem nil_order (w : World) : BytesAt w none [] := ⟨by simp [maxLen], fun h => absurd rfl h⟩
theorem wk9_a (w : World) (c : Addr) (cap : Nat) (h : ThreadsAt w (some c) (wkP9 1).threads) : Calls Tryz.prog 10 #[.agg #[.int .i64 1, .int .i64 0, .slice (some c) 2 cap], .int .i64 1, .int .i64 100, .slice none 0 0] w fun r w' => ∃ ka kc, r = .returned (.tuple #[.agg #[.slice ka 1 kc, .int .i64 3, .int .i64 1, .int .i64 0, .bool true], .int .i64 0]) ∧ Below w.heap.size w w' := by
  obtain ⟨h1, h2, h3, h4, h5, h6⟩ := wk9a
  refine (explore_yes (wkP9 1) (some c) cap 1 100 none 0 [] w h (nil_order w) (fun x e => by cases e) (fun n hn => by cases hn) (by simp) h1 h2).mono ?_
  rintro r w' ⟨ka, kc, e1, _, e2⟩
  rw [h3, h4, h5, h6] at e1
  exact ⟨ka, kc, e1, e2⟩
theorem wk9_b (w : World) (c : Addr) (cap : Nat) (h : ThreadsAt w (some c) (wkP9 2).threads) : Calls Tryz.prog 10 #[.agg #[.int .i64 1, .int .i64 0, .slice (some c) 2 cap], .int .i64 1, .int .i64 100, .slice none 0 0] w fun r w' => ∃ ka kc, r = .returned (.tuple #[.agg #[.slice ka 2 kc, .int .i64 5, .int .i64 2, .int .i64 0, .bool true], .int .i64 0]) ∧ Below w.heap.size w w' := by
  obtain ⟨h1, h2, h3, h4, h5, h6⟩ := wk9b
  refine (explore_yes (wkP9 2) (some c) cap 1 100 none 0 [] w h (nil_order w) (fun x e => by cases e) (fun n hn => by cases hn) (by simp) h1 h2).mono ?_
  rintro r w' ⟨ka, kc, e1, _, e2⟩
  rw [h3, h4, h5, h6] at e1
  exact ⟨ka, kc, e1, e2⟩
theorem wk9_c (w : World) (c : Addr) (cap : Nat) (h : ThreadsAt w (some c) (wkP9 2).threads) : Calls Tryz.prog 10 #[.agg #[.int .i64 1, .int .i64 0, .slice (some c) 2 cap], .int .i64 1, .int .i64 2, .slice none 0 0] w fun r w' => ∃ ka kc, r = .returned (.tuple #[.agg #[.slice ka 0 kc, .int .i64 2, .int .i64 0, .int .i64 0, .bool false], .int .i64 0]) ∧ Below w.heap.size w w' := by
  obtain ⟨h1, h2, _⟩ := wk9b
  obtain ⟨h3, h4, h5, h6⟩ := wk9c
  refine (explore_yes (wkP9 2) (some c) cap 1 2 none 0 [] w h (nil_order w) (fun x e => by cases e) (fun n hn => by cases hn) (by simp) h1 h2).mono ?_
  rintro r w' ⟨ka, kc, e1, _, e2⟩
  rw [h3, h4, h5, h6] at e1
  exact ⟨ka, kc, e1, e2⟩
theorem wk9_n (w : World) : Calls Tryz.prog 10 #[.agg #[.int .i64 0, .int .i64 0, .slice none 0 0], .int .i64 1, .int .i64 100, .slice none 0 0] w fun r w' => r = .returned (.tuple #[.agg #[.slice none 0 0, .int .i64 0, .int .i64 0, .int .i64 0, .bool false], .int .i64 1]) ∧ Below w.heap.size w w' :=
  explore_bad ⟨0, 0, []⟩ none 0 1 100 none 0 [] w ⟨by simp [maxLen], fun h => absurd rfl h⟩ (nil_order w) (fun x e => by cases e) (fun n hn => by cases hn) (by simp) (by decide)

set_option maxRecDepth 100000 in
set_option maxHeartbeats 8000000 in
theorem awake9_any (w : World) : Calls Tryz.prog 7 #[] w fun r w' => r = .returned (.bool true) ∧ Below w.heap.size w w' := by
  have hcA := wk9_code 1 w
  have hcB := wk9_code 2 (w.alloc (.cells #[.int .i64 1, .int .i64 0, .int .i64 0, .int .i64 0] 48))
  rw [World.size_alloc] at hcB
  have HA2 := Lib.hid (hcA.later (below_alloc1 _ (.cells #[.int .i64 2, .int .i64 0, .int .i64 0, .int .i64 0] 48)))
  have HB2 := Lib.hid hcB
  have hb2 := below_alloc2 w (.cells #[.int .i64 1, .int .i64 0, .int .i64 0, .int .i64 0] 48) (.cells #[.int .i64 2, .int .i64 0, .int .i64 0, .int .i64 0] 48)
  clear hcA hcB
  go_enter Tryz.func7, Tryz.ntmps7
  generalize hW2 : ((w.alloc (.cells #[.int .i64 1, .int .i64 0, .int .i64 0, .int .i64 0] 48)).alloc (.cells #[.int .i64 2, .int .i64 0, .int .i64 0, .int .i64 0] 48)) = W2 at *
  have HT3 := Lib.hid (wk9_threads 1 W2 ⟨w.heap.size, 0, none⟩ HA2.out)
  have hb3 := hb2.trans ((below_alloc1 W2 (.cells #[.slice (some ⟨w.heap.size, 0, none⟩) 1 1, .slice (some ⟨w.heap.size, 0, none⟩) 1 1] 44)).mono hb2.size)
  have HB3 := Lib.hid (HB2.out.later (below_alloc1 W2 (.cells #[.slice (some ⟨w.heap.size, 0, none⟩) 1 1, .slice (some ⟨w.heap.size, 0, none⟩) 1 1] 44)))
  go_wp2_with fail
  refine (wk9_a _ _ _ HT3.out).mono ?_
  rintro r W4 ⟨ka1, kc1, rfl, hb4⟩
  have hb4w := hb3.trans (hb4.mono hb3.size)
  have HB4 := Lib.hid (HB3.out.later hb4)
  have HB5 := Lib.hid (HB4.out.later (below_alloc1 W4 (.cells #[.slice ka1 1 kc1, .int .i64 3, .int .i64 1, .int .i64 0, .bool true] 35)))
  have HT6 := Lib.hid (wk9_threads 2 (W4.alloc (.cells #[.slice ka1 1 kc1, .int .i64 3, .int .i64 1, .int .i64 0, .bool true] 35)) ⟨w.heap.size + 1, 0, none⟩ HB5.out)
  have hb5w := hb4w.trans ((below_alloc1 W4 (.cells #[.slice ka1 1 kc1, .int .i64 3, .int .i64 1, .int .i64 0, .bool true] 35)).mono hb4w.size)
  have HR5 : Hid (RepAt (W4.alloc (.cells #[.slice ka1 1 kc1, .int .i64 3, .int .i64 1, .int .i64 0, .bool true] 35)) W4.heap.size #[.slice ka1 1 kc1, .int .i64 3, .int .i64 1, .int .i64 0, .bool true]) := heap_alloc_new W4 _
  clear HA2 HB2 HB3 HT3 hb3 hb4 HB4 hW2
  rw [World.size_alloc] at HT6
  go_wp2_with fail
  generalize W4.alloc (.cells #[.slice ka1 1 kc1, .int .i64 3, .int .i64 1, .int .i64 0, .bool true] 35) = W5 at *
  clear hb4w
  have hb6 := below_alloc1 W5 (.cells #[.slice (some ⟨w.heap.size + 1, 0, none⟩) 1 1, .slice (some ⟨w.heap.size + 1, 0, none⟩) 1 1] 44)
  have HR6 := Lib.hid (HR5.out.later hb6)
  have HB6 := Lib.hid (HB5.out.later hb6)
  have hb6w := hb5w.trans (hb6.mono hb5w.size)
  refine (wk9_b _ _ _ HT6.out).mono ?_
  rintro r W7 ⟨ka2, kc2, rfl, hb7⟩
  have HR7 := Lib.hid (HR6.out.later hb7)
  have HB7 := Lib.hid (HB6.out.later hb7)
  have hb7w := hb6w.trans (hb7.mono hb6w.size)
  have hb8 := below_alloc1 W7 (.cells #[.slice ka2 2 kc2, .int .i64 5, .int .i64 2, .int .i64 0, .bool true] 35)
  have HR8 := Lib.hid (HR7.out.later hb8)
  have HB8 := Lib.hid (HB7.out.later hb8)
  have hb8w := hb7w.trans (hb8.mono hb7w.size)
  have HQ8 : Hid (RepAt (W7.alloc (.cells #[.slice ka2 2 kc2, .int .i64 5, .int .i64 2, .int .i64 0, .bool true] 35)) W7.heap.size #[.slice ka2 2 kc2, .int .i64 5, .int .i64 2, .int .i64 0, .bool true]) := heap_alloc_new W7 _
  clear HR5 HB5 HT6 hb5w hb6 HR6 HB6 hb6w hb7 HR7 HB7 hb7w hb8
  go_wp2_with fail
  generalize W7.alloc (.cells #[.slice ka2 2 kc2, .int .i64 5, .int .i64 2, .int .i64 0, .bool true] 35) = W8 at *
  refine (wk9_n _).mono ?_
  rintro r W9 ⟨rfl, hb9⟩
  have HR9 := Lib.hid (HR8.out.later hb9)
  have HQ9 := Lib.hid (HQ8.out.later hb9)
  have HB9 := Lib.hid (HB8.out.later hb9)
  have hb9w := hb8w.trans (hb9.mono hb8w.size)
  have hb10 := below_alloc1 W9 (.cells #[.slice none 0 0, .int .i64 0, .int .i64 0, .int .i64 0, .bool false] 35)
  have HR10 := Lib.hid (HR9.out.later hb10)
  have HQ10 := Lib.hid (HQ9.out.later hb10)
  have HB10 := Lib.hid (HB9.out.later hb10)
  have hb10w := hb9w.trans (hb10.mono hb9w.size)
  have HT11 := Lib.hid (wk9_threads 2 (W9.alloc (.cells #[.slice none 0 0, .int .i64 0, .int .i64 0, .int .i64 0, .bool false] 35)) ⟨w.heap.size + 1, 0, none⟩ HB10.out)
  rw [World.size_alloc] at HT11
  clear HR8 HQ8 HB8 hb8w hb9 HR9 HQ9 HB9 hb9w hb10
  go_wp2_with fail
  generalize W9.alloc (.cells #[.slice none 0 0, .int .i64 0, .int .i64 0, .int .i64 0, .bool false] 35) = W10 at *
  have hb11 := below_alloc1 W10 (.cells #[.slice (some ⟨w.heap.size + 1, 0, none⟩) 1 1, .slice (some ⟨w.heap.size + 1, 0, none⟩) 1 1] 44)
  have HR11 := Lib.hid (HR10.out.later hb11)
  have HQ11 := Lib.hid (HQ10.out.later hb11)
  have hb11w := hb10w.trans (hb11.mono hb10w.size)
  refine (wk9_c _ _ _ HT11.out).mono ?_
  rintro r W12 ⟨ka4, kc4, rfl, hb12⟩
  have HR12 := Lib.hid (HR11.out.later hb12)
  have HQ12 := Lib.hid (HQ11.out.later hb12)
  have hb12w := hb11w.trans (hb12.mono hb11w.size)
  have hb13 := below_alloc1 W12 (.cells #[.slice ka4 0 kc4, .int .i64 2, .int .i64 0, .int .i64 0, .bool false] 35)
  have HR13 := HR12.out.later hb13
  have HQ13 := HQ12.out.later hb13
  have HS13 : RepAt (W12.alloc (.cells #[.slice ka4 0 kc4, .int .i64 2, .int .i64 0, .int .i64 0, .bool false] 35)) W12.heap.size #[.slice ka4 0 kc4, .int .i64 2, .int .i64 0, .int .i64 0, .bool false] := heap_alloc_new W12 _
  have hb13w := hb12w.trans (hb13.mono hb12w.size)
  have a0 : _ = some (Value.slice ka1 1 kc1) := HR13.at_ 0 rfl
  have a1 : _ = some (Value.int .i64 3) := HR13.at_ 1 rfl
  have a2 : _ = some (Value.int .i64 1) := HR13.at_ 2 rfl
  have a4 : _ = some (Value.bool true) := HR13.at_ 4 rfl
  have b0 : _ = some (Value.slice ka2 2 kc2) := HQ13.at_ 0 rfl
  have b2 : _ = some (Value.int .i64 2) := HQ13.at_ 2 rfl
  have b4 : _ = some (Value.bool true) := HQ13.at_ 4 rfl
  have d1 : _ = some (Value.int .i64 2) := HS13.at_ 1 rfl
  have d4 : _ = some (Value.bool false) := HS13.at_ 4 rfl
  clear HR10 HQ10 HB10 hb10w HT11 hb11 HR11 HQ11 hb11w hb12 HR12 HQ12 hb12w hb13 HR13 HQ13 HS13 hb2
  go_wp2
  go_ret
  exact ⟨rfl, hb13w⟩

end Go.Proofs.YtnldkmcijmbhcaaGreat

/- Worlds that differ in some blocks. -/
namespace Go.Proofs.YtnldkmcijmbhcaaGreat
open Go.RowKit

/-- All but the blocks of S is as it was. -/
structure OnlyS (S : Nat → Prop) (w w' : World) : Prop where
  os : w'.os = w.os
  tape : w'.tape = w.tape
  output : w'.output = w.output
  size : w.heap.size ≤ w'.heap.size
  block : ∀ k, k < w.heap.size → ¬ S k → w'.heap[k]? = w.heap[k]?
theorem OnlyS.refl (S : Nat → Prop) (w : World) : OnlyS S w w := ⟨rfl, rfl, rfl, Nat.le_refl _, fun _ _ _ => rfl⟩
theorem OnlyS.trans {S : Nat → Prop} {u v w : World} (h : OnlyS S u v) (k : OnlyS S v w) : OnlyS S u w :=
  ⟨k.os.trans h.os, k.tape.trans h.tape, k.output.trans h.output, Nat.le_trans h.size k.size, fun i hi hs => (k.block i (Nat.lt_of_lt_of_le hi h.size) hs).trans (h.block i hi hs)⟩
theorem OnlyS.of_below {S : Nat → Prop} {w w' : World} (h : Below w.heap.size w w') : OnlyS S w w' := ⟨h.os, h.tape, h.output, h.size, fun k hk _ => h.block k hk⟩
theorem OnlyS.of_only {S : Nat → Prop} {b : Nat} {w w' : World} (h : Only b w w') (hb : S b) : OnlyS S w w' := ⟨h.os, h.tape, h.output, h.size, fun k hk hs => h.block k hk (fun e => hs (by rw [e]; exact hb))⟩
theorem OnlyS.drew {S : Nat → Prop} {w w' : World} (h : OnlyS S w w') : OnlyS S w w'.drew := ⟨h.os, h.tape, h.output, h.size, h.block⟩
theorem OnlyS.drewN {S : Nat → Prop} {w w' : World} (h : OnlyS S w w') (n : Nat) : OnlyS S w (w'.drewN n) := ⟨h.os, h.tape, h.output, h.size, h.block⟩
theorem OnlyS.alloc {S : Nat → Prop} {w w' : World} (h : OnlyS S w w') (o : Obj) : OnlyS S w (w'.alloc o) := h.trans (.of_below ((Below.refl _ _).alloc (Nat.le_refl _) _))
theorem OnlyS.setCell {S : Nat → Prop} {w w' : World} (h : OnlyS S w w') {p : Addr} (hp : S p.block) (v : Value) : OnlyS S w (w'.setCell p v) :=
  h.trans ⟨rfl, rfl, rfl, by simp [World.setCell], fun k _ hs => Below.heap_setCell _ _ _ _ (fun e => hs (by rw [e]; exact hp))⟩
theorem OnlyS.mono {S T : Nat → Prop} {w w' : World} (h : OnlyS S w w') (hst : ∀ k, k < w.heap.size → S k → T k) : OnlyS T w w' := ⟨h.os, h.tape, h.output, h.size, fun k hk ht => h.block k hk (fun hs => ht (hst k hk hs))⟩
theorem OnlyS.below {S : Nat → Prop} {w w' : World} {B : Nat} (h : OnlyS S w w') (hB : B ≤ w.heap.size) (hS : ∀ k, S k → B ≤ k) : Below B w w' := ⟨h.os, h.tape, h.output, h.size, fun k hk => h.block k (by omega) (fun hs => by have := hS k hs; omega)⟩
/-- First one step that leaves all as it was, then others. -/
theorem OnlyS.after {S : Nat → Prop} {u v w : World} (h : Below u.heap.size u v) (k : OnlyS S v w) : OnlyS S u w := (OnlyS.of_below h).trans k
theorem OnlyS.cell {S : Nat → Prop} {w w' : World} (h : OnlyS S w w') {a : Addr} {v : Value} (hc : w.cell? a = some v) (hs : ¬ S a.block) : w'.cell? a = some v := by
  rw [World.cell?_of_block (w := w) (h.block a.block (cell_block hc) hs)]
  exact hc
theorem OnlyS.frozen {S : Nat → Prop} {w w' : World} (h : OnlyS S w w') {a : Addr} (ha : a.block < w.heap.size) (hs : ¬ S a.block) : w'.frozen? a = w.frozen? a := World.frozen?_of_block (w := w) (h.block a.block ha hs)
theorem StAt.onlyS {S : Nat → Prop} {w w' : World} {b : Nat} {s : St} (h : StAt w b s) (ho : OnlyS S w w') (hs : ¬ S b) : StAt w' b s := (ho.block b h.lt hs).trans h
theorem OwnN.onlyS {S : Nat → Prop} {w w' : World} {B : Nat} {v : Value} {l : List Int} (h : OwnN w B v l) (ho : OnlyS S w w') (hs : ∀ g, v.ownBlock = some g → ¬ S g) : OwnN w' B v l := by
  obtain ⟨h1, h2 | ⟨g, cap, cur, h2, h3, h4, h5⟩⟩ := h
  · exact ⟨h1, .inl h2⟩
  · refine ⟨h1, .inr ⟨g, cap, cur, h2, h3, (ho.block g (Array.getElem?_eq_some_iff.1 h4).1 (hs g (by rw [h2]; rfl))).trans h4, h5⟩⟩
theorem OwnE.onlyS {S : Nat → Prop} {w w' : World} {B : Nat} {v : Value} {l : List Ev} (h : OwnE w B v l) (ho : OnlyS S w w') (hs : ∀ g, v.ownBlock = some g → ¬ S g) : OwnE w' B v l := by
  obtain ⟨h1, h2 | ⟨g, cap, cur, h2, h3, h4, h5⟩⟩ := h
  · exact ⟨h1, .inl h2⟩
  · refine ⟨h1, .inr ⟨g, cap, cur, h2, h3, (ho.block g (Array.getElem?_eq_some_iff.1 h4).1 (hs g (by rw [h2]; rfl))).trans h4, h5⟩⟩

end Go.Proofs.YtnldkmcijmbhcaaGreat

/- What the walk may change in memory; a row that is appended to where it lies, and read as it was. -/
namespace Go.Proofs.YtnldkmcijmbhcaaGreat
open Go.RowKit

/-- What one event more lies behind is as it was. -/
theorem OwnE.back {w : World} {B g n cap : Nat} {row : List Ev} {e : Ev} (hn : n = row.length) (h : OwnE w B (.slice (some ⟨g, 0, none⟩) (n + 1) cap) (row ++ [e])) : OwnE w B (.slice (some ⟨g, 0, none⟩) n cap) row := by
  subst hn
  obtain ⟨k1, ⟨k2, k3⟩ | ⟨g', cap', cur', k2, k3, k4, k5, k6, k7, k8⟩⟩ := h
  · simp at k3
  · injection k2 with k2 _ k2'
    injection k2 with k2
    injection k2 with k2
    subst k2 k2'
    refine ⟨by rw [evCells_length], .inr ⟨g, cap, cur', rfl, k3, k4, by simp at k5; omega, k6, k7, ?_⟩⟩
    rw [evCells_append, List.length_append] at k8
    have h1 := congrArg (List.take (row.length * 4)) k8
    rw [List.take_take, List.take_left' (evCells_length row)] at h1
    rw [← h1]
    congr 1
    simp
end Go.Proofs.YtnldkmcijmbhcaaGreat
