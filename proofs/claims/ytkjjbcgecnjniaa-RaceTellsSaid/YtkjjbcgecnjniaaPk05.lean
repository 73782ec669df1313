import Derived.Laws.StructEq
import Derived.StillTailTactics
import Derived.Laws.EntriesVeiled
import Derived.Deep.RegionHeld3
import Derived.Laws.CopyOwn
import Derived.Deep.WholeRow
import Derived.Test.YtkjjbcgecnjniaaPk02
import Derived.Test.YtkjjbcgecnjniaaPk04

/- The contracts of may, Next, Enabled. -/
namespace Go.Proofs.Ytkjjbcgecnjniaa
open Go.RowKit

/-- May an event be done? -/
def St.free (s : St) (e : Ev) : Bool := e.kind != 4 || s.who e.obj == -1

set_option maxRecDepth 100000 in
set_option maxHeartbeats 1000000 in
theorem may_any {s : St} {b : Nat} {w : World} (h : StAt w b s) (e : Ev) (h4 : e.kind = 4 → 0 ≤ e.obj ∧ e.obj < 2) :
    Calls Try.prog 36 #[.pointer (some ⟨b, 0, none⟩), evV e] w fun r w' => r = .returned (.bool (s.free e)) ∧ Below w.heap.size w w' := by
  have hbl := h.lt
  have H := Lib.hid h
  clear h
  obtain ⟨t, k, o, f⟩ := e
  unfold evV
  dsimp only at *
  by_cases hk : k = 4
  · subst hk
    obtain ⟨hx0, hx2⟩ := h4 rfl
    obtain ⟨y, rfl⟩ : ∃ y : Nat, o = y := ⟨o.toNat, by omega⟩
    have hy : y < 2 := by omega
    have c0 := H.out.num (154 + y) (by omega)
    rw [stNum_who] at c0
    have hv : s.m.getD y (-1) = s.who y := rfl
    rw [hv] at c0
    clear hv
    have hfr : s.free ⟨t, 4, y, f⟩ = (s.who y == -1) := by simp [St.free]
    rw [hfr]
    clear hfr h4 hx0 hx2
    generalize s.who y = g at *
    go_enter Try.func36, Try.ntmps36
    go_wp2
    go_quiet (fail)
    go_wp2
    go_ret
    exact ⟨rfl, (below_alloc1 w _).drewN⟩
  · have hq : (k != 4) = true := by simpa using hk
    have hfr : s.free ⟨t, k, o, f⟩ = true := by simp [St.free, hk]
    rw [hfr]
    clear hfr h4 hk
    go_enter Try.func36, Try.ntmps36
    go_wp2
    go_quiet (fail)
    go_wp2
    go_ret
    exact ⟨rfl, (below_alloc1 w _).drewN⟩

theorem evR_none : evR none = .tuple #[.agg #[.int .i64 0, .int .i64 0, .int .i64 0, .bool false], .bool false] := rfl
theorem evR_some (e : Ev) : evR (some e) = .tuple #[.agg #[.int .i64 e.thread, .int .i64 e.kind, .int .i64 e.obj, .bool e.fail], .bool true] := rfl

theorem St.ins_nat {s : St} {t : Int} {i : Ins} (h : s.ins t = some i) : ∃ k : Nat, t = k ∧ k < s.ts.length := by
  have := (St.ins_has h).1
  unfold St.has at this
  exact ⟨t.toNat, by omega, by omega⟩

theorem event_of {F : Nat} {s : St} {b : Nat} {w : World} (h : StAt w b s) (ok : s.Ok F) {t : Nat} {i : Ins} (hi : s.ins t = some i) :
    Calls Try.prog 39 #[.pointer (some ⟨b, 0, none⟩), .int .i64 t, .agg #[.int .i64 i.kind, .int .i64 i.r, .int .i64 i.x, .int .i64 i.n]] w fun r w' => r = .returned (evV (s.ev t i)) ∧ Below w.heap.size w w' := by
  obtain ⟨k, e, hk⟩ := St.ins_nat hi
  obtain ⟨o1, o2, o3, o4, o5, o6⟩ := ok.obj hi
  exact event_any h ok t (by omega) i (fun h => o2 (.inr h)) (fun _ => ⟨o4, o5⟩)

theorem insV_eq (i : Ins) : insV i = .agg #[.int .i64 i.kind, .int .i64 i.r, .int .i64 i.x, .int .i64 i.n] := rfl

set_option maxRecDepth 100000 in
set_option maxHeartbeats 1000000 in
theorem next_any {F : Nat} {s : St} {b : Nat} {w : World} (h : StAt w b s) (ok : s.Ok F) (t : Int) :
    Calls Try.prog 29 #[.pointer (some ⟨b, 0, none⟩), .int .i64 t] w fun r w' => r = .returned (evR (s.next t)) ∧ Below w.heap.size w w' := by
  have H := Lib.hid h
  have OK := Lib.hid ok
  clear h ok
  cases hi : s.ins t with
  | none =>
    have hn : s.next t = none := by unfold St.next; rw [hi]; rfl
    rw [hn, evR_none]
    have HI := Lib.hid hi
    clear hn hi
    go_enter Try.func29, Try.ntmps29
    go_wp2_with fail
    refine (instr_any (H.out.later (below_alloc1 _ _)) OK.out t).mono ?_
    rw [HI.out, insR_none]
    rintro r w1 ⟨rfl, hb1⟩
    have hw1 : Below w.heap.size w w1 := (below_alloc1 w _).trans (hb1.mono (by simp))
    have hz : w.heap.size < w1.heap.size := by have := hb1.size; simp at this; omega
    have hc : ∀ o, w1.cell? ⟨w.heap.size, o, none⟩ = (w.alloc (.cells #[.int .i64 0, .int .i64 0, .int .i64 0, .bool false] 50)).cell? ⟨w.heap.size, o, none⟩ := fun o => hb1.cell (p := ⟨w.heap.size, o, none⟩) (by simp)
    have hf : ∀ o, w1.frozen? ⟨w.heap.size, o, none⟩ = (w.alloc (.cells #[.int .i64 0, .int .i64 0, .int .i64 0, .bool false] 50)).frozen? ⟨w.heap.size, o, none⟩ := fun o => hb1.frozen (p := ⟨w.heap.size, o, none⟩) (by simp)
    clear hb1
    go_wp2
    refine bodyPost_ret (v := .tuple #[.agg #[.int .i64 0, .int .i64 0, .int .i64 0, .bool false], .bool false]) (by simp [results, Try.results29, go_sem, hc, hz]) rfl ⟨rfl, ?_⟩
    exact (below_set4 hw1 (Nat.le_refl _) _ _ _ _).alloc (by simp [World.setCell]; omega) _
  | some i =>
    obtain ⟨k, rfl, hk⟩ := St.ins_nat hi
    have hn : s.next k = some (s.ev k i) := by unfold St.next; rw [hi]; rfl
    rw [hn, evR_some]
    have HI := Lib.hid hi
    clear hn hi
    go_enter Try.func29, Try.ntmps29
    go_wp2_with fail
    refine (instr_any (H.out.later (below_alloc1 _ _)) OK.out k).mono ?_
    rw [HI.out, insR_some]
    rintro r w1 ⟨rfl, hb1⟩
    have hw1 : Below w.heap.size w w1 := (below_alloc1 w _).trans (hb1.mono (by simp))
    have hz : w.heap.size < w1.heap.size := by have := hb1.size; simp at this; omega
    have hc : ∀ o, w1.cell? ⟨w.heap.size, o, none⟩ = (w.alloc (.cells #[.int .i64 0, .int .i64 0, .int .i64 0, .bool false] 50)).cell? ⟨w.heap.size, o, none⟩ := fun o => hb1.cell (p := ⟨w.heap.size, o, none⟩) (by simp)
    have hf : ∀ o, w1.frozen? ⟨w.heap.size, o, none⟩ = (w.alloc (.cells #[.int .i64 0, .int .i64 0, .int .i64 0, .bool false] 50)).frozen? ⟨w.heap.size, o, none⟩ := fun o => hb1.frozen (p := ⟨w.heap.size, o, none⟩) (by simp)
    clear hb1
    go_wp2_with fail
    refine (event_of ((H.out.later hw1).later (below_alloc1 _ _)) OK.out HI.out).mono ?_
    unfold evV
    rintro r w2 ⟨rfl, hb2⟩
    have hw2 : Below w1.heap.size w1 w2 := (below_alloc1 w1 _).trans (hb2.mono (by simp))
    have hz2 : w1.heap.size < w2.heap.size := by have := hb2.size; simp at this; omega
    have hz3 : w.heap.size < w2.heap.size := by omega
    have hc2 : ∀ o, w2.cell? ⟨w.heap.size, o, none⟩ = w1.cell? ⟨w.heap.size, o, none⟩ := fun o => hw2.cell (p := ⟨w.heap.size, o, none⟩) hz
    have hf2 : ∀ o, w2.frozen? ⟨w.heap.size, o, none⟩ = w1.frozen? ⟨w.heap.size, o, none⟩ := fun o => hw2.frozen (p := ⟨w.heap.size, o, none⟩) hz
    clear hb2
    go_wp2
    refine bodyPost_ret (v := .tuple #[.agg #[.int .i64 (s.ev k i).thread, .int .i64 (s.ev k i).kind, .int .i64 (s.ev k i).obj, .bool (s.ev k i).fail], .bool true]) (by simp [results, Try.results29, go_sem, hc, hc2]) rfl ⟨rfl, ?_⟩
    exact below_set4 (hw1.trans (hw2.mono (by omega))) (Nat.le_refl _) _ _ _ _

theorem St.may_eq {F : Nat} {s : St} (ok : s.Ok F) (t : Int) : s.may t = match s.next t with | none => false | some e => s.free e := by
  unfold St.may St.next
  cases hi : s.ins t with
  | none => rfl
  | some i =>
    simp only [Option.map_some]
    obtain ⟨o1, o2, o3, o4, o5, o6⟩ := ok.obj hi
    by_cases h5 : i.kind = 5
    · have ev : s.ev t i = ⟨t, 4, i.x, false⟩ := by unfold St.ev; rw [if_neg (by omega), if_neg (by omega), if_pos h5]
      have hx := o2 (.inl h5)
      have hk : i.x.toNat < s.m.length := by have := ok.ml; omega
      have hmm := ok.mm (s.who i.x) (by unfold St.who; rw [getD_lt _ hk]; exact List.getElem_mem hk)
      rw [ev, Bool.eq_iff_iff]
      simp [St.free, h5]
      omega
    · have : (s.ev t i).kind ≠ 4 := by
        unfold St.ev
        repeat' split
        all_goals (first | omega | (simp; done))
      simp [St.free, h5, this]

theorem ev_obj {F : Nat} {s : St} (ok : s.Ok F) {t : Int} {i : Ins} (hi : s.ins t = some i) (h : (s.ev t i).kind = 4) : 0 ≤ (s.ev t i).obj ∧ (s.ev t i).obj < 2 := by
  obtain ⟨o1, o2, o3, o4, o5, o6⟩ := ok.obj hi
  by_cases h5 : i.kind = 5
  · have ev : s.ev t i = ⟨t, 4, i.x, false⟩ := by unfold St.ev; rw [if_neg (by omega), if_neg (by omega), if_pos h5]
    rw [ev]
    exact o2 (.inl h5)
  · exfalso
    revert h
    unfold St.ev
    repeat' split
    all_goals (first | omega | (simp; done))

theorem next_obj {F : Nat} {s : St} (ok : s.Ok F) {t : Int} {e : Ev} (he : s.next t = some e) (h : e.kind = 4) : 0 ≤ e.obj ∧ e.obj < 2 := by
  unfold St.next at he
  obtain ⟨i, hi, rfl⟩ := Option.map_eq_some_iff.1 he
  exact ev_obj ok hi h

theorem may_of {F : Nat} {s : St} {b : Nat} {w : World} (h : StAt w b s) (ok : s.Ok F) {t : Int} {e : Ev} (he : s.next t = some e) :
    Calls Try.prog 36 #[.pointer (some ⟨b, 0, none⟩), .agg #[.int .i64 e.thread, .int .i64 e.kind, .int .i64 e.obj, .bool e.fail]] w fun r w' => r = .returned (.bool (s.may t)) ∧ Below w.heap.size w w' := by
  have := may_any h e (next_obj ok he)
  rw [St.may_eq ok, he]
  exact this

end Go.Proofs.Ytkjjbcgecnjniaa

/- The contract of race's Races. -/
namespace Go.Proofs.Ytkjjbcgecnjniaa
open Go.RowKit

/-- The races with what threads do next, whoever tells what that is. -/
def racesN (nx : Int → Option Ev) (l : List Ev) (n : Nat) : List (Nat × Int) := (List.range n).flatMap fun (t : Nat) => match nx (t : Int) with
  | none => []
  | some e => rcT (t : Int) (withL l e)
theorem racesN_succ (nx : Int → Option Ev) (l : List Ev) (n : Nat) : racesN nx l (n + 1) = racesN nx l n ++ match nx n with
    | none => []
    | some e => rcT (n : Int) (withL l e) := by
  unfold racesN
  rw [List.range_succ, List.flatMap_append]
  simp
theorem withL_len (l : List Ev) (e : Ev) : (withL l e).length ≤ l.length := by
  unfold withL
  refine Nat.le_trans (List.length_filter_le _ _) ?_
  rw [List.length_range]
  exact Nat.le_refl _
theorem racesN_len (nx : Int → Option Ev) (l : List Ev) (n : Nat) : (racesN nx l n).length ≤ n * l.length := by
  induction n with
  | zero => exact Nat.zero_le _
  | succ n ih =>
    rw [racesN_succ, List.length_append, Nat.add_mul, Nat.one_mul]
    have h : (match nx n with
      | none => []
      | some e => rcT (n : Int) (withL l e)).length ≤ l.length := by
      split
      · exact Nat.zero_le _
      · unfold rcT
        rw [List.length_map]
        exact withL_len _ _
    omega
/-- The row, if it may be: else none. -/
def okL (l : List Ev) : List Ev := if rightL l = true then l else []
theorem okL_len (l : List Ev) : (okL l).length ≤ l.length := by
  unfold okL
  split
  · exact Nat.le_refl _
  · exact Nat.zero_le _
theorem withL_nil (e : Ev) : withL [] e = [] := rfl
def RacesR (nx : Int → Option Ev) (nT : Nat) (l : List Ev) (w : World) (r : Ending) (w' : World) : Prop :=
  ∃ rv, r = .returned rv ∧ OwnRow w' w.heap.size 48 2 rcCell rv (racesN nx (okL l) nT) ∧ Below w.heap.size w w'
/-- What holds ahead of thread t. -/
def RsW (P : Nat) (l0 : List Ev) (n : Nat) (v : Value) (xs : List (Ev × Sp)) (nx : Int → Option Ev) (l : List Ev) (W1 : World) (t : Nat) (lv : Value) (W : World) : Prop :=
  PastM W P W1.heap.size (csOf l0 n) v xs (grp l0 n) ∧ OwnRow W W1.heap.size 48 2 rcCell lv (racesN nx l t) ∧ Low P W1.heap.size W1 W

set_option maxRecDepth 100000 in
set_option maxHeartbeats 4000000 in
theorem races_gen (sp : Option Addr) (nT : Nat) (nx : Int → Option Ev) (hnx : ∀ t e, nx t = some e → e.thread = t) (hT : nT ≤ 4) (a : Option Addr) (cap : Nat) (l : List Ev) (w : World) (hl : EvsAt w a l) (hm : l.length ≤ 200)
    (hth : ∀ W, Below w.heap.size w W → Calls Try.prog 28 #[.pointer sp] W fun r w' => r = .returned (.int .i64 nT) ∧ W = w')
    (hne : ∀ W (t : Nat), t < nT → Below w.heap.size w W → Calls Try.prog 29 #[.pointer sp, .int .i64 t] W fun r w' => r = .returned (evR (nx t)) ∧ Below W.heap.size W w') :
    Calls Try.prog 15 #[.pointer sp, .slice a l.length cap] w (RacesR nx nT l w) := by
  have HL := Lib.hid hl
  have HTH := Lib.hid hth
  have HNX := Lib.hid hne
  have HNT := Lib.hid hnx
  clear hl hth hne hnx
  unfold RacesR
  have hb0 := below_alloc1 w (.cells #[.int .i64 0, .int .i64 0, .int .i64 0, .int .i64 0, .int .i64 0, .int .i64 0, .int .i64 0, .int .i64 0, .int .i64 0, .int .i64 0, .int .i64 0, .int .i64 0, .int .i64 0, .int .i64 0, .int .i64 0, .int .i64 0, .slice none 0 0] 70)
  go_enter Try.func15, Try.ntmps15
  go_wp2_with fail
  refine (clocks_any a cap l _ (HL.out.later hb0) (by omega)).mono ?_
  rintro r W1 ⟨a', cap', rfl, hrow, hb1⟩
  have hb1' := hb1
  rw [World.size_alloc] at hb1'
  have HPM : Hid (PastM W1 w.heap.size W1.heap.size (csOf l 0) (.slice none 0 0) [] (grp l 0)) := PastM.begin l hb1'
  have HB1 : Hid (Below w.heap.size w W1) := hb0.trans (hb1.mono hb0.size)
  have hsz : w.heap.size + 1 ≤ W1.heap.size := by
    have := hb1.size
    rwa [World.size_alloc] at this
  have HROW := Lib.hid hrow
  clear hb0 hb1 hb1' hrow
  have HCK : Hid ((cks l).length = 0 ∨ (rightL l = true ∧ (cks l).length = l.length)) := by
    cases hr : rightL l
    · exact .inl (by rw [cks_wrong hr]; rfl)
    · exact .inr ⟨rfl, cks_len hr⟩
  have hml : (cks l).length ≤ l.length := by rcases HCK.out with h | ⟨_, h⟩ <;> omega
  go_wp2_with fail
  generalize hmm : (cks l).length = m at *
  go_loopw [15] (fun i wr => ∃ k : Nat, k ≤ m ∧ i = .int .i64 k ∧ Hid ((∃ v xs, PastM wr w.heap.size W1.heap.size (csOf l k) v xs (grp l k)) ∧ Low w.heap.size W1.heap.size W1 wr)) (fun i _ => m - (intOf i).toNat)
  case atStart => exact ⟨0, Nat.zero_le _, rfl, ⟨_, _, HPM.out⟩, Low.refl _ _ _⟩
  case round =>
    obtain ⟨k, hk, rfl, HR⟩ := hrel
    by_cases hlt : k < m
    · obtain ⟨hr, hml2⟩ : rightL l = true ∧ m = l.length := by
        rcases HCK.out with h | ⟨h1, h2⟩
        · omega
        · exact ⟨h1, by omega⟩
      have hkl : k < l.length := by omega
      clear hml2
      obtain ⟨⟨v, xs, hp⟩, hlow⟩ := HR.out
      obtain ⟨b, o, rfl, c0, c1, c2, c3⟩ := clk_low hr HROW.out HPM.out.blk hlow hkl
      have hBw : Below w.heap.size w wr := HB1.out.trans (hlow.below (Nat.le_refl _) (by omega))
      obtain ⟨b2, o2, rfl, _⟩ := (HL.out.later hBw).one hkl
      have hb2 := below_alloc1 wr (.cells #[.int .i64 (clk l k 0), .int .i64 (clk l k 1), .int .i64 (clk l k 2), .int .i64 (clk l k 3)] 66)
      have ht := rightEv_bd (e := evI l k) (by rw [evI_get hkl]; exact rightL_get hr hkl)
      have HP4 : Hid (PastM (wr.alloc (.cells #[.int .i64 (clk l k 0), .int .i64 (clk l k 1), .int .i64 (clk l k 2), .int .i64 (clk l k 3)] 66)) w.heap.size W1.heap.size (csOf l k) v xs (grp l k)) := hp.later hb2
      have HLW4 : Hid (Low w.heap.size W1.heap.size W1 (wr.alloc (.cells #[.int .i64 (clk l k 0), .int .i64 (clk l k 1), .int .i64 (clk l k 2), .int .i64 (clk l k 3)] 66))) := hlow.trans (Low.of_below (hb2.mono hp.le))
      have HT4 : Hid (MidAt (wr.alloc (.cells #[.int .i64 (clk l k 0), .int .i64 (clk l k 1), .int .i64 (clk l k 2), .int .i64 (clk l k 3)] 66)) wr.heap.size 66 (nums4 fun u => (clk l k u : Nat))) := heap_alloc_new _ _
      have HEV : Hid (∀ W', Below w.heap.size w W' → W'.cell? ⟨b2, o2 + k * 4, none⟩ = some (.int .i64 (evI l k).thread) ∧ W'.cell? ⟨b2, o2 + k * 4 + 1, none⟩ = some (.int .i64 (evI l k).kind) ∧ W'.cell? ⟨b2, o2 + k * 4 + 2, none⟩ = some (.int .i64 (evI l k).obj) ∧ W'.cell? ⟨b2, o2 + k * 4 + 3, none⟩ = some (.bool (evI l k).fail)) := by
        intro W' hb
        obtain ⟨b3, o3, e3, s0, s1, s2, s3⟩ := (HL.out.later hb).one hkl
        cases e3
        exact ⟨s0, s1, s2, s3⟩
      clear hp hlow hBw hb2
      go_wp2_with fail
      generalize wr.alloc (.cells #[.int .i64 (clk l k 0), .int .i64 (clk l k 1), .int .i64 (clk l k 2), .int .i64 (clk l k 3)] 66) = w4 at *
      have HQ : Hid (∀ W', Below w.heap.size w W' → MidAt W' wr.heap.size 66 (nums4 fun u => (clk l k u : Nat)) →
            (W'.cell? ⟨b2, o2 + k * 4, none⟩ = some (.int .i64 (evI l k).thread) ∧ W'.cell? ⟨b2, o2 + k * 4 + 1, none⟩ = some (.int .i64 (evI l k).kind) ∧ W'.cell? ⟨b2, o2 + k * 4 + 2, none⟩ = some (.int .i64 (evI l k).obj) ∧ W'.cell? ⟨b2, o2 + k * 4 + 3, none⟩ = some (.bool (evI l k).fail)) ∧
            (W'.cell? ⟨wr.heap.size, 0, none⟩ = some (.int .i64 (clk l k 0)) ∧ W'.cell? ⟨wr.heap.size, 1, none⟩ = some (.int .i64 (clk l k 1)) ∧ W'.cell? ⟨wr.heap.size, 2, none⟩ = some (.int .i64 (clk l k 2)) ∧ W'.cell? ⟨wr.heap.size, 3, none⟩ = some (.int .i64 (clk l k 3)))) :=
          fun W' hb hM => ⟨HEV.out W' hb, hM.four⟩
      have HADD := Lib.hid (padd_any w.heap.size W1.heap.size k l v xs w4.drew (HP4.out.later (Below.refl _ w4).drew) hr hkl (by omega))
      have hS0 := HQ.out w4.drew ((HB1.out.trans (HLW4.out.below (Nat.le_refl _) (by omega))).drew) HT4.out
      have hki : (k : Int) < l.length := by omega
      clear c0 c1 c2 c3
      go_region_held3 (fun W' =>
            (W'.cell? ⟨b2, o2 + k * 4, none⟩ = some (.int .i64 (evI l k).thread) ∧ W'.cell? ⟨b2, o2 + k * 4 + 1, none⟩ = some (.int .i64 (evI l k).kind) ∧ W'.cell? ⟨b2, o2 + k * 4 + 2, none⟩ = some (.int .i64 (evI l k).obj) ∧ W'.cell? ⟨b2, o2 + k * 4 + 3, none⟩ = some (.bool (evI l k).fail)) ∧
            (W'.cell? ⟨wr.heap.size, 0, none⟩ = some (.int .i64 (clk l k 0)) ∧ W'.cell? ⟨wr.heap.size, 1, none⟩ = some (.int .i64 (clk l k 1)) ∧ W'.cell? ⟨wr.heap.size, 2, none⟩ = some (.int .i64 (clk l k 2)) ∧ W'.cell? ⟨wr.heap.size, 3, none⟩ = some (.int .i64 (clk l k 3))))
          (first | exact hS0 | exact hS5)
          (first | (go_at_call 26; ((with_reducible refine HADD.out.mono ?_); rintro r w5 ⟨rfl, v5, xs5, hp5, ha5⟩; have HP5 := Lib.hid hp5; have HLW5 : Hid (Low w.heap.size W1.heap.size W1 w5) := HLW4.out.trans ((Low.of_below (Below.refl _ w4).drew).trans ha5.toLow); have hS5 := HQ.out w5 (HB1.out.trans (HLW5.out.below (Nat.le_refl _) (by omega))) (ha5.keep _ _ _ _ HT4.out (by decide) (by decide) (by decide)); clear hp5 ha5)))
      clear hS0 hS5 HADD HT4 HLW4 HEV HP4 HQ
      go_wp2
      go_roundw
      case rel => exact ⟨k + 1, by omega, by go_num, ⟨_, _, HP5.out⟩, HLW5.out⟩
      case measure => simp [intOf]; omega
    · obtain rfl : k = m := by omega
      obtain ⟨l0, n, v, xs, hr0, hn0, hm0, HRA, HP⟩ : ∃ (l0 : List Ev) (n : Nat) (v : Value) (xs : List (Ev × Sp)), rightL l0 = true ∧ n ≤ l0.length ∧ l0.length ≤ 200 ∧ Hid (∀ e, raced l0 n e = withL (okL l) e) ∧ Hid (PastM wr w.heap.size W1.heap.size (csOf l0 n) v xs (grp l0 n)) := by
        obtain ⟨⟨v, xs, hp⟩, hlow⟩ := HR.out
        cases hr : rightL l
        · have hk0 : k = 0 := by
            rcases HCK.out with h | ⟨h, _⟩
            · exact h
            · rw [hr] at h; cases h
          subst hk0
          refine ⟨[], 0, v, xs, rfl, Nat.le_refl _, by simp, fun e => ?_, hp⟩
          unfold okL
          rw [if_neg (by rw [hr]; simp)]
          rfl
        · have hk0 : k = l.length := by
            rw [← hmm]
            exact cks_len hr
          subst hk0
          refine ⟨l, l.length, v, xs, hr, Nat.le_refl _, hm, fun e => ?_, hp⟩
          unfold okL
          rw [if_pos hr, withL_raced]
      have HLW := Lib.hid HR.out.2
      clear HR HCK HROW HPM
      go_wp2_with fail
      refine (HTH.out wr (HB1.out.trans (HLW.out.below (Nat.le_refl _) (by omega)))).mono ?_
      rintro r w' ⟨rfl, rfl⟩
      go_wp2_with fail
      go_loopw [8, 30] (fun lv i wt => ∃ t : Nat, t ≤ nT ∧ i = .int .i64 t ∧ Hid (RsW w.heap.size l0 n v xs nx (okL l) W1 t lv wt)) (fun _ i _ => nT - (intOf i).toNat)
      case atStart => exact ⟨0, Nat.zero_le _, rfl, HP.out, ownRow_nil _ _ _ _ _, HLW.out⟩
      case round =>
        clear HP HLW
        obtain ⟨t, ht, rfl, HR⟩ := hrel
        have HPW := Lib.hid HR.out.1
        have HOW := Lib.hid HR.out.2.1
        have HLW := Lib.hid HR.out.2.2
        clear HR
        by_cases hlt : t < nT
        · go_wp2_with fail
          refine (HNX.out _ t hlt (HB1.out.trans (HLW.out.below (Nat.le_refl _) (by omega)))).mono ?_
          rintro r w2 ⟨rfl, hb2⟩
          have HP2 := Lib.hid (HPW.out.later hb2)
          have HO2 := Lib.hid (HOW.out.later hb2)
          have HL2 : Hid (Low w.heap.size W1.heap.size W1 w2) := HLW.out.trans (Low.of_below (hb2.mono HPW.out.le))
          clear HPW HOW HLW hb2
          cases hn : nx t with
          | none =>
            have hb3 := below_alloc1 w2 (.cells #[.int .i64 0, .int .i64 0, .int .i64 0, .bool false] 50)
            have HP3 := Lib.hid (HP2.out.later hb3)
            have HL3 : Hid (Low w.heap.size W1.heap.size W1 (w2.alloc (.cells #[.int .i64 0, .int .i64 0, .int .i64 0, .bool false] 50))) := HL2.out.trans (Low.of_below (hb3.mono HP2.out.le))
            have HO3 : Hid (OwnRow (w2.alloc (.cells #[.int .i64 0, .int .i64 0, .int .i64 0, .bool false] 50)) W1.heap.size 48 2 rcCell u8 (racesN nx (okL l) (t + 1))) := by
              show OwnRow _ _ _ _ _ _ _
              rw [racesN_succ, hn]
              simp only [List.append_nil]
              exact HO2.out.later hb3
            clear hn hb3 HP2 HO2 HL2
            simp only [evR, evV, ev0, Option.getD_none, Option.isSome_none]
            go_wp2
            go_roundw
            case rel => exact ⟨t + 1, by omega, by go_num, HP3.out, HO3.out, HL3.out⟩
            case measure => simp [intOf]; omega
          | some e =>
            obtain ⟨et, ek, eo, ef⟩ := e
            obtain rfl : et = (t : Int) := HNT.out t _ hn
            have hb3 := below_alloc1 w2 (.cells #[.int .i64 (t : Int), .int .i64 ek, .int .i64 eo, .bool ef] 50)
            have HP3 := Lib.hid (HP2.out.later hb3)
            have HO3 := Lib.hid (HO2.out.later hb3)
            have HL3 : Hid (Low w.heap.size W1.heap.size W1 (w2.alloc (.cells #[.int .i64 (t : Int), .int .i64 ek, .int .i64 eo, .bool ef] 50))) := HL2.out.trans (Low.of_below (hb3.mono HP2.out.le))
            have HE3 : Hid (EvBox (w2.alloc (.cells #[.int .i64 (t : Int), .int .i64 ek, .int .i64 eo, .bool ef] 50)) w2.heap.size ⟨t, ek, eo, ef⟩) := EvBox.new w2 ⟨t, ek, eo, ef⟩
            have HN := Lib.hid hn
            clear hn hb3 HP2 HO2 HL2
            simp only [evR, evV, Option.getD_some, Option.isSome_some]
            obtain ⟨e0, e1, e2, e3⟩ := HE3.out.cells
            go_wp2_with fail
            refine (racing_any w.heap.size W1.heap.size n l0 ⟨t, ek, eo, ef⟩ v xs _ HP3.out hr0 hn0 hm0 (by show (0 : Int) ≤ t; omega) (by show (t : Int) < 4; omega)).mono ?_
            rintro r w4 ⟨rv, rfl, hrv, hb4⟩
            have ho4 := HO3.out.later hb4
            have hp4 := HP3.out.later hb4
            have hle4 : W1.heap.size ≤ w4.heap.size := hp4.le
            have hrv2 : OwnRow w4 W1.heap.size 48 2 rcCell rv (rcT (t : Int) (raced l0 n ⟨t, ek, eo, ef⟩)) := ownRow_low hrv HP3.out.le
            have hrl : (racesN nx (okL l) t).length + (rcT (t : Int) (raced l0 n ⟨t, ek, eo, ef⟩)).length ≤ 1000000 := by
              have h7 := racesN_len nx (okL l) t
              have h8 := raced_len l0 n ⟨t, ek, eo, ef⟩
              have h9 := okL_len l
              have h10 : t * (okL l).length ≤ 4 * 200 := Nat.mul_le_mul (by omega) (by omega)
              unfold rcT
              rw [List.length_map]
              omega
            go_wp2_with (at_builtin; refine wpl_appendRcs rfl _ _ rfl W1.heap.size _ (racesN nx (okL l) t) rfl ho4 _ _ rfl hrv2 hrl hle4 ?_; intro v5 w5 h5 hb5 hg5)
            have HP5 := Lib.hid (hp4.race ho4 hb5 hg5)
            have HO5 : Hid (OwnRow w5 W1.heap.size 48 2 rcCell v5 (racesN nx (okL l) (t + 1))) := by
              show OwnRow _ _ _ _ _ _ _
              rw [racesN_succ, HN.out]
              rw [HRA.out] at h5
              exact h5
            have HL5 : Hid (Low w.heap.size W1.heap.size W1 w5) := (HL3.out.trans (Low.of_below (hb4.mono HP3.out.le))).trans (Low.of_below hb5)
            clear ho4 hp4 hrv2 h5 hb5 hg5 hb4 hrv hrl HN HE3 HP3 HO3 HL3
            go_wp2
            go_roundw
            case rel => exact ⟨t + 1, by omega, by go_num, HP5.out, HO5.out, HL5.out⟩
            case measure => simp [intOf]; omega
        · obtain rfl : t = nT := by omega
          go_wp2
          go_ret
          exact ⟨_, rfl, ownRow_low HOW.out (by omega), HB1.out.trans (HLW.out.below (Nat.le_refl _) (by omega))⟩

end Go.Proofs.Ytkjjbcgecnjniaa

/- Two events held against one another. -/
namespace Go.Proofs.Ytkjjbcgecnjniaa
open Go.RowKit


theorem run_eql_ev (e e' : Ev) (w : World) :
    (binOp .eql 50 (.agg #[.int .i64 e.thread, .int .i64 e.kind, .int .i64 e.obj, .bool e.fail]) (.agg #[.int .i64 e'.thread, .int .i64 e'.kind, .int .i64 e'.obj, .bool e'.fail])).run Try.prog w = .ok (.bool (decide (e = e'))) w := by
  rw [run_eql_struct]
  simp [run_equal_ev]
theorem run_neq_ev (e e' : Ev) (w : World) :
    (binOp .neq 50 (.agg #[.int .i64 e.thread, .int .i64 e.kind, .int .i64 e.obj, .bool e.fail]) (.agg #[.int .i64 e'.thread, .int .i64 e'.kind, .int .i64 e'.obj, .bool e'.fail])).run Try.prog w = .ok (.bool (decide (e ≠ e'))) w := by
  rw [run_neq_struct]
  simp [run_equal_ev]

end Go.Proofs.Ytkjjbcgecnjniaa

/- Rows of events: append, SameEvents. -/
namespace Go.Proofs.Ytkjjbcgecnjniaa
open Go.RowKit

end Go.Proofs.Ytkjjbcgecnjniaa

/- The contracts of the deeds: load, store, set, add, lock, unlock, jump, assert. -/
namespace Go.Proofs.Ytkjjbcgecnjniaa
open Go.RowKit

theorem StAt.setReg {w : World} {b : Nat} {s : St} (h : StAt w b s) (t y : Nat) (n : Int) (ht : t < s.ts.length) (h4 : s.ts.length ≤ 4) (hy : y < 2) (hl : (s.th t).r.length = 2) :
    StAt (w.setCell ⟨b, 2 + t * 37 + 35 + y, none⟩ (.int .i64 n)) b (s.put t { s.th t with r := (s.th t).r.set y n }) := by
  rw [Nat.add_assoc]
  exact h.set _ _ n (by omega) (stNum_put s t _ (35 + y) n ht h4 (by omega) (thrNum_reg _ _ y n hy hl))
theorem StAt.setAt {w : World} {b : Nat} {s : St} (h : StAt w b s) (t n : Nat) (ht : t < s.ts.length) (h4 : s.ts.length ≤ 4) :
    StAt (w.setCell ⟨b, 2 + t * 37 + 33, none⟩ (.int .i64 n)) b (s.put t { s.th t with at_ := n }) :=
  h.set _ _ n (by omega) (stNum_put s t _ 33 n ht h4 (by omega) (thrNum_at _ _ n))
theorem StAt.setFuel {w : World} {b : Nat} {s : St} (h : StAt w b s) (t n : Nat) (ht : t < s.ts.length) (h4 : s.ts.length ≤ 4) :
    StAt (w.setCell ⟨b, 2 + t * 37 + 34, none⟩ (.int .i64 n)) b (s.put t { s.th t with fuel := n }) :=
  h.set _ _ n (by omega) (stNum_put s t _ 34 n ht h4 (by omega) (thrNum_fuel _ _ n))
theorem StAt.setVar {w : World} {b : Nat} {s : St} (h : StAt w b s) (x : Nat) (n : Int) (hx : x < 4) (hl : s.v.length = 4) :
    StAt (w.setCell ⟨b, 150 + x, none⟩ (.int .i64 n)) b { s with v := s.v.set x n } := h.set _ _ n (by omega) (stNum_setVar s x n hx hl)
theorem StAt.setWho {w : World} {b : Nat} {s : St} (h : StAt w b s) (x : Nat) (n : Int) (hx : x < 2) (hl : s.m.length = 2) :
    StAt (w.setCell ⟨b, 154 + x, none⟩ (.int .i64 n)) b { s with m := s.m.set x n } := h.set _ _ n (by omega) (stNum_setWho s x n hx hl)

theorem Only.drewN {b : Nat} {w w' : World} (h : Only b w w') {n : Nat} : Only b w (w'.drewN n) := ⟨h.os, h.tape, h.output, h.size, h.block⟩
theorem only_alloc (b : Nat) (w : World) (o : Obj) : Only b w (w.alloc o) := (Only.refl b w).alloc o

set_option maxRecDepth 100000 in
set_option maxHeartbeats 1000000 in
theorem load_any {s : St} {b : Nat} {w : World} (h : StAt w b s) (t : Nat) (ht : t < s.ts.length) (h4 : s.ts.length ≤ 4) (kd n : Int) (r x : Nat) (hr : r < 2) (hx : x < 4) (hl : (s.th t).r.length = 2) :
    Calls Try.prog 64 #[.pointer (some ⟨b, 0, none⟩), .int .i64 t, .agg #[.int .i64 kd, .int .i64 r, .int .i64 x, .int .i64 n]] w fun e w' => e = .returned (.tuple #[]) ∧ StAt w' b (s.put t { s.th t with r := (s.th t).r.set r (s.v.getD x 0) }) ∧ Only b w w' := by
  have hbl := h.lt
  have H := Lib.hid h
  have HB := Lib.hid (h.later (below_alloc1 w (.cells #[.int .i64 kd, .int .i64 r, .int .i64 x, .int .i64 n] 58)))
  have hfz := fun o => HB.out.frozen o
  have hff := fun o => h.frozen o
  clear h
  have c1 := H.out.num (150 + x) (by omega)
  rw [stNum_var _ _ hx] at c1
  generalize hg : s.v.getD x 0 = g at *
  clear hg
  have c0 := H.out.num (2 + t * 37 + (35 + r)) (by omega)
  rw [stNum_thr _ _ _ (by omega) (by omega), thr_reg, ← Nat.add_assoc] at c0
  go_enter Try.func64, Try.ntmps64
  go_wp2
  go_region
  go_wp2
  refine bodyPost_end (results_none rfl _ _ _) rfl ⟨rfl, ?_, ?_⟩
  · exact ((H.out.setReg t r g ht h4 hr hl).later (below_alloc1 _ _)).drew
  · exact (((Only.refl b w).setCell _ _).alloc _).drew

set_option maxRecDepth 100000 in
set_option maxHeartbeats 1000000 in
theorem store_any {s : St} {b : Nat} {w : World} (h : StAt w b s) (t : Nat) (ht : t < s.ts.length) (h4 : s.ts.length ≤ 4) (kd n : Int) (r x : Nat) (hr : r < 2) (hx : x < 4) (hl : s.v.length = 4) :
    Calls Try.prog 65 #[.pointer (some ⟨b, 0, none⟩), .int .i64 t, .agg #[.int .i64 kd, .int .i64 r, .int .i64 x, .int .i64 n]] w fun e w' => e = .returned (.tuple #[]) ∧ StAt w' b ({ s with v := s.v.set x ((s.th t).r.getD r 0) }) ∧ Only b w w' := by
  have hbl := h.lt
  have H := Lib.hid h
  have HB := Lib.hid (h.later (below_alloc1 w (.cells #[.int .i64 kd, .int .i64 r, .int .i64 x, .int .i64 n] 58)))
  have hfz := fun o => HB.out.frozen o
  have hff := fun o => h.frozen o
  clear h
  have c1 := H.out.num (150 + x) (by omega)
  have c0 := H.out.num (2 + t * 37 + (35 + r)) (by omega)
  rw [stNum_thr _ _ _ (by omega) (by omega), thr_reg, ← Nat.add_assoc] at c0
  generalize hg : (s.th t).r.getD r 0 = g at *
  clear hg
  go_enter Try.func65, Try.ntmps65
  go_wp2
  go_region
  go_wp2
  refine bodyPost_end (results_none rfl _ _ _) rfl ⟨rfl, ?_, ?_⟩
  · exact ((H.out.setVar x g hx hl).later (below_alloc1 _ _)).drew
  · exact (((Only.refl b w).setCell _ _).alloc _).drew

set_option maxRecDepth 100000 in
set_option maxHeartbeats 1000000 in
theorem set_any {s : St} {b : Nat} {w : World} (h : StAt w b s) (t : Nat) (ht : t < s.ts.length) (h4 : s.ts.length ≤ 4) (kd n : Int) (r x : Nat) (hr : r < 2) (hl : (s.th t).r.length = 2) :
    Calls Try.prog 66 #[.pointer (some ⟨b, 0, none⟩), .int .i64 t, .agg #[.int .i64 kd, .int .i64 r, .int .i64 x, .int .i64 n]] w fun e w' => e = .returned (.tuple #[]) ∧ StAt w' b (s.put t { s.th t with r := (s.th t).r.set r n }) ∧ Only b w w' := by
  have hbl := h.lt
  have H := Lib.hid h
  have HB := Lib.hid (h.later (below_alloc1 w (.cells #[.int .i64 kd, .int .i64 r, .int .i64 x, .int .i64 n] 58)))
  have hfz := fun o => HB.out.frozen o
  have hff := fun o => h.frozen o
  clear h
  have c0 := H.out.num (2 + t * 37 + (35 + r)) (by omega)
  rw [stNum_thr _ _ _ (by omega) (by omega), thr_reg, ← Nat.add_assoc] at c0
  go_enter Try.func66, Try.ntmps66
  go_wp2
  go_region
  go_wp2
  refine bodyPost_end (results_none rfl _ _ _) rfl ⟨rfl, ?_, ?_⟩
  · exact ((H.out.setReg t r n ht h4 hr hl).later (below_alloc1 _ _)).drew
  · exact (((Only.refl b w).setCell _ _).alloc _).drew

set_option maxRecDepth 100000 in
set_option maxHeartbeats 1000000 in
theorem add_any {s : St} {b : Nat} {w : World} (h : StAt w b s) (t : Nat) (ht : t < s.ts.length) (h4 : s.ts.length ≤ 4) (kd n : Int) (r x : Nat) (hr : r < 2) (hl : (s.th t).r.length = 2) :
    Calls Try.prog 67 #[.pointer (some ⟨b, 0, none⟩), .int .i64 t, .agg #[.int .i64 kd, .int .i64 r, .int .i64 x, .int .i64 n]] w fun e w' => e = .returned (.tuple #[]) ∧ StAt w' b (s.put t { s.th t with r := (s.th t).r.set r (IntKind.i64.wrap ((s.th t).r.getD r 0 + n)) }) ∧ Only b w w' := by
  have hbl := h.lt
  have H := Lib.hid h
  have HB := Lib.hid (h.later (below_alloc1 w (.cells #[.int .i64 kd, .int .i64 r, .int .i64 x, .int .i64 n] 58)))
  have hfz := fun o => HB.out.frozen o
  have hff := fun o => h.frozen o
  clear h
  have c0 := H.out.num (2 + t * 37 + (35 + r)) (by omega)
  rw [stNum_thr _ _ _ (by omega) (by omega), thr_reg, ← Nat.add_assoc] at c0
  generalize hg : (s.th t).r.getD r 0 = g at *
  clear hg
  go_enter Try.func67, Try.ntmps67
  go_wp2
  go_region
  go_wp2
  have e : wrap64 (g + n) = IntKind.i64.wrap (g + n) := by rw [IntKind.wrap_i64]; unfold wrap64; first | rfl | omega
  rw [e]
  refine bodyPost_end (results_none rfl _ _ _) rfl ⟨rfl, ?_, ?_⟩
  · exact ((H.out.setReg t r (IntKind.i64.wrap (g + n)) ht h4 hr hl).later (below_alloc1 _ _)).drew
  · exact (((Only.refl b w).setCell _ _).alloc _).drew

set_option maxRecDepth 100000 in
set_option maxHeartbeats 1000000 in
theorem lock_any {s : St} {b : Nat} {w : World} (h : StAt w b s) (t : Nat) (_ht : t < s.ts.length) (_h4 : s.ts.length ≤ 4) (kd n : Int) (r x : Nat) (hx : x < 2) (hl : s.m.length = 2) :
    Calls Try.prog 68 #[.pointer (some ⟨b, 0, none⟩), .int .i64 t, .agg #[.int .i64 kd, .int .i64 r, .int .i64 x, .int .i64 n]] w fun e w' => e = .returned (.tuple #[]) ∧ StAt w' b ({ s with m := s.m.set x t }) ∧ Only b w w' := by
  have hbl := h.lt
  have H := Lib.hid h
  have HB := Lib.hid (h.later (below_alloc1 w (.cells #[.int .i64 kd, .int .i64 r, .int .i64 x, .int .i64 n] 58)))
  have hfz := fun o => HB.out.frozen o
  have hff := fun o => h.frozen o
  clear h
  have c1 := H.out.num (154 + x) (by omega)
  go_enter Try.func68, Try.ntmps68
  go_wp2
  go_region
  go_wp2
  refine bodyPost_end (results_none rfl _ _ _) rfl ⟨rfl, ?_, ?_⟩
  · exact ((H.out.setWho x t hx hl).later (below_alloc1 _ _)).drew
  · exact (((Only.refl b w).setCell _ _).alloc _).drew

set_option maxRecDepth 100000 in
set_option maxHeartbeats 1000000 in
theorem unlock_any {s : St} {b : Nat} {w : World} (h : StAt w b s) (t : Nat) (_ht : t < s.ts.length) (_h4 : s.ts.length ≤ 4) (kd n : Int) (r x : Nat) (hx : x < 2) (hl : s.m.length = 2) :
    Calls Try.prog 69 #[.pointer (some ⟨b, 0, none⟩), .int .i64 t, .agg #[.int .i64 kd, .int .i64 r, .int .i64 x, .int .i64 n]] w fun e w' => e = .returned (.tuple #[]) ∧ StAt w' b (if s.who x = t then { s with m := s.m.set x (-1) } else s) ∧ Only b w w' := by
  have hbl := h.lt
  have H := Lib.hid h
  have HB := Lib.hid (h.later (below_alloc1 w (.cells #[.int .i64 kd, .int .i64 r, .int .i64 x, .int .i64 n] 58)))
  have hfz := fun o => HB.out.frozen o
  have hff := fun o => h.frozen o
  clear h
  have c1 := H.out.num (154 + x) (by omega)
  rw [stNum_who] at c1
  have hv : s.m.getD x (-1) = s.who x := rfl
  rw [hv] at c1
  clear hv
  by_cases hw : s.who x = t
  · rw [if_pos hw]
    rw [hw] at c1
    clear hw
    go_enter Try.func69, Try.ntmps69
    go_wp2
    go_quiet (fail)
    go_wp2
    go_region
    go_wp2
    refine bodyPost_end (results_none rfl _ _ _) rfl ⟨rfl, ?_, ?_⟩
    · exact StAt.setWho (w := ((w.alloc _).drewN _).drew) HB.out x (-1) hx hl
    · exact ((only_alloc b w _).drewN.drew).setCell _ _
  · rw [if_neg hw]
    have hq : (s.who x == (t : Int)) = false := by simpa using hw
    clear hw
    go_enter Try.func69, Try.ntmps69
    go_wp2
    go_quiet (fail)
    go_wp2
    refine bodyPost_end (results_none rfl _ _ _) rfl ⟨rfl, ?_, ?_⟩
    · exact HB.out
    · exact (only_alloc b w _).drewN

set_option maxRecDepth 100000 in
set_option maxHeartbeats 1000000 in
theorem jump_any {s : St} {b : Nat} {w : World} (h : StAt w b s) (t : Nat) (ht : t < s.ts.length) (h4 : s.ts.length ≤ 4) (kd n : Int) (r x : Nat) (hr : r < 2) :
    Calls Try.prog 70 #[.pointer (some ⟨b, 0, none⟩), .int .i64 t, .agg #[.int .i64 kd, .int .i64 r, .int .i64 x, .int .i64 n]] w fun e w' => e = .returned (.tuple #[]) ∧ StAt w' b (if (s.th t).r.getD r 0 = 0 then s else s.put t { s.th t with at_ := x }) ∧ Only b w w' := by
  have hbl := h.lt
  have H := Lib.hid h
  have HB := Lib.hid (h.later (below_alloc1 w (.cells #[.int .i64 kd, .int .i64 r, .int .i64 x, .int .i64 n] 58)))
  have hfz := fun o => HB.out.frozen o
  have hff := fun o => h.frozen o
  clear h
  have c0 := H.out.num (2 + t * 37 + (35 + r)) (by omega)
  rw [stNum_thr _ _ _ (by omega) (by omega), thr_reg, ← Nat.add_assoc] at c0
  have c1 := H.out.num (2 + t * 37 + 33) (by omega)
  by_cases hw : (s.th t).r.getD r 0 = 0
  · rw [if_pos hw]
    rw [hw] at c0
    clear hw
    go_enter Try.func70, Try.ntmps70
    go_wp2
    go_quiet (fail)
    go_wp2
    refine bodyPost_end (results_none rfl _ _ _) rfl ⟨rfl, ?_, ?_⟩
    · exact HB.out
    · exact (only_alloc b w _).drewN
  · rw [if_neg hw]
    have hq : ((s.th t).r.getD r 0 != 0) = true := by simpa using hw
    generalize (s.th t).r.getD r 0 = g at *
    clear hw
    go_enter Try.func70, Try.ntmps70
    go_wp2
    go_quiet (fail)
    go_wp2
    refine bodyPost_end (results_none rfl _ _ _) rfl ⟨rfl, ?_, ?_⟩
    · exact StAt.setAt (w := (w.alloc _).drewN _) HB.out t x ht h4
    · exact (only_alloc b w _).drewN.setCell _ _

set_option maxRecDepth 100000 in
set_option maxHeartbeats 1000000 in
theorem assert_any {s : St} {b : Nat} {w : World} (h : StAt w b s) (t : Nat) (_ht : t < s.ts.length) (_h4 : s.ts.length ≤ 4) (kd n : Int) (r x : Int) :
    Calls Try.prog 71 #[.pointer (some ⟨b, 0, none⟩), .int .i64 t, .agg #[.int .i64 kd, .int .i64 r, .int .i64 x, .int .i64 n]] w fun e w' => e = .returned (.tuple #[]) ∧ StAt w' b (s) ∧ Only b w w' := by
  have hbl := h.lt
  have H := Lib.hid h
  have HB := Lib.hid (h.later (below_alloc1 w (.cells #[.int .i64 kd, .int .i64 r, .int .i64 x, .int .i64 n] 58)))
  have hfz := fun o => HB.out.frozen o
  have hff := fun o => h.frozen o
  clear h
  go_enter Try.func71, Try.ntmps71
  go_wp2
  refine bodyPost_end (results_none rfl _ _ _) rfl ⟨rfl, ?_, ?_⟩
  · exact HB.out
  · exact only_alloc b w _

end Go.Proofs.Ytkjjbcgecnjniaa

/- The contract of do. -/
namespace Go.Proofs.Ytkjjbcgecnjniaa
open Go.RowKit

set_option maxRecDepth 100000 in
set_option maxHeartbeats 1000000 in
theorem deeds_any (w : World) : Calls Try.prog 53 #[] w fun r w' => r = .returned (.agg #[.nilFunc, .func (.func 64) #[] #[], .func (.func 65) #[] #[], .func (.func 66) #[] #[], .func (.func 67) #[] #[], .func (.func 68) #[] #[], .func (.func 69) #[] #[], .func (.func 70) #[] #[], .func (.func 71) #[] #[]]) ∧ Below w.heap.size w w' := by
  go_enter Try.func53, Try.ntmps53
  go_wp2
  refine bodyPost_ret (v := .agg #[.nilFunc, .func (.func 64) #[] #[], .func (.func 65) #[] #[], .func (.func 66) #[] #[], .func (.func 67) #[] #[], .func (.func 68) #[] #[], .func (.func 69) #[] #[], .func (.func 70) #[] #[], .func (.func 71) #[] #[]]) ?_ rfl ⟨rfl, below_alloc1 w _⟩
  simp [results, Try.results53, go_sem]

theorem Only.setNew {b g : Nat} {w w1 : World} (h : Only b w w1) (hg : w.heap.size ≤ g) (o : Nat) (v : Value) : Only b w (w1.setCell ⟨g, o, none⟩ v) :=
  ⟨h.os, h.tape, h.output, by simp [World.setCell]; exact h.size, fun k hk hb => (Below.heap_setCell _ _ _ _ (by show k ≠ g; omega)).trans (h.block k hk hb)⟩
theorem Only.set4 {b g : Nat} {w w1 : World} (h : Only b w w1) (hg : w.heap.size ≤ g) (v0 v1 v2 v3 : Value) : Only b w ((((w1.setCell ⟨g, 0, none⟩ v0).setCell ⟨g, 1, none⟩ v1).setCell ⟨g, 2, none⟩ v2).setCell ⟨g, 3, none⟩ v3) :=
  (((h.setNew hg 0 v0).setNew hg 1 v1).setNew hg 2 v2).setNew hg 3 v3
theorem StAt.other {b g : Nat} {w : World} {s : St} (h : StAt w b s) (hg : b ≠ g) (o : Nat) (v : Value) : StAt (w.setCell ⟨g, o, none⟩ v) b s := (Below.heap_setCell _ _ _ _ hg).trans h
theorem StAt.other4 {b g : Nat} {w : World} {s : St} (h : StAt w b s) (hg : b ≠ g) (v0 v1 v2 v3 : Value) : StAt ((((w.setCell ⟨g, 0, none⟩ v0).setCell ⟨g, 1, none⟩ v1).setCell ⟨g, 2, none⟩ v2).setCell ⟨g, 3, none⟩ v3) b s :=
  (((h.other hg 0 v0).other hg 1 v1).other hg 2 v2).other hg 3 v3

theorem St.put_th (s : St) (t : Nat) (y : Thr) (ht : t < s.ts.length) : (s.put t y).th t = y := by
  unfold St.put St.th
  simp only [Int.toNat_natCast]
  rw [getD_set _ _ _ _ _ ht, if_pos rfl]
theorem St.put_put (s : St) (t : Nat) (y z : Thr) : (s.put t y).put t z = s.put t z := by
  simp [St.put]
theorem St.put_len (s : St) (t : Nat) (y : Thr) : (s.put t y).ts.length = s.ts.length := by
  simp [St.put]

/-- The thread behind fuel and place. -/
def St.go (s : St) (t : Nat) : St := s.put t { s.th t with fuel := (s.th t).fuel - 1, at_ := (s.th t).at_ + 1 }
theorem St.go_th (s : St) (t : Nat) (ht : t < s.ts.length) : (s.go t).th t = { s.th t with fuel := (s.th t).fuel - 1, at_ := (s.th t).at_ + 1 } := St.put_th _ _ _ ht
theorem StAt.go {w : World} {b : Nat} {s : St} (h : StAt w b s) (t f a : Nat) (ht : t < s.ts.length) (h4 : s.ts.length ≤ 4) (hf : (s.th t).fuel = f + 1) (ha : (s.th t).at_ = a) :
    StAt ((w.setCell ⟨b, 2 + t * 37 + 34, none⟩ (.int .i64 f)).setCell ⟨b, 2 + t * 37 + 33, none⟩ (.int .i64 ((a + 1 : Nat) : Int))) b (s.go t) := by
  have h1 := h.setFuel t f ht h4
  have h2 := h1.setAt t (a + 1) (by rw [St.put_len]; exact ht) (by rw [St.put_len]; exact h4)
  rw [St.put_th _ _ _ ht, St.put_put] at h2
  unfold St.go
  rw [hf, ha]
  exact h2

theorem thr_go (s : St) (t : Nat) (i : Ins) (_ht : t < s.ts.length) : s.do_ t i = { s.put t (s.thr t i) with
    v := if i.kind = 2 then s.v.set i.x.toNat (s.reg t i) else s.v
    m := if i.kind = 5 then s.m.set i.x.toNat t else if i.kind = 6 ∧ s.who i.x = t then s.m.set i.x.toNat (-1) else s.m } := rfl

theorem go_load (s : St) (t r x : Nat) (n : Int) (ht : t < s.ts.length) : (s.go t).put t { (s.go t).th t with r := ((s.go t).th t).r.set r ((s.go t).v.getD x 0) } = s.do_ t ⟨1, r, x, n⟩ := by
  rw [St.go_th s t ht]; unfold St.go; rw [St.put_put, thr_go s t _ ht]; rfl
theorem go_store (s : St) (t r x : Nat) (n : Int) (ht : t < s.ts.length) : { s.go t with v := (s.go t).v.set x (((s.go t).th t).r.getD r 0) } = s.do_ t ⟨2, r, x, n⟩ := by
  rw [St.go_th s t ht, thr_go s t _ ht]; rfl
theorem go_set (s : St) (t r x : Nat) (n : Int) (ht : t < s.ts.length) : (s.go t).put t { (s.go t).th t with r := ((s.go t).th t).r.set r n } = s.do_ t ⟨3, r, x, n⟩ := by
  rw [St.go_th s t ht]; unfold St.go; rw [St.put_put, thr_go s t _ ht]; rfl
theorem go_add (s : St) (t r x : Nat) (n : Int) (ht : t < s.ts.length) : (s.go t).put t { (s.go t).th t with r := ((s.go t).th t).r.set r (IntKind.i64.wrap (((s.go t).th t).r.getD r 0 + n)) } = s.do_ t ⟨4, r, x, n⟩ := by
  rw [St.go_th s t ht]; unfold St.go; rw [St.put_put, thr_go s t _ ht]; rfl
theorem go_lock (s : St) (t r x : Nat) (n : Int) (ht : t < s.ts.length) : { s.go t with m := (s.go t).m.set x t } = s.do_ t ⟨5, r, x, n⟩ := by
  rw [thr_go s t _ ht]; rfl
theorem go_unlock (s : St) (t r x : Nat) (n : Int) (ht : t < s.ts.length) : (if (s.go t).who x = t then { s.go t with m := (s.go t).m.set x (-1) } else s.go t) = s.do_ t ⟨6, r, x, n⟩ := by
  have e : (s.go t).who x = s.who x := rfl
  rw [thr_go s t _ ht, e]
  dsimp only
  by_cases h : s.who x = t
  · rw [if_pos h]; simp only [h, and_self, if_true, Int.toNat_natCast]; rfl
  · rw [if_neg h]; simp only [h, and_false, if_false]; rfl
theorem go_jump (s : St) (t r x : Nat) (n : Int) (ht : t < s.ts.length) : (if ((s.go t).th t).r.getD r 0 = 0 then s.go t else (s.go t).put t { (s.go t).th t with at_ := x }) = s.do_ t ⟨7, r, x, n⟩ := by
  rw [St.go_th s t ht, thr_go s t _ ht]
  unfold St.go
  rw [St.put_put]
  by_cases h : (s.th t).r.getD r 0 = 0
  · have h' : s.reg t ⟨7, r, x, n⟩ = 0 := h
    dsimp only
    rw [if_pos h]
    unfold St.thr
    simp only [h', ne_eq, not_true, and_false, if_false]
    rfl
  · have h' : ¬ s.reg t ⟨7, r, x, n⟩ = 0 := h
    dsimp only
    rw [if_neg h]
    unfold St.thr
    simp only [h', ne_eq, not_false_eq_true, and_self, if_true, Int.toNat_natCast]
    rfl
theorem go_assert (s : St) (t r x : Nat) (n : Int) (ht : t < s.ts.length) : s.go t = s.do_ t ⟨8, r, x, n⟩ := by
  rw [thr_go s t _ ht]; rfl

end Go.Proofs.Ytkjjbcgecnjniaa

/- The contract of do. -/
namespace Go.Proofs.Ytkjjbcgecnjniaa
open Go.RowKit

set_option maxRecDepth 100000 in
set_option maxHeartbeats 4000000 in
theorem do_any {F : Nat} {s : St} {b : Nat} {w : World} (h : StAt w b s) (ok : s.Ok F) (t : Nat) (i : Ins) (hi : s.ins t = some i) :
    Calls Try.prog 40 #[.pointer (some ⟨b, 0, none⟩), .int .i64 t, .agg #[.int .i64 i.kind, .int .i64 i.r, .int .i64 i.x, .int .i64 i.n]] w fun e w' => e = .returned (.tuple #[]) ∧ StAt w' b (s.do_ t i) ∧ Only b w w' := by
  obtain ⟨o1, o2, o3, o4, o5, o6⟩ := ok.obj hi
  obtain ⟨_, hf, _⟩ := St.ins_has hi
  have hk : i.kind = 1 ∨ i.kind = 2 ∨ i.kind = 3 ∨ i.kind = 4 ∨ i.kind = 5 ∨ i.kind = 6 ∨ i.kind = 7 ∨ i.kind = 8 := by
    have := (ok.ins_right hi).1
    unfold rightIns at this
    repeat' split at this
    all_goals first | omega | (cases this)
  have hx0 : 0 ≤ i.x := by
    have := (ok.ins_right hi).1
    unfold rightIns at this
    repeat' split at this
    all_goals first | (simp only [decide_eq_true_eq] at this; omega) | (cases this)
  obtain ⟨k, hkk, ht⟩ := St.ins_nat hi
  obtain rfl : t = k := by omega
  have h4 := ok.len4
  have hbl := h.lt
  have hrl : (s.th t).r.length = 2 := (ok.thr _ (St.th_mem ht)).1
  have hvl := ok.vl
  have hml := ok.ml
  obtain ⟨kd, r, x, n⟩ := i
  dsimp only at *
  obtain ⟨r, rfl⟩ : ∃ y : Nat, r = y := ⟨r.toNat, by omega⟩
  obtain ⟨x, rfl⟩ : ∃ y : Nat, x = y := ⟨x.toNat, by omega⟩
  obtain ⟨f, hf⟩ : ∃ f, (s.th t).fuel = f + 1 := ⟨(s.th t).fuel - 1, by simp at hf; omega⟩
  have c0 := h.num (2 + t * 37 + 34) (by omega)
  rw [stNum_thr _ _ _ (by omega) (by omega), thr_fuel, hf, Int.natCast_add] at c0
  have c1 := h.num (2 + t * 37 + 33) (by omega)
  rw [stNum_thr _ _ _ (by omega) (by omega), thr_at] at c1
  have hf8 : f ≤ 1000 := by have := (ok.thr _ (St.th_mem ht)).2.2; have := ok.f8; omega
  have ha8 : (s.th t).at_ ≤ 8 := by have := ok.place t ht; have := ok.code8 t ht; omega
  have HG := Lib.hid (h.go t f (s.th t).at_ ht h4 hf rfl)
  have hff := fun o => h.frozen o
  generalize (s.th t).at_ = a at *
  have H := Lib.hid h
  have OK := Lib.hid ok
  have HK := Lib.hid hk
  have HT := Lib.hid (And.intro hrl (And.intro hvl (And.intro hml (And.intro o1 (And.intro o2 o3)))))
  clear h ok hk hf hi hkk hrl hvl hml o1 o2 o3 o6
  go_enter Try.func40, Try.ntmps40
  go_wp2
  have HW : Hid (StAt (((w.setCell ⟨b, 2 + t * 37 + 34, none⟩ (.int .i64 f)).setCell ⟨b, 2 + t * 37 + 33, none⟩ (.int .i64 (a + 1))).alloc (.cells #[.int .i64 kd, .int .i64 r, .int .i64 x, .int .i64 n] 58)) b (s.go t)) := HG.out.later (below_alloc1 _ _)
  have HO : Hid (Only b w (((w.setCell ⟨b, 2 + t * 37 + 34, none⟩ (.int .i64 f)).setCell ⟨b, 2 + t * 37 + 33, none⟩ (.int .i64 (a + 1))).alloc (.cells #[.int .i64 kd, .int .i64 r, .int .i64 x, .int .i64 n] 58))) := (((Only.refl b w).setCell _ _).setCell _ _).alloc _
  have HZ : Hid (w.heap.size < (((w.setCell ⟨b, 2 + t * 37 + 34, none⟩ (.int .i64 f)).setCell ⟨b, 2 + t * 37 + 33, none⟩ (.int .i64 (a + 1))).alloc (.cells #[.int .i64 kd, .int .i64 r, .int .i64 x, .int .i64 n] 58)).heap.size) := by show _ < _; simp [World.setCell]
  have HC : Hid ((((w.setCell ⟨b, 2 + t * 37 + 34, none⟩ (.int .i64 f)).setCell ⟨b, 2 + t * 37 + 33, none⟩ (.int .i64 (a + 1))).alloc (.cells #[.int .i64 kd, .int .i64 r, .int .i64 x, .int .i64 n] 58)).heap[w.heap.size]? = some (.cells #[.int .i64 kd, .int .i64 r, .int .i64 x, .int .i64 n] 58 (0, 0))) := by
    show _ = _
    have := heap_alloc_new ((w.setCell ⟨b, 2 + t * 37 + 34, none⟩ (.int .i64 f)).setCell ⟨b, 2 + t * 37 + 33, none⟩ (.int .i64 (a + 1))) (.cells #[.int .i64 kd, .int .i64 r, .int .i64 x, .int .i64 n] 58)
    simpa [World.setCell] using this
  clear c0 c1 hff HG H
  generalize ((w.setCell ⟨b, 2 + t * 37 + 34, none⟩ (.int .i64 f)).setCell ⟨b, 2 + t * 37 + 33, none⟩ (.int .i64 (a + 1))).alloc (.cells #[.int .i64 kd, .int .i64 r, .int .i64 x, .int .i64 n] 58) = W at *
  generalize w.heap.size = gw at *
  have hz := HZ.out
  have HQ : Hid (∀ w', Below W.heap.size W w' → w'.cell? ⟨gw, 0, none⟩ = some (.int .i64 kd) ∧ Below W.heap.size W w') := fun w' h => ⟨by rw [h.cell (p := ⟨gw, 0, none⟩) hz]; simp [World.cell?, HC.out], h⟩
  have HQ2 : Hid (∀ w', Below W.heap.size W w' → w'.cell? ⟨gw, 0, none⟩ = some (.int .i64 kd) ∧ w'.cell? ⟨gw, 1, none⟩ = some (.int .i64 r) ∧ w'.cell? ⟨gw, 2, none⟩ = some (.int .i64 x) ∧ w'.cell? ⟨gw, 3, none⟩ = some (.int .i64 n)) := fun w' h => by
    refine ⟨?_, ?_, ?_, ?_⟩
    · rw [h.cell (p := ⟨gw, 0, none⟩) hz]; simp [World.cell?, HC.out]
    · rw [h.cell (p := ⟨gw, 1, none⟩) hz]; simp [World.cell?, HC.out]
    · rw [h.cell (p := ⟨gw, 2, none⟩) hz]; simp [World.cell?, HC.out]
    · rw [h.cell (p := ⟨gw, 3, none⟩) hz]; simp [World.cell?, HC.out]
  have hB9 : Below W.heap.size W W.drew := (Below.refl _ _).drew
  clear HZ HC
  rcases HK.out with rfl | rfl | rfl | rfl | rfl | rfl | rfl | rfl
  · have hix : ∀ w', (Instr.index 126 (.agg #[.nilFunc, .func (.func 64) #[] #[], .func (.func 65) #[] #[], .func (.func 66) #[] #[], .func (.func 67) #[] #[], .func (.func 68) #[] #[], .func (.func 69) #[] #[], .func (.func 70) #[] #[], .func (.func 71) #[] #[]]) (.int .i64 1)).run Try.prog w' = .ok (.func (.func 64) #[] #[]) w' := fun w' => run_index_one w' 1 Try.underlying126 Try.underlying125 rfl (by kernel_rfl) (by omega) rfl
    go_region_held3 (fun w' => w'.cell? ⟨gw, 0, none⟩ = some (.int .i64 1) ∧ Below W.heap.size W w') (first | exact HQ.out _ hB9 | exact HQ.out _ hB10)
      (first | (go_at_call 53; refine (deeds_any _).mono ?_; rintro r1 w10 ⟨rfl, hb10⟩; have hB10 := hB9.trans (hb10.mono hB9.size)))
    obtain ⟨q0, q1, q2, q3⟩ := HQ2.out _ hB10
    go_wp2_with fail
    obtain ⟨hrl, hvl, hml, o1, o2, o3⟩ := HT.out
    refine (load_any (HW.out.later hB10) t (by rw [St.go, St.put_len]; exact ht) (by rw [St.go, St.put_len]; exact h4) _ _ r x (by omega) (by have := o1 (by simp); omega) (by rw [St.go_th _ _ ht]; exact hrl)).mono ?_
    rintro r1 w11 ⟨rfl, hs, ho⟩
    clear hrl hvl hml o1 o2 o3
    rw [go_load s t r x n ht] at hs
    go_wp2
    exact bodyPost_end (results_none rfl _ _ _) rfl ⟨rfl, hs, (HO.out.trans (.of_below hB10)).trans ho⟩
  · have hix : ∀ w', (Instr.index 126 (.agg #[.nilFunc, .func (.func 64) #[] #[], .func (.func 65) #[] #[], .func (.func 66) #[] #[], .func (.func 67) #[] #[], .func (.func 68) #[] #[], .func (.func 69) #[] #[], .func (.func 70) #[] #[], .func (.func 71) #[] #[]]) (.int .i64 2)).run Try.prog w' = .ok (.func (.func 65) #[] #[]) w' := fun w' => run_index_one w' 2 Try.underlying126 Try.underlying125 rfl (by kernel_rfl) (by omega) rfl
    go_region_held3 (fun w' => w'.cell? ⟨gw, 0, none⟩ = some (.int .i64 2) ∧ Below W.heap.size W w') (first | exact HQ.out _ hB9 | exact HQ.out _ hB10)
      (first | (go_at_call 53; refine (deeds_any _).mono ?_; rintro r1 w10 ⟨rfl, hb10⟩; have hB10 := hB9.trans (hb10.mono hB9.size)))
    obtain ⟨q0, q1, q2, q3⟩ := HQ2.out _ hB10
    go_wp2_with fail
    obtain ⟨hrl, hvl, hml, o1, o2, o3⟩ := HT.out
    refine (store_any (HW.out.later hB10) t (by rw [St.go, St.put_len]; exact ht) (by rw [St.go, St.put_len]; exact h4) _ _ r x (by omega) (by have := o1 (by simp); omega) hvl).mono ?_
    rintro r1 w11 ⟨rfl, hs, ho⟩
    clear hrl hvl hml o1 o2 o3
    rw [go_store s t r x n ht] at hs
    go_wp2
    exact bodyPost_end (results_none rfl _ _ _) rfl ⟨rfl, hs, (HO.out.trans (.of_below hB10)).trans ho⟩
  · have hix : ∀ w', (Instr.index 126 (.agg #[.nilFunc, .func (.func 64) #[] #[], .func (.func 65) #[] #[], .func (.func 66) #[] #[], .func (.func 67) #[] #[], .func (.func 68) #[] #[], .func (.func 69) #[] #[], .func (.func 70) #[] #[], .func (.func 71) #[] #[]]) (.int .i64 3)).run Try.prog w' = .ok (.func (.func 66) #[] #[]) w' := fun w' => run_index_one w' 3 Try.underlying126 Try.underlying125 rfl (by kernel_rfl) (by omega) rfl
    go_region_held3 (fun w' => w'.cell? ⟨gw, 0, none⟩ = some (.int .i64 3) ∧ Below W.heap.size W w') (first | exact HQ.out _ hB9 | exact HQ.out _ hB10)
      (first | (go_at_call 53; refine (deeds_any _).mono ?_; rintro r1 w10 ⟨rfl, hb10⟩; have hB10 := hB9.trans (hb10.mono hB9.size)))
    obtain ⟨q0, q1, q2, q3⟩ := HQ2.out _ hB10
    go_wp2_with fail
    obtain ⟨hrl, hvl, hml, o1, o2, o3⟩ := HT.out
    refine (set_any (HW.out.later hB10) t (by rw [St.go, St.put_len]; exact ht) (by rw [St.go, St.put_len]; exact h4) _ _ r x (by omega) (by rw [St.go_th _ _ ht]; exact hrl)).mono ?_
    rintro r1 w11 ⟨rfl, hs, ho⟩
    clear hrl hvl hml o1 o2 o3
    rw [go_set s t r x n ht] at hs
    go_wp2
    exact bodyPost_end (results_none rfl _ _ _) rfl ⟨rfl, hs, (HO.out.trans (.of_below hB10)).trans ho⟩
  · have hix : ∀ w', (Instr.index 126 (.agg #[.nilFunc, .func (.func 64) #[] #[], .func (.func 65) #[] #[], .func (.func 66) #[] #[], .func (.func 67) #[] #[], .func (.func 68) #[] #[], .func (.func 69) #[] #[], .func (.func 70) #[] #[], .func (.func 71) #[] #[]]) (.int .i64 4)).run Try.prog w' = .ok (.func (.func 67) #[] #[]) w' := fun w' => run_index_one w' 4 Try.underlying126 Try.underlying125 rfl (by kernel_rfl) (by omega) rfl
    go_region_held3 (fun w' => w'.cell? ⟨gw, 0, none⟩ = some (.int .i64 4) ∧ Below W.heap.size W w') (first | exact HQ.out _ hB9 | exact HQ.out _ hB10)
      (first | (go_at_call 53; refine (deeds_any _).mono ?_; rintro r1 w10 ⟨rfl, hb10⟩; have hB10 := hB9.trans (hb10.mono hB9.size)))
    obtain ⟨q0, q1, q2, q3⟩ := HQ2.out _ hB10
    go_wp2_with fail
    obtain ⟨hrl, hvl, hml, o1, o2, o3⟩ := HT.out
    refine (add_any (HW.out.later hB10) t (by rw [St.go, St.put_len]; exact ht) (by rw [St.go, St.put_len]; exact h4) _ _ r x (by omega) (by rw [St.go_th _ _ ht]; exact hrl)).mono ?_
    rintro r1 w11 ⟨rfl, hs, ho⟩
    clear hrl hvl hml o1 o2 o3
    rw [go_add s t r x n ht] at hs
    go_wp2
    exact bodyPost_end (results_none rfl _ _ _) rfl ⟨rfl, hs, (HO.out.trans (.of_below hB10)).trans ho⟩
  · have hix : ∀ w', (Instr.index 126 (.agg #[.nilFunc, .func (.func 64) #[] #[], .func (.func 65) #[] #[], .func (.func 66) #[] #[], .func (.func 67) #[] #[], .func (.func 68) #[] #[], .func (.func 69) #[] #[], .func (.func 70) #[] #[], .func (.func 71) #[] #[]]) (.int .i64 5)).run Try.prog w' = .ok (.func (.func 68) #[] #[]) w' := fun w' => run_index_one w' 5 Try.underlying126 Try.underlying125 rfl (by kernel_rfl) (by omega) rfl
    go_region_held3 (fun w' => w'.cell? ⟨gw, 0, none⟩ = some (.int .i64 5) ∧ Below W.heap.size W w') (first | exact HQ.out _ hB9 | exact HQ.out _ hB10)
      (first | (go_at_call 53; refine (deeds_any _).mono ?_; rintro r1 w10 ⟨rfl, hb10⟩; have hB10 := hB9.trans (hb10.mono hB9.size)))
    obtain ⟨q0, q1, q2, q3⟩ := HQ2.out _ hB10
    go_wp2_with fail
    obtain ⟨hrl, hvl, hml, o1, o2, o3⟩ := HT.out
    refine (lock_any (HW.out.later hB10) t (by rw [St.go, St.put_len]; exact ht) (by rw [St.go, St.put_len]; exact h4) _ _ r x (by have := o2 (by simp); omega) hml).mono ?_
    rintro r1 w11 ⟨rfl, hs, ho⟩
    clear hrl hvl hml o1 o2 o3
    rw [go_lock s t r x n ht] at hs
    go_wp2
    exact bodyPost_end (results_none rfl _ _ _) rfl ⟨rfl, hs, (HO.out.trans (.of_below hB10)).trans ho⟩
  · have hix : ∀ w', (Instr.index 126 (.agg #[.nilFunc, .func (.func 64) #[] #[], .func (.func 65) #[] #[], .func (.func 66) #[] #[], .func (.func 67) #[] #[], .func (.func 68) #[] #[], .func (.func 69) #[] #[], .func (.func 70) #[] #[], .func (.func 71) #[] #[]]) (.int .i64 6)).run Try.prog w' = .ok (.func (.func 69) #[] #[]) w' := fun w' => run_index_one w' 6 Try.underlying126 Try.underlying125 rfl (by kernel_rfl) (by omega) rfl
    go_region_held3 (fun w' => w'.cell? ⟨gw, 0, none⟩ = some (.int .i64 6) ∧ Below W.heap.size W w') (first | exact HQ.out _ hB9 | exact HQ.out _ hB10)
      (first | (go_at_call 53; refine (deeds_any _).mono ?_; rintro r1 w10 ⟨rfl, hb10⟩; have hB10 := hB9.trans (hb10.mono hB9.size)))
    obtain ⟨q0, q1, q2, q3⟩ := HQ2.out _ hB10
    go_wp2_with fail
    obtain ⟨hrl, hvl, hml, o1, o2, o3⟩ := HT.out
    refine (unlock_any (HW.out.later hB10) t (by rw [St.go, St.put_len]; exact ht) (by rw [St.go, St.put_len]; exact h4) _ _ r x (by have := o2 (by simp); omega) hml).mono ?_
    rintro r1 w11 ⟨rfl, hs, ho⟩
    clear hrl hvl hml o1 o2 o3
    rw [go_unlock s t r x n ht] at hs
    go_wp2
    exact bodyPost_end (results_none rfl _ _ _) rfl ⟨rfl, hs, (HO.out.trans (.of_below hB10)).trans ho⟩
  · have hix : ∀ w', (Instr.index 126 (.agg #[.nilFunc, .func (.func 64) #[] #[], .func (.func 65) #[] #[], .func (.func 66) #[] #[], .func (.func 67) #[] #[], .func (.func 68) #[] #[], .func (.func 69) #[] #[], .func (.func 70) #[] #[], .func (.func 71) #[] #[]]) (.int .i64 7)).run Try.prog w' = .ok (.func (.func 70) #[] #[]) w' := fun w' => run_index_one w' 7 Try.underlying126 Try.underlying125 rfl (by kernel_rfl) (by omega) rfl
    go_region_held3 (fun w' => w'.cell? ⟨gw, 0, none⟩ = some (.int .i64 7) ∧ Below W.heap.size W w') (first | exact HQ.out _ hB9 | exact HQ.out _ hB10)
      (first | (go_at_call 53; refine (deeds_any _).mono ?_; rintro r1 w10 ⟨rfl, hb10⟩; have hB10 := hB9.trans (hb10.mono hB9.size)))
    obtain ⟨q0, q1, q2, q3⟩ := HQ2.out _ hB10
    go_wp2_with fail
    obtain ⟨hrl, hvl, hml, o1, o2, o3⟩ := HT.out
    refine (jump_any (HW.out.later hB10) t (by rw [St.go, St.put_len]; exact ht) (by rw [St.go, St.put_len]; exact h4) _ _ r x (by omega)).mono ?_
    rintro r1 w11 ⟨rfl, hs, ho⟩
    clear hrl hvl hml o1 o2 o3
    rw [go_jump s t r x n ht] at hs
    go_wp2
    exact bodyPost_end (results_none rfl _ _ _) rfl ⟨rfl, hs, (HO.out.trans (.of_below hB10)).trans ho⟩
  · have hix : ∀ w', (Instr.index 126 (.agg #[.nilFunc, .func (.func 64) #[] #[], .func (.func 65) #[] #[], .func (.func 66) #[] #[], .func (.func 67) #[] #[], .func (.func 68) #[] #[], .func (.func 69) #[] #[], .func (.func 70) #[] #[], .func (.func 71) #[] #[]]) (.int .i64 8)).run Try.prog w' = .ok (.func (.func 71) #[] #[]) w' := fun w' => run_index_one w' 8 Try.underlying126 Try.underlying125 rfl (by kernel_rfl) (by omega) rfl
    go_region_held3 (fun w' => w'.cell? ⟨gw, 0, none⟩ = some (.int .i64 8) ∧ Below W.heap.size W w') (first | exact HQ.out _ hB9 | exact HQ.out _ hB10)
      (first | (go_at_call 53; refine (deeds_any _).mono ?_; rintro r1 w10 ⟨rfl, hb10⟩; have hB10 := hB9.trans (hb10.mono hB9.size)))
    obtain ⟨q0, q1, q2, q3⟩ := HQ2.out _ hB10
    go_wp2_with fail
    obtain ⟨hrl, hvl, hml, o1, o2, o3⟩ := HT.out
    refine (assert_any (HW.out.later hB10) t (by rw [St.go, St.put_len]; exact ht) (by rw [St.go, St.put_len]; exact h4) _ _ r x).mono ?_
    rintro r1 w11 ⟨rfl, hs, ho⟩
    clear hrl hvl hml o1 o2 o3
    rw [go_assert s t r x n ht] at hs
    go_wp2
    exact bodyPost_end (results_none rfl _ _ _) rfl ⟨rfl, hs, (HO.out.trans (.of_below hB10)).trans ho⟩

end Go.Proofs.Ytkjjbcgecnjniaa

/- The contract of Step. -/
namespace Go.Proofs.Ytkjjbcgecnjniaa
open Go.RowKit

def stepV (x : Int × Ev × St) : Value := .tuple #[evV x.2.1, .int .i64 x.1]
theorem stepV_err (e : Int) (s : St) : stepV (e, ev0, s) = .tuple #[.agg #[.int .i64 0, .int .i64 0, .int .i64 0, .bool false], .int .i64 e] := rfl
theorem stepV_ok (e : Ev) (s : St) : stepV (0, e, s) = .tuple #[.agg #[.int .i64 e.thread, .int .i64 e.kind, .int .i64 e.obj, .bool e.fail], .int .i64 0] := rfl

set_option maxRecDepth 100000 in
set_option maxHeartbeats 2000000 in
theorem step_range {F : Nat} {s : St} {b : Nat} {w : World} (h : StAt w b s) (_ok : s.Ok F) (t : Int) (hb : belowB t s.ts.length = false) :
    Calls Try.prog 20 #[.pointer (some ⟨b, 0, none⟩), .int .i64 t] w fun e w' => e = .returned (stepV (s.step t)) ∧ StAt w' b (s.step t).2.2 ∧ Only b w w' := by
  have hst : s.step t = (2, ev0, s) := by
    unfold St.step
    rw [if_neg (fun e => by unfold St.has at e; simp [belowB] at hb; omega)]
  rw [hst, stepV_err]
  have hbl := h.lt
  have c0 := h.num 0 (by omega)
  rw [stNum_threads] at c0
  have HB := Lib.hid (h.later (below_alloc1 w (.cells #[.int .i64 0, .int .i64 0, .int .i64 0, .bool false] 50)))
  clear hst h
  go_enter Try.func20, Try.ntmps20
  go_wp2_with (go_at_call 37; refine (sbelow_any _ _ _).mono ?_; rintro r w' ⟨rfl, rfl⟩)
  refine bodyPost_ret (v := .tuple #[.agg #[.int .i64 0, .int .i64 0, .int .i64 0, .bool false], .int .i64 2]) (by simp [results, Try.results20, go_sem]) rfl ⟨rfl, ?_, ?_⟩
  · exact HB.out
  · exact only_alloc b w _

set_option maxRecDepth 100000 in
set_option maxHeartbeats 2000000 in
theorem step_none {F : Nat} {s : St} {b : Nat} {w : World} (h : StAt w b s) (ok : s.Ok F) (t : Int) (hb : belowB t s.ts.length = true) (hi : s.ins t = none) :
    Calls Try.prog 20 #[.pointer (some ⟨b, 0, none⟩), .int .i64 t] w fun e w' => e = .returned (stepV (s.step t)) ∧ StAt w' b (s.step t).2.2 ∧ Only b w w' := by
  have hst : s.step t = (6, ev0, s) := by
    unfold St.step
    rw [if_pos (by unfold St.has; simpa [belowB] using hb), hi]
  rw [hst, stepV_err]
  have hbl := h.lt
  have c0 := h.num 0 (by omega)
  rw [stNum_threads] at c0
  have HB := Lib.hid (h.later (below_alloc1 w (.cells #[.int .i64 0, .int .i64 0, .int .i64 0, .bool false] 50)))
  have OK := Lib.hid ok
  have HI := Lib.hid hi
  clear hst h ok hi
  go_enter Try.func20, Try.ntmps20
  go_wp2_with (go_at_call 37; refine (sbelow_any _ _ _).mono ?_; rintro r w' ⟨rfl, rfl⟩)
  refine (instr_any HB.out OK.out t).mono ?_
  rw [HI.out, insR_none]
  rintro r w1 ⟨rfl, hb1⟩
  have hz : w.heap.size < w1.heap.size := by have := hb1.size; simp at this; omega
  have hc : ∀ o, w1.cell? ⟨w.heap.size, o, none⟩ = (w.alloc (.cells #[.int .i64 0, .int .i64 0, .int .i64 0, .bool false] 50)).cell? ⟨w.heap.size, o, none⟩ := fun o => hb1.cell (p := ⟨w.heap.size, o, none⟩) (by simp)
  have hf : ∀ o, w1.frozen? ⟨w.heap.size, o, none⟩ = (w.alloc (.cells #[.int .i64 0, .int .i64 0, .int .i64 0, .bool false] 50)).frozen? ⟨w.heap.size, o, none⟩ := fun o => hb1.frozen (p := ⟨w.heap.size, o, none⟩) (by simp)
  have H1 := Lib.hid (HB.out.later hb1)
  have O1 := Lib.hid ((only_alloc b w (.cells #[.int .i64 0, .int .i64 0, .int .i64 0, .bool false] 50)).trans (.of_below hb1))
  have B1 : Hid (Below w.heap.size w w1) := (below_alloc1 w _).trans (hb1.mono (by simp))
  clear hb1 c0
  go_wp2
  refine bodyPost_ret (v := .tuple #[.agg #[.int .i64 0, .int .i64 0, .int .i64 0, .bool false], .int .i64 6]) (by simp [results, Try.results20, go_sem, hc, hz]) rfl ⟨rfl, ?_, ?_⟩
  · exact (H1.out.other4 (by omega) _ _ _ _).later (below_alloc1 _ _)
  · exact (O1.out.set4 (Nat.le_refl _) _ _ _ _).alloc _

set_option maxRecDepth 100000 in
set_option maxHeartbeats 4000000 in
theorem step_state {F : Nat} {s : St} {b : Nat} {w : World} (h : StAt w b s) (ok : s.Ok F) (t : Nat) (i : Ins) (hi : s.ins t = some i) (hm : s.may t = false) :
    Calls Try.prog 20 #[.pointer (some ⟨b, 0, none⟩), .int .i64 t] w fun e w' => e = .returned (stepV (s.step t)) ∧ StAt w' b (s.step t).2.2 ∧ Only b w w' := by
  obtain ⟨k, hkk, ht⟩ := St.ins_nat hi
  obtain rfl : t = k := by omega
  have hb : belowB t s.ts.length = true := by simp [belowB]; omega
  have hn : s.next t = some (s.ev t i) := by unfold St.next; rw [hi]; rfl
  have hst : s.step t = (9, ev0, s) := by
    unfold St.step
    rw [if_pos (by unfold St.has; omega), hi]
    simp only [hm]
    rfl
  rw [hst, stepV_err]
  clear hst
  have hbl := h.lt
  have c0 := h.num 0 (by omega)
  rw [stNum_threads] at c0
  have HB := Lib.hid (h.later (below_alloc1 w (.cells #[.int .i64 0, .int .i64 0, .int .i64 0, .bool false] 50)))
  have OK := Lib.hid ok
  have HI := Lib.hid hi
  have HM := Lib.hid hm
  obtain ⟨e, he⟩ : ∃ e, e = s.ev t i := ⟨_, rfl⟩
  rw [← he] at hn
  have HE := Lib.hid he
  have HN := Lib.hid hn
  clear h ok hi hkk hm he hn
  go_enter Try.func20, Try.ntmps20
  go_wp2_with (go_at_call 37; refine (sbelow_any _ _ _).mono ?_; rintro r w' ⟨rfl, rfl⟩)
  refine (instr_any HB.out OK.out t).mono ?_
  rw [HI.out, insR_some]
  rintro r w1 ⟨rfl, hb1⟩
  have hz : w.heap.size < w1.heap.size := by have := hb1.size; simp at this; omega
  have hc : ∀ o, w1.cell? ⟨w.heap.size, o, none⟩ = (w.alloc (.cells #[.int .i64 0, .int .i64 0, .int .i64 0, .bool false] 50)).cell? ⟨w.heap.size, o, none⟩ := fun o => hb1.cell (p := ⟨w.heap.size, o, none⟩) (by simp)
  have hf : ∀ o, w1.frozen? ⟨w.heap.size, o, none⟩ = (w.alloc (.cells #[.int .i64 0, .int .i64 0, .int .i64 0, .bool false] 50)).frozen? ⟨w.heap.size, o, none⟩ := fun o => hb1.frozen (p := ⟨w.heap.size, o, none⟩) (by simp)
  have H1 := Lib.hid ((HB.out.later hb1).later (below_alloc1 w1 (.cells #[.int .i64 i.kind, .int .i64 i.r, .int .i64 i.x, .int .i64 i.n] 58)))
  have B1 : Hid (Below w.heap.size w w1) := (below_alloc1 w _).trans (hb1.mono (by simp))
  clear hb1 c0 HB
  go_wp2_with fail
  refine (event_of H1.out OK.out HI.out).mono ?_
  rw [← HE.out, evV]
  rintro r w2 ⟨rfl, hb2⟩
  have hz2 : w1.heap.size < w2.heap.size := by have := hb2.size; simp at this; omega
  have hz3 : w.heap.size < w2.heap.size := by omega
  have B2 : Hid (Below w1.heap.size w1 w2) := (below_alloc1 w1 _).trans (hb2.mono (by simp))
  have hc2 : ∀ o, w2.cell? ⟨w.heap.size, o, none⟩ = w1.cell? ⟨w.heap.size, o, none⟩ := fun o => B2.out.cell (p := ⟨w.heap.size, o, none⟩) hz
  have hf2 : ∀ o, w2.frozen? ⟨w.heap.size, o, none⟩ = w1.frozen? ⟨w.heap.size, o, none⟩ := fun o => B2.out.frozen (p := ⟨w.heap.size, o, none⟩) hz
  have hd2 : ∀ o, w2.cell? ⟨w1.heap.size, o, none⟩ = (w1.alloc (.cells #[.int .i64 i.kind, .int .i64 i.r, .int .i64 i.x, .int .i64 i.n] 58)).cell? ⟨w1.heap.size, o, none⟩ := fun o => hb2.cell (p := ⟨w1.heap.size, o, none⟩) (by simp)
  have H2 := Lib.hid ((H1.out.later hb2).later (below_alloc1 w2 (.cells #[.int .i64 e.thread, .int .i64 e.kind, .int .i64 e.obj, .bool e.fail] 50)))
  clear hb2 H1
  go_wp2_with fail
  refine (may_of H2.out OK.out HN.out).mono ?_
  rw [HM.out]
  rintro r w3 ⟨rfl, hb3⟩
  have hz4 : w2.heap.size < w3.heap.size := by have := hb3.size; simp at this; omega
  have hz5 : w1.heap.size < w3.heap.size := by omega
  have hz6 : w.heap.size < w3.heap.size := by omega
  have B3 : Hid (Below w2.heap.size w2 w3) := (below_alloc1 w2 _).trans (hb3.mono (by simp))
  have hc3 : ∀ o, w3.cell? ⟨w.heap.size, o, none⟩ = w2.cell? ⟨w.heap.size, o, none⟩ := fun o => B3.out.cell (p := ⟨w.heap.size, o, none⟩) hz3
  have hf3 : ∀ o, w3.frozen? ⟨w.heap.size, o, none⟩ = w2.frozen? ⟨w.heap.size, o, none⟩ := fun o => B3.out.frozen (p := ⟨w.heap.size, o, none⟩) hz3
  have hd3 : ∀ o, w3.cell? ⟨w1.heap.size, o, none⟩ = w2.cell? ⟨w1.heap.size, o, none⟩ := fun o => B3.out.cell (p := ⟨w1.heap.size, o, none⟩) hz2
  have he3 : ∀ o, w3.cell? ⟨w2.heap.size, o, none⟩ = (w2.alloc (.cells #[.int .i64 e.thread, .int .i64 e.kind, .int .i64 e.obj, .bool e.fail] 50)).cell? ⟨w2.heap.size, o, none⟩ := fun o => hb3.cell (p := ⟨w2.heap.size, o, none⟩) (by simp)
  have H3 := Lib.hid (H2.out.later hb3)
  have W3 : Hid (Below w.heap.size w w3) := (B1.out.trans (B2.out.mono (by omega))).trans (B3.out.mono (by omega))
  clear hb3 H2
  go_wp2
  refine bodyPost_ret (v := .tuple #[.agg #[.int .i64 0, .int .i64 0, .int .i64 0, .bool false], .int .i64 9]) (by simp [results, Try.results20, go_sem, hc, hc2, hc3]) rfl ⟨rfl, ?_, ?_⟩
  · exact H3.out.other4 (by omega) _ _ _ _
  · exact (Only.of_below W3.out).set4 (Nat.le_refl _) _ _ _ _

set_option maxRecDepth 100000 in
set_option maxHeartbeats 4000000 in
theorem step_done {F : Nat} {s : St} {b : Nat} {w : World} (h : StAt w b s) (ok : s.Ok F) (t : Nat) (i : Ins) (hi : s.ins t = some i) (hm : s.may t = true) :
    Calls Try.prog 20 #[.pointer (some ⟨b, 0, none⟩), .int .i64 t] w fun e w' => e = .returned (stepV (s.step t)) ∧ StAt w' b (s.step t).2.2 ∧ Only b w w' := by
  obtain ⟨k, hkk, ht⟩ := St.ins_nat hi
  obtain rfl : t = k := by omega
  have hb : belowB t s.ts.length = true := by simp [belowB]; omega
  have hn : s.next t = some (s.ev t i) := by unfold St.next; rw [hi]; rfl
  have hst : s.step t = (0, s.ev t i, s.do_ t i) := by
    unfold St.step
    rw [if_pos (by unfold St.has; omega), hi]
    simp only [hm]
    rfl
  rw [hst, stepV_ok]
  clear hst
  dsimp only
  have hbl := h.lt
  have c0 := h.num 0 (by omega)
  rw [stNum_threads] at c0
  have HB := Lib.hid (h.later (below_alloc1 w (.cells #[.int .i64 0, .int .i64 0, .int .i64 0, .bool false] 50)))
  have OK := Lib.hid ok
  have HI := Lib.hid hi
  have HM := Lib.hid hm
  obtain ⟨e, he⟩ : ∃ e, e = s.ev t i := ⟨_, rfl⟩
  rw [← he] at hn ⊢
  have HE := Lib.hid he
  have HN := Lib.hid hn
  clear h ok hi hkk hm he hn
  go_enter Try.func20, Try.ntmps20
  go_wp2_with (go_at_call 37; refine (sbelow_any _ _ _).mono ?_; rintro r w' ⟨rfl, rfl⟩)
  refine (instr_any HB.out OK.out t).mono ?_
  rw [HI.out, insR_some]
  rintro r w1 ⟨rfl, hb1⟩
  have hz : w.heap.size < w1.heap.size := by have := hb1.size; simp at this; omega
  have hc : ∀ o, w1.cell? ⟨w.heap.size, o, none⟩ = (w.alloc (.cells #[.int .i64 0, .int .i64 0, .int .i64 0, .bool false] 50)).cell? ⟨w.heap.size, o, none⟩ := fun o => hb1.cell (p := ⟨w.heap.size, o, none⟩) (by simp)
  have hf : ∀ o, w1.frozen? ⟨w.heap.size, o, none⟩ = (w.alloc (.cells #[.int .i64 0, .int .i64 0, .int .i64 0, .bool false] 50)).frozen? ⟨w.heap.size, o, none⟩ := fun o => hb1.frozen (p := ⟨w.heap.size, o, none⟩) (by simp)
  have H1 := Lib.hid ((HB.out.later hb1).later (below_alloc1 w1 (.cells #[.int .i64 i.kind, .int .i64 i.r, .int .i64 i.x, .int .i64 i.n] 58)))
  have B1 : Hid (Below w.heap.size w w1) := (below_alloc1 w _).trans (hb1.mono (by simp))
  clear hb1 c0 HB
  go_wp2_with fail
  refine (event_of H1.out OK.out HI.out).mono ?_
  rw [← HE.out, evV]
  rintro r w2 ⟨rfl, hb2⟩
  have hz2 : w1.heap.size < w2.heap.size := by have := hb2.size; simp at this; omega
  have hz3 : w.heap.size < w2.heap.size := by omega
  have B2 : Hid (Below w1.heap.size w1 w2) := (below_alloc1 w1 _).trans (hb2.mono (by simp))
  have hc2 : ∀ o, w2.cell? ⟨w.heap.size, o, none⟩ = w1.cell? ⟨w.heap.size, o, none⟩ := fun o => B2.out.cell (p := ⟨w.heap.size, o, none⟩) hz
  have hf2 : ∀ o, w2.frozen? ⟨w.heap.size, o, none⟩ = w1.frozen? ⟨w.heap.size, o, none⟩ := fun o => B2.out.frozen (p := ⟨w.heap.size, o, none⟩) hz
  have hd2 : ∀ o, w2.cell? ⟨w1.heap.size, o, none⟩ = (w1.alloc (.cells #[.int .i64 i.kind, .int .i64 i.r, .int .i64 i.x, .int .i64 i.n] 58)).cell? ⟨w1.heap.size, o, none⟩ := fun o => hb2.cell (p := ⟨w1.heap.size, o, none⟩) (by simp)
  have H2 := Lib.hid ((H1.out.later hb2).later (below_alloc1 w2 (.cells #[.int .i64 e.thread, .int .i64 e.kind, .int .i64 e.obj, .bool e.fail] 50)))
  clear hb2 H1
  go_wp2_with fail
  refine (may_of H2.out OK.out HN.out).mono ?_
  rw [HM.out]
  rintro r w3 ⟨rfl, hb3⟩
  have hz4 : w2.heap.size < w3.heap.size := by have := hb3.size; simp at this; omega
  have hz5 : w1.heap.size < w3.heap.size := by omega
  have hz6 : w.heap.size < w3.heap.size := by omega
  have B3 : Hid (Below w2.heap.size w2 w3) := (below_alloc1 w2 _).trans (hb3.mono (by simp))
  have hc3 : ∀ o, w3.cell? ⟨w.heap.size, o, none⟩ = w2.cell? ⟨w.heap.size, o, none⟩ := fun o => B3.out.cell (p := ⟨w.heap.size, o, none⟩) hz3
  have hf3 : ∀ o, w3.frozen? ⟨w.heap.size, o, none⟩ = w2.frozen? ⟨w.heap.size, o, none⟩ := fun o => B3.out.frozen (p := ⟨w.heap.size, o, none⟩) hz3
  have hd3 : ∀ o, w3.cell? ⟨w1.heap.size, o, none⟩ = w2.cell? ⟨w1.heap.size, o, none⟩ := fun o => B3.out.cell (p := ⟨w1.heap.size, o, none⟩) hz2
  have he3 : ∀ o, w3.cell? ⟨w2.heap.size, o, none⟩ = (w2.alloc (.cells #[.int .i64 e.thread, .int .i64 e.kind, .int .i64 e.obj, .bool e.fail] 50)).cell? ⟨w2.heap.size, o, none⟩ := fun o => hb3.cell (p := ⟨w2.heap.size, o, none⟩) (by simp)
  have H3 := Lib.hid (H2.out.later hb3)
  have W3 : Hid (Below w.heap.size w w3) := (B1.out.trans (B2.out.mono (by omega))).trans (B3.out.mono (by omega))
  clear hb3 H2
  go_wp2_with fail
  refine (do_any H3.out OK.out t i HI.out).mono ?_
  rintro r w4 ⟨rfl, hs4, ho4⟩
  have hz7 : w2.heap.size < w4.heap.size := by have := ho4.size; omega
  have hz8 : w.heap.size < w4.heap.size := by omega
  have cl : ∀ g o, g < w3.heap.size → g ≠ b → w4.cell? ⟨g, o, none⟩ = w3.cell? ⟨g, o, none⟩ := fun g o hg hgb => World.cell?_of_block (w := w3) (ho4.block g hg hgb)
  have fl : ∀ g o, g < w3.heap.size → g ≠ b → w4.frozen? ⟨g, o, none⟩ = w3.frozen? ⟨g, o, none⟩ := fun g o hg hgb => World.frozen?_of_block (w := w3) (ho4.block g hg hgb)
  have hc4 : ∀ o, w4.cell? ⟨w.heap.size, o, none⟩ = w3.cell? ⟨w.heap.size, o, none⟩ := fun o => cl _ o hz6 (by omega)
  have hf4 : ∀ o, w4.frozen? ⟨w.heap.size, o, none⟩ = w3.frozen? ⟨w.heap.size, o, none⟩ := fun o => fl _ o hz6 (by omega)
  have he4 : ∀ o, w4.cell? ⟨w2.heap.size, o, none⟩ = w3.cell? ⟨w2.heap.size, o, none⟩ := fun o => cl _ o hz4 (by omega)
  have HS := Lib.hid hs4
  have HO := Lib.hid ho4
  clear hs4 ho4 cl fl
  go_wp2
  refine bodyPost_ret (v := .tuple #[.agg #[.int .i64 e.thread, .int .i64 e.kind, .int .i64 e.obj, .bool e.fail], .int .i64 0]) (by simp [results, Try.results20, go_sem, hc, hc2, hc3, hc4]) rfl ⟨rfl, ?_, ?_⟩
  · exact HS.out.other4 (by omega) _ _ _ _
  · exact (Only.trans (.of_below W3.out) HO.out).set4 (Nat.le_refl _) _ _ _ _

theorem step_any {F : Nat} {s : St} {b : Nat} {w : World} (h : StAt w b s) (ok : s.Ok F) (t : Int) :
    Calls Try.prog 20 #[.pointer (some ⟨b, 0, none⟩), .int .i64 t] w fun e w' => e = .returned (stepV (s.step t)) ∧ StAt w' b (s.step t).2.2 ∧ Only b w w' := by
  cases hb : belowB t s.ts.length
  · exact step_range h ok t hb
  · cases hi : s.ins t with
    | none => exact step_none h ok t hb hi
    | some i =>
      obtain ⟨k, rfl, _⟩ := St.ins_nat hi
      cases hm : s.may k
      · exact step_state h ok k i hi hm
      · exact step_done h ok k i hi hm

end Go.Proofs.Ytkjjbcgecnjniaa

/- The cells of rows of instructions. -/
namespace Go.Proofs.Ytkjjbcgecnjniaa
open Go.RowKit

def insCells (l : List Ins) : List Value := l.flatMap fun i => [.int .i64 i.kind, .int .i64 i.r, .int .i64 i.x, .int .i64 i.n]

theorem insCells_length (l : List Ins) : (insCells l).length = l.length * 4 := by
  induction l with
  | nil => rfl
  | cons i l ih => simp only [insCells, List.flatMap_cons, List.length_append, List.length_cons, List.length_nil] at *; omega

theorem insCells_get (l : List Ins) (i j : Nat) (h : i < l.length) (hj : j < 4) :
    (insCells l)[i * 4 + j]? = [Value.int .i64 l[i].kind, .int .i64 l[i].r, .int .i64 l[i].x, .int .i64 l[i].n][j]? := by
  induction l generalizing i with
  | nil => simp at h
  | cons x l ih =>
    cases i with
    | zero =>
      simp only [insCells, List.flatMap_cons, Nat.zero_mul, Nat.zero_add, List.getElem_cons_zero]
      rw [List.getElem?_append_left (by simpa using hj)]
    | succ i =>
      have := ih i (by simpa using h)
      simp only [insCells, List.flatMap_cons, List.getElem_cons_succ] at *
      rw [List.getElem?_append_right (by simp; omega), ← this]
      congr 1
      simp
      omega

theorem insCells_one (l : List Ins) : ∀ v ∈ insCells l, v.oneCell' = true := by
  intro v hv
  simp only [insCells, List.mem_flatMap] at hv
  obtain ⟨i, _, hv⟩ := hv
  simp at hv
  rcases hv with rfl | rfl | rfl | rfl <;> rfl

/-- The cells of a code that lies in memory. -/
theorem CodeAt.cells {w : World} {b o : Nat} {l : List Ins} (h : CodeAt w (some ⟨b, o, none⟩) l) :
    ∀ j v, (insCells l)[j]? = some v → w.cell? (Addr.add ⟨b, o, none⟩ j) = some v := by
  intro j v hv
  have hj : j < (insCells l).length := (List.getElem?_eq_some_iff.1 hv).1
  rw [insCells_length] at hj
  have hlt : j / 4 < l.length := by omega
  obtain ⟨b', o', e, hc⟩ := h.2 (by intro e; simp [e] at hlt)
  obtain ⟨rfl, rfl⟩ : b = b' ∧ o = o' := by simpa using e
  obtain ⟨c0, c1, c2, c3⟩ := hc (j / 4) hlt
  have ej : j / 4 * 4 + j % 4 = j := by omega
  have hm : j % 4 < 4 := by omega
  have := insCells_get l (j / 4) (j % 4) hlt hm
  rw [ej, hv] at this
  have ha : Addr.add ⟨b, o, none⟩ j = ⟨b, o + j / 4 * 4 + j % 4, none⟩ := by
    unfold Addr.add
    split
    · rename_i h0; subst h0; rfl
    · simp; omega
  rw [ha]
  obtain h | h | h | h : j % 4 = 0 ∨ j % 4 = 1 ∨ j % 4 = 2 ∨ j % 4 = 3 := by omega
  all_goals
    rw [h] at this ⊢
    simp at this
    subst this
    first | exact c0 | exact c1 | exact c2 | exact c3

/-- A row of the cells of a code is that code. -/
theorem codeAt_row {w : World} {g : Nat} {l : List Ins} {t : TypeId} {fr : Nat × Nat} (hm : l.length ≤ maxLen) (h : w.heap[g]? = some (.cells (insCells l).toArray t fr)) : CodeAt w (some ⟨g, 0, none⟩) l := by
  refine ⟨hm, fun _ => ⟨g, 0, rfl, fun i hi => ?_⟩⟩
  have e : ∀ j, w.cell? ⟨g, j, none⟩ = (insCells l)[j]? := by intro j; simp [World.cell?, h]
  refine ⟨?_, ?_, ?_, ?_⟩
  · rw [e]; simpa using insCells_get l i 0 hi (by omega)
  · rw [e]; simpa using insCells_get l i 1 hi (by omega)
  · rw [e]; simpa using insCells_get l i 2 hi (by omega)
  · rw [e]; simpa using insCells_get l i 3 hi (by omega)

end Go.Proofs.Ytkjjbcgecnjniaa

/- Plain numbers for New: a state that is being laid. -/
namespace Go.Proofs.Ytkjjbcgecnjniaa
open Go.RowKit

def insNums (l : List Ins) : List Int := l.flatMap fun i => [i.kind, i.r, i.x, i.n]
theorem insNums_cells (l : List Ins) : insCells l = (insNums l).map (Value.int .i64) := by
  simp [insCells, insNums, List.map_flatMap]
theorem insNums_length (l : List Ins) : (insNums l).length = l.length * 4 := by
  have := insCells_length l
  rw [insNums_cells] at this
  simpa using this
theorem insNums_get (l : List Ins) (j : Nat) : (insNums l).getD j 0 = insNum (l.getD (j / 4) ins0) (j % 4) := by
  induction l generalizing j with
  | nil =>
    simp [insNums]
    unfold insNum ins0
    repeat' split
    all_goals rfl
  | cons i l ih =>
    by_cases h : j < 4
    · rw [show j / 4 = 0 by omega, show j % 4 = j by omega]
      obtain rfl | rfl | rfl | rfl : j = 0 ∨ j = 1 ∨ j = 2 ∨ j = 3 := by omega
      all_goals rfl
    · obtain ⟨k, rfl⟩ : ∃ k, j = k + 4 := ⟨j - 4, by omega⟩
      rw [show (k + 4) / 4 = k / 4 + 1 by omega, show (k + 4) % 4 = k % 4 by omega]
      exact ih k

/-- In block g lie the numbers f. -/
def NumAt (w : World) (g : Nat) (f : Nat → Int) : Prop := w.heap[g]? = some (.cells (numA f) 99 (0, 0))
theorem NumAt.lt {w : World} {g : Nat} {f : Nat → Int} (h : NumAt w g f) : g < w.heap.size := (Array.getElem?_eq_some_iff.1 h).1
theorem NumAt.cell {w : World} {g : Nat} {f : Nat → Int} (h : NumAt w g f) (o : Nat) (ho : o < 156) : w.cell? ⟨g, o, none⟩ = some (.int .i64 (f o)) := by
  rw [cell_of_row w g o _ _ _ h, numA_get _ _ ho]
theorem NumAt.frozen {w : World} {g : Nat} {f : Nat → Int} (h : NumAt w g f) (o : Nat) : w.frozen? ⟨g, o, none⟩ = false := by
  simp [World.frozen?, show w.heap[g]? = _ from h]
theorem NumAt.set {w : World} {g : Nat} {f : Nat → Int} (h : NumAt w g f) (f' : Nat → Int) (o : Nat) (n : Int) (ho : o < 156) (hs : ∀ j, j < 156 → f' j = if j = o then n else f j) : NumAt (w.setCell ⟨g, o, none⟩ (.int .i64 n)) g f' := by
  have := heap_setCell_same w g o _ _ (.int .i64 n) h
  rw [numA_set _ _ o n ho hs] at this
  exact this

theorem numA_splice (f f1 : Nat → Int) (o : Nat) (vs : List Int) (h : ∀ j, j < 156 → f1 j = if o ≤ j ∧ j < o + vs.length then vs.getD (j - o) 0 else f j) (ho : o + vs.length ≤ 156) :
    ((numA f).toList.take o ++ vs.map (Value.int .i64) ++ (numA f).toList.drop (o + vs.length)).toArray = numA f1 := by
  have hl : (numA f).toList.length = 156 := by simp [numA]
  apply Array.ext_getElem?
  intro j
  rw [List.getElem?_toArray]
  by_cases hj : j < 156
  · rw [numA_get f1 j hj, h j hj]
    by_cases h1 : j < o
    · rw [if_neg (by omega), List.append_assoc, List.getElem?_append_left (by simp [hl]; omega), List.getElem?_take_of_lt h1]
      have := numA_get f j hj
      simpa using this
    · by_cases h2 : j < o + vs.length
      · rw [if_pos ⟨by omega, h2⟩, List.getElem?_append_left (by simp [hl]; omega), List.getElem?_append_right (by simp [hl]; omega)]
        have e : j - ((numA f).toList.take o).length = j - o := by simp [hl]; omega
        rw [e, List.getElem?_map, List.getElem?_eq_getElem (by omega), getD_lt _ (by omega)]
        rfl
      · rw [if_neg (by omega), List.getElem?_append_right (by simp [hl]; omega), List.getElem?_drop]
        have e : o + vs.length + (j - ((numA f).toList.take o ++ vs.map (Value.int .i64)).length) = j := by simp [hl]; omega
        rw [e]
        have := numA_get f j hj
        simpa using this
  · have h1 : (numA f1)[j]? = none := Array.getElem?_eq_none (by rw [numA_size]; omega)
    rw [h1, List.getElem?_eq_none]
    simp [hl]
    omega

/-- copy(dst, src) into the middle of the block: elements of four numbers. -/
theorem run_copy_code (w : World) (g o : Nat) (f f1 : Nat → Int) (hg : NumAt w g f) (c : Option Addr) (cap : Nat) (l : List Ins) (hl : CodeAt w c l) (h8 : l.length ≤ 8) (ho : o + 32 ≤ 156)
    (h : ∀ j, j < 156 → f1 j = if o ≤ j ∧ j < o + l.length * 4 then insNum (l.getD ((j - o) / 4) ins0) ((j - o) % 4) else f j) :
    (Builtin.copy_ #[59, 59] 3 #[.slice (some ⟨g, o, none⟩) 8 8, .slice c l.length cap]).run Try.prog w = .ok (.int .i64 l.length) (w.setRow g (numA f1)) := by
  have hs : (Try.prog.info? 58).map (·.size) = some 4 := by kernel_rfl
  have hm : Nat.min l.length 8 = l.length := Nat.min_eq_left h8
  cases hq : Try.prog.info? 58 with
  | none => simp [hq] at hs
  | some i =>
    have hi : i.size = 4 := by simpa [hq] using hs
    have hst := run_storeCells_at (P := Try.prog) g o 99 (insCells l) 0 _ w hg (by rw [insCells_length, numA_size]; omega) (insCells_one l)
    have hsp := numA_splice f f1 o (insNums l) (fun j hj => by rw [h j hj, insNums_length, insNums_get]) (by rw [insNums_length]; omega)
    rw [Nat.add_zero, insNums_cells, List.length_map, hsp] at hst
    by_cases h0 : l = []
    · subst h0
      have hlc : ∀ (x : Addr), (loadCells x 0).run Try.prog w = .ok #[] w := fun x => by simpa using run_loadCells_list (P := Try.prog) w x [] (by simp)
      have hst' : (storeCells ⟨g, o, none⟩ ([] : List Value)).run Try.prog w = .ok () (w.setRow g (numA f1)) := hst
      cases c <;> simp [Builtin.copy_, run_underlying Try.underlying59, Builtin.lenOf, Builtin.firstCells, sizeOf, typeInfo, hq, hlc, hst', goInt]
    · obtain ⟨b', o', rfl, _⟩ := hl.2 h0
      have hld := run_loadCells_list (P := Try.prog) w ⟨b', o', none⟩ (insCells l) hl.cells
      rw [insCells_length] at hld
      rw [← insNums_cells] at hst
      simp [Builtin.copy_, run_underlying Try.underlying59, Builtin.lenOf, Builtin.firstCells, sizeOf, typeInfo, hq, hi, hm, hld, hst, goInt]

/-- The numbers when the first k threads are laid. -/
def newNum (p : Pg) (F k o : Nat) : Int := if o < 2 + k * 37 ∧ o < 150 then stNum (St.new p F) o else 0
/-- The numbers when all threads are, and k mutexes. -/
def newNum2 (p : Pg) (F k o : Nat) : Int := if o < 154 + k then stNum (St.new p F) o else 0

theorem new_th (p : Pg) (F k : Nat) (hk : k < p.threads.length) : (St.new p F).th k = ⟨0, F, [0, 0]⟩ := by
  unfold St.th St.new
  dsimp only
  rw [getD_lt _ (by simpa using hk)]
  simp
theorem new_th_out (p : Pg) (F k : Nat) (hk : p.threads.length ≤ k) : (St.new p F).th k = thr0 := by
  unfold St.th St.new
  simp [List.getD, hk]
theorem new_code (p : Pg) (F k : Nat) (hk : k < p.threads.length) : (St.new p F).code k = p.threads[k] := by
  unfold St.code St.new
  exact getD_lt _ hk
theorem new_code_out (p : Pg) (F k : Nat) (hk : p.threads.length ≤ k) : (St.new p F).code k = [] := by
  unfold St.code St.new
  simp [List.getD, hk]
theorem thrNum_out (k : Nat) : thrNum [] thr0 k = 0 := by
  unfold thrNum
  have e : ∀ n, insNum ins0 n = 0 := fun n => by unfold insNum ins0; repeat' split
                                                 all_goals rfl
  have e2 : ∀ n : Nat, ([0, 0] : List Int).getD n 0 = 0 := fun n => match n with | 0 => rfl | 1 => rfl | n + 2 => rfl
  dsimp only [thr0]
  by_cases h : k < 32
  · rw [if_pos h]; exact e _
  rw [if_neg h]
  by_cases h : k = 32
  · rw [if_pos h]; rfl
  rw [if_neg h]
  by_cases h : k = 33
  · rw [if_pos h]; rfl
  rw [if_neg h]
  by_cases h : k = 34
  · rw [if_pos h]; rfl
  rw [if_neg h]
  exact e2 _

theorem newNum_zero (p : Pg) (F o : Nat) : newNum p F 0 o = if o = 0 then (p.threads.length : Int) else if o = 1 then p.mutexes else 0 := by
  unfold newNum
  by_cases h0 : o = 0
  · subst h0; simp [stNum_threads, St.new]
  · by_cases h1 : o = 1
    · subst h1; simp [stNum_mutexes, St.new]
    · rw [if_neg (by omega), if_neg h0, if_neg h1]

/-- The thread k is laid: its code, then its size, then its fuel. -/
theorem newNum_succ (p : Pg) (F k : Nat) (hk : k < p.threads.length) (h4 : p.threads.length ≤ 4) (h8 : p.threads[k].length ≤ 8) (f1 f2 : Nat → Int)
    (h1 : ∀ j, j < 156 → f1 j = if 2 + k * 37 ≤ j ∧ j < 2 + k * 37 + p.threads[k].length * 4 then insNum (p.threads[k].getD ((j - (2 + k * 37)) / 4) ins0) ((j - (2 + k * 37)) % 4) else newNum p F k j)
    (h2 : ∀ j, j < 156 → f2 j = if j = 2 + k * 37 + 32 then (p.threads[k].length : Int) else f1 j) :
    ∀ j, j < 156 → newNum p F (k + 1) j = if j = 2 + k * 37 + 34 then (F : Int) else f2 j := by
  intro j hj
  rw [h2 j hj, h1 j hj]
  unfold newNum
  by_cases a : j < 2 + k * 37
  · rw [if_pos (by omega), if_neg (by omega), if_neg (by omega), if_neg (by omega), if_pos (by omega)]
  · by_cases b : j < 2 + (k + 1) * 37
    · obtain ⟨d, rfl⟩ : ∃ d, j = 2 + k * 37 + d := ⟨j - (2 + k * 37), by omega⟩
      rw [if_pos (by omega), stNum_thr _ _ _ (by omega) (by omega), new_th p F k hk, new_code p F k hk]
      have ed : 2 + k * 37 + d - (2 + k * 37) = d := by omega
      rw [ed]
      unfold thrNum
      by_cases c1 : d < 32
      · rw [if_pos c1, if_neg (by omega), if_neg (by omega)]
        by_cases c2 : d < p.threads[k].length * 4
        · rw [if_pos (by omega)]
        · rw [if_neg (by omega), if_neg (by omega)]
          have e : p.threads[k].getD (d / 4) ins0 = ins0 := by
            rw [List.getD, List.getElem?_eq_none (by omega)]; rfl
          rw [e]
          unfold insNum ins0
          repeat' split
          all_goals rfl
      · rw [if_neg c1, if_neg (c := 2 + k * 37 ≤ 2 + k * 37 + d ∧ 2 + k * 37 + d < 2 + k * 37 + p.threads[k].length * 4) (by omega), if_neg (c := 2 + k * 37 + d < 2 + k * 37 ∧ 2 + k * 37 + d < 150) (by omega)]
        obtain rfl | rfl | rfl | rfl | rfl : d = 32 ∨ d = 33 ∨ d = 34 ∨ d = 35 ∨ d = 36 := by omega
        all_goals simp
    · rw [if_neg (by omega), if_neg (by omega), if_neg (by omega), if_neg (by omega), if_neg (by omega)]

theorem newNum_all (p : Pg) (F : Nat) : ∀ j, j < 156 → newNum p F p.threads.length j = newNum2 p F 0 j := by
  intro j hj
  unfold newNum newNum2
  by_cases a : j < 2 + p.threads.length * 37 ∧ j < 150
  · rw [if_pos a, if_pos (by omega)]
  · rw [if_neg a]
    by_cases b : j < 150
    · rw [if_pos (by omega)]
      obtain ⟨d, t, rfl, ht⟩ : ∃ d t, j = 2 + t * 37 + d ∧ d < 37 := ⟨(j - 2) % 37, (j - 2) / 37, by omega, by omega⟩
      rw [stNum_thr _ _ _ (by omega) ht, new_th_out _ _ _ (by omega), new_code_out _ _ _ (by omega), thrNum_out]
    · by_cases c : j < 154
      · rw [if_pos (by omega)]
        obtain ⟨d, rfl⟩ : ∃ d, j = 150 + d := ⟨j - 150, by omega⟩
        rw [stNum_var _ _ (by omega)]
        obtain rfl | rfl | rfl | rfl : d = 0 ∨ d = 1 ∨ d = 2 ∨ d = 3 := by omega
        all_goals rfl
      · rw [if_neg (by omega)]

theorem newNum2_succ (p : Pg) (F k : Nat) (hk : k < 2) : ∀ j, j < 156 → newNum2 p F (k + 1) j = if j = 154 + k then -1 else newNum2 p F k j := by
  intro j hj
  unfold newNum2
  by_cases a : j = 154 + k
  · rw [if_pos (by omega), if_pos a, a, stNum_who]
    obtain rfl | rfl : k = 0 ∨ k = 1 := by omega
    all_goals rfl
  · rw [if_neg a]
    by_cases b : j < 154 + k
    · rw [if_pos (by omega), if_pos b]
    · rw [if_neg (by omega), if_neg b]

theorem newNum2_all (p : Pg) (F : Nat) : ∀ j, j < 156 → newNum2 p F 2 j = stNum (St.new p F) j := by
  intro j hj
  unfold newNum2
  rw [if_pos (by omega)]

end Go.Proofs.Ytkjjbcgecnjniaa

/- The contract of rightCode. -/
namespace Go.Proofs.Ytkjjbcgecnjniaa
open Go.RowKit

set_option maxRecDepth 100000 in
set_option maxHeartbeats 1000000 in
theorem rightCode_any (V M : Int) (t : Value) (a : Option Addr) (cap : Nat) (l : List Ins) (w : World) (hl : CodeAt w a l) :
    Calls Try.prog 55 #[.agg #[.int .i64 V, .int .i64 M, t], .slice a l.length cap] w fun r w' => r = .returned (.bool (rightCode V M l)) ∧ Below w.heap.size w w' := by
  have hm := hl.1
  unfold maxLen at hm
  by_cases h8 : l.length ≤ 8
  · have H : Hid (rightCode V M l = l.all (rightIns V M l.length)) := by show _ = _; simp [rightCode, h8]
    have HL := Lib.hid hl
    have h9 : decide (8 < l.length) = false := by simp; omega
    clear hl
    go_enter Try.func55, Try.ntmps55
    go_wp2
    go_loopw [12] (fun i wr => ∃ k : Nat, k ≤ l.length ∧ i = .int .i64 k ∧ Hid ((l.take k).all (rightIns V M l.length) = true) ∧ Below (w.heap.size + 1) (w.alloc (.cells #[.int .i64 V, .int .i64 M, t] 24)) wr) (fun i _ => l.length - (intOf i).toNat)
    case atStart => exact ⟨0, Nat.zero_le _, rfl, rfl, Below.refl _ _⟩
    case round =>
      obtain ⟨k, hk, rfl, hall, hb⟩ := hrel
      by_cases hlt : k < l.length
      · obtain ⟨b, o, rfl, hc⟩ := HL.out.2 (by intro e; simp [e] at hlt)
        have hbw : Below w.heap.size w wr := ((Below.refl _ _).alloc (Nat.le_refl _) _).trans (hb.mono (by omega))
        obtain ⟨c0, c1, c2, c3⟩ := hc k hlt
        have d0 := cell_later hbw c0
        have d1 := cell_later hbw c1
        have d2 := cell_later hbw c2
        have d3 := cell_later hbw c3
        have p0 : wr.cell? ⟨w.heap.size, 0, none⟩ = some (.int .i64 V) := by rw [hb.cell (p := ⟨w.heap.size, 0, none⟩) (by simp)]; simp
        have p1 : wr.cell? ⟨w.heap.size, 1, none⟩ = some (.int .i64 M) := by rw [hb.cell (p := ⟨w.heap.size, 1, none⟩) (by simp)]; simp
        have p2 : wr.cell? ⟨w.heap.size, 2, none⟩ = some t := by rw [hb.cell (p := ⟨w.heap.size, 2, none⟩) (by simp)]; simp
        have hz : w.heap.size < wr.heap.size := by have := hb.size; simp at this; omega
        clear c0 c1 c2 c3 hc
        go_wp2_with fail
        refine (rightInstr_any V M l.length (by omega) (by omega) t l[k] _).mono ?_
        rintro r w1 ⟨rfl, hb1⟩
        have hb2 : Below (w.heap.size + 1) (w.alloc (.cells #[.int .i64 V, .int .i64 M, t] 24)) w1 := (hb.alloc (by omega) _).trans (hb1.mono (by simp; omega))
        have hb3 : Below w.heap.size w w1 := ((Below.refl _ _).alloc (Nat.le_refl _) _).trans (hb2.mono (by omega))
        have ht : (l.take (k + 1)) = l.take k ++ [l[k]] := List.take_succ_eq_append_getElem hlt
        cases hr : rightIns V M l.length l[k]
        · have HR : Hid (rightCode V M l = false) := by
            show _ = _
            rw [H.out, List.all_eq_false]; exact ⟨l[k], List.getElem_mem _, by simp [hr]⟩
          clear hr ht
          go_wp2
          go_ret
          exact ⟨ret_bool HR.out.symm, hb3⟩
        · have HR : Hid ((l.take (k + 1)).all (rightIns V M l.length) = true) := by
            show _ = _
            rw [ht, List.all_append, hall.out]; simp [hr]
          clear hr ht
          go_wp2
          go_roundw
          case rel => exact ⟨k + 1, by omega, by go_num, HR, hb2⟩
          case measure => simp [intOf]; omega
      · obtain rfl : k = l.length := by omega
        have HR : Hid (rightCode V M l = true) := by
          show _ = _
          rw [H.out, ← hall.out, List.take_length]
        have hbw : Below w.heap.size w wr := ((Below.refl _ _).alloc (Nat.le_refl _) _).trans (hb.mono (by omega))
        go_wp2
        go_ret
        exact ⟨ret_bool HR.out.symm, hbw⟩
  · have H : Hid (rightCode V M l = false) := by show _ = _; simp [rightCode]; omega
    have h9 : 8 < l.length := by omega
    clear hl
    go_enter Try.func55, Try.ntmps55
    go_wp2
    go_ret
    exact ⟨ret_bool H.out.symm, below_alloc1 _ _⟩
end Go.Proofs.Ytkjjbcgecnjniaa

/- The contract of Right. -/
namespace Go.Proofs.Ytkjjbcgecnjniaa
open Go.RowKit

set_option maxRecDepth 100000 in
set_option maxHeartbeats 1000000 in
theorem right_any (p : Pg) (a : Option Addr) (cap : Nat) (w : World) (hp : ThreadsAt w a p.threads) :
    Calls Try.prog 41 #[pgV p a cap] w fun r w' => r = .returned (.bool (rightPg p)) ∧ Below w.heap.size w w' := by
  obtain ⟨V, M, ts⟩ := p
  unfold pgV
  dsimp only at *
  have hm := hp.1
  unfold maxLen at hm
  cases hV : belowB V 5
  · have H : Hid (rightPg ⟨V, M, ts⟩ = false) := by
      show _ = _
      simp [belowB] at hV
      simp [rightPg]; omega
    have HL := Lib.hid hp
    clear hp
    go_enter Try.func41, Try.ntmps41
    go_wp2_with (go_at_call 54; refine (below_any _ _ _).mono ?_; rintro r w' ⟨rfl, rfl⟩)
    go_ret
    exact ⟨ret_bool H.out.symm, below_alloc1 _ _⟩
  cases hM : belowB M 3
  · have H : Hid (rightPg ⟨V, M, ts⟩ = false) := by
      show _ = _
      simp [belowB] at hM
      simp [rightPg]; omega
    have HL := Lib.hid hp
    clear hp
    go_enter Try.func41, Try.ntmps41
    go_wp2_with (go_at_call 54; refine (below_any _ _ _).mono ?_; rintro r w' ⟨rfl, rfl⟩)
    go_ret
    exact ⟨ret_bool H.out.symm, below_alloc1 _ _⟩
  by_cases h1 : ts.length < 1
  · have H : Hid (rightPg ⟨V, M, ts⟩ = false) := by
      show _ = _
      simp [rightPg]; omega
    have HL := Lib.hid hp
    clear hp
    go_enter Try.func41, Try.ntmps41
    go_wp2_with (go_at_call 54; refine (below_any _ _ _).mono ?_; rintro r w' ⟨rfl, rfl⟩)
    go_ret
    exact ⟨ret_bool H.out.symm, below_alloc1 _ _⟩
  by_cases h4 : 4 < ts.length
  · have H : Hid (rightPg ⟨V, M, ts⟩ = false) := by
      show _ = _
      simp [rightPg]; omega
    have HL := Lib.hid hp
    clear hp
    go_enter Try.func41, Try.ntmps41
    go_wp2_with (go_at_call 54; refine (below_any _ _ _).mono ?_; rintro r w' ⟨rfl, rfl⟩)
    go_ret
    exact ⟨ret_bool H.out.symm, below_alloc1 _ _⟩
  have H : Hid (rightPg ⟨V, M, ts⟩ = ts.all (rightCode V M)) := by
    show _ = _
    simp [belowB] at hV hM
    have : decide (0 ≤ V ∧ V ≤ 4 ∧ 0 ≤ M ∧ M ≤ 2 ∧ 1 ≤ ts.length ∧ ts.length ≤ 4) = true := by simp; omega
    unfold rightPg
    dsimp only
    rw [this, Bool.true_and]
  have HL := Lib.hid hp
  clear hp
  go_enter Try.func41, Try.ntmps41
  go_wp2_with (go_at_call 54; refine (below_any _ _ _).mono ?_; rintro r w' ⟨rfl, rfl⟩)
  go_loopw [28] (fun i wr => ∃ k : Nat, k ≤ ts.length ∧ i = .int .i64 k ∧ Hid ((ts.take k).all (rightCode V M) = true) ∧ Below (w.heap.size + 1) (w.alloc (.cells #[.int .i64 V, .int .i64 M, .slice a ts.length cap] 24)) wr) (fun i _ => ts.length - (intOf i).toNat)
  case atStart => exact ⟨0, Nat.zero_le _, rfl, rfl, Below.refl _ _⟩
  case round =>
    obtain ⟨k, hk, rfl, hall, hb⟩ := hrel
    by_cases hlt : k < ts.length
    · obtain ⟨b, o, rfl, hc⟩ := HL.out.2 (by intro e; simp [e] at hlt)
      have hbw : Below w.heap.size w wr := ((Below.refl _ _).alloc (Nat.le_refl _) _).trans (hb.mono (by omega))
      obtain ⟨c, ccap, c0, c1, _⟩ := hc k hlt
      have d0 := cell_later hbw c0
      have D1 := Lib.hid (c1.later hbw)
      have p0 : wr.cell? ⟨w.heap.size, 0, none⟩ = some (.int .i64 V) := by rw [hb.cell (p := ⟨w.heap.size, 0, none⟩) (by simp)]; simp
      have p1 : wr.cell? ⟨w.heap.size, 1, none⟩ = some (.int .i64 M) := by rw [hb.cell (p := ⟨w.heap.size, 1, none⟩) (by simp)]; simp
      have p2 : wr.cell? ⟨w.heap.size, 2, none⟩ = some (.slice (some ⟨b, o, none⟩) ts.length cap) := by rw [hb.cell (p := ⟨w.heap.size, 2, none⟩) (by simp)]; simp
      have hz : w.heap.size < wr.heap.size := by have := hb.size; simp at this; omega
      clear c0 c1 hc
      go_wp2_with fail
      refine (rightCode_any V M _ c ccap ts[k] _ D1.out).mono ?_
      rintro r w1 ⟨rfl, hb1⟩
      have hb2 : Below (w.heap.size + 1) (w.alloc (.cells #[.int .i64 V, .int .i64 M, .slice (some ⟨b, o, none⟩) ts.length cap] 24)) w1 := hb.trans (hb1.mono (by omega))
      have hb3 : Below w.heap.size w w1 := ((Below.refl _ _).alloc (Nat.le_refl _) _).trans (hb2.mono (by omega))
      have ht : (ts.take (k + 1)) = ts.take k ++ [ts[k]] := List.take_succ_eq_append_getElem hlt
      cases hr : rightCode V M ts[k]
      · have HR : Hid (rightPg ⟨V, M, ts⟩ = false) := by
          show _ = _
          rw [H.out, List.all_eq_false]; exact ⟨ts[k], List.getElem_mem _, by simp [hr]⟩
        clear hr ht
        go_wp2
        go_ret
        exact ⟨ret_bool HR.out.symm, hb3⟩
      · have HR : Hid ((ts.take (k + 1)).all (rightCode V M) = true) := by
          show _ = _
          rw [ht, List.all_append, hall.out]; simp [hr]
        clear hr ht
        go_wp2
        go_roundw
        case rel => exact ⟨k + 1, by omega, by go_num, HR, hb2⟩
        case measure => simp [intOf]; omega
    · obtain rfl : k = ts.length := by omega
      have HR : Hid (rightPg ⟨V, M, ts⟩ = true) := by
        show _ = _
        rw [H.out, ← hall.out, List.take_length]
      have hbw : Below w.heap.size w wr := ((Below.refl _ _).alloc (Nat.le_refl _) _).trans (hb.mono (by omega))
      go_wp2
      go_ret
      exact ⟨ret_bool HR.out.symm, hbw⟩
end Go.Proofs.Ytkjjbcgecnjniaa

/- The contract of New. -/
namespace Go.Proofs.Ytkjjbcgecnjniaa
open Go.RowKit

/-- A new state, or none. -/
def NewR (p : Pg) (fuel : Int) (w : World) (r : Ending) (w' : World) : Prop :=
  if rightPg p = true ∧ 0 ≤ fuel ∧ fuel ≤ 8 then ∃ g, r = .returned (.tuple #[.pointer (some ⟨g, 0, none⟩), .int .i64 0]) ∧ w.heap.size ≤ g ∧ StAt w' g (St.new p fuel.toNat) ∧ Below w.heap.size w w'
  else r = .returned (.tuple #[.pointer none, .int .i64 1]) ∧ Below w.heap.size w w'

set_option maxRecDepth 100000 in
set_option maxHeartbeats 2000000 in
theorem new_no (p : Pg) (a : Option Addr) (cap : Nat) (fuel : Int) (w : World) (hp : ThreadsAt w a p.threads) (hr : rightPg p = false) :
    Calls Try.prog 21 #[.agg #[.int .i64 p.vars, .int .i64 p.mutexes, .slice a p.threads.length cap], .int .i64 fuel] w fun r w' => r = .returned (.tuple #[.pointer none, .int .i64 1]) ∧ Below w.heap.size w w' := by
  have HR := Lib.hid hr
  have HP := Lib.hid hp
  clear hr hp
  go_enter Try.func21, Try.ntmps21
  go_wp2_with fail
  refine (right_any p a cap _ (HP.out.later (below_alloc1 w _))).mono ?_
  rw [HR.out]
  rintro r w1 ⟨rfl, hb⟩
  have hb1 : Below w.heap.size w w1 := (below_alloc1 w _).trans (hb.mono (by simp))
  clear hb
  go_wp2
  go_ret2
  exact ⟨rfl, hb1⟩

set_option maxRecDepth 100000 in
set_option maxHeartbeats 2000000 in
theorem new_fuel (p : Pg) (a : Option Addr) (cap : Nat) (fuel : Int) (w : World) (hp : ThreadsAt w a p.threads) (hr : rightPg p = true) (hf : belowB fuel 9 = false) :
    Calls Try.prog 21 #[.agg #[.int .i64 p.vars, .int .i64 p.mutexes, .slice a p.threads.length cap], .int .i64 fuel] w fun r w' => r = .returned (.tuple #[.pointer none, .int .i64 1]) ∧ Below w.heap.size w w' := by
  have HR := Lib.hid hr
  have HP := Lib.hid hp
  clear hr hp
  go_enter Try.func21, Try.ntmps21
  go_wp2_with fail
  refine (right_any p a cap _ (HP.out.later (below_alloc1 w _))).mono ?_
  rw [HR.out]
  rintro r w1 ⟨rfl, hb⟩
  have hb1 : Below w.heap.size w w1 := (below_alloc1 w _).trans (hb.mono (by simp))
  clear hb
  go_wp2_with (go_at_call 37; refine (sbelow_any _ _ _).mono ?_; rintro r w' ⟨rfl, rfl⟩)
  go_ret2
  exact ⟨rfl, hb1⟩

theorem zero_state : ∃ Z : Array Value, Z = numA (fun _ => 0) ∧ ∀ w, (zeroValue 99).run Try.prog w = .ok (.agg Z) w :=
  ⟨_, rfl, (zero_of_info (P := Try.prog) (t := 99) (v := .agg (numA fun _ => 0)) (n := 156) (by kernel_rfl)).1⟩

set_option maxRecDepth 100000 in
set_option maxHeartbeats 4000000 in
theorem new_yes (p : Pg) (a : Option Addr) (cap F : Nat) (w : World) (hp : ThreadsAt w a p.threads) (hr : rightPg p = true) (hF : F ≤ 8) :
    Calls Try.prog 21 #[.agg #[.int .i64 p.vars, .int .i64 p.mutexes, .slice a p.threads.length cap], .int .i64 F] w
      fun r w' => ∃ g, r = .returned (.tuple #[.pointer (some ⟨g, 0, none⟩), .int .i64 0]) ∧ w.heap.size ≤ g ∧ StAt w' g (St.new p F) ∧ Below w.heap.size w w' := by
  have hf : belowB F 9 = true := by simp [belowB]; omega
  have hn4 : p.threads.length ≤ 4 := by
    unfold rightPg at hr
    rw [Bool.and_eq_true, decide_eq_true_eq] at hr
    omega
  have HR := Lib.hid hr
  have HP := Lib.hid hp
  obtain ⟨Z, hZ, hzv⟩ := zero_state
  have hne : ¬ Z = #[] := fun e => by have := congrArg Array.size e; rw [hZ, numA_size] at this; simp at this
  have hsz : Z.size = 156 := by rw [hZ, numA_size]
  have hset : (Z.setIfInBounds 0 (.int .i64 p.threads.length)).setIfInBounds 1 (.int .i64 p.mutexes) = numA (newNum p F 0) := by
    rw [hZ, numA_set (fun _ => 0) (fun j => if j = 0 then (p.threads.length : Int) else 0) 0 _ (by omega) (fun j _ => rfl)]
    refine numA_set _ _ 1 _ (by omega) (fun j _ => ?_)
    rw [newNum_zero]
    by_cases h0 : j = 0
    · simp [h0]
    · simp [h0]
  clear hZ
  clear hr hp
  go_enter Try.func21, Try.ntmps21
  go_wp2_with fail
  refine (right_any p a cap _ (HP.out.later (below_alloc1 w _))).mono ?_
  rw [HR.out]
  rintro r w1 ⟨rfl, hb⟩
  have hb1 : Below w.heap.size w w1 := (below_alloc1 w _).trans (hb.mono (by simp))
  have hc : ∀ o, w1.cell? ⟨w.heap.size, o, none⟩ = (w.alloc (.cells #[.int .i64 p.vars, .int .i64 p.mutexes, .slice a p.threads.length cap] 24)).cell? ⟨w.heap.size, o, none⟩ := fun o => hb.cell (p := ⟨w.heap.size, o, none⟩) (by simp)
  have hz : w.heap.size < w1.heap.size := by have := hb.size; simp at this; omega
  clear hb
  go_wp2_with (go_at_call 37; refine (sbelow_any _ _ _).mono ?_; rintro r w' ⟨rfl, rfl⟩)
  clear hset hsz hne hzv hc hf
  go_loopw [29] (fun i wr => ∃ k : Nat, k ≤ p.threads.length ∧ i = .int .i64 k ∧ NumAt wr w1.heap.size (newNum p F k) ∧ Below w1.heap.size w1 wr) (fun i _ => p.threads.length - (intOf i).toNat)
  case atStart => exact ⟨0, Nat.zero_le _, rfl, heap_alloc_last w1 _, below_alloc1 _ _⟩
  case round =>
    obtain ⟨k, hk, rfl, hnum, hb2⟩ := hrel
    by_cases hlt : k < p.threads.length
    · obtain ⟨b, o, rfl, hc⟩ := HP.out.2 (by intro e; simp [e] at hlt)
      obtain ⟨c, ccap, c0, c1, _⟩ := hc k hlt
      have hbw : Below w.heap.size w wr := hb1.trans (hb2.mono (by omega))
      have d0 := cell_later hbw c0
      have D1 := c1.later hbw
      have h8 := (rightPg_code HR.out hlt).1
      obtain ⟨f1, hf1⟩ : ∃ f1 : Nat → Int, ∀ j, f1 j = if 2 + k * 37 ≤ j ∧ j < 2 + k * 37 + p.threads[k].length * 4 then insNum (p.threads[k].getD ((j - (2 + k * 37)) / 4) ins0) ((j - (2 + k * 37)) % 4) else newNum p F k j := ⟨_, fun _ => rfl⟩
      have hcp := run_copy_code wr w1.heap.size (2 + k * 37) _ f1 hnum c ccap p.threads[k] D1 h8 (by omega) (fun j _ => hf1 j)
      have hn1 : NumAt (wr.setRow w1.heap.size (numA f1)) w1.heap.size f1 := setRow_heap wr _ _ _ _ _ hnum
      have hbs : Below w1.heap.size w1 (wr.setRow w1.heap.size (numA f1)) := hb2.trans ⟨rfl, rfl, rfl, by simp, fun q hq => setRow_other _ _ _ _ (by omega)⟩
      generalize wr.setRow w1.heap.size (numA f1) = W1 at *
      have hn2 : NumAt (W1.setCell ⟨w1.heap.size, 2 + k * 37 + 32, none⟩ (.int .i64 p.threads[k].length)) w1.heap.size (fun j => if j = 2 + k * 37 + 32 then (p.threads[k].length : Int) else f1 j) := hn1.set _ _ _ (by omega) (fun j _ => rfl)
      have hn3 : NumAt ((W1.setCell ⟨w1.heap.size, 2 + k * 37 + 32, none⟩ (.int .i64 p.threads[k].length)).setCell ⟨w1.heap.size, 2 + k * 37 + 34, none⟩ (.int .i64 F)) w1.heap.size (newNum p F (k + 1)) :=
        hn2.set _ _ _ (by omega) (newNum_succ p F k hlt hn4 h8 f1 _ (fun j _ => hf1 j) (fun j _ => rfl))
      have hb3 : Below w1.heap.size w1 ((W1.setCell ⟨w1.heap.size, 2 + k * 37 + 32, none⟩ (.int .i64 p.threads[k].length)).setCell ⟨w1.heap.size, 2 + k * 37 + 34, none⟩ (.int .i64 F)) := (hbs.setCell (p := ⟨w1.heap.size, 2 + k * 37 + 32, none⟩) (Nat.le_refl _) _).setCell (p := ⟨w1.heap.size, 2 + k * 37 + 34, none⟩) (Nat.le_refl _) _
      have e0 := hn1.cell (2 + k * 37 + 32) (by omega)
      have e1 := hn1.frozen (2 + k * 37 + 32)
      have e2 := hn1.cell (2 + k * 37 + 34) (by omega)
      have e3 := hn1.frozen (2 + k * 37 + 34)
      have HN3 := Lib.hid hn3
      have hk4 : k < 4 := by omega
      clear c0 c1 hc D1 hf1 hn1 hn2 hn3 hbs hnum hb2 hbw
      go_wp2
      go_roundw
      case rel => exact ⟨k + 1, by omega, by go_num, HN3.out, hb3⟩
      case measure => simp [intOf]; omega
    · obtain rfl : k = p.threads.length := by omega
      have hnum2 : NumAt wr w1.heap.size (newNum2 p F 0) := by
        unfold NumAt
        rw [← numA_congr _ _ (newNum_all p F)]
        exact hnum
      clear hnum
      go_wp2
      go_loopw [53] (fun i wq => ∃ k : Nat, k ≤ 2 ∧ i = .int .i64 k ∧ NumAt wq w1.heap.size (newNum2 p F k) ∧ Below w1.heap.size w1 wq) (fun i _ => 2 - (intOf i).toNat)
      case atStart => exact ⟨0, by omega, rfl, hnum2, hb2⟩
      case round =>
        clear hnum2 hb2
        obtain ⟨k, hk, rfl, hnum, hb2⟩ := hrel
        by_cases hlt : k < 2
        · have e0 := hnum.cell (154 + k) (by omega)
          have e1 := hnum.frozen (154 + k)
          have HN := Lib.hid (hnum.set _ (154 + k) (-1) (by omega) (newNum2_succ p F k hlt))
          have hb3 := hb2.setCell (p := ⟨w1.heap.size, 154 + k, none⟩) (Nat.le_refl _) (.int .i64 (-1))
          clear hnum hb2
          go_wp2
          go_roundw
          case rel => exact ⟨k + 1, by omega, by go_num, HN.out, hb3⟩
          case measure => simp [intOf]; omega
        · obtain rfl : k = 2 := by omega
          have HN : Hid (StAt wr w1.heap.size (St.new p F)) := by
            show _ = _
            rw [← numA_congr _ _ (newNum2_all p F)]
            exact hnum
          clear hnum
          go_wp2
          go_ret2
          exact ⟨_, rfl, by omega, HN.out, hb1.trans (hb2.mono (by omega))⟩

theorem new_any (p : Pg) (a : Option Addr) (cap : Nat) (fuel : Int) (w : World) (hp : ThreadsAt w a p.threads) :
    Calls Try.prog 21 #[.agg #[.int .i64 p.vars, .int .i64 p.mutexes, .slice a p.threads.length cap], .int .i64 fuel] w (NewR p fuel w) := by
  cases hr : rightPg p
  · refine (new_no p a cap fuel w hp hr).mono fun r w' h => ?_
    unfold NewR
    rw [if_neg (by simp [hr])]
    exact h
  · cases hf : belowB fuel 9
    · refine (new_fuel p a cap fuel w hp hr hf).mono fun r w' h => ?_
      unfold NewR
      rw [if_neg (by simp [belowB] at hf; omega)]
      exact h
    · have hf' : 0 ≤ fuel ∧ fuel < 9 := by simpa [belowB] using hf
      obtain ⟨F, rfl⟩ : ∃ F : Nat, fuel = F := ⟨fuel.toNat, by omega⟩
      refine (new_yes p a cap F w hp hr (by omega)).mono fun r w' h => ?_
      unfold NewR
      rw [if_pos ⟨hr, by omega, by omega⟩]
      exact h

end Go.Proofs.Ytkjjbcgecnjniaa
