import Derived.Deep.RegionHeld3
import Derived.Deep.DeepCutAuto
import Derived.ChangeMaps5
import Derived.ProofKit
import Derived.Lib.SmallJoins
import Derived.Deep.Slices
import Derived.Deep.Fields
import Derived.OpenShut
import Derived.StillTailTactics
import Derived.Laws.StructEq
import Derived.Test.YtkjjbcgecnjniaaPk01
import Derived.Test.YtkjjbcgecnjniaaPk02
import Derived.Test.YtkjjbcgecnjniaaPk03
import Derived.Test.YtkjjbcgecnjniaaPk04
import Derived.Test.YtkjjbcgecnjniaaPk05

/- The contract of Replay. -/
namespace Go.Proofs.Ytkjjbcgecnjniaa
open Go.RowKit

/-- Steps one behind the other: an error, the events, the state. -/
def St.run (s : St) : List Int → Int × List Ev × St
  | [] => (0, [], s)
  | t :: row => if (s.step t).1 = 0 then
      (if ((s.step t).2.2.run row).1 = 0 then (0, (s.step t).2.1 :: ((s.step t).2.2.run row).2.1, ((s.step t).2.2.run row).2.2) else (((s.step t).2.2.run row).1, [], s))
    else ((s.step t).1, [], s)

/-- Steps behind events that are done. -/
def comb (es : List Ev) (x : Int × List Ev × St) : Int × List Ev × Option St := if x.1 = 0 then (0, es ++ x.2.1, some x.2.2) else (x.1, [], none)

theorem comb_ok (es : List Ev) (s : St) (t : Int) (row : List Int) (h : (s.step t).1 = 0) : comb es (s.run (t :: row)) = comb (es ++ [(s.step t).2.1]) ((s.step t).2.2.run row) := by
  unfold comb
  rw [St.run, if_pos h]
  by_cases h2 : ((s.step t).2.2.run row).1 = 0
  · rw [if_pos h2, if_pos h2]; simp
  · rw [if_neg h2, if_neg h2, if_neg h2]
theorem comb_err (es : List Ev) (s : St) (t : Int) (row : List Int) (h : (s.step t).1 ≠ 0) : comb es (s.run (t :: row)) = ((s.step t).1, [], none) := by
  unfold comb
  rw [St.run, if_neg h, if_neg h]
theorem comb_nil (es : List Ev) (s : St) : comb es (s.run []) = (0, es, some s) := by
  unfold comb
  simp [St.run]

def goodPg (p : Pg) (fuel : Int) : Bool := rightPg p && decide (0 ≤ fuel ∧ fuel ≤ 8)
/-- What Replay answers: an error, the events, the state. -/
def rep (p : Pg) (fuel : Int) (row : List Int) : Int × List Ev × Option St := if goodPg p fuel = true then comb [] ((St.new p fuel.toNat).run row) else (1, [], none)

theorem step_code {s : St} (t : Int) : 0 ≤ (s.step t).1 ∧ (s.step t).1 ≤ 9 := by
  rcases s.step_cases t with ⟨i, _, _, e⟩ | ⟨e, he, e'⟩
  · rw [e]; simp
  · rw [e']; dsimp only; omega

def ReplayR (p : Pg) (fuel : Int) (row : List Int) (w : World) (r : Ending) (w' : World) : Prop :=
  Below w.heap.size w w' ∧ match rep p fuel row with
  | (_, es, some s) => ∃ g v, r = .returned (.tuple #[.pointer (some ⟨g, 0, none⟩), v, .int .i64 0]) ∧ w.heap.size ≤ g ∧ StAt w' g s ∧ s.Ok fuel.toNat ∧ OwnE w' w.heap.size v es
  | (e, _, none) => r = .returned (.tuple #[.pointer none, .slice none 0 0, .int .i64 e])

theorem replayR_some {p : Pg} {fuel : Int} {row : List Int} {w w' : World} {es : List Ev} {s : St} (h : rep p fuel row = (0, es, some s)) {g : Nat} {v : Value} (hb : Below w.heap.size w w') (hg : w.heap.size ≤ g) (hs : StAt w' g s) (ok : s.Ok fuel.toNat) (ho : OwnE w' w.heap.size v es) :
    ReplayR p fuel row w (.returned (.tuple #[.pointer (some ⟨g, 0, none⟩), v, .int .i64 0])) w' := by
  unfold ReplayR
  rw [h]
  exact ⟨hb, g, v, rfl, hg, hs, ok, ho⟩
theorem replayR_none {p : Pg} {fuel : Int} {row : List Int} {w w' : World} {e : Int} (h : rep p fuel row = (e, [], none)) (hb : Below w.heap.size w w') :
    ReplayR p fuel row w (.returned (.tuple #[.pointer none, .slice none 0 0, .int .i64 e])) w' := by
  unfold ReplayR
  rw [h]
  exact ⟨hb, rfl⟩

theorem ownE_base {w : World} {B B' : Nat} {v : Value} {l : List Ev} (h : OwnE w B v l) (hB : B' ≤ B) : OwnE w B' v l := by
  obtain ⟨h1, h2 | ⟨g, cap, cur, h2, h3, h4⟩⟩ := h
  · exact ⟨h1, .inl h2⟩
  · exact ⟨h1, .inr ⟨g, cap, cur, h2, by omega, h4⟩⟩

set_option maxRecDepth 100000 in
set_option maxHeartbeats 4000000 in
theorem replay_any (p : Pg) (a : Option Addr) (cap : Nat) (fuel : Int) (ra : Option Addr) (rcap : Nat) (row : List Int) (w : World) (hp : ThreadsAt w a p.threads) (hrow : NumsAt w ra row) (hr1000 : row.length ≤ 1000) :
    Calls Try.prog 9 #[.agg #[.int .i64 p.vars, .int .i64 p.mutexes, .slice a p.threads.length cap], .int .i64 fuel, .slice ra row.length rcap] w (ReplayR p fuel row w) := by
  have HP := Lib.hid hp
  have HROW := Lib.hid hrow
  clear hp hrow
  go_enter Try.func9, Try.ntmps9
  go_wp2_with fail
  refine (new_any p a cap fuel _ (HP.out.later (below_alloc1 w _))).mono ?_
  rintro r w3 hr
  unfold NewR at hr
  by_cases hgood : rightPg p = true ∧ 0 ≤ fuel ∧ fuel ≤ 8
  case neg =>
    rw [if_neg hgood] at hr
    obtain ⟨rfl, hb3⟩ := hr
    have hw3 : Below w.heap.size w w3 := (below_alloc1 w _).trans (hb3.mono (by simp))
    have HRP : Hid (rep p fuel row = (1, [], none)) := by
      show _ = _
      unfold rep goodPg
      rw [if_neg]
      simpa using hgood
    clear hb3 hgood
    go_wp2
    refine bodyPost_ret (v := .tuple #[.pointer none, .slice none 0 0, .int .i64 1]) (by simp [results, Try.results9, go_sem]) rfl ?_
    exact replayR_none HRP.out hw3
  rw [if_pos hgood] at hr
  obtain ⟨g, rfl, hg, hs, hb3⟩ := hr
  obtain ⟨hr1, hf0, hf8⟩ := hgood
  obtain ⟨F, rfl⟩ : ∃ F : Nat, fuel = F := ⟨fuel.toNat, by omega⟩
  have HRP : Hid (rep p F row = comb [] ((St.new p F).run row)) := by
    show _ = _
    unfold rep goodPg
    rw [if_pos (by simp [hr1]; omega)]
    rfl
  simp only [Int.toNat_natCast] at hs
  have hw3 : Below w.heap.size w w3 := (below_alloc1 w _).trans (hb3.mono (by simp))
  have hgw : w.heap.size ≤ g := by have : (w.alloc (.cells #[.int .i64 p.vars, .int .i64 p.mutexes, .slice a p.threads.length cap] 24)).heap.size ≤ g := hg; simp at this; omega
  have hg3 := hs.lt
  have HS := Lib.hid hs
  have HOK := Lib.hid (new_ok hr1 F (by omega))
  clear hs hb3 hr1 hg
  go_wp2_with fail
  go_loopw [11, 27] (fun l i wr => ∃ (k : Nat) (s : St) (es : List Ev), k ≤ row.length ∧ i = .int .i64 k ∧ es.length ≤ k ∧ Hid (rep p F row = comb es (s.run (row.drop k))) ∧ OwnE wr w3.heap.size l es ∧ StAt wr g s ∧ s.Ok F ∧ Below w.heap.size w wr ∧ w3.heap.size ≤ wr.heap.size) (fun _ i _ => row.length - (intOf i).toNat)
  case atStart => exact ⟨0, _, [], Nat.zero_le _, rfl, Nat.zero_le _, HRP, ownE_nil _ _, HS.out, HOK.out, hw3, Nat.le_refl _⟩
  case round =>
    clear HS HOK HRP
    obtain ⟨k, s, es, hk, rfl, hel, HRP, hown, hs, ok, hb, hz⟩ := hrel
    have HS := Lib.hid hs
    have OK := Lib.hid ok
    have hgr := hs.lt
    clear hs ok
    by_cases hlt : k < row.length
    · obtain ⟨rb, ro, rfl, hc⟩ := HROW.out.2 (by intro e; simp [e] at hlt)
      have d0 := cell_later hb (hc k hlt)
      have hdr : row.drop k = row[k] :: row.drop (k + 1) := List.drop_eq_getElem_cons hlt
      have HDR := Lib.hid hdr
      clear hc hdr
      generalize row[k] = t at *
      go_wp2_with fail
      refine (step_any HS.out OK.out t).mono ?_
      rintro r w5 ⟨rfl, hs5, ho5⟩
      have hok5 := OK.out.step_ok t
      have HCE := Lib.hid (comb_err es s t (row.drop (k + 1)))
      have HCO := Lib.hid (comb_ok es s t (row.drop (k + 1)))
      have hb5 := hb.trans (ho5.below hgw hb.size)
      have hown5 := hown.only ho5 hg3
      have hz5 : w3.heap.size ≤ w5.heap.size := Nat.le_trans hz ho5.size
      unfold stepV evV
      generalize s.step t = st at *
      obtain ⟨e, x, s'⟩ := st
      dsimp only at *
      have HS5 := Lib.hid (hs5.later (below_alloc1 w5 (.cells #[.int .i64 x.thread, .int .i64 x.kind, .int .i64 x.obj, .bool x.fail] 50)))
      have HOK5 := Lib.hid hok5
      have hbe : Below w.heap.size w (w5.alloc (.cells #[.int .i64 x.thread, .int .i64 x.kind, .int .i64 x.obj, .bool x.fail] 50)) := hb5.alloc hb5.size _
      clear hb hown ho5 hs5 hok5 hb5 HS d0 hgr
      by_cases he : e = 0
      · subst he
        have HR2 : Hid (rep p F row = comb (es ++ [x]) (s'.run (row.drop (k + 1)))) := by
          show _ = _
          rw [HRP.out, HDR.out]
          exact HCO.out rfl
        clear HCE HCO
        go_wp2_with (at_builtin; refine wp_appendE rfl (.tmp 40) (.tmp 42) rfl w3.heap.size _ es rfl ((hown5.alloc _).alloc _) ⟨w5.heap.size + 1, 0, none⟩ rfl x (ev_new (w5.alloc (.cells #[.int .i64 x.thread, .int .i64 x.kind, .int .i64 x.obj, .bool x.fail] 50)) x _ _ (by simp)) (by omega) (by simp; omega) ?_; intro v7 w7 hown7 hb7)
        have hb7' : Below w3.heap.size (w5.alloc (.cells #[.int .i64 x.thread, .int .i64 x.kind, .int .i64 x.obj, .bool x.fail] 50)) w7 := ((Below.refl _ _).alloc (by simp; omega) _).trans hb7
        have HS7 : Hid (StAt w7 g s') := (hb7'.block g hg3).trans HS5.out
        have hw7 : Below w.heap.size w w7 := hbe.trans (hb7'.mono (by omega))
        have hz7 : w3.heap.size ≤ w7.heap.size := by have := hb7'.size; simp at this; omega
        clear hb7 hb7' hown5
        go_roundw
        case rel => exact ⟨k + 1, s', es ++ [x], by omega, by go_num, by simp; omega, HR2, hown7, HS7.out, HOK5.out, hw7, hz7⟩
        case measure => simp [intOf]; omega
      · have q0 : (e != 0) = true := by simpa using he
        have HR2 : Hid (rep p F row = (e, [], none)) := by
          show _ = _
          rw [HRP.out, HDR.out]
          exact HCE.out he
        clear he HCE HCO
        go_wp2
        refine bodyPost_ret (v := .tuple #[.pointer none, .slice none 0 0, .int .i64 e]) (by simp [results, Try.results9, go_sem]) rfl ?_
        exact replayR_none HR2.out hbe
    · obtain rfl : k = row.length := by omega
      have HR2 : Hid (rep p F row = (0, es, some s)) := by
        show _ = _
        rw [HRP.out, List.drop_length]
        exact comb_nil es s
      go_wp2
      refine bodyPost_ret (v := .tuple #[.pointer (some ⟨g, 0, none⟩), _, .int .i64 0]) (by simp [results, Try.results9, go_sem]; rfl) rfl ?_
      exact replayR_some HR2.out hb hgw HS.out OK.out (ownE_base hown (by have := hw3.size; omega))

end Go.Proofs.Ytkjjbcgecnjniaa

/- Races compared; awake of layer 7: true. -/
namespace Go.Proofs.Ytkjjbcgecnjniaa
open Go.RowKit

set_option maxRecDepth 100000 in
theorem run_equal_rc (x y : Nat × Int) (w : World) :
    (Op.equalIn 10000 48 (.agg #[.int .i64 (x.1 : Nat), .int .i64 x.2]) (.agg #[.int .i64 (y.1 : Nat), .int .i64 y.2])).run Try.prog w = .ok (decide (x = y)) w := by
  have hd : decide (x = y) = (((x.1 : Int) == (y.1 : Int)) && (x.2 == y.2)) := by
    obtain ⟨a, b⟩ := x
    obtain ⟨a', b'⟩ := y
    rw [Bool.eq_iff_iff]
    simp
    omega
  rw [hd]
  obtain ⟨a, b⟩ := x
  obtain ⟨a', b'⟩ := y
  dsimp only
  clear hd
  have ht : Try.prog.underlying 48 = some (.struct (Try.prog.fieldsOf 48)) := by kernel_rfl
  have hp : Try.prog.stoodInHeld 48 = false := by kernel_rfl
  rw [run_equalIn_agg (P := Try.prog) w 9999 _ _ _ ht hp]
  unfold Program.fieldsOf
  rw [Try.underlying48]
  dsimp only
  rw [run_eqFields_consI (P := Try.prog) w 9998 _ _ _ _ .i64 .i64 a a' (by simp) Try.underlying3 rfl rfl]
  rw [run_eqFields_consI (P := Try.prog) w 9998 _ _ _ _ .i64 .i64 b b' (by simp) Try.underlying3 rfl rfl]
  rw [Op.eqFields]
  cases ((a : Int) == (a' : Int)) <;> cases (b == b') <;> simp

def wk7I : Ins := ⟨2, 0, 0, 0⟩
def wk7P : Pg := ⟨1, 0, [[wk7I], [wk7I]]⟩
def wk7a : Ev := ⟨0, 3, 0, false⟩
def wk7b : Ev := ⟨1, 3, 0, false⟩
def wk7S : St := match rep wk7P 1 [0] with
  | (_, _, some s) => s
  | _ => St.new wk7P 1
theorem wk7_rep : rep wk7P 1 [0] = (0, [wk7a], some wk7S) := by rfl
theorem wk7_len : wk7S.ts.length = 2 := by rfl
theorem wk7_races : racesN wk7S.next (okL [wk7a]) 2 = [(0, 1)] := by rfl
theorem wk7_rev : rev4 [wk7a, wk7b] = [(0, 1)] := by rfl
theorem one_rc {w w' : World} {B : Nat} {v : Value} (h : OwnRow w B 48 2 rcCell v [(0, 1)]) (hb : Below w.heap.size w w') : ∃ b o cap, v = .slice (some ⟨b, o, none⟩) 1 cap ∧ w'.cell? ⟨b, o, none⟩ = some (.int .i64 0) ∧ w'.cell? ⟨b, o + 1, none⟩ = some (.int .i64 1) := by
  obtain ⟨a, cap, rfl, hr, _⟩ := h.form rcCell_len (by simp)
  obtain ⟨b, o, rfl, hc⟩ := hr.2 (by simp)
  exact ⟨b, o, cap, rfl, cell_later hb (hc 0 (by simp) 0 _ rfl), cell_later hb (hc 0 (by simp) 1 _ rfl)⟩
theorem wk7_code (w : World) : CodeAt (w.alloc (.cells #[.int .i64 2, .int .i64 0, .int .i64 0, .int .i64 0] 58)) (some ⟨w.heap.size, 0, none⟩) [wk7I] := by
  refine ⟨by simp [maxLen], fun _ => ⟨w.heap.size, 0, rfl, fun i hi => ?_⟩⟩
  have hi' : i < 1 := hi
  obtain rfl : i = 0 := by omega
  simp [wk7I]
theorem wk7_threads (w : World) (c : Option Addr) (h : CodeAt w c [wk7I]) (hc : c ≠ none) : ThreadsAt (w.alloc (.cells #[.slice c 1 1, .slice c 1 1] 59)) (some ⟨w.heap.size, 0, none⟩) wk7P.threads := by
  refine ⟨by simp [maxLen, wk7P], fun _ => ⟨w.heap.size, 0, rfl, fun i hi => ?_⟩⟩
  have hi' : i < 2 := hi
  obtain rfl | rfl : i = 0 ∨ i = 1 := by omega
  · exact ⟨c, 1, by simp [wk7P], h.later (below_alloc1 _ _), fun e => absurd e hc⟩
  · exact ⟨c, 1, by simp [wk7P], h.later (below_alloc1 _ _), fun e => absurd e hc⟩
theorem nums_zero (w : World) : NumsAt (w.alloc (.cells #[.int .i64 0] 3)) (some ⟨w.heap.size, 0, none⟩) [0] := by
  refine ⟨by simp [maxLen], fun _ => ⟨w.heap.size, 0, rfl, fun i hi => ?_⟩⟩
  obtain rfl : i = 0 := by simp at hi; omega
  simp
theorem evs_two7 (w : World) : EvsAt (w.alloc (.cells #[.int .i64 0, .int .i64 3, .int .i64 0, .bool false, .int .i64 1, .int .i64 3, .int .i64 0, .bool false] 50)) (some ⟨w.heap.size, 0, none⟩) [wk7a, wk7b] := by
  refine ⟨by simp [maxLen], fun _ => ⟨w.heap.size, 0, rfl, fun i hi => ?_⟩⟩
  have : i = 0 ∨ i = 1 := by simp at hi; omega
  rcases this with rfl | rfl <;> simp [wk7a, wk7b]
theorem nil7_threads (w : World) : Calls Try.prog 28 #[.pointer none] w fun r w' => r = .returned (.int .i64 0) ∧ w = w' := by
  go_enter Try.func28, Try.ntmps28
  go_wp2
  go_ret
  exact ⟨rfl, rfl⟩
theorem races_nil (a : Option Addr) (cap : Nat) (l : List Ev) (w : World) (hl : EvsAt w a l) (hm : l.length ≤ 200) :
    Calls Try.prog 15 #[.pointer none, .slice a l.length cap] w fun r w' => ∃ b c, r = .returned (.slice b 0 c) ∧ Below w.heap.size w w' :=
  (races_gen none 0 (fun _ => none) (fun _ _ h => by cases h) (by omega) a cap l w hl hm (fun W _ => nil7_threads W) (fun W t h _ => absurd h (by omega))).mono fun r w' ⟨rv, h1, h2, h3⟩ => by
    obtain ⟨b, c, rfl, _, _⟩ := h2.form rcCell_len (by simp [racesN])
    exact ⟨b, c, h1, h3⟩
theorem races_st {F : Nat} {s : St} {b : Nat} {w : World} (h : StAt w b s) (ok : s.Ok F) (h4 : s.ts.length ≤ 4) (a : Option Addr) (cap : Nat) (l : List Ev) (hl : EvsAt w a l) (hm : l.length ≤ 200) :
    Calls Try.prog 15 #[.pointer (some ⟨b, 0, none⟩), .slice a l.length cap] w (RacesR s.next s.ts.length l w) :=
  races_gen _ s.ts.length s.next (fun _ _ h => next_thread h) h4 a cap l w hl hm (fun _ hb => threads_any (h.later hb)) (fun _ t _ hb => next_any (h.later hb) ok t)

set_option maxRecDepth 100000 in
set_option maxHeartbeats 4000000 in
theorem awake7_any (w : World) : Calls Try.prog 7 #[] w fun r w' => r = .returned (.bool true) ∧ Below w.heap.size w w' := by
  have hc := wk7_code w
  have ht := wk7_threads _ _ hc (by simp)
  have hn := nums_zero ((w.alloc (.cells #[.int .i64 2, .int .i64 0, .int .i64 0, .int .i64 0] 58)).alloc (.cells #[.slice (some ⟨w.heap.size, 0, none⟩) 1 1, .slice (some ⟨w.heap.size, 0, none⟩) 1 1] 59))
  have HT := Lib.hid (ht.later (below_alloc1 _ (.cells #[.int .i64 0] 3)))
  have HN := Lib.hid hn
  have hb : Below w.heap.size w (((w.alloc (.cells #[.int .i64 2, .int .i64 0, .int .i64 0, .int .i64 0] 58)).alloc (.cells #[.slice (some ⟨w.heap.size, 0, none⟩) 1 1, .slice (some ⟨w.heap.size, 0, none⟩) 1 1] 59)).alloc (.cells #[.int .i64 0] 3)) := ((below_alloc1 w _).alloc (by simp) _).alloc (by simp; omega) _
  clear hc ht hn
  go_enter Try.func7, Try.ntmps7
  go_wp2_with fail
  simp only [World.size_alloc] at HT HN
  generalize ((w.alloc (.cells #[.int .i64 2, .int .i64 0, .int .i64 0, .int .i64 0] 58)).alloc (.cells #[.slice (some ⟨w.heap.size, 0, none⟩) 1 1, .slice (some ⟨w.heap.size, 0, none⟩) 1 1] 59)).alloc (.cells #[.int .i64 0] 3) = W3 at *
  refine (replay_any wk7P (some ⟨w.heap.size + 1, 0, none⟩) 2 1 (some ⟨w.heap.size + 1 + 1, 0, none⟩) 1 [0] W3 HT.out HN.out (by simp)).mono ?_
  rintro r w4 ⟨hb4, hmt⟩
  rw [wk7_rep] at hmt
  dsimp only at hmt
  obtain ⟨g, v, rfl, hg, hs, ok, ho⟩ := hmt
  obtain ⟨av, cv, rfl, hE⟩ := OwnE.form ho (by simp)
  have HS := Lib.hid hs
  have HE := Lib.hid hE
  have hb5 := hb.trans (hb4.mono hb.size)
  clear hs hE ho hb hb4 HT HN hg
  go_wp2_with fail
  refine (races_st HS.out ok (by rw [wk7_len]; omega) av cv [wk7a] HE.out (by simp)).mono ?_
  rintro r w6 ⟨rv, rfl, hrv, hb6⟩
  rw [wk7_len, wk7_races] at hrv
  have HRV := Lib.hid hrv
  have hb7 := hb5.trans (hb6.mono hb5.size)
  have HE6 := Lib.hid (HE.out.later hb6)
  have hev := evs_two7 w6
  have hb8 := below_alloc1 w6 (.cells #[.int .i64 0, .int .i64 3, .int .i64 0, .bool false, .int .i64 1, .int .i64 3, .int .i64 0, .bool false] 50)
  clear hrv hb5 hb6 HS ok HE
  go_wp2_with fail
  generalize w6.alloc (.cells #[.int .i64 0, .int .i64 3, .int .i64 0, .bool false, .int .i64 1, .int .i64 3, .int .i64 0, .bool false] 50) = w8 at *
  refine (reversible_any (some ⟨w6.heap.size, 0, none⟩) 2 [wk7a, wk7b] w8 hev (by simp)).mono ?_
  rintro r w9 ⟨rm, rfl, hrm, hb9⟩
  rw [wk7_rev] at hrm
  obtain ⟨b1, o1, c1, rfl, x0, x1⟩ := one_rc HRV.out (hb8.trans (hb9.mono hb8.size))
  obtain ⟨b2, o2, c2, rfl, y0, y1⟩ := one_rc hrm (Below.refl _ w9)
  have HN := Lib.hid (races_nil av cv [wk7a] w9 (HE6.out.later (hb8.trans (hb9.mono hb8.size))) (by simp))
  have hb10 := hb7.trans ((hb8.trans (hb9.mono hb8.size)).mono hb7.size)
  have heq := run_equal_rc (0, 1) (0, 1)
  have hd : decide (((0 : Nat), (1 : Int)) = (0, 1)) = true := by simp
  rw [hd] at heq
  clear HRV hrm hb7 hb8 hb9 HE6 hev hd
  go_wp2_with fail
  refine HN.out.mono ?_
  rintro r w11 ⟨b3, c3, rfl, hb11⟩
  have hb12 := hb10.trans (hb11.mono hb10.size)
  clear HN hb10 hb11 heq
  go_wp2
  go_ret
  exact ⟨rfl, hb12⟩

end Go.Proofs.Ytkjjbcgecnjniaa

/- Conversions to uint, and remainders. -/
namespace Go.Proofs.Ytkjjbcgecnjniaa
open Go.RowKit

theorem wrap_u (n : Int) : ∃ m : Int, IntKind.u64.wrap n = m ∧ 0 ≤ m := by
  refine ⟨_, rfl, ?_⟩
  unfold IntKind.wrap
  simp [IntKind.signed, IntKind.bits]
  omega
theorem wrap_u_small (n : Int) (h0 : 0 ≤ n) (h1 : n ≤ 1000000) : IntKind.u64.wrap n = n := by
  unfold IntKind.wrap
  simp [IntKind.signed, IntKind.bits]
  omega
theorem tmod_nat (m : Int) (h0 : 0 ≤ m) (n : Nat) (h1 : 1 ≤ n) : ∃ k : Nat, m.tmod (n : Int) = k ∧ k < n := by
  rw [Int.tmod_eq_emod_of_nonneg h0]
  have a := Int.emod_nonneg m (b := (n : Int)) (by omega)
  have b := Int.emod_lt_of_pos m (b := (n : Int)) (by omega)
  exact ⟨(m % (n : Int)).toNat, by omega, by omega⟩

end Go.Proofs.Ytkjjbcgecnjniaa

/- The contracts of clock's Number and of the document's, and of the document's place. -/
namespace Go.Proofs.Ytkjjbcgecnjniaa
open Go.RowKit

/-- Is there such a place, in a row that may be? -/
def okI (l : List Ev) (i : Int) : Bool := rightL l && decide (0 ≤ i ∧ i < l.length)
/-- Which one of its thread's. -/
def numO (l : List Ev) (i : Int) : Nat := if okI l i then num l i.toNat else 0
theorem numO_wrong {l : List Ev} {i : Int} (h : rightL l = false) : numO l i = 0 := by simp [numO, okI, h]
theorem numO_out {l : List Ev} {i : Int} (h : ¬ (0 ≤ i ∧ i < l.length)) : numO l i = 0 := by simp [numO, okI, h]
theorem numO_at {l : List Ev} {i : Nat} (h : rightL l = true) (hi : i < l.length) : numO l i = cnt (isT l (evI l i).thread) (i + 1) := by
  unfold numO okI
  rw [h, if_pos (by simp; omega), Int.toNat_natCast]
  rfl
theorem cnt_isT (l : List Ev) (t : Int) (k : Nat) : cnt (isT l t) (k + 1) = cnt (isT l t) k + if (evI l k).thread = t then 1 else 0 := by
  rw [cnt_succ]
  simp only [isT_iff]
end Go.Proofs.Ytkjjbcgecnjniaa

/- The contract of clock's Before. -/
namespace Go.Proofs.Ytkjjbcgecnjniaa
open Go.RowKit

def beforeO (l : List Ev) (i k : Int) : Bool := okI l i && (okI l k && hb l i.toNat k.toNat)
theorem beforeO_wrong {l : List Ev} {i k : Int} (h : rightL l = false) : beforeO l i k = false := by simp [beforeO, okI, h]
theorem beforeO_out1 {l : List Ev} {i k : Int} (h : ¬ (0 ≤ i ∧ i < l.length)) : beforeO l i k = false := by simp [beforeO, okI, h]
theorem beforeO_out2 {l : List Ev} {i k : Int} (h : ¬ (0 ≤ k ∧ k < l.length)) : beforeO l i k = false := by simp [beforeO, okI, h]
theorem beforeO_at {l : List Ev} {i k : Nat} (h : rightL l = true) (hi : i < l.length) (hk : k < l.length) : beforeO l i k = hb l i k := by
  have h1 : okI l i = true := by simp [okI, h]; omega
  have h2 : okI l k = true := by simp [okI, h]; omega
  unfold beforeO
  rw [h1, h2, Int.toNat_natCast, Int.toNat_natCast]
  rfl
theorem hb_num {l : List Ev} {i k : Nat} (h : rightL l = true) (hi : i < l.length) : hb l i k = decide (numO l i ≤ clk l k (evI l i).thread) := by
  rw [Bool.eq_iff_iff, hb_iff_num, decide_eq_true_eq, numO_at h hi]
  rfl
theorem rightL_of_take {l : List Ev} (h : rightL l = true) (k : Nat) : rightL (l.take k) = true := by
  unfold rightL at *
  rw [List.all_eq_true] at *
  exact fun x hx => h x (List.mem_of_mem_take hx)
theorem clk_take {l : List Ev} {k n : Nat} (h : k < n) (hn : n ≤ l.length) (t : Int) : clk (l.take n) k t = clk l k t := by
  have h1 := clk_append (l := l.take n) (m := l.drop n) (k := k) (by simp; omega) t
  rw [List.take_append_drop] at h1
  exact h1.symm

end Go.Proofs.Ytkjjbcgecnjniaa

/- RaceCuts: the races of a row's beginning are the beginning of its races, each of an event of another thread. -/
namespace Go.Proofs.Ytkjjbcgecnjniaa
open Go.RowKit

theorem rev_fact {l : List Ev} {n : Nat} {x : Nat × Int} (h : x ∈ revTo l n) (hn : n ≤ l.length) : x.1 < l.length ∧ (evI l x.1).thread ≠ x.2 := by
  obtain ⟨k, hk, h1, h2⟩ := mem_revTo.1 h
  obtain ⟨h3, h4, _⟩ := mem_withL.1 h1
  rw [List.length_take] at h3
  have h5 : x.1 < k := by omega
  rw [evI_take h5] at h4
  exact ⟨by omega, by rw [h2]; exact h4⟩
theorem rev4_right {l : List Ev} (h : rightL l = true) : rev4 l = revTo l l.length := by
  unfold rev4 revL
  rw [if_pos h]
theorem rev4_take {l : List Ev} (h : rightL l = true) {n : Nat} (hn : n ≤ l.length) : rev4 (l.take n) = revTo l n := by
  unfold rev4
  rw [if_pos (rightL_of_take h n), revL_take hn]
/-- A race's cells. -/
theorem rc_cells {w : World} {b o : Nat} {l : List (Nat × Int)} (h : RowAt w (some ⟨b, o, none⟩) 2 rcCell l) {k : Nat} (hk : k < l.length) : w.cell? ⟨b, o + k * 2, none⟩ = some (.int .i64 (l[k].1 : Nat)) ∧ w.cell? ⟨b, o + k * 2 + 1, none⟩ = some (.int .i64 l[k].2) := by
  obtain ⟨b', o', e, hc⟩ := h.2 (by intro e; rw [e] at hk; simp at hk)
  cases e
  exact ⟨hc k hk 0 _ rfl, hc k hk 1 _ rfl⟩
theorem rc_some {w : World} {a : Option Addr} {l : List (Nat × Int)} (h : RowAt w a 2 rcCell l) {k : Nat} (hk : k < l.length) : ∃ b o, a = some ⟨b, o, none⟩ := by
  obtain ⟨b, o, e, _⟩ := h.2 (by intro e; rw [e] at hk; simp at hk)
  exact ⟨b, o, e⟩

set_option maxRecDepth 100000 in
set_option maxHeartbeats 8000000 in
theorem raceCuts_any (a : Option Addr) (l : List Ev) (cap : Nat) (cut : Int) (w : World) (hl : EvsAt w a l) (hcap : l.length ≤ cap) (hna : a = none → cap = 0) :
    Calls Try.prog 5 #[.slice a l.length cap, .int .i64 cut] w fun r w' => r = .returned (.bool true) ∧ Below w.heap.size w w' := by
  have hmx := hl.1
  unfold maxLen at hmx
  have HL := Lib.hid hl
  clear hl
  by_cases hlen : l.length ≤ 40
  case neg =>
    have hq : 40 < l.length := by omega
    clear hlen
    go_enter Try.func5, Try.ntmps5
    go_wp2_with fail
    refine (awake7_any w).mono ?_
    rintro r w1 ⟨rfl, hb1⟩
    go_wp2_with fail
    refine (awake7_any w1).mono ?_
    rintro r w2 ⟨rfl, hb2⟩
    go_wp2
    go_ret
    exact ⟨rfl, hb1.trans (hb2.mono hb1.size)⟩
  have hq40 : decide ((40 : Int) < (l.length : Int)) = false := by simp; omega
  have hq41 : decide (40 < l.length) = false := by simp; omega
  cases hr : rightL l
  case false =>
    have HR := Lib.hid hr
    clear hr
    go_enter Try.func5, Try.ntmps5
    go_wp2_with fail
    refine (awake7_any w).mono ?_
    rintro r w1 ⟨rfl, hb1⟩
    go_wp2_with fail
    refine (rows_any a cap l w1 (HL.out.later hb1)).mono ?_
    rintro r w2 ⟨rfl, hb2⟩
    rw [HR.out]
    go_wp2_with fail
    refine (awake7_any w2).mono ?_
    rintro r w3 ⟨rfl, hb3⟩
    have hb4 := (hb1.trans (hb2.mono hb1.size))
    go_wp2
    go_ret
    exact ⟨rfl, hb4.trans (hb3.mono hb4.size)⟩
  have HR := Lib.hid hr
  clear hr
  go_enter Try.func5, Try.ntmps5
  go_wp2_with fail
  refine (awake7_any w).mono ?_
  rintro r w1 ⟨rfl, hb1⟩
  go_wp2_with fail
  refine (rows_any a cap l w1 (HL.out.later hb1)).mono ?_
  rintro r w2 ⟨rfl, hb2⟩
  rw [HR.out]
  have hbw := hb1.trans (hb2.mono hb1.size)
  clear hb1 hb2
  obtain ⟨I0, e1, hI0⟩ := wrap_u cut
  have e4 : IntKind.u64.wrap ((l.length : Int) + 1) = (l.length : Int) + 1 := wrap_u_small _ (by omega) (by omega)
  obtain ⟨n, e5, hn⟩ := tmod_nat I0 hI0 (l.length + 1) (by omega)
  rw [show ((l.length + 1 : Nat) : Int) = (l.length : Int) + 1 by omega] at e5
  have e8 : IntKind.i64.wrap (n : Int) = n := IntWalk.i64_in _ (by omega)
  have e11 : I0 % ((l.length : Int) + 1) = n := by rw [← e5, Int.tmod_eq_emod_of_nonneg hI0]
  have e6 : IntKind.i64.wrap ((l.length : Int) + 1) = (l.length : Int) + 1 := IntWalk.i64_in _ (by omega)
  have hz : ¬ ((l.length : Int) + 1 = 0) := by omega
  have hnc : n ≤ cap := by omega
  have hnc2 : (n : Int) ≤ cap := by omega
  go_wp2_with fail
  have hlent : (l.take n).length = n := by simp; omega
  have HC2 := Lib.hid (reversible_any a cap (l.take n) w2 ((HL.out.later hbw).take n) (by omega))
  rw [hlent] at HC2
  refine HC2.out.mono ?_
  rintro r w3 ⟨ra, rfl, hra, hb3⟩
  rw [rev4_take HR.out (by omega)] at hra
  clear HC2 e1 e4 e5 e8 e11 e6 hz hI0 hnc hnc2
  have hb4 := hbw.trans (hb3.mono hbw.size)
  have HRA := Lib.hid hra
  clear hra hb3 hbw
  go_wp2_with fail
  refine (reversible_any a cap l w3 (HL.out.later hb4) (by omega)).mono ?_
  rintro r w4 ⟨rb, rfl, hrb, hb5⟩
  rw [rev4_right HR.out] at hrb
  have hb6 := hb4.trans (hb5.mono hb4.size)
  have HRA4 := Lib.hid (HRA.out.later hb5)
  obtain ⟨z, hpre⟩ := revTo_prefix l (m := n) (n := l.length) (by omega)
  have HF : Hid (∀ x ∈ revTo l l.length, x.1 < l.length ∧ (evI l x.1).thread ≠ x.2) := fun x hx => rev_fact hx (Nat.le_refl _)
  have hlB : (revTo l l.length).length ≤ 1600 := Nat.le_trans (revTo_len _ _) (Nat.mul_le_mul hlen hlen)
  obtain ⟨aa, ca, rfl, hA, _⟩ := HRA4.out.form rcCell_len (by have := revTo_len l n; have : n * n ≤ 40 * 40 := Nat.mul_le_mul (by omega) (by omega); omega)
  obtain ⟨ab, cb, rfl, hB, _⟩ := OwnRow.form hrb rcCell_len (by omega)
  have HA := Lib.hid hA
  have HB := Lib.hid hB
  have HPRE := Lib.hid hpre
  have hlA : (revTo l n).length ≤ (revTo l l.length).length := by rw [hpre, List.length_append]; omega
  clear hA hB hrb hb4 hb5 HRA HRA4 hpre hlent
  generalize revTo l n = RA at *
  generalize revTo l l.length = RB at *
  have hqa : decide ((RB.length : Int) < (RA.length : Int)) = false := by simp; omega
  have hqa2 : decide (RB.length < RA.length) = false := by simp; omega
  go_wp2_with fail
  go_loopw [42] (fun i wr => ∃ k : Nat, k ≤ RB.length ∧ i = .int .i64 k ∧ Hid (Below w4.heap.size w4 wr)) (fun i _ => RB.length - (intOf i).toNat)
  case atStart => exact ⟨0, Nat.zero_le _, rfl, Below.refl _ _⟩
  case round =>
    obtain ⟨k, hk, rfl, HW⟩ := hrel
    by_cases hlt : k < RB.length
    · obtain ⟨b2, o2, rfl⟩ := rc_some HB.out hlt
      obtain ⟨c0, c1⟩ := rc_cells (HB.out.later HW.out) hlt
      obtain ⟨f1, f2⟩ := HF.out RB[k] (List.getElem_mem hlt)
      have hbx := hb6.trans (HW.out.mono hb6.size)
      obtain ⟨b, o, rfl, t0, _⟩ := (HL.out.later hbx).one f1
      have g1 : decide ((RB[k].1 : Int) < 0) = false := by simp
      have g2 : decide ((l.length : Int) ≤ (RB[k].1 : Int)) = false := by simp; omega
      have g4 : decide (l.length ≤ RB[k].1) = false := by simp; omega
      have g3 : ((evI l RB[k].1).thread == RB[k].2) = false := by simpa using f2
      have f1i : (RB[k].1 : Int) < l.length := by omega
      have hki : (k : Int) < RB.length := by omega
      by_cases hka : k < RA.length
      · obtain ⟨b3, o3, rfl⟩ := rc_some HA.out hka
        obtain ⟨x0, x1⟩ := rc_cells (HA.out.later HW.out) hka
        have heq := run_equal_rc RA[k] RB[k]
        have hsame : RA[k] = RB[k] := by
          have h7 : RB[k]? = RA[k]? := by rw [HPRE.out, List.getElem?_append_left hka]
          rw [List.getElem?_eq_getElem hlt, List.getElem?_eq_getElem hka] at h7
          injection h7 with h7
          exact h7.symm
        have hd : decide (RA[k] = RB[k]) = true := by simp [hsame]
        rw [hd] at heq
        clear hsame hd f2
        have hkai : decide ((k : Int) < RA.length) = true := by simp; omega
        have hkai2 : (k : Int) < RA.length := by omega
        go_wp2
        go_quiet (fail)
        go_wp2
        go_roundw
        case rel => exact ⟨k + 1, by omega, by go_num, HW.out.drewN⟩
        case measure => simp [intOf]; omega
      · have hkai : decide ((k : Int) < RA.length) = false := by simp; omega
        go_wp2
        go_quiet (fail)
        go_wp2
        go_roundw
        case rel => exact ⟨k + 1, by omega, by go_num, HW.out.drewN⟩
        case measure => simp [intOf]; omega
    · obtain rfl : k = RB.length := by omega
      go_wp2
      go_ret
      exact ⟨rfl, hb6.trans (HW.out.mono hb6.size)⟩

end Go.Proofs.Ytkjjbcgecnjniaa

/- Two rows are the same, plainly, and as a call answers it. -/
namespace Go.Proofs.Ytkjjbcgecnjniaa
open Go.RowKit

/-- Two rows are the same, but for an order that doesn't matter. -/
def SameO (a b : List Ev) : Prop := rightL a = true ∧ rightL b = true ∧ Sim a b
def SameR (a b : List Ev) (w : World) (r : Ending) (w' : World) : Prop := ∃ c : Bool, r = .returned (.bool c) ∧ (c = true ↔ SameO a b) ∧ Below w.heap.size w w'
theorem in4_of_right {l : List Ev} (h : rightL l = true) : In4 l := by
  intro e he
  unfold rightL at h
  have := rightEv_bd (List.all_eq_true.1 h e he)
  omega
theorem SameO.len {a b : List Ev} (h : SameO a b) : a.length = b.length := h.2.2.len (in4_of_right h.1) (in4_of_right h.2.1)
theorem below_step2 {w8 W w' : World} (h1 : Below w8.heap.size w8 W) (hb : Below W.heap.size W w') : Below w8.heap.size w8 w' := h1.trans (hb.mono h1.size)

end Go.Proofs.Ytkjjbcgecnjniaa

/- The contract of the document's Order: a row of rows of bools. -/
namespace Go.Proofs.Ytkjjbcgecnjniaa
open Go.RowKit

theorem OwnRow.heap {T : Type} {w : World} {B g len cap : Nat} {t : TypeId} {n : Nat} {f : T → List Value} {l : List T} (h : OwnRow w B t n f (.slice (some ⟨g, 0, none⟩) len cap) l) : ∃ cur, w.heap[g]? = some (.cells cur t (0, 0)) := by
  obtain ⟨h1, ⟨h2, h3⟩ | ⟨g', cap', cur, h2, h3, h4, _⟩⟩ := h
  · simp at h2
  · simp at h2
    obtain ⟨rfl, _⟩ := h2
    exact ⟨cur, h4⟩
theorem OwnRow.ne {T : Type} {w : World} {B g : Nat} {t t' : TypeId} {n : Nat} {f : T → List Value} {v : Value} {l : List T} {xs : List Value} (h : OwnRow w B t n f v l) (hm : MidAt w g t' xs) (ht : t' ≠ t) : v.ownBlock ≠ some g := by
  intro e
  obtain ⟨h1, ⟨h2, h3⟩ | ⟨g', cap', cur, h2, h3, h4, _⟩⟩ := h
  · subst h2
    simp [Value.ownBlock] at e
  · subst h2
    simp [Value.ownBlock] at e
    subst e
    unfold MidAt at hm
    rw [hm] at h4
    simp at h4
    exact ht h4.2
/-- A row of another type is not the row's own block. -/
theorem OwnRow.other {T : Type} {w w' : World} {B g : Nat} {t t' : TypeId} {n : Nat} {f : T → List Value} {v : Value} {l : List T} {xs : List Value} (h : OwnRow w B t n f v l) (hm : MidAt w g t' xs) (ht : t' ≠ t) (ho : Only g w w') : OwnRow w' B t n f v l := by
  have hne := h.ne hm ht
  obtain ⟨h1, ⟨h2, h3⟩ | ⟨g', cap', cur, h2, h3, h4, h5⟩⟩ := h
  · exact ⟨h1, .inl ⟨h2, h3⟩⟩
  · refine ⟨h1, .inr ⟨g', cap', cur, h2, h3, (ho.block g' (Array.getElem?_eq_some_iff.1 h4).1 ?_).trans h4, h5⟩⟩
    rintro rfl
    apply hne
    rw [h2]
    rfl
theorem MidAt.grown {T : Type} {w w' : World} {B g : Nat} {t t' : TypeId} {n : Nat} {f : T → List Value} {v : Value} {l : List T} {xs : List Value} (hm : MidAt w g t' xs) (h : OwnRow w B t n f v l) (ht : t' ≠ t) (hg : w.grownBy w' v.ownBlock) : MidAt w' g t' xs :=
  (hg.block g hm.lt (fun e => h.ne hm ht e.symm)).trans hm


/-- A row of bools. -/
def rowB (n : Nat) (r : Nat → Bool) : List Value := (List.range n).map fun j => .bool (r j)
theorem rowB_len (n : Nat) (r : Nat → Bool) : (rowB n r).length = n := by simp [rowB]
theorem rowB_get (n : Nat) (r : Nat → Bool) {j : Nat} (h : j < n) : (rowB n r)[j]? = some (.bool (r j)) := by simp [rowB, h]
theorem rowB_congr {n : Nat} {r s : Nat → Bool} (h : ∀ j, j < n → r j = s j) : rowB n r = rowB n s := by
  unfold rowB
  apply List.map_congr_left
  intro j hj
  rw [h j (by simpa using hj)]
theorem rowB_set (n : Nat) (r : Nat → Bool) (j : Nat) (v : Bool) : (rowB n r).set j (.bool v) = rowB n (fun i => if i = j then v else r i) := by
  apply List.ext_getElem?
  intro i
  rw [List.getElem?_set]
  by_cases hi : i < n
  · rw [rowB_len]
    by_cases e : j = i
    · subst e
      rw [if_pos rfl, if_pos hi, rowB_get _ _ hi, if_pos rfl]
    · rw [if_neg e, rowB_get _ _ hi, rowB_get _ _ hi, if_neg (fun h => e h.symm)]
  · rw [List.getElem?_eq_none (by rw [rowB_len]; omega), List.getElem?_eq_none (by rw [rowB_len]; omega), rowB_len]
    split
    · rw [if_neg (by omega)]
    · rfl
theorem rowB_made (n : Nat) : rowB n (fun _ => false) = List.replicate n (.bool false) := by
  unfold rowB
  rw [List.map_const']
  simp

/-- What happens before event k, by those ahead from m on. -/
def ordR (l : List Ev) (k m j : Nat) : Bool := decide (j = k) || (List.range k).any (fun i => decide (m ≤ i) && (dep (evI l i) (evI l k) && hb l j i))
theorem ordR_top (l : List Ev) (k j : Nat) : ordR l k k j = decide (j = k) := by
  unfold ordR
  rw [Bool.eq_iff_iff, Bool.or_eq_true, List.any_eq_true]
  constructor
  · rintro (h | ⟨i, hi, h⟩)
    · exact h
    · simp at hi h
      omega
  · exact .inl
theorem ordR_zero (l : List Ev) (k j : Nat) : ordR l k 0 j = hb l j k := by
  unfold ordR
  rw [Bool.eq_iff_iff, hb_def, Bool.or_eq_true, List.any_eq_true, decide_eq_true_eq]
  constructor
  · rintro (h | ⟨i, hi, h⟩)
    · exact .inl h
    · rw [Bool.and_eq_true, Bool.and_eq_true] at h
      exact .inr ⟨i, by simpa using hi, h.2⟩
  · rintro (h | ⟨i, hi, h⟩)
    · exact .inl h
    · exact .inr ⟨i, by simpa using hi, by rw [Bool.and_eq_true, Bool.and_eq_true]; exact ⟨by simp, h⟩⟩
theorem ordR_step {l : List Ev} {k m j : Nat} (hm : m < k) : ordR l k m j = (ordR l k (m + 1) j || (dep (evI l m) (evI l k) && hb l j m)) := by
  unfold ordR
  rw [Bool.eq_iff_iff, Bool.or_eq_true, Bool.or_eq_true, Bool.or_eq_true, List.any_eq_true, List.any_eq_true]
  constructor
  · rintro (h | ⟨i, hi, h⟩)
    · exact .inl (.inl h)
    · rw [Bool.and_eq_true, decide_eq_true_eq] at h
      by_cases e : i = m
      · subst e; exact .inr h.2
      · exact .inl (.inr ⟨i, hi, by rw [Bool.and_eq_true, decide_eq_true_eq]; exact ⟨by omega, h.2⟩⟩)
  · rintro ((h | ⟨i, hi, h⟩) | h)
    · exact .inl h
    · rw [Bool.and_eq_true, decide_eq_true_eq] at h
      exact .inr ⟨i, hi, by rw [Bool.and_eq_true, decide_eq_true_eq]; exact ⟨by omega, h.2⟩⟩
    · exact .inr ⟨m, by simpa using hm, by rw [Bool.and_eq_true, decide_eq_true_eq]; exact ⟨Nat.le_refl _, h⟩⟩
/-- The first j places of event m's have been looked at. -/
def ordM (l : List Ev) (k m q j : Nat) : Bool := if j < q then ordR l k m j else ordR l k (m + 1) j
theorem ordM_zero (l : List Ev) (k m j : Nat) : ordM l k m 0 j = ordR l k (m + 1) j := if_neg (by omega)
theorem ordM_all {l : List Ev} {k m : Nat} (hm : m < k) (j : Nat) : ordM l k m (m + 1) j = ordR l k m j := by
  unfold ordM
  split
  · rfl
  · rw [ordR_step hm]
    cases h : hb l j m
    · simp
    · have := hb_le h
      omega
theorem ordR_skip {l : List Ev} {k m : Nat} (hm : m < k) (hd : dep (evI l m) (evI l k) = false) (j : Nat) : ordR l k m j = ordR l k (m + 1) j := by
  rw [ordR_step hm, hd]
  simp
theorem ordM_set {l : List Ev} {k m q : Nat} (hm : m < k) (hd : dep (evI l m) (evI l k) = true) (j : Nat) : ordM l k m (q + 1) j = if j = q then (ordM l k m q q || hb l q m) else ordM l k m q j := by
  unfold ordM
  by_cases e : j = q
  · subst e
    rw [if_pos (show j < j + 1 by omega), if_pos rfl, if_neg (show ¬ j < j by omega), ordR_step hm, hd]
    rfl
  · rw [if_neg e]
    by_cases h : j < q
    · rw [if_pos h, if_pos (show j < q + 1 by omega)]
    · rw [if_neg h, if_neg (show ¬ j < q + 1 by omega)]

/-- The rows that are there. -/
def OrdAt (w : World) (l : List Ev) (rows : List Value) (k G : Nat) : Prop :=
  rows.length = k ∧ ∀ i (h : i < rows.length), ∃ g, rows[i] = .slice (some ⟨g, 0, none⟩) l.length l.length ∧ MidAt w g 4 (rowB l.length fun j => hb l j i) ∧ g < G
theorem OrdAt.later {w w' : World} {l : List Ev} {rows : List Value} {k G : Nat} (h : OrdAt w l rows k G) (hb : Below w.heap.size w w') : OrdAt w' l rows k G :=
  ⟨h.1, fun i hi => by obtain ⟨g, h1, h2, h3⟩ := h.2 i hi; exact ⟨g, h1, h2.later hb, h3⟩⟩
theorem OrdAt.only {w w' : World} {l : List Ev} {rows : List Value} {k G : Nat} (h : OrdAt w l rows k G) (ho : Only G w w') : OrdAt w' l rows k G :=
  ⟨h.1, fun i hi => by obtain ⟨g, h1, h2, h3⟩ := h.2 i hi; exact ⟨g, h1, (ho.block g h2.lt (by omega)).trans h2, h3⟩⟩
theorem OrdAt.get {w : World} {l : List Ev} {rows : List Value} {k G : Nat} (h : OrdAt w l rows k G) {i : Nat} (hi : i < k) : ∃ g, rows[i]? = some (.slice (some ⟨g, 0, none⟩) l.length l.length) ∧ (∀ j, j < l.length → w.cell? ⟨g, j, none⟩ = some (.bool (hb l j i))) ∧ g < G := by
  obtain ⟨g, h1, h2, h3⟩ := h.2 i (by rw [h.1]; exact hi)
  refine ⟨g, by rw [List.getElem?_eq_getElem (by rw [h.1]; exact hi), h1], fun j hj => ?_, h3⟩
  rw [h2.cell, rowB_get _ _ hj]

def one (v : Value) : List Value := [v]
theorem one_len (v : Value) : (one v).length = 1 := rfl

/-- What Order answers: a row of rows. -/
def OrdR (l : List Ev) (w : World) (r : Ending) (w' : World) : Prop :=
  ∃ a cap rows, r = .returned (.slice a l.length cap) ∧ RowAt w' a 1 one rows ∧ OrdAt w' l rows l.length w'.heap.size ∧ Below w.heap.size w w'

theorem OwnRow.cell1 {w : World} {B g len cap : Nat} {t : TypeId} {rows : List Value} (h : OwnRow w B t 1 one (.slice (some ⟨g, 0, none⟩) len cap) rows) {i : Nat} {u : Value} (hu : rows[i]? = some u) : w.cell? ⟨g, i, none⟩ = some u := by
  have hi : i < rows.length := (List.getElem?_eq_some_iff.1 hu).1
  obtain ⟨a, cap', e, hr, _⟩ : ∃ a cap', Value.slice (some ⟨g, 0, none⟩) len cap = .slice a rows.length cap' ∧ (∀ i (h : i < rows.length), ∃ b o, a = some ⟨b, o, none⟩ ∧ w.cell? ⟨b, o + i, none⟩ = some rows[i]) ∧ True := by
    obtain ⟨h1, ⟨h2, h3⟩ | ⟨g', cap', cur, h2, h3, h4, h5, h6, h7, h8⟩⟩ := h
    · simp at h2
    · refine ⟨some ⟨g', 0, none⟩, cap', h2, fun i hi => ⟨g', 0, rfl, ?_⟩, trivial⟩
      have hj := cellsL_get one_len rows i 0 hi (by omega)
      rw [← h8, List.getElem?_take_of_lt (by omega)] at hj
      simp [World.cell?, h4]
      simpa [one] using hj
  simp at e
  obtain ⟨rfl, _⟩ := e
  obtain ⟨b, o, e2, hc⟩ := hr i hi
  cases e2
  rw [Nat.zero_add] at hc
  rw [hc, ← hu, List.getElem?_eq_getElem hi]

/-- What Order holds in memory while it fills the row of event k. -/
def OrdW (w : World) (l : List Ev) (k gr : Nat) (v : Value) (rows : List Value) (r : Nat → Bool) (w' : World) : Prop :=
  MidAt w' gr 4 (rowB l.length r) ∧ OwnRow w' w.heap.size 124 1 one v rows ∧ OrdAt w' l rows k gr ∧ Below w.heap.size w w'
theorem OrdW.later {w w1 w' : World} {l : List Ev} {k gr : Nat} {v : Value} {rows : List Value} {r : Nat → Bool} (h : OrdW w l k gr v rows r w1) (hb : Below w1.heap.size w1 w') : OrdW w l k gr v rows r w' :=
  ⟨h.1.later hb, h.2.1.later hb, h.2.2.1.later hb, h.2.2.2.trans (hb.mono h.2.2.2.size)⟩
theorem OrdW.set {w w1 : World} {l : List Ev} {k gr : Nat} {v : Value} {rows : List Value} {r s : Nat → Bool} (h : OrdW w l k gr v rows r w1) (hgr : w.heap.size ≤ gr) (j : Nat) (b : Bool) (hs : ∀ i, i < l.length → (if i = j then b else r i) = s i) : OrdW w l k gr v rows s (w1.setCell ⟨gr, j, none⟩ (.bool b)) := by
  have ho : Only gr w1 (w1.setCell ⟨gr, j, none⟩ (.bool b)) := (Only.refl _ _).setCell _ _
  refine ⟨?_, h.2.1.other h.1 (by decide) ho, h.2.2.1.only ho, h.2.2.2.setCell (p := ⟨gr, j, none⟩) hgr _⟩
  have h1 := h.1.set j (.bool b)
  rw [rowB_set, rowB_congr hs] at h1
  exact h1
theorem OrdW.congr {w w' : World} {l : List Ev} {k gr : Nat} {v : Value} {rows : List Value} {r s : Nat → Bool} (h : OrdW w l k gr v rows r w') (hs : ∀ i, i < l.length → r i = s i) : OrdW w l k gr v rows s w' := by
  refine ⟨?_, h.2⟩
  rw [← rowB_congr hs]
  exact h.1

theorem OrdW.push {w w1 w2 : World} {l : List Ev} {k gr : Nat} {v : Value} {rows : List Value} (h : OrdW w l k gr v rows (fun j => hb l j k) w1) (hg : w1.grownBy w2 v.ownBlock) : OrdAt w2 l (rows ++ [.slice (some ⟨gr, 0, none⟩) l.length l.length]) (k + 1) w2.heap.size := by
  have hk := h.2.2.1.1
  have hgr := h.1.lt
  have hs := hg.size
  refine ⟨by simp [hk], fun i hi => ?_⟩
  rw [List.length_append, List.length_singleton] at hi
  by_cases e : i < rows.length
  · obtain ⟨g, h1, h2, h3⟩ := h.2.2.1.2 i e
    exact ⟨g, by rw [List.getElem_append_left e, h1], h2.grown h.2.1 (by decide) hg, by omega⟩
  · obtain rfl : i = rows.length := by omega
    refine ⟨gr, by simp, ?_, by omega⟩
    rw [hk]
    exact h.1.grown h.2.1 (by decide) hg
theorem ordW_new {w wr : World} {l : List Ev} {k : Nat} {v : Value} {rows : List Value} (h1 : OwnRow wr w.heap.size 124 1 one v rows) (h2 : OrdAt wr l rows k wr.heap.size) (h3 : Below w.heap.size w wr) :
    OrdW w l k wr.heap.size v rows (ordR l k k) (wr.alloc (.cells ((madeCells #[.bool false] l.length).setIfInBounds k (.bool true)) 4)) := by
  have hba := below_alloc1 wr (.cells ((madeCells #[.bool false] l.length).setIfInBounds k (.bool true)) 4)
  refine ⟨?_, h1.later hba, h2.later hba, h3.trans (hba.mono h3.size)⟩
  have e : (madeCells #[.bool false] l.length) = (rowB l.length fun _ => false).toArray := by
    rw [rowB_made]
    simp [madeCells]
    apply Array.ext <;> simp [Nat.mod_one]
  have h := heap_alloc_new wr (.cells ((madeCells #[.bool false] l.length).setIfInBounds k (.bool true)) 4)
  unfold MidAt
  rw [h, e, List.setIfInBounds_toArray, rowB_set, rowB_congr]
  intro j _
  rw [ordR_top]
  by_cases e : j = k <;> simp [e]
theorem infoRow : (Try.prog.info? 124).map (fun i => (i.zero, i.size, i.bytes)) = some (some (.slice none 0 0), 1, 24) := by kernel_rfl
theorem one_one (v : Value) (h : v.oneCell' = true) : ∀ u ∈ one v, u.oneCell' = true := by
  intro u hu
  simp [one] at hu
  rw [hu]
  exact h

set_option maxRecDepth 100000 in
set_option maxHeartbeats 4000000 in
theorem order_any (a : Option Addr) (cap : Nat) (l : List Ev) (w : World) (hl : EvsAt w a l) (hm : l.length ≤ 1000) :
    Calls Try.prog 50 #[.slice a l.length cap] w (OrdR l w) := by
  have hmk := run_make_k (P := Try.prog) 124 4 (.bool false) 1 1 Try.underlying124 (by kernel_rfl) l.length (by omega) (by omega)
  have HL := Lib.hid hl
  clear hl
  go_enter Try.func50, Try.ntmps50
  go_wp2
  go_loopw [3, 4] (fun v i wr => ∃ (k : Nat) (rows : List Value), k ≤ l.length ∧ i = .int .i64 k ∧ Hid (OwnRow wr w.heap.size 124 1 one v rows ∧ OrdAt wr l rows k wr.heap.size ∧ Below w.heap.size w wr)) (fun _ i _ => l.length - (intOf i).toNat)
  case atStart => exact ⟨0, [], Nat.zero_le _, rfl, ownRow_nil _ _ _ _ _, ⟨rfl, fun i h => by simp at h⟩, Below.refl _ _⟩
  case round =>
    obtain ⟨k, rows, hk, rfl, HW⟩ := hrel
    obtain ⟨a', cap', rfl, hrow, _⟩ := HW.out.1.form one_len (by have := HW.out.2.1.1; omega)
    by_cases hlt : k < l.length
    · have hbw := HW.out.2.2
      obtain ⟨b, o, rfl, t0, t1, t2, t3⟩ := HL.out.one hlt
      have HM2 := Lib.hid (ordW_new HW.out.1 HW.out.2.1 hbw)
      have hrl := Nat.le_of_eq HW.out.2.1.1
      have hrl2 := Nat.le_of_eq HW.out.2.1.1.symm
      have hmc : (madeCells #[Value.bool false] l.length)[k]? = some (.bool false) := by simp [madeCells, hlt, Nat.mod_one]
      have hg := hbw.size
      go_wp2
      clear hmc hmk
      generalize hGR : wr.heap.size = gr at *
      go_loopw [6] (fun i wr => ∃ (m : Nat) (z : Int), m ≤ k ∧ i = .int .i64 z ∧ Hid (z = (m : Int) - 1) ∧ Hid (OrdW w l k gr (.slice a' rows.length cap') rows (ordR l k m) wr)) (fun i _ => (intOf i + 1).toNat)
      case atStart => exact ⟨k, _, Nat.le_refl _, rfl, rfl, HM2⟩
      case round =>
        clear HM2
        obtain ⟨m, z, hmk, rfl, HZ, HS⟩ := hrel
        cases m with
        | zero =>
          obtain rfl : z = -1 := by have := HZ.out; omega
          have HS0 := Lib.hid (HS.out.congr (s := fun j => hb l j k) (fun j _ => ordR_zero l k j))
          clear HS
          have hbz := HS0.out.2.2.2.size
          go_wp2_with (at_builtin; refine wp_appendR (f := one) (n := 1) 122 124 24 (.slice none 0 0) Try.underlying122 infoRow rfl (by omega) (by omega) one_len rfl (.tmp 56) (.tmp 58) rfl w.heap.size _ rows rfl (OwnRow.alloc HS0.out.2.1 _) ⟨wr.heap.size, 0, none⟩ rfl (.slice (some ⟨gr, 0, none⟩) l.length l.length) (one_one _ rfl) (cells_new wr (one (.slice (some ⟨gr, 0, none⟩) l.length l.length)) _ _ rfl) (by omega) (by simp; omega) ?_; intro v1 w2 hown2 hb3 hgrow)
          have HP := Lib.hid (OrdW.push (HS0.out.later (below_alloc1 wr _)) hgrow)
          have hb4 := ((HS0.out.2.2.2.alloc hbz _).trans hb3)
          clear hgrow hb3 HS0
          go_roundw
          case rel => exact ⟨k + 1, _, by omega, by go_num, hown2, HP.out, hb4⟩
          case measure => simp [intOf]; omega
        | succ m =>
          obtain rfl : z = (m : Int) := by have := HZ.out; omega
          have hml : m < l.length := by omega
          obtain ⟨b', o', e, s0, s1, s2, s3⟩ := HL.out.one hml
          cases e
          have hbz := HS.out.2.2.2
          have HQ : Hid (∀ w', Below wr.heap.size wr w' → (w'.cell? ⟨b, o + m * 4, none⟩ = some (.int .i64 (evI l m).thread) ∧ w'.cell? ⟨b, o + m * 4 + 1, none⟩ = some (.int .i64 (evI l m).kind) ∧ w'.cell? ⟨b, o + m * 4 + 2, none⟩ = some (.int .i64 (evI l m).obj) ∧ w'.cell? ⟨b, o + m * 4 + 3, none⟩ = some (.bool (evI l m).fail)) ∧
              (w'.cell? ⟨b, o + k * 4, none⟩ = some (.int .i64 (evI l k).thread) ∧ w'.cell? ⟨b, o + k * 4 + 1, none⟩ = some (.int .i64 (evI l k).kind) ∧ w'.cell? ⟨b, o + k * 4 + 2, none⟩ = some (.int .i64 (evI l k).obj) ∧ w'.cell? ⟨b, o + k * 4 + 3, none⟩ = some (.bool (evI l k).fail)) ∧ Below wr.heap.size wr w') := by
            intro w' h
            have h9 := hbz.trans (h.mono hbz.size)
            exact ⟨⟨cell_later h9 s0, cell_later h9 s1, cell_later h9 s2, cell_later h9 s3⟩, ⟨cell_later h9 t0, cell_later h9 t1, cell_later h9 t2, cell_later h9 t3⟩, h⟩
          have hB9 : Below wr.heap.size wr wr.drew := (Below.refl _ _).drew
          obtain ⟨D, hD⟩ : ∃ D, dep (evI l m) (evI l k) = D := ⟨_, rfl⟩
          have HD1 : Hid (∀ w', Calls Try.prog 51 #[.agg #[.int .i64 (evI l m).thread, .int .i64 (evI l m).kind, .int .i64 (evI l m).obj, .bool (evI l m).fail], .agg #[.int .i64 (evI l k).thread, .int .i64 (evI l k).kind, .int .i64 (evI l k).obj, .bool (evI l k).fail]] w' fun r w'' => r = .returned (.bool D) ∧ Below w'.heap.size w' w'') := fun w' => by rw [← hD]; exact refDepends_any (evI l m) (evI l k) w'
          have HDD := Lib.hid hD
          have hz0 : (0 : Int) ≤ m := by omega
          clear hD s0 s1 s2 s3 HZ
          generalize evI l m = x at HQ HD1
          generalize evI l k = y at HQ HD1
          go_wp2_with fail
          go_region_held3 (fun w' => (w'.cell? ⟨b, o + m * 4, none⟩ = some (.int .i64 x.thread) ∧ w'.cell? ⟨b, o + m * 4 + 1, none⟩ = some (.int .i64 x.kind) ∧ w'.cell? ⟨b, o + m * 4 + 2, none⟩ = some (.int .i64 x.obj) ∧ w'.cell? ⟨b, o + m * 4 + 3, none⟩ = some (.bool x.fail)) ∧
              (w'.cell? ⟨b, o + k * 4, none⟩ = some (.int .i64 y.thread) ∧ w'.cell? ⟨b, o + k * 4 + 1, none⟩ = some (.int .i64 y.kind) ∧ w'.cell? ⟨b, o + k * 4 + 2, none⟩ = some (.int .i64 y.obj) ∧ w'.cell? ⟨b, o + k * 4 + 3, none⟩ = some (.bool y.fail)) ∧ Below wr.heap.size wr w') (first | exact HQ.out _ hB9 | exact HQ.out _ hB10)
            (first | (go_at_call 51; ((with_reducible refine (HD1.out _).mono ?_); rintro r w10 ⟨rfl, hb10⟩; have hB10 := below_step2 hB9 hb10; clear hB9)))
          have HS2 := Lib.hid (HS.out.later hB10)
          clear HS HQ HD1 hB10 hbz
          cases D
          · have HS3 := Lib.hid (HS2.out.congr (s := ordR l k m) (fun j _ => (ordR_skip (by omega) HDD.out j).symm))
            clear HS2
            go_wp2
            go_roundw
            case rel => exact ⟨m, (m : Int) - 1, by omega, by go_num, rfl, HS3⟩
            case measure => simp [intOf]
          · obtain ⟨gv, capv, hv, _, _⟩ := HS2.out.2.1.block (by intro e; simp [e] at hrl2; omega)
            obtain ⟨rfl, rfl⟩ : a' = some ⟨gv, 0, none⟩ ∧ cap' = capv := by simpa using hv
            clear hv
            have HS3 := Lib.hid (HS2.out.congr (s := ordM l k m 0) (fun j _ => (ordM_zero l k m j).symm))
            clear HS2
            go_wp2
            go_loopw [7] (fun j wr => ∃ q : Nat, q ≤ m + 1 ∧ j = .int .i64 q ∧ Hid (OrdW w l k gr (.slice (some ⟨gv, 0, none⟩) rows.length cap') rows (ordM l k m q) wr)) (fun j _ => m + 1 - (intOf j).toNat)
            case atStart => exact ⟨0, by omega, rfl, HS3⟩
            case round =>
              clear HS3
              obtain ⟨q, hq, rfl, HS⟩ := hrel
              by_cases hqm : q ≤ m
              · have hql : q < l.length := by omega
                have hcell := HS.out.1.cell q
                rw [rowB_get _ _ hql] at hcell
                have hfr := HS.out.1.frozen q
                have HST := Lib.hid (HS.out.set (s := ordM l k m (q + 1)) hg q (ordM l k m q q || hb l q m) (fun i _ => (ordM_set (by omega) HDD.out i).symm))
                obtain ⟨gm, hrm, hcm, _⟩ := HS.out.2.2.1.get (i := m) (by omega)
                have hcr := HS.out.2.1.cell1 hrm
                have hcq := hcm q hql
                clear HS hrm hcm
                cases hV : ordM l k m q q
                · rw [hV] at hcell HST
                  rw [Bool.false_or] at HST
                  clear hV
                  go_wp2
                  go_roundw
                  case rel => exact ⟨q + 1, by omega, by go_num, HST⟩
                  case measure => simp [intOf]; omega
                · rw [hV] at hcell HST
                  rw [Bool.true_or] at HST
                  clear hV hcr hcq
                  go_wp2
                  go_roundw
                  case rel => exact ⟨q + 1, by omega, by go_num, HST⟩
                  case measure => simp [intOf]; omega
              · obtain rfl : q = m + 1 := by omega
                have HS4 := Lib.hid (HS.out.congr (s := ordR l k m) (fun j _ => ordM_all (by omega) j))
                clear HS
                have hqm2 : m < m + 1 := by omega
                go_wp2
                go_roundw
                case rel => exact ⟨m, (m : Int) - 1, by omega, by go_num, rfl, HS4⟩
                case measure => simp [intOf]
    · obtain rfl : k = l.length := by omega
      have hrl := HW.out.2.1.1
      have HF : Hid (∃ a cap rows', Value.slice a' rows.length cap' = .slice a l.length cap ∧ RowAt wr a 1 one rows' ∧ OrdAt wr l rows' l.length wr.heap.size ∧ Below w.heap.size w wr) := ⟨a', cap', rows, by rw [hrl], hrow, HW.out.2.1, HW.out.2.2⟩
      clear hrl hrow HW
      go_wp2
      go_ret
      obtain ⟨a1, cap1, rows', e, h1, h2, h3⟩ := HF.out
      exact ⟨a1, cap1, rows', congrArg Ending.returned e, h1, h2, h3⟩

end Go.Proofs.Ytkjjbcgecnjniaa

/- The contract of the document's With: which places of a row race with what a thread does next. -/
namespace Go.Proofs.Ytkjjbcgecnjniaa
open Go.RowKit

/-- A thread's last place among the first k, as a number; -1, if there is none. -/
def lastZ (l : List Ev) (t : Int) (k : Nat) : Int := match lastT l t k with
  | none => -1
  | some j => j
theorem lastZ_yes {l : List Ev} {t : Int} {k : Nat} (h : (evI l k).thread = t) : lastZ l t (k + 1) = k := by
  unfold lastZ
  rw [lastT, if_pos h]
theorem lastZ_no {l : List Ev} {t : Int} {k : Nat} (h : (evI l k).thread ≠ t) : lastZ l t (k + 1) = lastZ l t k := by
  unfold lastZ
  rw [lastT, if_neg h]
theorem lastZ_known (l : List Ev) (t : Int) : (lastZ l t l.length = -1 ∧ ∀ i, knownB l t i = false) ∨ ∃ j, j < l.length ∧ lastZ l t l.length = (j : Nat) ∧ ∀ i, knownB l t i = hb l i j := by
  unfold lastZ knownB
  cases h : lastT l t l.length with
  | none => exact .inl ⟨rfl, fun _ => rfl⟩
  | some j => exact .inr ⟨j, (lastT_some h).1, rfl, fun _ => rfl⟩
/-- The places among the first k that race. -/
def withTo (l : List Ev) (e : Ev) (k : Nat) : List Nat := (List.range k).filter (raceAt l e)
def ints (l : List Nat) : List Int := l.map fun (i : Nat) => (i : Int)
theorem ints_len (l : List Nat) : (ints l).length = l.length := by simp [ints]
theorem withTo_all (l : List Ev) (e : Ev) : withTo l e l.length = withL l e := rfl
theorem withTo_yes {l : List Ev} {e : Ev} {k : Nat} (h : raceAt l e k = true) : ints (withTo l e (k + 1)) = ints (withTo l e k) ++ [(k : Int)] := by
  unfold withTo ints
  rw [List.range_succ, List.filter_append, List.map_append]
  simp [h]
theorem withTo_no {l : List Ev} {e : Ev} {k : Nat} (h : raceAt l e k = false) : withTo l e (k + 1) = withTo l e k := by
  unfold withTo
  rw [List.range_succ, List.filter_append]
  simp [h]
theorem withTo_len (l : List Ev) (e : Ev) (k : Nat) : (withTo l e k).length ≤ k := by
  unfold withTo
  refine Nat.le_trans (List.length_filter_le _ _) ?_
  rw [List.length_range]
  exact Nat.le_refl _
theorem ownN_low {w : World} {B A : Nat} {v : Value} {l : List Int} (h : OwnN w B v l) (hA : A ≤ B) : OwnN w A v l := by
  obtain ⟨h1, h2 | ⟨g, cap, cur, h2, h3, h4⟩⟩ := h
  · exact ⟨h1, .inl h2⟩
  · exact ⟨h1, .inr ⟨g, cap, cur, h2, by omega, h4⟩⟩

def WithR (l : List Ev) (e : Ev) (w : World) (r : Ending) (w' : World) : Prop :=
  ∃ v, r = .returned v ∧ OwnN w' w.heap.size v (ints (withL l e)) ∧ Below w.heap.size w w'

set_option maxRecDepth 100000 in
set_option maxHeartbeats 4000000 in
theorem refWith_any (a : Option Addr) (cap : Nat) (l : List Ev) (e : Ev) (w : World) (hl : EvsAt w a l) (hm : l.length ≤ 1000) :
    Calls Try.prog 27 #[.slice a l.length cap, .agg #[.int .i64 e.thread, .int .i64 e.kind, .int .i64 e.obj, .bool e.fail]] w (WithR l e w) := by
  have HL := Lib.hid hl
  clear hl
  have hb0 := below_alloc1 w (.cells #[.int .i64 e.thread, .int .i64 e.kind, .int .i64 e.obj, .bool e.fail] 50)
  have HBX : Hid (EvBox (w.alloc (.cells #[.int .i64 e.thread, .int .i64 e.kind, .int .i64 e.obj, .bool e.fail] 50)) w.heap.size e) := EvBox.new w e
  unfold WithR
  go_enter Try.func27, Try.ntmps27
  go_wp2_with fail
  refine (order_any a cap l _ (HL.out.later hb0) hm).mono ?_
  rintro r W1 ⟨a0, cap0, rows, rfl, hrow, hord, hb1⟩
  have HB1 : Hid (Below w.heap.size w W1) := hb0.trans (hb1.mono hb0.size)
  have HX1 : Hid (EvBox W1 w.heap.size e) := HBX.out.later hb1
  have hsz : w.heap.size ≤ W1.heap.size := HB1.out.size
  have HO := Lib.hid (And.intro hrow hord)
  clear hb0 hb1 HBX hrow hord
  go_wp2_with fail
  go_loopw [7, 8] (fun z i wr => ∃ k : Nat, k ≤ l.length ∧ i = .int .i64 k ∧ z = .int .i64 (lastZ l e.thread k) ∧ Hid (Below W1.heap.size W1 wr)) (fun _ i _ => l.length - (intOf i).toNat)
  case atStart => exact ⟨0, Nat.zero_le _, rfl, rfl, Below.refl _ _⟩
  case round =>
    obtain ⟨k, hk, rfl, rfl, HW⟩ := hrel
    by_cases hlt : k < l.length
    · obtain ⟨b, o, rfl, t0, t1, t2, t3⟩ := (HL.out.later (HB1.out.trans (HW.out.mono hsz))).one hlt
      obtain ⟨x0, x1, x2, x3⟩ := (HX1.out.later HW.out).cells
      by_cases ht : (evI l k).thread = e.thread
      · have hq : ((evI l k).thread == e.thread) = true := by simp [ht]
        have HZ : Hid (Value.int .i64 (k : Int) = .int .i64 (lastZ l e.thread (k + 1))) := by show _ = _; rw [lastZ_yes ht]
        clear ht t1 t2 t3 x1 x2 x3
        go_wp2
        go_quiet (fail)
        go_wp2
        go_roundw
        case rel => exact ⟨k + 1, by omega, by go_num, HZ.out, HW.out.drewN⟩
        case measure => simp [intOf]; omega
      · have hq : ((evI l k).thread == e.thread) = false := by simp [ht]
        have HZ : Hid (lastZ l e.thread (k + 1) = lastZ l e.thread k) := lastZ_no ht
        clear ht t1 t2 t3 x1 x2 x3
        go_wp2
        go_quiet (fail)
        go_wp2
        go_roundw
        case rel => exact ⟨k + 1, by omega, by go_num, by rw [HZ.out], HW.out.drewN⟩
        case measure => simp [intOf]; omega
    · obtain rfl : k = l.length := by omega
      have HKN := Lib.hid (lastZ_known l e.thread)
      have HBr := HW
      clear HW
      generalize lastZ l e.thread l.length = Z at *
      go_wp2
      go_loopw [5, 9] (fun v i w2 => ∃ k : Nat, k ≤ l.length ∧ i = .int .i64 k ∧ Hid (OwnN w2 W1.heap.size v (ints (withTo l e k))) ∧ Hid (Below W1.heap.size W1 w2)) (fun _ i _ => l.length - (intOf i).toNat)
      case atStart => exact ⟨0, Nat.zero_le _, rfl, ownN_nil _ _, HBr.out⟩
      case round =>
        clear HBr
        obtain ⟨k, hk, rfl, HV, HW⟩ := hrel
        by_cases hlt : k < l.length
        · go_upto_region 12 with (fail)
          go_cut [10] (fun s10 wx => s10 = .bool (knownB l e.thread k) ∧ wx = wr)
          case first =>
            rcases HKN.out with ⟨hz, hk0⟩ | ⟨j, hj, hz, hk0⟩
            · subst hz
              have HK0 := Lib.hid (hk0 k)
              clear hk0
              go_wp2
              go_meet
              exact ⟨by rw [HK0.out], rfl⟩
            · subst hz
              have HK0 := Lib.hid (hk0 k)
              clear hk0
              by_cases hkj : k ≤ j
              · obtain ⟨g, hrk, hck, _⟩ := HO.out.2.get hj
                have hkr : j < rows.length := (List.getElem?_eq_some_iff.1 hrk).1
                obtain ⟨b0, o0, rfl, hrc⟩ := HO.out.1.2 (by intro e; simp [e] at hkr)
                have hc1 := hrc j hkr 0 (.slice (some ⟨g, 0, none⟩) l.length l.length) (by rw [← (List.getElem?_eq_some_iff.1 hrk).2]; rfl)
                rw [Nat.mul_one, Nat.add_zero] at hc1
                have d1 := cell_later HW.out hc1
                have d2 := cell_later HW.out (hck k hlt)
                clear hrk hck hrc hkr hc1
                go_wp2
                go_meet
                exact ⟨by rw [HK0.out], rfl⟩
              · have HKF : Hid (hb l k j = false) := by
                  show _ = _
                  rw [Bool.eq_false_iff]
                  intro h
                  have := hb_le h
                  omega
                go_wp2
                go_meet
                exact ⟨by rw [HK0.out, HKF.out], rfl⟩
          case rest =>
            obtain ⟨rfl, rfl⟩ := hcut
            have HBW := Lib.hid (HB1.out.trans (HW.out.mono hsz))
            obtain ⟨b, o, rfl, t0, t1, t2, t3⟩ := (HL.out.later HBW.out).one hlt
            obtain ⟨x0, x1, x2, x3⟩ := (HX1.out.later HW.out).cells
            have HQ : Hid (∀ W, Below wc.heap.size wc W → (W.cell? ⟨b, o + k * 4, none⟩ = some (.int .i64 (evI l k).thread) ∧ W.cell? ⟨b, o + k * 4 + 1, none⟩ = some (.int .i64 (evI l k).kind) ∧ W.cell? ⟨b, o + k * 4 + 2, none⟩ = some (.int .i64 (evI l k).obj) ∧ W.cell? ⟨b, o + k * 4 + 3, none⟩ = some (.bool (evI l k).fail)) ∧
                (W.cell? ⟨w.heap.size, 0, none⟩ = some (.int .i64 e.thread) ∧ W.cell? ⟨w.heap.size, 1, none⟩ = some (.int .i64 e.kind) ∧ W.cell? ⟨w.heap.size, 2, none⟩ = some (.int .i64 e.obj) ∧ W.cell? ⟨w.heap.size, 3, none⟩ = some (.bool e.fail))) :=
              fun W h => ⟨⟨cell_later h t0, cell_later h t1, cell_later h t2, cell_later h t3⟩, ⟨cell_later h x0, cell_later h x1, cell_later h x2, cell_later h x3⟩⟩
            have HRA : Hid (raceAt l e k = (decide ((evI l k).thread ≠ e.thread) && dep (evI l k) e && !knownB l e.thread k)) := rfl
            have HYES := Lib.hid (withTo_yes (l := l) (e := e) (k := k))
            have HNO := Lib.hid (withTo_no (l := l) (e := e) (k := k))
            have hwl := withTo_len l e k
            have hil := ints_len (withTo l e k)
            generalize knownB l e.thread k = KN at *
            have HCALL : Hid (∀ W, Calls Try.prog 51 #[.agg #[.int .i64 (evI l k).thread, .int .i64 (evI l k).kind, .int .i64 (evI l k).obj, .bool (evI l k).fail], .agg #[.int .i64 e.thread, .int .i64 e.kind, .int .i64 e.obj, .bool e.fail]] W fun r w'' => r = .returned (.bool (dep (evI l k) e)) ∧ Below W.heap.size W w'') := fun W => refDepends_any (evI l k) e W
            generalize evI l k = x at *
            by_cases hth : x.thread = e.thread
            · have hq : (x.thread != e.thread) = false := by simp [hth]
              have hq1 : (x.thread == e.thread) = true := by simp [hth]
              have HN : Hid (withTo l e (k + 1) = withTo l e k) := HNO.out (by rw [HRA.out]; simp [hth])
              clear hth HQ HCALL HYES HNO HRA
              go_wp2
              go_quiet (fail)
              go_wp2
              go_roundw
              case rel => exact ⟨k + 1, by omega, by go_num, (by show OwnN _ _ _ _; rw [HN.out]; exact HV.out.later (Below.refl _ _).drewN), HW.out.drewN⟩
              case measure => simp [intOf]; omega
            · have hq : (x.thread != e.thread) = true := by simp [hth]
              have hq1 : (x.thread == e.thread) = false := by simp [hth]
              have hne : decide (x.thread ≠ e.thread) = true := by simpa using hth
              rw [hne, Bool.true_and] at HRA
              obtain ⟨D, hD⟩ : ∃ D, dep x e = D := ⟨_, rfl⟩
              rw [hD] at HRA HCALL
              have hB9 : Below wc.heap.size wc wc.drew := (Below.refl _ wc).drew
              have hS0 := HQ.out _ hB9
              have HV9 := HV.out.later hB9
              clear hth hne hD
              cases D
              · have HN : Hid (withTo l e (k + 1) = withTo l e k) := HNO.out (by rw [HRA.out]; simp)
                clear HYES HNO HRA
                go_wp2_with fail
                obtain ⟨⟨y0, y1, y2, y3⟩, ⟨z0, z1, z2, z3⟩⟩ := hS0
                first
                  | go_region_with (first
                    | (go_at_call 51; ((with_reducible refine (HCALL.out _).mono ?_); rintro r w10 ⟨rfl, hb10⟩; have hB10 := hB9.trans (hb10.mono hB9.size); obtain ⟨⟨s0, s1, s2, s3⟩, ⟨r0, r1, r2, r3⟩⟩ := HQ.out _ hB10)))
                  | fail
                all_goals
                  go_wp2
                  go_roundw
                  case rel => exact ⟨k + 1, by omega, by go_num, (by show OwnN _ _ _ _; rw [HN.out]; exact HV.out.later hB10), HW.out.trans (hB10.mono HW.out.size)⟩
                  case measure => simp [intOf]; omega
              · cases KN
                all_goals
                  go_wp2_with fail
                  go_region_held3 (fun W => (W.cell? ⟨b, o + k * 4, none⟩ = some (.int .i64 x.thread) ∧ W.cell? ⟨b, o + k * 4 + 1, none⟩ = some (.int .i64 x.kind) ∧ W.cell? ⟨b, o + k * 4 + 2, none⟩ = some (.int .i64 x.obj) ∧ W.cell? ⟨b, o + k * 4 + 3, none⟩ = some (.bool x.fail)) ∧
                      (W.cell? ⟨w.heap.size, 0, none⟩ = some (.int .i64 e.thread) ∧ W.cell? ⟨w.heap.size, 1, none⟩ = some (.int .i64 e.kind) ∧ W.cell? ⟨w.heap.size, 2, none⟩ = some (.int .i64 e.obj) ∧ W.cell? ⟨w.heap.size, 3, none⟩ = some (.bool e.fail)))
                    (first | exact hS0 | exact hS10)
                    (first | (go_at_call 51; ((with_reducible refine (HCALL.out _).mono ?_); rintro r w10 ⟨rfl, hb10⟩; have hB10 := hB9.trans (hb10.mono hB9.size); have hS10 := HQ.out _ hB10)))
                  have HV10 := Lib.hid (HV.out.later hB10)
                  have HW10 := Lib.hid (HW.out.trans (hB10.mono HW.out.size))
                · have HN := HYES.out (by rw [HRA.out]; simp)
                  have HN2 := Lib.hid HN
                  clear HYES HNO HRA HV HV9 HW hB9 hB10 hb10 hS0 hS10 HN t0 t1 t2 t3 x0 x1 x2 x3
                  go_wp2_with (at_builtin; refine wp_appendN rfl _ _ rfl W1.heap.size _ (ints (withTo l e k)) rfl (HV10.out.alloc _) ⟨w10.heap.size, 0, none⟩ 1 1 rfl [(k : Int)] rfl (nums_new w10 [(k : Int)] _ _ rfl) (by omega) (by have := HW10.out.size; simp; omega) ?_; intro v1 w11 hown2 hb3 _)
                  go_roundw
                  case rel => exact ⟨k + 1, by omega, by go_num, (by show OwnN _ _ _ _; rw [HN2.out]; exact hown2), (HW10.out.alloc (by have := HW10.out.size; omega) _).trans hb3⟩
                  case measure => simp [intOf]; omega
                · have HN : Hid (withTo l e (k + 1) = withTo l e k) := HNO.out (by rw [HRA.out]; simp)
                  clear HYES HNO HRA
                  go_wp2
                  go_roundw
                  case rel => exact ⟨k + 1, by omega, by go_num, (by show OwnN _ _ _ _; rw [HN.out]; exact HV10.out), HW10.out⟩
                  case measure => simp [intOf]; omega
        · obtain rfl : k = l.length := by omega
          have HF := Lib.hid (And.intro HV.out (HB1.out.trans (HW.out.mono hsz)))
          clear HV HW
          go_wp2
          go_ret
          exact ⟨_, rfl, ownN_low HF.out.1 hsz, HF.out.2⟩

end Go.Proofs.Ytkjjbcgecnjniaa

/- The contract of the document's Reversible. -/
namespace Go.Proofs.Ytkjjbcgecnjniaa
open Go.RowKit

theorem infoRr : (Try.prog.info? 65).map (fun i => (i.zero, i.size, i.bytes)) = some (some (.agg #[.int .i64 0, .int .i64 0]), 2, 16) := by kernel_rfl
/-- One of the document's races more, in a region whose order is drawn. -/
theorem step_appendRr {w : World} {ops : Array Oper} {o : Oper} {a : Act} {K : Act → World → Prop} {Q : Exit → Act → World → Prop} {E : Prop} (hgd : o.guard = none) (s x : Operand)
    (ho : o.op = .call { callee := .builtin .append, args := #[s, x], argTypes := #[37, 37] }) (B : Nat) (v : Value) (l : List (Nat × Int)) (hs : a.eval s = v) (hown : OwnRow w B 65 2 rcCell v l)
    (ad : Addr) (hx : a.eval x = .slice (some ad) 1 1) (e : Nat × Int) (hnews : ∀ j u, (rcCell e)[j]? = some u → w.cell? (ad.add j) = some u) (hlen : l.length ≤ 1000000) (hB : B ≤ w.heap.size)
    (h : ∀ v' w', OwnRow w' B 65 2 rcCell v' (l ++ [e]) → Below B w w' → w.grownBy w' v.ownBlock → K (a.put o.dst v') w') : if Region.wanted o (yielded ops a.tmps) = true then Oper.wp Try.prog o a w K Q else E :=
  step_appendAt 37 65 16 (.agg #[.int .i64 0, .int .i64 0]) Try.underlying37 infoRr rfl (by omega) (by omega) rcCell_len hgd s x ho B v l hs hown ad hx e (rcCell_one _) hnews hlen hB (fun v' w' h1 h2 h3 _ => h v' w' h1 h2 h3)
theorem rows_apart7 {w : World} {B B' n n' m m' : Nat} {t t' : TypeId} {v v' : Value} {xs xs' : List Value} (h : w.ownsRow B t n v m xs) (h' : w.ownsRow B' t' n' v' m' xs') (hne : t ≠ t') : v.ownBlock = none ∨ v.ownBlock ≠ v'.ownBlock := by
  obtain ⟨_, ⟨rfl, _⟩ | ⟨g, cap, cur, rfl, _, hg, _⟩⟩ := h
  · exact .inl rfl
  · right
    obtain ⟨_, ⟨rfl, _⟩ | ⟨g', cap', cur', rfl, _, hg', _⟩⟩ := h'
    · simp [Value.ownBlock]
    · intro e
      injection e with e
      have e2 : g = g' := e
      subst e2
      rw [hg] at hg'
      injection hg' with hg'
      injection hg' with _ h2
      exact hne h2

theorem ownN_keptBy {w w' : World} {B B' n' k' : Nat} {t' : TypeId} {v v' : Value} {ns : List Int} {xs : List Value} (h : OwnN w B v ns) (ho : w.ownsRow B' t' n' v' k' xs) (h1 : 3 ≠ t') (hg : w.grownBy w' v'.ownBlock) : OwnN w' B v ns :=
  World.ownsRow.kept h hg (rows_apart7 h ho h1)
theorem ints_get (l : List Nat) {q : Nat} (h : q < l.length) : (ints l)[q]'(by rw [ints_len]; exact h) = (l[q] : Nat) := by simp [ints]
theorem rcT_take {t : Int} {L : List Nat} {q : Nat} (h : q < L.length) : rcT t (L.take (q + 1)) = rcT t (L.take q) ++ [(L[q], t)] := by
  unfold rcT
  rw [List.take_succ_eq_append_getElem h, List.map_append]
  rfl
theorem withL_len7 (l : List Ev) (e : Ev) : (withL l e).length ≤ l.length := withTo_len l e l.length
theorem revAt_rcT (l : List Ev) (k : Nat) : revAt l k = rcT (evI l k).thread (withL (l.take k) (evI l k)) := rfl

def RefRevR (l : List Ev) (w : World) (r : Ending) (w' : World) : Prop :=
  ∃ rv, r = .returned rv ∧ OwnRow w' w.heap.size 65 2 rcCell rv (rev4 l) ∧ Below w.heap.size w w'

set_option maxRecDepth 100000 in
set_option maxHeartbeats 4000000 in
theorem refReversible_any (a : Option Addr) (cap : Nat) (l : List Ev) (w : World) (hl : EvsAt w a l) (hcap : l.length ≤ cap) (hm : l.length ≤ 200) :
    Calls Try.prog 14 #[.slice a l.length cap] w (RefRevR l w) := by
  have HL := Lib.hid hl
  have HRC := Lib.hid (rows_any a cap l w hl)
  clear hl
  unfold RefRevR
  cases hr : rightL l
  · have HE : Hid (rev4 l = []) := by show _ = _; unfold rev4; rw [if_neg (by rw [hr]; simp)]
    rw [hr] at HRC
    clear hr
    go_enter Try.func14, Try.ntmps14
    go_wp2_with fail
    refine HRC.out.mono ?_
    rintro r w1 ⟨rfl, hb1⟩
    clear HRC
    go_wp2
    go_ret
    exact ⟨_, rfl, by rw [HE.out]; exact ownRow_nil _ _ _ _ _, hb1⟩
  have HE : Hid (rev4 l = revTo l l.length) := by show _ = _; unfold rev4; rw [if_pos hr]; rfl
  rw [hr] at HRC
  clear hr
  go_enter Try.func14, Try.ntmps14
  go_wp2_with fail
  refine HRC.out.mono ?_
  rintro r w1 ⟨rfl, hb1⟩
  have HB1 := Lib.hid hb1
  have hsz := hb1.size
  clear HRC hb1
  go_wp2_with fail
  go_loopw [3, 4] (fun v i wr => ∃ k : Nat, k ≤ l.length ∧ i = .int .i64 k ∧ Hid (OwnRow wr w1.heap.size 65 2 rcCell v (revTo l k)) ∧ Hid (Below w1.heap.size w1 wr)) (fun _ i _ => l.length - (intOf i).toNat)
  case atStart => exact ⟨0, Nat.zero_le _, rfl, ownRow_nil _ _ _ _ _, Below.refl _ _⟩
  case round =>
    obtain ⟨k, hk, rfl, HV, HW⟩ := hrel
    by_cases hlt : k < l.length
    · obtain ⟨b, o, rfl, _⟩ := HL.out.one hlt
      have HBW := Lib.hid (HB1.out.trans (HW.out.mono hsz))
      have HC : Hid (∀ W, Below w.heap.size w W → W.cell? ⟨b, o + k * 4, none⟩ = some (.int .i64 (evI l k).thread) ∧ W.cell? ⟨b, o + k * 4 + 1, none⟩ = some (.int .i64 (evI l k).kind) ∧ W.cell? ⟨b, o + k * 4 + 2, none⟩ = some (.int .i64 (evI l k).obj) ∧ W.cell? ⟨b, o + k * 4 + 3, none⟩ = some (.bool (evI l k).fail)) := by
        intro W hb
        obtain ⟨b3, o3, e3, s0, s1, s2, s3⟩ := (HL.out.later hb).one hlt
        cases e3
        exact ⟨s0, s1, s2, s3⟩
      have hlent : (l.take k).length = k := by simp; omega
      have HCALL : Hid (∀ W, Below w.heap.size w W → Calls Try.prog 27 #[.slice (some ⟨b, o, none⟩) k cap, .agg #[.int .i64 (evI l k).thread, .int .i64 (evI l k).kind, .int .i64 (evI l k).obj, .bool (evI l k).fail]] W (WithR (l.take k) (evI l k) W)) := by
        intro W hb
        have h := refWith_any (some ⟨b, o, none⟩) cap (l.take k) (evI l k) W ((HL.out.later hb).take k) (by omega)
        rw [hlent] at h
        exact h
      have HRV : Hid (revTo l (k + 1) = revTo l k ++ rcT (evI l k).thread (withL (l.take k) (evI l k))) := by show _ = _; rw [revTo_succ, revAt_rcT]
      have hwl : (withL (l.take k) (evI l k)).length ≤ 200 := by have := withL_len7 (l.take k) (evI l k); omega
      have hrl : (revTo l k).length ≤ 40000 := by
        have h1 := revTo_len l k
        have h2 : k * k ≤ 200 * 200 := Nat.mul_le_mul (by omega) (by omega)
        omega
      have hS0 := HC.out wr.drew HBW.out.drew
      have hB9 := HBW.out.drew
      have hB9r : Below wr.heap.size wr wr.drew := (Below.refl _ _).drew
      have hki : (k : Int) < l.length := by omega
      have hkc : (k : Int) ≤ cap := by omega
      have hkc2 : k ≤ cap := by omega
      clear hlent
      unfold WithR at HCALL
      generalize withL (l.take k) (evI l k) = RW at *
      generalize evI l k = x at *
      generalize revTo l k = R0 at *
      go_wp2_with fail
      go_region_held3 (fun W => W.cell? ⟨b, o + k * 4, none⟩ = some (.int .i64 x.thread) ∧ W.cell? ⟨b, o + k * 4 + 1, none⟩ = some (.int .i64 x.kind) ∧ W.cell? ⟨b, o + k * 4 + 2, none⟩ = some (.int .i64 x.obj) ∧ W.cell? ⟨b, o + k * 4 + 3, none⟩ = some (.bool x.fail))
        (first | exact hS0 | exact hS10)
        (first | (go_at_call 27; ((with_reducible refine (HCALL.out _ hB9).mono ?_); rintro r w10 ⟨v5, rfl, hv5, hb10⟩; have hB10 := hB9.trans (hb10.mono hB9.size); have hS10 := HC.out _ hB10; have hB10r := hB9r.trans hb10)))
      obtain ⟨a5, c5, rfl, hn5, _⟩ := OwnN.form hv5 (by rw [ints_len]; omega)
      rw [ints_len] at *
      have HN5 := Lib.hid (ownN_low hv5 HW.out.size)
      have HO5 : Hid (OwnRow w10 w1.heap.size 65 2 rcCell u3 R0) := HV.out.later hB10r
      have HB5 := Lib.hid hB10
      have HA5 := Lib.hid hn5
      have hs5 : wr.heap.size ≤ w10.heap.size := hB10r.size
      have hs6 : w1.heap.size ≤ wr.heap.size := HW.out.size
      have HIN : Hid (∀ W q, OwnN W w1.heap.size (.slice a5 RW.length c5) (ints RW) → ∀ (h : q < RW.length), ∃ b5 o5, a5 = some ⟨b5, o5, none⟩ ∧ W.cell? ⟨b5, o5 + q, none⟩ = some (.int .i64 (RW[q] : Nat))) := by
        intro W q h hq
        obtain ⟨a6, c6, e6, h6, _⟩ := OwnN.form h (by rw [ints_len]; omega)
        injection e6 with e6 _ _
        subst e6
        obtain ⟨b5, o5, rfl, hc⟩ := h6.2 (by intro e; rw [← List.length_eq_zero_iff, ints_len] at e; omega)
        exact ⟨b5, o5, rfl, by rw [hc q (by rw [ints_len]; exact hq), ints_get RW hq]⟩
      have HB10 : Hid (Below w1.heap.size w1 w10) := HW.out.trans (hB10r.mono hs6)
      clear hS0 hS10 hB9 hB9r hB10 hB10r hb10 hv5 hn5 HCALL HV
      go_wp2
      go_loopw [3, 6] (fun v i W => ∃ q : Nat, q ≤ RW.length ∧ i = .int .i64 q ∧ Hid (OwnRow W w1.heap.size 65 2 rcCell v (R0 ++ rcT x.thread (RW.take q))) ∧ Hid (OwnN W w1.heap.size (.slice a5 RW.length c5) (ints RW)) ∧ Hid (Below w1.heap.size w1 W)) (fun _ i _ => RW.length - (intOf i).toNat)
      case atStart => exact ⟨0, Nat.zero_le _, rfl, (by show OwnRow _ _ _ _ _ _ _; rw [List.take_zero]; simpa [rcT] using HO5.out), HN5.out, HB10.out⟩
      case round =>
        clear HO5 HN5 HB10
        obtain ⟨q, hq, rfl, HO, HN, HB⟩ := hrel
        have hsW : w1.heap.size ≤ wr.heap.size := HB.out.size
        by_cases hqt : q < RW.length
        · obtain ⟨b5, o5, rfl, hc5⟩ := HIN.out wr q HN.out hqt
          have hct := (HC.out wr (HB1.out.trans (HB.out.mono hsz))).1
          have HT := Lib.hid (rcT_take (t := x.thread) hqt)
          have hS0 : wr.drew.cell? ⟨b5, o5 + q, none⟩ = some (.int .i64 (RW[q] : Nat)) ∧ wr.drew.cell? ⟨b, o + k * 4, none⟩ = some (.int .i64 x.thread) := ⟨hc5, hct⟩
          have HIN2 : Hid (∀ W, OwnN W w1.heap.size (.slice (some ⟨b5, o5, none⟩) RW.length c5) (ints RW) → W.cell? ⟨b5, o5 + q, none⟩ = some (.int .i64 (RW[q] : Nat))) := by
            intro W h
            obtain ⟨b6, o6, e6, h6⟩ := HIN.out W q h hqt
            cases e6
            exact h6
          have hol : (R0 ++ rcT x.thread (RW.take q)).length ≤ 1000000 := by simp [rcT]; omega
          have hqi : (q : Int) < RW.length := by omega
          go_wp2_with fail
          have hba := below_alloc1 wr (.cells #[.int .i64 (RW[q] : Nat), .int .i64 x.thread] 65)
          have hS1 : (wr.alloc (.cells #[.int .i64 (RW[q] : Nat), .int .i64 x.thread] 65)).drew.cell? ⟨b5, o5 + q, none⟩ = some (.int .i64 (RW[q] : Nat)) ∧ (wr.alloc (.cells #[.int .i64 (RW[q] : Nat), .int .i64 x.thread] 65)).drew.cell? ⟨b, o + k * 4, none⟩ = some (.int .i64 x.thread) := ⟨cell_later hba hc5, cell_later hba hct⟩
          clear hc5 hct
          go_region_held3 (fun W => W.cell? ⟨b5, o5 + q, none⟩ = some (.int .i64 (RW[q] : Nat)) ∧ W.cell? ⟨b, o + k * 4, none⟩ = some (.int .i64 x.thread))
            (first | exact hS0 | exact hS1 | exact hS2)
            (first | ((refine step_appendRr (by rfl) (.tmp 30) (.tmp 41) (by rfl) w1.heap.size _ (R0 ++ rcT x.thread (RW.take q)) (by rfl) (OwnRow.alloc HO.out _) ⟨wr.heap.size, 0, none⟩ (by rfl) (RW[q], x.thread) (cells_new wr (rcCell (RW[q], x.thread)) _ _ rfl) hol (by simp; omega) ?_; intro v6 w6 h6 hb6 hg6; have HO6 := Lib.hid h6; have ho7 : OwnRow (wr.alloc (.cells #[.int .i64 (RW[q] : Nat), .int .i64 x.thread] 65)).drew w1.heap.size 65 2 rcCell u3 (R0 ++ rcT x.thread (RW.take q)) := OwnRow.alloc HO.out _; have HN6 := Lib.hid (ownN_keptBy (HN.out.later hba.drew) ho7 (by decide) hg6); have HB6 : Hid (Below w1.heap.size w1 w6) := (HB.out.alloc hsW _).drew.trans hb6; have hS2 := And.intro (HIN2.out w6 HN6.out) (HC.out w6 (HB1.out.trans (HB6.out.mono hsz))).1)))
          have HO8 : Hid (OwnRow w6 w1.heap.size 65 2 rcCell v6 (R0 ++ rcT x.thread (RW.take (q + 1)))) := by
            show OwnRow _ _ _ _ _ _ _
            rw [HT.out, ← List.append_assoc]
            exact HO6.out
          clear HO6 HT ho7 hS0 hS1 hS2 h6 hb6 hg6
          go_wp2
          go_roundw
          case rel => exact ⟨q + 1, by omega, by go_num, HO8.out, HN6.out, HB6.out⟩
          case measure => simp [intOf]; omega
        · obtain rfl : q = RW.length := by omega
          have HO7 : Hid (OwnRow wr w1.heap.size 65 2 rcCell u3 (revTo l (k + 1))) := by
            show OwnRow _ _ _ _ _ _ _
            rw [HRV.out]
            have h := HO.out
            rw [List.take_length] at h
            exact h
          clear HO HRV HIN
          go_wp2
          go_roundw
          case rel => exact ⟨k + 1, by omega, by go_num, HO7.out, HB.out⟩
          case measure => simp [intOf]; omega
    · obtain rfl : k = l.length := by omega
      have HF := Lib.hid (And.intro HV.out (HB1.out.trans (HW.out.mono hsz)))
      clear HV HW
      go_wp2
      go_ret
      exact ⟨_, rfl, by rw [HE.out]; exact ownRow_low HF.out.1 hsz, HF.out.2⟩

end Go.Proofs.Ytkjjbcgecnjniaa

/- The contracts of like, and of the document's Same of races. -/
namespace Go.Proofs.Ytkjjbcgecnjniaa
open Go.RowKit

/-- A row of races has their cells. -/
theorem rc_at {w : World} {a : Option Addr} {l : List (Nat × Int)} (h : RowAt w a 2 rcCell l) {k : Nat} (hk : k < l.length) : ∃ b o, a = some ⟨b, o, none⟩ ∧ w.cell? ⟨b, o + k * 2, none⟩ = some (.int .i64 (l[k].1 : Nat)) ∧ w.cell? ⟨b, o + k * 2 + 1, none⟩ = some (.int .i64 l[k].2) := by
  obtain ⟨b, o, rfl, hc⟩ := h.2 (by intro e; rw [e] at hk; simp at hk)
  have h0 := hc k hk 0 (.int .i64 (l[k].1 : Nat)) rfl
  rw [Nat.add_zero] at h0
  exact ⟨b, o, rfl, h0, hc k hk 1 (.int .i64 l[k].2) rfl⟩

set_option maxRecDepth 100000 in
set_option maxHeartbeats 4000000 in
theorem like_any (a : Option Addr) (cap : Nat) (L : List (Nat × Int)) (w : World) (hl : RowAt w a 2 rcCell L) (hm : L.length ≤ 100000) :
    Calls Try.prog 12 #[.slice a L.length cap] w fun r w' => ∃ rv, r = .returned rv ∧ OwnRow w' w.heap.size 65 2 rcCell rv L ∧ Below w.heap.size w w' := by
  have HL := Lib.hid hl
  clear hl
  go_enter Try.func12, Try.ntmps12
  go_wp2_with fail
  go_loopw [3, 8] (fun v i wr => ∃ k : Nat, k ≤ L.length ∧ i = .int .i64 k ∧ Hid (OwnRow wr w.heap.size 65 2 rcCell v (L.take k)) ∧ Hid (Below w.heap.size w wr)) (fun _ i _ => L.length - (intOf i).toNat)
  case atStart => exact ⟨0, Nat.zero_le _, rfl, (by show OwnRow _ _ _ _ _ _ _; rw [List.take_zero]; exact ownRow_nil _ _ _ _ _), Below.refl _ _⟩
  case round =>
    obtain ⟨k, hk, rfl, HV, HW⟩ := hrel
    by_cases hlt : k < L.length
    · obtain ⟨b, o, rfl, c0, c1⟩ := rc_at (HL.out.later HW.out) hlt
      have HT := Lib.hid (List.take_succ_eq_append_getElem hlt)
      have hol : (L.take k).length ≤ 1000000 := by simp; omega
      have hsz := HW.out.size
      have hba := below_alloc1 wr (.cells #[.int .i64 (L[k].1 : Nat), .int .i64 L[k].2] 48)
      go_wp2_with (at_builtin; refine wp_appendR (f := rcCell) (n := 2) 37 65 16 (.agg #[.int .i64 0, .int .i64 0]) Try.underlying37 infoRr rfl (by omega) (by omega) rcCell_len rfl _ _ rfl w.heap.size _ (L.take k) rfl ((HV.out.alloc _).alloc _) ⟨wr.heap.size + 1, 0, none⟩ rfl L[k] (rcCell_one _) (cells_new (wr.alloc (.cells #[.int .i64 (L[k].1 : Nat), .int .i64 L[k].2] 48)) (rcCell L[k]) _ _ (by simp)) hol (by simp; omega) ?_; intro v6 w6 h6 hb6 hg6)
      have HO8 : Hid (OwnRow w6 w.heap.size 65 2 rcCell v6 (L.take (k + 1))) := by
        show OwnRow _ _ _ _ _ _ _
        rw [HT.out]
        exact h6
      have HB6 : Hid (Below w.heap.size w w6) := ((HW.out.alloc hsz _).alloc (by simp; omega) _).trans hb6
      clear HT h6 hb6 hg6 HV HW
      go_wp2
      go_roundw
      case rel => exact ⟨k + 1, by omega, by go_num, HO8.out, HB6.out⟩
      case measure => simp [intOf]; omega
    · obtain rfl : k = L.length := by omega
      have HF := HV.out
      rw [List.take_length] at HF
      have HF2 := Lib.hid HF
      clear HV HF
      go_wp2
      go_ret
      exact ⟨_, rfl, HF2.out, HW.out⟩

set_option maxRecDepth 100000 in
theorem run_equal_rr (x y : Nat × Int) (w : World) :
    (Op.equalIn 10000 65 (.agg #[.int .i64 (x.1 : Nat), .int .i64 x.2]) (.agg #[.int .i64 (y.1 : Nat), .int .i64 y.2])).run Try.prog w = .ok (decide (x = y)) w := by
  have hd : decide (x = y) = (((x.1 : Int) == (y.1 : Int)) && (x.2 == y.2)) := by
    obtain ⟨a, b⟩ := x
    obtain ⟨a', b'⟩ := y
    rw [Bool.eq_iff_iff]
    simp
    omega
  rw [hd]
  obtain ⟨a, b⟩ := x
  obtain ⟨a', b'⟩ := y
  dsimp only
  clear hd
  have ht : Try.prog.underlying 65 = some (.struct (Try.prog.fieldsOf 65)) := by kernel_rfl
  have hp : Try.prog.stoodInHeld 65 = false := by kernel_rfl
  rw [run_equalIn_agg (P := Try.prog) w 9999 _ _ _ ht hp]
  unfold Program.fieldsOf
  rw [Try.underlying65]
  dsimp only
  rw [run_eqFields_consI (P := Try.prog) w 9998 _ _ _ _ .i64 .i64 a a' (by simp) Try.underlying3 rfl rfl]
  rw [run_eqFields_consI (P := Try.prog) w 9998 _ _ _ _ .i64 .i64 b b' (by simp) Try.underlying3 rfl rfl]
  rw [Op.eqFields]
  cases ((a : Int) == (a' : Int)) <;> cases (b == b') <;> simp

set_option maxRecDepth 100000 in
set_option maxHeartbeats 4000000 in
/-- The document's Same: of equal lists it is true. -/
theorem refSame7_any (a b : Option Addr) (ca cb : Nat) (L : List (Nat × Int)) (w : World) (ha : RowAt w a 2 rcCell L) (hb : RowAt w b 2 rcCell L) (hm : L.length ≤ 100000) :
    Calls Try.prog 11 #[.slice a L.length ca, .slice b L.length cb] w fun r w' => r = .returned (.bool true) ∧ Below w.heap.size w w' := by
  have HA := Lib.hid ha
  have HB := Lib.hid hb
  clear ha hb
  go_enter Try.func11, Try.ntmps11
  go_wp2
  go_loopw [5] (fun i wr => ∃ k : Nat, k ≤ L.length ∧ i = .int .i64 k ∧ Hid (Below w.heap.size w wr)) (fun i _ => L.length - (intOf i).toNat)
  case atStart => exact ⟨0, Nat.zero_le _, rfl, Below.refl _ _⟩
  case round =>
    obtain ⟨k, hk, rfl, HW⟩ := hrel
    by_cases hlt : k < L.length
    · obtain ⟨b1, o1, rfl, c0, c1⟩ := rc_at (HA.out.later HW.out) hlt
      obtain ⟨b2, o2, rfl, d0, d1⟩ := rc_at (HB.out.later HW.out) hlt
      have heq := run_equal_rr L[k] L[k]
      have hd : decide (L[k] = L[k]) = true := by simp
      rw [hd] at heq
      have hki : (k : Int) < L.length := by omega
      clear hd
      generalize L[k] = x at *
      go_wp2
      go_quiet (fail)
      go_wp2
      go_roundw
      case rel => exact ⟨k + 1, by omega, by go_num, HW.out.drewN⟩
      case measure => simp [intOf]; omega
    · obtain rfl : k = L.length := by omega
      go_wp2
      go_ret
      exact ⟨rfl, HW.out⟩

end Go.Proofs.Ytkjjbcgecnjniaa

/- The contracts of Enabled, All. -/
namespace Go.Proofs.Ytkjjbcgecnjniaa
open Go.RowKit

set_option maxRecDepth 100000 in
set_option maxHeartbeats 1000000 in
theorem enabled_any {F : Nat} {s : St} {b : Nat} {w : World} (h : StAt w b s) (ok : s.Ok F) (t : Int) :
    Calls Try.prog 19 #[.pointer (some ⟨b, 0, none⟩), .int .i64 t] w fun r w' => r = .returned (.bool (s.may t)) ∧ Below w.heap.size w w' := by
  have H := Lib.hid h
  have OK := Lib.hid ok
  clear h ok
  cases hn : s.next t with
  | none =>
    have hm : s.may t = false := by rw [St.may_eq OK.out, hn]
    rw [hm]
    have HN := Lib.hid hn
    clear hn hm
    go_enter Try.func19, Try.ntmps19
    go_wp2_with fail
    refine (next_any H.out OK.out t).mono ?_
    rw [HN.out, evR_none]
    rintro r w1 ⟨rfl, hb1⟩
    have hz := hb1.size
    go_wp2
    go_ret
    exact ⟨rfl, hb1.alloc hz _⟩
  | some e =>
    have HN := Lib.hid hn
    clear hn
    go_enter Try.func19, Try.ntmps19
    go_wp2_with fail
    refine (next_any H.out OK.out t).mono ?_
    rw [HN.out, evR_some]
    rintro r w1 ⟨rfl, hb1⟩
    have hz := hb1.size
    have H2 := Lib.hid ((H.out.later hb1).later (below_alloc1 w1 (.cells #[.int .i64 e.thread, .int .i64 e.kind, .int .i64 e.obj, .bool e.fail] 50)))
    have hb2 := hb1.alloc hz (.cells #[.int .i64 e.thread, .int .i64 e.kind, .int .i64 e.obj, .bool e.fail] 50)
    clear hb1
    go_wp2_with fail
    refine (may_of H2.out OK.out HN.out).mono ?_
    rintro r w2 ⟨rfl, hb3⟩
    have hb4 := hb2.trans (hb3.mono (by simp; omega))
    clear hb2 hb3
    go_wp2
    go_ret
    exact ⟨rfl, hb4⟩

def St.allTo (s : St) (k : Nat) : List Int := ((List.range k).map Int.ofNat).filter s.may
theorem St.allTo_succ (s : St) (k : Nat) : s.allTo (k + 1) = s.allTo k ++ if s.may k = true then [(k : Int)] else [] := by
  unfold St.allTo
  rw [List.range_succ, List.map_append, List.filter_append]
  congr 1
  have e : Int.ofNat k = (k : Int) := rfl
  by_cases h : s.may k = true
  · simp [h]
  · simp [h]
theorem St.allTo_le (s : St) (k : Nat) : (s.allTo k).length ≤ k := by
  unfold St.allTo
  exact Nat.le_trans (List.length_filter_le _ _) (by simp)

end Go.Proofs.Ytkjjbcgecnjniaa

/- What Replay answers, in plain words: lengths, errors, more fuel. -/
namespace Go.Proofs.Ytkjjbcgecnjniaa

theorem more_run {d : Nat} (row : List Int) : ∀ s s' : St, s.More d s' → (s.run row).1 = 0 → (s'.run row).1 = 0 ∧ (s'.run row).2.1 = (s.run row).2.1 := by
  induction row with
  | nil => intro s s' _ _; exact ⟨rfl, rfl⟩
  | cons t row ih =>
    intro s s' h h0
    have h1 : (s.step t).1 = 0 := by
      rcases Decidable.em ((s.step t).1 = 0) with h1 | h1
      · exact h1
      · rw [St.run, if_neg h1] at h0; exact absurd h0 h1
    obtain ⟨g0, g1, g2⟩ := h.step h1
    have h2 : ((s.step t).2.2.run row).1 = 0 := by
      rcases Decidable.em (((s.step t).2.2.run row).1 = 0) with h2 | h2
      · exact h2
      · rw [St.run, if_pos h1, if_neg h2] at h0; exact absurd h0 h2
    obtain ⟨e0, e1⟩ := ih _ _ g2 h2
    rw [St.run, if_pos g0, if_pos e0, St.run, if_pos h1, if_pos h2]
    exact ⟨rfl, by dsimp only; rw [g1, e1]⟩

theorem rep_none {p : Pg} {fuel : Int} {row : List Int} {e : Int} {es : List Ev} (h : rep p fuel row = (e, es, none)) : e ≠ 0 := by
  unfold rep at h
  split at h
  · unfold comb at h
    split at h
    · injection h with _ h; injection h with _ h; cases h
    · rename_i h0
      injection h with h1 _
      rw [← h1]; exact h0
  · injection h with h1 _
    rw [← h1]; simp
theorem rep_some {p : Pg} {fuel : Int} {row : List Int} {e : Int} {es : List Ev} {s : St} (h : rep p fuel row = (e, es, some s)) : e = 0 ∧ goodPg p fuel = true ∧ ((St.new p fuel.toNat).run row).1 = 0 ∧ ((St.new p fuel.toNat).run row).2.1 = es := by
  unfold rep at h
  split at h
  · rename_i hg
    unfold comb at h
    split at h
    · rename_i h0
      injection h with h1 h; injection h with h2 h
      exact ⟨h1.symm, hg, h0, by simpa using h2⟩
    · injection h with _ h; injection h with _ h; cases h
  · injection h with _ h; injection h with _ h; cases h

theorem run_len (row : List Int) : ∀ s : St, ((s.run row).2.1).length ≤ row.length := by
  induction row with
  | nil => intro s; simp [St.run]
  | cons t row ih =>
    intro s
    rw [St.run]
    split
    · split
      · have := ih (s.step t).2.2; simp; omega
      · simp
    · simp

theorem rep_len {p : Pg} {fuel : Int} {row : List Int} {e : Int} {es : List Ev} {s : St} (h : rep p fuel row = (e, es, some s)) : es.length ≤ row.length := by
  obtain ⟨_, _, _, rfl⟩ := rep_some h
  exact run_len row _

theorem rep_more {p : Pg} {f m : Int} {row : List Int} {e : Int} {es : List Ev} {s : St} (h : rep p f row = (e, es, some s)) (h1 : f ≤ m) (h2 : m ≤ 8) : ∃ s', rep p m row = (0, es, some s') := by
  obtain ⟨_, hg, h0, rfl⟩ := rep_some h
  unfold goodPg at hg
  rw [Bool.and_eq_true, decide_eq_true_eq] at hg
  obtain ⟨d, hd⟩ : ∃ d : Nat, m.toNat = f.toNat + d := ⟨m.toNat - f.toNat, by omega⟩
  have hm := more_run row _ _ (new_more p f.toNat d) h0
  rw [← hd] at hm
  refine ⟨((St.new p m.toNat).run row).2.2, ?_⟩
  unfold rep goodPg
  rw [if_pos (by simp [hg.1]; omega)]
  unfold comb
  rw [if_pos hm.1, hm.2]
  simp

end Go.Proofs.Ytkjjbcgecnjniaa

/- The contract of the document's Few. -/
namespace Go.Proofs.Ytkjjbcgecnjniaa
open Go.RowKit

def fewPg (p : Pg) : Bool := p.threads.all (fun l => decide (l.length ≤ 50)) && decide (p.threads.length ≤ 20)

set_option maxRecDepth 100000 in
set_option maxHeartbeats 1000000 in
theorem few_any (p : Pg) (a : Option Addr) (cap : Nat) (w : World) (hp : ThreadsAt w a p.threads) :
    Calls Try.prog 8 #[pgV p a cap] w fun r w' => r = .returned (.bool (fewPg p)) ∧ Below w.heap.size w w' := by
  obtain ⟨V, M, ts⟩ := p
  unfold pgV
  dsimp only at *
  have hm := hp.1
  unfold maxLen at hm
  have HL := Lib.hid hp
  clear hp
  go_enter Try.func8, Try.ntmps8
  go_wp2
  go_loop [3] (fun i => ∃ k : Nat, k ≤ ts.length ∧ i = .int .i64 k ∧ Hid ((ts.take k).all (fun l => decide (l.length ≤ 50)) = true)) (fun i => ts.length - (intOf i).toNat)
  case atStart => exact ⟨0, Nat.zero_le _, rfl, rfl⟩
  case round =>
    obtain ⟨k, hk, rfl, hall⟩ := hrel
    by_cases hlt : k < ts.length
    · obtain ⟨b, o, rfl, hc⟩ := HL.out.2 (by intro e; simp [e] at hlt)
      obtain ⟨c, ccap, c0, c1, _⟩ := hc k hlt
      have hz := cell_block c0
      dsimp only at hz
      have ht : (ts.take (k + 1)) = ts.take k ++ [ts[k]] := List.take_succ_eq_append_getElem hlt
      have hcm := c1.1
      unfold maxLen at hcm
      clear c1 hc
      by_cases h50 : 50 < ts[k].length
      · have HR : Hid (fewPg ⟨V, M, ts⟩ = false) := by
          show _ = _
          unfold fewPg
          dsimp only
          rw [Bool.and_eq_false_iff, List.all_eq_false]; exact .inl ⟨ts[k], List.getElem_mem _, by simp; omega⟩
        clear ht
        go_wp2
        go_ret
        exact ⟨ret_bool HR.out.symm, below_alloc1 _ _⟩
      · have HR : Hid ((ts.take (k + 1)).all (fun l => decide (l.length ≤ 50)) = true) := by
          show _ = _
          rw [ht, List.all_append, hall.out]; simp; omega
        clear ht
        go_wp2
        go_round
        case rel => exact ⟨k + 1, by omega, by go_num, HR⟩
        case measure => simp [intOf]; omega
    · obtain rfl : k = ts.length := by omega
      have HR : Hid (fewPg ⟨V, M, ts⟩ = decide (ts.length ≤ 20)) := by
        show _ = _
        have := hall.out
        rw [List.take_length] at this
        unfold fewPg
        dsimp only
        rw [this, Bool.true_and]
      go_wp2
      go_ret
      exact ⟨ret_bool (by rw [HR.out]; simp; omega), below_alloc1 _ _⟩
end Go.Proofs.Ytkjjbcgecnjniaa

/- Arguments that are events, rows of events, or texts, opened. -/
namespace Go.Proofs.Ytkjjbcgecnjniaa
open Go.RowKit Go.Deep Go.Joins Go.WideShapes Go.ChangeShapes Go.ChangeAt

section
variable {H : Type} {enc : TypeId × Value → H} {W : World} {base : Nat} {spare : Nat → Bool} {held : Bool}

set_option maxRecDepth 100000 in
theorem evCell_of_trod {fuel : Nat} {cs : List Value} {x : DataW H × List MemPlace} (h : DataW.trod enc Try.prog W base spare held fuel 50 cs = some x) :
    ∃ i : Ev, cs = evCell i := by
  obtain ⟨xs, n, _, _, hlen, hxl, hf⟩ := DataW.trod_struct Try.underlying50 h
  have h4 : cs.length = 4 := hlen.trans (by kernel_rfl)
  have hx4 : xs.length = 4 := hxl.trans rfl
  match cs, h4, xs, hx4 with
  | [c0, c1, c2, c3], _, [x0, x1, x2, x3], _ =>
    have e1 : Try.prog.cellsOf 3 = 1 := by kernel_rfl
    have e2 : Try.prog.cellsOf 4 = 1 := by kernel_rfl
    have g0 := hf 0 _ rfl
    have g1 := hf 1 _ rfl
    have g2 := hf 2 _ rfl
    have g3 := hf 3 _ rfl
    simp [e1, e2] at g0 g1 g2 g3
    obtain ⟨n0, r0, _⟩ := DataW.trod_int Try.underlying3 g0
    obtain ⟨n1, r1, _⟩ := DataW.trod_int Try.underlying3 g1
    obtain ⟨n2, r2, _⟩ := DataW.trod_int Try.underlying3 g2
    obtain ⟨n3, r3, _⟩ := DataW.trod_bool Try.underlying4 g3
    simp at r0 r1 r2 r3
    exact ⟨⟨n0, n1, n2, n3⟩, by simp [evCell, r0, r1, r2, r3]⟩

set_option maxRecDepth 100000 in
theorem ev_of_trod {r : Reach} {b0 : Nat} {v : Value} {d : DataW H} {p : List MemPlace} (hv : Value.okWide Try.prog W r b0 50 v) (h : DataW.Trod enc Try.prog W base spare held 50 v d p) :
    ∃ e : Ev, v = .agg #[.int .i64 e.thread, .int .i64 e.kind, .int .i64 e.obj, .bool e.fail] := by
  obtain ⟨v0, v1, v2, v3, y0, y1, y2, y3, n, rfl, _, _, h0, h1, h2, h3⟩ := open_agg4 Try.underlying50 (by kernel_rfl) (by kernel_rfl) hv h
  obtain ⟨n0, r0, _⟩ := DataW.trod_int Try.underlying3 h0
  obtain ⟨n1, r1, _⟩ := DataW.trod_int Try.underlying3 h1
  obtain ⟨n2, r2, _⟩ := DataW.trod_int Try.underlying3 h2
  obtain ⟨n3, r3, _⟩ := DataW.trod_bool Try.underlying4 h3
  simp at r0 r1 r2 r3
  subst r0 r1 r2 r3
  exact ⟨⟨n0, n1, n2, n3⟩, rfl⟩

set_option maxRecDepth 100000 in
theorem evs_of_trod {r : Reach} {b0 : Nat} {v : Value} {d : DataW H} {p : List MemPlace} (hv : Value.okWide Try.prog W r b0 26 v) (h : DataW.Trod enc Try.prog W base spare held 26 v d p) :
    ∃ (a : Option Addr) (l : List Ev) (cap : Nat), v = .slice a l.length cap ∧ EvsAt W a l ∧ (a = none → cap = 0) := by
  obtain ⟨a, len, cap, rfl⟩ := okWide_slice Try.underlying26 hv
  obtain ⟨fuel, hf⟩ := h
  rcases open_slice Try.underlying26 hf with ⟨e, _⟩ | ⟨a', len', cap', m, n, D, Pl, e, _, hl, hm, hmm, _, hi⟩
  · simp [Value.cells] at e
    obtain ⟨rfl, rfl, rfl⟩ := e
    exact ⟨none, [], 0, rfl, evsAt_nil _ _, fun _ => rfl⟩
  · simp [Value.cells] at e
    obtain ⟨rfl, rfl, rfl⟩ := e
    have e4 : Try.prog.cellsOf 50 = 4 := by kernel_rfl
    have hlm : len ≤ m := by rw [hmm]; split <;> omega
    obtain ⟨l, hll, hx⟩ := exists_list len (fun i (y : Ev) => ∀ j v, (evCell y)[j]? = some v → W.cell? (a'.add (i * 4 + j)) = some v) (fun i hi' => by
      obtain ⟨cs', hc, ht⟩ := hi i (by omega)
      rw [e4] at hc
      obtain ⟨y, rfl⟩ := evCell_of_trod ht
      obtain ⟨_, _, hat⟩ := World.cells?_some hc
      refine ⟨y, fun j v hv => ?_⟩
      have hj : j < 4 := by have := (List.getElem?_eq_some_iff.1 hv).1; simpa [evCell] using this
      rw [← add_add, hat j hj]; exact hv)
    refine ⟨some a', l, cap, by rw [hll], ⟨by omega, fun hne => ?_⟩, fun h => by cases h⟩
    have hpos : 0 < l.length := List.length_pos_iff.2 hne
    have h0 := hx 0 l[0] (List.getElem?_eq_getElem hpos) 0 _ rfl
    have hsp := World.cell?_spot h0
    have hsp' : a'.spot = none := by simpa [Addr.add] using hsp
    obtain ⟨b, o, s⟩ := a'
    subst hsp'
    refine ⟨b, o, rfl, fun i hi' => ?_⟩
    have hxi := hx i l[i] (List.getElem?_eq_getElem hi')
    have c0 := hxi 0 _ rfl
    have c1 := hxi 1 _ rfl
    have c2 := hxi 2 _ rfl
    have c3 := hxi 3 _ rfl
    simp only [add_row, ← Nat.add_assoc, Nat.add_zero] at c0 c1 c2 c3
    exact ⟨c0, c1, c2, c3⟩

set_option maxRecDepth 100000 in
/-- The same, with its room. -/
theorem evs2_of_trod {r : Reach} {b0 : Nat} {v : Value} {d : DataW H} {p : List MemPlace} (hv : Value.okWide Try.prog W r b0 26 v) (h : DataW.Trod enc Try.prog W base spare held 26 v d p) :
    ∃ (a : Option Addr) (l : List Ev) (cap : Nat), v = .slice a l.length cap ∧ EvsAt W a l ∧ (a = none → cap = 0) ∧ l.length ≤ cap ∧ cap ≤ maxLen := by
  obtain ⟨a, len, cap, rfl⟩ := okWide_slice Try.underlying26 hv
  obtain ⟨fuel, hf⟩ := h
  rcases open_slice Try.underlying26 hf with ⟨e, _⟩ | ⟨a', len', cap', m, n, D, Pl, e, _, hl, hm, hmm, _, hi⟩
  · simp [Value.cells] at e
    obtain ⟨rfl, rfl, rfl⟩ := e
    exact ⟨none, [], 0, rfl, evsAt_nil _ _, (fun _ => rfl), Nat.le_refl _, by simp [maxLen]⟩
  · simp [Value.cells] at e
    obtain ⟨rfl, rfl, rfl⟩ := e
    have e4 : Try.prog.cellsOf 50 = 4 := by kernel_rfl
    have hlm : len ≤ m := by rw [hmm]; split <;> omega
    obtain ⟨l, hll, hx⟩ := exists_list len (fun i (y : Ev) => ∀ j v, (evCell y)[j]? = some v → W.cell? (a'.add (i * 4 + j)) = some v) (fun i hi' => by
      obtain ⟨cs', hc, ht⟩ := hi i (by omega)
      rw [e4] at hc
      obtain ⟨y, rfl⟩ := evCell_of_trod ht
      obtain ⟨_, _, hat⟩ := World.cells?_some hc
      refine ⟨y, fun j v hv => ?_⟩
      have hj : j < 4 := by have := (List.getElem?_eq_some_iff.1 hv).1; simpa [evCell] using this
      rw [← add_add, hat j hj]; exact hv)
    refine ⟨some a', l, cap, by rw [hll], ⟨by omega, fun hne => ?_⟩, (fun h => by cases h), by omega, by omega⟩
    have hpos : 0 < l.length := List.length_pos_iff.2 hne
    have h0 := hx 0 l[0] (List.getElem?_eq_getElem hpos) 0 _ rfl
    have hsp := World.cell?_spot h0
    have hsp' : a'.spot = none := by simpa [Addr.add] using hsp
    obtain ⟨b, o, s⟩ := a'
    subst hsp'
    refine ⟨b, o, rfl, fun i hi' => ?_⟩
    have hxi := hx i l[i] (List.getElem?_eq_getElem hi')
    have c0 := hxi 0 _ rfl
    have c1 := hxi 1 _ rfl
    have c2 := hxi 2 _ rfl
    have c3 := hxi 3 _ rfl
    simp only [add_row, ← Nat.add_assoc, Nat.add_zero] at c0 c1 c2 c3
    exact ⟨c0, c1, c2, c3⟩

set_option maxRecDepth 100000 in
theorem str_of_trod {r : Reach} {b0 : Nat} {v : Value} {d : DataW H} {p : List MemPlace} (hv : Value.okWide Try.prog W r b0 9 v) (h : DataW.Trod enc Try.prog W base spare held 9 v d p) :
    ∃ l : List UInt8, v = .string ⟨l.toArray⟩ ∧ l.length ≤ maxLen := by
  obtain ⟨s, rfl, _, _, w⟩ := Go.ChangeMaps.open_string Try.underlying9 hv h
  exact ⟨s.data.toList, rfl, by simpa using w⟩
end
end Go.Proofs.Ytkjjbcgecnjniaa

/- Arguments that are numbers, or rows of numbers, opened. -/
namespace Go.Proofs.Ytkjjbcgecnjniaa
open Go.RowKit Go.Deep Go.Joins Go.WideShapes Go.ChangeShapes

section
variable {H : Type} {enc : TypeId × Value → H} {W : World} {base : Nat} {spare : Nat → Bool} {held : Bool}

theorem wf_in64 {n : Int} (h : (Lit.int .i64 n).wf = true) : in64 n := by
  simp [Lit.wf, IntKind.min, IntKind.max, IntKind.signed, IntKind.bits] at h
  unfold in64
  omega

set_option maxRecDepth 100000 in
theorem int_of_trod {r : Reach} {b0 : Nat} {v : Value} {d : DataW H} {p : List MemPlace} (hv : Value.okWide Try.prog W r b0 3 v) (h : DataW.Trod enc Try.prog W base spare held 3 v d p) :
    ∃ n : Int, v = .int .i64 n ∧ in64 n := by
  obtain ⟨n, e, _, _, hw⟩ := open_int Try.underlying3 hv h
  exact ⟨n, e, wf_in64 hw⟩

set_option maxRecDepth 100000 in
theorem nums_of_trod {r : Reach} {b0 : Nat} {v : Value} {d : DataW H} {p : List MemPlace} (hv : Value.okWide Try.prog W r b0 25 v) (h : DataW.Trod enc Try.prog W base spare held 25 v d p) :
    ∃ (a : Option Addr) (ns : List Int) (cap : Nat), v = .slice a ns.length cap ∧ NumsAt W a ns ∧ (a = none → cap = 0) ∧ ∀ n ∈ ns, in64 n := by
  obtain ⟨a, len, cap, rfl⟩ := okWide_slice Try.underlying25 hv
  obtain ⟨fuel, hf⟩ := h
  rcases open_ints Try.underlying25 Try.underlying3 (by kernel_rfl) hf with ⟨e, _⟩ | ⟨a', len', cap', zs, e, _, hl, hm, hz, _, hc, hw⟩
  · simp [Value.cells] at e
    obtain ⟨rfl, rfl, rfl⟩ := e
    exact ⟨none, [], 0, rfl, ⟨by simp [maxLen], fun h => absurd rfl h⟩, fun _ => rfl, by simp⟩
  · simp [Value.cells] at e
    obtain ⟨rfl, rfl, rfl⟩ := e
    have hlz : len ≤ zs.length := by rw [hz]; split <;> omega
    have hlt : (zs.take len).length = len := by simp; omega
    refine ⟨some a', zs.take len, cap, by rw [hlt], ⟨by rw [hlt]; omega, fun hne => ?_⟩, by simp, fun n hn => wf_in64 (hw n (List.mem_of_mem_take hn))⟩
    have hpos : 0 < len := by
      rcases Nat.eq_zero_or_pos len with h | h
      · subst h; simp at hne
      · exact h
    have h0 := hc 0 (by omega)
    have hsp := World.cell?_spot h0
    have hsp' : a'.spot = none := by simpa [Addr.add] using hsp
    obtain ⟨b, o, s⟩ := a'
    subst hsp'
    refine ⟨b, o, rfl, fun i hi => ?_⟩
    have hi' : i < len := by omega
    have := hc i (by omega)
    rw [add_row, getD_lt _ (by omega)] at this
    rw [this]
    simp
end
end Go.Proofs.Ytkjjbcgecnjniaa

/- An argument that is a program, opened. -/
namespace Go.Proofs.Ytkjjbcgecnjniaa
open Go.RowKit Go.Deep Go.Joins Go.WideShapes Go.ChangeShapes

section
variable {H : Type} {enc : TypeId × Value → H} {W : World} {base : Nat} {spare : Nat → Bool} {held : Bool}

set_option maxRecDepth 100000 in
theorem ins_of_trod {fuel : Nat} {cs : List Value} {x : DataW H × List MemPlace} (h : DataW.trod enc Try.prog W base spare held fuel 58 cs = some x) :
    ∃ i : Ins, cs = [.int .i64 i.kind, .int .i64 i.r, .int .i64 i.x, .int .i64 i.n] := by
  obtain ⟨xs, n, _, _, hlen, hxl, hf⟩ := DataW.trod_struct Try.underlying58 h
  have h4 : cs.length = 4 := hlen.trans (by kernel_rfl)
  have hx4 : xs.length = 4 := hxl.trans rfl
  match cs, h4, xs, hx4 with
  | [c0, c1, c2, c3], _, [x0, x1, x2, x3], _ =>
    have e1 : Try.prog.cellsOf 3 = 1 := by kernel_rfl
    have e2 : Try.prog.cellsOf 2 = 1 := by kernel_rfl
    have g0 := hf 0 _ rfl
    have g1 := hf 1 _ rfl
    have g2 := hf 2 _ rfl
    have g3 := hf 3 _ rfl
    simp [e1, e2] at g0 g1 g2 g3
    obtain ⟨n0, r0, _⟩ := DataW.trod_int Try.underlying3 g0
    obtain ⟨n1, r1, _⟩ := DataW.trod_int Try.underlying3 g1
    obtain ⟨n2, r2, _⟩ := DataW.trod_int Try.underlying3 g2
    obtain ⟨n3, r3, _⟩ := DataW.trod_int Try.underlying2 g3
    simp at r0 r1 r2 r3
    exact ⟨⟨n0, n1, n2, n3⟩, by simp [r0, r1, r2, r3]⟩

set_option maxRecDepth 100000 in
theorem code_of_trod {fuel : Nat} {cs : List Value} {x : DataW H × List MemPlace} (h : DataW.trod enc Try.prog W base spare held fuel 59 cs = some x) :
    ∃ (a : Option Addr) (l : List Ins) (cap : Nat), cs = [.slice a l.length cap] ∧ CodeAt W a l ∧ (a = none → cap = 0) := by
  rcases open_slice Try.underlying59 h with ⟨rfl, _⟩ | ⟨a, len, cap, m, n, D, Pl, rfl, _, hl, hm, hmm, _, hi⟩
  · exact ⟨none, [], 0, rfl, ⟨by simp [maxLen], fun h => absurd rfl h⟩, fun _ => rfl⟩
  · have e4 : Try.prog.cellsOf 58 = 4 := by kernel_rfl
    have hlm : len ≤ m := by rw [hmm]; split <;> omega
    obtain ⟨l, hll, hx⟩ := exists_list len (fun i (y : Ins) => ∀ j v, [Value.int .i64 y.kind, .int .i64 y.r, .int .i64 y.x, .int .i64 y.n][j]? = some v → W.cell? (a.add (i * 4 + j)) = some v) (fun i hi' => by
      obtain ⟨cs', hc, ht⟩ := hi i (by omega)
      rw [e4] at hc
      obtain ⟨y, rfl⟩ := ins_of_trod ht
      obtain ⟨_, _, hat⟩ := World.cells?_some hc
      refine ⟨y, fun j v hv => ?_⟩
      have hj : j < 4 := by have := (List.getElem?_eq_some_iff.1 hv).1; simpa using this
      rw [← add_add, hat j hj]; exact hv)
    refine ⟨some a, l, cap, by rw [hll], ⟨by omega, fun hne => ?_⟩, fun h => by cases h⟩
    have hpos : 0 < l.length := List.length_pos_iff.2 hne
    have h0 := hx 0 l[0] (List.getElem?_eq_getElem hpos) 0 _ rfl
    have hsp := World.cell?_spot h0
    have hsp' : a.spot = none := by simpa [Addr.add] using hsp
    obtain ⟨b, o, s⟩ := a
    subst hsp'
    refine ⟨b, o, rfl, fun i hi' => ?_⟩
    have hxi := hx i l[i] (List.getElem?_eq_getElem hi')
    have c0 := hxi 0 _ rfl
    have c1 := hxi 1 _ rfl
    have c2 := hxi 2 _ rfl
    have c3 := hxi 3 _ rfl
    simp only [add_row, ← Nat.add_assoc, Nat.add_zero] at c0 c1 c2 c3
    exact ⟨c0, c1, c2, c3⟩

set_option maxRecDepth 100000 in
theorem threads_of_trod {fuel : Nat} {cs : List Value} {x : DataW H × List MemPlace} (h : DataW.trod enc Try.prog W base spare held fuel 22 cs = some x) :
    ∃ (a : Option Addr) (ts : List (List Ins)) (cap : Nat), cs = [.slice a ts.length cap] ∧ ThreadsAt W a ts ∧ (a = none → cap = 0) := by
  rcases open_slice Try.underlying22 h with ⟨rfl, _⟩ | ⟨a, len, cap, m, n, D, Pl, rfl, _, hl, hm, hmm, _, hi⟩
  · exact ⟨none, [], 0, rfl, ⟨by simp [maxLen], fun h => absurd rfl h⟩, fun _ => rfl⟩
  · have e1 : Try.prog.cellsOf 59 = 1 := by kernel_rfl
    have hlm : len ≤ m := by rw [hmm]; split <;> omega
    obtain ⟨ts, hll, hx⟩ := exists_list len (fun i (l : List Ins) => ∃ c ccap, W.cell? (a.add i) = some (.slice c l.length ccap) ∧ CodeAt W c l ∧ (c = none → ccap = 0)) (fun i hi' => by
      obtain ⟨cs', hc, ht⟩ := hi i (by omega)
      rw [e1] at hc
      obtain ⟨c, l, ccap, rfl, h1, h2⟩ := code_of_trod ht
      obtain ⟨_, _, hat⟩ := World.cells?_some hc
      have := hat 0 (by omega)
      rw [add_add] at this
      exact ⟨l, c, ccap, by simpa using this, h1, h2⟩)
    refine ⟨some a, ts, cap, by rw [hll], ⟨by omega, fun hne => ?_⟩, fun h => by cases h⟩
    have hpos : 0 < ts.length := List.length_pos_iff.2 hne
    obtain ⟨c, ccap, h0, _⟩ := hx 0 ts[0] (List.getElem?_eq_getElem hpos)
    have hsp := World.cell?_spot h0
    have hsp' : a.spot = none := by simpa [Addr.add] using hsp
    obtain ⟨b, o, s⟩ := a
    subst hsp'
    refine ⟨b, o, rfl, fun i hi' => ?_⟩
    obtain ⟨c, ccap, h1, h2, h3⟩ := hx i ts[i] (List.getElem?_eq_getElem hi')
    rw [add_row] at h1
    exact ⟨c, ccap, h1, h2, h3⟩

set_option maxRecDepth 100000 in
theorem prog_of_trod {r : Reach} {b0 : Nat} {v : Value} {d : DataW H} {p : List MemPlace} (hv : Value.okWide Try.prog W r b0 24 v) (h : DataW.Trod enc Try.prog W base spare held 24 v d p) :
    ∃ (q : Pg) (a : Option Addr) (cap : Nat), v = pgV q a cap ∧ ThreadsAt W a q.threads ∧ (a = none → cap = 0) := by
  obtain ⟨v0, v1, v2, y0, y1, y2, n, rfl, _, _, h0, h1, h2⟩ := open_agg3 Try.underlying24 (by kernel_rfl) (by kernel_rfl) hv h
  obtain ⟨n0, r0, _⟩ := DataW.trod_int Try.underlying3 h0
  obtain ⟨n1, r1, _⟩ := DataW.trod_int Try.underlying3 h1
  obtain ⟨a, ts, cap, r2, ht, ha⟩ := threads_of_trod h2
  simp at r0 r1 r2
  subst r0 r1 r2
  exact ⟨⟨n0, n1, ts⟩, a, cap, rfl, ht, ha⟩
end
end Go.Proofs.Ytkjjbcgecnjniaa

/- Rows of numbers and of events held against each other: SameInts, SameEvents; two events. -/
namespace Go.Proofs.Ytkjjbcgecnjniaa
open Go.RowKit

end Go.Proofs.Ytkjjbcgecnjniaa

/- Arguments that are numbers, or rows of numbers, opened. -/
