/- The contract of Replay. -/
import Derived.Test.YtfhndbibabbnlaaEvRows
import Derived.Test.YtfhndbibabbnlaaStep
import Derived.Test.YtfhndbibabbnlaaNew
namespace Go.Proofs.Ytfhndbibabbnlaa
open Go.RowKit

/-- Steps one behind the other: an error, the events, the state. -/
def St.run (s : St) : List Int → Int × List Ev × St
  | [] => (0, [], s)
  | t :: row => if (s.step t).1 = 0 then
      (if ((s.step t).2.2.run row).1 = 0 then (0, (s.step t).2.1 :: ((s.step t).2.2.run row).2.1, ((s.step t).2.2.run row).2.2) else (((s.step t).2.2.run row).1, [], s))
    else ((s.step t).1, [], s)

/-- Steps behind events that are done. -/
def comb (es : List Ev) (x : Int × List Ev × St) : Int × List Ev × Option St := if x.1 = 0 then (0, es ++ x.2.1, some x.2.2) else (x.1, [], none)

theorem comb_ok (es : List Ev) (s : St) (t : Int) (row : List Int) (h : (s.step t).1 = 0) : comb es (s.run (t :: row)) = comb (es ++ [(s.step t).2.1]) ((s.step t).2.2.run row) := by
  unfold comb
  rw [St.run, if_pos h]
  by_cases h2 : ((s.step t).2.2.run row).1 = 0
  · rw [if_pos h2, if_pos h2]; simp
  · rw [if_neg h2, if_neg h2, if_neg h2]
theorem comb_err (es : List Ev) (s : St) (t : Int) (row : List Int) (h : (s.step t).1 ≠ 0) : comb es (s.run (t :: row)) = ((s.step t).1, [], none) := by
  unfold comb
  rw [St.run, if_neg h, if_neg h]
theorem comb_nil (es : List Ev) (s : St) : comb es (s.run []) = (0, es, some s) := by
  unfold comb
  simp [St.run]

def goodPg (p : Pg) (fuel : Int) : Bool := rightPg p && decide (0 ≤ fuel ∧ fuel ≤ 8)
/-- What Replay answers: an error, the events, the state. -/
def rep (p : Pg) (fuel : Int) (row : List Int) : Int × List Ev × Option St := if goodPg p fuel = true then comb [] ((St.new p fuel.toNat).run row) else (1, [], none)

theorem step_code {s : St} (t : Int) : 0 ≤ (s.step t).1 ∧ (s.step t).1 ≤ 9 := by
  rcases s.step_cases t with ⟨i, _, _, e⟩ | ⟨e, he, e'⟩
  · rw [e]; simp
  · rw [e']; dsimp only; omega

def ReplayR (p : Pg) (fuel : Int) (row : List Int) (w : World) (r : Ending) (w' : World) : Prop :=
  Below w.heap.size w w' ∧ match rep p fuel row with
  | (_, es, some s) => ∃ g v, r = .returned (.tuple #[.pointer (some ⟨g, 0, none⟩), v, .int .i64 0]) ∧ w.heap.size ≤ g ∧ StAt w' g s ∧ s.Ok fuel.toNat ∧ OwnE w' w.heap.size v es
  | (e, _, none) => r = .returned (.tuple #[.pointer none, .slice none 0 0, .int .i64 e])

theorem replayR_some {p : Pg} {fuel : Int} {row : List Int} {w w' : World} {es : List Ev} {s : St} (h : rep p fuel row = (0, es, some s)) {g : Nat} {v : Value} (hb : Below w.heap.size w w') (hg : w.heap.size ≤ g) (hs : StAt w' g s) (ok : s.Ok fuel.toNat) (ho : OwnE w' w.heap.size v es) :
    ReplayR p fuel row w (.returned (.tuple #[.pointer (some ⟨g, 0, none⟩), v, .int .i64 0])) w' := by
  unfold ReplayR
  rw [h]
  exact ⟨hb, g, v, rfl, hg, hs, ok, ho⟩
theorem replayR_none {p : Pg} {fuel : Int} {row : List Int} {w w' : World} {e : Int} (h : rep p fuel row = (e, [], none)) (hb : Below w.heap.size w w') :
    ReplayR p fuel row w (.returned (.tuple #[.pointer none, .slice none 0 0, .int .i64 e])) w' := by
  unfold ReplayR
  rw [h]
  exact ⟨hb, rfl⟩

theorem ownE_base {w : World} {B B' : Nat} {v : Value} {l : List Ev} (h : OwnE w B v l) (hB : B' ≤ B) : OwnE w B' v l := by
  obtain ⟨h1, h2 | ⟨g, cap, cur, h2, h3, h4⟩⟩ := h
  · exact ⟨h1, .inl h2⟩
  · exact ⟨h1, .inr ⟨g, cap, cur, h2, by omega, h4⟩⟩

set_option maxRecDepth 100000 in
set_option maxHeartbeats 4000000 in
theorem replay_any (p : Pg) (a : Option Addr) (cap : Nat) (fuel : Int) (ra : Option Addr) (rcap : Nat) (row : List Int) (w : World) (hp : ThreadsAt w a p.threads) (hrow : NumsAt w ra row) (hr1000 : row.length ≤ 1000) :
    Calls Try.prog 33 #[.agg #[.int .i64 p.vars, .int .i64 p.mutexes, .slice a p.threads.length cap], .int .i64 fuel, .slice ra row.length rcap] w (ReplayR p fuel row w) := by
  have HP := Lib.hid hp
  have HROW := Lib.hid hrow
  clear hp hrow
  go_enter Try.func33, Try.ntmps33
  go_wp2_with fail
  refine (new_any p a cap fuel _ (HP.out.later (below_alloc1 w _))).mono ?_
  rintro r w3 hr
  unfold NewR at hr
  by_cases hgood : rightPg p = true ∧ 0 ≤ fuel ∧ fuel ≤ 8
  case neg =>
    rw [if_neg hgood] at hr
    obtain ⟨rfl, hb3⟩ := hr
    have hw3 : Below w.heap.size w w3 := (below_alloc1 w _).trans (hb3.mono (by simp))
    have HRP : Hid (rep p fuel row = (1, [], none)) := by
      show _ = _
      unfold rep goodPg
      rw [if_neg]
      simpa using hgood
    clear hb3 hgood
    go_wp2
    refine bodyPost_ret (v := .tuple #[.pointer none, .slice none 0 0, .int .i64 1]) (by simp [results, Try.results33, go_sem]) rfl ?_
    exact replayR_none HRP.out hw3
  rw [if_pos hgood] at hr
  obtain ⟨g, rfl, hg, hs, hb3⟩ := hr
  obtain ⟨hr1, hf0, hf8⟩ := hgood
  obtain ⟨F, rfl⟩ : ∃ F : Nat, fuel = F := ⟨fuel.toNat, by omega⟩
  have HRP : Hid (rep p F row = comb [] ((St.new p F).run row)) := by
    show _ = _
    unfold rep goodPg
    rw [if_pos (by simp [hr1]; omega)]
    rfl
  simp only [Int.toNat_natCast] at hs
  have hw3 : Below w.heap.size w w3 := (below_alloc1 w _).trans (hb3.mono (by simp))
  have hgw : w.heap.size ≤ g := by have : (w.alloc (.cells #[.int .i64 p.vars, .int .i64 p.mutexes, .slice a p.threads.length cap] 41)).heap.size ≤ g := hg; simp at this; omega
  have hg3 := hs.lt
  have HS := Lib.hid hs
  have HOK := Lib.hid (new_ok hr1 F (by omega))
  clear hs hb3 hr1 hg
  go_wp2_with fail
  go_loopw [11, 27] (fun l i wr => ∃ (k : Nat) (s : St) (es : List Ev), k ≤ row.length ∧ i = .int .i64 k ∧ es.length ≤ k ∧ Hid (rep p F row = comb es (s.run (row.drop k))) ∧ OwnE wr w3.heap.size l es ∧ StAt wr g s ∧ s.Ok F ∧ Below w.heap.size w wr ∧ w3.heap.size ≤ wr.heap.size) (fun _ i _ => row.length - (intOf i).toNat)
  case atStart => exact ⟨0, _, [], Nat.zero_le _, rfl, Nat.zero_le _, HRP, ownE_nil _ _, HS.out, HOK.out, hw3, Nat.le_refl _⟩
  case round =>
    clear HS HOK HRP
    obtain ⟨k, s, es, hk, rfl, hel, HRP, hown, hs, ok, hb, hz⟩ := hrel
    have HS := Lib.hid hs
    have OK := Lib.hid ok
    have hgr := hs.lt
    clear hs ok
    by_cases hlt : k < row.length
    · obtain ⟨rb, ro, rfl, hc⟩ := HROW.out.2 (by intro e; simp [e] at hlt)
      have d0 := cell_later hb (hc k hlt)
      have hdr : row.drop k = row[k] :: row.drop (k + 1) := List.drop_eq_getElem_cons hlt
      have HDR := Lib.hid hdr
      clear hc hdr
      generalize row[k] = t at *
      go_wp2_with fail
      refine (step_any HS.out OK.out t).mono ?_
      rintro r w5 ⟨rfl, hs5, ho5⟩
      have hok5 := OK.out.step_ok t
      have HCE := Lib.hid (comb_err es s t (row.drop (k + 1)))
      have HCO := Lib.hid (comb_ok es s t (row.drop (k + 1)))
      have hb5 := hb.trans (ho5.below hgw hb.size)
      have hown5 := hown.only ho5 hg3
      have hz5 : w3.heap.size ≤ w5.heap.size := Nat.le_trans hz ho5.size
      unfold stepV evV
      generalize s.step t = st at *
      obtain ⟨e, x, s'⟩ := st
      dsimp only at *
      have HS5 := Lib.hid (hs5.later (below_alloc1 w5 (.cells #[.int .i64 x.thread, .int .i64 x.kind, .int .i64 x.obj, .bool x.fail] 23)))
      have HOK5 := Lib.hid hok5
      have hbe : Below w.heap.size w (w5.alloc (.cells #[.int .i64 x.thread, .int .i64 x.kind, .int .i64 x.obj, .bool x.fail] 23)) := hb5.alloc hb5.size _
      clear hb hown ho5 hs5 hok5 hb5 HS d0 hgr
      by_cases he : e = 0
      · subst he
        have HR2 : Hid (rep p F row = comb (es ++ [x]) (s'.run (row.drop (k + 1)))) := by
          show _ = _
          rw [HRP.out, HDR.out]
          exact HCO.out rfl
        clear HCE HCO
        go_wp2_with (at_builtin; refine wp_appendE rfl (.tmp 40) (.tmp 42) rfl w3.heap.size _ es rfl ((hown5.alloc _).alloc _) ⟨w5.heap.size + 1, 0, none⟩ rfl x (ev_new (w5.alloc (.cells #[.int .i64 x.thread, .int .i64 x.kind, .int .i64 x.obj, .bool x.fail] 23)) x _ _ (by simp)) (by omega) (by simp; omega) ?_; intro v7 w7 hown7 hb7)
        have hb7' : Below w3.heap.size (w5.alloc (.cells #[.int .i64 x.thread, .int .i64 x.kind, .int .i64 x.obj, .bool x.fail] 23)) w7 := ((Below.refl _ _).alloc (by simp; omega) _).trans hb7
        have HS7 : Hid (StAt w7 g s') := (hb7'.block g hg3).trans HS5.out
        have hw7 : Below w.heap.size w w7 := hbe.trans (hb7'.mono (by omega))
        have hz7 : w3.heap.size ≤ w7.heap.size := by have := hb7'.size; simp at this; omega
        clear hb7 hb7' hown5
        go_roundw
        case rel => exact ⟨k + 1, s', es ++ [x], by omega, by go_num, by simp; omega, HR2, hown7, HS7.out, HOK5.out, hw7, hz7⟩
        case measure => simp [intOf]; omega
      · have q0 : (e != 0) = true := by simpa using he
        have HR2 : Hid (rep p F row = (e, [], none)) := by
          show _ = _
          rw [HRP.out, HDR.out]
          exact HCE.out he
        clear he HCE HCO
        go_wp2
        refine bodyPost_ret (v := .tuple #[.pointer none, .slice none 0 0, .int .i64 e]) (by simp [results, Try.results33, go_sem]) rfl ?_
        exact replayR_none HR2.out hbe
    · obtain rfl : k = row.length := by omega
      have HR2 : Hid (rep p F row = (0, es, some s)) := by
        show _ = _
        rw [HRP.out, List.drop_length]
        exact comb_nil es s
      go_wp2
      refine bodyPost_ret (v := .tuple #[.pointer (some ⟨g, 0, none⟩), _, .int .i64 0]) (by simp [results, Try.results33, go_sem]; rfl) rfl ?_
      exact replayR_some HR2.out hb hgw HS.out OK.out (ownE_base hown (by have := hw3.size; omega))

end Go.Proofs.Ytfhndbibabbnlaa
