/-
  RaceTells: of any program's row the races with what threads do next, and of any row those in it, are what the document says: the law answers true, and its arguments read as they did.
  For every input, whatever its size and however its parts share memory; nothing is asked of it but what the statement's own form asks.
-/
import Derived.WalkKit
import Derived.ProofKit
import Derived.OpenShut
import Derived.Test.YtkjjbcgecnjniaaRows
import Derived.Test.YtkjjbcgecnjniaaCRaceTells02
import Derived.Test.YtkjjbcgecnjniaaCRaceTells05
import Derived.Test.YtkjjbcgecnjniaaPk06

/- The contract of the document's Replay. -/
namespace Go.Proofs.Ytkjjbcgecnjniaa
open Go.RowKit

def RefReplayR (p : Pg) (a : Option Addr) (cap : Nat) (fuel : Int) (row : List Int) (w : World) (r : Ending) (w' : World) : Prop :=
  Below w.heap.size w w' ∧ match rep p fuel row with
  | (_, es, some s) => ∃ b tb tcap v, r = .returned (.tuple #[.pointer (some ⟨b, 0, none⟩), v, .int .i64 0]) ∧ RefAt w' b tb a cap tcap s ∧ s.p = p ∧ s.Ok fuel.toNat ∧ OwnE w' w.heap.size v es
  | (e, _, none) => r = .returned (.tuple #[.pointer none, .slice none 0 0, .int .i64 e])

theorem step_prog (s : St) (t : Int) : (s.step t).2.2.p = s.p := by
  rcases s.step_cases t with ⟨i, _, _, e⟩ | ⟨e, _, e'⟩
  · rw [e]; rfl
  · rw [e']
theorem OwnE.only2 {w w' : World} {B b c : Nat} {v : Value} {l : List Ev} (h : OwnE w B v l) (ho : Only2 b c w w') (hb : b < B) (hc : c < B) : OwnE w' B v l := by
  obtain ⟨h1, h2 | ⟨g, cap, cur, h2, h3, h4, h5⟩⟩ := h
  · exact ⟨h1, .inl h2⟩
  · exact ⟨h1, .inr ⟨g, cap, cur, h2, h3, (ho.block g (Array.getElem?_eq_some_iff.1 h4).1 (by omega) (by omega)).trans h4, h5⟩⟩
theorem RefAt.below {w w' : World} {b tb B : Nat} {a : Option Addr} {cap tcap : Nat} {s : St} (h : RefAt w b tb a cap tcap s) (hb : Below B w w') (h1 : b < B) (h2 : tb < B) : RefAt w' b tb a cap tcap s := by
  obtain ⟨g1, g0, cur, g2, g3⟩ := h
  exact ⟨(hb.block b h1).trans g1, g0, cur, (hb.block tb h2).trans g2, g3⟩

set_option maxRecDepth 100000 in
set_option maxHeartbeats 4000000 in
theorem refReplay_any (p : Pg) (a : Option Addr) (cap : Nat) (fuel : Int) (ra : Option Addr) (rcap : Nat) (row : List Int) (w : World) (hp : ThreadsAt w a p.threads) (hrow : NumsAt w ra row) (hr1000 : row.length ≤ 1000) :
    Calls Try.prog 10 #[.agg #[.int .i64 p.vars, .int .i64 p.mutexes, .slice a p.threads.length cap], .int .i64 fuel, .slice ra row.length rcap] w (RefReplayR p a cap fuel row w) := by
  have HP := Lib.hid hp
  have HROW := Lib.hid hrow
  clear hp hrow
  by_cases hgood : rightPg p = true ∧ 0 ≤ fuel ∧ fuel ≤ 8
  case neg =>
    have HRP : Hid (rep p fuel row = (1, [], none)) := by
      show _ = _
      unfold rep goodPg
      rw [if_neg]
      simpa using hgood
    have HGD := Lib.hid hgood
    clear hgood
    go_enter Try.func10, Try.ntmps10
    go_wp2_with fail
    refine (refNew_no p a cap fuel _ (HP.out.later (below_alloc1 w _)) HGD.out).mono ?_
    rintro r w3 ⟨rfl, hb3⟩
    have hw3 : Below w.heap.size w w3 := (below_alloc1 w _).trans (hb3.mono (by simp))
    clear hb3
    go_wp2
    refine bodyPost_ret (v := .tuple #[.pointer none, .slice none 0 0, .int .i64 1]) (by simp [results, Try.results10, go_sem]) rfl ?_
    unfold RefReplayR
    rw [HRP.out]
    exact ⟨hw3, rfl⟩
  obtain ⟨hr1, hf0, hf8⟩ := hgood
  obtain ⟨F, rfl⟩ : ∃ F : Nat, fuel = F := ⟨fuel.toNat, by omega⟩
  have HRP : Hid (rep p F row = comb [] ((St.new p F).run row)) := by
    show _ = _
    unfold rep goodPg
    rw [if_pos (by simp [hr1]; omega)]
    rfl
  have HR1 := Lib.hid hr1
  clear hr1
  go_enter Try.func10, Try.ntmps10
  go_wp2_with fail
  refine (refNew_yes p a cap F _ (HP.out.later (below_alloc1 w _)) HR1.out (by omega)).mono ?_
  rintro r w3 ⟨b, tb, tcap, rfl, hgb, hgt, hs, hb3⟩
  have hw3 : Below w.heap.size w w3 := (below_alloc1 w _).trans (hb3.mono (by simp))
  have hgb1 : w.heap.size ≤ b := by simp at hgb; omega
  have hgt1 : w.heap.size ≤ tb := by simp at hgt; omega
  obtain ⟨hb3a, hb3b⟩ := hs.lt
  have HS := Lib.hid hs
  have HOK := Lib.hid (new_ok HR1.out F (by omega))
  clear hs hb3 hgb hgt
  go_wp2_with fail
  go_loopw [10, 11] (fun l i wr => ∃ (k : Nat) (s : St) (es : List Ev), k ≤ row.length ∧ i = .int .i64 k ∧ es.length ≤ k ∧ Hid (rep p F row = comb es (s.run (row.drop k))) ∧ Hid (s.p = p) ∧ OwnE wr w3.heap.size l es ∧ RefAt wr b tb a cap tcap s ∧ s.Ok F ∧ Below w.heap.size w wr ∧ w3.heap.size ≤ wr.heap.size) (fun _ i _ => row.length - (intOf i).toNat)
  case atStart => exact ⟨0, _, [], Nat.zero_le _, rfl, Nat.zero_le _, HRP, rfl, ownE_nil _ _, HS.out, HOK.out, hw3, Nat.le_refl _⟩
  case round =>
    clear HS HOK HRP
    obtain ⟨k, s, es, hk, rfl, hel, HRP, HSP, hown, hs, ok, hb, hz⟩ := hrel
    have HS := Lib.hid hs
    have OK := Lib.hid ok
    clear hs ok
    by_cases hlt : k < row.length
    · obtain ⟨rb, ro, rfl, hc⟩ := HROW.out.2 (by intro e; simp [e] at hlt)
      have d0 := cell_later hb (hc k hlt)
      have hdr : row.drop k = row[k] :: row.drop (k + 1) := List.drop_eq_getElem_cons hlt
      have HDR := Lib.hid hdr
      have HTW : Hid (ThreadsAt wr a s.p.threads) := by rw [HSP.out]; exact HP.out.later hb
      clear hc hdr
      generalize row[k] = t at *
      go_wp2_with fail
      refine (refStep_any HS.out HTW.out OK.out t).mono ?_
      rintro r w5 ⟨rfl, hs5, ho5⟩
      have hok5 := OK.out.step_ok t
      have hsp5 := (step_prog s t).trans HSP.out
      have HCE := Lib.hid (comb_err es s t (row.drop (k + 1)))
      have HCO := Lib.hid (comb_ok es s t (row.drop (k + 1)))
      have hb5 := hb.trans (ho5.below hgb1 hgt1 hb.size)
      have hown5 := hown.only2 ho5 hb3a hb3b
      have hz5 : w3.heap.size ≤ w5.heap.size := Nat.le_trans hz ho5.size
      unfold stepV evV
      generalize s.step t = st at *
      obtain ⟨e, x, s'⟩ := st
      dsimp only at *
      have HS5 := Lib.hid (hs5.later (below_alloc1 w5 (.cells #[.int .i64 x.thread, .int .i64 x.kind, .int .i64 x.obj, .bool x.fail] 50)))
      have HOK5 := Lib.hid hok5
      have HSP5 := Lib.hid hsp5
      have hbe : Below w.heap.size w (w5.alloc (.cells #[.int .i64 x.thread, .int .i64 x.kind, .int .i64 x.obj, .bool x.fail] 50)) := hb5.alloc hb5.size _
      clear hb hown ho5 hs5 hok5 hb5 HS d0 hsp5 HTW
      by_cases he : e = 0
      · subst he
        have HR2 : Hid (rep p F row = comb (es ++ [x]) (s'.run (row.drop (k + 1)))) := by
          show _ = _
          rw [HRP.out, HDR.out]
          exact HCO.out rfl
        clear HCE HCO
        go_wp2_with (at_builtin; refine wp_appendE rfl (.tmp 37) (.tmp 39) rfl w3.heap.size _ es rfl ((hown5.alloc _).alloc _) ⟨w5.heap.size + 1, 0, none⟩ rfl x (ev_new (w5.alloc (.cells #[.int .i64 x.thread, .int .i64 x.kind, .int .i64 x.obj, .bool x.fail] 50)) x _ _ (by simp)) (by omega) (by simp; omega) ?_; intro v7 w7 hown7 hb7)
        have hb7' : Below w3.heap.size (w5.alloc (.cells #[.int .i64 x.thread, .int .i64 x.kind, .int .i64 x.obj, .bool x.fail] 50)) w7 := ((Below.refl _ _).alloc (by simp; omega) _).trans hb7
        have HS7 := Lib.hid (HS5.out.below hb7' hb3a hb3b)
        have hw7 : Below w.heap.size w w7 := hbe.trans (hb7'.mono (by omega))
        have hz7 : w3.heap.size ≤ w7.heap.size := by have := hb7'.size; simp at this; omega
        clear hb7 hb7' hown5
        go_roundw
        case rel => exact ⟨k + 1, s', es ++ [x], by omega, by go_num, by simp; omega, HR2, HSP5, hown7, HS7.out, HOK5.out, hw7, hz7⟩
        case measure => simp [intOf]; omega
      · have q0 : (e != 0) = true := by simpa using he
        have HR2 : Hid (rep p F row = (e, [], none)) := by
          show _ = _
          rw [HRP.out, HDR.out]
          exact HCE.out he
        clear he HCE HCO
        go_wp2
        refine bodyPost_ret (v := .tuple #[.pointer none, .slice none 0 0, .int .i64 e]) (by simp [results, Try.results10, go_sem]) rfl ?_
        unfold RefReplayR
        rw [HR2.out]
        exact ⟨hbe, rfl⟩
    · obtain rfl : k = row.length := by omega
      have HR2 : Hid (rep p F row = (0, es, some s)) := by
        show _ = _
        rw [HRP.out, List.drop_length]
        exact comb_nil es s
      go_wp2
      refine bodyPost_ret (v := .tuple #[.pointer (some ⟨b, 0, none⟩), _, .int .i64 0]) (by simp [results, Try.results10, go_sem]; rfl) rfl ?_
      unfold RefReplayR
      rw [HR2.out]
      exact ⟨hb, b, tb, tcap, _, rfl, HS.out, HSP.out, OK.out, ownE_base hown (by have := hw3.size; omega)⟩

end Go.Proofs.Ytkjjbcgecnjniaa

/- RaceTells: of any program's row the races with what threads do next, and of any row those in it, are the document's. -/
namespace Go.Proofs.Ytkjjbcgecnjniaa
open Go.RowKit

theorem rev4_len (l : List Ev) (h : l.length ≤ 200) : (rev4 l).length ≤ 40000 := by
  unfold rev4
  split
  · have h1 := revTo_len l l.length
    have h2 : l.length * l.length ≤ 200 * 200 := Nat.mul_le_mul h h
    unfold revL
    omega
  · exact Nat.zero_le _
theorem races_len4 (nx : Int → Option Ev) (l : List Ev) (n : Nat) (h : l.length ≤ 200) (hn : n ≤ 4) : (racesN nx (okL l) n).length ≤ 800 := by
  have h1 := racesN_len nx (okL l) n
  have h2 := okL_len l
  have h3 : n * (okL l).length ≤ 4 * 200 := Nat.mul_le_mul hn (by omega)
  omega

set_option maxRecDepth 100000 in
set_option maxHeartbeats 8000000 in
theorem raceTells_any (p : Pg) (a : Option Addr) (cap : Nat) (fuel : Int) (ra : Option Addr) (row : List Int) (rcap : Nat) (ea : Option Addr) (l : List Ev) (ecap : Nat) (w : World) (hp : ThreadsAt w a p.threads) (hrow : NumsAt w ra row) (hl : EvsAt w ea l) (hcap : l.length ≤ ecap) :
    Calls Try.prog 3 #[.agg #[.int .i64 p.vars, .int .i64 p.mutexes, .slice a p.threads.length cap], .int .i64 fuel, .slice ra row.length rcap, .slice ea l.length ecap] w fun r w' => r = .returned (.bool true) ∧ Below w.heap.size w w' := by
  have hrm := hrow.1
  have hlm := hl.1
  unfold maxLen at hrm hlm
  have HP := Lib.hid hp
  have HROW := Lib.hid hrow
  have HL := Lib.hid hl
  clear hp hrow hl
  go_enter Try.func3, Try.ntmps3
  go_wp2_with fail
  refine (awake7_any _).mono ?_
  rintro r w1 ⟨rfl, hb1⟩
  have hc1 : ∀ o, w1.cell? ⟨w.heap.size, o, none⟩ = (w.alloc (.cells #[.int .i64 p.vars, .int .i64 p.mutexes, .slice a p.threads.length cap] 24)).cell? ⟨w.heap.size, o, none⟩ := fun o => hb1.cell (p := ⟨w.heap.size, o, none⟩) (by simp)
  have hw1 : Below w.heap.size w w1 := (below_alloc1 w _).trans (hb1.mono (by simp))
  have hz1 : w.heap.size < w1.heap.size := by have := hb1.size; simp at this; omega
  clear hb1
  go_wp2_with fail
  refine (few_any p a cap w1 (HP.out.later hw1)).mono ?_
  rintro r w2 ⟨rfl, hb2⟩
  have hc2 : ∀ o, w2.cell? ⟨w.heap.size, o, none⟩ = w1.cell? ⟨w.heap.size, o, none⟩ := fun o => hb2.cell (p := ⟨w.heap.size, o, none⟩) hz1
  have hw2 : Below w.heap.size w w2 := hw1.trans (hb2.mono hw1.size)
  have hz2 : w.heap.size < w2.heap.size := by have := hb2.size; omega
  clear hb2
  cases hf : fewPg p
  · clear hf hc1 hc2
    go_wp2_with fail
    refine (awake7_any _).mono ?_
    rintro r w3 ⟨rfl, hb3⟩
    have hw3 : Below w.heap.size w w3 := hw2.trans (hb3.mono hw2.size)
    go_wp2
    go_ret
    exact ⟨rfl, hw3⟩
  clear hf
  by_cases hN : 40 < row.length
  · clear hc1 hc2
    go_wp2_with fail
    refine (awake7_any _).mono ?_
    rintro r w3 ⟨rfl, hb3⟩
    have hw3 : Below w.heap.size w w3 := hw2.trans (hb3.mono hw2.size)
    go_wp2
    go_ret
    exact ⟨rfl, hw3⟩
  by_cases hM : 40 < l.length
  · clear hc1 hc2
    go_wp2_with fail
    refine (awake7_any _).mono ?_
    rintro r w3 ⟨rfl, hb3⟩
    have hw3 : Below w.heap.size w w3 := hw2.trans (hb3.mono hw2.size)
    go_wp2
    go_ret
    exact ⟨rfl, hw3⟩
  have c0 : w2.cell? ⟨w.heap.size, 0, none⟩ = some (.int .i64 p.vars) := by rw [hc2, hc1]; simp
  have c1 : w2.cell? ⟨w.heap.size, 1, none⟩ = some (.int .i64 p.mutexes) := by rw [hc2, hc1]; simp
  have c2 : w2.cell? ⟨w.heap.size, 2, none⟩ = some (.slice a p.threads.length cap) := by rw [hc2, hc1]; simp
  have HK : Hid (∀ w', Below w2.heap.size w2 w' → w'.cell? ⟨w.heap.size, 0, none⟩ = some (.int .i64 p.vars) ∧ w'.cell? ⟨w.heap.size, 1, none⟩ = some (.int .i64 p.mutexes) ∧ w'.cell? ⟨w.heap.size, 2, none⟩ = some (.slice a p.threads.length cap)) := fun w' h => ⟨cell_later h c0, cell_later h c1, cell_later h c2⟩
  clear hc1 hc2
  go_wp2_with fail
  refine (replay_any p a cap fuel ra rcap row w2 (HP.out.later hw2) (HROW.out.later hw2) (by omega)).mono ?_
  rintro r w3 ⟨hb3, hmt⟩
  clear c0 c1 c2
  obtain ⟨c0, c1, c2⟩ := HK.out w3 hb3
  have HW3 := Lib.hid (hw2.trans (hb3.mono hw2.size))
  have HRR := Lib.hid (refReplay_any p a cap fuel ra rcap row w3 (HP.out.later HW3.out) (HROW.out.later HW3.out) (by omega))
  have HREV : Hid (∀ W, Below w.heap.size w W → Calls Try.prog 13 #[.slice ea l.length ecap] W (RevR l W)) := fun W h => reversible_any ea ecap l W (HL.out.later h) (by omega)
  have HRRV : Hid (∀ W, Below w.heap.size w W → Calls Try.prog 14 #[.slice ea l.length ecap] W (RefRevR l W)) := fun W h => refReversible_any ea ecap l W (HL.out.later h) hcap (by omega)
  have hvl := rev4_len l (by omega)
  have hsz3 : w2.heap.size ≤ w3.heap.size := hb3.size
  unfold RefReplayR at HRR
  unfold RevR at HREV
  unfold RefRevR at HRRV
  clear hb3 hw1 hw2 HK
  rcases hrep : rep p fuel row with ⟨e, es, _ | s⟩
  · have q0 : (e == 0) = false := by simpa using rep_none hrep
    have q1 : (e != 0) = true := by simpa using rep_none hrep
    have qe : (e == e) = true := by simp
    have qn : (e != e) = false := by simp
    rw [hrep] at hmt HRR
    dsimp only at hmt HRR
    obtain rfl := hmt
    clear hrep
    generalize rev4 l = RV at *
    go_wp2_with fail
    refine HRR.out.mono ?_
    rintro r w4 ⟨hb4, rfl⟩
    have HW4 := Lib.hid (HW3.out.trans (hb4.mono HW3.out.size))
    clear HRR hb4 c0 c1 c2
    go_wp2_with fail
    refine (HREV.out w4 HW4.out).mono ?_
    rintro r w5 ⟨rv, rfl, hrv, hb5⟩
    obtain ⟨a5, c5, rfl, h5, _⟩ := hrv.form rcCell_len (by omega)
    have HW5 := Lib.hid (HW4.out.trans (hb5.mono HW4.out.size))
    clear hrv hb5
    go_wp2_with fail
    refine (like_any a5 c5 RV w5 h5 (by omega)).mono ?_
    rintro r w6 ⟨rv, rfl, hrv, hb6⟩
    obtain ⟨a6, c6, rfl, h6, _⟩ := hrv.form rcCell_len (by omega)
    have HW6 := Lib.hid (HW5.out.trans (hb6.mono HW5.out.size))
    clear hrv hb6 h5
    go_wp2_with fail
    refine (HRRV.out w6 HW6.out).mono ?_
    rintro r w7 ⟨rv, rfl, hrv, hb7⟩
    obtain ⟨a7, c7, rfl, h7, _⟩ := hrv.form rcCell_len (by omega)
    have HW7 := Lib.hid (HW6.out.trans (hb7.mono HW6.out.size))
    have h67 := h6.later hb7
    clear hrv hb7 h6
    go_wp2_with fail
    refine (refSame7_any a6 a7 c6 c7 RV w7 h67 h7 (by omega)).mono ?_
    rintro r w8 ⟨rfl, hb8⟩
    have HW8 := Lib.hid (HW7.out.trans (hb8.mono HW7.out.size))
    clear hb8 h67 h7
    go_wp2
    go_ret
    exact ⟨rfl, HW8.out⟩
  · obtain ⟨rfl, _, _⟩ := rep_some hrep
    have hel := rep_len hrep
    rw [hrep] at hmt HRR
    dsimp only at hmt HRR
    obtain ⟨g, v, rfl, hg, hs, ok, ho⟩ := hmt
    obtain ⟨av, cv, rfl, hE⟩ := OwnE.form ho (by omega)
    have HS := Lib.hid hs
    have OK := Lib.hid ok
    have HE := Lib.hid hE
    have h4 := ok.len4
    clear hs ok ho hE hrep
    generalize rev4 l = RV at *
    go_wp2_with fail
    refine HRR.out.mono ?_
    rintro r w4 ⟨hb4, rb, tb, tcap, v2, rfl, hrs, hsp, hrok, ho2⟩
    obtain ⟨av2, cv2, rfl, hE2⟩ := OwnE.form ho2 (by omega)
    have HW4 := Lib.hid (HW3.out.trans (hb4.mono HW3.out.size))
    have HS4 := Lib.hid (HS.out.later hb4)
    have HE4 := Lib.hid (HE.out.later hb4)
    have HRS := Lib.hid hrs
    have HTH : Hid (∀ W, Below w4.heap.size w4 W → ThreadsAt W a s.p.threads) := fun W h => by rw [hsp]; exact HP.out.later (HW4.out.trans (h.mono HW4.out.size))
    have HF2 := Lib.hid hE2
    have ROK := Lib.hid hrok
    clear HRR hb4 c0 c1 c2 HS HE hrs hsp hrok ho2 hE2
    go_wp2_with fail
    refine (HREV.out w4 HW4.out).mono ?_
    rintro r w5 ⟨rv, rfl, hrv, hb5⟩
    obtain ⟨a5, c5, rfl, h5, _⟩ := hrv.form rcCell_len (by omega)
    have HD5 := Lib.hid hb5
    clear hrv hb5
    go_wp2_with fail
    refine (like_any a5 c5 RV w5 h5 (by omega)).mono ?_
    rintro r w6 ⟨rv, rfl, hrv, hb6⟩
    obtain ⟨a6, c6, rfl, h6, _⟩ := hrv.form rcCell_len (by omega)
    have HD6 := Lib.hid (HD5.out.trans (hb6.mono HD5.out.size))
    clear hrv hb6 h5 HD5
    go_wp2_with fail
    refine (HRRV.out w6 (HW4.out.trans (HD6.out.mono HW4.out.size))).mono ?_
    rintro r w7 ⟨rv, rfl, hrv, hb7⟩
    obtain ⟨a7, c7, rfl, h7, _⟩ := hrv.form rcCell_len (by omega)
    have HD7 := Lib.hid (HD6.out.trans (hb7.mono HD6.out.size))
    have h67 := h6.later hb7
    clear hrv hb7 h6 HD6
    go_wp2_with fail
    refine (refSame7_any a6 a7 c6 c7 RV w7 h67 h7 (by omega)).mono ?_
    rintro r w8 ⟨rfl, hb8⟩
    have HD8 := Lib.hid (HD7.out.trans (hb8.mono HD7.out.size))
    clear hb8 h67 h7 HD7
    go_wp2_with fail
    refine (races_st (HS4.out.later HD8.out) OK.out h4 av cv es (HE4.out.later HD8.out) (by omega)).mono ?_
    rintro r w9 ⟨rv, rfl, hrv, hb9⟩
    have hlA := races_len4 s.next es s.ts.length (by omega) h4
    generalize hRA : racesN s.next (okL es) s.ts.length = RA at *
    have HRA := Lib.hid hRA
    obtain ⟨a9, c9, rfl, h9, _⟩ := hrv.form rcCell_len (by omega)
    have HD9 := Lib.hid (HD8.out.trans (hb9.mono HD8.out.size))
    clear hrv hb9 HD8 hRA
    go_wp2_with fail
    refine (like_any a9 c9 RA w9 h9 (by omega)).mono ?_
    rintro r w10 ⟨rv, rfl, hrv, hb10⟩
    obtain ⟨a10, c10, rfl, h10, _⟩ := hrv.form rcCell_len (by omega)
    have HD10 := Lib.hid (HD9.out.trans (hb10.mono HD9.out.size))
    clear hrv hb10 h9 HD9
    go_wp2_with fail
    refine (refRaces_any (HRS.out.later HD10.out) (HTH.out w10 HD10.out) ROK.out av2 cv2 es (HF2.out.later HD10.out) (by omega)).mono ?_
    rintro r w11 ⟨rv, rfl, hrv, hb11⟩
    rw [HRA.out] at hrv
    obtain ⟨a11, c11, rfl, h11, _⟩ := hrv.form rcCell_len (by omega)
    have HD11 := Lib.hid (HD10.out.trans (hb11.mono HD10.out.size))
    have h1011 := h10.later hb11
    clear hrv hb11 h10 HD10
    go_wp2_with fail
    refine (refSame7_any a10 a11 c10 c11 RA w11 h1011 h11 (by omega)).mono ?_
    rintro r w12 ⟨rfl, hb12⟩
    have HD12 := Lib.hid (HD11.out.trans (hb12.mono HD11.out.size))
    clear hb12 h1011 h11 HD11 HRA hlA
    go_wp2_with fail
    refine (races_st (HS4.out.later HD12.out) OK.out h4 ea ecap l (HL.out.later (HW4.out.trans (HD12.out.mono HW4.out.size))) (by omega)).mono ?_
    rintro r w13 ⟨rv, rfl, hrv, hb13⟩
    have hlB := races_len4 s.next l s.ts.length (by omega) h4
    generalize hRB : racesN s.next (okL l) s.ts.length = RB at *
    have HRB := Lib.hid hRB
    obtain ⟨a13, c13, rfl, h13, _⟩ := hrv.form rcCell_len (by omega)
    have HD13 := Lib.hid (HD12.out.trans (hb13.mono HD12.out.size))
    clear hrv hb13 HD12 hRB
    go_wp2_with fail
    refine (like_any a13 c13 RB w13 h13 (by omega)).mono ?_
    rintro r w14 ⟨rv, rfl, hrv, hb14⟩
    obtain ⟨a14, c14, rfl, h14, _⟩ := hrv.form rcCell_len (by omega)
    have HD14 := Lib.hid (HD13.out.trans (hb14.mono HD13.out.size))
    clear hrv hb14 h13 HD13
    go_wp2_with fail
    refine (refRaces_any (HRS.out.later HD14.out) (HTH.out w14 HD14.out) ROK.out ea ecap l (HL.out.later (HW4.out.trans (HD14.out.mono HW4.out.size))) (by omega)).mono ?_
    rintro r w15 ⟨rv, rfl, hrv, hb15⟩
    rw [HRB.out] at hrv
    obtain ⟨a15, c15, rfl, h15, _⟩ := hrv.form rcCell_len (by omega)
    have HD15 := Lib.hid (HD14.out.trans (hb15.mono HD14.out.size))
    have h1415 := h14.later hb15
    clear hrv hb15 h14 HD14
    go_wp2_with fail
    refine (refSame7_any a14 a15 c14 c15 RB w15 h1415 h15 (by omega)).mono ?_
    rintro r w16 ⟨rfl, hb16⟩
    have HW16 := Lib.hid (HW4.out.trans ((HD15.out.trans (hb16.mono HD15.out.size)).mono HW4.out.size))
    clear hb16 h1415 h15 HD15 HRB hlB
    go_wp2
    go_ret
    exact ⟨rfl, HW16.out⟩

end Go.Proofs.Ytkjjbcgecnjniaa

/-
  RaceTells: of any program's row the races with what threads do next, and of any row those in it, are what the document says: the law answers true, and its arguments read as they did.
  For every input, whatever its size and however its parts share memory; nothing is asked of it but what the statement's own form asks.
-/
namespace Go.Proofs.Ytkjjbcgecnjniaa.raceTells
open Go.ChangeShapes Go.WideShapes Go.ChangeAt Go.RowKit

theorem own : ownKnob Try.prog.godebug = none := by kernel_rfl
theorem laidOut : laidOutB Try.prog = true := by kernel_rfl

set_option maxRecDepth 100000 in
theorem lifted (os : Os) (started : os.Started) (H : Type) (enc : TypeId × Value → H) :
    ReturnsInHanded {} Try.checked os 3 .any (Rows.raceTellsSpec.pre6 enc Try.prog Try.f3 Rows.raceTellsRow.domain false) (Rows.raceTellsSpec.post enc Try.prog Try.f3 false true false false) := by
  refine returnsInHanded_of_change (C := Try.checked) own started (by kernel_rfl) Try.func3
    (ChangeSpec.witness6 (enc := enc) (C := Try.checked) false ⟨#[], #[.agg #[.int .i64 0, .int .i64 0, .slice none 0 0], .int .i64 0, .slice none 0 0, .slice none 0 0], []⟩ 8 (by kernel_rfl) (by kernel_rfl) (by kernel_rfl) (by kernel_rfl)) ?_
  intro W base args ds gs before hval0 hW hcnd _
  have hval : ∀ (j : Nat) t v, Try.f3.params[j]? = some t → args[j]? = some v → Value.okWide Try.prog W .any base t v := hval0
  have hW' := hW
  obtain ⟨p, q, hA0, hV, rfl, hfz, hnd⟩ := hW
  have hA : DataW.TrodAll enc Try.prog W 0 (fun _ => true) true Try.f3.params.toList args.toList ds p := hA0
  rw [Try.params3] at hA hval
  obtain ⟨v0, vs0, d0, ds0, p0, q0, hargs, rfl, rfl, h0, r0⟩ := trodAll_cons hA
  obtain ⟨v1, vs1, d1, ds1, p1, q1, rfl, rfl, rfl, h1, r1⟩ := trodAll_cons r0
  obtain ⟨v2, vs2, d2, ds2, p2, q2, rfl, rfl, rfl, h2, r2⟩ := trodAll_cons r1
  obtain ⟨v3, vs3, d3, ds3, p3, q3, rfl, rfl, rfl, h3, r3⟩ := trodAll_cons r2
  obtain ⟨rfl, rfl, rfl⟩ := trodAll_nil r3
  obtain rfl : args = #[v0, v1, v2, v3] := by cases args; simp_all
  obtain ⟨rfl, rfl⟩ := trodVars_none hV
  have k0 := h0
  have lt0 : ∀ x ∈ p0, x.block < W.heap.size := by obtain ⟨m, hm⟩ := k0; exact DataW.trod_lt m _ _ _ hm
  have k1 := h1
  have lt1 : ∀ x ∈ p1, x.block < W.heap.size := by obtain ⟨m, hm⟩ := k1; exact DataW.trod_lt m _ _ _ hm
  have k2 := h2
  have lt2 : ∀ x ∈ p2, x.block < W.heap.size := by obtain ⟨m, hm⟩ := k2; exact DataW.trod_lt m _ _ _ hm
  have k3 := h3
  have lt3 : ∀ x ∈ p3, x.block < W.heap.size := by obtain ⟨m, hm⟩ := k3; exact DataW.trod_lt m _ _ _ hm
  obtain ⟨pg0, a0, cap0, rfl, hx0, _⟩ := prog_of_trod (hval 0 24 v0 rfl rfl) h0
  obtain ⟨n1, rfl, hx1⟩ := int_of_trod (hval 1 3 v1 rfl rfl) h1
  obtain ⟨a2, ns2, cap2, rfl, hx2, _, hr2⟩ := nums_of_trod (hval 2 25 v2 rfl rfl) h2
  obtain ⟨a3, l3, cap3, rfl, hx3, hn3, hc3, hm3⟩ := evs2_of_trod (hval 3 26 v3 rfl rfl) h3
  clear hA0 hval0
  refine (raceTells_any pg0 a0 cap0 n1 a2 ns2 cap2 a3 l3 cap3 W hx0 hx2 hx3 hc3).mono fun e W' ⟨he, bel⟩ => ?_
  subst he
  exact ⟨_, rfl, _, _, _, [], _, [], hW', trodAll_mk1 (shut_bool Try.underlying4 _), (trodAll_cons_mk (Below.trod laidOut (by kernel_rfl) (of_decide_eq_true (by kernel_rfl)) k0 bel lt0) (trodAll_cons_mk (Below.trod laidOut (by kernel_rfl) (of_decide_eq_true (by kernel_rfl)) k1 bel lt1) (trodAll_cons_mk (Below.trod laidOut (by kernel_rfl) (of_decide_eq_true (by kernel_rfl)) k2 bel lt2) (trodAll_cons_mk (Below.trod laidOut (by kernel_rfl) (of_decide_eq_true (by kernel_rfl)) k3 bel lt3) trodAll_mk0)))), rfl, bel.frame _, fun h => by cases h⟩

theorem over : Rows.raceTellsRow.holds Try.pinned (OpenSpec.ofChange Rows.raceTellsSpec) :=
  OpenClaim.holds_of_wide 3 Try.f3 rfl rfl rfl rfl rfl rfl rfl ⟨rfl, rfl, rfl, rfl, rfl⟩ rfl rfl rfl rfl rfl (by kernel_rfl) Try.func3 (by kernel_rfl)
    (of_decide_eq_true (by kernel_rfl)) (by unfold Func.isWrapper; first | (rw [if_pos (by decide +kernel)]; kernel_rfl) | (rw [if_neg (by decide +kernel)]; exact ⟨rfl, rfl⟩))
    (fun os started H enc _ => lifted os started H enc)

theorem proved : Rows.RaceTellsSaid := over
end Go.Proofs.Ytkjjbcgecnjniaa.raceTells
