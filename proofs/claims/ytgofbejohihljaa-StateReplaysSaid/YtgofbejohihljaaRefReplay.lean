/- The contract of the document's Replay. -/
import Derived.Test.YtgofbejohihljaaRefStep
import Derived.Test.YtgofbejohihljaaRefNew
import Derived.Test.YtgofbejohihljaaReplay
namespace Go.Proofs.Ytgofbejohihljaa
open Go.RowKit

def RefReplayR (p : Pg) (a : Option Addr) (cap : Nat) (fuel : Int) (row : List Int) (w : World) (r : Ending) (w' : World) : Prop :=
  Below w.heap.size w w' ∧ match rep p fuel row with
  | (_, es, some s) => ∃ b tb tcap v, r = .returned (.tuple #[.pointer (some ⟨b, 0, none⟩), v, .int .i64 0]) ∧ RefAt w' b tb a cap tcap s ∧ s.p = p ∧ s.Ok fuel.toNat ∧ OwnE w' w.heap.size v es
  | (e, _, none) => r = .returned (.tuple #[.pointer none, .slice none 0 0, .int .i64 e])

theorem step_prog (s : St) (t : Int) : (s.step t).2.2.p = s.p := by
  rcases s.step_cases t with ⟨i, _, _, e⟩ | ⟨e, _, e'⟩
  · rw [e]; rfl
  · rw [e']
theorem OwnE.only2 {w w' : World} {B b c : Nat} {v : Value} {l : List Ev} (h : OwnE w B v l) (ho : Only2 b c w w') (hb : b < B) (hc : c < B) : OwnE w' B v l := by
  obtain ⟨h1, h2 | ⟨g, cap, cur, h2, h3, h4, h5⟩⟩ := h
  · exact ⟨h1, .inl h2⟩
  · exact ⟨h1, .inr ⟨g, cap, cur, h2, h3, (ho.block g (Array.getElem?_eq_some_iff.1 h4).1 (by omega) (by omega)).trans h4, h5⟩⟩
theorem RefAt.below {w w' : World} {b tb B : Nat} {a : Option Addr} {cap tcap : Nat} {s : St} (h : RefAt w b tb a cap tcap s) (hb : Below B w w') (h1 : b < B) (h2 : tb < B) : RefAt w' b tb a cap tcap s := by
  obtain ⟨g1, g0, cur, g2, g3⟩ := h
  exact ⟨(hb.block b h1).trans g1, g0, cur, (hb.block tb h2).trans g2, g3⟩

set_option maxRecDepth 100000 in
set_option maxHeartbeats 4000000 in
theorem refReplay_any (p : Pg) (a : Option Addr) (cap : Nat) (fuel : Int) (ra : Option Addr) (rcap : Nat) (row : List Int) (w : World) (hp : ThreadsAt w a p.threads) (hrow : NumsAt w ra row) (hr1000 : row.length ≤ 1000) :
    Calls Try.prog 29 #[.agg #[.int .i64 p.vars, .int .i64 p.mutexes, .slice a p.threads.length cap], .int .i64 fuel, .slice ra row.length rcap] w (RefReplayR p a cap fuel row w) := by
  have HP := Lib.hid hp
  have HROW := Lib.hid hrow
  clear hp hrow
  by_cases hgood : rightPg p = true ∧ 0 ≤ fuel ∧ fuel ≤ 8
  case neg =>
    have HRP : Hid (rep p fuel row = (1, [], none)) := by
      show _ = _
      unfold rep goodPg
      rw [if_neg]
      simpa using hgood
    have HGD := Lib.hid hgood
    clear hgood
    go_enter Try.func29, Try.ntmps29
    go_wp2_with fail
    refine (refNew_no p a cap fuel _ (HP.out.later (below_alloc1 w _)) HGD.out).mono ?_
    rintro r w3 ⟨rfl, hb3⟩
    have hw3 : Below w.heap.size w w3 := (below_alloc1 w _).trans (hb3.mono (by simp))
    clear hb3
    go_wp2
    refine bodyPost_ret (v := .tuple #[.pointer none, .slice none 0 0, .int .i64 1]) (by simp [results, Try.results29, go_sem]) rfl ?_
    unfold RefReplayR
    rw [HRP.out]
    exact ⟨hw3, rfl⟩
  obtain ⟨hr1, hf0, hf8⟩ := hgood
  obtain ⟨F, rfl⟩ : ∃ F : Nat, fuel = F := ⟨fuel.toNat, by omega⟩
  have HRP : Hid (rep p F row = comb [] ((St.new p F).run row)) := by
    show _ = _
    unfold rep goodPg
    rw [if_pos (by simp [hr1]; omega)]
    rfl
  have HR1 := Lib.hid hr1
  clear hr1
  go_enter Try.func29, Try.ntmps29
  go_wp2_with fail
  refine (refNew_yes p a cap F _ (HP.out.later (below_alloc1 w _)) HR1.out (by omega)).mono ?_
  rintro r w3 ⟨b, tb, tcap, rfl, hgb, hgt, hs, hb3⟩
  have hw3 : Below w.heap.size w w3 := (below_alloc1 w _).trans (hb3.mono (by simp))
  have hgb1 : w.heap.size ≤ b := by simp at hgb; omega
  have hgt1 : w.heap.size ≤ tb := by simp at hgt; omega
  obtain ⟨hb3a, hb3b⟩ := hs.lt
  have HS := Lib.hid hs
  have HOK := Lib.hid (new_ok HR1.out F (by omega))
  clear hs hb3 hgb hgt
  go_wp2_with fail
  go_loopw [10, 11] (fun l i wr => ∃ (k : Nat) (s : St) (es : List Ev), k ≤ row.length ∧ i = .int .i64 k ∧ es.length ≤ k ∧ Hid (rep p F row = comb es (s.run (row.drop k))) ∧ Hid (s.p = p) ∧ OwnE wr w3.heap.size l es ∧ RefAt wr b tb a cap tcap s ∧ s.Ok F ∧ Below w.heap.size w wr ∧ w3.heap.size ≤ wr.heap.size) (fun _ i _ => row.length - (intOf i).toNat)
  case atStart => exact ⟨0, _, [], Nat.zero_le _, rfl, Nat.zero_le _, HRP, rfl, ownE_nil _ _, HS.out, HOK.out, hw3, Nat.le_refl _⟩
  case round =>
    clear HS HOK HRP
    obtain ⟨k, s, es, hk, rfl, hel, HRP, HSP, hown, hs, ok, hb, hz⟩ := hrel
    have HS := Lib.hid hs
    have OK := Lib.hid ok
    clear hs ok
    by_cases hlt : k < row.length
    · obtain ⟨rb, ro, rfl, hc⟩ := HROW.out.2 (by intro e; simp [e] at hlt)
      have d0 := cell_later hb (hc k hlt)
      have hdr : row.drop k = row[k] :: row.drop (k + 1) := List.drop_eq_getElem_cons hlt
      have HDR := Lib.hid hdr
      have HTW : Hid (ThreadsAt wr a s.p.threads) := by rw [HSP.out]; exact HP.out.later hb
      clear hc hdr
      generalize row[k] = t at *
      go_wp2_with fail
      refine (refStep_any HS.out HTW.out OK.out t).mono ?_
      rintro r w5 ⟨rfl, hs5, ho5⟩
      have hok5 := OK.out.step_ok t
      have hsp5 := (step_prog s t).trans HSP.out
      have HCE := Lib.hid (comb_err es s t (row.drop (k + 1)))
      have HCO := Lib.hid (comb_ok es s t (row.drop (k + 1)))
      have hb5 := hb.trans (ho5.below hgb1 hgt1 hb.size)
      have hown5 := hown.only2 ho5 hb3a hb3b
      have hz5 : w3.heap.size ≤ w5.heap.size := Nat.le_trans hz ho5.size
      unfold stepV evV
      generalize s.step t = st at *
      obtain ⟨e, x, s'⟩ := st
      dsimp only at *
      have HS5 := Lib.hid (hs5.later (below_alloc1 w5 (.cells #[.int .i64 x.thread, .int .i64 x.kind, .int .i64 x.obj, .bool x.fail] 35)))
      have HOK5 := Lib.hid hok5
      have HSP5 := Lib.hid hsp5
      have hbe : Below w.heap.size w (w5.alloc (.cells #[.int .i64 x.thread, .int .i64 x.kind, .int .i64 x.obj, .bool x.fail] 35)) := hb5.alloc hb5.size _
      clear hb hown ho5 hs5 hok5 hb5 HS d0 hsp5 HTW
      by_cases he : e = 0
      · subst he
        have HR2 : Hid (rep p F row = comb (es ++ [x]) (s'.run (row.drop (k + 1)))) := by
          show _ = _
          rw [HRP.out, HDR.out]
          exact HCO.out rfl
        clear HCE HCO
        go_wp2_with (at_builtin; refine wp_appendE rfl (.tmp 37) (.tmp 39) rfl w3.heap.size _ es rfl ((hown5.alloc _).alloc _) ⟨w5.heap.size + 1, 0, none⟩ rfl x (ev_new (w5.alloc (.cells #[.int .i64 x.thread, .int .i64 x.kind, .int .i64 x.obj, .bool x.fail] 35)) x _ _ (by simp)) (by omega) (by simp; omega) ?_; intro v7 w7 hown7 hb7)
        have hb7' : Below w3.heap.size (w5.alloc (.cells #[.int .i64 x.thread, .int .i64 x.kind, .int .i64 x.obj, .bool x.fail] 35)) w7 := ((Below.refl _ _).alloc (by simp; omega) _).trans hb7
        have HS7 := Lib.hid (HS5.out.below hb7' hb3a hb3b)
        have hw7 : Below w.heap.size w w7 := hbe.trans (hb7'.mono (by omega))
        have hz7 : w3.heap.size ≤ w7.heap.size := by have := hb7'.size; simp at this; omega
        clear hb7 hb7' hown5
        go_roundw
        case rel => exact ⟨k + 1, s', es ++ [x], by omega, by go_num, by simp; omega, HR2, HSP5, hown7, HS7.out, HOK5.out, hw7, hz7⟩
        case measure => simp [intOf]; omega
      · have q0 : (e != 0) = true := by simpa using he
        have HR2 : Hid (rep p F row = (e, [], none)) := by
          show _ = _
          rw [HRP.out, HDR.out]
          exact HCE.out he
        clear he HCE HCO
        go_wp2
        refine bodyPost_ret (v := .tuple #[.pointer none, .slice none 0 0, .int .i64 e]) (by simp [results, Try.results29, go_sem]) rfl ?_
        unfold RefReplayR
        rw [HR2.out]
        exact ⟨hbe, rfl⟩
    · obtain rfl : k = row.length := by omega
      have HR2 : Hid (rep p F row = (0, es, some s)) := by
        show _ = _
        rw [HRP.out, List.drop_length]
        exact comb_nil es s
      go_wp2
      refine bodyPost_ret (v := .tuple #[.pointer (some ⟨b, 0, none⟩), _, .int .i64 0]) (by simp [results, Try.results29, go_sem]; rfl) rfl ?_
      unfold RefReplayR
      rw [HR2.out]
      exact ⟨hb, b, tb, tcap, _, rfl, HS.out, HSP.out, OK.out, ownE_base hown (by have := hw3.size; omega)⟩

end Go.Proofs.Ytgofbejohihljaa
