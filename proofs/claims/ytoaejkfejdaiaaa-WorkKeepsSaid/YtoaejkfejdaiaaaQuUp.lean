/- The contract of the library's up, over an end. -/
import Derived.Test.YtoaejkfejdaiaaaQuSwap
namespace Go.Proofs.Ytoaejkfejdaiaaa
open Go.RowKit

def PosOk (p : Nat → Int) (l : List Nat) : Prop := ∀ j, j < l.length → p (l.getD j 0) = j
/-- What moves within a row leave. -/
structure MvR (B b : Nat) (pre : Nat → Txt) (ids : List Nat) (vs : Nat → Value) (pl : Nat → Nat → Int) (ls : Nat → List Nat) (s n : Nat) (w : World) (pl' : Nat → Nat → Int) (l' : List Nat) (w' : World) : Prop where
  qr : QR w' B b pre ids vs pl' (updF ls s l')
  perm : l'.Perm (ls s)
  pos : PosOk (pl' s) l'
  oth : ∀ t, t ≠ s → pl' t = pl t
  rest : ∀ k, n ≤ k → l'.getD k 0 = (ls s).getD k 0
  only : OnlyS (QS b ids vs) w w'
theorem getD_inj {l : List Nat} (h : l.Nodup) {i j : Nat} (hi : i < l.length) (hj : j < l.length) (e : l.getD i 0 = l.getD j 0) : i = j := by
  simp only [List.getD, List.getElem?_eq_getElem hi, List.getElem?_eq_getElem hj, Option.getD_some] at e
  exact (List.getElem_inj h).1 e
section
variable {w w' w'' : World} {B b : Nat} {pre : Nat → Txt} {ids : List Nat} {vs : Nat → Value} {pl pl' : Nat → Nat → Int} {ls : Nat → List Nat} {s n : Nat} {l' : List Nat}
theorem MvR.refl (q : QR w B b pre ids vs pl ls) (hp : PosOk (pl s) (ls s)) : MvR B b pre ids vs pl ls s n w pl (ls s) w :=
  ⟨by rw [updF_id]; exact q, List.Perm.refl _, hp, fun _ _ => rfl, fun _ _ => rfl, OnlyS.refl _ _⟩
theorem MvR.later (m : MvR B b pre ids vs pl ls s n w pl' l' w') (hb : Below w'.heap.size w' w'') : MvR B b pre ids vs pl ls s n w pl' l' w'' :=
  ⟨m.qr.later hb, m.perm, m.pos, m.oth, m.rest, m.only.trans (OnlyS.of_below hb)⟩
theorem MvR.nodup (m : MvR B b pre ids vs pl ls s n w pl' l' w') (h : (ls s).Nodup) : l'.Nodup := m.perm.nodup_iff.2 h
theorem MvR.len (m : MvR B b pre ids vs pl ls s n w pl' l' w') : l'.length = (ls s).length := m.perm.length_eq
theorem MvR.swap (m : MvR B b pre ids vs pl ls s n w pl' l' w') (_hs : s < 2) (hd : (ls s).Nodup) {i k : Nat} (hi : i < l'.length) (hk : k < l'.length) (hin : i < n) (hkn : k < n)
    (q : QR w'' B b pre ids vs (plPut (plPut pl' s (l'.getD k 0) i) s (l'.getD i 0) k) (updF (updF ls s l') s (swpL l' i k))) (o : OnlyS (QS b ids vs) w' w'') :
    MvR B b pre ids vs pl ls s n w (plPut (plPut pl' s (l'.getD k 0) i) s (l'.getD i 0) k) (swpL l' i k) w'' := by
  rw [updF_upd] at q
  have hd' := m.nodup hd
  refine ⟨q, (swpL_perm hi hk).trans m.perm, fun j hj => ?_, fun t ht => ?_, fun j hj => ?_, m.only.trans o⟩
  · rw [swpL_len] at hj
    rw [swpL_get hi hk]
    unfold plPut
    rw [updF_same, updF_same]
    by_cases e1 : j = i
    · subst e1
      rw [swpF_l]
      by_cases e2 : l'.getD k 0 = l'.getD j 0
      · have := getD_inj hd' hk hj e2
        rw [e2, updF_same, this]
      · rw [updF_ne _ _ e2, updF_same]
    · by_cases e2 : j = k
      · subst e2
        rw [swpF_r, updF_same]
      · rw [swpF_ne e1 e2, updF_ne _ _ (fun e => e1 (getD_inj hd' hj hi e)), updF_ne _ _ (fun e => e2 (getD_inj hd' hj hk e))]
        exact m.pos j hj
  · unfold plPut
    rw [updF_ne _ _ ht, updF_ne _ _ ht]
    exact m.oth t ht
  · rw [swpL_get hi hk, swpF_ne (by omega) (by omega)]
    exact m.rest j hj
/-- A heap's end, as the library has it. -/
abbrev endI (b s : Nat) : Value := .iface 67 (endV b s)
theorem meth_len (b s N : Nat) (w : World) (h : 0 < N) : Sem.run Try.prog (method N 67 (endV b s) "Len") w = .ok (55, endV b s) w := by
  cases N with
  | zero => omega
  | succ N => kernel_rfl
theorem meth_less (b s N : Nat) (w : World) (h : 0 < N) : Sem.run Try.prog (method N 67 (endV b s) "Less") w = .ok (56, endV b s) w := by
  cases N with
  | zero => omega
  | succ N => kernel_rfl
theorem meth_swap (b s N : Nat) (w : World) (h : 0 < N) : Sem.run Try.prog (method N 67 (endV b s) "Swap") w = .ok (59, endV b s) w := by
  cases N with
  | zero => omega
  | succ N => kernel_rfl
theorem meth_push (b s N : Nat) (w : World) (h : 0 < N) : Sem.run Try.prog (method N 67 (endV b s) "Push") w = .ok (58, endV b s) w := by
  cases N with
  | zero => omega
  | succ N => kernel_rfl
theorem meth_pop (b s N : Nat) (w : World) (h : 0 < N) : Sem.run Try.prog (method N 67 (endV b s) "Pop") w = .ok (57, endV b s) w := by
  cases N with
  | zero => omega
  | succ N => kernel_rfl
set_option maxRecDepth 100000 in
set_option maxHeartbeats 2000000 in
theorem up_any (q : QR w B b pre ids vs pl ls) (hs : s < 2) (hd : (ls s).Nodup) (hp : PosOk (pl s) (ls s)) (hn : n ≤ (ls s).length) {j : Nat} (hj : j < n) (hu : UpF (ltQ pre s) n (fun k => (ls s).getD k 0) j) :
    Calls Try.prog 37 #[endI b s, .int .i64 j] w fun r w' => r = .returned (.tuple #[]) ∧ ∃ pl' l', MvR B b pre ids vs pl ls s n w pl' l' w' ∧ HeapF (ltQ pre s) n (fun k => l'.getD k 0) := by
  have HM0 : Hid (MvR B b pre ids vs pl ls s n w pl (ls s) w) := MvR.refl q hp
  have HU0 := Lib.hid hu
  have hlen := q.len s hs
  have HD := Lib.hid hd
  have hml := meth_less b s
  have hms := meth_swap b s
  clear q hp hu hd
  go_enter Try.func37, Try.ntmps37
  go_wp2_with fail
  go_loopw [1, 4] (fun tj ti wr => ∃ (k : Nat) (pl' : Nat → Nat → Int) (l' : List Nat), k < n ∧ tj = .int .i64 k ∧ Hid (MvR B b pre ids vs pl ls s n w pl' l' wr) ∧ Hid (UpF (ltQ pre s) n (fun k => l'.getD k 0) k)) (fun tj ti _ => (intOf tj).toNat)
  case atStart => exact ⟨j, pl, ls s, hj, rfl, HM0, HU0⟩
  case round =>
    clear HM0 HU0
    obtain ⟨k, pl', l', hk, rfl, HM, HU⟩ := hrel
    have hkl : k < l'.length := by rw [HM.out.len]; omega
    obtain ⟨p, hpe⟩ : ∃ p, p = (k - 1) / 2 := ⟨_, rfl⟩
    have hdiv : ((k : Int) - 1).tdiv 2 = (p : Nat) := by
      subst hpe
      by_cases h0 : k = 0
      · subst h0; decide
      · rw [Int.tdiv_eq_ediv_of_nonneg (by omega)]; omega
    have hdw : IntKind.i64.wrap (p : Int) = p := IntWalk.i64_in _ (by omega)
    by_cases h0 : k = 0
    · subst h0
      obtain rfl : p = 0 := by omega
      have HH := Lib.hid (up_zero HU.out)
      clear hpe
      go_wp2
      refine bodyPost_end (results_none rfl _ _ _) rfl ⟨rfl, pl', l', HM.out, HH.out⟩
    · have hpk : p < k := by omega
      have hpl : p < l'.length := by omega
      have q0 : ((p : Int) == (k : Int)) = false := by rw [beq_eq_false_iff_ne]; omega
      have HL := Lib.hid (endLess_any HM.out.qr hs (i := k) (k := p) (by rw [updF_same]; exact hkl) (by rw [updF_same]; exact hpl))
      rw [updF_same] at HL
      clear h0
      have HPE := Lib.hid hpe
      clear hpe
      go_wp2_with fail
      refine HL.out.mono ?_
      rintro r w2 ⟨rfl, hb2⟩
      cases hq : ltQ pre s (l'.getD k 0) (l'.getD p 0)
      · have HH : Hid (HeapF (ltQ pre s) n (fun k => l'.getD k 0)) := up_exit HU.out (by rw [← HPE.out]; exact hq)
        have HM2 := Lib.hid (HM.out.later hb2)
        clear hq
        go_wp2
        refine bodyPost_end (results_none rfl _ _ _) rfl ⟨rfl, pl', l', HM2.out, HH.out⟩
      · have HM2 := Lib.hid (HM.out.later hb2)
        have HS := Lib.hid (endSwap_any HM2.out.qr hs (i := p) (k := k) (by rw [updF_same]; exact hpl) (by rw [updF_same]; exact hkl))
        rw [updF_same] at HS
        have HU2 : Hid (UpF (ltQ pre s) n (fun x => (swpL l' p k).getD x 0) p) := by
          have h := up_step (ltQ_ord pre s) HU.out (by omega) hk (by rw [← HPE.out]; exact hq)
          rw [← HPE.out] at h
          exact upF_congr (by omega) h fun x _ => (swpL_get hpl hkl x).symm
        have HMS := Lib.hid (fun w3 q3 o3 => HM2.out.swap (w'' := w3) hs HD.out hpl hkl (by omega) hk q3 o3)
        clear hq
        go_wp2_with fail
        refine HS.out.mono ?_
        rintro r w3 ⟨rfl, q3, o3⟩
        have HM3 := Lib.hid (HMS.out w3 q3 o3)
        clear q3 o3
        go_wp2_with fail
        go_roundw
        case rel => exact ⟨p, _, _, by omega, rfl, HM3, HU2⟩
        case measure => simp [intOf]; omega
end

end Go.Proofs.Ytoaejkfejdaiaaa
