/- The contracts of move and of a queue's calls. -/
import Derived.Test.YtoaejkfejdaiaaaQuMove
namespace Go.Proofs.Ytoaejkfejdaiaaa
open Go.RowKit

/-- A queue: two heaps of the same items. -/
structure QOk (w : World) (B b : Nat) (pre : Nat → Txt) (ids : List Nat) (vs : Nat → Value) (pl : Nat → Nat → Int) (ls : Nat → List Nat) : Prop where
  qr : QR w B b pre ids vs pl ls
  ok : ∀ s, s < 2 → SideOk pre (pl s) (ls s) s
  perm : (ls 0).Perm (ls 1)
section
variable {w w' w'' : World} {B b : Nat} {pre : Nat → Txt} {ids : List Nat} {vs : Nat → Value} {pl pl1 pl2 : Nat → Nat → Int} {ls : Nat → List Nat} {s t : Nat}
theorem QOk.both (q : QOk w B b pre ids vs pl ls) (hs : s < 2) (ht : t < 2) : (ls s).Perm (ls t) := by
  rcases two hs with rfl | rfl <;> rcases two ht with rfl | rfl
  · exact List.Perm.refl _
  · exact q.perm
  · exact q.perm.symm
  · exact List.Perm.refl _
/-- What move leaves. -/
def MoveR (B b : Nat) (pre : Nat → Txt) (ids : List Nat) (vs : Nat → Value) (ls : Nat → List Nat) (s x : Nat) (w w' : World) : Prop :=
  ∃ vs' pl' ls', QOk w' B b pre ids vs' pl' ls' ∧ (x :: ls' s).Perm (ls s) ∧ OnlyS (QS b ids vs) w w' ∧ ∀ y, QS b ids vs' y ↔ QS b ids vs y
theorem qs_same {v' : Value} (hs : s < 2) (hv : v'.ownBlock = (vs s).ownBlock) {y : Nat} : QS b ids (updF vs s v') y ↔ QS b ids vs y := by
  have key : ∀ t, (updF vs s v' t).ownBlock = (vs t).ownBlock := fun t => by
    by_cases e : t = s
    · subst e; rw [updF_same]; exact hv
    · rw [updF_ne _ _ e]
  unfold QS
  rw [key, key]
theorem move_mk (q : QOk w B b pre ids vs pl ls) (hs : s < 2) (ht : t < 2) (hst : s ≠ t) {x : Nat} {v1 v2 : Value} {l1 l2 : List Nat} (q2 : QR w' B b pre ids (updF (updF vs s v1) t v2) pl2 (updF (updF ls s l1) t l2)) (ok1 : SideOk pre (pl1 s) l1 s) (ok2 : SideOk pre (pl2 t) l2 t)
    (o2 : ∀ k, k ≠ t → pl2 k = pl1 k) (p1 : (x :: l1).Perm (ls s)) (p2 : (x :: l2).Perm ((updF ls s l1) t)) (e1 : v1.ownBlock = (vs s).ownBlock) (e2 : v2.ownBlock = (updF vs s v1 t).ownBlock) (o : OnlyS (QS b ids vs) w w') : MoveR B b pre ids vs ls s x w w' := by
  rw [updF_ne _ _ (Ne.symm hst)] at p2
  have hl : l1.Perm l2 := (p1.trans ((q.both hs ht).trans p2.symm)).cons_inv
  refine ⟨_, _, _, ⟨q2, fun k hk => ?_, ?_⟩, ?_, o, fun y => (qs_same ht e2).trans (qs_same hs e1)⟩
  · by_cases e : k = t
    · subst e; rw [updF_same]; exact ok2
    · obtain rfl : k = s := by omega
      rw [updF_ne _ _ e, updF_same, o2 k e]
      exact ok1
  · rcases two hs with rfl | rfl <;> rcases two ht with rfl | rfl
    · exact absurd rfl hst
    · rw [updF_same, updF_ne _ _ (by omega), updF_same]; exact hl
    · rw [updF_same, updF_ne _ _ (by omega), updF_same]; exact hl.symm
    · exact absurd rfl hst
  · rw [updF_ne _ _ hst, updF_same]; exact p1
set_option maxRecDepth 100000 in
set_option maxHeartbeats 2000000 in
theorem move_any (q : QOk w B b pre ids vs pl ls) (hs : s < 2) (ht : t < 2) (hst : s ≠ t) {m : Nat} (hm : (ls s).length = m + 1) :
    Calls Try.prog 30 #[.func (.func 31) #[endV b s] #[], .func (.func 32) #[endV b t] #[]] w fun r w' => r = .returned (.string ⟨(pre ((ls s).getD 0 0)).toArray⟩) ∧ MoveR B b pre ids vs ls s ((ls s).getD 0 0) w w' := by
  have HT := Lib.hid (take_any q.qr hs (q.ok s hs) hm)
  have hxm : (ls s).getD 0 0 ∈ ls t := (q.both hs ht).subset (getD_mem (by omega))
  obtain ⟨j, hj, hjx⟩ := mem_getD hxm
  have hmt : (ls t).length = m + 1 := by rw [← (q.both hs ht).length_eq, hm]
  have hxi := q.qr.sub t ht _ hxm
  have HD : Hid (∀ w2 v1 pl1 l1, QR w2 B b pre ids (updF vs s v1) pl1 (updF ls s l1) → (∀ k, k ≠ s → pl1 k = pl k) → Calls Try.prog 32 #[endV b t, .pointer (some ⟨(ls s).getD 0 0, 0, none⟩)] w2 fun r w' => r = .returned (.tuple #[]) ∧ HPopR B b pre ids (updF vs s v1) pl1 (updF ls s l1) t ((ls s).getD 0 0) w2 w') := fun w2 v1 pl1 l1 q2 ho => by
    refine drop_any q2 ht (by rw [updF_ne _ _ (Ne.symm hst), ho t (Ne.symm hst)]; exact q.ok t ht) (m := m) (j := j) (by rw [updF_ne _ _ (Ne.symm hst)]; exact hmt) (by omega) (by rw [updF_ne _ _ (Ne.symm hst)]; exact hjx)
  have Q := Lib.hid q
  have HXI := Lib.hid hxi
  clear hm hxm hj hjx hmt q hxi
  generalize (ls s).getD 0 0 = x0 at *
  go_enter Try.func30, Try.ntmps30
  go_wp2_with fail
  refine HT.out.mono ?_
  rintro r w2 ⟨rfl, v1, pl1, l1, q1, ok1, o1, p1, s1, e1⟩
  have HDD := Lib.hid (HD.out w2 v1 pl1 l1 q1 o1)
  have OK1 := Lib.hid ok1
  have P1 := Lib.hid p1
  have S1 := Lib.hid s1
  have E1 := Lib.hid e1
  clear q1 ok1 o1 p1 s1 e1
  go_wp2_with fail
  refine HDD.out.mono ?_
  rintro r w3 ⟨rfl, v2, pl2, l2, q2, ok2, o2, p2, s2, e2⟩
  have ct := (q2.cellI HXI.out).1
  have HR : Hid (MoveR B b pre ids vs ls s x0 w w3) := move_mk Q.out hs ht hst q2 OK1.out ok2 o2 P1.out p2 E1.out e2 (S1.out.thenS s2 fun y _ h => (qs_same hs E1.out).1 h)
  clear q2 ok2 o2 p2 s2 e2
  obtain ⟨tx, htx⟩ : ∃ tx, tx = pre x0 := ⟨_, rfl⟩
  have HTX := Lib.hid htx
  rw [← htx] at ct
  clear htx
  go_wp2
  go_ret
  exact ⟨by rw [← HTX.out]; rfl, HR.out⟩
/-- A queue that holds these texts, in these blocks. -/
def QU (w : World) (B b : Nat) (S : Nat → Prop) (T : List Txt) : Prop := ∃ pre ids vs pl ls, QOk w B b pre ids vs pl ls ∧ ((ls 0).map pre).Perm T ∧ ∀ x, QS b ids vs x ↔ S x
theorem QU.perm {S : Nat → Prop} {T T' : List Txt} (h : QU w B b S T) (p : T.Perm T') : QU w B b S T' := by
  obtain ⟨pre, ids, vs, pl, ls, q, h1, h2⟩ := h
  exact ⟨pre, ids, vs, pl, ls, q, h1.trans p, h2⟩
theorem QU.onlyS {S R : Nat → Prop} {T : List Txt} (h : QU w B b S T) (ho : OnlyS R w w') (hR : ∀ x, S x → ¬ R x) : QU w' B b S T := by
  obtain ⟨pre, ids, vs, pl, ls, q, h1, h2⟩ := h
  exact ⟨pre, ids, vs, pl, ls, ⟨q.qr.onlyS ho fun x hx => hR x ((h2 x).1 hx), q.ok, q.perm⟩, h1, h2⟩
theorem QU.later {S : Nat → Prop} {T : List Txt} (h : QU w B b S T) (hb : Below w.heap.size w w') : QU w' B b S T := by
  obtain ⟨pre, ids, vs, pl, ls, q, h1, h2⟩ := h
  exact ⟨pre, ids, vs, pl, ls, ⟨q.qr.later hb, q.ok, q.perm⟩, h1, h2⟩
theorem QU.kinds {S : Nat → Prop} {T : List Txt} (h : QU w B b S T) {x : Nat} (hx : S x) : B ≤ x ∧ ∃ c ty, w.heap[x]? = some (.cells c ty (0, 0)) ∧ (ty = 60 ∨ ty = 69 ∨ ty = 72) := by
  obtain ⟨pre, ids, vs, pl, ls, q, h1, h2⟩ := h
  exact q.qr.kinds ((h2 x).2 hx)
theorem QU.lt {S : Nat → Prop} {T : List Txt} (h : QU w B b S T) {x : Nat} (hx : S x) : x < w.heap.size := by
  obtain ⟨_, c, ty, e, _⟩ := h.kinds hx
  exact (Array.getElem?_eq_some_iff.1 e).1
theorem QU.low {S : Nat → Prop} {T : List Txt} (h : QU w B b S T) : B ≤ w.heap.size := by
  obtain ⟨pre, ids, vs, pl, ls, q, h1, h2⟩ := h
  exact q.qr.low
theorem QU.only {S : Nat → Prop} {T : List Txt} (h : QU w B b S T) {C : Nat} (hC : C ≤ B) (ho : OnlyS S w w') : Below C w w' := ho.below (Nat.le_trans hC h.low) fun _ hx => Nat.le_trans hC (h.kinds hx).1
/-- What a text taken from an end leaves: one that none is nearer to that end than. -/
def TakeR (B b : Nat) (S : Nat → Prop) (T : List Txt) (s : Nat) (w : World) (r : Ending) (w' : World) : Prop :=
  ∃ k T', r = .returned (.tuple #[.string ⟨k.toArray⟩, .bool true]) ∧ (k :: T').Perm T ∧ (∀ y ∈ T, (if s = 1 then aheadT k y else aheadT y k) = false) ∧ QU w' B b S T' ∧ OnlyS S w w'
theorem take_mk {S : Nat → Prop} {T : List Txt} (q : QOk w B b pre ids vs pl ls) (h1 : ((ls 0).map pre).Perm T) (h2 : ∀ x, QS b ids vs x ↔ S x) (hs : s < 2) (hm : MoveR B b pre ids vs ls s ((ls s).getD 0 0) w w') : TakeR B b S T s w (.returned (.tuple #[.string ⟨(pre ((ls s).getD 0 0)).toArray⟩, .bool true])) w' := by
  obtain ⟨vs', pl', ls', q', p, o, hq⟩ := hm
  refine ⟨_, (ls' 0).map pre, rfl, ?_, fun y hy => ?_, ⟨pre, ids, vs', pl', ls', q', List.Perm.refl _, fun x => (hq x).trans (h2 x)⟩, o.mono fun x _ hx => (h2 x).1 hx⟩
  · have p0 : ((ls s).getD 0 0 :: ls' 0).Perm (ls 0) := ((q'.both (t := s) (s := 0) (by omega) hs).cons _).trans (p.trans (q.both hs (by omega)))
    exact (p0.map pre).trans h1
  · obtain ⟨z, hz, rfl⟩ := List.mem_map.1 (h1.symm.subset hy)
    have := (q.ok s hs).top ((q.both (by omega) hs).subset hz)
    unfold ltQ at this
    exact this
set_option maxRecDepth 100000 in
theorem qLen_any {S : Nat → Prop} {T : List Txt} (h : QU w B b S T) : Calls Try.prog 26 #[.pointer (some ⟨b, 0, none⟩)] w fun r w' => r = .returned (.int .i64 T.length) ∧ w = w' := by
  obtain ⟨pre, ids, vs, pl, ls, q, h1, h2⟩ := h
  obtain ⟨a, cap, hv⟩ := q.qr.sliceV (s := 0) (by omega)
  have c0 := q.qr.cellB (s := 0) (by omega)
  have hl : (ls 0).length = T.length := by rw [← h1.length_eq, List.length_map]
  rw [hv, hl] at c0
  clear q hl h1 h2
  go_enter Try.func26, Try.ntmps26
  go_wp2
  go_ret
  exact ⟨rfl, rfl⟩
set_option maxRecDepth 100000 in
theorem qLen_nil (w : World) : Calls Try.prog 26 #[.pointer none] w fun r w' => r = .returned (.int .i64 0) ∧ w = w' := by
  go_enter Try.func26, Try.ntmps26
  go_wp2
  go_ret
  exact ⟨rfl, rfl⟩
set_option maxRecDepth 100000 in
set_option maxHeartbeats 1000000 in
theorem qPop_any {S : Nat → Prop} {T : List Txt} (h : QU w B b S T) (hT : T ≠ []) : Calls Try.prog 24 #[.pointer (some ⟨b, 0, none⟩)] w (TakeR B b S T 0 w) := by
  have HL := Lib.hid (qLen_any h)
  obtain ⟨pre, ids, vs, pl, ls, q, h1, h2⟩ := h
  have hTl : 0 < T.length := List.length_pos_iff.2 hT
  obtain ⟨m, hm⟩ : ∃ m, (ls 0).length = m + 1 := ⟨(ls 0).length - 1, by have := h1.length_eq; rw [List.length_map] at this; omega⟩
  have HM : Hid (Calls Try.prog 30 #[.func (.func 31) #[.agg #[.pointer (some ⟨b, 0, none⟩), .int .i64 0]] #[], .func (.func 32) #[.agg #[.pointer (some ⟨b, 0, none⟩), .int .i64 1]] #[]] w _) := move_any q (s := 0) (t := 1) (by omega) (by omega) (by omega) hm
  have HK := Lib.hid (fun w' hh => take_mk (s := 0) (w' := w') q h1 h2 (by omega) hh)
  have hn0 : ((T.length : Int) == 0) = false := by rw [beq_eq_false_iff_ne]; omega
  have hmf : ∀ (fn : Fn) (first cap : Array Value) (w : World), (Instr.makeFunc fn first cap).run Try.prog w = .ok (.func fn first cap) w := fun _ _ _ _ => rfl
  clear q h1 h2 hm hT
  generalize (ls 0).getD 0 0 = x0 at *
  generalize pre x0 = tx at *
  go_enter Try.func24, Try.ntmps24
  go_wp2_with fail
  refine HL.out.mono ?_
  rintro r w' ⟨rfl, rfl⟩
  go_wp2_with fail
  refine HM.out.mono ?_
  rintro r w' ⟨rfl, hr⟩
  have HR := Lib.hid (HK.out w' hr)
  clear hr
  go_wp2
  refine bodyPost_ret (v := .tuple #[.string ⟨tx.toArray⟩, .bool true]) (by simp [results, Try.results24, go_sem]) rfl ?_
  exact HR.out
set_option maxRecDepth 100000 in
set_option maxHeartbeats 1000000 in
theorem qSteal_any {S : Nat → Prop} {T : List Txt} (h : QU w B b S T) (hT : T ≠ []) : Calls Try.prog 25 #[.pointer (some ⟨b, 0, none⟩)] w (TakeR B b S T 1 w) := by
  have HL := Lib.hid (qLen_any h)
  obtain ⟨pre, ids, vs, pl, ls, q, h1, h2⟩ := h
  have hTl : 0 < T.length := List.length_pos_iff.2 hT
  obtain ⟨m, hm⟩ : ∃ m, (ls 1).length = m + 1 := ⟨(ls 1).length - 1, by have := h1.length_eq; rw [List.length_map] at this; have := q.perm.length_eq; omega⟩
  have HM : Hid (Calls Try.prog 30 #[.func (.func 31) #[.agg #[.pointer (some ⟨b, 0, none⟩), .int .i64 1]] #[], .func (.func 32) #[.agg #[.pointer (some ⟨b, 0, none⟩), .int .i64 0]] #[]] w _) := move_any q (s := 1) (t := 0) (by omega) (by omega) (by omega) hm
  have HK := Lib.hid (fun w' hh => take_mk (s := 1) (w' := w') q h1 h2 (by omega) hh)
  have hn0 : ((T.length : Int) == 0) = false := by rw [beq_eq_false_iff_ne]; omega
  have hmf : ∀ (fn : Fn) (first cap : Array Value) (w : World), (Instr.makeFunc fn first cap).run Try.prog w = .ok (.func fn first cap) w := fun _ _ _ _ => rfl
  clear q h1 h2 hm hT
  generalize (ls 1).getD 0 0 = x0 at *
  generalize pre x0 = tx at *
  go_enter Try.func25, Try.ntmps25
  go_wp2_with fail
  refine HL.out.mono ?_
  rintro r w' ⟨rfl, rfl⟩
  go_wp2_with fail
  refine HM.out.mono ?_
  rintro r w' ⟨rfl, hr⟩
  have HR := Lib.hid (HK.out w' hr)
  clear hr
  go_wp2
  refine bodyPost_ret (v := .tuple #[.string ⟨tx.toArray⟩, .bool true]) (by simp [results, Try.results25, go_sem]) rfl ?_
  exact HR.out
set_option maxRecDepth 100000 in
theorem qPop_none {S : Nat → Prop} (h : QU w B b S []) : Calls Try.prog 24 #[.pointer (some ⟨b, 0, none⟩)] w fun r w' => r = .returned (.tuple #[.string ⟨#[]⟩, .bool false]) ∧ w = w' := by
  have HL := Lib.hid (qLen_any h)
  clear h
  go_enter Try.func24, Try.ntmps24
  go_wp2_with fail
  refine HL.out.mono ?_
  rintro r w' ⟨rfl, rfl⟩
  go_wp2
  refine bodyPost_ret (v := .tuple #[.string ⟨#[]⟩, .bool false]) (by simp [results, Try.results24, go_sem]) rfl ?_
  exact ⟨rfl, rfl⟩
set_option maxRecDepth 100000 in
theorem qPop_nil (w : World) : Calls Try.prog 24 #[.pointer none] w fun r w' => r = .returned (.tuple #[.string ⟨#[]⟩, .bool false]) ∧ w = w' := by
  have HL := Lib.hid (qLen_nil w)
  go_enter Try.func24, Try.ntmps24
  go_wp2_with fail
  refine HL.out.mono ?_
  rintro r w' ⟨rfl, rfl⟩
  go_wp2
  refine bodyPost_ret (v := .tuple #[.string ⟨#[]⟩, .bool false]) (by simp [results, Try.results24, go_sem]) rfl ?_
  exact ⟨rfl, rfl⟩
set_option maxRecDepth 100000 in
theorem qSteal_none {S : Nat → Prop} (h : QU w B b S []) : Calls Try.prog 25 #[.pointer (some ⟨b, 0, none⟩)] w fun r w' => r = .returned (.tuple #[.string ⟨#[]⟩, .bool false]) ∧ w = w' := by
  have HL := Lib.hid (qLen_any h)
  clear h
  go_enter Try.func25, Try.ntmps25
  go_wp2_with fail
  refine HL.out.mono ?_
  rintro r w' ⟨rfl, rfl⟩
  go_wp2
  refine bodyPost_ret (v := .tuple #[.string ⟨#[]⟩, .bool false]) (by simp [results, Try.results25, go_sem]) rfl ?_
  exact ⟨rfl, rfl⟩
set_option maxRecDepth 100000 in
theorem qSteal_nil (w : World) : Calls Try.prog 25 #[.pointer none] w fun r w' => r = .returned (.tuple #[.string ⟨#[]⟩, .bool false]) ∧ w = w' := by
  have HL := Lib.hid (qLen_nil w)
  go_enter Try.func25, Try.ntmps25
  go_wp2_with fail
  refine HL.out.mono ?_
  rintro r w' ⟨rfl, rfl⟩
  go_wp2
  refine bodyPost_ret (v := .tuple #[.string ⟨#[]⟩, .bool false]) (by simp [results, Try.results25, go_sem]) rfl ?_
  exact ⟨rfl, rfl⟩
end

end Go.Proofs.Ytoaejkfejdaiaaa
