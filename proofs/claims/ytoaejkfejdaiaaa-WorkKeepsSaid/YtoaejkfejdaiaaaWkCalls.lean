/- The program's Push, Pop and Steal of work, told by lists in order. -/
import Derived.Test.YtoaejkfejdaiaaaWkGive
namespace Go.Proofs.Ytoaejkfejdaiaaa
open Go.RowKit

/-- Work that has these texts: of each worker a list in order; nothing twice. -/
structure WU (w : World) (B b n cnt : Nat) (S : Nat → Prop) (T : Nat → List Txt) : Prop where
  k : WK w B b n cnt S T (hasW n T) (totW n T)
  sort : ∀ j, j < n → SortT (T j)
  no : NoW n T
  short : ∀ j, j < n → ∀ s ∈ T j, s.length ≤ 1000
/-- What a call that changes it leaves. -/
def WUR (B b n cnt : Nat) (S : Nat → Prop) (T : Nat → List Txt) (w w' : World) : Prop := ∃ S', WU w' B b n cnt S' T ∧ OnlyS S w w' ∧ ∀ y, S' y → S y ∨ w.heap.size ≤ y
section
variable {w w' : World} {B b n cnt : Nat} {T : Nat → List Txt} {S : Nat → Prop}
theorem WU.later (h : WU w B b n cnt S T) (hb : Below w.heap.size w w') : WU w' B b n cnt S T := ⟨h.k.later hb, h.sort, h.no, h.short⟩
theorem WU.mono (h : WU w B b n cnt S T) {cnt' : Nat} (e : cnt ≤ cnt') : WU w B b n cnt' S T := ⟨h.k.mono e, h.sort, h.no, h.short⟩
theorem WU.len (h : WU w B b n cnt S T) {j : Nat} (hj : j < n) : (T j).length ≤ cnt := Nat.le_trans (len_tot hj) h.k.tot
theorem WR.mk {f : Txt → Bool} {c : Nat} {T' U : Nat → List Txt} (h : WR B b n cnt S T' f c w w') (p : ∀ j, j < n → (T' j).Perm (U j)) (hf : ∀ k, f k = hasW n U k) (hc : c = totW n U) (hs : ∀ j, j < n → SortT (U j)) (hno : NoW n U) (hsh : ∀ j, j < n → ∀ s ∈ U j, s.length ≤ 1000) : WUR B b n cnt S U w w' := by
  obtain ⟨S', h1, h2, h3⟩ := h
  exact ⟨S', ⟨(h1.perm p).congr hf hc, hs, hno, hsh⟩, h2, h3⟩
theorem perm_upd {j : Nat} {U : Nat → List Txt} {l l' : List Txt} (p : l.Perm l') (e : ∀ i, i < n → i ≠ j → (T i).Perm (U i)) : ∀ i, i < n → (updF T j l i).Perm (updF U j l' i) := fun i hi => by
  by_cases h : i = j
  · subst h; rw [updF_same, updF_same]; exact p
  · rw [updF_ne _ _ h, updF_ne _ _ h]; exact e i hi h
theorem all_upd {j : Nat} {l : List Txt} {P : List Txt → Prop} (h : ∀ i, i < n → P (T i)) (hl : P l) : ∀ i, i < n → P (updF T j l i) := fun i hi => by
  by_cases e : i = j
  · subst e; rw [updF_same]; exact hl
  · rw [updF_ne _ _ e]; exact h i hi
/-- What Push leaves. -/
theorem WU.push (h : WU w B b n cnt S T) {j : Nat} (hj : j < n) {k : Txt} (hk : k.length ≤ 1000) (hs : hasW n T k = false) (hr : WR B b n (cnt + 1) S (updF T j (k :: T j)) (fun q => if q = k then true else hasW n T q) (totW n T + 1) w w') : WUR B b n (cnt + 1) S (updF T j (putT (T j) k)) w w' := by
  refine hr.mk (perm_upd (putT_perm _ _).symm fun _ _ _ => List.Perm.refl _) (fun q => ?_) (tot_put hj k).symm (all_upd h.sort (putT_sort (h.sort j hj) k)) (no_put hj h.no hs) (all_upd (P := fun l => ∀ s ∈ l, s.length ≤ 1000) h.short fun s hs => ?_)
  · rw [has_put hj]
    by_cases e : q = k <;> simp [e]
  · rcases List.mem_cons.1 ((putT_perm _ _).subset hs) with rfl | hs
    · exact hk
    · exact h.short j hj s hs
set_option maxRecDepth 100000 in
theorem wPush_no (h : WU w B b n cnt S T) {z : Int} {k : Txt} (hk : k.length ≤ 1000) (hz : isW n z = false ∨ hasW n T k = true) : Calls Try.prog 8 #[.pointer (some ⟨b, 0, none⟩), .int .i64 z, .string ⟨k.toArray⟩] w fun r w' => r = .returned (.bool false) ∧ w' = w := by
  have HI := wIs_any h.k z
  have HH := wHas_any h.k hk
  clear h
  cases h1 : isW n z
  · rw [h1] at HI
    clear HH hz
    go_enter Try.func8, Try.ntmps8
    go_wp2_with fail
    refine HI.mono ?_
    rintro r w' ⟨rfl, rfl⟩
    go_wp2
    go_ret
    exact ⟨rfl, rfl⟩
  · rw [h1] at HI
    rw [hz.resolve_left (by rw [h1]; simp)] at HH
    clear hz
    go_enter Try.func8, Try.ntmps8
    go_wp2_with fail
    refine HI.mono ?_
    rintro r w' ⟨rfl, rfl⟩
    go_wp2_with fail
    refine HH.mono ?_
    rintro r w' ⟨rfl, rfl⟩
    go_wp2
    go_ret
    exact ⟨rfl, rfl⟩
set_option maxRecDepth 100000 in
theorem wPush_yes (h : WU w B b n cnt S T) (hn : n ≤ 64) (hc : cnt < 100000) {j : Nat} (hj : j < n) {k : Txt} (hk : k.length ≤ 1000) (hs : hasW n T k = false) : Calls Try.prog 8 #[.pointer (some ⟨b, 0, none⟩), .int .i64 (j : Int), .string ⟨k.toArray⟩] w fun r w' => r = .returned (.bool true) ∧ WUR B b n (cnt + 1) S (updF T j (putT (T j) k)) w w' := by
  have HI := wIs_any h.k (j : Int)
  rw [show isW n (j : Int) = true by simp [isW, hj]] at HI
  have HH := wHas_any h.k hk
  rw [hs] at HH
  have HG := Lib.hid (give_any h.k hn hj hk (Nat.lt_of_le_of_lt (h.len hj) hc) (by omega) (f' := fun q => if q = k then true else hasW n T q) (c' := totW n T + 1) (fun _ => rfl) (by rw [hs]; simp))
  have HE : Hid (∀ w', WR B b n (cnt + 1) S (updF T j (k :: T j)) (fun q => if q = k then true else hasW n T q) (totW n T + 1) w w' → WUR B b n (cnt + 1) S (updF T j (putT (T j) k)) w w') := fun w' hr => h.push hj hk hs hr
  clear h
  go_enter Try.func8, Try.ntmps8
  go_wp2_with fail
  refine HI.mono ?_
  rintro r w' ⟨rfl, rfl⟩
  go_wp2_with fail
  refine HH.mono ?_
  rintro r w' ⟨rfl, rfl⟩
  go_wp2_with fail
  refine HG.out.mono ?_
  rintro r w2 ⟨rfl, h2⟩
  have H2 := Lib.hid (HE.out w2 h2)
  clear h2
  go_wp2
  go_ret
  exact ⟨rfl, H2.out⟩
set_option maxRecDepth 100000 in
/-- Where there is no such worker, nothing is popped. -/
theorem pop_zero (p : Option Addr) (z : Int) (w : World) (h : Calls Try.prog 20 #[.pointer p, .int .i64 z] w fun r w' => r = .returned (.bool false) ∧ w' = w) : Calls Try.prog 10 #[.pointer p, .int .i64 z] w fun r w' => r = .returned (.tuple #[.string ⟨#[]⟩, .bool false]) ∧ w' = w := by
  have HI := Lib.hid h
  clear h
  go_enter Try.func10, Try.ntmps10
  go_wp2_with fail
  refine HI.out.mono ?_
  rintro r w' ⟨rfl, rfl⟩
  go_wp2
  refine bodyPost_ret (v := .tuple #[.string ⟨#[]⟩, .bool false]) (by simp [results, Try.results10, go_sem]) rfl ?_
  exact ⟨rfl, rfl⟩
theorem wPop_out (h : WU w B b n cnt S T) {z : Int} (hz : isW n z = false) : Calls Try.prog 10 #[.pointer (some ⟨b, 0, none⟩), .int .i64 z] w fun r w' => r = .returned (.tuple #[.string ⟨#[]⟩, .bool false]) ∧ w' = w :=
  pop_zero _ _ _ (by have := wIs_any h.k z; rw [hz] at this; exact this)
theorem wPop_nil (z : Int) (w : World) : Calls Try.prog 10 #[.pointer none, .int .i64 z] w fun r w' => r = .returned (.tuple #[.string ⟨#[]⟩, .bool false]) ∧ w' = w := pop_zero _ _ _ (wIs_nil z w)
set_option maxRecDepth 100000 in
theorem wPop_none (h : WU w B b n cnt S T) {j : Nat} (hj : j < n) (hT : T j = []) : Calls Try.prog 10 #[.pointer (some ⟨b, 0, none⟩), .int .i64 (j : Int)] w fun r w' => r = .returned (.tuple #[.string ⟨#[]⟩, .bool false]) ∧ w' = w := by
  have HI := wIs_any h.k (j : Int)
  rw [show isW n (j : Int) = true by simp [isW, hj]] at HI
  obtain ⟨g, mb, cap, qs, Sq, q, hS⟩ := h.k
  have HC0 := Lib.hid q.cellB.1
  have HC1 := Lib.hid (q.cellR hj)
  have hq := q.qu j hj
  rw [hT] at hq
  have HL := Lib.hid (qPop_none hq)
  clear q hS h hq
  go_enter Try.func10, Try.ntmps10
  go_wp2_with fail
  refine HI.mono ?_
  rintro r w' ⟨rfl, rfl⟩
  have c0 := HC0.out
  have c1 := HC1.out
  go_wp2_with fail
  refine HL.out.mono ?_
  rintro r w' ⟨rfl, rfl⟩
  go_wp2
  refine bodyPost_ret (v := .tuple #[.string ⟨#[]⟩, .bool false]) (by simp [results, Try.results10, go_sem]) rfl ?_
  exact ⟨rfl, rfl⟩
/-- What Pop leaves: first a queue without it, then the map without it. -/
theorem WU.pop (h : WU w B b n cnt S T) {j : Nat} (hj : j < n) {k : Txt} {l : List Txt} (hT : T j = k :: l) {g mb cap : Nat} {qs : Nat → Nat} {Sq : Nat → Nat → Prop} (q : WM w B b g mb n cap cnt qs Sq T (hasW n T) (totW n T)) (hS : ∀ x, S x ↔ (x = mb ∨ ∃ j, j < n ∧ Sq j x)) {w1 : World} {T' : List Txt} (p : T'.Perm l) (q1 : QU w1 B (qs j) (Sq j) T') (o1 : OnlyS (Sq j) w w1) :
    w1.cell? ⟨b, 1, none⟩ = some (.map (some mb)) ∧ ∃ w2, (∀ ty, (Builtin.delete_ #[46, 9] ty #[.map (some mb), .string ⟨k.toArray⟩]).run Try.prog w1 = .ok (.tuple #[]) w2) ∧ WUR B b n cnt S (updF T j l) w w2 := by
  have m1 := q.queue hj q1 o1 fun y hy => .inl hy
  have hkm : k ∈ T j := by rw [hT]; exact List.mem_cons_self
  refine ⟨m1.cellB.2, ?_⟩
  obtain ⟨w2, hr, m2, o2⟩ := m1.map.drop (h.short j hj k hkm) 0
  refine ⟨w2, fun _ => hr, ?_⟩
  have hp : (T j).Perm (k :: l) := by rw [hT]
  have hs : hasW n T k = true := hasW_iff.2 ⟨j, hj, hkm⟩
  have hwr : WR B b n cnt S (updF T j T') (fun q => if q = k then false else hasW n T q) (if hasW n T k = true then totW n T - 1 else totW n T) w w2 := by
    refine ⟨_, WK.as (m1.mapped m2 o2), (o1.mono fun y _ hy => (hS y).2 (.inr ⟨j, hj, hy⟩)).trans (o2.mono fun y _ hy => (hS y).2 (.inl hy)), fun y hy => ?_⟩
    rcases hy with hy | ⟨i, hi, hy⟩
    · exact .inl ((hS y).2 (.inl hy))
    · by_cases e : i = j
      · subst e
        rw [updF_same] at hy
        exact .inl ((hS y).2 (.inr ⟨i, hi, hy⟩))
      · rw [updF_ne _ _ e] at hy
        exact .inl ((hS y).2 (.inr ⟨i, hi, hy⟩))
  refine hwr.mk (perm_upd p fun _ _ _ => List.Perm.refl _) (fun q => ?_) ?_ (all_upd h.sort (hT ▸ h.sort j hj : SortT (k :: l)).tail) (no_pop hj h.no hp).1 (all_upd (P := fun l => ∀ s ∈ l, s.length ≤ 1000) h.short fun s hs => h.short j hj s (by rw [hT]; exact List.mem_cons_of_mem _ hs))
  · rw [has_pop hj h.no hp]
    by_cases e : q = k <;> simp [e]
  · rw [if_pos hs, tot_pop hj hp, Nat.add_sub_cancel]
set_option maxRecDepth 100000 in
set_option maxHeartbeats 1000000 in
theorem wPop_any (h : WU w B b n cnt S T) {j : Nat} (hj : j < n) {k : Txt} {l : List Txt} (hT : T j = k :: l) : Calls Try.prog 10 #[.pointer (some ⟨b, 0, none⟩), .int .i64 (j : Int)] w fun r w' => r = .returned (.tuple #[.string ⟨k.toArray⟩, .bool true]) ∧ WUR B b n cnt S (updF T j l) w w' := by
  have HI := wIs_any h.k (j : Int)
  rw [show isW n (j : Int) = true by simp [isW, hj]] at HI
  obtain ⟨g, mb, cap, qs, Sq, q, hS⟩ := h.k
  have HC0 := Lib.hid q.cellB.1
  have HC1 := Lib.hid (q.cellR hj)
  have HL : Hid (Calls Try.prog 24 #[.pointer (some ⟨qs j, 0, none⟩)] w fun r w1 => r = .returned (.tuple #[.string ⟨k.toArray⟩, .bool true]) ∧ w1.cell? ⟨b, 1, none⟩ = some (.map (some mb)) ∧ ∃ w2, (∀ ty, (Builtin.delete_ #[46, 9] ty #[.map (some mb), .string ⟨k.toArray⟩]).run Try.prog w1 = .ok (.tuple #[]) w2) ∧ WUR B b n cnt S (updF T j l) w w2) :=
    (qPop_any (q.qu j hj) (by rw [hT]; simp)).mono fun r w1 ⟨k', T', e, p, t, q1, o1⟩ => by
      rw [hT] at p t
      obtain ⟨rfl, p'⟩ := sort_first (hT ▸ h.sort j hj) p t
      exact ⟨e, h.pop hj hT q hS p' q1 o1⟩
  clear q hS h
  go_enter Try.func10, Try.ntmps10
  go_wp2_with fail
  refine HI.mono ?_
  rintro r w' ⟨rfl, rfl⟩
  have c0 := HC0.out
  have c1 := HC1.out
  go_wp2_with fail
  refine HL.out.mono ?_
  rintro r w1 ⟨rfl, d1, w2, hd, h3⟩
  have H3 := Lib.hid h3
  clear c0 c1 h3
  go_wp2
  refine bodyPost_ret (v := .tuple #[.string ⟨k.toArray⟩, .bool true]) (by simp [results, Try.results10, go_sem]) rfl ?_
  exact ⟨rfl, H3.out⟩
end
end Go.Proofs.Ytoaejkfejdaiaaa
