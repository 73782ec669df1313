/- The program's Steal and New of work. -/
import Derived.Test.YtoaejkfejdaiaaaWkCalls
namespace Go.Proofs.Ytoaejkfejdaiaaa
open Go.RowKit

section
variable {w w' : World} {B b n cnt : Nat} {T : Nat → List Txt} {S : Nat → Prop}
set_option maxRecDepth 100000 in
/-- Where there is no such worker, nothing is stolen. -/
theorem steal_zero (p : Option Addr) (z y : Int) (w : World) (h : Calls Try.prog 20 #[.pointer p, .int .i64 z] w fun r w' => r = .returned (.bool false) ∧ w' = w) : Calls Try.prog 12 #[.pointer p, .int .i64 z, .int .i64 y] w fun r w' => r = .returned (.tuple #[.string ⟨#[]⟩, .bool false]) ∧ w' = w := by
  have HI := Lib.hid h
  clear h
  go_enter Try.func12, Try.ntmps12
  go_wp2_with fail
  refine HI.out.mono ?_
  rintro r w' ⟨rfl, rfl⟩
  go_wp2
  refine bodyPost_ret (v := .tuple #[.string ⟨#[]⟩, .bool false]) (by simp [results, Try.results12, go_sem]) rfl ?_
  exact ⟨rfl, rfl⟩
theorem wSteal_nil (z y : Int) (w : World) : Calls Try.prog 12 #[.pointer none, .int .i64 z, .int .i64 y] w fun r w' => r = .returned (.tuple #[.string ⟨#[]⟩, .bool false]) ∧ w' = w := steal_zero _ _ _ _ (wIs_nil z w)
set_option maxRecDepth 100000 in
theorem wSteal_no (h : WU w B b n cnt S T) (z y : Int) (hz : isW n z = false ∨ isW n y = false ∨ z = y ∨ T y.toNat = []) : Calls Try.prog 12 #[.pointer (some ⟨b, 0, none⟩), .int .i64 z, .int .i64 y] w fun r w' => r = .returned (.tuple #[.string ⟨#[]⟩, .bool false]) ∧ w' = w := by
  have HI := wIs_any h.k z
  have HJ := wIs_any h.k y
  cases h1 : isW n z
  · rw [h1] at HI
    exact steal_zero _ _ _ _ HI
  · rw [h1] at HI
    cases h2 : isW n y
    · rw [h2] at HJ
      clear h hz
      go_enter Try.func12, Try.ntmps12
      go_wp2_with fail
      refine HI.mono ?_
      rintro r w' ⟨rfl, rfl⟩
      go_wp2_with fail
      refine HJ.mono ?_
      rintro r w' ⟨rfl, rfl⟩
      go_wp2
      refine bodyPost_ret (v := .tuple #[.string ⟨#[]⟩, .bool false]) (by simp [results, Try.results12, go_sem]) rfl ?_
      exact ⟨rfl, rfl⟩
    · rw [h2] at HJ
      have hz := (hz.resolve_left (by rw [h1]; simp)).resolve_left (by rw [h2]; simp)
      by_cases e : z = y
      · subst e
        clear h hz
        go_enter Try.func12, Try.ntmps12
        go_wp2_with fail
        refine HI.mono ?_
        rintro r w' ⟨rfl, rfl⟩
        go_wp2_with fail
        refine HJ.mono ?_
        rintro r w' ⟨rfl, rfl⟩
        go_wp2
        refine bodyPost_ret (v := .tuple #[.string ⟨#[]⟩, .bool false]) (by simp [results, Try.results12, go_sem]) rfl ?_
        exact ⟨rfl, rfl⟩
      · have hl := hz.resolve_left e
        obtain ⟨k, hk, rfl⟩ := isW_yes h2
        rw [Int.toNat_natCast] at hl
        obtain ⟨g, mb, cap, qs, Sq, q, hS⟩ := h.k
        have HC0 := Lib.hid q.cellB.1
        have HC1 := Lib.hid (q.cellR hk)
        have hq := q.qu k hk
        rw [hl] at hq
        have HL := Lib.hid (qSteal_none hq)
        have hne : (z == (k : Int)) = false := by rw [beq_eq_false_iff_ne]; exact e
        clear q hS h hq hz h1 h2
        go_enter Try.func12, Try.ntmps12
        go_wp2_with fail
        refine HI.mono ?_
        rintro r w' ⟨rfl, rfl⟩
        go_wp2_with fail
        refine HJ.mono ?_
        rintro r w' ⟨rfl, rfl⟩
        have c0 := HC0.out
        have c1 := HC1.out
        go_wp2_with fail
        refine HL.out.mono ?_
        rintro r w' ⟨rfl, rfl⟩
        go_wp2
        refine bodyPost_ret (v := .tuple #[.string ⟨#[]⟩, .bool false]) (by simp [results, Try.results12, go_sem]) rfl ?_
        exact ⟨rfl, rfl⟩
/-- What Steal leaves: first a queue without it, then another one with it. -/
theorem WU.steal (h : WU w B b n cnt S T) {i j : Nat} (hi : i < n) (hj : j < n) (hij : i ≠ j) {k : Txt} {l : List Txt} (hT : T j = l ++ [k]) {g mb cap : Nat} {qs : Nat → Nat} {Sq : Nat → Nat → Prop} (q : WM w B b g mb n cap cnt qs Sq T (hasW n T) (totW n T)) (hS : ∀ x, S x ↔ (x = mb ∨ ∃ j, j < n ∧ Sq j x)) {w1 : World} {T' : List Txt} (p : T'.Perm l) (q1 : QU w1 B (qs j) (Sq j) T') (o1 : OnlyS (Sq j) w w1) :
    WK w1 B b n cnt S (updF T j T') (hasW n T) (totW n T) ∧ k.length ≤ 1000 ∧ hasW n T k = true ∧ ∀ w2, WR B b n (cnt + 1) S (updF (updF T j T') i (k :: updF T j T' i)) (hasW n T) (totW n T) w1 w2 → WUR B b n (cnt + 1) S (updF (updF T j l) i (putT (T i) k)) w w2 := by
  have m1 := q.queue hj q1 o1 fun y hy => .inl hy
  rw [updF_id] at m1
  have hkm : k ∈ T j := by rw [hT]; simp
  have hp : (T j).Perm (k :: l) := by rw [hT]; exact List.perm_append_singleton _ _
  refine ⟨⟨g, mb, cap, qs, Sq, m1, hS⟩, h.short j hj k hkm, hasW_iff.2 ⟨j, hj, hkm⟩, fun w2 hr => ?_⟩
  have o1' : OnlyS S w w1 := o1.mono fun y _ hy => (hS y).2 (.inr ⟨j, hj, hy⟩)
  have hr' : WR B b n (cnt + 1) S (updF (updF T j T') i (k :: updF T j T' i)) (hasW n T) (totW n T) w w2 := by
    obtain ⟨S', h1, h2, h3⟩ := hr
    exact ⟨S', h1, o1'.trans h2, fun y hy => (h3 y hy).imp id fun h4 => Nat.le_trans o1'.size h4⟩
  have hsl : SortT l := (hT ▸ h.sort j hj : SortT (l ++ [k])).init
  refine hr'.mk (perm_upd ?_ fun i' hi' _ => perm_upd p (fun _ _ _ => List.Perm.refl _) i' hi') (fun q => (has_steal hi hj hij hp q).symm) (tot_steal hi hj hij hp).symm (all_upd (all_upd h.sort hsl) (putT_sort (h.sort i hi) k)) (no_steal hi hj hij h.no hp) (all_upd (P := fun l => ∀ s ∈ l, s.length ≤ 1000) (all_upd (P := fun l => ∀ s ∈ l, s.length ≤ 1000) h.short fun s hs => h.short j hj s (by rw [hT]; simp [hs])) fun s hs => ?_)
  · rw [updF_ne _ _ hij]
    exact (putT_perm _ _).symm
  · rcases List.mem_cons.1 ((putT_perm _ _).subset hs) with rfl | hs
    · exact h.short j hj _ hkm
    · exact h.short i hi s hs
set_option maxRecDepth 100000 in
set_option maxHeartbeats 1000000 in
theorem wSteal_any (h : WU w B b n cnt S T) (hn : n ≤ 64) (hc : cnt < 100000) {i j : Nat} (hi : i < n) (hj : j < n) (hij : i ≠ j) {k : Txt} {l : List Txt} (hT : T j = l ++ [k]) : Calls Try.prog 12 #[.pointer (some ⟨b, 0, none⟩), .int .i64 (i : Int), .int .i64 (j : Int)] w fun r w' => r = .returned (.tuple #[.string ⟨k.toArray⟩, .bool true]) ∧ WUR B b n (cnt + 1) S (updF (updF T j l) i (putT (T i) k)) w w' := by
  have HI := wIs_any h.k (i : Int)
  rw [show isW n (i : Int) = true by simp [isW, hi]] at HI
  have HJ := wIs_any h.k (j : Int)
  rw [show isW n (j : Int) = true by simp [isW, hj]] at HJ
  obtain ⟨g, mb, cap, qs, Sq, q, hS⟩ := h.k
  have HC0 := Lib.hid q.cellB.1
  have HC1 := Lib.hid (q.cellR hj)
  have hli := Nat.lt_of_le_of_lt (h.len hi) hc
  have HL : Hid (Calls Try.prog 25 #[.pointer (some ⟨qs j, 0, none⟩)] w fun r w1 => r = .returned (.tuple #[.string ⟨k.toArray⟩, .bool true]) ∧ Calls Try.prog 21 #[.pointer (some ⟨b, 0, none⟩), .int .i64 (i : Int), .string ⟨k.toArray⟩] w1 fun r w2 => r = .returned (.tuple #[]) ∧ WUR B b n (cnt + 1) S (updF (updF T j l) i (putT (T i) k)) w w2) :=
    (qSteal_any (q.qu j hj) (by rw [hT]; simp)).mono fun r w1 ⟨k', T', e, p, t, q1, o1⟩ => by
      rw [hT] at p t
      obtain ⟨rfl, p'⟩ := sort_last (hT ▸ h.sort j hj) p t
      obtain ⟨h1, h2, h3, h4⟩ := h.steal hi hj hij hT q hS p' q1 o1
      refine ⟨e, (give_any h1 hn hi h2 (by rw [updF_ne _ _ hij]; exact hli) (by omega) (f' := hasW n T) (c' := totW n T) (fun q => ?_) (by rw [if_pos h3])).mono fun r w2 ⟨h5, h6⟩ => ⟨h5, h4 w2 h6⟩⟩
      by_cases e : q = k'
      · subst e; rw [if_pos rfl, h3]
      · rw [if_neg e]
  have hne : ((i : Int) == (j : Int)) = false := by rw [beq_eq_false_iff_ne]; omega
  clear q hS h hli
  go_enter Try.func12, Try.ntmps12
  go_wp2_with fail
  refine HI.mono ?_
  rintro r w' ⟨rfl, rfl⟩
  go_wp2_with fail
  refine HJ.mono ?_
  rintro r w' ⟨rfl, rfl⟩
  have c0 := HC0.out
  have c1 := HC1.out
  go_wp2_with fail
  refine HL.out.mono ?_
  rintro r w1 ⟨rfl, h2⟩
  have H2 := Lib.hid h2
  clear c0 c1 h2
  go_wp2_with fail
  refine H2.out.mono ?_
  rintro r w2 ⟨rfl, h3⟩
  have H3 := Lib.hid h3
  clear h3
  go_wp2
  refine bodyPost_ret (v := .tuple #[.string ⟨k.toArray⟩, .bool true]) (by simp [results, Try.results12, go_sem]) rfl ?_
  exact ⟨rfl, H3.out⟩
end
end Go.Proofs.Ytoaejkfejdaiaaa
