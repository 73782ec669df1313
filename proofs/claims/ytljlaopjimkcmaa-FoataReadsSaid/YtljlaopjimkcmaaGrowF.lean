/- The contracts of slices.Grow of nothing, of slices.Concat, and of foata's Row. -/
import Derived.Test.YtljlaopjimkcmaaLvs
import Derived.Test.YtljlaopjimkcmaaEvCopy
namespace Go.Proofs.Ytljlaopjimkcmaa
open Go.RowKit

theorem LvAt.one {w : World} {a : Option Addr} {m : List (List Ev)} (h : LvAt w a m) {k : Nat} (hk : k < m.length) :
    ∃ b o sa sc, a = some ⟨b, o, none⟩ ∧ w.cell? ⟨b, o + k, none⟩ = some (.slice sa (m.getD k []).length sc) ∧ EvsAt w sa (m.getD k []) ∧ (sa = none → sc = 0) := by
  obtain ⟨ss, h1, h2, h3⟩ := h
  have hks : k < ss.length := by omega
  obtain ⟨b, o, rfl, hc⟩ := h2.2 (by intro e; simp [e] at hks)
  have h4 := hc k hks 0 _ rfl
  rw [Nat.mul_one, Nat.add_zero] at h4
  obtain ⟨h5, h6, h7, _⟩ := h3 k hks
  rw [h5] at h4
  exact ⟨b, o, _, _, rfl, h4, h6, h7⟩
/-- The same, with its room. -/
theorem LvAt.room {w : World} {a : Option Addr} {m : List (List Ev)} (h : LvAt w a m) {k : Nat} (hk : k < m.length) :
    ∃ b o sa sc, a = some ⟨b, o, none⟩ ∧ w.cell? ⟨b, o + k, none⟩ = some (.slice sa (m.getD k []).length sc) ∧ EvsAt w sa (m.getD k []) ∧ (m.getD k []).length ≤ sc := by
  obtain ⟨ss, h1, h2, h3⟩ := h
  have hks : k < ss.length := by omega
  obtain ⟨b, o, rfl, hc⟩ := h2.2 (by intro e; simp [e] at hks)
  have h4 := hc k hks 0 _ rfl
  rw [Nat.mul_one, Nat.add_zero] at h4
  obtain ⟨h5, h6, _, h8⟩ := h3 k hks
  rw [h5] at h4 h8
  exact ⟨b, o, _, _, rfl, h4, h6, h8⟩
theorem evsAt_none {w : World} {l : List Ev} (h : EvsAt w none l) : l = [] := by
  apply Classical.byContradiction
  intro hn
  obtain ⟨b, o, e, _⟩ := h.2 hn
  cases e
theorem flat_take (m : List (List Ev)) {k : Nat} (hk : k < m.length) : (m.take (k + 1)).flatten = (m.take k).flatten ++ m.getD k [] := by
  rw [List.take_add_one, List.getElem?_eq_getElem hk, List.flatten_append, getD_lt _ hk]
  simp
theorem flat_le (m : List (List Ev)) (k : Nat) : (m.take k).flatten.length ≤ m.flatten.length := by
  conv => rhs; rw [← List.take_append_drop k m]
  rw [List.flatten_append, List.length_append]
  omega

set_option maxRecDepth 100000 in
set_option maxHeartbeats 2000000 in
theorem grow_any (n : Nat) (w : World) (hn : n ≤ 1000000) :
    Calls Try.prog 40 #[.slice none 0 0, .int .i64 n] w fun r w' => ∃ v, r = .returned v ∧ OwnE w' w.heap.size v [] ∧ Below w.heap.size w w' := by
  have hw : IntKind.i64.wrap (n : Int) = n := IntWalk.i64_in _ (by omega)
  by_cases h0 : n = 0
  · subst h0
    clear hw
    go_enter Try.func40, Try.ntmps40
    go_wp2
    go_ret
    exact ⟨_, rfl, ownE_nil _ _, Below.refl _ _⟩
  · obtain ⟨i0, hi0, hzz⟩ := Option.map_eq_some_iff.1 infoEv
    simp only [Prod.mk.injEq] at hzz
    obtain ⟨hz0, hzs, hzb⟩ := hzz
    have hrz := fun ty => Lib.run_append_nil_zeros w 22 3 ty 39 i0 _ .i64 .i64 Try.underlying22 Try.underlying3 hi0 hz0 n (by omega) (by omega) (by omega) (by rw [hzb]; omega)
    have hpos : (0 : Int) < n := by omega
    have hneg : ¬ ((n : Int) < 0) := by omega
    have hGm := grownCap_le_maxLen w n 0 39 (by unfold maxLen; omega)
    have hGn := grownCap_ge w n 0 39
    obtain ⟨G, hG⟩ : ∃ G, G = grownCap w n 0 39 := ⟨_, rfl⟩
    rw [← hG] at hrz hGm hGn
    obtain ⟨C, hC⟩ : ∃ C : Array Value, C = Builtin.zeroCells (Value.agg #[.int .i64 0, .int .i64 0, .int .i64 0, .bool false]).cells n ++ Builtin.zeroCells (Value.agg #[.int .i64 0, .int .i64 0, .int .i64 0, .bool false]).cells (G - n) := ⟨_, rfl⟩
    have hCs : C.size = G * 4 := by
      rw [hC]
      simp [Builtin.zeroCells, Value.cells]
      omega
    rw [← hC] at hrz
    have HOW : Hid (OwnE (w.drew.alloc (.cells C 39)) w.heap.size (.slice (some ⟨w.heap.size, 0, none⟩) 0 G) []) :=
      ⟨rfl, .inr ⟨w.heap.size, G, C, rfl, Nat.le_refl _, heap_alloc_new w.drew _, Nat.zero_le _, hGm, hCs, by simp; rfl⟩⟩
    have hb : Below w.heap.size w (w.drew.alloc (.cells C 39)) := ((Below.refl _ _).drew).alloc (Nat.le_refl _) _
    have hG2 : G ≤ 9223372036854775807 := by unfold maxLen at hGm; omega
    have hG0 : ¬ G = 0 := by omega
    clear hC hG hCs hGm
    go_enter Try.func40, Try.ntmps40
    go_wp2_with (at_builtin; refine Lib.wpList_append_run _ rfl _ _ _ _ rfl _ _ rfl rfl _ _ (hrz _) ?_)
    go_ret
    exact ⟨_, rfl, HOW.out, hb⟩

end Go.Proofs.Ytljlaopjimkcmaa
