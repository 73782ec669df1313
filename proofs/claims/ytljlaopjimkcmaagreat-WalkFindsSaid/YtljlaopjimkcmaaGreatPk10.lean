import Derived.Test.YtljlaopjimkcmaaGreatPk01
import Derived.Test.YtljlaopjimkcmaaGreatPk02
import Derived.Test.YtljlaopjimkcmaaGreatPk03
import Derived.Test.YtljlaopjimkcmaaGreatPk04

/- A row of bytes to be read, and opened; two neighbours swapped in a row of one's own. -/
namespace Go.Proofs.YtljlaopjimkcmaaGreat
open Go.RowKit

def BytesAt (w : World) (a : Option Addr) (ns : List Int) : Prop :=
  ns.length ≤ maxLen ∧ (ns ≠ [] → ∃ b o, a = some ⟨b, o, none⟩ ∧ ∀ i (h : i < ns.length), w.cell? ⟨b, o + i, none⟩ = some (.int .u8 ns[i]))
theorem BytesAt.later {w w' : World} {a : Option Addr} {ns : List Int} (h : BytesAt w a ns) (hb : Below w.heap.size w w') : BytesAt w' a ns := by
  refine ⟨h.1, fun hn => ?_⟩
  obtain ⟨b, o, rfl, hc⟩ := h.2 hn
  exact ⟨b, o, rfl, fun i hi => cell_later hb (hc i hi)⟩

/-- An event stored. -/
theorem evCells_set4 (es : List Ev) (k : Nat) (e : Ev) (h : k < es.length) :
    ((((evCells es).set (k * 4) (.int .i64 e.thread)).set (k * 4 + 1) (.int .i64 e.kind)).set (k * 4 + 2) (.int .i64 e.obj)).set (k * 4 + 3) (.bool e.fail) = evCells (es.set k e) := by
  induction es generalizing k with
  | nil => simp at h
  | cons x es ih =>
    cases k with
    | zero => rfl
    | succ k =>
      have h1 := ih k (by simpa using h)
      simp only [List.set_cons_succ]
      rw [show evCells (x :: es.set k e) = evCell x ++ evCells (es.set k e) from rfl, ← h1, show evCells (x :: es) = evCell x ++ evCells es from rfl]
      have hs : ∀ (l : List Value) (j : Nat) (v : Value), (evCell x ++ l).set (j + 4) v = evCell x ++ l.set j v := fun l j v => by
        simp [evCell]
      rw [show (k + 1) * 4 = k * 4 + 4 by omega, show k * 4 + 4 + 1 = (k * 4 + 1) + 4 by omega, show k * 4 + 4 + 2 = (k * 4 + 2) + 4 by omega, show k * 4 + 4 + 3 = (k * 4 + 3) + 4 by omega, hs, hs, hs, hs]
theorem OwnE.store4 {w : World} {B g n cap : Nat} {es : List Ev} (h : OwnE w B (.slice (some ⟨g, 0, none⟩) n cap) es) (hn : n = es.length) {k : Nat} (hk : k < n) (e : Ev) :
    OwnE ((((w.setCell ⟨g, k * 4, none⟩ (.int .i64 e.thread)).setCell ⟨g, k * 4 + 1, none⟩ (.int .i64 e.kind)).setCell ⟨g, k * 4 + 2, none⟩ (.int .i64 e.obj)).setCell ⟨g, k * 4 + 3, none⟩ (.bool e.fail)) B (.slice (some ⟨g, 0, none⟩) n cap) (es.set k e) := by
  have h0 : w.ownsRow B 51 4 (.slice (some ⟨g, 0, none⟩) n cap) n (evCells es) := by
    have h1 : w.ownsRow B 51 4 (.slice (some ⟨g, 0, none⟩) n cap) es.length (evCells es) := h
    rw [← hn] at h1
    exact h1
  have h4 := ((((h0.stored (k * 4) (.int .i64 e.thread)).1.stored (k * 4 + 1) (.int .i64 e.kind)).1.stored (k * 4 + 2) (.int .i64 e.obj)).1.stored (k * 4 + 3) (.bool e.fail)).1
  rw [evCells_set4 es k e (by omega)] at h4
  unfold OwnE
  rw [List.length_set, ← hn]
  exact h4
/-- Two neighbours swapped. -/
def swp (l : List Ev) (i : Nat) : List Ev := (l.set i (l.getD (i + 1) ev0)).set (i + 1) (l.getD i ev0)
theorem swp_length (l : List Ev) (i : Nat) : (swp l i).length = l.length := by simp [swp]

open Go.Deep Go.Joins Go.WideShapes Go.ChangeShapes

section
variable {H : Type} {enc : TypeId × Value → H} {W : World} {base : Nat} {spare : Nat → Bool} {held : Bool}

theorem wf_u8 {n : Int} (h : (Lit.int .u8 n).wf = true) : 0 ≤ n ∧ n < 256 := by
  simp [Lit.wf, IntKind.min, IntKind.max, IntKind.signed, IntKind.bits] at h
  omega

set_option maxRecDepth 100000 in
theorem bytes_of_trod {r : Reach} {b0 : Nat} {v : Value} {d : DataW H} {p : List MemPlace} (hv : Value.okWide Tryz.prog W r b0 42 v) (h : DataW.Trod enc Tryz.prog W base spare held 42 v d p) :
    ∃ (a : Option Addr) (ns : List Int) (cap : Nat), v = .slice a ns.length cap ∧ BytesAt W a ns ∧ ∀ n ∈ ns, 0 ≤ n ∧ n < 256 := by
  obtain ⟨a, len, cap, rfl⟩ := okWide_slice Tryz.underlying42 hv
  obtain ⟨fuel, hf⟩ := h
  rcases open_ints Tryz.underlying42 Tryz.underlying5 (by kernel_rfl) hf with ⟨e, _⟩ | ⟨a', len', cap', zs, e, _, hl, hm, hz, _, hc, hw⟩
  · simp [Value.cells] at e
    obtain ⟨rfl, rfl, rfl⟩ := e
    exact ⟨none, [], 0, rfl, ⟨by simp [maxLen], fun h => absurd rfl h⟩, by simp⟩
  · simp [Value.cells] at e
    obtain ⟨rfl, rfl, rfl⟩ := e
    have hlz : len ≤ zs.length := by rw [hz]; split <;> omega
    have hlt : (zs.take len).length = len := by simp; omega
    refine ⟨some a', zs.take len, cap, by rw [hlt], ⟨by rw [hlt]; omega, fun hne => ?_⟩, fun n hn => wf_u8 (hw n (List.mem_of_mem_take hn))⟩
    have hpos : 0 < len := by
      rcases Nat.eq_zero_or_pos len with h | h
      · subst h; simp at hne
      · exact h
    have h0 := hc 0 (by omega)
    have hsp := World.cell?_spot h0
    have hsp' : a'.spot = none := by simpa [Addr.add] using hsp
    obtain ⟨b, o, s⟩ := a'
    subst hsp'
    refine ⟨b, o, rfl, fun i hi => ?_⟩
    have hi' : i < len := by omega
    have := hc i (by omega)
    rw [add_row, getD_lt _ (by omega)] at this
    rw [this]
    simp
end
end Go.Proofs.YtljlaopjimkcmaaGreat

/- Walks, plainly: whatever is done to its end is among the ends. -/
namespace Go.Proofs.YtljlaopjimkcmaaGreat

theorem mem_all {s : St} {t : Int} {e : Ev} {s1 : St} (h : s.step t = (0, e, s1)) : t ∈ s.all := by
  obtain ⟨i, hi, hm, _, _⟩ := St.step_ok0 h
  have hh := (St.ins_has hi).1
  unfold St.has at hh
  unfold St.all
  refine List.mem_filter.2 ⟨List.mem_map.2 ⟨t.toNat, List.mem_range.2 (by omega), ?_⟩, hm⟩
  show ((t.toNat : Nat) : Int) = t
  omega
theorem mem_runs {n : Nat} : ∀ {l : List Ev} {s z : St} (row : List Ev), Ex s l z → z.all = [] → s.fuel ≤ n → (z, row ++ l) ∈ s.runs n row := by
  induction n with
  | zero =>
    intro l s z row h hz hf
    cases l with
    | nil => obtain rfl := h; rw [List.append_nil, (runs_end 0 z row hz).1]; exact List.mem_singleton.2 rfl
    | cons e l =>
      obtain ⟨s1, h1, _⟩ := h
      have := step_fuel h1
      omega
  | succ n ih =>
    intro l s z row h hz hf
    cases l with
    | nil => obtain rfl := h; rw [List.append_nil, (runs_end (n + 1) z row hz).1]; exact List.mem_singleton.2 rfl
    | cons e l =>
      obtain ⟨s1, h1, h2⟩ := h
      have h3 := step_fuel h1
      have hm := mem_all h1
      have hne : s.all ≠ [] := List.ne_nil_of_mem hm
      show _ ∈ (if s.all = [] then _ else _ : List (St × List Ev))
      rw [if_neg hne, List.mem_flatMap]
      refine ⟨e.thread, hm, ?_⟩
      rw [h1]
      have := ih (row ++ [e]) h2 hz (by omega)
      rwa [List.append_assoc] at this
theorem pre_gt (n : Nat) (s : St) (row : List Ev) : (s.runs n row).length < s.pre n ∨ s.pre n = 1 := by
  cases n with
  | zero => exact .inr rfl
  | succ n =>
    by_cases h : s.all = []
    · exact .inr (runs_end (n + 1) s row h).2
    · refine .inl ?_
      rw [runsTo_all n s row h, preTo_all]
      have := runsTo_le n s row s.all.length
      omega
theorem ex_snoc {s z z1 : St} {l : List Ev} {e : Ev} {t : Int} (h : Ex s l z) (h1 : z.step t = (0, e, z1)) : Ex s (l ++ [e]) z1 := by
  have ht := (step_next h1).2.2
  exact ex_append.2 ⟨z, h, z1, by rw [ht]; exact h1, rfl⟩
theorem ev_right {F : Nat} {s : St} (ok : s.Ok F) {t : Int} {e : Ev} {s1 : St} (h : s.step t = (0, e, s1)) : rightEv e = true := by
  obtain ⟨i, hi, _, rfl, _⟩ := St.step_ok0 h
  have hh := (St.ins_has hi).1
  have h4 : s.ts.length ≤ 4 := by
    have h1 := ok.len
    have h2 := ok.right
    unfold rightPg at h2
    rw [Bool.and_eq_true, decide_eq_true_eq] at h2
    omega
  unfold St.has at hh
  obtain ⟨o1, o2, _, _, _, _⟩ := ok.obj hi
  unfold rightEv St.ev
  rw [decide_eq_true_eq]
  repeat' split
  all_goals dsimp only
  all_goals (refine ⟨hh.1, by omega, ?_⟩)
  · exact .inr (.inl ⟨.inl rfl, by omega, by omega, rfl⟩)
  · exact .inr (.inl ⟨.inr rfl, by omega, by omega, rfl⟩)
  · exact .inr (.inr ⟨.inl rfl, by omega, by omega, rfl⟩)
  · exact .inr (.inr ⟨.inr rfl, by omega, by omega, rfl⟩)
  · exact .inl ⟨rfl, rfl⟩
  · exact .inl ⟨rfl, rfl⟩
  · exact .inl ⟨rfl, rfl⟩
theorem find_key {p : Pg} {fuel : Int} {z : St} {row : List Ev} {F : Nat} (ok : (s0 p fuel).Ok F) (h : Ex (s0 p fuel) row z) (hz : z.all = []) : keyB row ∈ sortK (keysOf (runsW p fuel)) := by
  have hf := fuel_le ok
  have hm := mem_runs (n := 33) [] h hz (by omega)
  rw [List.nil_append] at hm
  exact mem_sortK.2 (List.mem_map.2 ⟨_, hm, rfl⟩)
theorem ex_len {l : List Ev} : ∀ {s z : St}, Ex s l z → l.length + z.fuel = s.fuel := by
  induction l with
  | nil => intro s z h; rw [h]; simp
  | cons e l ih =>
    rintro s z ⟨s1, h1, h2⟩
    have := ih h2
    have := step_fuel h1
    rw [List.length_cons]
    omega
theorem sums (p : Pg) (fuel : Int) : (sortK (keysOf (runsW p fuel))).length ≤ (runsW p fuel).length ∧ ((runsW p fuel).length < preW p fuel ∨ preW p fuel = 1) := by
  have h1 := sortK_len (keysOf (runsW p fuel))
  have h2 : (keysOf (runsW p fuel)).length = (runsW p fuel).length := List.length_map _
  exact ⟨by omega, pre_gt 33 (s0 p fuel) []⟩

end Go.Proofs.YtljlaopjimkcmaaGreat
