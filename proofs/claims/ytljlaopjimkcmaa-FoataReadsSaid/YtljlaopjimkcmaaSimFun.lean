/-
  Plain data for layer 5: what swaps of neighbours that don't depend on one another leave as it is, is alike for rows that are the same. Nothing of the translation.
-/
import Derived.Test.YtljlaopjimkcmaaSameDoc
namespace Go.Proofs.Ytljlaopjimkcmaa

/-- A thing that is told of rows, whatever neighbours that don't depend on one another are swapped. -/
def Blind {T : Type} (F : List Ev → T) : Prop := ∀ (x y : List Ev) (e f : Ev), dep e f = false → F (x ++ e :: f :: y) = F (x ++ f :: e :: y)

theorem Blind.move {T : Type} {F : List Ev → T} (h : Blind F) (e : Ev) (y : List Ev) : ∀ x : List Ev, (∀ f ∈ y, dep e f = false) → F (x ++ e :: y) = F (x ++ y ++ [e]) := by
  induction y with
  | nil => intro x _; rw [List.append_nil]
  | cons f y ih =>
    intro x hy
    rw [h x y e f (hy f (by simp)), show x ++ f :: e :: y = (x ++ [f]) ++ e :: y by simp, ih (x ++ [f]) (fun g hg => hy g (by simp [hg]))]
    congr 1
    simp
theorem sim_move (e : Ev) (y : List Ev) : ∀ x : List Ev, (∀ f ∈ y, dep e f = false) → Sim (x ++ e :: y) (x ++ y ++ [e]) := by
  induction y with
  | nil => intro x _; rw [List.append_nil]; exact Sim.refl _
  | cons f y ih =>
    intro x hy
    have h1 : Sim (x ++ e :: f :: y) (x ++ f :: e :: y) := sim_swap (hy f (by simp))
    have h2 := ih (x ++ [f]) (fun g hg => hy g (by simp [hg]))
    rw [show (x ++ [f]) ++ e :: y = x ++ f :: e :: y by simp, show x ++ [f] ++ y ++ [e] = x ++ f :: y ++ [e] by simp] at h2
    exact h1.trans h2

theorem mem_prs_inv {l : List Ev} {p : Ev × (Int → Nat)} (h : p ∈ prs l) : ∃ i, i < l.length ∧ p = (evI l i, clk l i) := by
  unfold prs at h
  obtain ⟨i, hi, e⟩ := List.mem_map.1 h
  exact ⟨i, List.mem_range.1 hi, e.symm⟩
theorem prs_mem {l : List Ev} {i : Nat} (h : i < l.length) : (evI l i, clk l i) ∈ prs l := List.mem_map.2 ⟨i, List.mem_range.2 h, rfl⟩
theorem split_at {l : List Ev} {k : Nat} (h : k < l.length) : l = l.take k ++ evI l k :: l.drop (k + 1) := by
  conv => lhs; rw [← List.take_append_drop k l, List.drop_eq_getElem_cons h]
  rw [evI_get h]

/-- The last event of the one row stands in the other one, and nothing behind it depends on it. -/
theorem sim_last {a b : List Ev} {e : Ev} (h : Sim (a ++ [e]) b) : ∃ x y, b = x ++ e :: y ∧ ∀ f ∈ y, dep e f = false := by
  have hp : psi (a ++ [e]) e.thread = psi a e.thread ++ [(e, nxt (prs a) e)] := by rw [psi_snoc, if_pos rfl]
  have hq := h e.thread
  have hl := congrArg List.length hq
  have hN : cnt (isT (a ++ [e]) e.thread) (a ++ [e]).length = cnt (isT a e.thread) a.length + 1 := by
    rw [← psi_len, hp, List.length_append, psi_len]
    rfl
  rw [psi_len, psi_len, hN] at hl
  have hg : (psi b e.thread)[cnt (isT a e.thread) a.length]? = some (e, nxt (prs a) e) := by
    rw [← hq, hp, List.getElem?_append_right (by rw [psi_len]; exact Nat.le_refl _), psi_len, Nat.sub_self]
    rfl
  obtain ⟨k, hk, hkt, hkc, hke⟩ := psi_inv hg
  injection hke with hke _
  refine ⟨b.take k, b.drop (k + 1), by rw [hke]; exact split_at hk, fun f hf => ?_⟩
  cases hd : dep e f
  · rfl
  · exfalso
    obtain ⟨m, hm, hfm⟩ := List.mem_iff_getElem.1 hf
    rw [List.length_drop] at hm
    have hj : k + 1 + m < b.length := by omega
    have hfj : evI b (k + 1 + m) = f := by rw [evI_get hj, ← hfm, List.getElem_drop]
    have hbj : hb b k (k + 1 + m) = true := hb_dep (by omega) (by rw [← hke, hfj]; exact hd)
    have h1 := hb_iff_num.1 hbj
    rw [num_eq, ← hke, hkc] at h1
    have hmem : (evI b (k + 1 + m), clk b (k + 1 + m)) ∈ prs (a ++ [e]) := by rw [mem_prs, h, ← mem_prs]; exact prs_mem hj
    obtain ⟨i, hi, hie⟩ := mem_prs_inv hmem
    injection hie with hie1 hie2
    rw [hie2] at h1
    have h2 := clk_le_cnt (a ++ [e]) i e.thread
    rw [List.length_append, List.length_singleton] at hi
    rcases Nat.lt_or_eq_of_le (show i ≤ a.length by omega) with hia | hia
    · have h3 := cnt_mono (isT (a ++ [e]) e.thread) (show i + 1 ≤ a.length by omega)
      have h4 : cnt (isT (a ++ [e]) e.thread) a.length = cnt (isT a e.thread) a.length := cnt_congr _ fun j hj => by unfold isT; rw [evI_append hj]
      omega
    · have he2 : evI (a ++ [e]) i = e := by rw [hia]; unfold evI; simp [List.getD]
      rw [he2] at hie1
      have h5 : isT b e.thread (k + 1 + m) = true := isT_iff.2 (by rw [hie1])
      have h6 := (show At b e.thread _ _ from ⟨hj, h5, rfl⟩).lt
      have h7 := cnt_lt (isT b e.thread) (show k < k + 1 + m by omega) hkt
      omega

theorem psi_nil (t : Int) : psi [] t = [] := rfl

/-- Rows that are the same are alike in all that such swaps leave. -/
theorem sim_fun {T : Type} (n : Nat) : ∀ (a b : List Ev) (F : List Ev → T), a.length = n → Sim a b → Blind F → F a = F b := by
  induction n with
  | zero =>
    intro a b F hn h _
    obtain rfl := List.eq_nil_of_length_eq_zero hn
    rcases b with _ | ⟨e, b⟩
    · rfl
    · exfalso
      have h1 := psi_get (l := e :: b) (t := e.thread) (i := 0) (by simp) (isT_iff.2 rfl)
      rw [← h, psi_nil] at h1
      simp at h1
  | succ n ih =>
    intro a b F hn h hF
    have hne : a ≠ [] := by rintro rfl; simp at hn
    obtain ⟨a', e, rfl⟩ : ∃ a' e, a = a' ++ [e] := ⟨a.dropLast, a.getLast hne, (List.dropLast_concat_getLast hne).symm⟩
    obtain ⟨x, y, rfl, hy⟩ := sim_last h
    rw [hF.move e y x hy]
    have h2 : Sim (a' ++ [e]) (x ++ y ++ [e]) := h.trans (sim_move e y x hy)
    have h3 := (sim_snoc a' (x ++ y) e).1 h2
    refine ih a' (x ++ y) (fun l => F (l ++ [e])) (by simpa using hn) h3 (fun p q u v huv => ?_)
    have := hF p (q ++ [e]) u v huv
    simpa using this

end Go.Proofs.Ytljlaopjimkcmaa
