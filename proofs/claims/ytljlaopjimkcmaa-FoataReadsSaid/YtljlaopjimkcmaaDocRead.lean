/- Bytes read as levels, plainly: as the document reads them. -/
import Derived.Test.YtljlaopjimkcmaaKeyPlain
import Derived.Test.YtljlaopjimkcmaaRefRight5
import Derived.Test.YtljlaopjimkcmaaWake5
namespace Go.Proofs.Ytljlaopjimkcmaa
open Go.RowKit

/-- Part of the way: m is read, t is left. -/
def DocAt (s t : List UInt8) (m : List (List Ev)) (k : Nat) : Prop := k + t.length = s.length ∧ t = s.drop k ∧ m ++ parseN (200 - m.length) t = parseN 200 s ∧ (m.flatMap lvB).length = k ∧ m.length ≤ k
theorem docAt_zero (s : List UInt8) : DocAt s s [] 0 := ⟨by simp, rfl, rfl, rfl, Nat.le_refl _⟩
theorem readE_ok {b : List UInt8} (h : readOk b = true) : readE b = evsOf b ∧ (evsOf b).all rightEv = true := ⟨by unfold readE; rw [if_pos h], h⟩
theorem readE_no' {b : List UInt8} (h : readOk b = false) : readE b = [] := by unfold readE; rw [h]; rfl
theorem evsOf_len (b : List UInt8) : (evsOf b).length = b.length := by simp [evsOf]
theorem lvB_read {b : List UInt8} (h : readOk b = true) : (lvB (readE b)).length = b.length + 1 := by
  obtain ⟨h1, h2⟩ := readE_ok h
  rw [h1]
  unfold lvB
  rw [printE_right h2]
  simp [evsOf_len]
theorem parseN_cons (n : Nat) (c : UInt8) (r : List UInt8) (hc : c.toNat ≠ 0) : parseN (n + 1) (c :: r) = readE (r.take c.toNat) :: parseN n (r.drop c.toNat) := by rw [parseN, if_neg hc]
theorem docAt_parse {s : List UInt8} {m : List (List Ev)} {k : Nat} {c : UInt8} {r : List UInt8} (h : DocAt s (c :: r) m k) (hs : s.length ≤ 200) (hc : c.toNat ≠ 0) : m ++ (readE (r.take c.toNat) :: parseN (199 - m.length) (r.drop c.toNat)) = parseN 200 s := by
  obtain ⟨h1, _, h3, _, h5⟩ := h
  rw [List.length_cons] at h1
  rw [← h3, show 200 - m.length = (199 - m.length) + 1 by omega, parseN_cons _ _ _ hc]
theorem docAt_step {s : List UInt8} {m : List (List Ev)} {k : Nat} {c : UInt8} {r : List UInt8} (h : DocAt s (c :: r) m k) (hs : s.length ≤ 200) (hc : c.toNat ≠ 0) (hr : c.toNat ≤ r.length) (ho : readOk (r.take c.toNat) = true) :
    DocAt s (r.drop c.toNat) (m ++ [readE (r.take c.toNat)]) (k + 1 + c.toNat) := by
  have hp := docAt_parse h hs hc
  obtain ⟨h1, h2, h3, h4, h5⟩ := h
  rw [List.length_cons] at h1
  refine ⟨by rw [List.length_drop]; omega, ?_, ?_, ?_, by rw [List.length_append, List.length_singleton]; omega⟩
  · have e : r = s.drop (k + 1) := by
      have := congrArg List.tail h2
      simpa [List.tail_drop] using this
    rw [e, List.drop_drop]
  · rw [List.length_append, List.length_singleton, show 200 - (m.length + 1) = 199 - m.length by omega, ← hp]
    simp
  · rw [List.flatMap_append, List.length_append, h4]
    simp only [List.flatMap_cons, List.flatMap_nil, List.append_nil]
    rw [lvB_read ho, List.length_take]
    omega
theorem keyOk_spell {s : List UInt8} (h : keyOk s) : levelsF (parseN 200 s).flatten = parseN 200 s ∧ s.length = (spellB (parseN 200 s)).length := by
  have h0 := h
  unfold keyOk at h
  by_cases hp : levelsF (parseN 200 s).flatten = parseN 200 s
  · refine ⟨hp, ?_⟩
    have e : printF (parseN 200 s) = spellB (parseN 200 s) := by unfold printF; rw [if_pos hp]
    rw [e] at h
    have h2 := congrArg ByteArray.size h
    rw [bstr_size] at h2
    rw [h2]
    rfl
  · have e : printF (parseN 200 s) = [] := by unfold printF; rw [if_neg hp]
    rw [e] at h
    have h2 := congrArg ByteArray.size h
    rw [bstr_size] at h2
    have h3 : s.length = 0 := h2.symm
    obtain rfl := List.eq_nil_of_length_eq_zero h3
    exact absurd h0 nil_bad
theorem keyOk_full {s : List UInt8} (h : keyOk s) {m rest : List (List Ev)} (hp : m ++ ([] :: rest) = parseN 200 s) : False := by
  have h1 := (keyOk_spell h).1
  refine levelsF_ne (parseN 200 s).flatten m.length ?_ ?_
  · rw [h1, ← hp]; simp
  · rw [h1, ← hp]; simp [List.getD]
theorem doc_bad_read {s : List UInt8} {m : List (List Ev)} {k : Nat} {c : UInt8} {r : List UInt8} (h : DocAt s (c :: r) m k) (hs : s.length ≤ 200) (hc : c.toNat ≠ 0) (ho : readOk (r.take c.toNat) = false) : ¬ keyOk s := by
  intro hk
  have hp := docAt_parse h hs hc
  rw [readE_no' ho] at hp
  exact keyOk_full hk hp
theorem doc_bad_short {s : List UInt8} {m : List (List Ev)} {k : Nat} {c : UInt8} {r : List UInt8} (h : DocAt s (c :: r) m k) (hs : s.length ≤ 200) (hc : c.toNat ≠ 0) (hr : r.length < c.toNat) : ¬ keyOk s := by
  intro hk
  have hp := docAt_parse h hs hc
  rw [List.take_of_length_le (by omega), List.drop_eq_nil_of_le (by omega)] at hp
  cases ho : readOk r
  · rw [readE_no' ho] at hp
    exact keyOk_full hk hp
  · have e0 : parseN (199 - m.length) [] = [] := by cases 199 - m.length <;> rfl
    rw [e0] at hp
    have h2 := (keyOk_spell hk).2
    obtain ⟨h1, _, _, h4, _⟩ := h
    rw [← hp] at h2
    unfold spellB at h2
    rw [List.length_append, List.length_singleton, List.flatMap_append, List.length_append, h4] at h2
    simp only [List.flatMap_cons, List.flatMap_nil, List.append_nil] at h2
    rw [lvB_read ho] at h2
    rw [List.length_cons] at h1
    omega
theorem doc_end {s t : List UInt8} {m : List (List Ev)} {k : Nat} (h : DocAt s t m k) (ht : t = [] ∨ ∃ r, t = 0 :: r) : parseN 200 s = m := by
  obtain ⟨_, _, h3, _, _⟩ := h
  rw [← h3]
  rcases ht with rfl | ⟨r, rfl⟩
  · have e : parseN (200 - m.length) [] = [] := by cases 200 - m.length <;> rfl
    rw [e, List.append_nil]
  · have e : parseN (200 - m.length) (0 :: r) = [] := by cases 200 - m.length <;> simp [parseN]
    rw [e, List.append_nil]
theorem doc_end_bad {s t : List UInt8} {m : List (List Ev)} {k : Nat} (h : DocAt s t m k) (ht : t = [] ∨ ∃ r, t = 0 :: r) (hk : k + 1 ≠ s.length) : ¬ keyOk s := by
  intro ho
  have h2 := (keyOk_spell ho).2
  rw [doc_end h ht] at h2
  obtain ⟨_, _, _, h4, _⟩ := h
  unfold spellB at h2
  rw [List.length_append, List.length_singleton, h4] at h2
  omega
theorem doc_end_key {s t : List UInt8} {m : List (List Ev)} {k : Nat} (h : DocAt s t m k) (ht : t = [] ∨ ∃ r, t = 0 :: r) : keyOk s ↔ u8s (printF m) = s := by
  unfold keyOk
  rw [doc_end h ht, bstr_u8s]
  constructor
  · intro e
    injection e with e
    simpa using congrArg Array.toList e
  · intro e; rw [e]

end Go.Proofs.Ytljlaopjimkcmaa
