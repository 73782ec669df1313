/- Arguments that are rows, opened: whatever their elements are. Texts, bools, bytes as cells. -/
import Derived.Test.YtoaejkfejdaiaaaGen
import Derived.Test.YtoaejkfejdaiaaaCells
import Derived.ChangeMaps5
import Derived.SizedLaws
namespace Go.Proofs.Ytoaejkfejdaiaaa
open Go.RowKit Go.Deep Go.Joins Go.WideShapes Go.ChangeShapes Go.ChangeAt

def txtCell (k : List UInt8) : List Value := [.string ⟨k.toArray⟩]
theorem txtCell_len (k : List UInt8) : (txtCell k).length = 1 := rfl
theorem txtCell_one (k : List UInt8) : ∀ v ∈ txtCell k, v.oneCell' = true := by
  intro v hv
  simp [txtCell] at hv
  subst hv
  rfl
def boolCell (x : Bool) : List Value := [.bool x]
theorem boolCell_len (x : Bool) : (boolCell x).length = 1 := rfl
def byCell (n : Nat) : List Value := [.int .u8 (n : Nat)]
theorem byCell_len (n : Nat) : (byCell n).length = 1 := rfl
theorem wf_byte {n : Int} (h : (Lit.int .u8 n).wf = true) : 0 ≤ n ∧ n < 256 := by
  simp [Lit.wf, IntKind.min, IntKind.max, IntKind.signed, IntKind.bits] at h
  omega
section
variable {H : Type} {enc : TypeId × Value → H} {W : World} {base : Nat} {spare : Nat → Bool} {held : Bool}
set_option maxRecDepth 100000 in
theorem rows_of_trod {T : Type} {f : T → List Value} (P : T → DataW H → Prop) {n : Nat} (hn : 0 < n) (hf0 : ∀ x, (f x).length = n) {st et : TypeId} (hu : Try.prog.underlying st = some (.slice et)) (e4 : Try.prog.cellsOf et = n)
    (ho : ∀ fuel cs (x : DataW H × List MemPlace), DataW.trod enc Try.prog W base spare held fuel et cs = some x → ∃ y : T, cs = f y ∧ P y x.1)
    {r : Reach} {b0 : Nat} {v : Value} {d : DataW H} {p : List MemPlace} (hv : Value.okWide Try.prog W r b0 st v) (h : DataW.Trod enc Try.prog W base spare held st v d p) :
    ∃ (a : Option Addr) (l : List T) (cap : Nat), v = .slice a l.length cap ∧ RowAt W a n f l ∧ (a = none → cap = 0) ∧ (∀ y ∈ l, ∃ el sp dy, d = .slice el sp ∧ dy ∈ el ∧ P y dy) := by
  obtain ⟨a, len, cap, rfl⟩ := okWide_slice hu hv
  obtain ⟨fuel, hf⟩ := h
  rcases open_slice hu hf with ⟨e, _⟩ | ⟨a', len', cap', m, k, D, Pl, e, _, hl, hm, hmm, hxd, hi⟩
  · simp [Value.cells] at e
    obtain ⟨rfl, rfl, rfl⟩ := e
    exact ⟨none, [], 0, rfl, rowAt_nil _ _ _ _, fun _ => rfl, by simp⟩
  · simp [Value.cells] at e
    obtain ⟨rfl, rfl, rfl⟩ := e
    have hlm : len ≤ m := by rw [hmm]; split <;> omega
    obtain ⟨l, hll, hx⟩ := exists_list len (fun i (y : T) => P y (D i) ∧ ∀ j v, (f y)[j]? = some v → W.cell? (a'.add (i * n + j)) = some v) (fun i hi' => by
      obtain ⟨cs', hc, ht⟩ := hi i (by omega)
      rw [e4] at hc
      obtain ⟨y, rfl, hy⟩ := ho _ _ _ ht
      obtain ⟨_, _, hat⟩ := World.cells?_some hc
      refine ⟨y, hy, fun j v hv => ?_⟩
      have hj : j < n := by have := (List.getElem?_eq_some_iff.1 hv).1; rw [hf0] at this; exact this
      rw [← add_add, hat j hj]; exact hv)
    refine ⟨some a', l, cap, by rw [hll], ⟨by omega, fun hne => ?_⟩, by simp, fun y hy => ?_⟩
    · have hpos : 0 < l.length := List.length_pos_iff.2 hne
      have hfl : 0 < (f l[0]).length := by rw [hf0]; exact hn
      have h0 := (hx 0 l[0] (List.getElem?_eq_getElem hpos)).2 0 _ (List.getElem?_eq_getElem hfl)
      have hsp := World.cell?_spot h0
      have hsp' : a'.spot = none := by simpa [Addr.add] using hsp
      obtain ⟨b, o, s⟩ := a'
      subst hsp'
      refine ⟨b, o, rfl, fun i hi' j u hu => ?_⟩
      have hxi := (hx i l[i] (List.getElem?_eq_getElem hi')).2 j u hu
      simp only [add_row, ← Nat.add_assoc] at hxi
      exact hxi
    · obtain ⟨i, hi', rfl⟩ := List.getElem_of_mem hy
      have hp := (hx i l[i] (List.getElem?_eq_getElem hi')).1
      injection hxd with hxd _
      refine ⟨_, _, D i, hxd, List.mem_map.2 ⟨i, List.mem_range.2 (by omega), rfl⟩, hp⟩
set_option maxRecDepth 100000 in
theorem rows_of_trod0 {T : Type} {f : T → List Value} {n : Nat} (hn : 0 < n) (hf0 : ∀ x, (f x).length = n) {st et : TypeId} (hu : Try.prog.underlying st = some (.slice et)) (e4 : Try.prog.cellsOf et = n)
    (ho : ∀ fuel cs (x : DataW H × List MemPlace), DataW.trod enc Try.prog W base spare held fuel et cs = some x → ∃ y : T, cs = f y)
    {r : Reach} {b0 : Nat} {v : Value} {d : DataW H} {p : List MemPlace} (hv : Value.okWide Try.prog W r b0 st v) (h : DataW.Trod enc Try.prog W base spare held st v d p) :
    ∃ (a : Option Addr) (l : List T) (cap : Nat), v = .slice a l.length cap ∧ RowAt W a n f l ∧ (a = none → cap = 0) := by
  obtain ⟨a, l, cap, h1, h2, h3, _⟩ := rows_of_trod (fun _ _ => True) hn hf0 hu e4 (fun fuel cs x h => (ho fuel cs x h).imp fun _ h => ⟨h, trivial⟩) hv h
  exact ⟨a, l, cap, h1, h2, h3⟩
theorem weightsAll_memQ {P : Program} {e : TypeId} : ∀ {l : List (DataW H)} {d : DataW H}, d ∈ l → ∀ n ∈ d.weights P e, n ∈ DataW.weightsAll P e l
  | d' :: r, d, hd, n, hn => by
    simp only [DataW.weightsAll, List.mem_append]
    rcases List.mem_cons.1 hd with rfl | h
    · exact Or.inl hn
    · exact Or.inr (weightsAll_memQ h n hn)
set_option maxRecDepth 100000 in
/-- A text of a row has no more bytes than the reach. -/
theorem sized_txt {P : Program} {ts : List TypeId} {ds : List (DataW H)} (h : (DataW.weightsEach P ts ds).all (· ≤ reachBytes) = true) {j : Nat} {t e : TypeId} {el sp : List (DataW H)} (ht : ts[j]? = some t) (hd : ds[j]? = some (.slice el sp)) (hu : P.underlying t = some (.slice e)) {y : List UInt8} (hy : (DataW.lit (.string y) : DataW H) ∈ el) : y.length ≤ 281474976710656 := by
  have := List.all_eq_true.1 h _ (DataW.weights_mem_each ht hd y.length (by
    simp only [DataW.weights, hu]
    exact List.mem_cons_of_mem _ (List.mem_append_left _ (weightsAll_memQ hy _ (by simp [DataW.weights])))))
  have h2 : y.length ≤ reachBytes := by simpa using this
  simp only [reachBytes] at h2
  omega
end

end Go.Proofs.Ytoaejkfejdaiaaa
