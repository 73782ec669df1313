import Derived.Sort.Walk0
import Derived.Laws.StructEq
import Derived.StillTailTactics
import Derived.Deep.AppendSrc
import Derived.Deep.RegionHeld3
import Derived.Laws.OwnMore
import Derived.BigRegion
import Derived.Test.YtnldkmcijmbhcaaGreatPk01
import Derived.Test.YtnldkmcijmbhcaaGreatPk03
import Derived.Test.YtnldkmcijmbhcaaGreatPk04
import Derived.Test.YtnldkmcijmbhcaaGreatPk05
import Derived.Test.YtnldkmcijmbhcaaGreatPk06
import Derived.Test.YtnldkmcijmbhcaaGreatPk15

/- The document's put, plainly: a text put in, in order, each once. -/
namespace Go.Proofs.YtnldkmcijmbhcaaGreat
open Go.RowKit

/-- Put in ahead of the first greater one. -/
def insK (k : Key) : List Key → List Key
  | [] => [k]
  | x :: l => if k < x then k :: x :: l else x :: insK k l
def putK (l : List Key) (k : Key) : List Key := if k ∈ l then l else insK k l
theorem insK_len (k : Key) : ∀ l, (insK k l).length = l.length + 1
  | [] => rfl
  | x :: l => by
    unfold insK
    split
    · rfl
    · simp [insK_len k l]
theorem putK_len (l : List Key) (k : Key) : (putK l k).length ≤ l.length + 1 := by
  unfold putK
  split
  · omega
  · rw [insK_len]; omega
theorem mem_insK {k x : Key} : ∀ {l : List Key}, x ∈ insK k l ↔ x = k ∨ x ∈ l
  | [] => by simp [insK]
  | y :: l => by
    unfold insK
    split
    · simp
    · rw [List.mem_cons, mem_insK, List.mem_cons]
      constructor
      · rintro (h | h | h)
        · exact .inr (.inl h)
        · exact .inl h
        · exact .inr (.inr h)
      · rintro (h | h | h)
        · exact .inr (.inl h)
        · exact .inl h
        · exact .inr (.inr h)
theorem mem_putK {l : List Key} {k x : Key} : x ∈ putK l k ↔ x = k ∨ x ∈ l := by
  unfold putK
  split
  · rename_i h
    exact ⟨.inr, fun e => e.elim (fun e => e ▸ h) id⟩
  · exact mem_insK
theorem insK_sorted {k : Key} : ∀ {l : List Key}, l.Pairwise (· < ·) → k ∉ l → (insK k l).Pairwise (· < ·)
  | [], _, _ => by simp [insK]
  | y :: l, h, hk => by
    obtain ⟨h1, h2⟩ := List.pairwise_cons.1 h
    unfold insK
    split
    · rename_i hlt
      exact List.pairwise_cons.2 ⟨fun z hz => by
        rcases List.mem_cons.1 hz with rfl | hz
        · exact hlt
        · exact List.lt_trans hlt (h1 z hz), h⟩
    · rename_i hlt
      refine List.pairwise_cons.2 ⟨fun z hz => ?_, insK_sorted h2 (fun e => hk (List.mem_cons_of_mem _ e))⟩
      rcases mem_insK.1 hz with rfl | hz
      · have hle : y ≤ z := by
          rcases List.le_total y z with h | h
          · exact h
          · exact absurd (by
              rcases List.le_iff_lt_or_eq.1 h with h | h
              · exact h
              · exact absurd (h ▸ List.mem_cons_self) hk) hlt
        rcases List.le_iff_lt_or_eq.1 hle with h | h
        · exact h
        · exact absurd (h ▸ List.mem_cons_self) hk
      · exact h1 z hz
theorem putK_sorted {l : List Key} {k : Key} (h : l.Pairwise (· < ·)) : (putK l k).Pairwise (· < ·) := by
  unfold putK
  split
  · exact h
  · rename_i hk
    exact insK_sorted h hk
theorem putAll (ks : List Key) : ∀ l : List Key, l.Pairwise (· < ·) → (ks.foldl putK l).Pairwise (· < ·) ∧ ∀ x, x ∈ ks.foldl putK l ↔ x ∈ ks ∨ x ∈ l := by
  induction ks with
  | nil => intro l h; exact ⟨h, fun x => by simp⟩
  | cons k ks ih =>
    intro l h
    obtain ⟨h1, h2⟩ := ih (putK l k) (putK_sorted h)
    refine ⟨h1, fun x => ?_⟩
    rw [List.foldl_cons, h2, mem_putK, List.mem_cons]
    constructor
    · rintro (h | h | h)
      · exact .inl (.inr h)
      · exact .inl (.inl h)
      · exact .inr h
    · rintro ((h | h) | h)
      · exact .inr (.inl h)
      · exact .inl h
      · exact .inr (.inr h)
/-- What is put in one by one is what stands sorted, each once. -/
theorem putAll_sortK (ks : List Key) : ks.foldl putK [] = sortK ks := by
  obtain ⟨h1, h2⟩ := putAll ks [] List.Pairwise.nil
  refine sortK_unique (h1.imp fun {a b} h => ?_) (h1.imp fun {a b} h e => ?_) fun x => ?_
  · simp only [decide_eq_true_eq]
    exact List.le_of_lt h
  · subst e
    exact List.lt_irrefl _ h
  · rw [h2]; simp

/-- Part of the way. -/
def PutP (k : Key) (l : List Key) (j : Nat) (d : Bool) (R : List Key) : Prop :=
  k ∉ l.take j ∧ ((d = false ∧ R = l.take j ∧ insK k l = l.take j ++ insK k (l.drop j)) ∨ (d = true ∧ insK k l = R ++ l.drop j))
theorem putP_zero (k : Key) (l : List Key) : PutP k l 0 false [] := ⟨by simp, .inl ⟨rfl, rfl, rfl⟩⟩
theorem putP_not {k : Key} {l : List Key} {j : Nat} (h : k ∉ l.take j) (hj : j < l.length) (hne : l[j] ≠ k) : k ∉ l.take (j + 1) := by
  rw [List.take_succ_eq_append_getElem hj, List.mem_append]
  rintro (e | e)
  · exact h e
  · exact hne (List.mem_singleton.1 e).symm
theorem putP_lt {k : Key} {l : List Key} {j : Nat} {R : List Key} (h : PutP k l j false R) (hj : j < l.length) (hne : l[j] ≠ k) (hlt : k < l[j]) : PutP k l (j + 1) true (R ++ [k] ++ [l[j]]) := by
  obtain ⟨h0, ⟨_, h2, h3⟩ | ⟨h1, _⟩⟩ := h
  · refine ⟨putP_not h0 hj hne, .inr ⟨rfl, ?_⟩⟩
    rw [h3, List.drop_eq_getElem_cons hj, insK, if_pos hlt, h2]
    simp
  · cases h1
theorem putP_ge {k : Key} {l : List Key} {j : Nat} {R : List Key} (h : PutP k l j false R) (hj : j < l.length) (hne : l[j] ≠ k) (hlt : ¬ k < l[j]) : PutP k l (j + 1) false (R ++ [l[j]]) := by
  obtain ⟨h0, ⟨_, h2, h3⟩ | ⟨h1, _⟩⟩ := h
  · have e1 : R ++ [l[j]] = l.take (j + 1) := by rw [h2, List.take_succ_eq_append_getElem hj]
    refine ⟨putP_not h0 hj hne, .inl ⟨rfl, e1, ?_⟩⟩
    rw [h3, List.drop_eq_getElem_cons hj, insK, if_neg hlt, ← e1, h2, List.append_assoc]
    rfl
  · cases h1
theorem putP_on {k : Key} {l : List Key} {j : Nat} {R : List Key} (h : PutP k l j true R) (hj : j < l.length) (hne : l[j] ≠ k) : PutP k l (j + 1) true (R ++ [l[j]]) := by
  obtain ⟨h0, ⟨h1, _⟩ | ⟨_, h2⟩⟩ := h
  · cases h1
  · refine ⟨putP_not h0 hj hne, .inr ⟨rfl, ?_⟩⟩
    rw [h2, List.drop_eq_getElem_cons hj]
    simp
theorem putP_end {k : Key} {l R : List Key} {d : Bool} (h : PutP k l l.length d R) : putK l k = if d then R else R ++ [k] := by
  obtain ⟨h0, h⟩ := h
  rw [List.take_length] at h0 h
  rw [List.drop_length] at h
  unfold putK
  rw [if_neg h0]
  rcases h with ⟨rfl, h2, h3⟩ | ⟨rfl, h2⟩
  · rw [h3, h2]; rfl
  · rw [h2]; simp

end Go.Proofs.YtnldkmcijmbhcaaGreat

/- The contract of the document's put. -/
namespace Go.Proofs.YtnldkmcijmbhcaaGreat
open Go.RowKit Go.Sort


set_option maxRecDepth 100000 in
set_option maxHeartbeats 4000000 in
theorem put_any (B : Nat) (a : Option Addr) (cap : Nat) (ks : List Key) (k : Key) (w : World) (hl : OwnRow w B 9 1 strCell (.slice a ks.length cap) ks) (hm : ks.length ≤ 900000) (hB : B ≤ w.heap.size) :
    Calls Tryz.prog 29 #[.slice a ks.length cap, .string ⟨k.toArray⟩] w fun r w' => ∃ a2 cap2, r = .returned (.slice a2 (putK ks k).length cap2) ∧ OwnRow w' B 9 1 strCell (.slice a2 (putK ks k).length cap2) (putK ks k) ∧ Below w.heap.size w w' := by
  obtain ⟨a', cap', hv, hat, _⟩ := OwnRow.form hl strCell_len (by omega)
  injection hv with h1 _ h2
  subst h1 h2
  have HL := Lib.hid hl
  have HA := Lib.hid hat
  clear hl hat
  go_enter Tryz.func29, Tryz.ntmps29
  go_wp2
  go_loopw [5, 6, 7] (fun s5 d7 i wr => ∃ (j : Nat) (d : Bool) (R : List Key), j ≤ ks.length ∧ i = .int .i64 j ∧ d7 = .bool d ∧ R.length ≤ j + 1 ∧ Hid (PutP k ks j d R) ∧ Hid (OwnRow wr w.heap.size 9 1 strCell s5 R) ∧ Hid (Below w.heap.size w wr)) (fun _ _ i _ => ks.length - (intOf i).toNat)
  case atStart => exact ⟨0, false, [], Nat.zero_le _, rfl, rfl, by simp, putP_zero k ks, ownRow_nil _ _ _ _ _, Below.refl _ _⟩
  case round =>
    obtain ⟨j, d, R, hj, rfl, rfl, hR, HP, HO, HB⟩ := hrel
    by_cases hlt : j < ks.length
    · obtain ⟨b, o, rfl, c0⟩ := HA.out.str hlt
      have c1 := cell_later HB.out c0
      have hji : (j : Int) < (ks.length : Int) := by omega
      have hji0 : (0 : Int) ≤ j := by omega
      have HEQ : Hid (ks[j] = k → putK ks k = ks) := fun h => by unfold putK; rw [if_pos (by rw [← h]; exact List.getElem_mem hlt)]
      have HLT : Hid (d = false → ks[j] ≠ k → k < ks[j] → PutP k ks (j + 1) true (R ++ [k] ++ [ks[j]])) := fun hd h1 h2 => by subst hd; exact putP_lt HP.out hlt h1 h2
      have HGE : Hid (d = false → ks[j] ≠ k → ¬ k < ks[j] → PutP k ks (j + 1) false (R ++ [ks[j]])) := fun hd h1 h2 => by subst hd; exact putP_ge HP.out hlt h1 h2
      have HON : Hid (d = true → ks[j] ≠ k → PutP k ks (j + 1) true (R ++ [ks[j]])) := fun hd h1 => by subst hd; exact putP_on HP.out hlt h1
      have HC : Hid (∀ W, Below w.heap.size w W → W.cell? ⟨b, o + j, none⟩ = some (.string ⟨ks[j].toArray⟩)) := fun W h => cell_later h c0
      have hbs := HB.out.size
      have hsz := (below_alloc1 wr (.cells #[.string ⟨k.toArray⟩] 9)).size
      clear c0
      generalize ks[j] = x at *
      by_cases hx : x = k
      · have hq : (x == k) = true := by simp [hx]
        have HE := Lib.hid (HEQ.out hx)
        have HL2 := Lib.hid (HL.out.later HB.out)
        clear hx HLT HGE HON HEQ
        go_wp2_with fail
        go_ret
        exact ⟨some ⟨b, o, none⟩, cap, (by rw [HE.out]; rfl), by rw [HE.out]; exact HL2.out, HB.out⟩
      · have hq : (x == k) = false := by simp [hx]
        have HLT2 := Lib.hid (fun h => HLT.out h hx)
        have HGE2 := Lib.hid (fun h => HGE.out h hx)
        have HON2 := Lib.hid (fun h => HON.out h hx)
        clear hx HLT HGE HON HEQ
        cases d
        · by_cases hlx : k < x
          · have HI := Lib.hid (HLT2.out rfl hlx)
            have hR0 : R.length ≤ j := by rcases HP.out.2 with ⟨_, h, _⟩ | ⟨h, _⟩; · rw [h, List.length_take]; omega
                                          · cases h
            have hd : Op.bytesLess k x = true := by rw [bytesLess_eq]; simp [hlx]
            clear hlx HLT2 HGE2 HON2
            go_wp2_with (first
              | (at_builtin; refine wp_appendR (f := strCell) (n := 1) 29 9 16 (.string ByteArray.empty) Tryz.underlying29 infoStr rfl (by omega) (by omega) strCell_len rfl _ _ rfl w.heap.size _ (R ++ [k]) rfl (HO9.out.alloc _) ⟨w9.heap.size, 0, none⟩ rfl x (strCell_one _) (cells_new w9 (strCell x) _ _ rfl) (by simp; omega) (Nat.le_trans hb9s (below_alloc1 _ _).size) ?_; intro v2 w2 hown2 hb2 _; have HO2 := Lib.hid hown2; have HB2 := Lib.hid (HB9.out.trans (((below_alloc1 w9 (.cells #[.string ⟨x.toArray⟩] 9)).mono hb9s).trans hb2)); clear hown2 hb2)
              | (at_builtin; refine wp_appendR (f := strCell) (n := 1) 29 9 16 (.string ByteArray.empty) Tryz.underlying29 infoStr rfl (by omega) (by omega) strCell_len rfl _ _ rfl w.heap.size _ R rfl (HO.out.alloc _) ⟨wr.heap.size, 0, none⟩ rfl k (strCell_one _) (cells_new wr (strCell k) _ _ rfl) (by omega) (Nat.le_trans hbs (below_alloc1 _ _).size) ?_; intro v9 w9 hown9 hb9 _; have HO9 := Lib.hid hown9; have HB9 := Lib.hid (HB.out.trans (((below_alloc1 wr (.cells #[.string ⟨k.toArray⟩] 9)).mono hbs).trans hb9)); have hb9s := HB9.out.size; have c9 := HC.out w9 HB9.out; clear hown9 hb9))
            go_roundw
            case rel => exact ⟨j + 1, true, R ++ [k] ++ [x], by omega, by go_num, rfl, by simp; omega, HI.out, HO2.out, HB2.out⟩
            case measure => simp [intOf]; omega
          · have HI := Lib.hid (HGE2.out rfl hlx)
            have hR0 : R.length ≤ j := by rcases HP.out.2 with ⟨_, h, _⟩ | ⟨h, _⟩; · rw [h, List.length_take]; omega
                                          · cases h
            have hd : Op.bytesLess k x = false := by rw [bytesLess_eq]; simp [hlx]
            clear hlx HLT2 HGE2 HON2
            go_wp2_with (at_builtin; refine wp_appendR (f := strCell) (n := 1) 29 9 16 (.string ByteArray.empty) Tryz.underlying29 infoStr rfl (by omega) (by omega) strCell_len rfl _ _ rfl w.heap.size _ R rfl (HO.out.alloc _) ⟨wr.heap.size, 0, none⟩ rfl x (strCell_one _) (cells_new wr (strCell x) _ _ rfl) (by omega) (Nat.le_trans hbs (below_alloc1 _ _).size) ?_; intro v9 w9 hown9 hb9 _; have HO9 := Lib.hid hown9; have HB9 := Lib.hid (HB.out.trans (((below_alloc1 wr (.cells #[.string ⟨x.toArray⟩] 9)).mono hbs).trans hb9)); clear hown9 hb9)
            go_roundw
            case rel => exact ⟨j + 1, false, R ++ [x], by omega, by go_num, rfl, by simp; omega, HI.out, HO9.out, HB9.out⟩
            case measure => simp [intOf]; omega
        · have HI := Lib.hid (HON2.out rfl)
          clear HLT2 HGE2 HON2
          go_wp2_with (at_builtin; refine wp_appendR (f := strCell) (n := 1) 29 9 16 (.string ByteArray.empty) Tryz.underlying29 infoStr rfl (by omega) (by omega) strCell_len rfl _ _ rfl w.heap.size _ R rfl (HO.out.alloc _) ⟨wr.heap.size, 0, none⟩ rfl x (strCell_one _) (cells_new wr (strCell x) _ _ rfl) (by omega) (Nat.le_trans hbs (below_alloc1 _ _).size) ?_; intro v9 w9 hown9 hb9 _; have HO9 := Lib.hid hown9; have HB9 := Lib.hid (HB.out.trans (((below_alloc1 wr (.cells #[.string ⟨x.toArray⟩] 9)).mono hbs).trans hb9)); clear hown9 hb9)
          go_roundw
          case rel => exact ⟨j + 1, true, R ++ [x], by omega, by go_num, rfl, by simp; omega, HI.out, HO9.out, HB9.out⟩
          case measure => simp [intOf]; omega
    · obtain rfl : j = ks.length := by omega
      have HE := Lib.hid (putP_end HP.out)
      have hbs := HB.out.size
      cases d
      · have HE2 : Hid (putK ks k = R ++ [k]) := HE.out
        go_wp2_with (at_builtin; refine wp_appendR (f := strCell) (n := 1) 29 9 16 (.string ByteArray.empty) Tryz.underlying29 infoStr rfl (by omega) (by omega) strCell_len rfl _ _ rfl w.heap.size _ R rfl (HO.out.alloc _) ⟨wr.heap.size, 0, none⟩ rfl k (strCell_one _) (cells_new wr (strCell k) _ _ rfl) (by omega) (Nat.le_trans hbs (below_alloc1 _ _).size) ?_; intro v9 w9 hown9 hb9 _; have HO9 := Lib.hid hown9; have HB9 := Lib.hid (HB.out.trans (((below_alloc1 wr (.cells #[.string ⟨k.toArray⟩] 9)).mono hbs).trans hb9)); have hb9s := HB9.out.size; clear hown9 hb9)
        obtain ⟨a2, cap2, hv2, _, _⟩ := OwnRow.form HO9.out strCell_len (by simp; omega)
        subst hv2
        go_wp2_with fail
        go_ret
        exact ⟨a2, cap2, (by rw [HE2.out]; rfl), by rw [HE2.out]; exact ownsRow_base HO9.out hB, HB9.out⟩
      · have HE2 : Hid (putK ks k = R) := HE.out
        obtain ⟨a2, cap2, hv2, _, _⟩ := OwnRow.form HO.out strCell_len (by omega)
        subst hv2
        go_wp2_with fail
        go_ret
        exact ⟨a2, cap2, (by rw [HE2.out]; rfl), by rw [HE2.out]; exact ownsRow_base HO.out hB, HB.out⟩

end Go.Proofs.YtnldkmcijmbhcaaGreat

/- Two events held against one another. -/
namespace Go.Proofs.YtnldkmcijmbhcaaGreat
open Go.RowKit


end Go.Proofs.YtnldkmcijmbhcaaGreat

/- Rows of events: append, SameEvents. -/
namespace Go.Proofs.YtnldkmcijmbhcaaGreat
open Go.RowKit

end Go.Proofs.YtnldkmcijmbhcaaGreat

/- A state of the document in memory: a block of ten cells, and a row of threads. -/
namespace Go.Proofs.YtnldkmcijmbhcaaGreat
open Go.RowKit

def thrCell (x : Thr) : List Value := [.int .i64 x.at_, .int .i64 x.fuel, .int .i64 (x.r.getD 0 0), .int .i64 (x.r.getD 1 0)]
def thrCells (l : List Thr) : List Value := l.flatMap thrCell
theorem thrCells_length (l : List Thr) : (thrCells l).length = l.length * 4 := by
  induction l with
  | nil => rfl
  | cons i l ih => simp only [thrCells, thrCell, List.flatMap_cons, List.length_append, List.length_cons, List.length_nil] at *; omega
theorem thrCells_append (a b : List Thr) : thrCells (a ++ b) = thrCells a ++ thrCells b := by simp [thrCells]
theorem thrCells_get (l : List Thr) (i j : Nat) (h : i < l.length) (hj : j < 4) : (thrCells l)[i * 4 + j]? = (thrCell l[i])[j]? := by
  induction l generalizing i with
  | nil => simp at h
  | cons x l ih =>
    cases i with
    | zero =>
      simp only [thrCells, List.flatMap_cons, Nat.zero_mul, Nat.zero_add, List.getElem_cons_zero]
      rw [List.getElem?_append_left (by simpa [thrCell] using hj)]
    | succ i =>
      have := ih i (by simpa using h)
      simp only [thrCells, List.flatMap_cons, List.getElem_cons_succ] at *
      rw [List.getElem?_append_right (by simp [thrCell]; omega), ← this]
      congr 1
      simp [thrCell]
      omega
theorem thrCells_one (l : List Thr) : ∀ v ∈ thrCells l, v.oneCell' = true := by
  intro v hv
  simp only [thrCells, List.mem_flatMap] at hv
  obtain ⟨i, _, hv⟩ := hv
  simp [thrCell] at hv
  rcases hv with rfl | rfl | rfl | rfl <;> rfl
theorem thrCells_set (l : List Thr) (t k : Nat) (y : Thr) (v : Value) (ht : t < l.length) (hk : k < 4) (hy : ∀ j, j < 4 → (thrCell y)[j]? = if j = k then some v else (thrCell l[t])[j]?) :
    (thrCells l).set (t * 4 + k) v = thrCells (l.set t y) := by
  apply List.ext_getElem?
  intro j
  have hl := thrCells_length l
  have hl2 : (thrCells (l.set t y)).length = l.length * 4 := by rw [thrCells_length]; simp
  by_cases hj : j < l.length * 4
  · obtain ⟨i, d, rfl, hd⟩ : ∃ i d, j = i * 4 + d ∧ d < 4 := ⟨j / 4, j % 4, by omega, by omega⟩
    have hi : i < l.length := by omega
    rw [thrCells_get (l.set t y) i d (by simpa using hi) hd, List.getElem?_set]
    by_cases e : t = i
    · subst e
      simp only [List.getElem_set_self]
      rw [hy d hd]
      by_cases e2 : d = k
      · subst e2; rw [if_pos rfl, if_pos (by omega), if_pos rfl]
      · rw [if_neg (by omega), if_neg e2, thrCells_get l t d ht hd]
    · rw [if_neg (by omega), List.getElem_set_ne e, thrCells_get l i d hi hd]
  · rw [List.getElem?_eq_none (by simp; omega), List.getElem?_eq_none (by omega)]

def refA (s : St) (a : Option Addr) (cap tb tcap : Nat) : Array Value :=
  #[.int .i64 s.p.vars, .int .i64 s.p.mutexes, .slice a s.p.threads.length cap, .slice (some ⟨tb, 0, none⟩) s.ts.length tcap,
    .int .i64 (s.v.getD 0 0), .int .i64 (s.v.getD 1 0), .int .i64 (s.v.getD 2 0), .int .i64 (s.v.getD 3 0), .int .i64 (s.m.getD 0 (-1)), .int .i64 (s.m.getD 1 (-1))]

/-- In the blocks b and tb lies the document's state s. -/
def RefAt (w : World) (b tb : Nat) (a : Option Addr) (cap tcap : Nat) (s : St) : Prop :=
  w.heap[b]? = some (.cells (refA s a cap tb tcap) 72 (0, 0)) ∧ b ≠ tb ∧ ∃ cur, w.heap[tb]? = some (.cells cur 75 (0, 0)) ∧ cur.toList.take (s.ts.length * 4) = thrCells s.ts

section
variable {w : World} {b tb : Nat} {a : Option Addr} {cap tcap : Nat} {s : St}
theorem RefAt.lt (h : RefAt w b tb a cap tcap s) : b < w.heap.size ∧ tb < w.heap.size := by
  obtain ⟨h1, _, cur, h2, _⟩ := h
  exact ⟨(Array.getElem?_eq_some_iff.1 h1).1, (Array.getElem?_eq_some_iff.1 h2).1⟩
theorem RefAt.later {w' : World} (h : RefAt w b tb a cap tcap s) (hb : Below w.heap.size w w') : RefAt w' b tb a cap tcap s := by
  have hl := h.lt
  obtain ⟨h1, h0, cur, h2, h3⟩ := h
  exact ⟨(hb.block b hl.1).trans h1, h0, cur, (hb.block tb hl.2).trans h2, h3⟩
theorem RefAt.only {w' : World} {g : Nat} (h : RefAt w b tb a cap tcap s) (ho : Only g w w') (hb : b ≠ g) (ht : tb ≠ g) : RefAt w' b tb a cap tcap s := by
  have hl := h.lt
  obtain ⟨h1, h0, cur, h2, h3⟩ := h
  exact ⟨(ho.block b hl.1 hb).trans h1, h0, cur, (ho.block tb hl.2 ht).trans h2, h3⟩
theorem RefAt.drewN (h : RefAt w b tb a cap tcap s) (n : Nat) : RefAt (w.drewN n) b tb a cap tcap s := h
theorem RefAt.frozen (h : RefAt w b tb a cap tcap s) (o : Nat) : w.frozen? ⟨b, o, none⟩ = false ∧ w.frozen? ⟨tb, o, none⟩ = false := by
  obtain ⟨h1, _, cur, h2, _⟩ := h
  simp [World.frozen?, h1, h2]
theorem RefAt.prog (h : RefAt w b tb a cap tcap s) : w.cell? ⟨b, 2, none⟩ = some (.slice a s.p.threads.length cap) ∧ w.cell? ⟨b, 3, none⟩ = some (.slice (some ⟨tb, 0, none⟩) s.ts.length tcap) := by
  simp [World.cell?, h.1, refA]
theorem RefAt.var (h : RefAt w b tb a cap tcap s) (x : Nat) (hx : x < 4) : w.cell? ⟨b, 4 + x, none⟩ = some (.int .i64 (s.v.getD x 0)) := by
  obtain rfl | rfl | rfl | rfl : x = 0 ∨ x = 1 ∨ x = 2 ∨ x = 3 := by omega
  all_goals simp [World.cell?, h.1, refA]
theorem RefAt.who (h : RefAt w b tb a cap tcap s) (x : Nat) (hx : x < 2) : w.cell? ⟨b, 8 + x, none⟩ = some (.int .i64 (s.who x)) := by
  obtain rfl | rfl : x = 0 ∨ x = 1 := by omega
  all_goals
    simp only [World.cell?, h.1, refA]
    rfl
theorem RefAt.thr (h : RefAt w b tb a cap tcap s) (t : Nat) (ht : t < s.ts.length) (k : Nat) (hk : k < 4) : w.cell? ⟨tb, t * 4 + k, none⟩ = (thrCell (s.th t))[k]? := by
  obtain ⟨_, _, cur, h2, h3⟩ := h
  have hg := thrCells_get s.ts t k ht hk
  rw [← h3, List.getElem?_take_of_lt (by omega)] at hg
  have e : s.th t = s.ts[t] := getD_lt _ ht
  rw [e, ← hg]
  simp [World.cell?, h2]
theorem RefAt.at_ (h : RefAt w b tb a cap tcap s) (t : Nat) (ht : t < s.ts.length) : w.cell? ⟨tb, t * 4, none⟩ = some (.int .i64 (s.th t).at_) := h.thr t ht 0 (by omega)
theorem RefAt.fuel (h : RefAt w b tb a cap tcap s) (t : Nat) (ht : t < s.ts.length) : w.cell? ⟨tb, t * 4 + 1, none⟩ = some (.int .i64 (s.th t).fuel) := h.thr t ht 1 (by omega)
theorem RefAt.reg (h : RefAt w b tb a cap tcap s) (t : Nat) (ht : t < s.ts.length) (r : Nat) (hr : r < 2) : w.cell? ⟨tb, t * 4 + 2 + r, none⟩ = some (.int .i64 ((s.th t).r.getD r 0)) := by
  obtain rfl | rfl : r = 0 ∨ r = 1 := by omega
  · exact h.thr t ht 2 (by omega)
  · exact h.thr t ht 3 (by omega)

theorem RefAt.setThr (h : RefAt w b tb a cap tcap s) (t k : Nat) (y : Thr) (v : Value) (ht : t < s.ts.length) (hk : k < 4) (hy : ∀ j, j < 4 → (thrCell y)[j]? = if j = k then some v else (thrCell (s.th t))[j]?) :
    RefAt (w.setCell ⟨tb, t * 4 + k, none⟩ v) b tb a cap tcap (s.put t y) := by
  have e : s.th t = s.ts[t] := getD_lt _ ht
  rw [e] at hy
  obtain ⟨h1, h0, cur, h2, h3⟩ := h
  have hlen : (s.put t y).ts.length = s.ts.length := St.put_len s t y
  have ets : (s.put t y).ts = s.ts.set t y := by simp [St.put]
  refine ⟨?_, h0, _, heap_setCell_same w tb (t * 4 + k) cur _ v h2, ?_⟩
  · rw [Below.heap_setCell _ _ _ _ h0, h1]
    unfold refA
    rw [hlen]
    rfl
  · rw [hlen, ets, ← thrCells_set s.ts t k y v ht hk hy, ← h3]
    simp [List.take_set]
theorem RefAt.setAt (h : RefAt w b tb a cap tcap s) (t n : Nat) (ht : t < s.ts.length) : RefAt (w.setCell ⟨tb, t * 4, none⟩ (.int .i64 n)) b tb a cap tcap (s.put t { s.th t with at_ := n }) :=
  h.setThr t 0 _ _ ht (by omega) (fun j hj => by
    obtain rfl | rfl | rfl | rfl : j = 0 ∨ j = 1 ∨ j = 2 ∨ j = 3 := by omega
    all_goals rfl)
theorem RefAt.setFuel (h : RefAt w b tb a cap tcap s) (t n : Nat) (ht : t < s.ts.length) : RefAt (w.setCell ⟨tb, t * 4 + 1, none⟩ (.int .i64 n)) b tb a cap tcap (s.put t { s.th t with fuel := n }) :=
  h.setThr t 1 _ _ ht (by omega) (fun j hj => by
    obtain rfl | rfl | rfl | rfl : j = 0 ∨ j = 1 ∨ j = 2 ∨ j = 3 := by omega
    all_goals rfl)
theorem RefAt.setReg (h : RefAt w b tb a cap tcap s) (t r : Nat) (n : Int) (ht : t < s.ts.length) (hr : r < 2) (hl : (s.th t).r.length = 2) : RefAt (w.setCell ⟨tb, t * 4 + 2 + r, none⟩ (.int .i64 n)) b tb a cap tcap (s.put t { s.th t with r := (s.th t).r.set r n }) := by
  rw [Nat.add_assoc]
  refine h.setThr t (2 + r) _ _ ht (by omega) (fun j hj => ?_)
  obtain rfl | rfl | rfl | rfl : j = 0 ∨ j = 1 ∨ j = 2 ∨ j = 3 := by omega
  · rw [if_neg (by omega)]; rfl
  · rw [if_neg (by omega)]; rfl
  · simp only [thrCell, List.getElem?_cons_succ, List.getElem?_cons_zero]
    rw [getD_set _ _ _ _ _ (by omega)]
    by_cases e : r = 0
    · subst e; simp
    · rw [if_neg (by omega), if_neg (by omega)]
  · simp only [thrCell, List.getElem?_cons_succ, List.getElem?_cons_zero]
    rw [getD_set _ _ _ _ _ (by omega)]
    by_cases e : r = 1
    · subst e; simp
    · rw [if_neg (by omega), if_neg (by omega)]
theorem RefAt.setVar (h : RefAt w b tb a cap tcap s) (x : Nat) (n : Int) (hx : x < 4) (hl : s.v.length = 4) : RefAt (w.setCell ⟨b, 4 + x, none⟩ (.int .i64 n)) b tb a cap tcap { s with v := s.v.set x n } := by
  obtain ⟨h1, h0, cur, h2, h3⟩ := h
  refine ⟨?_, h0, cur, (Below.heap_setCell _ _ _ _ (fun e => h0 e.symm)).trans h2, h3⟩
  rw [heap_setCell_same w b (4 + x) _ _ _ h1]
  congr 2
  unfold refA
  dsimp only
  simp only [getD_set _ _ _ _ _ (show x < s.v.length by omega)]
  obtain rfl | rfl | rfl | rfl : x = 0 ∨ x = 1 ∨ x = 2 ∨ x = 3 := by omega
  all_goals rfl
theorem RefAt.setWho (h : RefAt w b tb a cap tcap s) (x : Nat) (n : Int) (hx : x < 2) (hl : s.m.length = 2) : RefAt (w.setCell ⟨b, 8 + x, none⟩ (.int .i64 n)) b tb a cap tcap { s with m := s.m.set x n } := by
  obtain ⟨h1, h0, cur, h2, h3⟩ := h
  refine ⟨?_, h0, cur, (Below.heap_setCell _ _ _ _ (fun e => h0 e.symm)).trans h2, h3⟩
  rw [heap_setCell_same w b (8 + x) _ _ _ h1]
  congr 2
  unfold refA
  dsimp only
  simp only [getD_set _ _ _ _ _ (show x < s.m.length by omega)]
  obtain rfl | rfl : x = 0 ∨ x = 1 := by omega
  all_goals rfl
theorem RefAt.other {g : Nat} (h : RefAt w b tb a cap tcap s) (hb : b ≠ g) (ht : tb ≠ g) (o : Nat) (v : Value) : RefAt (w.setCell ⟨g, o, none⟩ v) b tb a cap tcap s := by
  obtain ⟨h1, h0, cur, h2, h3⟩ := h
  exact ⟨(Below.heap_setCell _ _ _ _ hb).trans h1, h0, cur, (Below.heap_setCell _ _ _ _ ht).trans h2, h3⟩
end

/-- All but the blocks b and c is as it was. -/
structure Only2 (b c : Nat) (w w' : World) : Prop where
  os : w'.os = w.os
  tape : w'.tape = w.tape
  output : w'.output = w.output
  size : w.heap.size ≤ w'.heap.size
  block : ∀ k, k < w.heap.size → k ≠ b → k ≠ c → w'.heap[k]? = w.heap[k]?

theorem Only2.refl (b c : Nat) (w : World) : Only2 b c w w := ⟨rfl, rfl, rfl, Nat.le_refl _, fun _ _ _ _ => rfl⟩
theorem Only2.trans {b c : Nat} {u v w : World} (h : Only2 b c u v) (k : Only2 b c v w) : Only2 b c u w :=
  ⟨k.os.trans h.os, k.tape.trans h.tape, k.output.trans h.output, Nat.le_trans h.size k.size, fun i hi hb hc => (k.block i (Nat.lt_of_lt_of_le hi h.size) hb hc).trans (h.block i hi hb hc)⟩
theorem Only2.of_below {b c : Nat} {w w' : World} (h : Below w.heap.size w w') : Only2 b c w w' := ⟨h.os, h.tape, h.output, h.size, fun k hk _ _ => h.block k hk⟩
theorem Only2.alloc {b c : Nat} {w w' : World} (h : Only2 b c w w') (o : Obj) : Only2 b c w (w'.alloc o) := h.trans (.of_below ((Below.refl _ _).alloc (Nat.le_refl _) _))
theorem Only2.drew {b c : Nat} {w w' : World} (h : Only2 b c w w') : Only2 b c w w'.drew := ⟨h.os, h.tape, h.output, h.size, h.block⟩
theorem Only2.drewN {b c : Nat} {w w' : World} (h : Only2 b c w w') {n : Nat} : Only2 b c w (w'.drewN n) := ⟨h.os, h.tape, h.output, h.size, h.block⟩
theorem Only2.setCell {b c g : Nat} {w w' : World} (h : Only2 b c w w') (hg : g = b ∨ g = c ∨ w.heap.size ≤ g) (o : Nat) (v : Value) : Only2 b c w (w'.setCell ⟨g, o, none⟩ v) :=
  ⟨h.os, h.tape, h.output, by simp [World.setCell]; exact h.size, fun k hk hb hc => (Below.heap_setCell _ _ _ _ (by show k ≠ g; omega)).trans (h.block k hk hb hc)⟩
theorem Only2.set4 {b c g : Nat} {w w1 : World} (h : Only2 b c w w1) (hg : w.heap.size ≤ g) (v0 v1 v2 v3 : Value) : Only2 b c w ((((w1.setCell ⟨g, 0, none⟩ v0).setCell ⟨g, 1, none⟩ v1).setCell ⟨g, 2, none⟩ v2).setCell ⟨g, 3, none⟩ v3) :=
  (((h.setCell (.inr (.inr hg)) 0 v0).setCell (.inr (.inr hg)) 1 v1).setCell (.inr (.inr hg)) 2 v2).setCell (.inr (.inr hg)) 3 v3
theorem Only2.below {b c B : Nat} {w w' : World} (h : Only2 b c w w') (hb : B ≤ b) (hc : B ≤ c) (hw : B ≤ w.heap.size) : Below B w w' :=
  ⟨h.os, h.tape, h.output, h.size, fun k hk => h.block k (by omega) (by omega) (by omega)⟩
theorem below_heap2 (w : World) (o o2 : Obj) {k : Nat} (hk : k < w.heap.size) : ((w.alloc o).alloc o2).heap[k]? = w.heap[k]? := by
  rw [Below.heap_alloc _ _ _ (by simp; omega), Below.heap_alloc _ _ _ hk]

/-- Behind two new blocks: an event that is none, an instruction. -/
theorem mid_world {w W : World} {k r x m : Int} {n : Nat} (h : ((w.alloc (.cells #[.int .i64 0, .int .i64 0, .int .i64 0, .bool false] 81)).drewN n).alloc (.cells #[.int .i64 k, .int .i64 r, .int .i64 x, .int .i64 m] 48) = W) :
    Below w.heap.size w W ∧ (W.cell? ⟨w.heap.size, 0, none⟩ = some (.int .i64 0) ∧ W.cell? ⟨w.heap.size, 1, none⟩ = some (.int .i64 0) ∧ W.cell? ⟨w.heap.size, 2, none⟩ = some (.int .i64 0) ∧ W.cell? ⟨w.heap.size, 3, none⟩ = some (.bool false)) ∧
      (W.frozen? ⟨w.heap.size, 0, none⟩ = false ∧ W.frozen? ⟨w.heap.size, 1, none⟩ = false ∧ W.frozen? ⟨w.heap.size, 2, none⟩ = false ∧ W.frozen? ⟨w.heap.size, 3, none⟩ = false) ∧
      (W.cell? ⟨w.heap.size + 1, 0, none⟩ = some (.int .i64 k) ∧ W.cell? ⟨w.heap.size + 1, 1, none⟩ = some (.int .i64 r) ∧ W.cell? ⟨w.heap.size + 1, 2, none⟩ = some (.int .i64 x) ∧ W.cell? ⟨w.heap.size + 1, 3, none⟩ = some (.int .i64 m)) ∧ w.heap.size + 1 < W.heap.size ∧ w.heap.size < W.heap.size := by
  subst h
  have g0 : (((w.alloc (.cells #[.int .i64 0, .int .i64 0, .int .i64 0, .bool false] 81)).drewN n).alloc (.cells #[.int .i64 k, .int .i64 r, .int .i64 x, .int .i64 m] 48)).heap[w.heap.size]? = some (.cells #[.int .i64 0, .int .i64 0, .int .i64 0, .bool false] 81 (0, 0)) := heap_alloc2_old w _ _
  have g1 : (((w.alloc (.cells #[.int .i64 0, .int .i64 0, .int .i64 0, .bool false] 81)).drewN n).alloc (.cells #[.int .i64 k, .int .i64 r, .int .i64 x, .int .i64 m] 48)).heap[w.heap.size + 1]? = some (.cells #[.int .i64 k, .int .i64 r, .int .i64 x, .int .i64 m] 48 (0, 0)) := heap_alloc2_new w _ _
  have l0 := (Array.getElem?_eq_some_iff.1 g0).1
  have l1 := (Array.getElem?_eq_some_iff.1 g1).1
  refine ⟨⟨rfl, rfl, rfl, by omega, fun k hk => ?_⟩, ?_, ?_, ?_, l1, l0⟩
  · exact (below_heap2 w _ _ hk)
  · simp only [World.cell?, g0]; exact ⟨rfl, rfl, rfl, rfl⟩
  · simp only [World.frozen?, g0]; exact ⟨rfl, rfl, rfl, rfl⟩
  · simp only [World.cell?, g1]; exact ⟨rfl, rfl, rfl, rfl⟩
end Go.Proofs.YtnldkmcijmbhcaaGreat

/- The contract of the document's Instr. -/
namespace Go.Proofs.YtnldkmcijmbhcaaGreat
open Go.RowKit

def withinB (n lo hi : Int) : Bool := decide (lo ≤ n ∧ n ≤ hi)
theorem within_any (n lo hi : Int) (w : World) : Calls Tryz.prog 26 #[.int .i64 n, .int .i64 lo, .int .i64 hi] w fun r w' => r = .returned (.bool (withinB n lo hi)) ∧ w = w' := by
  go_enter Tryz.func26, Tryz.ntmps26
  go_wp2
  all_goals
    go_ret
    refine ⟨ret_bool ?_, rfl⟩
    simp [withinB]
    try omega

set_option maxRecDepth 100000 in
set_option maxHeartbeats 1000000 in
theorem refInstr_any (V M size : Int) (_hs : 0 ≤ size) (_hs2 : size ≤ 1000) (hV : 0 ≤ V) (hV2 : V ≤ 4) (hM : 0 ≤ M) (hM2 : M ≤ 2) (t : Value) (i : Ins) (w : World) :
    Calls Tryz.prog 27 #[.agg #[.int .i64 V, .int .i64 M, t], .int .i64 size, insV i] w fun r w' => r = .returned (.bool (rightIns V M size i)) ∧ Below w.heap.size w w' := by
  obtain ⟨k, ri, x, n⟩ := i
  unfold insV
  dsimp only
  go_enter Tryz.func27, Tryz.ntmps27
  go_wp2_with (go_at_call 26; refine (within_any _ _ _ _).mono ?_; rintro r w' ⟨rfl, rfl⟩)
  all_goals
    go_ret
    refine ⟨ret_bool ?_, below_alloc2 _ _ _⟩
    simp [withinB] at *
    rw [Bool.eq_iff_iff]
    simp [rightIns, *]
    try (first | omega | (split <;> omega))
end Go.Proofs.YtnldkmcijmbhcaaGreat

/- The contract of the document's Right. -/
namespace Go.Proofs.YtnldkmcijmbhcaaGreat
open Go.RowKit

set_option maxRecDepth 100000 in
set_option maxHeartbeats 1000000 in
theorem refRight_any (p : Pg) (a : Option Addr) (cap : Nat) (w : World) (hp : ThreadsAt w a p.threads) :
    Calls Tryz.prog 16 #[pgV p a cap] w fun r w' => r = .returned (.bool (rightPg p)) ∧ Below w.heap.size w w' := by
  obtain ⟨V, M, ts⟩ := p
  unfold pgV
  dsimp only at *
  have hm := hp.1
  unfold maxLen at hm
  have HL := Lib.hid hp
  clear hp
  cases hV : withinB V 0 4
  · have H : Hid (rightPg ⟨V, M, ts⟩ = false) := by
      show _ = _
      simp [withinB] at hV
      simp [rightPg]; omega
    go_enter Tryz.func16, Tryz.ntmps16
    go_wp2_with (go_at_call 26; refine (within_any _ _ _ _).mono ?_; rintro r w' ⟨rfl, rfl⟩)
    go_ret
    exact ⟨ret_bool H.out.symm, below_alloc1 _ _⟩
  cases hM : withinB M 0 2
  · have H : Hid (rightPg ⟨V, M, ts⟩ = false) := by
      show _ = _
      simp [withinB] at hM
      simp [rightPg]; omega
    go_enter Tryz.func16, Tryz.ntmps16
    go_wp2_with (go_at_call 26; refine (within_any _ _ _ _).mono ?_; rintro r w' ⟨rfl, rfl⟩)
    go_ret
    exact ⟨ret_bool H.out.symm, below_alloc1 _ _⟩
  cases hT : withinB ts.length 1 4
  · have H : Hid (rightPg ⟨V, M, ts⟩ = false) := by
      show _ = _
      simp [withinB] at hT
      simp [rightPg]; omega
    go_enter Tryz.func16, Tryz.ntmps16
    go_wp2_with (go_at_call 26; refine (within_any _ _ _ _).mono ?_; rintro r w' ⟨rfl, rfl⟩)
    go_ret
    exact ⟨ret_bool H.out.symm, below_alloc1 _ _⟩
  have bV : 0 ≤ V ∧ V ≤ 4 := by simpa [withinB] using hV
  have bM : 0 ≤ M ∧ M ≤ 2 := by simpa [withinB] using hM
  have bT : 1 ≤ ts.length ∧ ts.length ≤ 4 := by simp [withinB] at hT; omega
  have H : Hid (rightPg ⟨V, M, ts⟩ = ts.all (rightCode V M)) := by
    show _ = _
    have : decide (0 ≤ V ∧ V ≤ 4 ∧ 0 ≤ M ∧ M ≤ 2 ∧ 1 ≤ ts.length ∧ ts.length ≤ 4) = true := by simp; omega
    unfold rightPg
    dsimp only
    rw [this, Bool.true_and]
  obtain ⟨bV1, bV2⟩ := bV
  obtain ⟨bM1, bM2⟩ := bM
  obtain ⟨bT1, bT2⟩ := bT
  go_enter Tryz.func16, Tryz.ntmps16
  go_wp2_with (go_at_call 26; refine (within_any _ _ _ _).mono ?_; rintro r w' ⟨rfl, rfl⟩)
  go_loopw [3] (fun i wr => ∃ k : Nat, k ≤ ts.length ∧ i = .int .i64 k ∧ Hid ((ts.take k).all (rightCode V M) = true) ∧ Below (w.heap.size + 1) (w.alloc (.cells #[.int .i64 V, .int .i64 M, .slice a ts.length cap] 24)) wr) (fun i _ => ts.length - (intOf i).toNat)
  case atStart => exact ⟨0, Nat.zero_le _, rfl, rfl, Below.refl _ _⟩
  case round =>
    obtain ⟨k, hk, rfl, hall, hb⟩ := hrel
    have p2 : wr.cell? ⟨w.heap.size, 2, none⟩ = some (.slice a ts.length cap) := by rw [hb.cell (p := ⟨w.heap.size, 2, none⟩) (by simp)]; simp
    have hbw : Below w.heap.size w wr := ((Below.refl _ _).alloc (Nat.le_refl _) _).trans (hb.mono (by omega))
    by_cases hlt : k < ts.length
    · obtain ⟨b, o, rfl, hc⟩ := HL.out.2 (by intro e; simp [e] at hlt)
      obtain ⟨c, ccap, c0, c1, _⟩ := hc k hlt
      have d0 := cell_later hbw c0
      have D1 := Lib.hid (c1.later hbw)
      have hcm := c1.1
      unfold maxLen at hcm
      clear c0 c1 hc
      have ht : (ts.take (k + 1)) = ts.take k ++ [ts[k]] := List.take_succ_eq_append_getElem hlt
      have HT := Lib.hid ht
      clear ht
      by_cases h8 : 8 < ts[k].length
      · have HR : Hid (rightPg ⟨V, M, ts⟩ = false) := by
          show _ = _
          rw [H.out, List.all_eq_false]; exact ⟨ts[k], List.getElem_mem _, by simp [rightCode]; omega⟩
        go_wp2
        go_ret
        exact ⟨ret_bool HR.out.symm, hbw⟩
      · have HC : Hid (rightCode V M ts[k] = ts[k].all (rightIns V M ts[k].length)) := by
          show _ = _
          have : decide (ts[k].length ≤ 8) = true := by simp; omega
          unfold rightCode
          rw [this, Bool.true_and]
        go_wp2
        obtain ⟨wo, hwo⟩ : ∃ x, x = wr := ⟨_, rfl⟩
        subst hwo
        have q0 : wo.cell? ⟨w.heap.size, 0, none⟩ = some (.int .i64 V) := by rw [hb.cell (p := ⟨w.heap.size, 0, none⟩) (by simp)]; simp
        have q1 : wo.cell? ⟨w.heap.size, 1, none⟩ = some (.int .i64 M) := by rw [hb.cell (p := ⟨w.heap.size, 1, none⟩) (by simp)]; simp
        have hz : w.heap.size < wo.heap.size := by have := hb.size; simp at this; omega
        go_loopw [5] (fun i w2 => ∃ j : Nat, j ≤ ts[k].length ∧ i = .int .i64 j ∧ Hid ((ts[k].take j).all (rightIns V M ts[k].length) = true) ∧ Below wo.heap.size wo w2) (fun i _ => ts[k].length - (intOf i).toNat)
        case atStart => exact ⟨0, Nat.zero_le _, rfl, rfl, Below.refl _ _⟩
        case round =>
          obtain ⟨j, hj, rfl, hin, hb'⟩ := hrel
          have r0 := cell_later hb' q0
          have r1 := cell_later hb' q1
          have r2 := cell_later hb' p2
          by_cases hjl : j < ts[k].length
          · obtain ⟨b', o', rfl, hc⟩ := D1.out.2 (by intro e; simp [e] at hjl)
            obtain ⟨c0, c1, c2, c3⟩ := hc j hjl
            have d0 := cell_later hb' c0
            have d1 := cell_later hb' c1
            have d2 := cell_later hb' c2
            have d3 := cell_later hb' c3
            clear c0 c1 c2 c3 hc
            go_wp2
            go_still_tail 7, (by kernel_rfl)
            go_wp2_with fail
            refine (refInstr_any V M ts[k].length (by omega) (by omega) bV1 bV2 bM1 bM2 _ ts[k][j] _).mono ?_
            rintro r w1 ⟨rfl, hb1⟩
            have hb2 : Below wo.heap.size wo w1 := hb'.drew.trans (hb1.mono hb'.size)
            have hb3 : Below w.heap.size w w1 := hbw.trans (hb2.mono (by omega))
            have htj : (ts[k].take (j + 1)) = ts[k].take j ++ [ts[k][j]] := List.take_succ_eq_append_getElem hjl
            cases hr : rightIns V M ts[k].length ts[k][j]
            · have HR : Hid (rightPg ⟨V, M, ts⟩ = false) := by
                show _ = _
                rw [H.out, List.all_eq_false]; refine ⟨ts[k], List.getElem_mem _, ?_⟩
                rw [HC.out, Bool.not_eq_true, List.all_eq_false]
                exact ⟨ts[k][j], List.getElem_mem _, by simp [hr]⟩
              clear hr htj
              go_wp2
              go_ret
              exact ⟨ret_bool HR.out.symm, hb3⟩
            · have HR : Hid ((ts[k].take (j + 1)).all (rightIns V M ts[k].length) = true) := by
                show _ = _
                rw [htj, List.all_append, hin.out]; simp [hr]
              clear hr htj
              go_wp2
              go_roundw
              case rel => exact ⟨j + 1, by omega, by go_num, HR, hb2⟩
              case measure => simp [intOf]; omega
          · obtain rfl : j = ts[k].length := by omega
            have HR : Hid ((ts.take (k + 1)).all (rightCode V M) = true) := by
              show _ = _
              rw [HT.out, List.all_append, hall.out]
              have := hin.out
              rw [List.take_length] at this
              simp [HC.out, this]
            have hb4 : Below (w.heap.size + 1) (w.alloc (.cells #[.int .i64 V, .int .i64 M, .slice (some ⟨b, o, none⟩) ts.length cap] 24)) wr := hb.trans (hb'.mono (by omega))
            go_wp2
            go_roundw
            case rel => exact ⟨k + 1, by omega, by go_num, HR, hb4⟩
            case measure => simp [intOf]; omega
    · obtain rfl : k = ts.length := by omega
      have HR : Hid (rightPg ⟨V, M, ts⟩ = true) := by
        show _ = _
        rw [H.out, ← hall.out, List.take_length]
      go_wp2
      go_ret
      exact ⟨ret_bool HR.out.symm, hbw⟩
end Go.Proofs.YtnldkmcijmbhcaaGreat

/- The contract of the document's New. -/
namespace Go.Proofs.YtnldkmcijmbhcaaGreat
open Go.RowKit

def thrs (F k : Nat) : List Thr := List.replicate k ⟨0, F, [0, 0]⟩
theorem thrs_len (F k : Nat) : (thrs F k).length = k := by simp [thrs]
theorem thrs_succ (F k : Nat) : thrs F (k + 1) = thrs F k ++ [⟨0, F, [0, 0]⟩] := by simp [thrs, List.replicate_succ']

def boxA (p : Pg) (a : Option Addr) (cap : Nat) (tv : Value) : Array Value :=
  #[.int .i64 p.vars, .int .i64 p.mutexes, .slice a p.threads.length cap, tv, .int .i64 0, .int .i64 0, .int .i64 0, .int .i64 0, .int .i64 (-1), .int .i64 (-1)]

theorem wp_appendThr {w : World} {ops : Array Oper} {rest : List Oper} {o : Oper} {a : Act} {Q : Exit → Act → World → Prop} (hgd : o.guard = none) (s x : Operand)
    (ho : o.op = .call { callee := .builtin .append, args := #[s, x], argTypes := #[69, 69] }) (B : Nat) (v : Value) (l : List Thr) (hs : a.eval s = v) (hown : w.ownsRow B 75 4 v l.length (thrCells l))
    (ad : Addr) (hx : a.eval x = .slice (some ad) 1 1) (y : Thr) (hnews : ∀ j u, (thrCells [y])[j]? = some u → w.cell? (ad.add j) = some u)
    (hlen : l.length ≤ 1000000) (hB : B ≤ w.heap.size)
    (h : ∀ v' w', w'.ownsRow B 75 4 v' (l.length + 1) (thrCells (l ++ [y])) → w.grownBy w' v.ownBlock → wpList Tryz.prog ops Q rest (a.put o.dst v') w') : wpList Tryz.prog ops Q (o :: rest) a w := by
  have hinfo : (Tryz.prog.info? 75).map (fun i => (i.zero, i.size, i.bytes)) = some (some (.agg #[.int .i64 0, .int .i64 0, .int .i64 0, .int .i64 0]), 4, 32) := by kernel_rfl
  obtain ⟨t, hi, hzz⟩ := Option.map_eq_some_iff.1 hinfo
  simp only [Prod.mk.injEq] at hzz
  obtain ⟨hz, hsz, hby⟩ := hzz
  refine wpList_append_own w hgd s x 69 ho B 75 t (.agg #[.int .i64 0, .int .i64 0, .int .i64 0, .int .i64 0]) 4 32 Tryz.underlying69 hi hz hsz hby rfl (by decide) v l.length (thrCells l) hs hown ad 1 1 (thrCells [y]) hx rfl hnews
    (thrCells_one _) (by unfold maxLen; omega) (by omega) hB ?_
  intro v' w' h1 h2 _
  refine h v' w' ?_ h2
  rw [thrCells_append]
  exact h1

theorem thr_new (w : World) (F : Nat) (t : TypeId) (g : Nat) (hg : g = w.heap.size) : ∀ j u, (thrCells [⟨0, F, [0, 0]⟩])[j]? = some u → (w.alloc (.cells #[.int .i64 0, .int .i64 F, .int .i64 0, .int .i64 0] t)).cell? (Addr.add ⟨g, 0, none⟩ j) = some u := by
  subst hg
  intro j u hj
  have e : Addr.add ⟨w.heap.size, 0, none⟩ j = ⟨w.heap.size, j, none⟩ := by
    unfold Addr.add
    split
    · rename_i h0; subst h0; rfl
    · simp
  rw [e, World.cell?_alloc_new]
  simpa [thrCells, thrCell] using hj

theorem refnew_mid {p : Pg} {a : Option Addr} {cap : Nat} {wr w7 : World} {b k : Nat} {tv v7 : Value} {o : Obj} {xs ys : List Value} (hbox : wr.heap[b]? = some (.cells (boxA p a cap tv) 72 (0, 0))) (hown : wr.ownsRow (b + 1) 75 4 tv k xs)
    (h7 : w7.ownsRow (b + 1) 75 4 v7 (k + 1) ys) (hg : (wr.alloc o).grownBy w7 tv.ownBlock) :
    ∃ g7 cap7, v7 = .slice (some ⟨g7, 0, none⟩) (k + 1) cap7 ∧ w7.cell? ⟨b, 3, none⟩ = some tv ∧ w7.frozen? ⟨b, 3, none⟩ = false ∧
      Hid ((w7.setCell ⟨b, 3, none⟩ (.slice (some ⟨g7, 0, none⟩) (k + 1) cap7)).heap[b]? = some (.cells (boxA p a cap (.slice (some ⟨g7, 0, none⟩) (k + 1) cap7)) 72 (0, 0))) ∧
      Hid ((w7.setCell ⟨b, 3, none⟩ (.slice (some ⟨g7, 0, none⟩) (k + 1) cap7)).ownsRow (b + 1) 75 4 (.slice (some ⟨g7, 0, none⟩) (k + 1) cap7) (k + 1) ys) ∧ Below b wr w7 := by
  have hlt : b < wr.heap.size := (Array.getElem?_eq_some_iff.1 hbox).1
  have own : ∀ j, tv.ownBlock = some j → b + 1 ≤ j := fun j hj => (World.ownsRow.lt hown j hj).1
  have hb7 : w7.heap[b]? = some (.cells (boxA p a cap tv) 72 (0, 0)) := by
    rw [hg.block b (by simp; omega) (fun e => by have := own _ e.symm; omega), Below.heap_alloc _ _ _ hlt]
    exact hbox
  obtain ⟨r1, ⟨_, r3⟩ | ⟨g, cap', cur, rfl, r4, r5, r6⟩⟩ := h7
  · exact absurd r3 (by omega)
  · refine ⟨g, cap', rfl, by simp [World.cell?, hb7, boxA], by simp [World.frozen?, hb7], ?_, ?_, ?_⟩
    · show _ = _
      rw [heap_setCell_same w7 b 3 _ _ _ hb7]
      rfl
    · exact ⟨r1, .inr ⟨g, cap', cur, rfl, r4, (Below.heap_setCell _ _ _ _ (by show g ≠ b; omega)).trans r5, r6⟩⟩
    · exact ((Below.refl _ _).alloc (by omega) o).grown hg (by simp; omega) (fun j hj => by have := own j hj; omega)

theorem new_eq (p : Pg) (F : Nat) : (St.new p F).ts = thrs F p.threads.length := by
  unfold St.new thrs
  simp [List.map_const']

set_option maxRecDepth 100000 in
set_option maxHeartbeats 4000000 in
theorem refNew_no (p : Pg) (a : Option Addr) (cap : Nat) (fuel : Int) (w : World) (hp : ThreadsAt w a p.threads) (hr : ¬ (rightPg p = true ∧ 0 ≤ fuel ∧ fuel ≤ 8)) :
    Calls Tryz.prog 17 #[.agg #[.int .i64 p.vars, .int .i64 p.mutexes, .slice a p.threads.length cap], .int .i64 fuel] w fun r w' => r = .returned (.pointer none) ∧ Below w.heap.size w w' := by
  have HP := Lib.hid hp
  have HR := Lib.hid hr
  clear hr hp
  go_enter Tryz.func17, Tryz.ntmps17
  go_wp2_with fail
  refine (refRight_any p a cap _ (HP.out.later (below_alloc1 w _))).mono ?_
  rintro r w1 ⟨rfl, hb⟩
  have hb1 : Below w.heap.size w w1 := (below_alloc1 w _).trans (hb.mono (by simp))
  clear hb
  cases hr : rightPg p
  · clear hr
    go_wp2
    go_ret
    exact ⟨rfl, hb1⟩
  · by_cases h0 : fuel < 0
    · have q0 : decide (fuel < 0) = true := by simpa using h0
      clear hr
      go_wp2
      go_ret
      exact ⟨rfl, hb1⟩
    · have q0 : decide (fuel < 0) = false := by simpa using h0
      have h8 : 8 < fuel := by
        rcases Decidable.em (fuel ≤ 8) with h | h
        · exact absurd ⟨hr, by omega, h⟩ HR.out
        · omega
      have q8 : decide (8 < fuel) = true := by simpa using h8
      clear hr
      go_wp2
      go_ret
      exact ⟨rfl, hb1⟩

set_option maxRecDepth 100000 in
set_option maxHeartbeats 4000000 in
theorem refNew_yes (p : Pg) (a : Option Addr) (cap F : Nat) (w : World) (hp : ThreadsAt w a p.threads) (hr : rightPg p = true) (hF : F ≤ 8) :
    Calls Tryz.prog 17 #[.agg #[.int .i64 p.vars, .int .i64 p.mutexes, .slice a p.threads.length cap], .int .i64 F] w
      fun r w' => ∃ b tb tcap, r = .returned (.pointer (some ⟨b, 0, none⟩)) ∧ w.heap.size ≤ b ∧ w.heap.size ≤ tb ∧ RefAt w' b tb a cap tcap (St.new p F) ∧ Below w.heap.size w w' := by
  have hn : 1 ≤ p.threads.length ∧ p.threads.length ≤ 4 := by
    unfold rightPg at hr
    rw [Bool.and_eq_true, decide_eq_true_eq] at hr
    omega
  obtain ⟨hn1, hn4⟩ := hn
  have HR := Lib.hid hr
  have HP := Lib.hid hp
  have q0 : decide ((F : Int) < 0) = false := by simp
  have q8 : decide (8 < (F : Int)) = false := by simp; omega
  clear hr hp
  go_enter Tryz.func17, Tryz.ntmps17
  go_wp2_with fail
  refine (refRight_any p a cap _ (HP.out.later (below_alloc1 w _))).mono ?_
  rw [HR.out]
  rintro r w1 ⟨rfl, hb⟩
  have hb1 : Below w.heap.size w w1 := (below_alloc1 w _).trans (hb.mono (by simp))
  have hc : ∀ o, w1.cell? ⟨w.heap.size, o, none⟩ = (w.alloc (.cells #[.int .i64 p.vars, .int .i64 p.mutexes, .slice a p.threads.length cap] 24)).cell? ⟨w.heap.size, o, none⟩ := fun o => hb.cell (p := ⟨w.heap.size, o, none⟩) (by simp)
  have hz : w.heap.size < w1.heap.size := by have := hb.size; simp at this; omega
  have HPX : Hid (w1.heap[w.heap.size]? = some (.cells #[.int .i64 p.vars, .int .i64 p.mutexes, .slice a p.threads.length cap] 24 (0, 0))) := (hb.block _ (by simp)).trans (heap_alloc_new w _)
  clear hb
  go_wp2
  clear hc
  go_loopw [6] (fun i wr => ∃ (k : Nat) (tv : Value), k ≤ p.threads.length ∧ i = .int .i64 k ∧ wr.heap[w1.heap.size]? = some (.cells (boxA p a cap tv) 72 (0, 0)) ∧ wr.ownsRow (w1.heap.size + 1) 75 4 tv (thrs F k).length (thrCells (thrs F k)) ∧ Below w1.heap.size w1 wr) (fun i _ => p.threads.length - (intOf i).toNat)
  case atStart => exact ⟨0, .slice none 0 0, Nat.zero_le _, rfl, heap_alloc_new w1 _, World.ownsRow_nil _ _ _ _, below_alloc1 _ _⟩
  case round =>
    obtain ⟨k, tv, hk, rfl, hbox, hown, hbr⟩ := hrel
    have c2 : wr.cell? ⟨w.heap.size, 2, none⟩ = some (.slice a p.threads.length cap) := by
      have : wr.heap[w.heap.size]? = some (.cells #[.int .i64 p.vars, .int .i64 p.mutexes, .slice a p.threads.length cap] 24 (0, 0)) := (hbr.block _ hz).trans HPX.out
      simp [World.cell?, this]
    have c3 : wr.cell? ⟨w1.heap.size, 3, none⟩ = some tv := by simp [World.cell?, hbox, boxA]
    have hbl := (Array.getElem?_eq_some_iff.1 hbox).1
    have hlk := thrs_len F k
    have HBOX := Lib.hid hbox
    have HOWN := Lib.hid hown
    have HLK := Lib.hid hlk
    clear hbox hown hlk
    by_cases hlt : k < p.threads.length
    · go_wp2_with (at_builtin; refine wp_appendThr rfl (.tmp 33) (.tmp 36) rfl (w1.heap.size + 1) _ (thrs F k) rfl (World.ownsRow.alloc HOWN.out _) ⟨wr.heap.size, 0, none⟩ rfl ⟨0, F, [0, 0]⟩ (thr_new wr F _ _ rfl) (by rw [HLK.out]; omega) (by simp; omega) ?_; intro v7 w7 hown7 hg7; obtain ⟨g7, cap7, rfl, d3, f3, HB7, HO7, hbl7⟩ := refnew_mid HBOX.out HOWN.out hown7 hg7; clear hown7 hg7)
      have hb7 : Below w1.heap.size w1 (w7.setCell ⟨w1.heap.size, 3, none⟩ (.slice (some ⟨g7, 0, none⟩) ((thrs F k).length + 1) cap7)) := (hbr.trans hbl7).setCell (p := ⟨w1.heap.size, 3, none⟩) (Nat.le_refl _) _
      go_roundw
      case rel => exact ⟨k + 1, _, by omega, by go_num, HB7.out, by rw [thrs_succ, List.length_append]; exact HO7.out, hb7⟩
      case measure => simp [intOf]; omega
    · obtain rfl : k = p.threads.length := by omega
      go_wp2
      go_ret
      have hown := HOWN.out
      rw [HLK.out] at hown
      obtain ⟨r1, ⟨_, r3⟩ | ⟨tb, tcap, cur, e, r4, r5, _, _, _, r6⟩⟩ := hown
      · exact absurd r3 (by omega)
      · subst e
        refine ⟨_, tb, tcap, rfl, by omega, by omega, ⟨?_, by omega, cur, r5, ?_⟩, hb1.trans (hbr.mono (by omega))⟩
        · rw [HBOX.out]
          have hl : (St.new p F).ts.length = p.threads.length := by rw [new_eq, thrs_len]
          unfold refA boxA
          rw [hl]
          rfl
        · rw [new_eq, thrs_len]
          exact r6

end Go.Proofs.YtnldkmcijmbhcaaGreat

/- The contract of the document's Copy of a state. -/
namespace Go.Proofs.YtnldkmcijmbhcaaGreat
open Go.RowKit

section
variable {w : World} {b tb : Nat} {a : Option Addr} {cap tcap : Nat} {s : St}
theorem infoThr : (Tryz.prog.info? 75).map (fun i => (i.zero.isSome, i.size, i.bytes)) = some (true, 4, 32) := by kernel_rfl
theorem run_copyT (ty : TypeId) (g : Nat) (h : RefAt w b tb a cap tcap s) (hne : 1 ≤ s.ts.length) (h4 : s.ts.length ≤ 4) :
    ∃ ntc w', (Builtin.append_ #[69, 69] ty #[.slice (some ⟨g, 0, none⟩) 0 0, .slice (some ⟨tb, 0, none⟩) s.ts.length tcap]).run Tryz.prog w = .ok (.slice (some ⟨w.heap.size, 0, none⟩) s.ts.length ntc) w' ∧
      (∃ cur, w'.heap[w.heap.size]? = some (.cells cur 75 (0, 0)) ∧ cur.toList.take (s.ts.length * 4) = thrCells s.ts) ∧ Below w.heap.size w w' := by
  obtain ⟨i, hi, hzz⟩ := Option.map_eq_some_iff.1 infoThr
  simp only [Prod.mk.injEq] at hzz
  obtain ⟨hz, hsz, hby⟩ := hzz
  obtain ⟨z, hz⟩ := Option.isSome_iff_exists.1 hz
  have hl := thrCells_length s.ts
  have hsrc : Src Tryz.prog i.size 69 (.slice (some ⟨tb, 0, none⟩) s.ts.length tcap) s.ts.length (thrCells s.ts) w := by
    rw [hsz]
    refine Src.ofSlice w Tryz.underlying69 ⟨tb, 0, none⟩ s.ts.length tcap (thrCells s.ts) hl (fun j u hj => ?_) (thrCells_one _)
    have hjl : j < s.ts.length * 4 := by rw [← hl]; exact (List.getElem?_eq_some_iff.1 hj).1
    obtain ⟨t, k, rfl, hk⟩ : ∃ t k, j = t * 4 + k ∧ k < 4 := ⟨j / 4, j % 4, by omega, by omega⟩
    have ht : t < s.ts.length := by omega
    rw [thrCells_get s.ts t k ht hk] at hj
    have hc := h.thr t ht k hk
    have e : s.th t = s.ts[t] := getD_lt _ ht
    rw [e, hj] at hc
    have ea : Addr.add ⟨tb, 0, none⟩ (t * 4 + k) = ⟨tb, t * 4 + k, none⟩ := by
      unfold Addr.add
      split
      · rename_i h0; rw [h0]
      · simp
    rw [ea]
    exact hc
  have hold : (Builtin.firstCells i.size 0 (.slice (some ⟨g, 0, none⟩) 0 0)).run Tryz.prog w.drew = .ok ([] : List Value).toArray w.drew := by
    rw [hsz]
    exact run_firstCells_some w.drew 4 0 ⟨g, 0, none⟩ 0 0 [] rfl (by simp)
  have hrun := run_append_grow_src (P := Tryz.prog) w 69 69 ty 75 i _ Tryz.underlying69 hi hz (some ⟨g, 0, none⟩) 0 0 [] hold _ s.ts.length (thrCells s.ts) hsrc (by omega) (by omega) (by rw [hby]; exact growslice_fits (by omega) (by omega))
  rw [Nat.zero_add] at hrun
  refine ⟨_, _, hrun, ⟨_, heap_alloc_new w.drew _, ?_⟩, ((Below.refl _ _).drew).alloc (Nat.le_refl _) _⟩
  simp only [List.nil_append, Array.toList_append]
  rw [← hl]
  simp
theorem wpList_copyT {ops : Array Oper} {rest : List Oper} {o : Oper} {A : Act} {Q : Exit → Act → World → Prop} (hgd : o.guard = none) (x y : Operand)
    (ho : o.op = .call { callee := .builtin .append, args := #[x, y], argTypes := #[69, 69] }) (g : Nat) (hx : A.eval x = .slice (some ⟨g, 0, none⟩) 0 0) (hy : A.eval y = .slice (some ⟨tb, 0, none⟩) s.ts.length tcap)
    (h : RefAt w b tb a cap tcap s) (hne : 1 ≤ s.ts.length) (h4 : s.ts.length ≤ 4)
    (hK : ∀ ntc w', (∃ cur, w'.heap[w.heap.size]? = some (.cells cur 75 (0, 0)) ∧ cur.toList.take (s.ts.length * 4) = thrCells s.ts) → Below w.heap.size w w' → wpList Tryz.prog ops Q rest (A.put o.dst (.slice (some ⟨w.heap.size, 0, none⟩) s.ts.length ntc)) w') :
    wpList Tryz.prog ops Q (o :: rest) A w := by
  refine wpList_plain hgd fun K hK' => ?_
  obtain ⟨ntc, w', hr, h1, h2⟩ := run_copyT o.type g h hne h4
  unfold Oper.wp
  simp [execOp, ho, resolve, invoke, builtin, hx, hy, hr, Result.andThen]
  exact hK' _ _ (hK ntc w' h1 h2)

set_option maxRecDepth 100000 in
set_option maxHeartbeats 4000000 in
theorem refCopy_any (h : RefAt w b tb a cap tcap s) (hne : 1 ≤ s.ts.length) (h4 : s.ts.length ≤ 4) :
    Calls Tryz.prog 32 #[.pointer (some ⟨b, 0, none⟩)] w fun r w' => ∃ nb ntb ntc, r = .returned (.pointer (some ⟨nb, 0, none⟩)) ∧ w.heap.size ≤ nb ∧ w.heap.size ≤ ntb ∧ RefAt w' nb ntb a cap ntc s ∧ Below w.heap.size w w' := by
  have H := Lib.hid h
  have hcell : ∀ j, w.cell? ⟨b, j, none⟩ = (refA s a cap tb tcap)[j]? := fun j => by
    unfold World.cell?
    dsimp only
    rw [h.1]
    rfl
  have hlt := h.lt.1
  have c0 := hcell 0
  have c1 := hcell 1
  have c2 := hcell 2
  have c3 := hcell 3
  have c4 := hcell 4
  have c5 := hcell 5
  have c6 := hcell 6
  have c7 := hcell 7
  have c8 := hcell 8
  have c9 := hcell 9
  simp only [refA, List.getElem?_toArray, List.getElem?_cons_zero, List.getElem?_cons_succ] at c0 c1 c2 c3 c4 c5 c6 c7 c8 c9
  have HBOX : Hid (∀ (W : World) (nb ntb ntc : Nat), W.heap[nb]? = some (.cells #[.int .i64 s.p.vars, .int .i64 s.p.mutexes, .slice a s.p.threads.length cap, .slice (some ⟨tb, 0, none⟩) s.ts.length tcap,
    .int .i64 (s.v.getD 0 0), .int .i64 (s.v.getD 1 0), .int .i64 (s.v.getD 2 0), .int .i64 (s.v.getD 3 0), .int .i64 (s.m.getD 0 (-1)), .int .i64 (s.m.getD 1 (-1))] 72 (0, 0)) → (W.setCell ⟨nb, 3, none⟩ (.slice (some ⟨ntb, 0, none⟩) s.ts.length ntc)).heap[nb]? = some (.cells (refA s a cap ntb ntc) 72 (0, 0))) := fun W nb ntb ntc hW => by
    rw [heap_setCell_same W nb 3 _ _ _ hW]
    rfl
  clear hcell h
  generalize s.v.getD 0 0 = n0 at *
  generalize s.v.getD 1 0 = n1 at *
  generalize s.v.getD 2 0 = n2 at *
  generalize s.v.getD 3 0 = n3 at *
  generalize s.m.getD 0 (-1) = m0 at *
  generalize s.m.getD 1 (-1) = m1 at *
  go_enter Tryz.func32, Tryz.ntmps32
  have hb1 : Below w.heap.size w ((w.alloc (.cells #[.int .i64 s.p.vars, .int .i64 s.p.mutexes, .slice a s.p.threads.length cap, .slice (some ⟨tb, 0, none⟩) s.ts.length tcap, .int .i64 n0, .int .i64 n1, .int .i64 n2, .int .i64 n3, .int .i64 m0, .int .i64 m1] 72)).alloc (.cells #[] 75)) := below_alloc2 w _ _
  have hh1 : ((w.alloc (.cells #[.int .i64 s.p.vars, .int .i64 s.p.mutexes, .slice a s.p.threads.length cap, .slice (some ⟨tb, 0, none⟩) s.ts.length tcap, .int .i64 n0, .int .i64 n1, .int .i64 n2, .int .i64 n3, .int .i64 m0, .int .i64 m1] 72)).alloc (.cells #[] 75)).heap[w.heap.size]? = some (.cells #[.int .i64 s.p.vars, .int .i64 s.p.mutexes, .slice a s.p.threads.length cap, .slice (some ⟨tb, 0, none⟩) s.ts.length tcap, .int .i64 n0, .int .i64 n1, .int .i64 n2, .int .i64 n3, .int .i64 m0, .int .i64 m1] 72 (0, 0)) := ((below_alloc1 _ _).block _ (by rw [World.size_alloc]; omega)).trans (heap_alloc_new w _)
  have HH1 := Lib.hid hh1
  clear hh1
  go_wp2_with (at_builtin; refine wpList_copyT rfl _ _ rfl (w.heap.size + 1) rfl rfl (H.out.later hb1) hne h4 ?_; intro ntc w4 hcur hb4; have HCUR := Lib.hid hcur; have HB4 := Lib.hid hb4; have hh4 := (hb4.block w.heap.size (by rw [World.size_alloc, World.size_alloc]; omega)).trans HH1.out; have d3 : w4.cell? ⟨w.heap.size, 3, none⟩ = some (.slice (some ⟨tb, 0, none⟩) s.ts.length tcap) := (by unfold World.cell?; dsimp only; rw [hh4]; rfl); have f3 : w4.frozen? ⟨w.heap.size, 3, none⟩ = false := (by unfold World.frozen?; dsimp only; rw [hh4]; rfl); have HH4 := Lib.hid hh4; clear hcur hb4 hh4)
  go_ret
  have hz : ((w.alloc (.cells #[.int .i64 s.p.vars, .int .i64 s.p.mutexes, .slice a s.p.threads.length cap, .slice (some ⟨tb, 0, none⟩) s.ts.length tcap, .int .i64 n0, .int .i64 n1, .int .i64 n2, .int .i64 n3, .int .i64 m0, .int .i64 m1] 72)).alloc (.cells #[] 75)).heap.size = w.heap.size + 1 + 1 := by rw [World.size_alloc, World.size_alloc]
  obtain ⟨cur, k1, k2⟩ := HCUR.out
  rw [hz] at k1
  refine ⟨w.heap.size, _, ntc, rfl, Nat.le_refl _, ?_, ⟨HBOX.out _ _ _ _ HH4.out, ?_, cur, (Below.heap_setCell _ _ _ _ ?_).trans k1, k2⟩, ((hb1.trans (HB4.out.mono hb1.size)).setCell (p := ⟨w.heap.size, 3, none⟩) (Nat.le_refl _) _)⟩
  · omega
  · omega
  · show w.heap.size + 1 + 1 ≠ w.heap.size
    omega
end

end Go.Proofs.YtnldkmcijmbhcaaGreat

/- The contract of the document's Next: no such thread. -/
namespace Go.Proofs.YtnldkmcijmbhcaaGreat
open Go.RowKit

section
variable {F : Nat} {w : World} {b tb : Nat} {a : Option Addr} {cap tcap : Nat} {s : St}

set_option maxRecDepth 100000 in
set_option maxHeartbeats 4000000 in
theorem refNext_neg (h : RefAt w b tb a cap tcap s) (t : Int) (ht0 : t < 0) : Calls Tryz.prog 31 #[.pointer (some ⟨b, 0, none⟩), .int .i64 t] w fun r w' => r = .returned (.tuple #[.agg #[.int .i64 0, .int .i64 0, .int .i64 0, .bool false], .bool false]) ∧ Below w.heap.size w w' := by
  obtain ⟨hb1, hb2⟩ := h.lt
  obtain ⟨p0, p1⟩ := h.prog
  have q0 : decide (t < 0) = true := by simpa using ht0
  have H := Lib.hid h
  clear h
  go_enter Tryz.func31, Tryz.ntmps31
  go_wp2
  go_quiet (fail)
  go_wp2
  exact bodyPost_ret (v := .tuple #[.agg #[.int .i64 0, .int .i64 0, .int .i64 0, .bool false], .bool false]) (by simp [results, Tryz.results31, go_sem]) rfl ⟨rfl, below_set4 (below_alloc1 w _).drewN (Nat.le_refl _) _ _ _ _⟩

set_option maxRecDepth 100000 in
set_option maxHeartbeats 4000000 in
theorem refNext_out (h : RefAt w b tb a cap tcap s) (t : Int) (ht0 : ¬ t < 0) (hk0 : (s.ts.length : Int) ≤ t) : Calls Tryz.prog 31 #[.pointer (some ⟨b, 0, none⟩), .int .i64 t] w fun r w' => r = .returned (.tuple #[.agg #[.int .i64 0, .int .i64 0, .int .i64 0, .bool false], .bool false]) ∧ Below w.heap.size w w' := by
  obtain ⟨hb1, hb2⟩ := h.lt
  obtain ⟨p0, p1⟩ := h.prog
  have q0 : decide (t < 0) = false := by simpa using ht0
  have q1 : decide ((s.ts.length : Int) ≤ t) = true := by simpa using hk0
  have H := Lib.hid h
  clear h ht0 hk0
  go_enter Tryz.func31, Tryz.ntmps31
  go_wp2
  go_quiet (fail)
  go_wp2
  exact bodyPost_ret (v := .tuple #[.agg #[.int .i64 0, .int .i64 0, .int .i64 0, .bool false], .bool false]) (by simp [results, Tryz.results31, go_sem]) rfl ⟨rfl, below_set4 (below_alloc1 w _).drewN (Nat.le_refl _) _ _ _ _⟩
end
end Go.Proofs.YtnldkmcijmbhcaaGreat

/- The contract of the document's Next: no fuel. -/
namespace Go.Proofs.YtnldkmcijmbhcaaGreat
open Go.RowKit

section
variable {F : Nat} {w : World} {b tb : Nat} {a : Option Addr} {cap tcap : Nat} {s : St}

set_option maxRecDepth 100000 in
set_option maxHeartbeats 4000000 in
theorem refNext_dry (h : RefAt w b tb a cap tcap s) (t : Nat) (_h4 : s.ts.length ≤ 4) (hk' : t < s.ts.length) (hf : (s.th t).fuel = 0) : Calls Tryz.prog 31 #[.pointer (some ⟨b, 0, none⟩), .int .i64 t] w fun r w' => r = .returned (.tuple #[.agg #[.int .i64 0, .int .i64 0, .int .i64 0, .bool false], .bool false]) ∧ Below w.heap.size w w' := by
  obtain ⟨hb1, hb2⟩ := h.lt
  obtain ⟨p0, p1⟩ := h.prog
  have cf : w.cell? ⟨tb, t * 4 + 1, none⟩ = some (.int .i64 0) := by have := h.fuel t hk'; rw [hf] at this; exact this
  have q0 : decide ((t : Int) < 0) = false := by simp
  have q1 : decide ((s.ts.length : Int) ≤ t) = false := by simp; omega
  have q2 : decide (s.ts.length ≤ t) = false := by simp; omega
  have H := Lib.hid h
  clear h hf
  go_enter Tryz.func31, Tryz.ntmps31
  go_wp2
  go_quiet (fail)
  go_wp2
  exact bodyPost_ret (v := .tuple #[.agg #[.int .i64 0, .int .i64 0, .int .i64 0, .bool false], .bool false]) (by simp [results, Tryz.results31, go_sem]) rfl ⟨rfl, below_set4 (below_alloc1 w _).drewN (Nat.le_refl _) _ _ _ _⟩
end
end Go.Proofs.YtnldkmcijmbhcaaGreat

/- The contract of the document's Next: behind the last instruction. -/
namespace Go.Proofs.YtnldkmcijmbhcaaGreat
open Go.RowKit

section
variable {F : Nat} {w : World} {b tb : Nat} {a : Option Addr} {cap tcap : Nat} {s : St}

set_option maxRecDepth 100000 in
set_option maxHeartbeats 4000000 in
theorem refNext_end (h : RefAt w b tb a cap tcap s) (hth : ThreadsAt w a s.p.threads) (ok : s.Ok F) (t : Nat) (hk' : t < s.ts.length) (hf : (s.th t).fuel ≠ 0) (hat : (s.th t).at_ = (s.code t).length) : Calls Tryz.prog 31 #[.pointer (some ⟨b, 0, none⟩), .int .i64 t] w fun r w' => r = .returned (.tuple #[.agg #[.int .i64 0, .int .i64 0, .int .i64 0, .bool false], .bool false]) ∧ Below w.heap.size w w' := by
  obtain ⟨hb1, hb2⟩ := h.lt
  obtain ⟨p0, p1⟩ := h.prog
  have hln := ok.len
  have h4 := ok.len4
  have cf := h.fuel t hk'
  have ca := h.at_ t hk'
  have q0 : decide ((t : Int) < 0) = false := by simp
  have q2 : decide (s.ts.length ≤ t) = false := by simp; omega
  have q1 : decide ((s.ts.length : Int) ≤ t) = false := by simp; omega
  have hkp : t < s.p.threads.length := by omega
  have hcd : s.code t = s.p.threads[t] := getD_lt _ hkp
  obtain ⟨ab, ao, rfl, hc⟩ := hth.2 (by intro e; simp [e] at hkp)
  obtain ⟨c, ccap, c0, c1, _⟩ := hc t hkp
  rw [← hcd] at c0
  have hz := cell_block c0
  dsimp only at hz
  have hf' : ((((s.th t).fuel : Nat) : Int) == 0) = false := by simp; omega
  have h8 := ok.code8 t hk'
  rw [hat] at ca
  have H := Lib.hid h
  clear h hth ok hln hf hat hc c1 hcd
  generalize (s.th t).fuel = f at *
  generalize (s.code t).length = n at *
  have q3 : decide (n ≤ n) = true := by simp
  have q4 : decide ((n : Int) ≤ n) = true := by simp
  go_enter Tryz.func31, Tryz.ntmps31
  go_wp2
  go_quiet (fail)
  go_wp2
  exact bodyPost_ret (v := .tuple #[.agg #[.int .i64 0, .int .i64 0, .int .i64 0, .bool false], .bool false]) (by simp [results, Tryz.results31, go_sem]) rfl ⟨rfl, below_set4 (below_alloc1 w _).drewN (Nat.le_refl _) _ _ _ _⟩
end
end Go.Proofs.YtnldkmcijmbhcaaGreat
