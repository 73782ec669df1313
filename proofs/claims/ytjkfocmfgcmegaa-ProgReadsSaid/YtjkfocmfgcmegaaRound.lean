/- What is printed is read as it was, and what is read is printed as it was: plain lists. -/
import Derived.Test.YtjkfocmfgcmegaaRead
import Derived.Test.YtjkfocmfgcmegaaSizes
namespace Go.Proofs.Ytjkfocmfgcmegaa
open Go.RowKit

/-- A number's byte. -/
def byteOf (n : Int) : UInt8 := UInt8.ofNat n.toNat

def bytesOf (ns : List Int) : List UInt8 := ns.map byteOf

theorem bstr_eq (ns : List Int) : bstr ns = ⟨(bytesOf ns).toArray⟩ := rfl

theorem byteOf_toNat {n : Int} (h0 : 0 ≤ n) (h1 : n ≤ 255) : ((byteOf n).toNat : Int) = n := by
  unfold byteOf
  rw [UInt8.toNat_ofNat_of_lt' (by show n.toNat < 256; omega)]
  omega

theorem byteOf_cast (b : UInt8) : byteOf (b.toNat : Int) = b := by
  unfold byteOf
  simp

/-- An instruction's bytes, read. -/
theorem insOf_insB {i : Ins} (h : 0 ≤ i.kind ∧ i.kind ≤ 8 ∧ 0 ≤ i.r ∧ i.r ≤ 1 ∧ 0 ≤ i.x ∧ i.x ≤ 8 ∧ -128 ≤ i.n ∧ i.n ≤ 127) (l : List UInt8) : insOf (bytesOf (insB i) ++ l) = i := by
  obtain ⟨k, r, x, n⟩ := i
  dsimp only at h
  have e0 := byteOf_toNat (n := k) (by omega) (by omega)
  have e1 := byteOf_toNat (n := r) (by omega) (by omega)
  have e2 := byteOf_toNat (n := x) (by omega) (by omega)
  have e3 := byteOf_toNat (n := n % 256) (by omega) (by omega)
  have e4 : (if (byteOf (n % 256)).toNat < 128 then ((byteOf (n % 256)).toNat : Int) else ((byteOf (n % 256)).toNat : Int) - 256) = n := by
    split <;> omega
  simp only [insOf, bytesOf, insB, List.map_cons, List.map_nil, List.cons_append, List.nil_append, List.getD_cons_zero, List.getD_cons_succ]
  rw [e0, e1, e2, e4]

theorem insB_insOf {l : List UInt8} (h : 4 ≤ l.length) : bytesOf (insB (insOf l)) = l.take 4 := by
  match l, h with
  | a :: b :: c :: d :: l, _ =>
    have hd := UInt8.toNat_lt d
    have e : (if d.toNat < 128 then (d.toNat : Int) else (d.toNat : Int) - 256) % 256 = d.toNat := by
      split <;> omega
    simp only [insOf, bytesOf, insB, List.map_cons, List.map_nil, List.getD_cons_zero, List.getD_cons_succ, e, byteOf_cast]
    rfl

theorem codeOf_flat (l : List Ins) (hl : ∀ i ∈ l, 0 ≤ i.kind ∧ i.kind ≤ 8 ∧ 0 ≤ i.r ∧ i.r ≤ 1 ∧ 0 ≤ i.x ∧ i.x ≤ 8 ∧ -128 ≤ i.n ∧ i.n ≤ 127) (m : List UInt8) :
    codeOf l.length (bytesOf (l.flatMap insB) ++ m) = l := by
  induction l with
  | nil => rfl
  | cons i l ih =>
    have e : bytesOf ((i :: l).flatMap insB) ++ m = bytesOf (insB i) ++ (bytesOf (l.flatMap insB) ++ m) := by simp [bytesOf]
    rw [e, List.length_cons, codeOf, insOf_insB (hl i (by simp)), List.drop_left' (by simp [bytesOf, insB])]
    rw [ih (fun j hj => hl j (by simp [hj]))]

theorem flat_codeOf (n : Nat) (l : List UInt8) (h : n * 4 ≤ l.length) : bytesOf ((codeOf n l).flatMap insB) = l.take (4 * n) := by
  induction n generalizing l with
  | zero => rfl
  | succ n ih =>
    have e := ih (l.drop 4) (by simp; omega)
    have e1 := insB_insOf (l := l) (by omega)
    simp only [codeOf, List.flatMap_cons, bytesOf, List.map_append] at *
    rw [e, e1, show 4 * (n + 1) = 4 + 4 * n by omega, List.take_add]

/-- Threads that may be, read off their bytes. -/
theorem rdT_flat (ts : List (List Ins)) (hts : ∀ l ∈ ts, l.length ≤ 8 ∧ ∀ i ∈ l, 0 ≤ i.kind ∧ i.kind ≤ 8 ∧ 0 ≤ i.r ∧ i.r ≤ 1 ∧ 0 ≤ i.x ∧ i.x ≤ 8 ∧ -128 ≤ i.n ∧ i.n ≤ 127) (m : List UInt8) :
    rdT ts.length (bytesOf (ts.flatMap codeB) ++ m) = (0, ts, m) := by
  induction ts with
  | nil => rfl
  | cons l ts ih =>
    obtain ⟨h8, hi⟩ := hts l (by simp)
    have e : bytesOf ((l :: ts).flatMap codeB) ++ m = byteOf (l.length : Int) :: (bytesOf (l.flatMap insB) ++ (bytesOf (ts.flatMap codeB) ++ m)) := by simp [bytesOf, codeB]
    have en : (byteOf (l.length : Int)).toNat = l.length := by
      have := byteOf_toNat (n := (l.length : Int)) (by omega) (by omega)
      omega
    have hlen : (bytesOf (l.flatMap insB)).length = 4 * l.length := by simp only [bytesOf, List.length_map]; exact flatMap_insB_length l
    rw [e, List.length_cons, rdT, en, if_neg (by omega), if_neg (by simp [hlen]; omega), List.drop_left' hlen, codeOf_flat l hi, ih (fun l' hl' => hts l' (by simp [hl']))]

theorem flat_rdT (n : Nat) (l : List UInt8) (h : (rdT n l).1 = 0) : bytesOf ((rdT n l).2.1.flatMap codeB) ++ (rdT n l).2.2 = l ∧ (rdT n l).2.1.length = n := by
  induction n generalizing l with
  | zero => exact ⟨rfl, rfl⟩
  | succ n ih =>
    cases l with
    | nil => simp [rdT] at h
    | cons c l =>
      by_cases h1 : 8 < c.toNat
      · rw [rdT, if_pos h1] at h; simp at h
      · by_cases h2 : l.length < c.toNat * 4
        · rw [rdT, if_neg h1, if_pos h2] at h; simp at h
        · rw [rdT, if_neg h1, if_neg h2] at h ⊢
          obtain ⟨e1, e2⟩ := ih _ h
          refine ⟨?_, by simp [e2]⟩
          have e3 := flat_codeOf c.toNat l (by omega)
          have e4 : bytesOf ((codeOf c.toNat l :: (rdT n (l.drop (4 * c.toNat))).2.1).flatMap codeB) = c :: (bytesOf ((codeOf c.toNat l).flatMap insB) ++ bytesOf ((rdT n (l.drop (4 * c.toNat))).2.1.flatMap codeB)) := by
            simp [bytesOf, codeB, codeOf_length, byteOf_cast]
          rw [e4, e3, List.cons_append, List.append_assoc, e1, List.take_append_drop]

theorem right_parts {p : Pg} (h : rightPg p = true) : ∀ l ∈ p.threads, l.length ≤ 8 ∧ ∀ i ∈ l, 0 ≤ i.kind ∧ i.kind ≤ 8 ∧ 0 ≤ i.r ∧ i.r ≤ 1 ∧ 0 ≤ i.x ∧ i.x ≤ 8 ∧ -128 ≤ i.n ∧ i.n ≤ 127 := by
  intro l hl
  obtain ⟨k, hk, rfl⟩ := List.mem_iff_getElem.1 hl
  obtain ⟨h8, hi⟩ := rightPg_code h hk
  have hs := rightPg_size h
  refine ⟨h8, fun i hi' => ?_⟩
  obtain ⟨j, hj, rfl⟩ := List.mem_iff_getElem.1 hi'
  exact rightIns_bd (hi j hj) (by omega) (by omega) (by omega)

/-- What is printed is read as it was. -/
theorem read_print {p : Pg} (h : rightPg p = true) : rdPg (bytesOf (pgB p)) = (0, p) := by
  obtain ⟨V, M, ts⟩ := p
  have hs := rightPg_size h
  have hp := right_parts h
  dsimp only at hs hp
  have e : bytesOf (pgB ⟨V, M, ts⟩) = byteOf V :: byteOf M :: byteOf (ts.length : Int) :: (bytesOf (ts.flatMap codeB) ++ []) := by simp [bytesOf, pgB]
  have e0 := byteOf_toNat (n := V) (by omega) (by omega)
  have e1 := byteOf_toNat (n := M) (by omega) (by omega)
  have e2 : (byteOf (ts.length : Int)).toNat = ts.length := by
    have := byteOf_toNat (n := (ts.length : Int)) (by omega) (by omega)
    omega
  unfold rdPg
  rw [e, rdP, e2, if_neg (by omega), rdT_flat ts hp, e0, e1]
  simp [finP, h]

/-- What is read is printed as it was. -/
theorem print_read {l : List UInt8} (h : (rdPg l).1 = 0) : bytesOf (pgB (rdPg l).2) = l ∧ rightPg (rdPg l).2 = true := by
  unfold rdPg finP at h ⊢
  match l with
  | [] => simp [rdP] at h
  | [_] => simp [rdP] at h
  | [_, _] => simp [rdP] at h
  | x :: y :: z :: l =>
    by_cases hz : 4 < z.toNat
    · rw [rdP, if_pos hz] at h; simp at h
    · rw [rdP, if_neg hz] at h ⊢
      simp only [] at h ⊢
      by_cases h0 : (rdT z.toNat l).1 = 0
      · rw [if_pos h0] at h ⊢
        simp only [if_true] at h ⊢
        by_cases hr : (rdT z.toNat l).2.2 = [] ∧ rightPg ⟨x.toNat, y.toNat, (rdT z.toNat l).2.1⟩ = true
        · rw [if_pos hr]
          obtain ⟨e1, e2⟩ := flat_rdT z.toNat l h0
          rw [hr.1, List.append_nil] at e1
          refine ⟨?_, hr.2⟩
          have e : bytesOf (pgB ⟨x.toNat, y.toNat, (rdT z.toNat l).2.1⟩) = x :: y :: byteOf ((rdT z.toNat l).2.1.length : Int) :: bytesOf ((rdT z.toNat l).2.1.flatMap codeB) := by simp [bytesOf, pgB, byteOf_cast]
          dsimp only
          rw [e, e1, e2, byteOf_cast]
        · rw [if_neg hr] at h; simp at h
      · rw [if_neg h0] at h
        simp only [] at h
        rw [if_neg h0] at h
        simp at h
        exact absurd h h0

/-- Bytes that are cut off are none: too short. -/
theorem rdT_cut (ts : List (List Ins)) (hts : ∀ l ∈ ts, l.length ≤ 8) (k : Nat) (hk : k < (bytesOf (ts.flatMap codeB)).length) : (rdT ts.length ((bytesOf (ts.flatMap codeB)).take k)).1 = 4 := by
  induction ts generalizing k with
  | nil => simp [bytesOf] at hk
  | cons l ts ih =>
    have h8 := hts l (by simp)
    have e : bytesOf ((l :: ts).flatMap codeB) = byteOf (l.length : Int) :: (bytesOf (l.flatMap insB) ++ bytesOf (ts.flatMap codeB)) := by simp [bytesOf, codeB]
    have en : (byteOf (l.length : Int)).toNat = l.length := by
      have := byteOf_toNat (n := (l.length : Int)) (by omega) (by omega)
      omega
    have hlen : (bytesOf (l.flatMap insB)).length = 4 * l.length := by simp only [bytesOf, List.length_map]; exact flatMap_insB_length l
    rw [e] at hk ⊢
    cases k with
    | zero => rfl
    | succ k =>
      simp only [List.length_cons, List.length_append, hlen] at hk
      rw [List.take_succ_cons, List.length_cons, rdT, en, if_neg (by omega)]
      by_cases h : k < 4 * l.length
      · rw [if_pos (by simp [hlen]; omega)]
      · rw [if_neg (by simp [hlen]; omega)]
        have ed : ((bytesOf (l.flatMap insB) ++ bytesOf (ts.flatMap codeB)).take k).drop (4 * l.length) = (bytesOf (ts.flatMap codeB)).take (k - 4 * l.length) := by
          rw [List.take_append, hlen, List.take_of_length_le (by omega), List.drop_left' hlen]
        dsimp only
        rw [ed]
        exact ih (fun l' hl' => hts l' (by simp [hl'])) _ (by omega)

theorem read_cut {p : Pg} (h : rightPg p = true) (k : Nat) (hk : k < (bytesOf (pgB p)).length) : rdPg ((bytesOf (pgB p)).take k) = (4, zeroPg) := by
  obtain ⟨V, M, ts⟩ := p
  have hs := rightPg_size h
  have hp := right_parts h
  dsimp only at hs hp
  have e : bytesOf (pgB ⟨V, M, ts⟩) = byteOf V :: byteOf M :: byteOf (ts.length : Int) :: bytesOf (ts.flatMap codeB) := by simp [bytesOf, pgB]
  have e2 : (byteOf (ts.length : Int)).toNat = ts.length := by
    have := byteOf_toNat (n := (ts.length : Int)) (by omega) (by omega)
    omega
  rw [e] at hk ⊢
  match k with
  | 0 => rfl
  | 1 => rfl
  | 2 => rfl
  | k + 3 =>
    have hc := rdT_cut ts (fun l hl => (hp l hl).1) k (by simp at hk; omega)
    unfold rdPg
    rw [List.take_succ_cons, List.take_succ_cons, List.take_succ_cons, rdP, e2, if_neg (by omega)]
    simp only []
    rw [hc]
    simp [finP]

theorem print_inj {p q : Pg} (hp : rightPg p = true) (hq : rightPg q = true) : (bytesOf (pgB p) = bytesOf (pgB q)) ↔ p = q := by
  constructor
  · intro h
    have h1 := read_print hp
    rw [h, read_print hq] at h1
    exact (Prod.mk.inj h1).2.symm
  · rintro rfl; rfl
end Go.Proofs.Ytjkfocmfgcmegaa
