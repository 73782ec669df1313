/- The contract of readCode. -/
import Derived.Test.YtjkfocmfgcmegaaReadIns
import Derived.Test.YtjkfocmfgcmegaaCopy
namespace Go.Proofs.Ytjkfocmfgcmegaa
open Go.RowKit

/-- The first n instructions of a text. -/
def codeOf : Nat → List UInt8 → List Ins
  | 0, _ => []
  | n + 1, l => insOf l :: codeOf n (l.drop 4)

set_option maxRecDepth 100000 in
set_option maxHeartbeats 1000000 in
theorem readCode_none (w : World) :
    Calls Try.prog 29 #[.string ⟨([] : List UInt8).toArray⟩] w fun r w' => r = .returned (.tuple #[.slice none 0 0, .string ⟨#[]⟩, .int .i64 4]) ∧ Below w.heap.size w w' := by
  go_enter Try.func29, Try.ntmps29
  go_wp2
  go_ret3
  exact ⟨rfl, Below.refl _ _⟩

theorem head_cons (c : UInt8) (l : List UInt8) (h : 0 < (⟨(c :: l).toArray⟩ : ByteArray).size) : (⟨(c :: l).toArray⟩ : ByteArray)[0] = c := rfl

set_option maxRecDepth 100000 in
set_option maxHeartbeats 1000000 in
theorem readCode_form (c : UInt8) (l : List UInt8) (w : World) (hc : 8 < c.toNat) :
    Calls Try.prog 29 #[.string ⟨(c :: l).toArray⟩] w fun r w' => r = .returned (.tuple #[.slice none 0 0, .string ⟨#[]⟩, .int .i64 3]) ∧ Below w.heap.size w w' := by
  have bc := UInt8.toNat_lt c
  have v0 : IntKind.i64.wrap (c.toNat : Int) = c.toNat := IntWalk.i64_in _ (by omega)
  have hh := head_cons c l
  go_enter Try.func29, Try.ntmps29
  go_wp2
  go_region
  go_wp2
  go_ret3
  exact ⟨rfl, (Below.refl _ _).drew⟩

set_option maxRecDepth 100000 in
set_option maxHeartbeats 1000000 in
theorem readCode_short (c : UInt8) (l : List UInt8) (w : World) (hc : c.toNat ≤ 8) (hl : l.length < c.toNat * 4) :
    Calls Try.prog 29 #[.string ⟨(c :: l).toArray⟩] w fun r w' => r = .returned (.tuple #[.slice none 0 0, .string ⟨#[]⟩, .int .i64 4]) ∧ Below w.heap.size w w' := by
  have v0 : IntKind.i64.wrap (c.toNat : Int) = c.toNat := IntWalk.i64_in _ (by omega)
  have hh := head_cons c l
  go_enter Try.func29, Try.ntmps29
  go_wp2
  go_region
  go_wp2
  go_ret3
  exact ⟨rfl, (Below.refl _ _).drew⟩

theorem codeOf_succ (k : Nat) (l : List UInt8) : codeOf (k + 1) l = codeOf k l ++ [insOf (l.drop (4 * k))] := by
  induction k generalizing l with
  | zero => simp [codeOf]
  | succ k ih =>
    rw [codeOf, ih (l.drop 4)]
    conv => rhs; rw [codeOf]
    rw [List.drop_drop]
    simp only [List.cons_append]
    rw [show 4 * (k + 1) = 4 + 4 * k by omega]

theorem codeOf_length (k : Nat) (l : List UInt8) : (codeOf k l).length = k := by
  induction k generalizing l with
  | zero => rfl
  | succ k ih => simp [codeOf, ih]

theorem insCells_append (a b : List Ins) : insCells (a ++ b) = insCells a ++ insCells b := by simp [insCells]

theorem cut_text (l : List UInt8) (k n : Nat) (hn : n = l.length) : (⟨l.toArray⟩ : ByteArray).extract k n = ⟨(l.drop k).toArray⟩ := by
  subst hn
  apply ByteArray.ext
  rw [ByteArray.data_extract]
  simp
  rw [List.take_of_length_le (by simp)]

theorem set_four (pre zs : List Value) (z0 z1 z2 z3 v0 v1 v2 v3 : Value) (n : Nat) (hn : n = pre.length) :
    ((((pre ++ z0 :: z1 :: z2 :: z3 :: zs).set n v0).set (n + 1) v1).set (n + 2) v2).set (n + 3) v3 = pre ++ v0 :: v1 :: v2 :: v3 :: zs := by
  subst hn
  rw [List.set_append_right _ _ (by omega), List.set_append_right _ _ (by omega), List.set_append_right _ _ (by omega), List.set_append_right _ _ (by omega)]
  rw [show pre.length - pre.length = 0 by omega, show pre.length + 1 - pre.length = 1 by omega, show pre.length + 2 - pre.length = 2 by omega, show pre.length + 3 - pre.length = 3 by omega]
  rfl

/-- In the middle of reading a code. -/
def ReadRel (w : World) (l : List UInt8) (n k : Nat) (wr : World) : Prop :=
  Below w.heap.size w wr ∧ ∃ zs : List Value, zs.length = (n - k) * 4 ∧ wr.heap[w.heap.size]? = some (.cells (insCells (codeOf k l) ++ zs).toArray 34 (0, 0))

theorem ReadRel.step {w wr w1 : World} {l : List UInt8} {n k : Nat} (h : ReadRel w l n k wr) (hk : k < n) (hb : Below wr.heap.size wr w1) :
    ReadRel w l n (k + 1) ((((w1.setCell ⟨w.heap.size, k * 4, none⟩ (.int .i64 (insOf (l.drop (4 * k))).kind)).setCell ⟨w.heap.size, k * 4 + 1, none⟩ (.int .i64 (insOf (l.drop (4 * k))).r)).setCell ⟨w.heap.size, k * 4 + 2, none⟩ (.int .i64 (insOf (l.drop (4 * k))).x)).setCell ⟨w.heap.size, k * 4 + 3, none⟩ (.int .i64 (insOf (l.drop (4 * k))).n)) := by
  obtain ⟨h1, zs, h2, h3⟩ := h
  have hlt : w.heap.size < wr.heap.size := (Array.getElem?_eq_some_iff.1 h3).1
  have h4 := (hb.block _ hlt).trans h3
  match zs, h2 with
  | z0 :: z1 :: z2 :: z3 :: zs, h2 =>
    refine ⟨(((((h1.trans (hb.mono h1.size)).setCell (p := ⟨w.heap.size, k * 4, none⟩) (Nat.le_refl _) _).setCell (p := ⟨w.heap.size, k * 4 + 1, none⟩) (Nat.le_refl _) _).setCell (p := ⟨w.heap.size, k * 4 + 2, none⟩) (Nat.le_refl _) _).setCell (p := ⟨w.heap.size, k * 4 + 3, none⟩) (Nat.le_refl _) _), zs, by simp at h2; omega, ?_⟩
    rw [row_set (row_set (row_set (row_set h4 _) _) _) _, set_four _ _ _ _ _ _ _ _ _ _ _ (by rw [insCells_length, codeOf_length]), codeOf_succ, insCells_append, List.append_assoc]
    rfl
  | [], h2 => simp at h2; omega
  | [_], h2 => simp at h2; omega
  | [_, _], h2 => simp at h2; omega
  | [_, _, _], h2 => simp at h2; omega

set_option maxRecDepth 100000 in
set_option maxHeartbeats 1000000 in
theorem readCode_ok (c : UInt8) (l : List UInt8) (w : World) (hc : c.toNat ≤ 8) (hl : c.toNat * 4 ≤ l.length) (hm : l.length ≤ 1000000000) :
    Calls Try.prog 29 #[.string ⟨(c :: l).toArray⟩] w fun r w' => ∃ g, r = .returned (.tuple #[.slice (some ⟨g, 0, none⟩) c.toNat c.toNat, .string ⟨(l.drop (4 * c.toNat)).toArray⟩, .int .i64 0]) ∧ Below w.heap.size w w' ∧
      w.heap.size ≤ g ∧ w'.heap[g]? = some (.cells (insCells (codeOf c.toNat l)).toArray 34 (0, 0)) := by
  have v0 : IntKind.i64.wrap (c.toNat : Int) = c.toNat := IntWalk.i64_in _ (by omega)
  have hh := head_cons c l
  go_enter Try.func29, Try.ntmps29
  go_wp2
  go_region
  have hmk := run_make_k (P := Try.prog) 32 34 (.agg #[.int .i64 0, .int .i64 0, .int .i64 0, .int .i64 0]) 4 32 Try.underlying32 (by kernel_rfl) c.toNat (by omega) (by omega)
  clear v0 hh
  go_wp2
  go_loopw [6, 27] (fun t i wr => ∃ k : Nat, k ≤ c.toNat ∧ i = .int .i64 k ∧ t = .string ⟨(l.drop (4 * k)).toArray⟩ ∧ ReadRel w l c.toNat k wr) (fun _ i _ => c.toNat - (intOf i).toNat)
  case atStart =>
    refine ⟨0, Nat.zero_le _, rfl, ?_, ((Below.refl _ _).alloc (Nat.le_refl _) _).drew, (madeCells #[.int .i64 0, .int .i64 0, .int .i64 0, .int .i64 0] (c.toNat * 4)).toList, by simp [size_madeCells], ?_⟩
    · rw [cut_text (c :: l) 1 (l.length + 1) (by simp)]; rfl
    · have := (MapKept.heap_alloc w (.cells (madeCells #[.int .i64 0, .int .i64 0, .int .i64 0, .int .i64 0] (c.toNat * 4)) 34)).1
      show (w.alloc _).heap[w.heap.size]? = _
      rw [this]
      simp [codeOf, insCells]
  case round =>
    obtain ⟨k, hk, rfl, rfl, hR⟩ := hrel
    by_cases hlt : k < c.toNat
    · obtain ⟨L, hL⟩ : ∃ L, L = l.drop (4 * k) := ⟨_, rfl⟩
      rw [← hL]
      have hL4 : 4 ≤ L.length := by rw [hL, List.length_drop]; omega
      have HL := Lib.hid hL
      clear hL
      obtain ⟨_, zs, z1, z2⟩ := id hR
      have hz : w.heap.size < wr.heap.size := (Array.getElem?_eq_some_iff.1 z2).1
      have HZ := Lib.hid z2
      have HZ1 := Lib.hid z1
      have HR := Lib.hid hR
      clear z1 z2 hR
      go_wp2_with fail
      refine (readInstr_any ⟨L.toArray⟩ _ (by show 4 ≤ L.toArray.size; simpa using hL4)).mono ?_
      rintro r w1 ⟨rfl, hb1⟩
      have hst := HR.out.step hlt hb1
      rw [← HL.out] at hst
      have HST := Lib.hid hst
      clear hst
      have hw1 : w1.heap[w.heap.size]? = some (.cells (insCells (codeOf k l) ++ zs).toArray 34 (0, 0)) := (hb1.block _ hz).trans HZ.out
      have hlen : (insCells (codeOf k l) ++ zs).length = c.toNat * 4 := by
        rw [List.length_append, insCells_length, codeOf_length, HZ1.out]; omega
      have hcell : ∀ j, j < c.toNat * 4 → ∃ v, w1.cell? ⟨w.heap.size, j, none⟩ = some v := by
        intro j hj
        refine ⟨(insCells (codeOf k l) ++ zs)[j]'(by omega), ?_⟩
        simp [World.cell?, hw1]
      obtain ⟨y0, g0⟩ := hcell (k * 4) (by omega)
      obtain ⟨y1, g1⟩ := hcell (k * 4 + 1) (by omega)
      obtain ⟨y2, g2⟩ := hcell (k * 4 + 2) (by omega)
      obtain ⟨y3, g3⟩ := hcell (k * 4 + 3) (by omega)
      have f0 : ∀ j, w1.frozen? ⟨w.heap.size, j, none⟩ = false := by intro j; simp [World.frozen?, hw1]
      have f00 := f0 (k * 4)
      have f01 := f0 (k * 4 + 1)
      have f02 := f0 (k * 4 + 2)
      have f03 := f0 (k * 4 + 3)
      clear hcell hw1 hlen f0
      have hins : insV (insOf (⟨L.toArray⟩ : ByteArray).data.toList) = .agg #[.int .i64 (insOf L).kind, .int .i64 (insOf L).r, .int .i64 (insOf L).x, .int .i64 (insOf L).n] := rfl
      rw [hins]
      clear hins
      generalize insOf L = I at *
      have HD : Hid (L.drop 4 = l.drop (4 * (k + 1))) := by
        show _ = _
        rw [HL.out, List.drop_drop]
        congr 1
      go_wp2
      go_roundw
      case rel =>
        refine ⟨k + 1, by omega, by go_num, ?_, HST.out⟩
        rw [← HD.out]
        congr 1
        exact cut_text L 4 _ (by simp)
      case measure => simp [intOf]; omega
    · obtain rfl : k = c.toNat := by omega
      have hbw := hR.1
      have hfin : wr.heap[w.heap.size]? = some (.cells (insCells (codeOf c.toNat l)).toArray 34 (0, 0)) := by
        obtain ⟨_, zs, z1, z2⟩ := hR
        have : zs = [] := List.eq_nil_of_length_eq_zero (by rw [z1]; simp)
        subst this
        simpa using z2
      have HF := Lib.hid hfin
      clear hfin hR
      go_wp2
      go_ret3
      exact ⟨w.heap.size, rfl, hbw, Nat.le_refl _, HF.out⟩
end Go.Proofs.Ytjkfocmfgcmegaa
