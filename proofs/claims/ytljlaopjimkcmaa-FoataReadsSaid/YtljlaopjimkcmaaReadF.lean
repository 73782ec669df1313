/- The contract of foata's Read. -/
import Derived.Test.YtljlaopjimkcmaaParse
namespace Go.Proofs.Ytljlaopjimkcmaa
open Go.RowKit

theorem readE_le (s : List UInt8) : (readE s).length ≤ s.length := by
  unfold readE
  split
  · simp [evsOf]
  · simp
theorem parseN_len : ∀ (n : Nat) (s : List UInt8), (parseN n s).length ≤ n
  | 0, _ => by simp [parseN]
  | n + 1, [] => by simp [parseN]
  | n + 1, c :: r => by
    unfold parseN
    split
    · simp
    · have := parseN_len n (r.drop c.toNat)
      simp
      omega
theorem parseN_row : ∀ (n : Nat) (s : List UInt8), ∀ row ∈ parseN n s, row.length ≤ 255
  | 0, _ => by simp [parseN]
  | n + 1, [] => by simp [parseN]
  | n + 1, c :: r => by
    unfold parseN
    split
    · simp
    · intro row hrow
      rcases List.mem_cons.1 hrow with rfl | hrow
      · have := readE_le (r.take c.toNat)
        have := List.length_take_le c.toNat r
        have := UInt8.toNat_lt c
        omega
      · exact parseN_row n _ row hrow
theorem parseN_flat : ∀ (n : Nat) (s : List UInt8), (parseN n s).flatten.length ≤ n * 255
  | 0, _ => by simp [parseN]
  | n + 1, [] => by simp [parseN]
  | n + 1, c :: r => by
    unfold parseN
    split
    · simp
    · rw [List.flatten_cons, List.length_append]
      have := parseN_flat n (r.drop c.toNat)
      have := readE_le (r.take c.toNat)
      have := List.length_take_le c.toNat r
      have := UInt8.toNat_lt c
      omega
theorem parseN_get (n : Nat) (s : List UInt8) (i : Nat) : ((parseN n s).getD i []).length ≤ 255 := by
  by_cases h : i < (parseN n s).length
  · rw [getD_lt _ h]
    exact parseN_row n s _ (List.getElem_mem h)
  · simp [List.getD, List.getElem?_eq_none (Nat.le_of_not_lt h)]

/-- Are these bytes some row's Key? -/
def keyOk (s : List UInt8) : Prop := bstr (printF (parseN 200 s)) = ⟨s.toArray⟩
def ReadFR (w : World) (s : List UInt8) (r : Ending) (w' : World) : Prop :=
  ((keyOk s ∧ ∃ v ss, r = .returned (.tuple #[v, .int .i64 0]) ∧ OwnLv w' w.heap.size v ss (parseN 200 s)) ∨ (¬ keyOk s ∧ r = .returned (.tuple #[.slice none 0 0, .int .i64 3]))) ∧ Below w.heap.size w w'

set_option maxRecDepth 100000 in
set_option maxHeartbeats 2000000 in
theorem readF_any (s : List UInt8) (w : World) (hm : s.length ≤ 1000000) :
    Calls Try.prog 11 #[.string ⟨s.toArray⟩] w (ReadFR w s) := by
  have HC := Lib.hid (parse_any s w hm)
  have HPL := Lib.hid (parseN_len 200 s)
  have HPF := Lib.hid (parseN_flat 200 s)
  have HPG := Lib.hid (parseN_get 200 s)
  have HK : Hid (keyOk s ↔ bstr (printF (parseN 200 s)) = ⟨s.toArray⟩) := Iff.rfl
  have HFR : Hid (∀ r w', ReadFR w s r w' ↔ ((keyOk s ∧ ∃ v ss, r = .returned (.tuple #[v, .int .i64 0]) ∧ OwnLv w' w.heap.size v ss (parseN 200 s)) ∨ (¬ keyOk s ∧ r = .returned (.tuple #[.slice none 0 0, .int .i64 3]))) ∧ Below w.heap.size w w') := fun _ _ => Iff.rfl
  generalize parseN 200 s = m at *
  go_enter Try.func11, Try.ntmps11
  go_wp2_with fail
  refine HC.out.mono ?_
  rintro r w1 ⟨v, ss, rfl, hv, hb1⟩
  obtain ⟨a, cap, rfl, hat, _⟩ := OwnLv.form hv (by have := HPL.out; omega) (fun i _ => by have := HPG.out i; omega)
  have HV := Lib.hid hv
  have HP := Lib.hid (print_any a cap m w1 hat (by have := HPL.out; omega) (by have := HPF.out; omega))
  clear hv hat HC
  go_wp2_with fail
  refine HP.out.mono ?_
  rintro r w2 ⟨rfl, hb2⟩
  have hb3 := hb1.trans (hb2.mono hb1.size)
  have HV2 := Lib.hid (HV.out.later hb2)
  clear HP HV hb1 hb2
  generalize bstr (printF m) = S at *
  obtain ⟨L, rfl⟩ : ∃ L : List UInt8, S = ⟨L.toArray⟩ := ⟨S.data.toList, by simp⟩
  by_cases h : L = s
  · have hq : (L == s) = true := by simp [h]
    have HKK : Hid (keyOk s) := HK.out.2 (by rw [h])
    clear h HK
    go_wp2
    go_ret2
    exact (HFR.out _ _).2 ⟨.inl ⟨HKK.out, _, ss, rfl, HV2.out⟩, hb3⟩
  · have hq : (L == s) = false := by simp [h]
    have HKK : Hid (¬ keyOk s) := fun e => h (by
      have e2 := HK.out.1 e
      injection e2 with e2
      simpa using congrArg Array.toList e2)
    clear h HK
    go_wp2
    go_ret2
    exact (HFR.out _ _).2 ⟨.inr ⟨HKK.out, rfl⟩, hb3⟩

end Go.Proofs.Ytljlaopjimkcmaa
