/- The contract of the document's place. -/
import Derived.Test.YtfefidmbkbigoaaNumber
namespace Go.Proofs.Ytfefidmbkbigoaa
open Go.RowKit

/-- The place of a thread's event behind m others, or none. -/
def PlaceIs (l : List Ev) (t : Int) (m : Nat) (p : Int) : Prop := (∃ i : Nat, p = i ∧ At l t m i) ∨ (p = -1 ∧ cnt (isT l t) l.length ≤ m)
def PlaceR (l : List Ev) (t : Int) (m : Nat) (w : World) (r : Ending) (w' : World) : Prop := ∃ p : Int, r = .returned (.int .i64 p) ∧ PlaceIs l t m p ∧ w = w'

set_option maxRecDepth 100000 in
set_option maxHeartbeats 4000000 in
theorem place_any (a : Option Addr) (cap : Nat) (l : List Ev) (t : Int) (m n : Nat) (hn : n = m + 1) (w : World) (hl : EvsAt w a l) (hm : l.length ≤ 1000) (hmm : m ≤ 1000) :
    Calls Try.prog 38 #[.slice a l.length cap, .int .i64 t, .int .i64 n] w (PlaceR l t m w) := by
  have HL := Lib.hid hl
  have HN := Lib.hid hn
  have hn2 : n ≤ 1001 := by omega
  clear hl hn
  go_enter Try.func38, Try.ntmps38
  go_wp2
  go_loop [2, 7] (fun c j => ∃ k d : Nat, k ≤ l.length ∧ j = .int .i64 k ∧ c = .int .i64 d ∧ d ≤ 1001 ∧ 0 < d ∧ Hid (d + cnt (isT l t) k = n)) (fun _ j => l.length - (intOf j).toNat)
  case atStart => exact ⟨0, n, Nat.zero_le _, rfl, rfl, hn2, by have := HN.out; omega, rfl⟩
  case round =>
    obtain ⟨k, d, hk, rfl, rfl, hd, hd0, HD⟩ := hrel
    by_cases hlt : k < l.length
    · obtain ⟨b, o, rfl, t0, t1, t2, t3⟩ := HL.out.one hlt
      have HC := Lib.hid (cnt_isT l t k)
      by_cases he : (evI l k).thread = t
      · have hq : ((evI l k).thread == t) = true := by simp [he]
        have HE := Lib.hid he
        by_cases hd1 : d = 1
        · subst hd1
          have HP : Hid (PlaceIs l t m k) := .inl ⟨k, rfl, hlt, isT_iff.2 HE.out, by have := HD.out; have := HN.out; omega⟩
          clear he
          go_wp2
          go_ret
          exact ⟨k, rfl, HP.out, rfl⟩
        · have hq2 : ((d : Int) - 1 == 0) = false := by simp; omega
          have HD2 : Hid (d - 1 + cnt (isT l t) (k + 1) = n) := by show _ = _; rw [HC.out, if_pos HE.out]; have := HD.out; omega
          have hz : ((d : Int) - 1) = ((d - 1 : Nat) : Int) := by omega
          clear he
          obtain ⟨d, rfl⟩ : ∃ d', d = d' + 1 := ⟨d - 1, by omega⟩
          clear hz hq2
          have hq2 : ((d : Int) == 0) = false := by simp; omega
          go_wp2
          go_round
          case rel => exact ⟨k + 1, d, by omega, by go_num, by go_num, by omega, by omega, HD2⟩
          case measure => simp [intOf]; omega
      · have hq : ((evI l k).thread == t) = false := by simp [he]
        have HD2 : Hid (d + cnt (isT l t) (k + 1) = n) := by show _ = _; rw [HC.out, if_neg he]; have := HD.out; omega
        clear he
        go_wp2
        go_round
        case rel => exact ⟨k + 1, d, by omega, by go_num, rfl, by omega, by omega, HD2⟩
        case measure => simp [intOf]; omega
    · obtain rfl : k = l.length := by omega
      have HP : Hid (PlaceIs l t m (-1)) := .inr ⟨rfl, by have := HD.out; have := HN.out; omega⟩
      go_wp2
      go_ret
      exact ⟨-1, rfl, HP.out, rfl⟩

end Go.Proofs.Ytfefidmbkbigoaa
