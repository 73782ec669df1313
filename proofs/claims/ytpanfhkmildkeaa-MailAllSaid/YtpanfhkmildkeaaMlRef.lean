/- The document's letters: the first one to a worker, how many there are. -/
import Derived.Test.YtpanfhkmildkeaaMlSend
namespace Go.Proofs.Ytpanfhkmildkeaa
open Go.RowKit

/-- A letter of the document's. -/
structure RL where
  to : Int
  set : Int
  s : Txt
def rlCell (l : RL) : List Value := [.int .i64 l.to, .int .i64 l.set, .string ⟨l.s.toArray⟩]
theorem rlCell_len (l : RL) : (rlCell l).length = 3 := rfl
theorem rlCell_one (l : RL) : ∀ v ∈ rlCell l, v.oneCell' = true := by
  intro v hv
  simp [rlCell] at hv
  rcases hv with rfl | rfl | rfl <;> rfl
theorem RowAt.rl {w : World} {a : Option Addr} {l : List RL} (h : RowAt w a 3 rlCell l) {k : Nat} (hk : k < l.length) : ∃ b o, a = some ⟨b, o, none⟩ ∧ w.cell? ⟨b, o + k * 3, none⟩ = some (.int .i64 l[k].to) ∧ w.cell? ⟨b, o + k * 3 + 1, none⟩ = some (.int .i64 l[k].set) ∧ w.cell? ⟨b, o + k * 3 + 2, none⟩ = some (.string ⟨l[k].s.toArray⟩) := by
  obtain ⟨b, o, rfl, hc⟩ := h.2 (by intro e; simp [e] at hk)
  have h0 := hc k hk 0 _ rfl
  have h1 := hc k hk 1 _ rfl
  have h2 := hc k hk 2 _ rfl
  exact ⟨b, o, rfl, by simpa using h0, by simpa using h1, by simpa using h2⟩
/-- The place of the first one to a worker. -/
def firstL (l : List RL) (z : Int) : Option Nat := l.findIdx? fun x => x.to == z
def firstI (l : List RL) (z : Int) : Int := match firstL l z with | some k => (k : Int) | none => -1
def countL (l : List RL) (z : Int) : Nat := l.countP fun x => x.to == z
set_option maxRecDepth 100000 in
set_option maxHeartbeats 1000000 in
theorem refFirst_any (a : Option Addr) (cap : Nat) (l : List RL) (z : Int) (w : World) (h : RowAt w a 3 rlCell l) (hl : l.length ≤ 1000000) :
    Calls Try.prog 10 #[.slice a l.length cap, .int .i64 z] w fun r w' => r = .returned (.int .i64 (firstI l z)) ∧ w = w' := by
  have HR := Lib.hid h
  clear h
  go_enter Try.func10, Try.ntmps10
  go_wp2_with fail
  go_loopw [5] (fun v wr => ∃ j : Nat, j ≤ l.length ∧ v = .int .i64 j ∧ (∀ k (h : k < l.length), k < j → (l[k].to == z) = false) ∧ wr = w) (fun v _ => l.length - (intOf v).toNat)
  case atStart => exact ⟨0, Nat.zero_le _, rfl, fun k _ h => absurd h (Nat.not_lt_zero _), rfl⟩
  case round =>
    obtain ⟨j, hj, rfl, hno, rfl⟩ := hrel
    by_cases hlt : j < l.length
    · obtain ⟨b, o, rfl, c0, _⟩ := HR.out.rl hlt
      have HN := Lib.hid hno
      have HLT := Lib.hid hlt
      clear hno
      by_cases e : (l[j].to == z) = true
      · have e2 : firstL l z = some j := by
          unfold firstL
          rw [List.findIdx?_eq_some_iff_getElem]
          exact ⟨hlt, e, fun k hk => by simpa using HN.out k (by omega) hk⟩
        have E2 : Hid (firstI l z = j) := by show _ = _; unfold firstI; rw [e2]
        clear e2
        generalize l[j] = x at *
        go_wp2
        go_ret
        exact ⟨by rw [E2.out]; rfl, rfl⟩
      · have e : (l[j].to == z) = false := by simpa using e
        have HN2 : Hid (∀ k (h : k < l.length), k < j + 1 → (l[k].to == z) = false) := fun k h hk => by
          by_cases e2 : k = j
          · subst e2; exact e
          · exact HN.out k h (by omega)
        generalize l[j] = x at *
        go_wp2
        go_roundw
        case rel => exact ⟨j + 1, by omega, by go_num, HN2.out, trivial⟩
        case measure => simp [intOf]; omega
    · obtain rfl : j = l.length := by omega
      have e2 : firstL l z = none := by
        unfold firstL
        rw [List.findIdx?_eq_none_iff]
        intro x hx
        obtain ⟨k, hk, rfl⟩ := List.getElem_of_mem hx
        exact hno k hk hk
      have E2 : Hid (firstI l z = -1) := by show _ = _; unfold firstI; rw [e2]
      clear e2 hno
      go_wp2
      go_ret
      exact ⟨by rw [E2.out]; rfl, rfl⟩
set_option maxRecDepth 100000 in
set_option maxHeartbeats 1000000 in
theorem refCount_any (a : Option Addr) (cap : Nat) (l : List RL) (z : Int) (w : World) (h : RowAt w a 3 rlCell l) (hl : l.length ≤ 1000000) :
    Calls Try.prog 12 #[.slice a l.length cap, .int .i64 z] w fun r w' => r = .returned (.int .i64 (countL l z : Nat)) ∧ w = w' := by
  have HR := Lib.hid h
  clear h
  go_enter Try.func12, Try.ntmps12
  go_wp2_with fail
  go_loopw [5, 6] (fun n v wr => ∃ j m : Nat, j ≤ l.length ∧ v = .int .i64 j ∧ n = .int .i64 m ∧ m ≤ j ∧ Hid (countL (l.take j) z = m) ∧ wr = w) (fun _ v _ => l.length - (intOf v).toNat)
  case atStart => exact ⟨0, 0, Nat.zero_le _, rfl, rfl, Nat.le_refl _, rfl, rfl⟩
  case round =>
    obtain ⟨j, m, hj, rfl, rfl, hm, HC, rfl⟩ := hrel
    by_cases hlt : j < l.length
    · obtain ⟨b, o, rfl, c0, _⟩ := HR.out.rl hlt
      have hs : countL (l.take (j + 1)) z = countL (l.take j) z + if l[j].to == z then 1 else 0 := by
        unfold countL
        rw [List.take_succ_eq_append_getElem hlt, List.countP_append, List.countP_singleton]
      have HS := Lib.hid hs
      clear hs
      by_cases e : (l[j].to == z) = true
      · have HC2 : Hid (countL (l.take (j + 1)) z = m + 1) := by show _ = _; rw [HS.out, HC.out, e]; rfl
        clear HS
        generalize l[j] = x at *
        go_wp2
        go_roundw
        case rel => exact ⟨j + 1, m + 1, by omega, by go_num, by go_num, by omega, HC2, trivial⟩
        case measure => simp [intOf]; omega
      · have e : (l[j].to == z) = false := by simpa using e
        have HC2 : Hid (countL (l.take (j + 1)) z = m) := by show _ = _; rw [HS.out, HC.out, e]; rfl
        clear HS
        generalize l[j] = x at *
        go_wp2
        go_roundw
        case rel => exact ⟨j + 1, m, by omega, by go_num, rfl, by omega, HC2, trivial⟩
        case measure => simp [intOf]; omega
    · obtain rfl : j = l.length := by omega
      have e2 : countL l z = m := by have := HC.out; rw [List.take_length] at this; exact this
      have E2 := Lib.hid e2
      clear e2
      go_wp2
      go_ret
      exact ⟨by rw [E2.out]; rfl, rfl⟩
end Go.Proofs.Ytpanfhkmildkeaa
