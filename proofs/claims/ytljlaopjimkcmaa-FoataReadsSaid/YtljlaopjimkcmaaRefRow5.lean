/- The contract of the document's Row. -/
import Derived.Test.YtljlaopjimkcmaaRowF
namespace Go.Proofs.Ytljlaopjimkcmaa
open Go.RowKit

set_option maxRecDepth 100000 in
set_option maxHeartbeats 2000000 in
theorem refRow_any (a : Option Addr) (cap : Nat) (m : List (List Ev)) (w : World) (hl : LvAt w a m) (hm : m.length ≤ 1000000) (hf : m.flatten.length ≤ 1000000) :
    Calls Try.prog 14 #[.slice a m.length cap] w (RowR w m.flatten) := by
  have HL := Lib.hid hl
  have HF := Lib.hid hf
  clear hl hf
  go_enter Try.func14, Try.ntmps14
  go_wp2
  go_loopw [3, 4] (fun s i wr => ∃ k : Nat, k ≤ m.length ∧ i = .int .i64 k ∧ Hid (RowR w (m.take k).flatten (.returned s) wr)) (fun _ i _ => m.length - (intOf i).toNat)
  case atStart => exact ⟨0, Nat.zero_le _, rfl, ⟨_, rfl, ownE_nil _ _, Below.refl _ _⟩⟩
  case round =>
    obtain ⟨k, hk, rfl, HV⟩ := hrel
    obtain ⟨s, hs, hv, hb⟩ := HV.out
    injection hs with hs
    subst hs
    have HO := Lib.hid hv
    by_cases hlt : k < m.length
    · obtain ⟨b, o, sa, sc, rfl, c0, he, hn⟩ := HL.out.one hlt
      have c1 := cell_later hb c0
      have HE := Lib.hid (he.later hb)
      have HT := Lib.hid (flat_take m hlt)
      have hle := flat_le m (k + 1)
      have hf := HF.out
      rw [HT.out, List.length_append] at hle
      have hra : sa = none → sc = 0 ∧ m.getD k [] = [] := fun e => ⟨hn e, by subst e; exact evsAt_none he⟩
      have HRA := Lib.hid hra
      have hBB := hb.size
      have hlen2 : (m.take k).flatten.length + (m.getD k []).length ≤ 1000000 := by omega
      clear hle hra he hn c0 hv hf
      generalize m.getD k [] = row at *
      go_wp2_with (at_builtin; refine wpList_copyE rfl _ _ rfl w.heap.size _ _ rfl HO.out sa sc row rfl HE.out HRA.out hlen2 hBB ?_; intro v' w' h1 h2; have HO2 := Lib.hid h1; clear h1)
      go_roundw
      case rel => exact ⟨k + 1, by omega, by go_num, by rw [HT.out]; exact ⟨v', rfl, HO2.out, hb.trans h2⟩⟩
      case measure => simp [intOf]; omega
    · obtain rfl : k = m.length := by omega
      rw [List.take_length] at HO
      go_wp2
      go_ret
      exact ⟨_, rfl, HO.out, hb⟩

end Go.Proofs.Ytljlaopjimkcmaa
