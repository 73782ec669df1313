/- The contracts of slices.Concat, and of foata's Row. -/
import Derived.Test.YtljlaopjimkcmaaGrowF
namespace Go.Proofs.Ytljlaopjimkcmaa
open Go.RowKit

theorem ownsRow_base {w : World} {B B' : Nat} {t : TypeId} {n m : Nat} {v : Value} {xs : List Value} (h : w.ownsRow B t n v m xs) (hB : B' ≤ B) : w.ownsRow B' t n v m xs := by
  obtain ⟨h1, h2 | ⟨g, cap, cur, h2, h3, h4⟩⟩ := h
  · exact ⟨h1, .inl h2⟩
  · exact ⟨h1, .inr ⟨g, cap, cur, h2, Nat.le_trans hB h3, h4⟩⟩

def RowR (w : World) (l : List Ev) (r : Ending) (w' : World) : Prop := ∃ v, r = .returned v ∧ OwnE w' w.heap.size v l ∧ Below w.heap.size w w'

set_option maxRecDepth 100000 in
set_option maxHeartbeats 4000000 in
theorem concat_any (a : Option Addr) (cap : Nat) (m : List (List Ev)) (w : World) (hl : LvAt w a m) (hm : m.length ≤ 1000000) (hf : m.flatten.length ≤ 1000000) :
    Calls Try.prog 25 #[.slice a m.length cap] w (RowR w m.flatten) := by
  have HL := Lib.hid hl
  clear hl
  go_enter Try.func25, Try.ntmps25
  go_wp2_with fail
  go_loopw [3, 11] (fun s i wr => ∃ k : Nat, k ≤ m.length ∧ i = .int .i64 k ∧ s = .int .i64 ((m.take k).flatten.length : Nat) ∧ Hid (Below w.heap.size w wr)) (fun _ i _ => m.length - (intOf i).toNat)
  case atStart => exact ⟨0, Nat.zero_le _, rfl, rfl, Below.refl _ _⟩
  case round =>
    obtain ⟨k, hk, rfl, rfl, HB0⟩ := hrel
    by_cases hlt : k < m.length
    · obtain ⟨b, o, sa, sc, rfl, t0, _, _⟩ := HL.out.one hlt
      have c0 := cell_later HB0.out t0
      clear t0
      have HT := Lib.hid (flat_take m hlt)
      have hle := flat_le m (k + 1)
      rw [HT.out, List.length_append] at hle
      have HT2 : Hid ((m.take (k + 1)).flatten.length = (m.take k).flatten.length + (m.getD k []).length) := by show _ = _; rw [HT.out, List.length_append]
      clear HT
      generalize (m.take k).flatten.length = N at *
      generalize (m.getD k []).length = L at *
      have hw : IntKind.i64.wrap ((N : Int) + L) = (N : Int) + L := IntWalk.i64_in _ (by omega)
      have hneg2 : decide ((N : Int) + L < 0) = false := by simp; omega
      clear hle
      go_wp2_with fail
      go_roundw
      case rel => exact ⟨k + 1, by omega, by go_num, by rw [HT2.out, Int.natCast_add], HB0.out⟩
      case measure => simp [intOf]; omega
    · obtain rfl : k = m.length := by omega
      rw [List.take_length]
      obtain ⟨F, hF⟩ : ∃ F, F = m.flatten.length := ⟨_, rfl⟩
      rw [← hF] at hf ⊢
      have HF := Lib.hid hF
      clear hF
      go_wp2_with fail
      refine (grow_any F _ hf).mono ?_
      rintro r w1 ⟨v1, rfl, hv1, hb1⟩
      have HV1 : Hid (RowR w [] (.returned v1) w1) := ⟨v1, rfl, ownsRow_base hv1 HB0.out.size, HB0.out.trans (hb1.mono HB0.out.size)⟩
      clear hv1 hb1
      go_wp2_with fail
      go_loopw [6, 27] (fun s i wr' => ∃ k : Nat, k ≤ m.length ∧ i = .int .i64 k ∧ Hid (RowR w (m.take k).flatten (.returned s) wr')) (fun _ i _ => m.length - (intOf i).toNat)
      case atStart => exact ⟨0, Nat.zero_le _, rfl, HV1.out⟩
      case round =>
        clear HV1
        obtain ⟨k, hk, rfl, HV⟩ := hrel
        obtain ⟨s, hs, hv, hb⟩ := HV.out
        injection hs with hs
        subst hs
        have HO := Lib.hid hv
        by_cases hlt : k < m.length
        · obtain ⟨b, o, sa, sc, rfl, c0, he, hn⟩ := HL.out.one hlt
          have c1 := cell_later hb c0
          have HE := Lib.hid (he.later hb)
          have HT := Lib.hid (flat_take m hlt)
          have hle := flat_le m (k + 1)
          rw [HT.out, List.length_append, ← HF.out] at hle
          have hra : sa = none → sc = 0 ∧ m.getD k [] = [] := fun e => ⟨hn e, by subst e; exact evsAt_none he⟩
          have HRA := Lib.hid hra
          have hBB := hb.size
          have hlen2 : (m.take k).flatten.length + (m.getD k []).length ≤ 1000000 := by omega
          clear hle hra he hn c0 hv
          generalize m.getD k [] = row at *
          go_wp2_with (at_builtin; refine wpList_copyE rfl _ _ rfl w.heap.size _ _ rfl HO.out sa sc row rfl HE.out HRA.out hlen2 hBB ?_; intro v' w' h1 h2; have HO2 := Lib.hid h1; clear h1)
          go_roundw
          case rel => exact ⟨k + 1, by omega, by go_num, by rw [HT.out]; exact ⟨v', rfl, HO2.out, hb.trans h2⟩⟩
          case measure => simp [intOf]; omega
        · obtain rfl : k = m.length := by omega
          rw [List.take_length] at HO
          go_wp2
          go_ret
          exact ⟨_, rfl, HO.out, hb⟩

set_option maxRecDepth 100000 in
theorem row_any (a : Option Addr) (cap : Nat) (m : List (List Ev)) (w : World) (hl : LvAt w a m) (hm : m.length ≤ 1000000) (hf : m.flatten.length ≤ 1000000) :
    Calls Try.prog 13 #[.slice a m.length cap] w (RowR w m.flatten) := by
  have H := Lib.hid (concat_any a cap m w hl hm hf)
  clear hl
  go_enter Try.func13, Try.ntmps13
  go_wp2_with fail
  refine H.out.mono ?_
  rintro r w' ⟨v, rfl, h1, h2⟩
  have HO := Lib.hid h1
  clear h1
  go_wp2
  go_ret
  exact ⟨v, rfl, HO.out, h2⟩

end Go.Proofs.Ytljlaopjimkcmaa
