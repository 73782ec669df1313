/- FoataReads: any bytes are the levels that the document says, or none; any levels have its bytes, or none. -/
import Derived.Test.YtljlaopjimkcmaaRefRead5
namespace Go.Proofs.Ytljlaopjimkcmaa
open Go.RowKit

/-- What Read answers, wherever it lies. -/
def RdAny (s : List UInt8) (bad good : Value) (w : World) (r : Ending) (w' : World) : Prop :=
  ((keyOk s ∧ ∃ a c, r = .returned (.tuple #[.slice a (parseN 200 s).length c, good]) ∧ LvAt w' a (parseN 200 s)) ∨ (¬ keyOk s ∧ r = .returned (.tuple #[.slice none 0 0, bad]))) ∧ Below w.heap.size w w'
theorem flat_small {m : List (List Ev)} (n : Nat) (h : ∀ k, k < m.length → (m.getD k []).length ≤ n) : m.flatten.length ≤ m.length * n := by
  induction m with
  | nil => simp
  | cons r m ih =>
    have h0 := h 0 (by simp)
    have h1 := ih fun k hk => h (k + 1) (by simpa using hk)
    simp only [List.flatten_cons, List.length_append, List.length_cons] at *
    have e : (r :: m).getD 0 [] = r := rfl
    rw [e] at h0
    rw [Nat.add_mul]
    omega
theorem lvAt_none (w : World) : LvAt w none [] := ⟨[], rfl, rowAt_nil _ _ _ _, fun i hi => absurd hi (by simp)⟩

set_option maxRecDepth 100000 in
set_option maxHeartbeats 8000000 in
theorem foataReads_any (s : List UInt8) (a : Option Addr) (m : List (List Ev)) (cap : Nat) (w : World) (hs : s.length ≤ maxLen) (hl : LvAt w a m) (hmx : m.length ≤ maxLen) :
    Calls Try.prog 4 #[.string ⟨s.toArray⟩, .slice a m.length cap] w fun r w' => r = .returned (.bool true) ∧ Below w.heap.size w w' := by
  unfold maxLen at hs hmx
  have hsz : (⟨s.toArray⟩ : ByteArray).size = s.length := rfl
  have HL := Lib.hid hl
  clear hl
  by_cases hs2 : s.length ≤ 200
  case neg =>
    have hq : decide ((200 : Int) < (s.length : Int)) = true := by simp; omega
    clear hs2
    go_enter Try.func4, Try.ntmps4
    go_wp2_with fail
    refine (awake5_any w).mono ?_
    rintro r w1 ⟨rfl, hb1⟩
    go_wp2_with fail
    refine (awake5_any w1).mono ?_
    rintro r w2 ⟨rfl, hb2⟩
    go_wp2
    go_ret
    exact ⟨rfl, hb1.trans (hb2.mono hb1.size)⟩
  by_cases hm2 : m.length ≤ 20
  case neg =>
    have hq : decide ((200 : Int) < (s.length : Int)) = false := by simp; omega
    have hq2 : 20 < m.length := by omega
    clear hs2 hm2
    go_enter Try.func4, Try.ntmps4
    go_wp2_with fail
    refine (awake5_any w).mono ?_
    rintro r w1 ⟨rfl, hb1⟩
    go_wp2_with fail
    refine (awake5_any w1).mono ?_
    rintro r w2 ⟨rfl, hb2⟩
    go_wp2
    go_ret
    exact ⟨rfl, hb1.trans (hb2.mono hb1.size)⟩
  have hq : decide ((200 : Int) < (s.length : Int)) = false := by simp; omega
  have hq1 : decide ((20 : Int) < (m.length : Int)) = false := by simp; omega
  have hq2 : ¬ 20 < m.length := by omega
  have hpl : (parseN 200 s).length ≤ 200 := parseN_len 200 s
  have hpg := parseN_get 200 s
  have HRD : Hid (∀ W, Calls Try.prog 11 #[.string ⟨s.toArray⟩] W (RdAny s (.int .i64 3) (.int .i64 0) W)) := fun W => by
    refine (readF_any s W (by omega)).mono fun r w' ⟨h, hb⟩ => ⟨?_, hb⟩
    rcases h with ⟨h0, v, ss, h1, h2⟩ | h
    · obtain ⟨a2, c2, rfl, hat, _⟩ := OwnLv.form h2 (by omega) (fun i _ => by have := hpg i; omega)
      exact .inl ⟨h0, a2, c2, h1, hat⟩
    · exact .inr h
  have HRR : Hid (∀ W, Calls Try.prog 16 #[.string ⟨s.toArray⟩] W (RdAny s (.bool false) (.bool true) W)) := fun W => by
    refine (refLvRead_any s W hs2).mono fun r w' ⟨h, hb⟩ => ⟨?_, hb⟩
    rcases h with ⟨h0, v, ss, h1, h2⟩ | h
    · obtain ⟨a2, c2, rfl, hat, _⟩ := OwnLv.form h2 (by omega) (fun i _ => by have := hpg i; omega)
      exact .inl ⟨h0, a2, c2, h1, hat⟩
    · exact .inr h
  have HSM : Hid (∀ W a2 c2 a3 c3, LvAt W a2 (parseN 200 s) → LvAt W a3 (parseN 200 s) → Calls Try.prog 8 #[.slice a2 (parseN 200 s).length c2, .slice a3 (parseN 200 s).length c3] W fun r w' => r = .returned (.bool true) ∧ Below W.heap.size W w') := fun W a2 c2 a3 c3 h2 h3 =>
    (refLvSame_any a2 a3 c2 c3 _ _ W h2 h3 (by omega) (by omega) (fun i => by have := hpg i; omega) (fun i => by have := hpg i; omega)).mono fun r w' h => ⟨by rw [h.1]; simp, h.2⟩
  have HSN : Hid (∀ W, Calls Try.prog 8 #[.slice none 0 0, .slice none 0 0] W fun r w' => r = .returned (.bool true) ∧ Below W.heap.size W w') := fun W =>
    (refLvSame_any none none 0 0 [] [] W (lvAt_none W) (lvAt_none W) (by simp) (by simp) (fun i => by simp [List.getD]) (fun i => by simp [List.getD])).mono fun r w' h => ⟨by rw [h.1]; simp, h.2⟩
  have HPR : Hid ((∀ k, k < m.length → (m.getD k []).length ≤ 20) → ∀ W, Below w.heap.size w W → Calls Try.prog 15 #[.slice a m.length cap] W fun r w' => r = .returned (.string ⟨(u8s (printF m)).toArray⟩) ∧ Below W.heap.size W w') := fun h W hW =>
    print_any a cap m W (HL.out.later hW) (by omega) (by have := flat_small 20 h; omega)
  have HPP : Hid ((∀ k, k < m.length → (m.getD k []).length ≤ 20) → ∀ W, Below w.heap.size w W → Calls Try.prog 17 #[.slice a m.length cap] W fun r w' => r = .returned (.string ⟨(u8s (printF m)).toArray⟩) ∧ Below W.heap.size W w') := fun h W hW =>
    refLvPrint_any a cap m W (HL.out.later hW) (by omega) (by have := flat_small 20 h; omega) (fun i => by
      by_cases hi : i < m.length
      · have := h i hi; omega
      · simp [List.getD, List.getElem?_eq_none (Nat.le_of_not_lt hi)])
  have HDF : Hid (∀ bad good W r w', RdAny s bad good W r w' → ((keyOk s ∧ ∃ a c, r = .returned (.tuple #[.slice a (parseN 200 s).length c, good]) ∧ LvAt w' a (parseN 200 s)) ∨ (¬ keyOk s ∧ r = .returned (.tuple #[.slice none 0 0, bad]))) ∧ Below W.heap.size W w') := fun _ _ _ _ _ h => h
  clear hpg hs2 hm2
  generalize parseN 200 s = P at *
  generalize u8s (printF m) = S at *
  go_enter Try.func4, Try.ntmps4
  go_wp2_with fail
  refine (awake5_any w).mono ?_
  rintro r w1 ⟨rfl, hb1⟩
  go_wp2_with fail
  clear hq hq1 hq2
  go_loopw [26] (fun i wr => ∃ k : Nat, k ≤ m.length ∧ i = .int .i64 k ∧ Hid (∀ j, j < k → (m.getD j []).length ≤ 20) ∧ Hid (Below w.heap.size w wr)) (fun i _ => m.length - (intOf i).toNat)
  case atStart => exact ⟨0, Nat.zero_le _, rfl, (fun j h => absurd h (by omega)), hb1⟩
  case round =>
    clear hb1
    obtain ⟨k, hk, rfl, HS, HB⟩ := hrel
    by_cases hlt : k < m.length
    · obtain ⟨b, o, sa, sc, rfl, t0, _, _⟩ := HL.out.one hlt
      have c0 := cell_later HB.out t0
      have HST : Hid ((m.getD k []).length ≤ 20 → ∀ j, j < k + 1 → (m.getD j []).length ≤ 20) := fun h j hj => by
        by_cases e : j = k
        · subst e; exact h
        · exact HS.out j (by omega)
      clear t0
      generalize m.getD k [] = row at *
      by_cases h20 : row.length ≤ 20
      · have hq : decide ((20 : Int) < (row.length : Int)) = false := by simp; omega
        have hq2 : ¬ 20 < row.length := by omega
        have HS2 := Lib.hid (HST.out h20)
        clear h20 HST
        go_wp2_with fail
        go_roundw
        case rel => exact ⟨k + 1, by omega, by go_num, HS2.out, HB.out⟩
        case measure => simp [intOf]; omega
      · have hq : decide ((20 : Int) < (row.length : Int)) = true := by simp; omega
        have hq2 : 20 < row.length := by omega
        clear h20 HST
        go_wp2_with fail
        go_ret
        exact ⟨rfl, HB.out⟩
    · obtain rfl : k = m.length := by omega
      have HPR2 := Lib.hid (HPR.out HS.out)
      have HPP2 := Lib.hid (HPP.out HS.out)
      clear HPR HPP HS
      go_wp2_with fail
      refine (HRD.out wr).mono ?_
      rintro r w2 h2
      obtain ⟨h2, hb2⟩ := HDF.out _ _ _ _ _ h2
      have hb3 := HB.out.trans (hb2.mono HB.out.size)
      rcases h2 with ⟨hk1, a2, c2, rfl, hat2⟩ | ⟨hk1, rfl⟩
      · have HA2 := Lib.hid hat2
        have HK := Lib.hid hk1
        clear hat2 hb2 hk1
        go_wp2_with fail
        refine (HRR.out w2).mono ?_
        rintro r w3 h3
        obtain ⟨h3, hb4⟩ := HDF.out _ _ _ _ _ h3
        have hb5 := hb3.trans (hb4.mono hb3.size)
        rcases h3 with ⟨_, a3, c3, rfl, hat3⟩ | ⟨hk2, _⟩
        · have HA3 := Lib.hid hat3
          have HA4 := Lib.hid (HA2.out.later hb4)
          clear hat3 hb4 hb3 HA2
          go_wp2_with fail
          refine (HSM.out _ _ _ _ _ HA4.out HA3.out).mono ?_
          rintro r w4 ⟨rfl, hb6⟩
          have hb7 := hb5.trans (hb6.mono hb5.size)
          clear hb5 hb6 HA3 HA4
          go_wp2_with fail
          refine (HPR2.out _ hb7).mono ?_
          rintro r w5 ⟨rfl, hb8⟩
          have hb9 := hb7.trans (hb8.mono hb7.size)
          clear hb7 hb8
          go_wp2_with fail
          refine (HPP2.out _ hb9).mono ?_
          rintro r w6 ⟨rfl, hb10⟩
          go_wp2
          go_ret
          exact ⟨rfl, hb9.trans (hb10.mono hb9.size)⟩
        · exact absurd HK.out hk2
      · have HK := Lib.hid hk1
        clear hb2 hk1
        go_wp2_with fail
        refine (HRR.out w2).mono ?_
        rintro r w3 h3
        obtain ⟨h3, hb4⟩ := HDF.out _ _ _ _ _ h3
        have hb5 := hb3.trans (hb4.mono hb3.size)
        rcases h3 with ⟨hk2, _⟩ | ⟨_, rfl⟩
        · exact absurd hk2 HK.out
        · clear hb4 hb3
          go_wp2_with fail
          refine (HSN.out _).mono ?_
          rintro r w4 ⟨rfl, hb6⟩
          have hb7 := hb5.trans (hb6.mono hb5.size)
          clear hb5 hb6
          go_wp2_with fail
          refine (HPR2.out _ hb7).mono ?_
          rintro r w5 ⟨rfl, hb8⟩
          have hb9 := hb7.trans (hb8.mono hb7.size)
          clear hb7 hb8
          go_wp2_with fail
          refine (HPP2.out _ hb9).mono ?_
          rintro r w6 ⟨rfl, hb10⟩
          go_wp2
          go_ret
          exact ⟨rfl, hb9.trans (hb10.mono hb9.size)⟩

end Go.Proofs.Ytljlaopjimkcmaa
