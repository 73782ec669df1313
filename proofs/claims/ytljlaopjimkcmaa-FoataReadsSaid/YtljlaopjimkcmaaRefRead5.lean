/- The contract of the document's Read of levels. -/
import Derived.Test.YtljlaopjimkcmaaDocRead
import Derived.Test.YtljlaopjimkcmaaRefPrint5
namespace Go.Proofs.Ytljlaopjimkcmaa
open Go.RowKit

def RefReadR (w : World) (s : List UInt8) (r : Ending) (w' : World) : Prop :=
  ((keyOk s ∧ ∃ v ss, r = .returned (.tuple #[v, .bool true]) ∧ OwnLv w' w.heap.size v ss (parseN 200 s)) ∨ (¬ keyOk s ∧ r = .returned (.tuple #[.slice none 0 0, .bool false]))) ∧ Below w.heap.size w w'

set_option maxRecDepth 100000 in
set_option maxHeartbeats 4000000 in
theorem refLvRead_any (s : List UInt8) (w : World) (hm : s.length ≤ 200) :
    Calls Try.prog 16 #[.string ⟨s.toArray⟩] w (RefReadR w s) := by
  have hsz : (⟨s.toArray⟩ : ByteArray).size = s.length := rfl
  have HNO : Hid (∀ w', Below w.heap.size w w' → ¬ keyOk s → RefReadR w s (.returned (.tuple #[.slice none 0 0, .bool false])) w') := fun w' h1 h2 => ⟨.inr ⟨h2, rfl⟩, h1⟩
  have HYES : Hid (∀ w' v ss m, Below w.heap.size w w' → keyOk s → parseN 200 s = m → OwnLv w' w.heap.size v ss m → RefReadR w s (.returned (.tuple #[v, .bool true])) w') := fun w' v ss m h1 h2 h3 h4 => ⟨.inl ⟨h2, v, ss, rfl, by rw [h3]; exact h4⟩, h1⟩
  go_enter Try.func16, Try.ntmps16
  go_wp2
  go_loopw [4, 5] (fun v i wr => ∃ (k : Nat) (t : List UInt8) (ss : List Sl) (m : List (List Ev)) (a : Option Addr) (cap : Nat), i = .int .i64 k ∧ v = .slice a m.length cap ∧ k ≤ s.length ∧ m.length ≤ 200 ∧ Hid (DocAt s t m k) ∧ Hid (OwnLv wr w.heap.size v ss m) ∧ Hid (Below w.heap.size w wr)) (fun _ i _ => s.length - (intOf i).toNat)
  case atStart => exact ⟨0, s, [], [], none, 0, rfl, rfl, Nat.zero_le _, by simp, docAt_zero s, ownLv_nil _ _, Below.refl _ _⟩
  case round =>
    obtain ⟨k, t, ss, m, a, cap, rfl, rfl, hk, hm200, HD, HV, HB⟩ := hrel
    by_cases hlt : k < s.length
    · have hq : decide ((k : Int) < (s.length : Int)) = true := by simp; omega
      have hki : (k : Int) < (s.length : Int) := by omega
      have hki0 : (0 : Int) ≤ k := by omega
      have ht := HD.out.2.1
      obtain ⟨c, r, hcr⟩ : ∃ c r, t = c :: r := by
        cases t with
        | nil => have := HD.out.1; simp at this; omega
        | cons c r => exact ⟨c, r, rfl⟩
      subst hcr
      have hc : s[k] = c := by
        have := List.drop_eq_getElem_cons hlt
        rw [← ht] at this
        injection this with this
        exact this.symm
      have hrl : k + (r.length + 1) = s.length := by have := HD.out.1; simpa using this
      have hix : ∀ h : k < (⟨s.toArray⟩ : ByteArray).size, (⟨s.toArray⟩ : ByteArray)[k] = c := fun _ => hc
      have bc := UInt8.toNat_lt c
      have hdr : r = s.drop (k + 1) := by
        have := congrArg List.tail ht
        simpa [List.tail_drop] using this
      clear ht hc
      by_cases hc0 : c.toNat = 0
      · obtain rfl : c = 0 := UInt8.toNat_inj.1 hc0
        clear hc0
        have hw : IntKind.i64.wrap ((s.length : Int) - 1) = (s.length : Int) - 1 := IntWalk.i64_in _ (by omega)
        by_cases hkl : k + 1 = s.length
        · have hne : ((k : Int) != (s.length : Int) - 1) = false := by simp; omega
          have hP := doc_end HD.out (.inr ⟨r, rfl⟩)
          have HPE := Lib.hid hP
          have HKY := Lib.hid (doc_end_key HD.out (.inr ⟨r, rfl⟩))
          have hgl := parseN_get 200 s
          rw [hP] at hgl
          have hfl : m.flatten.length ≤ 1000000 := by have := parseN_flat 200 s; rw [hP] at this; omega
          obtain ⟨_, _, hv, hat, _⟩ := OwnLv.form HV.out (by omega) (fun i _ => by have := hgl i; omega)
          injection hv with hv1 _ hv2
          subst hv1 hv2
          have HC := Lib.hid (refLvPrint_any a cap m wr hat (by omega) hfl (fun i => by have := hgl i; omega))
          rw [bstr_u8s] at HC
          clear hP hgl hfl hat hkl
          go_wp2_with fail
          refine HC.out.mono ?_
          rintro x w1 ⟨rfl, hb1⟩
          have HB1 := Lib.hid (HB.out.trans (hb1.mono HB.out.size))
          have HV1 := Lib.hid (HV.out.later hb1)
          generalize u8s (printF m) = L at *
          by_cases hL : L = s
          · have hq : (L == s) = true := by simp [hL]
            have HKK := Lib.hid (HKY.out.2 hL)
            clear hL HC
            go_wp2
            go_ret2
            exact HYES.out _ _ ss m HB1.out HKK.out HPE.out HV1.out
          · have hq : (L == s) = false := by simp [hL]
            have HKK := Lib.hid (fun e => hL (HKY.out.1 e))
            clear hL HC
            go_wp2
            go_ret2
            exact HNO.out _ HB1.out HKK.out
        · have hne : ((k : Int) != (s.length : Int) - 1) = true := by simp; omega
          have HBAD := Lib.hid (doc_end_bad HD.out (.inr ⟨r, rfl⟩) hkl)
          clear hkl
          go_wp2_with fail
          go_ret2
          exact HNO.out _ HB.out HBAD.out
      · have hq2 : decide ((0 : Int) < (c.toNat : Int)) = true := by simp; omega
        have vc : IntKind.i64.wrap (c.toNat : Int) = c.toNat := IntWalk.i64_in _ (by omega)
        have vd : IntKind.i64.wrap ((k : Int) + 1) = (k : Int) + 1 := IntWalk.i64_in _ (by omega)
        have ve : IntKind.i64.wrap ((k : Int) + 1 + c.toNat) = (k : Int) + 1 + c.toNat := IntWalk.i64_in _ (by omega)
        have vf : IntKind.i64.wrap (1 + (c.toNat : Int)) = 1 + c.toNat := IntWalk.i64_in _ (by omega)
        have vg : IntKind.i64.wrap ((k : Int) + (1 + (c.toNat : Int))) = (k : Int) + (1 + c.toNat) := IntWalk.i64_in _ (by omega)
        by_cases hr : r.length < c.toNat
        · have hq3 : decide ((s.length : Int) < (k : Int) + 1 + (c.toNat : Int)) = true := by simp; omega
          have HN := Lib.hid (HNO.out)
          have HBAD := Lib.hid (doc_bad_short HD.out hm hc0 hr)
          go_wp2
          go_ret2
          exact HNO.out _ HB.out HBAD.out
        · have hq3 : decide ((s.length : Int) < (k : Int) + 1 + (c.toNat : Int)) = false := by simp; omega
          have htl : (r.take c.toNat).length ≤ 1000000 := by have := List.length_take_le' c.toNat r; omega
          have hx1 : (⟨s.toArray⟩ : ByteArray).extract (k + 1) (k + 1 + c.toNat) = ⟨(r.take c.toNat).toArray⟩ := by
            rw [cut_mid, hdr, List.drop_take]
            congr 3
            omega
          have hsl : ∀ W, (Instr.slice 9 (.string ⟨s.toArray⟩) (some (.int .i64 ((k : Int) + 1))) (some (.int .i64 ((k : Int) + 1 + (c.toNat : Int)))) none).run Try.prog W = .ok (.string ⟨(r.take c.toNat).toArray⟩) W := fun W => by
            have h := run_slice_string (P := Try.prog) W 9 ⟨s.toArray⟩ .i64 .i64 ((k : Int) + 1) ((k : Int) + 1 + (c.toNat : Int)) Try.underlying9 (by omega) (by omega) (by rw [hsz]; omega)
            rw [show ((k : Int) + 1).toNat = k + 1 by omega, show ((k : Int) + 1 + (c.toNat : Int)).toNat = k + 1 + c.toNat by omega, hx1] at h
            exact h
          have HDN : Hid (readOk (r.take c.toNat) = true → DocAt s (r.drop c.toNat) (m ++ [readE (r.take c.toNat)]) (k + 1 + c.toNat)) := docAt_step HD.out hm hc0 (by omega)
          have HBD : Hid (readOk (r.take c.toNat) = false → ¬ keyOk s) := doc_bad_read HD.out hm hc0
          have hmk : m.length ≤ k := HD.out.2.2.2.2
          clear hdr hx1
          go_wp2_with fail
          refine (refEvReadO_any (r.take c.toNat) wr htl).mono ?_
          rintro x w1 ⟨a1, cap1, rfl, h1, hb1⟩
          have HR1 := Lib.hid h1
          have hb1s := hb1.size
          have hBB := HB.out.size
          have HB1 := Lib.hid (HB.out.trans (hb1.mono hBB))
          have HV1 := Lib.hid (HV.out.later hb1)
          have HVB := Lib.hid hb1
          clear hsl h1 hb1 htl
          have hrl2 : c.toNat ≤ r.length := by omega
          cases ho : readOk (r.take c.toNat)
          · have HBAD := Lib.hid (HBD.out ho)
            clear ho HDN HBD
            generalize readE (r.take c.toNat) = row at *
            go_wp2_with fail
            go_ret2
            exact HNO.out _ HB1.out HBAD.out
          · have HDO := Lib.hid (HDN.out ho)
            clear ho HDN HBD
            generalize readE (r.take c.toNat) = row at *
            generalize r.drop c.toNat = t2 at *
            go_wp2_with (at_builtin; refine wp_appendR (f := slCell) (n := 1) 24 22 24 (.slice none 0 0) Try.underlying24 infoSl rfl (by omega) (by omega) slCell_len rfl _ _ rfl w.heap.size _ ss rfl (HV1.out.outer.alloc _) ⟨w1.heap.size, 0, none⟩ rfl ⟨a1, row.length, cap1⟩ (slCell_one _) (cells_new w1 (slCell ⟨a1, row.length, cap1⟩) _ _ rfl) (by have := HV1.out.len; omega) (by simp; omega) ?_; intro v' w' h1 h2 h3; obtain ⟨g, capg, hv, _, _⟩ := OwnRow.block h1 (by simp); rw [List.length_append, List.length_singleton] at hv; subst hv)
            have HV2 : Hid (OwnLv w' w.heap.size (.slice (some ⟨g, 0, none⟩) (m ++ [row]).length capg) (ss ++ [⟨a1, row.length, cap1⟩]) (m ++ [row])) := by
              show OwnLv _ _ _ _ _
              have hlen : (m ++ [row]).length = ss.length + 1 := by simp [HV1.out.len]
              rw [hlen]
              exact OwnLv.push HV.out (HVB.out.trans ((below_alloc1 w1 _).mono hb1s)) (HR1.out.alloc _) hBB h1 h3
            have HB2 : Hid (Below w.heap.size w w') := HB1.out.trans (((below_alloc1 w1 (.cells #[.slice a1 row.length cap1] 22)).mono HB1.out.size).trans h2)
            have hsl2 : ss.length = m.length := HV1.out.len
            rw [hsl2]
            clear h1 h2 h3
            go_roundw
            case rel => exact ⟨k + 1 + c.toNat, t2, ss ++ [⟨a1, row.length, cap1⟩], m ++ [row], some ⟨g, 0, none⟩, capg, by go_num, by simp, by omega, by simp; omega, HDO.out, (by have h := HV2.out; rw [List.length_append, List.length_singleton] at h; exact h), HB2⟩
            case measure => simp [intOf]; omega
    · obtain rfl : k = s.length := by omega
      have htn : t = [] := by have h := HD.out.1; exact List.eq_nil_of_length_eq_zero (by omega)
      have HBAD := Lib.hid (doc_end_bad HD.out (.inl htn) (by omega))
      have hq : decide ((s.length : Int) < (s.length : Int)) = false := by simp
      have hw : IntKind.i64.wrap ((s.length : Int) - 1) = (s.length : Int) - 1 := IntWalk.i64_in _ (by omega)
      have hne : ((s.length : Int) != (s.length : Int) - 1) = true := by simp; omega
      go_wp2
      go_ret2
      exact HNO.out _ HB.out HBAD.out

end Go.Proofs.Ytljlaopjimkcmaa
