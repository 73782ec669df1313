/- The contracts of the document's Next, Enabled, All. -/
import Derived.Test.YtgofbejohihljaaRefNextA
import Derived.Test.YtgofbejohihljaaRefNextB
import Derived.Test.YtgofbejohihljaaRefNextC
import Derived.Test.YtgofbejohihljaaRefNextD
import Derived.Test.YtgofbejohihljaaRefNextE
import Derived.Test.YtgofbejohihljaaRefNextF
import Derived.Test.YtgofbejohihljaaRefNextG
import Derived.Test.YtgofbejohihljaaRefNextH
import Derived.Test.YtgofbejohihljaaStateAll
namespace Go.Proofs.Ytgofbejohihljaa
open Go.RowKit

section
variable {F : Nat} {w : World} {b tb : Nat} {a : Option Addr} {cap tcap : Nat} {s : St}

theorem refNext_any (h : RefAt w b tb a cap tcap s) (hth : ThreadsAt w a s.p.threads) (ok : s.Ok F) (t : Int) :
    Calls Try.prog 16 #[.pointer (some ⟨b, 0, none⟩), .int .i64 t] w fun r w' => r = .returned (evR (s.next t)) ∧ Below w.heap.size w w' := by
  have h4 := ok.len4
  cases hi : s.ins t with
  | none =>
    have hn : s.next t = none := by unfold St.next; rw [hi]; rfl
    rw [hn, evR_none]
    by_cases ht0 : t < 0
    · exact refNext_neg h t ht0
    by_cases hk0 : (s.ts.length : Int) ≤ t
    · exact refNext_out h t ht0 hk0
    obtain ⟨k, rfl⟩ : ∃ k : Nat, t = k := ⟨t.toNat, by omega⟩
    have hk' : k < s.ts.length := by omega
    by_cases hf : (s.th k).fuel = 0
    · exact refNext_dry h k h4 hk' hf
    · have hpl := ok.place k hk'
      refine refNext_end h hth ok k hk' hf ?_
      unfold St.ins at hi
      rw [if_pos ⟨⟨by omega, by omega⟩, by simpa using hf⟩] at hi
      simp only [Int.toNat_natCast] at hi
      have := List.getElem?_eq_none_iff.1 hi
      omega
  | some i =>
    obtain ⟨k, rfl, hk⟩ := St.ins_nat hi
    have hn : s.next k = some (s.ev k i) := by unfold St.next; rw [hi]; rfl
    obtain ⟨o1, o2, o3, o4, o5, o6⟩ := ok.obj hi
    rw [hn, evR_some]
    by_cases h1 : i.kind = 1
    · have := refNext_1 h hth ok k i hi h1
      simpa [St.ev, h1] using this
    by_cases h2 : i.kind = 2
    · have := refNext_2 h hth ok k i hi h2
      simpa [St.ev, h1, h2] using this
    by_cases h5 : i.kind = 5
    · have := refNext_5 h hth ok k i hi h5
      simpa [St.ev, h1, h2, h5] using this
    by_cases h6 : i.kind = 6
    · obtain ⟨y, hy⟩ : ∃ y : Nat, i.x = y := ⟨i.x.toNat, by have := o2 (.inr h6); omega⟩
      have hy2 : y < 2 := by have := o2 (.inr h6); omega
      by_cases hw : s.who y = k
      · have := refNext_6 h hth ok k i hi h6 y hy hy2 hw
        have e : s.ev k i = ⟨k, 5, i.x, false⟩ := by
          unfold St.ev
          rw [if_neg h1, if_neg h2, if_neg h5, if_pos h6, hy, if_pos hw]
        rw [e]
        exact this
      · have := refNext_6b h hth ok k i hi h6 y hy hy2 hw
        have e : s.ev k i = ⟨k, 1, 0, true⟩ := by
          unfold St.ev
          rw [if_neg h1, if_neg h2, if_neg h5, if_pos h6, hy, if_neg hw]
        rw [e]
        exact this
    by_cases h8 : i.kind = 8
    · obtain ⟨y, hy⟩ : ∃ y : Nat, i.r = y := ⟨i.r.toNat, by omega⟩
      have := refNext_8 h hth ok k i hi h8 y hy (by omega)
      have e : s.ev k i = ⟨k, 1, 0, (s.th k).r.getD y 0 == 0⟩ := by
        unfold St.ev
        rw [if_neg h1, if_neg h2, if_neg h5, if_neg h6, if_pos h8]
        unfold St.reg
        rw [hy]
        rfl
      rw [e]
      exact this
    · have := refNext_0 h hth ok k i hi h1 h2 h5 h6 h8
      have e : s.ev k i = ⟨k, 1, 0, false⟩ := by
        unfold St.ev
        rw [if_neg h1, if_neg h2, if_neg h5, if_neg h6, if_neg h8]
      rw [e]
      exact this

set_option maxRecDepth 100000 in
set_option maxHeartbeats 4000000 in
theorem refEnabled_any (h : RefAt w b tb a cap tcap s) (hth : ThreadsAt w a s.p.threads) (ok : s.Ok F) (t : Int) :
    Calls Try.prog 19 #[.pointer (some ⟨b, 0, none⟩), .int .i64 t] w fun r w' => r = .returned (.bool (s.may t)) ∧ Below w.heap.size w w' := by
  have H := Lib.hid h
  have HT := Lib.hid hth
  have OK := Lib.hid ok
  have hb1 := h.lt.1
  clear h hth ok
  cases hn : s.next t with
  | none =>
    have hm : s.may t = false := by rw [St.may_eq OK.out, hn]
    rw [hm]
    have HN := Lib.hid hn
    clear hn hm
    go_enter Try.func19, Try.ntmps19
    go_wp2_with fail
    refine (refNext_any H.out HT.out OK.out t).mono ?_
    rw [HN.out, evR_none]
    rintro r w1 ⟨rfl, hb1⟩
    have hz := hb1.size
    go_wp2
    go_quiet (fail)
    go_wp2
    go_ret
    exact ⟨rfl, (hb1.alloc hz _).drewN⟩
  | some e =>
    have hm : s.may t = s.free e := by rw [St.may_eq OK.out, hn]
    rw [hm]
    have HN := Lib.hid hn
    by_cases hk : e.kind = 4
    · obtain ⟨ho0, ho2⟩ := next_obj OK.out hn hk
      obtain ⟨y, hy⟩ : ∃ y : Nat, e.obj = y := ⟨e.obj.toNat, by omega⟩
      have hy2 : y < 2 := by omega
      have c9 := H.out.who y hy2
      have hml := OK.out.ml
      have hmm := OK.out.mm (s.who y) (by unfold St.who; simp only [Int.toNat_natCast]; rw [getD_lt _ (by omega)]; exact List.getElem_mem _)
      have hfr : s.free e = decide (s.who y < 0) := by
        unfold St.free
        rw [hk, hy, Bool.eq_iff_iff]
        simp
        omega
      rw [hfr]
      have q4 : (e.kind != 4) = false := by simp [hk]
      clear hn hm hfr ho0 ho2 hml hmm hk
      obtain ⟨et, ek, eo, ef⟩ := e
      dsimp only at *
      subst hy
      generalize s.who y = g at *
      go_enter Try.func19, Try.ntmps19
      go_wp2_with fail
      refine (refNext_any H.out HT.out OK.out t).mono ?_
      rw [HN.out, evR_some]
      rintro r w1 ⟨rfl, hb2⟩
      have hz := hb2.size
      have c9w := cell_later hb2 c9
      have c9z := cell_block c9w
      dsimp only at c9z
      clear c9
      go_wp2
      go_quiet (fail)
      go_wp2
      go_ret
      exact ⟨rfl, (hb2.alloc hz _).drewN⟩
    · have hfr : s.free e = true := by unfold St.free; simp [hk]
      rw [hfr]
      have q4 : (e.kind != 4) = true := by simpa using hk
      clear hn hm hfr hk
      go_enter Try.func19, Try.ntmps19
      go_wp2_with fail
      refine (refNext_any H.out HT.out OK.out t).mono ?_
      rw [HN.out, evR_some]
      rintro r w1 ⟨rfl, hb2⟩
      have hz := hb2.size
      go_wp2
      go_quiet (fail)
      go_wp2
      go_ret
      exact ⟨rfl, (hb2.alloc hz _).drewN⟩

set_option maxRecDepth 100000 in
set_option maxHeartbeats 4000000 in
theorem refAll_any (h : RefAt w b tb a cap tcap s) (hth : ThreadsAt w a s.p.threads) (ok : s.Ok F) :
    Calls Try.prog 24 #[.pointer (some ⟨b, 0, none⟩)] w fun r w' => ∃ v, r = .returned v ∧ OwnN w' w.heap.size v s.all ∧ Below w.heap.size w w' := by
  have h4 := ok.len4
  have p1 := h.prog.2
  have hb1 := h.lt.1
  have H := Lib.hid h
  have HT := Lib.hid hth
  have OK := Lib.hid ok
  clear h hth ok
  go_enter Try.func24, Try.ntmps24
  go_wp2
  go_loopw [3, 4] (fun l i wr => ∃ k : Nat, k ≤ s.ts.length ∧ i = .int .i64 k ∧ OwnN wr w.heap.size l (s.allTo k) ∧ Below w.heap.size w wr) (fun _ i _ => s.ts.length - (intOf i).toNat)
  case atStart => exact ⟨0, Nat.zero_le _, rfl, ownN_nil _ _, Below.refl _ _⟩
  case round =>
    obtain ⟨k, hk, rfl, hown, hb⟩ := hrel
    have p1w := cell_later hb p1
    by_cases hlt : k < s.ts.length
    · have hle := s.allTo_le k
      have HS := Lib.hid (s.allTo_succ k)
      go_wp2_with fail
      refine (refEnabled_any (H.out.later hb) (HT.out.later hb) OK.out k).mono ?_
      rintro r w1 ⟨rfl, hb1⟩
      have hb2 := hb.trans (hb1.mono hb.size)
      have hown1 := hown.later hb1
      have hz := hb2.size
      clear hown hb hb1 p1w
      cases hm : s.may k
      · have HR : Hid (s.allTo (k + 1) = s.allTo k) := by
          show _ = _
          rw [HS.out, hm]; simp
        clear hm
        go_wp2
        go_roundw
        case rel => exact ⟨k + 1, by omega, by go_num, by rw [HR.out]; exact hown1, hb2⟩
        case measure => simp [intOf]; omega
      · have HR : Hid (s.allTo (k + 1) = s.allTo k ++ [(k : Int)]) := by
          show _ = _
          rw [HS.out, hm]; simp
        clear hm
        go_wp2_with (at_builtin; refine wp_appendN rfl (.tmp 17) (.tmp 19) rfl w.heap.size _ (s.allTo k) rfl (hown1.alloc _) ⟨w1.heap.size, 0, none⟩ 1 1 rfl [(k : Int)] rfl (nums_new w1 [(k : Int)] _ _ rfl) (by simp; omega) (by simp; omega) ?_; intro v1 w2 hown2 hb3 _)
        have hb4 := (hb2.alloc hz _).trans hb3
        go_roundw
        case rel => exact ⟨k + 1, by omega, by go_num, by rw [HR.out]; exact hown2, hb4⟩
        case measure => simp [intOf]; omega
    · obtain rfl : k = s.ts.length := by omega
      go_wp2
      go_ret
      exact ⟨_, rfl, hown, hb⟩
end
end Go.Proofs.Ytgofbejohihljaa
