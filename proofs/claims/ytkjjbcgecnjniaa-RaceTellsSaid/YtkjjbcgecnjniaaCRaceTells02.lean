/- Texts of the proof of RaceTells. -/
import Derived.BigRegion
import Derived.Test.YtkjjbcgecnjniaaCRaceTells01
import Derived.Test.YtkjjbcgecnjniaaPk05
import Derived.Test.YtkjjbcgecnjniaaPk06

/- The contract of the document's Next: an unlock that fails. -/
namespace Go.Proofs.Ytkjjbcgecnjniaa
open Go.RowKit

section
variable {F : Nat} {w : World} {b tb : Nat} {a : Option Addr} {cap tcap : Nat} {s : St}

set_option maxRecDepth 100000 in
set_option maxHeartbeats 4000000 in
theorem refNext_6b (h : RefAt w b tb a cap tcap s) (hth : ThreadsAt w a s.p.threads) (ok : s.Ok F) (t : Nat) (i : Ins) (hi : s.ins t = some i) (hk1 : i.kind = 6) (y : Nat) (hy : i.x = y) (hy2 : y < 2) (hw : ¬ s.who y = t) :
    Calls Try.prog 30 #[.pointer (some ⟨b, 0, none⟩), .int .i64 t] w fun r w' => r = .returned (.tuple #[.agg #[.int .i64 t, .int .i64 1, .int .i64 0, .bool true], .bool true]) ∧ Below w.heap.size w w' := by
  obtain ⟨_, hf, hcode⟩ := St.ins_has hi
  obtain ⟨k, hkk, hk'⟩ := St.ins_nat hi
  obtain rfl : t = k := by omega
  simp only [Int.toNat_natCast] at hf hcode
  obtain ⟨hb1, hb2⟩ := h.lt
  obtain ⟨p0, p1⟩ := h.prog
  have hln := ok.len
  have h4 := ok.len4
  have hkp : t < s.p.threads.length := by omega
  have hcd : s.code t = s.p.threads[t] := getD_lt _ hkp
  obtain ⟨hat, hic⟩ := List.getElem?_eq_some_iff.1 hcode
  obtain ⟨ab, ao, rfl, hc⟩ := hth.2 (by intro e; simp [e] at hkp)
  obtain ⟨c, ccap, c0, c1, _⟩ := hc t hkp
  rw [← hcd] at c0 c1
  obtain ⟨cb, co, rfl, hcc⟩ := c1.2 (by intro e; simp [e] at hat)
  obtain ⟨i0, i1, i2, i3⟩ := hcc _ hat
  rw [hic] at i0 i1 i2 i3
  have hz1 := cell_block c0
  have hz2 := cell_block i0
  dsimp only at hz1 hz2
  have cf := h.fuel t hk'
  have ca := h.at_ t hk'
  have hff : ((((s.th t).fuel : Nat) : Int) == 0) = false := by simp; omega
  have q0 : decide ((t : Int) < 0) = false := by simp
  have q1 : decide ((s.ts.length : Int) ≤ t) = false := by simp; omega
  have q2 : decide (s.ts.length ≤ t) = false := by simp; omega
  have q3 : decide ((s.code t).length ≤ (s.th t).at_) = false := by simp; omega
  have q4 : decide (((s.code t).length : Int) ≤ (s.th t).at_) = false := by simp; omega
  have h8 := ok.code8 t hk'
  have c9 := h.who y hy2
  have hq : (s.who y == (t : Int)) = false := by simpa using hw
  have H := Lib.hid h
  clear h hth ok hi hln hkk hf hcode hc c1 hcd hcc hic
  generalize (s.th t).fuel = f at *
  generalize (s.th t).at_ = at_ at *
  generalize (s.code t).length = n at *
  obtain ⟨kd, r, x, m⟩ := i
  dsimp only at *
  subst hk1 hy
  clear hw
  go_enter Try.func30, Try.ntmps30
  go_wp2
  go_quiet (fail)
  go_wp2
  go_region
  generalize hW : (((w.alloc (.cells #[.int .i64 0, .int .i64 0, .int .i64 0, .bool false] 50)).drewN (nq + 1)).alloc (.cells #[.int .i64 6, .int .i64 r, .int .i64 y, .int .i64 m] 58)) = W at *
  obtain ⟨hbl, ⟨e0, e1, e2, e3⟩, ⟨e4, e5, e6, e7⟩, ⟨j0, j1, j2, j3⟩, hsz, hsz0⟩ := mid_world hW
  have c9w := cell_later hbl c9
  have c9z := cell_block c9w
  dsimp only at c9z
  clear hW cf ca c0 i0 i1 i2 i3 p0 p1 c9
  go_wp2
  go_region
  go_wp2
  refine bodyPost_ret (v := .tuple #[.agg #[.int .i64 t, .int .i64 1, .int .i64 0, .bool true], .bool true]) (by simp [results, Try.results30, go_sem, hsz0, e0, e1, e2, e3]) rfl ⟨rfl, ?_⟩
  repeat (first | exact hbl | refine Below.drew ?_ | refine Below.drewN ?_ | (refine Below.alloc ?_ (by simp [World.setCell]; omega) _) | (refine Below.setCell ?_ (by first | exact Nat.le_refl _ | (simp [World.setCell]; omega)) _))
end
end Go.Proofs.Ytkjjbcgecnjniaa

/- The contract of the document's Next: others. -/
namespace Go.Proofs.Ytkjjbcgecnjniaa
open Go.RowKit

section
variable {F : Nat} {w : World} {b tb : Nat} {a : Option Addr} {cap tcap : Nat} {s : St}

set_option maxRecDepth 100000 in
set_option maxHeartbeats 4000000 in
theorem refNext_0 (h : RefAt w b tb a cap tcap s) (hth : ThreadsAt w a s.p.threads) (ok : s.Ok F) (t : Nat) (i : Ins) (hi : s.ins t = some i) (hk1 : i.kind ≠ 1) (hk2 : i.kind ≠ 2) (hk5 : i.kind ≠ 5) (hk6 : i.kind ≠ 6) (hk8 : i.kind ≠ 8) :
    Calls Try.prog 30 #[.pointer (some ⟨b, 0, none⟩), .int .i64 t] w fun r w' => r = .returned (.tuple #[.agg #[.int .i64 t, .int .i64 1, .int .i64 0, .bool false], .bool true]) ∧ Below w.heap.size w w' := by
  obtain ⟨_, hf, hcode⟩ := St.ins_has hi
  obtain ⟨k, hkk, hk'⟩ := St.ins_nat hi
  obtain rfl : t = k := by omega
  simp only [Int.toNat_natCast] at hf hcode
  obtain ⟨hb1, hb2⟩ := h.lt
  obtain ⟨p0, p1⟩ := h.prog
  have hln := ok.len
  have h4 := ok.len4
  have hkp : t < s.p.threads.length := by omega
  have hcd : s.code t = s.p.threads[t] := getD_lt _ hkp
  obtain ⟨hat, hic⟩ := List.getElem?_eq_some_iff.1 hcode
  obtain ⟨ab, ao, rfl, hc⟩ := hth.2 (by intro e; simp [e] at hkp)
  obtain ⟨c, ccap, c0, c1, _⟩ := hc t hkp
  rw [← hcd] at c0 c1
  obtain ⟨cb, co, rfl, hcc⟩ := c1.2 (by intro e; simp [e] at hat)
  obtain ⟨i0, i1, i2, i3⟩ := hcc _ hat
  rw [hic] at i0 i1 i2 i3
  have hz1 := cell_block c0
  have hz2 := cell_block i0
  dsimp only at hz1 hz2
  have cf := h.fuel t hk'
  have ca := h.at_ t hk'
  have hff : ((((s.th t).fuel : Nat) : Int) == 0) = false := by simp; omega
  have q0 : decide ((t : Int) < 0) = false := by simp
  have q1 : decide ((s.ts.length : Int) ≤ t) = false := by simp; omega
  have q2 : decide (s.ts.length ≤ t) = false := by simp; omega
  have q3 : decide ((s.code t).length ≤ (s.th t).at_) = false := by simp; omega
  have q4 : decide (((s.code t).length : Int) ≤ (s.th t).at_) = false := by simp; omega
  have h8 := ok.code8 t hk'
  have H := Lib.hid h
  clear h hth ok hi hln hkk hf hcode hc c1 hcd hcc hic
  generalize (s.th t).fuel = f at *
  generalize (s.th t).at_ = at_ at *
  generalize (s.code t).length = n at *
  obtain ⟨kd, r, x, m⟩ := i
  dsimp only at *
  have f1 : (kd == 1) = false := by simpa using hk1
  have f2 : (kd == 2) = false := by simpa using hk2
  have f5 : (kd == 5) = false := by simpa using hk5
  have f6 : (kd == 6) = false := by simpa using hk6
  have f8 : (kd == 8) = false := by simpa using hk8
  clear hk1 hk2 hk5 hk6 hk8
  go_enter Try.func30, Try.ntmps30
  go_wp2
  go_quiet (fail)
  go_wp2
  go_region
  generalize hW : (((w.alloc (.cells #[.int .i64 0, .int .i64 0, .int .i64 0, .bool false] 50)).drewN (nq + 1)).alloc (.cells #[.int .i64 kd, .int .i64 r, .int .i64 x, .int .i64 m] 58)) = W at *
  obtain ⟨hbl, ⟨e0, e1, e2, e3⟩, ⟨e4, e5, e6, e7⟩, ⟨j0, j1, j2, j3⟩, hsz, hsz0⟩ := mid_world hW
  clear hW cf ca c0 i0 i1 i2 i3 p0 p1 
  go_wp2
  refine bodyPost_ret (v := .tuple #[.agg #[.int .i64 t, .int .i64 1, .int .i64 0, .bool false], .bool true]) (by simp [results, Try.results30, go_sem, hsz0, e0, e1, e2, e3]) rfl ⟨rfl, ?_⟩
  repeat (first | exact hbl | refine Below.drew ?_ | refine Below.drewN ?_ | (refine Below.alloc ?_ (by simp [World.setCell]; omega) _) | (refine Below.setCell ?_ (by first | exact Nat.le_refl _ | (simp [World.setCell]; omega)) _))
end
end Go.Proofs.Ytkjjbcgecnjniaa

/- The contracts of the document's Next, Enabled, All. -/
namespace Go.Proofs.Ytkjjbcgecnjniaa
open Go.RowKit

section
variable {F : Nat} {w : World} {b tb : Nat} {a : Option Addr} {cap tcap : Nat} {s : St}

theorem refNext_any (h : RefAt w b tb a cap tcap s) (hth : ThreadsAt w a s.p.threads) (ok : s.Ok F) (t : Int) :
    Calls Try.prog 30 #[.pointer (some ⟨b, 0, none⟩), .int .i64 t] w fun r w' => r = .returned (evR (s.next t)) ∧ Below w.heap.size w w' := by
  have h4 := ok.len4
  cases hi : s.ins t with
  | none =>
    have hn : s.next t = none := by unfold St.next; rw [hi]; rfl
    rw [hn, evR_none]
    by_cases ht0 : t < 0
    · exact refNext_neg h t ht0
    by_cases hk0 : (s.ts.length : Int) ≤ t
    · exact refNext_out h t ht0 hk0
    obtain ⟨k, rfl⟩ : ∃ k : Nat, t = k := ⟨t.toNat, by omega⟩
    have hk' : k < s.ts.length := by omega
    by_cases hf : (s.th k).fuel = 0
    · exact refNext_dry h k h4 hk' hf
    · have hpl := ok.place k hk'
      refine refNext_end h hth ok k hk' hf ?_
      unfold St.ins at hi
      rw [if_pos ⟨⟨by omega, by omega⟩, by simpa using hf⟩] at hi
      simp only [Int.toNat_natCast] at hi
      have := List.getElem?_eq_none_iff.1 hi
      omega
  | some i =>
    obtain ⟨k, rfl, hk⟩ := St.ins_nat hi
    have hn : s.next k = some (s.ev k i) := by unfold St.next; rw [hi]; rfl
    obtain ⟨o1, o2, o3, o4, o5, o6⟩ := ok.obj hi
    rw [hn, evR_some]
    by_cases h1 : i.kind = 1
    · have := refNext_1 h hth ok k i hi h1
      simpa [St.ev, h1] using this
    by_cases h2 : i.kind = 2
    · have := refNext_2 h hth ok k i hi h2
      simpa [St.ev, h1, h2] using this
    by_cases h5 : i.kind = 5
    · have := refNext_5 h hth ok k i hi h5
      simpa [St.ev, h1, h2, h5] using this
    by_cases h6 : i.kind = 6
    · obtain ⟨y, hy⟩ : ∃ y : Nat, i.x = y := ⟨i.x.toNat, by have := o2 (.inr h6); omega⟩
      have hy2 : y < 2 := by have := o2 (.inr h6); omega
      by_cases hw : s.who y = k
      · have := refNext_6 h hth ok k i hi h6 y hy hy2 hw
        have e : s.ev k i = ⟨k, 5, i.x, false⟩ := by
          unfold St.ev
          rw [if_neg h1, if_neg h2, if_neg h5, if_pos h6, hy, if_pos hw]
        rw [e]
        exact this
      · have := refNext_6b h hth ok k i hi h6 y hy hy2 hw
        have e : s.ev k i = ⟨k, 1, 0, true⟩ := by
          unfold St.ev
          rw [if_neg h1, if_neg h2, if_neg h5, if_pos h6, hy, if_neg hw]
        rw [e]
        exact this
    by_cases h8 : i.kind = 8
    · obtain ⟨y, hy⟩ : ∃ y : Nat, i.r = y := ⟨i.r.toNat, by omega⟩
      have := refNext_8 h hth ok k i hi h8 y hy (by omega)
      have e : s.ev k i = ⟨k, 1, 0, (s.th k).r.getD y 0 == 0⟩ := by
        unfold St.ev
        rw [if_neg h1, if_neg h2, if_neg h5, if_neg h6, if_pos h8]
        unfold St.reg
        rw [hy]
        rfl
      rw [e]
      exact this
    · have := refNext_0 h hth ok k i hi h1 h2 h5 h6 h8
      have e : s.ev k i = ⟨k, 1, 0, false⟩ := by
        unfold St.ev
        rw [if_neg h1, if_neg h2, if_neg h5, if_neg h6, if_neg h8]
      rw [e]
      exact this

set_option maxRecDepth 100000 in
set_option maxHeartbeats 4000000 in
theorem refEnabled_any (h : RefAt w b tb a cap tcap s) (hth : ThreadsAt w a s.p.threads) (ok : s.Ok F) (t : Int) :
    Calls Try.prog 43 #[.pointer (some ⟨b, 0, none⟩), .int .i64 t] w fun r w' => r = .returned (.bool (s.may t)) ∧ Below w.heap.size w w' := by
  have H := Lib.hid h
  have HT := Lib.hid hth
  have OK := Lib.hid ok
  have hb1 := h.lt.1
  clear h hth ok
  cases hn : s.next t with
  | none =>
    have hm : s.may t = false := by rw [St.may_eq OK.out, hn]
    rw [hm]
    have HN := Lib.hid hn
    clear hn hm
    go_enter Try.func43, Try.ntmps43
    go_wp2_with fail
    refine (refNext_any H.out HT.out OK.out t).mono ?_
    rw [HN.out, evR_none]
    rintro r w1 ⟨rfl, hb1⟩
    have hz := hb1.size
    go_wp2
    go_quiet (fail)
    go_wp2
    go_ret
    exact ⟨rfl, (hb1.alloc hz _).drewN⟩
  | some e =>
    have hm : s.may t = s.free e := by rw [St.may_eq OK.out, hn]
    rw [hm]
    have HN := Lib.hid hn
    by_cases hk : e.kind = 4
    · obtain ⟨ho0, ho2⟩ := next_obj OK.out hn hk
      obtain ⟨y, hy⟩ : ∃ y : Nat, e.obj = y := ⟨e.obj.toNat, by omega⟩
      have hy2 : y < 2 := by omega
      have c9 := H.out.who y hy2
      have hml := OK.out.ml
      have hmm := OK.out.mm (s.who y) (by unfold St.who; simp only [Int.toNat_natCast]; rw [getD_lt _ (by omega)]; exact List.getElem_mem _)
      have hfr : s.free e = decide (s.who y < 0) := by
        unfold St.free
        rw [hk, hy, Bool.eq_iff_iff]
        simp
        omega
      rw [hfr]
      have q4 : (e.kind != 4) = false := by simp [hk]
      clear hn hm hfr ho0 ho2 hml hmm hk
      obtain ⟨et, ek, eo, ef⟩ := e
      dsimp only at *
      subst hy
      generalize s.who y = g at *
      go_enter Try.func43, Try.ntmps43
      go_wp2_with fail
      refine (refNext_any H.out HT.out OK.out t).mono ?_
      rw [HN.out, evR_some]
      rintro r w1 ⟨rfl, hb2⟩
      have hz := hb2.size
      have c9w := cell_later hb2 c9
      have c9z := cell_block c9w
      dsimp only at c9z
      clear c9
      go_wp2
      go_quiet (fail)
      go_wp2
      go_ret
      exact ⟨rfl, (hb2.alloc hz _).drewN⟩
    · have hfr : s.free e = true := by unfold St.free; simp [hk]
      rw [hfr]
      have q4 : (e.kind != 4) = true := by simpa using hk
      clear hn hm hfr hk
      go_enter Try.func43, Try.ntmps43
      go_wp2_with fail
      refine (refNext_any H.out HT.out OK.out t).mono ?_
      rw [HN.out, evR_some]
      rintro r w1 ⟨rfl, hb2⟩
      have hz := hb2.size
      go_wp2
      go_quiet (fail)
      go_wp2
      go_ret
      exact ⟨rfl, (hb2.alloc hz _).drewN⟩

end
end Go.Proofs.Ytkjjbcgecnjniaa

/- The contract of the document's Races. -/
namespace Go.Proofs.Ytkjjbcgecnjniaa
open Go.RowKit

theorem racesN_nil (nx : Int → Option Ev) (n : Nat) : racesN nx [] n = [] := by
  induction n with
  | zero => rfl
  | succ n ih =>
    rw [racesN_succ, ih]
    cases nx n with
    | none => rfl
    | some e => rfl

set_option maxRecDepth 100000 in
set_option maxHeartbeats 4000000 in
theorem refRaces_any {F : Nat} {s : St} {sb tb scap tcap : Nat} {sa : Option Addr} {w : World} (h : RefAt w sb tb sa scap tcap s) (hth : ThreadsAt w sa s.p.threads) (ok : s.Ok F)
    (a : Option Addr) (cap : Nat) (l : List Ev) (hl : EvsAt w a l) (hm : l.length ≤ 200) :
    Calls Try.prog 16 #[.pointer (some ⟨sb, 0, none⟩), .slice a l.length cap] w fun r w' => ∃ rv, r = .returned rv ∧ OwnRow w' w.heap.size 65 2 rcCell rv (racesN s.next (okL l) s.ts.length) ∧ Below w.heap.size w w' := by
  have HL := Lib.hid hl
  have HRC := Lib.hid (rows_any a cap l w hl)
  have h4 := ok.len4
  have p1 := h.prog.2
  have hb1 := h.lt.1
  have H := Lib.hid h
  have HT := Lib.hid hth
  have OK := Lib.hid ok
  clear h hth ok hl
  cases hr : rightL l
  · have HE : Hid (racesN s.next (okL l) s.ts.length = []) := by show _ = _; unfold okL; rw [if_neg (by rw [hr]; simp), racesN_nil]
    rw [hr] at HRC
    clear hr
    go_enter Try.func16, Try.ntmps16
    go_wp2_with fail
    refine HRC.out.mono ?_
    rintro r w1 ⟨rfl, hb1⟩
    clear HRC
    go_wp2
    go_ret
    exact ⟨_, rfl, by rw [HE.out]; exact ownRow_nil _ _ _ _ _, hb1⟩
  have HE : Hid (okL l = l) := by show _ = _; unfold okL; rw [if_pos hr]
  rw [HE.out]
  rw [hr] at HRC
  clear hr
  go_enter Try.func16, Try.ntmps16
  go_wp2_with fail
  refine HRC.out.mono ?_
  rintro r w1 ⟨rfl, hb1⟩
  have HB1 := Lib.hid hb1
  have hsz := hb1.size
  clear HRC hb1
  go_wp2_with fail
  go_loopw [5, 6] (fun v i wr => ∃ k : Nat, k ≤ s.ts.length ∧ i = .int .i64 k ∧ Hid (OwnRow wr w1.heap.size 65 2 rcCell v (racesN s.next l k)) ∧ Hid (Below w1.heap.size w1 wr)) (fun _ i _ => s.ts.length - (intOf i).toNat)
  case atStart => exact ⟨0, Nat.zero_le _, rfl, ownRow_nil _ _ _ _ _, Below.refl _ _⟩
  case round =>
    obtain ⟨k, hk, rfl, HV, HW⟩ := hrel
    have HBW := Lib.hid (HB1.out.trans (HW.out.mono hsz))
    have p1w := cell_later HBW.out p1
    by_cases hlt : k < s.ts.length
    · have hrl : (racesN s.next l k).length ≤ 800 := by
        have h1 := racesN_len s.next l k
        have h2 : k * l.length ≤ 4 * 200 := Nat.mul_le_mul (by omega) hm
        omega
      go_wp2_with fail
      refine (refNext_any (H.out.later HBW.out) (HT.out.later HBW.out) OK.out k).mono ?_
      rintro r w2 ⟨rfl, hb2⟩
      clear p1w
      cases hn : s.next (k : Int) with
      | none =>
        have HRS : Hid (racesN s.next l (k + 1) = racesN s.next l k) := by show _ = _; rw [racesN_succ, hn]; simp
        have hb3 := below_alloc1 w2 (.cells #[.int .i64 0, .int .i64 0, .int .i64 0, .bool false] 50)
        have HB3 : Hid (Below wr.heap.size wr (w2.alloc (.cells #[.int .i64 0, .int .i64 0, .int .i64 0, .bool false] 50))) := hb2.trans (hb3.mono hb2.size)
        clear hn hb3
        simp only [evR, evV, ev0, Option.getD_none, Option.isSome_none]
        go_wp2_with fail
        refine (refWith_any a cap l ⟨0, 0, 0, false⟩ _ (HL.out.later (HBW.out.trans (HB3.out.mono HBW.out.size))) (by omega)).mono ?_
        rintro r w5 ⟨v5, rfl, hv5, hb5⟩
        obtain ⟨a5, c5, rfl, _, _⟩ := OwnN.form hv5 (by rw [ints_len]; have := withL_len7 l ⟨0, 0, 0, false⟩; omega)
        have HB5 : Hid (Below wr.heap.size wr w5) := HB3.out.trans (hb5.mono HB3.out.size)
        clear hv5 hb5 HB3 hb2
        go_wp2
        go_loopw [5, 10] (fun v i W => v = u5 ∧ i = .int .i64 0 ∧ W = w5) (fun _ _ _ => 0)
        case atStart => exact ⟨rfl, rfl, rfl⟩
        case round =>
          obtain ⟨rfl, rfl, rfl⟩ := hrel
          have HV5 : Hid (OwnRow wr w1.heap.size 65 2 rcCell u5 (racesN s.next l (k + 1))) := by
            show OwnRow _ _ _ _ _ _ _
            rw [HRS.out]
            exact HV.out.later HB5.out
          have HW5 := Lib.hid (HW.out.trans (HB5.out.mono HW.out.size))
          clear HV HB5 HRS
          go_wp2
          go_roundw
          case rel => exact ⟨k + 1, by omega, by go_num, HV5.out, HW5.out⟩
          case measure => simp [intOf]; omega
      | some x =>
        have HRS : Hid (racesN s.next l (k + 1) = racesN s.next l k ++ rcT (k : Int) (withL l x)) := by show _ = _; rw [racesN_succ, hn]
        have hb3 := below_alloc1 w2 (.cells #[.int .i64 x.thread, .int .i64 x.kind, .int .i64 x.obj, .bool x.fail] 50)
        have HB3 : Hid (Below wr.heap.size wr (w2.alloc (.cells #[.int .i64 x.thread, .int .i64 x.kind, .int .i64 x.obj, .bool x.fail] 50))) := hb2.trans (hb3.mono hb2.size)
        have HX3 : Hid (EvBox (w2.alloc (.cells #[.int .i64 x.thread, .int .i64 x.kind, .int .i64 x.obj, .bool x.fail] 50)) w2.heap.size x) := EvBox.new w2 x
        obtain ⟨x0, x1, x2, x3⟩ := HX3.out.cells
        have hwl : (withL l x).length ≤ 200 := by have := withL_len7 l x; omega
        clear hn hb3
        simp only [evR, evV, Option.getD_some, Option.isSome_some]
        go_wp2_with fail
        refine (refWith_any a cap l x _ (HL.out.later (HBW.out.trans (HB3.out.mono HBW.out.size))) (by omega)).mono ?_
        rintro r w5 ⟨v5, rfl, hv5, hb5⟩
        generalize withL l x = RW at *
        generalize racesN s.next l k = R0 at *
        obtain ⟨a5, c5, rfl, _, _⟩ := OwnN.form hv5 (by rw [ints_len]; omega)
        rw [ints_len] at *
        have HB5 : Hid (Below wr.heap.size wr w5) := HB3.out.trans (hb5.mono HB3.out.size)
        have HN5 := Lib.hid (ownN_low hv5 (Nat.le_trans HW.out.size HB3.out.size))
        have HO5 : Hid (OwnRow w5 w1.heap.size 65 2 rcCell u5 R0) := HV.out.later HB5.out
        have HW5 : Hid (Below w1.heap.size w1 w5) := HW.out.trans (HB5.out.mono HW.out.size)
        have HIN : Hid (∀ W q, OwnN W w1.heap.size (.slice a5 RW.length c5) (ints RW) → ∀ (h : q < RW.length), ∃ b5 o5, a5 = some ⟨b5, o5, none⟩ ∧ W.cell? ⟨b5, o5 + q, none⟩ = some (.int .i64 (RW[q] : Nat))) := by
          intro W q h hq
          obtain ⟨a6, c6, e6, h6, _⟩ := OwnN.form h (by rw [ints_len]; omega)
          injection e6 with e6 _ _
          subst e6
          obtain ⟨b5, o5, rfl, hc⟩ := h6.2 (by intro e; rw [← List.length_eq_zero_iff, ints_len] at e; omega)
          exact ⟨b5, o5, rfl, by rw [hc q (by rw [ints_len]; exact hq), ints_get RW hq]⟩
        clear hv5 hb5 HB3 hb2 HB5 HV HW HX3 x0 x1 x2 x3
        go_wp2
        go_loopw [5, 10] (fun v i W => ∃ q : Nat, q ≤ RW.length ∧ i = .int .i64 q ∧ Hid (OwnRow W w1.heap.size 65 2 rcCell v (R0 ++ rcT (k : Int) (RW.take q))) ∧ Hid (OwnN W w1.heap.size (.slice a5 RW.length c5) (ints RW)) ∧ Hid (Below w1.heap.size w1 W)) (fun _ i _ => RW.length - (intOf i).toNat)
        case atStart => exact ⟨0, Nat.zero_le _, rfl, (by show OwnRow _ _ _ _ _ _ _; rw [List.take_zero]; simpa [rcT] using HO5.out), HN5.out, HW5.out⟩
        case round =>
          clear HO5 HN5 HW5
          obtain ⟨q, hq, rfl, HO, HN, HB⟩ := hrel
          have hsW : w1.heap.size ≤ wr.heap.size := HB.out.size
          by_cases hqt : q < RW.length
          · obtain ⟨b5, o5, rfl, hc5⟩ := HIN.out wr q HN.out hqt
            have HT2 := Lib.hid (rcT_take (t := (k : Int)) hqt)
            have hol : (R0 ++ rcT (k : Int) (RW.take q)).length ≤ 1000000 := by simp [rcT]; omega
            have hqi : (q : Int) < RW.length := by omega
            have hba := below_alloc1 wr (.cells #[.int .i64 (RW[q] : Nat), .int .i64 (k : Int)] 65)
            go_wp2_with (at_builtin; refine wp_appendR (f := rcCell) (n := 2) 37 65 16 (.agg #[.int .i64 0, .int .i64 0]) Try.underlying37 infoRr rfl (by omega) (by omega) rcCell_len rfl _ _ rfl w1.heap.size _ (R0 ++ rcT (k : Int) (RW.take q)) rfl (HO.out.alloc _) ⟨wr.heap.size, 0, none⟩ rfl (RW[q], (k : Int)) (rcCell_one _) (cells_new wr (rcCell (RW[q], (k : Int))) _ _ rfl) hol (by simp; omega) ?_; intro v6 w6 h6 hb6 hg6)
            have HO8 : Hid (OwnRow w6 w1.heap.size 65 2 rcCell v6 (R0 ++ rcT (k : Int) (RW.take (q + 1)))) := by
              show OwnRow _ _ _ _ _ _ _
              rw [HT2.out, ← List.append_assoc]
              exact h6
            have ho7 : OwnRow (wr.alloc (.cells #[.int .i64 (RW[q] : Nat), .int .i64 (k : Int)] 65)) w1.heap.size 65 2 rcCell u5 (R0 ++ rcT (k : Int) (RW.take q)) := OwnRow.alloc HO.out _
            have HN6 := Lib.hid (ownN_keptBy (HN.out.later hba) ho7 (by decide) hg6)
            have HB6 : Hid (Below w1.heap.size w1 w6) := (HB.out.alloc hsW _).trans hb6
            clear HT2 ho7 h6 hb6 hg6 HO HN HB
            go_roundw
            case rel => exact ⟨q + 1, by omega, by go_num, HO8.out, HN6.out, HB6.out⟩
            case measure => simp [intOf]; omega
          · obtain rfl : q = RW.length := by omega
            have HO7 : Hid (OwnRow wr w1.heap.size 65 2 rcCell u5 (racesN s.next l (k + 1))) := by
              show OwnRow _ _ _ _ _ _ _
              rw [HRS.out]
              have h := HO.out
              rw [List.take_length] at h
              exact h
            clear HO HRS HIN
            go_wp2
            go_roundw
            case rel => exact ⟨k + 1, by omega, by go_num, HO7.out, HB.out⟩
            case measure => simp [intOf]; omega
    · obtain rfl : k = s.ts.length := by omega
      have HF := Lib.hid (And.intro HV.out HBW.out)
      clear HV HW
      go_wp2
      go_ret
      exact ⟨_, rfl, ownRow_low HF.out.1 hsz, HF.out.2⟩

end Go.Proofs.Ytkjjbcgecnjniaa

/- The contract of the document's Step, where it is refused. -/
namespace Go.Proofs.Ytkjjbcgecnjniaa
open Go.RowKit

theorem RefAt.go {w : World} {b tb : Nat} {a : Option Addr} {cap tcap : Nat} {s : St} (h : RefAt w b tb a cap tcap s) (t f n : Nat) (ht : t < s.ts.length) (hf : (s.th t).fuel = f + 1) (hn : (s.th t).at_ = n) :
    RefAt ((w.setCell ⟨tb, t * 4 + 1, none⟩ (.int .i64 f)).setCell ⟨tb, t * 4, none⟩ (.int .i64 ((n + 1 : Nat) : Int))) b tb a cap tcap (s.go t) := by
  have h1 := h.setFuel t f ht
  have h2 := h1.setAt t (n + 1) (by rw [St.put_len]; exact ht)
  rw [St.put_th _ _ _ ht, St.put_put] at h2
  unfold St.go
  rw [hf, hn]
  exact h2
theorem RefAt.other4 {w : World} {b tb g : Nat} {a : Option Addr} {cap tcap : Nat} {s : St} (h : RefAt w b tb a cap tcap s) (hb : b ≠ g) (ht : tb ≠ g) (v0 v1 v2 v3 : Value) :
    RefAt ((((w.setCell ⟨g, 0, none⟩ v0).setCell ⟨g, 1, none⟩ v1).setCell ⟨g, 2, none⟩ v2).setCell ⟨g, 3, none⟩ v3) b tb a cap tcap s :=
  (((h.other hb ht 0 v0).other hb ht 1 v1).other hb ht 2 v2).other hb ht 3 v3

section
variable {F : Nat} {w : World} {b tb : Nat} {a : Option Addr} {cap tcap : Nat} {s : St}

set_option maxRecDepth 100000 in
set_option maxHeartbeats 4000000 in
theorem refStep_range (h : RefAt w b tb a cap tcap s) (t : Int) (hb : belowB t s.ts.length = false) : Calls Try.prog 23 #[.pointer (some ⟨b, 0, none⟩), .int .i64 t] w fun e w' => e = .returned (stepV (s.step t)) ∧ RefAt w' b tb a cap tcap (s.step t).2.2 ∧ Only2 b tb w w' := by
  have hst : s.step t = (2, ev0, s) := by
    unfold St.step
    rw [if_neg (fun e => by unfold St.has at e; simp [belowB] at hb; omega)]
  rw [hst, stepV_err]
  have hb' : ¬ (0 ≤ t ∧ t < s.ts.length) := by simpa [belowB] using hb
  have p1 := h.prog.2
  have hb1 := h.lt.1
  have HB := Lib.hid (h.later (below_alloc1 w (.cells #[.int .i64 0, .int .i64 0, .int .i64 0, .bool false] 50)))
  clear hst h hb
  by_cases h0 : t < 0
  · have q0 : decide (t < 0) = true := by simpa using h0
    clear hb'
    go_enter Try.func23, Try.ntmps23
    go_wp2
    refine bodyPost_ret (v := .tuple #[.agg #[.int .i64 0, .int .i64 0, .int .i64 0, .bool false], .int .i64 2]) (by simp [results, Try.results23, go_sem]) rfl ⟨rfl, HB.out, ?_⟩
    exact (Only2.refl b tb w).alloc _
  · have q0 : decide (t < 0) = false := by simpa using h0
    have q1 : decide ((s.ts.length : Int) ≤ t) = true := by simp; omega
    clear hb'
    go_enter Try.func23, Try.ntmps23
    go_wp2
    refine bodyPost_ret (v := .tuple #[.agg #[.int .i64 0, .int .i64 0, .int .i64 0, .bool false], .int .i64 2]) (by simp [results, Try.results23, go_sem]) rfl ⟨rfl, HB.out, ?_⟩
    exact (Only2.refl b tb w).alloc _

set_option maxRecDepth 100000 in
set_option maxHeartbeats 4000000 in
theorem refStep_none (h : RefAt w b tb a cap tcap s) (hth : ThreadsAt w a s.p.threads) (ok : s.Ok F) (t : Nat) (ht : t < s.ts.length) (hi : s.ins t = none) : Calls Try.prog 23 #[.pointer (some ⟨b, 0, none⟩), .int .i64 t] w fun e w' => e = .returned (stepV (s.step t)) ∧ RefAt w' b tb a cap tcap (s.step t).2.2 ∧ Only2 b tb w w' := by
  have hst : s.step t = (6, ev0, s) := by
    unfold St.step
    rw [if_pos (by unfold St.has; omega), hi]
  have hn : s.next t = none := by unfold St.next; rw [hi]; rfl
  rw [hst, stepV_err]
  have p1 := h.prog.2
  have hl := h.lt
  obtain ⟨hb1, hb2⟩ := hl
  have h4 := ok.len4
  have q0 : decide ((t : Int) < 0) = false := by simp
  have q1 : decide ((s.ts.length : Int) ≤ t) = false := by simp; omega
  have q2 : decide (s.ts.length ≤ t) = false := by simp; omega
  have HB := Lib.hid (h.later (below_alloc1 w (.cells #[.int .i64 0, .int .i64 0, .int .i64 0, .bool false] 50)))
  have HTH := Lib.hid (hth.later (below_alloc1 w (.cells #[.int .i64 0, .int .i64 0, .int .i64 0, .bool false] 50)))
  have OK := Lib.hid ok
  have HN := Lib.hid hn
  clear hst h hth ok hi hn
  go_enter Try.func23, Try.ntmps23
  go_wp2_with fail
  refine (refNext_any HB.out HTH.out OK.out t).mono ?_
  rw [HN.out, evR_none]
  rintro r w1 ⟨rfl, hb3⟩
  have hz : w.heap.size < w1.heap.size := by have := hb3.size; simp at this; omega
  have hc : ∀ o, w1.cell? ⟨w.heap.size, o, none⟩ = (w.alloc (.cells #[.int .i64 0, .int .i64 0, .int .i64 0, .bool false] 50)).cell? ⟨w.heap.size, o, none⟩ := fun o => hb3.cell (p := ⟨w.heap.size, o, none⟩) (by simp)
  have hf : ∀ o, w1.frozen? ⟨w.heap.size, o, none⟩ = (w.alloc (.cells #[.int .i64 0, .int .i64 0, .int .i64 0, .bool false] 50)).frozen? ⟨w.heap.size, o, none⟩ := fun o => hb3.frozen (p := ⟨w.heap.size, o, none⟩) (by simp)
  have H1 := Lib.hid (HB.out.later hb3)
  have B1 : Hid (Below w.heap.size w w1) := (below_alloc1 w _).trans (hb3.mono (by simp))
  clear hb3 p1
  go_wp2
  refine bodyPost_ret (v := .tuple #[.agg #[.int .i64 0, .int .i64 0, .int .i64 0, .bool false], .int .i64 6]) (by simp [results, Try.results23, go_sem, hc, hz]) rfl ⟨rfl, ?_, ?_⟩
  · exact (H1.out.other4 (by omega) (by omega) _ _ _ _).later (below_alloc1 _ _)
  · exact ((Only2.of_below B1.out).set4 (Nat.le_refl _) _ _ _ _).alloc _

set_option maxRecDepth 100000 in
set_option maxHeartbeats 4000000 in
theorem refStep_state (h : RefAt w b tb a cap tcap s) (hth : ThreadsAt w a s.p.threads) (ok : s.Ok F) (t : Nat) (i : Ins) (hi : s.ins t = some i) (hm : s.may t = false) : Calls Try.prog 23 #[.pointer (some ⟨b, 0, none⟩), .int .i64 t] w fun e w' => e = .returned (stepV (s.step t)) ∧ RefAt w' b tb a cap tcap (s.step t).2.2 ∧ Only2 b tb w w' := by
  obtain ⟨k, hkk, ht⟩ := St.ins_nat hi
  obtain rfl : t = k := by omega
  have hst : s.step t = (9, ev0, s) := by
    unfold St.step
    rw [if_pos (by unfold St.has; omega), hi]
    simp only [hm]
    rfl
  have hn : s.next t = some (s.ev t i) := by unfold St.next; rw [hi]; rfl
  rw [hst, stepV_err]
  obtain ⟨e, he⟩ : ∃ e, e = s.ev t i := ⟨_, rfl⟩
  rw [← he] at hn
  have p1 := h.prog.2
  have hl := h.lt
  obtain ⟨hb1, hb2⟩ := hl
  have h4 := ok.len4
  have q0 : decide ((t : Int) < 0) = false := by simp
  have q1 : decide ((s.ts.length : Int) ≤ t) = false := by simp; omega
  have q2 : decide (s.ts.length ≤ t) = false := by simp; omega
  have HB := Lib.hid (h.later (below_alloc1 w (.cells #[.int .i64 0, .int .i64 0, .int .i64 0, .bool false] 50)))
  have HTH := Lib.hid (hth.later (below_alloc1 w (.cells #[.int .i64 0, .int .i64 0, .int .i64 0, .bool false] 50)))
  have OK := Lib.hid ok
  have HN := Lib.hid hn
  have HM := Lib.hid hm
  clear hst h hth ok hi hn he hkk hm
  go_enter Try.func23, Try.ntmps23
  go_wp2_with fail
  refine (refNext_any HB.out HTH.out OK.out t).mono ?_
  rw [HN.out, evR_some]
  rintro r w1 ⟨rfl, hb3⟩
  have hz : w.heap.size < w1.heap.size := by have := hb3.size; simp at this; omega
  have hc : ∀ o, w1.cell? ⟨w.heap.size, o, none⟩ = (w.alloc (.cells #[.int .i64 0, .int .i64 0, .int .i64 0, .bool false] 50)).cell? ⟨w.heap.size, o, none⟩ := fun o => hb3.cell (p := ⟨w.heap.size, o, none⟩) (by simp)
  have hf : ∀ o, w1.frozen? ⟨w.heap.size, o, none⟩ = (w.alloc (.cells #[.int .i64 0, .int .i64 0, .int .i64 0, .bool false] 50)).frozen? ⟨w.heap.size, o, none⟩ := fun o => hb3.frozen (p := ⟨w.heap.size, o, none⟩) (by simp)
  have H1 := Lib.hid ((HB.out.later hb3).later (below_alloc1 w1 (.cells #[.int .i64 e.thread, .int .i64 e.kind, .int .i64 e.obj, .bool e.fail] 50)))
  have T1 := Lib.hid ((HTH.out.later hb3).later (below_alloc1 w1 (.cells #[.int .i64 e.thread, .int .i64 e.kind, .int .i64 e.obj, .bool e.fail] 50)))
  have B1 : Hid (Below w.heap.size w w1) := (below_alloc1 w _).trans (hb3.mono (by simp))
  clear hb3 p1
  go_wp2_with fail
  refine (refEnabled_any H1.out T1.out OK.out t).mono ?_
  rw [HM.out]
  rintro r w2 ⟨rfl, hb4⟩
  have B2 : Hid (Below w1.heap.size w1 w2) := (below_alloc1 w1 _).trans (hb4.mono (by simp))
  have hz2 : w.heap.size < w2.heap.size := by have := B2.out.size; omega
  have hc2 : ∀ o, w2.cell? ⟨w.heap.size, o, none⟩ = w1.cell? ⟨w.heap.size, o, none⟩ := fun o => B2.out.cell (p := ⟨w.heap.size, o, none⟩) hz
  have hf2 : ∀ o, w2.frozen? ⟨w.heap.size, o, none⟩ = w1.frozen? ⟨w.heap.size, o, none⟩ := fun o => B2.out.frozen (p := ⟨w.heap.size, o, none⟩) hz
  have H2 := Lib.hid (H1.out.later hb4)
  clear hb4
  go_wp2
  refine bodyPost_ret (v := .tuple #[.agg #[.int .i64 0, .int .i64 0, .int .i64 0, .bool false], .int .i64 9]) (by simp [results, Try.results23, go_sem, hc, hc2]) rfl ⟨rfl, ?_, ?_⟩
  · exact H2.out.other4 (by omega) (by omega) _ _ _ _
  · exact (Only2.of_below (B1.out.trans (B2.out.mono (by omega)))).set4 (Nat.le_refl _) _ _ _ _
end
end Go.Proofs.Ytkjjbcgecnjniaa

/- Boxes of an event, of an instruction. -/
namespace Go.Proofs.Ytkjjbcgecnjniaa
open Go.RowKit

/-- A box of an event that is none. -/
def EvBox0 (w : World) (g : Nat) : Prop := w.heap[g]? = some (.cells #[.int .i64 0, .int .i64 0, .int .i64 0, .bool false] 50 (0, 0))
theorem EvBox0.cells {w : World} {g : Nat} (h : EvBox0 w g) : w.cell? ⟨g, 0, none⟩ = some (.int .i64 0) ∧ w.cell? ⟨g, 1, none⟩ = some (.int .i64 0) ∧ w.cell? ⟨g, 2, none⟩ = some (.int .i64 0) ∧ w.cell? ⟨g, 3, none⟩ = some (.bool false) ∧ ∀ o, w.frozen? ⟨g, o, none⟩ = false := by
  simp [World.cell?, World.frozen?, show w.heap[g]? = _ from h]
theorem ev_cells {w : World} {g : Nat} {e : Ev} (h : w.heap[g]? = some (.cells #[.int .i64 e.thread, .int .i64 e.kind, .int .i64 e.obj, .bool e.fail] 50 (0, 0))) : w.cell? ⟨g, 0, none⟩ = some (.int .i64 e.thread) ∧ w.cell? ⟨g, 1, none⟩ = some (.int .i64 e.kind) ∧ w.cell? ⟨g, 2, none⟩ = some (.int .i64 e.obj) ∧ w.cell? ⟨g, 3, none⟩ = some (.bool e.fail) := by
  simp [World.cell?, h]
theorem ins_cells {w : World} {g : Nat} {kd r x m : Int} (h : w.heap[g]? = some (.cells #[.int .i64 kd, .int .i64 r, .int .i64 x, .int .i64 m] 58 (0, 0))) : w.cell? ⟨g, 0, none⟩ = some (.int .i64 kd) ∧ w.cell? ⟨g, 1, none⟩ = some (.int .i64 r) ∧ w.cell? ⟨g, 2, none⟩ = some (.int .i64 x) ∧ w.cell? ⟨g, 3, none⟩ = some (.int .i64 m) := by
  simp [World.cell?, h]
end Go.Proofs.Ytkjjbcgecnjniaa
