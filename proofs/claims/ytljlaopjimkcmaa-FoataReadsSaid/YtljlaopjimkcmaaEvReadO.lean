/- The contracts of event's Read and of the document's, once more: the row is the call's own. -/
import Derived.Test.YtljlaopjimkcmaaEvRead
import Derived.Test.YtljlaopjimkcmaaRowF
namespace Go.Proofs.Ytljlaopjimkcmaa
open Go.RowKit

theorem ERow.own {w : World} {B n : Nat} {es : List Ev} (h : ERow w B n es) (hn : es.length = n) (hm : n ≤ 1000000) : OwnE w B (.slice (some ⟨B, 0, none⟩) n n) es := by
  obtain ⟨h1, zs, h2, h3⟩ := h
  have hz : zs = [] := List.eq_nil_of_length_eq_zero (by omega)
  subst hz
  rw [List.append_nil] at h3
  refine ⟨by rw [evCells_length], .inr ⟨B, n, (evCells es).toArray, by rw [hn], Nat.le_refl _, h3, by omega, by unfold maxLen; omega, by simp [evCells_length, hn], ?_⟩⟩
  rw [hn, List.take_of_length_le]
  simp [evCells_length, hn]
def ReadPostO (B : Nat) (w : World) (s : List UInt8) (bad : Value) (good : Value) (r : Ending) (w' : World) : Prop :=
  ∃ a cap, r = .returned (.tuple #[.slice a (readE s).length cap, if readOk s then good else bad]) ∧ OwnE w' B (.slice a (readE s).length cap) (readE s) ∧ Below B w w'
theorem readPostO_no {B : Nat} {w w' : World} {s : List UInt8} {bad good : Value} (h : readOk s = false ∧ readE s = []) (hb : Below B w w') : ReadPostO B w s bad good (.returned (.tuple #[.slice none 0 0, bad])) w' :=
  ⟨none, 0, by rw [h.1, h.2]; rfl, by rw [h.2]; exact ownE_nil _ _, hb⟩
theorem readPostO_yes {B : Nat} {w w' : World} {s : List UInt8} {bad good : Value} (h : (evsOf s).all rightEv = true) (a : Option Addr) (n cap : Nat) (hn : n = s.length) (he : OwnE w' B (.slice a n cap) (evsOf s)) (hb : Below B w w') : ReadPostO B w s bad good (.returned (.tuple #[.slice a n cap, good])) w' := by
  have h1 : readOk s = true := h
  have h2 : readE s = evsOf s := by unfold readE; rw [h1]; rfl
  have h3 : (evsOf s).length = n := by rw [hn]; simp [evsOf]
  refine ⟨a, cap, ?_, by rw [h2, h3]; exact he, hb⟩
  rw [h1, h2, hn]
  simp [evsOf]

set_option maxRecDepth 100000 in
set_option maxHeartbeats 1000000 in
theorem evReadO_any (s : List UInt8) (w : World) (hm : s.length ≤ 1000000) :
    Calls Try.prog 39 #[.string ⟨s.toArray⟩] w (ReadPostO w.heap.size w s (.int .i64 3) (.int .i64 0)) := by
  have hmk := run_make_k (P := Try.prog) 22 39 (.agg #[.int .i64 0, .int .i64 0, .int .i64 0, .bool false]) 4 32 Try.underlying22 (by kernel_rfl) s.length (by omega) (by omega)
  have hsz : (⟨s.toArray⟩ : ByteArray).size = s.length := rfl
  go_enter Try.func39, Try.ntmps39
  go_wp2
  go_loopw [11] (fun i wr => ∃ (k : Nat) (es : List Ev), k ≤ s.length ∧ i = .int .i64 k ∧ es.length = k ∧ Hid (es = evsOf (s.take k)) ∧ Hid (es.all rightEv = true) ∧ Hid (ERow wr w.heap.size s.length es) ∧ Below w.heap.size w wr) (fun i _ => s.length - (intOf i).toNat)
  case atStart =>
    refine ⟨0, [], Nat.zero_le _, rfl, rfl, rfl, rfl, ?_, below_alloc1 _ _⟩
    exact ERow.made w s.length
  case round =>
    clear hmk
    obtain ⟨k, es, hk, rfl, hel, HE, HA, HM, hb⟩ := hrel
    by_cases hlt : k < s.length
    · have hz := HM.out.lt
      have HT0 := evsOf_take s k hlt
      have HX0 := List.getElem_mem hlt
      obtain ⟨c, hc⟩ : ∃ c, s[k] = c := ⟨_, rfl⟩
      rw [hc] at HT0 HX0
      have HT := Lib.hid HT0
      have HX := Lib.hid HX0
      have hix : ∀ h : k < (⟨s.toArray⟩ : ByteArray).size, (⟨s.toArray⟩ : ByteArray)[k] = c := fun _ => hc
      clear HT0 HX0 hc
      have bc := UInt8.toNat_lt c
      go_wp2_with fail
      refine (fromByte_any c.toNat (by omega) (by omega) _).mono ?_
      rintro r w1 ⟨rfl, hb1⟩
      generalize hx : evOf c.toNat = x at *
      have HV := Lib.hid hx
      have HM1 := Lib.hid (HM.out.later hb1)
      have hw1 : Below w.heap.size w w1 := hb.trans (hb1.mono hb.size)
      obtain ⟨y0, g0⟩ := HM1.out.cell (k * 4) (by omega)
      obtain ⟨y1, g1⟩ := HM1.out.cell (k * 4 + 1) (by omega)
      obtain ⟨y2, g2⟩ := HM1.out.cell (k * 4 + 2) (by omega)
      obtain ⟨y3, g3⟩ := HM1.out.cell (k * 4 + 3) (by omega)
      have f0 := HM1.out.frozen (k * 4)
      have f1 := HM1.out.frozen (k * 4 + 1)
      have f2 := HM1.out.frozen (k * 4 + 2)
      have f3 := HM1.out.frozen (k * 4 + 3)
      have HP := Lib.hid (HM1.out.push hel.symm hlt x)
      have hb2 := (((hw1.setCell (p := ⟨w.heap.size, k * 4, none⟩) (Nat.le_refl _) (.int .i64 x.thread)).setCell (p := ⟨w.heap.size, k * 4 + 1, none⟩) (Nat.le_refl _) (.int .i64 x.kind)).setCell (p := ⟨w.heap.size, k * 4 + 2, none⟩) (Nat.le_refl _) (.int .i64 x.obj)).setCell (p := ⟨w.heap.size, k * 4 + 3, none⟩) (Nat.le_refl _) (.bool x.fail)
      clear hx HM HM1 hb hb1 hw1 bc hix
      go_wp2_with fail
      generalize ((((w1.setCell ⟨w.heap.size, k * 4, none⟩ (.int .i64 x.thread)).setCell ⟨w.heap.size, k * 4 + 1, none⟩ (.int .i64 x.kind)).setCell ⟨w.heap.size, k * 4 + 2, none⟩ (.int .i64 x.obj)).setCell ⟨w.heap.size, k * 4 + 3, none⟩ (.bool x.fail)) = W2 at *
      refine (evRight_any x _).mono ?_
      rintro r w3 ⟨rfl, hb3⟩
      have HP3 := Lib.hid (HP.out.later hb3)
      have hw3 : Below w.heap.size w w3 := hb2.trans (hb3.mono hb2.size)
      clear HP hb2 hb3 g0 g1 g2 g3 f0 f1 f2 f3
      cases hr : rightEv x
      · have HR := Lib.hid (readE_no HX.out (by rw [HV.out]; exact hr))
        clear hr
        go_wp2
        go_ret2
        exact readPostO_no HR.out hw3
      · have HR := Lib.hid hr
        clear hr
        go_wp2
        go_roundw
        case rel => exact ⟨k + 1, es ++ [x], by omega, by go_num, by simp; omega, (by show _ = _; rw [HT.out, HE.out]), (by show _ = _; rw [List.all_append, HA.out]; simp [HR.out]), HP3, hw3⟩
        case measure => simp [intOf]; omega
    · obtain rfl : k = s.length := by omega
      have HR : Hid (es = evsOf s) := by
        have h := HE.out
        rw [List.take_length] at h
        exact h
      go_wp2
      go_ret2
      exact readPostO_yes (by rw [← HR.out]; exact HA.out) _ _ _ rfl (by rw [← HR.out]; exact HM.out.own hel (by omega)) hb

set_option maxRecDepth 100000 in
set_option maxHeartbeats 1000000 in
theorem refEvReadO_any (s : List UInt8) (w : World) (hm : s.length ≤ 1000000) :
    Calls Try.prog 28 #[.string ⟨s.toArray⟩] w (ReadPostO w.heap.size w s (.bool false) (.bool true)) := by
  have hsz : (⟨s.toArray⟩ : ByteArray).size = s.length := rfl
  go_enter Try.func28, Try.ntmps28
  go_wp2
  go_loopw [4, 5] (fun v i wr => ∃ (k : Nat) (es : List Ev), k ≤ s.length ∧ i = .int .i64 k ∧ es.length = k ∧ Hid (es = evsOf (s.take k)) ∧ Hid (es.all rightEv = true) ∧ Hid (OwnE wr w.heap.size v es) ∧ Below w.heap.size w wr) (fun _ i _ => s.length - (intOf i).toNat)
  case atStart => exact ⟨0, [], Nat.zero_le _, rfl, rfl, rfl, rfl, ownE_nil _ _, Below.refl _ _⟩
  case round =>
    obtain ⟨k, es, hk, rfl, hel, HE, HA, HM, hb⟩ := hrel
    by_cases hlt : k < s.length
    · have HT0 := evsOf_take s k hlt
      have HX0 := List.getElem_mem hlt
      obtain ⟨c, hc⟩ : ∃ c, s[k] = c := ⟨_, rfl⟩
      rw [hc] at HT0 HX0
      have HT := Lib.hid HT0
      have HX := Lib.hid HX0
      have hix : ∀ h : k < (⟨s.toArray⟩ : ByteArray).size, (⟨s.toArray⟩ : ByteArray)[k] = c := fun _ => hc
      clear HT0 HX0 hc
      have bc := UInt8.toNat_lt c
      have vc : IntKind.i64.wrap (c.toNat : Int) = c.toNat := IntWalk.i64_in _ (by omega)
      go_wp2_with fail
      obtain ⟨x, h0, h1, h2, h3, hx⟩ : ∃ x : Ev, (c.toNat : Int) % 4 = x.thread ∧ (c.toNat : Int) / 4 % 8 = x.kind ∧ (c.toNat : Int) / 32 % 4 = x.obj ∧ decide ((128 : Int) ≤ c.toNat) = x.fail ∧ evOf c.toNat = x := ⟨evOf c.toNat, rfl, rfl, rfl, rfl, rfl⟩
      simp only [h0, h1, h2, h3]
      have hx2 := HT.out
      rw [hx] at hx2
      have HT2 := Lib.hid hx2
      have HV := Lib.hid hx
      clear hx hx2 HT h0 h1 h2 h3 vc bc hix
      have HB1 := Lib.hid (EvBox.new wr x)
      have HM1 := Lib.hid (HM.out.alloc (.cells #[.int .i64 x.thread, .int .i64 x.kind, .int .i64 x.obj, .bool x.fail] 39))
      have hb1 : Below w.heap.size w (wr.alloc (.cells #[.int .i64 x.thread, .int .i64 x.kind, .int .i64 x.obj, .bool x.fail] 39)) := hb.alloc hb.size _
      clear HM hb
      generalize wr.alloc (.cells #[.int .i64 x.thread, .int .i64 x.kind, .int .i64 x.obj, .bool x.fail] 39) = W1 at *
      generalize wr.heap.size = E at *
      refine (refEvRight_any x _).mono ?_
      rintro r w2 ⟨rfl, hb2⟩
      have HB2 := Lib.hid (HB1.out.later hb2)
      have hown2 := HM1.out.later hb2
      have hw2 : Below w.heap.size w w2 := hb1.trans (hb2.mono hb1.size)
      clear HB1 HM1 hb1 hb2
      obtain ⟨x0, x1, x2, x3⟩ := HB2.out.cells
      have lx := HB2.out.lt
      have hz := hw2.size
      cases hr : rightEv x
      · have HR := Lib.hid (readE_no HX.out (by rw [HV.out]; exact hr))
        clear hr HB2
        go_wp2
        go_ret2
        exact readPostO_no HR.out hw2
      · have HR := Lib.hid hr
        clear hr HB2
        go_wp2_with (at_builtin; refine wp_appendE rfl (.tmp 32) (.tmp 34) rfl w.heap.size _ es rfl (hown2.alloc _) ⟨w2.heap.size, 0, none⟩ rfl x (ev_new w2 x _ _ rfl) (by omega) (by simp; omega) ?_; intro v1 w4 hown4 hb4)
        have hb5 := (hw2.alloc hz _).trans hb4
        have HO4 := Lib.hid hown4
        clear hown4
        go_roundw
        case rel => exact ⟨k + 1, es ++ [x], by omega, by go_num, by simp; omega, (by show _ = _; rw [HT2.out, HE.out]), (by show _ = _; rw [List.all_append, HA.out]; simp [HR.out]), HO4, hb5⟩
        case measure => simp [intOf]; omega
    · obtain rfl : k = s.length := by omega
      have HR : Hid (es = evsOf s) := by
        have h := HE.out
        rw [List.take_length] at h
        exact h
      obtain ⟨a', cap', rfl, hn⟩ := HM.out.form (by omega)
      clear hn
      go_wp2
      go_ret2
      exact readPostO_yes (by rw [← HR.out]; exact HA.out) _ _ _ hel (by rw [← HR.out]; exact HM.out) hb

end Go.Proofs.Ytljlaopjimkcmaa
