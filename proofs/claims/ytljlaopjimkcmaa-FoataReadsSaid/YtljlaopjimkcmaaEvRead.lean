/- The contracts of event's Read and of the document's. -/
import Derived.Test.YtljlaopjimkcmaaEvByte
import Derived.Test.YtljlaopjimkcmaaEvBox
import Derived.Test.YtljlaopjimkcmaaMem
import Derived.Test.YtljlaopjimkcmaaBytes
import Derived.Test.YtljlaopjimkcmaaMidRow
namespace Go.Proofs.Ytljlaopjimkcmaa
open Go.RowKit

/-- The events of bytes, whether they may be or not. -/
def evsOf (s : List UInt8) : List Ev := s.map fun b => evOf b.toNat
def readOk (s : List UInt8) : Bool := (evsOf s).all rightEv
def readE (s : List UInt8) : List Ev := if readOk s then evsOf s else []

theorem set4 (pre zs : List Value) (z0 z1 z2 z3 v0 v1 v2 v3 : Value) (n : Nat) (hn : n = pre.length) :
    ((((pre ++ z0 :: z1 :: z2 :: z3 :: zs).set n v0).set (n + 1) v1).set (n + 2) v2).set (n + 3) v3 = pre ++ v0 :: v1 :: v2 :: v3 :: zs := by
  subst hn
  rw [List.set_append_right _ _ (by omega), List.set_append_right _ _ (by omega), List.set_append_right _ _ (by omega), List.set_append_right _ _ (by omega)]
  rw [show pre.length - pre.length = 0 by omega, show pre.length + 1 - pre.length = 1 by omega, show pre.length + 2 - pre.length = 2 by omega, show pre.length + 3 - pre.length = 3 by omega]
  rfl

/-- In the middle of reading: the block g has n events' room, the first ones are es. -/
def ERow (w : World) (g n : Nat) (es : List Ev) : Prop := es.length ≤ n ∧ ∃ zs : List Value, zs.length = (n - es.length) * 4 ∧ MidAt w g 39 (evCells es ++ zs)
theorem ERow.lt {w : World} {g n : Nat} {es : List Ev} (h : ERow w g n es) : g < w.heap.size := by obtain ⟨_, _, _, h⟩ := h; exact h.lt
theorem ERow.later {w w' : World} {g n : Nat} {es : List Ev} (h : ERow w g n es) (hb : Below w.heap.size w w') : ERow w' g n es := by
  obtain ⟨h1, zs, h2, h3⟩ := h
  exact ⟨h1, zs, h2, h3.later hb⟩
theorem ERow.frozen {w : World} {g n : Nat} {es : List Ev} (h : ERow w g n es) (j : Nat) : w.frozen? ⟨g, j, none⟩ = false := by obtain ⟨_, _, _, h⟩ := h; exact h.frozen j
theorem ERow.cell {w : World} {g n : Nat} {es : List Ev} (h : ERow w g n es) (j : Nat) (hj : j < n * 4) : ∃ v, w.cell? ⟨g, j, none⟩ = some v := by
  obtain ⟨h1, zs, h2, h3⟩ := h
  rw [h3.cell]
  exact ⟨_, List.getElem?_eq_getElem (by rw [List.length_append, evCells_length, h2, ← Nat.add_mul]; omega)⟩
theorem ERow.push {w : World} {g n k : Nat} {es : List Ev} (h : ERow w g n es) (hk : k = es.length) (hlt : k < n) (x : Ev) :
    ERow ((((w.setCell ⟨g, k * 4, none⟩ (.int .i64 x.thread)).setCell ⟨g, k * 4 + 1, none⟩ (.int .i64 x.kind)).setCell ⟨g, k * 4 + 2, none⟩ (.int .i64 x.obj)).setCell ⟨g, k * 4 + 3, none⟩ (.bool x.fail)) g n (es ++ [x]) := by
  obtain ⟨h1, zs, h2, h3⟩ := h
  subst hk
  match zs, h2 with
  | z0 :: z1 :: z2 :: z3 :: zs, h2 =>
    refine ⟨by simp; omega, zs, by simp at h2 ⊢; omega, ?_⟩
    have := (((h3.set (es.length * 4) (.int .i64 x.thread)).set (es.length * 4 + 1) (.int .i64 x.kind)).set (es.length * 4 + 2) (.int .i64 x.obj)).set (es.length * 4 + 3) (.bool x.fail)
    rw [set4 _ _ _ _ _ _ _ _ _ _ _ (by rw [evCells_length])] at this
    rw [evCells_append, List.append_assoc]
    exact this
  | [], h2 => simp at h2; omega
  | [_], h2 => simp at h2; omega
  | [_, _], h2 => simp at h2; omega
  | [_, _, _], h2 => simp at h2; omega
theorem ERow.made (w : World) (n : Nat) : ERow (w.alloc (.cells (madeCells #[.int .i64 0, .int .i64 0, .int .i64 0, .bool false] (n * 4)) 39)) w.heap.size n [] := by
  refine ⟨Nat.zero_le _, (madeCells #[.int .i64 0, .int .i64 0, .int .i64 0, .bool false] (n * 4)).toList, by simp [size_madeCells], ?_⟩
  have := heap_alloc_new w (.cells (madeCells #[.int .i64 0, .int .i64 0, .int .i64 0, .bool false] (n * 4)) 39)
  unfold MidAt
  rw [this]
  simp [evCells]
theorem ERow.evs {w : World} {g n : Nat} {es : List Ev} (h : ERow w g n es) (hm : es.length ≤ 1000000) : EvsAt w (some ⟨g, 0, none⟩) es := by
  obtain ⟨h1, zs, h2, h3⟩ := h
  have hcell : ∀ j u, (evCells es)[j]? = some u → w.cell? ⟨g, j, none⟩ = some u := by
    intro j u hj
    rw [h3.cell, List.getElem?_append_left (List.getElem?_eq_some_iff.1 hj).1]
    exact hj
  refine ⟨by unfold maxLen; omega, fun _ => ⟨g, 0, rfl, fun i hi => ?_⟩⟩
  simp only [Nat.zero_add]
  exact ⟨hcell _ _ (evCells_get es i 0 hi (by omega)), hcell _ _ (evCells_get es i 1 hi (by omega)), hcell _ _ (evCells_get es i 2 hi (by omega)), hcell _ _ (evCells_get es i 3 hi (by omega))⟩

theorem readE_no {s : List UInt8} {b : UInt8} (hb : b ∈ s) (h : rightEv (evOf b.toNat) = false) : readOk s = false ∧ readE s = [] := by
  have h1 : readOk s = false := by
    unfold readOk evsOf
    rw [List.all_eq_false]
    exact ⟨_, List.mem_map.2 ⟨b, hb, rfl⟩, by simp [h]⟩
  refine ⟨h1, ?_⟩
  unfold readE
  rw [h1]
  rfl

def ReadPost (B : Nat) (w : World) (s : List UInt8) (bad : Value) (good : Value) (r : Ending) (w' : World) : Prop :=
  ∃ a cap, r = .returned (.tuple #[.slice a (readE s).length cap, if readOk s then good else bad]) ∧ EvsAt w' a (readE s) ∧ Below B w w'

theorem readPost_no {B : Nat} {w w' : World} {s : List UInt8} {bad good : Value} (h : readOk s = false ∧ readE s = []) (hb : Below B w w') : ReadPost B w s bad good (.returned (.tuple #[.slice none 0 0, bad])) w' :=
  ⟨none, 0, by rw [h.1, h.2]; rfl, by rw [h.2]; exact evsAt_nil _ _, hb⟩
theorem readPost_yes {B : Nat} {w w' : World} {s : List UInt8} {bad good : Value} (h : (evsOf s).all rightEv = true) (a : Option Addr) (n cap : Nat) (hn : n = s.length) (he : EvsAt w' a (evsOf s)) (hb : Below B w w') : ReadPost B w s bad good (.returned (.tuple #[.slice a n cap, good])) w' := by
  have h1 : readOk s = true := h
  have h2 : readE s = evsOf s := by unfold readE; rw [h1]; rfl
  refine ⟨a, cap, ?_, by rw [h2]; exact he, hb⟩
  rw [h1, h2, hn]
  simp [evsOf]

theorem evsOf_take (s : List UInt8) (k : Nat) (h : k < s.length) : evsOf (s.take (k + 1)) = evsOf (s.take k) ++ [evOf s[k].toNat] := by
  unfold evsOf
  rw [List.take_succ_eq_append_getElem h, List.map_append]
  rfl

set_option maxRecDepth 100000 in
set_option maxHeartbeats 1000000 in
theorem evRead_any (s : List UInt8) (w : World) (hm : s.length ≤ 1000000) :
    Calls Try.prog 39 #[.string ⟨s.toArray⟩] w (ReadPost w.heap.size w s (.int .i64 3) (.int .i64 0)) := by
  have hmk := run_make_k (P := Try.prog) 22 39 (.agg #[.int .i64 0, .int .i64 0, .int .i64 0, .bool false]) 4 32 Try.underlying22 (by kernel_rfl) s.length (by omega) (by omega)
  have hsz : (⟨s.toArray⟩ : ByteArray).size = s.length := rfl
  go_enter Try.func39, Try.ntmps39
  go_wp2
  go_loopw [11] (fun i wr => ∃ (k : Nat) (es : List Ev), k ≤ s.length ∧ i = .int .i64 k ∧ es.length = k ∧ Hid (es = evsOf (s.take k)) ∧ Hid (es.all rightEv = true) ∧ Hid (ERow wr w.heap.size s.length es) ∧ Below w.heap.size w wr) (fun i _ => s.length - (intOf i).toNat)
  case atStart =>
    refine ⟨0, [], Nat.zero_le _, rfl, rfl, rfl, rfl, ?_, below_alloc1 _ _⟩
    exact ERow.made w s.length
  case round =>
    clear hmk
    obtain ⟨k, es, hk, rfl, hel, HE, HA, HM, hb⟩ := hrel
    by_cases hlt : k < s.length
    · have hz := HM.out.lt
      have HT0 := evsOf_take s k hlt
      have HX0 := List.getElem_mem hlt
      obtain ⟨c, hc⟩ : ∃ c, s[k] = c := ⟨_, rfl⟩
      rw [hc] at HT0 HX0
      have HT := Lib.hid HT0
      have HX := Lib.hid HX0
      have hix : ∀ h : k < (⟨s.toArray⟩ : ByteArray).size, (⟨s.toArray⟩ : ByteArray)[k] = c := fun _ => hc
      clear HT0 HX0 hc
      have bc := UInt8.toNat_lt c
      go_wp2_with fail
      refine (fromByte_any c.toNat (by omega) (by omega) _).mono ?_
      rintro r w1 ⟨rfl, hb1⟩
      generalize hx : evOf c.toNat = x at *
      have HV := Lib.hid hx
      have HM1 := Lib.hid (HM.out.later hb1)
      have hw1 : Below w.heap.size w w1 := hb.trans (hb1.mono hb.size)
      obtain ⟨y0, g0⟩ := HM1.out.cell (k * 4) (by omega)
      obtain ⟨y1, g1⟩ := HM1.out.cell (k * 4 + 1) (by omega)
      obtain ⟨y2, g2⟩ := HM1.out.cell (k * 4 + 2) (by omega)
      obtain ⟨y3, g3⟩ := HM1.out.cell (k * 4 + 3) (by omega)
      have f0 := HM1.out.frozen (k * 4)
      have f1 := HM1.out.frozen (k * 4 + 1)
      have f2 := HM1.out.frozen (k * 4 + 2)
      have f3 := HM1.out.frozen (k * 4 + 3)
      have HP := Lib.hid (HM1.out.push hel.symm hlt x)
      have hb2 := (((hw1.setCell (p := ⟨w.heap.size, k * 4, none⟩) (Nat.le_refl _) (.int .i64 x.thread)).setCell (p := ⟨w.heap.size, k * 4 + 1, none⟩) (Nat.le_refl _) (.int .i64 x.kind)).setCell (p := ⟨w.heap.size, k * 4 + 2, none⟩) (Nat.le_refl _) (.int .i64 x.obj)).setCell (p := ⟨w.heap.size, k * 4 + 3, none⟩) (Nat.le_refl _) (.bool x.fail)
      clear hx HM HM1 hb hb1 hw1 bc hix
      go_wp2_with fail
      generalize ((((w1.setCell ⟨w.heap.size, k * 4, none⟩ (.int .i64 x.thread)).setCell ⟨w.heap.size, k * 4 + 1, none⟩ (.int .i64 x.kind)).setCell ⟨w.heap.size, k * 4 + 2, none⟩ (.int .i64 x.obj)).setCell ⟨w.heap.size, k * 4 + 3, none⟩ (.bool x.fail)) = W2 at *
      refine (evRight_any x _).mono ?_
      rintro r w3 ⟨rfl, hb3⟩
      have HP3 := Lib.hid (HP.out.later hb3)
      have hw3 : Below w.heap.size w w3 := hb2.trans (hb3.mono hb2.size)
      clear HP hb2 hb3 g0 g1 g2 g3 f0 f1 f2 f3
      cases hr : rightEv x
      · have HR := Lib.hid (readE_no HX.out (by rw [HV.out]; exact hr))
        clear hr
        go_wp2
        go_ret2
        exact readPost_no HR.out hw3
      · have HR := Lib.hid hr
        clear hr
        go_wp2
        go_roundw
        case rel => exact ⟨k + 1, es ++ [x], by omega, by go_num, by simp; omega, (by show _ = _; rw [HT.out, HE.out]), (by show _ = _; rw [List.all_append, HA.out]; simp [HR.out]), HP3, hw3⟩
        case measure => simp [intOf]; omega
    · obtain rfl : k = s.length := by omega
      have HR : Hid (es = evsOf s) := by
        have h := HE.out
        rw [List.take_length] at h
        exact h
      go_wp2
      go_ret2
      exact readPost_yes (by rw [← HR.out]; exact HA.out) _ _ _ rfl (by rw [← HR.out]; exact HM.out.evs (by omega)) hb

set_option maxRecDepth 100000 in
set_option maxHeartbeats 1000000 in
theorem refEvRead_any (s : List UInt8) (w : World) (hm : s.length ≤ 1000000) :
    Calls Try.prog 28 #[.string ⟨s.toArray⟩] w (ReadPost w.heap.size w s (.bool false) (.bool true)) := by
  have hsz : (⟨s.toArray⟩ : ByteArray).size = s.length := rfl
  go_enter Try.func28, Try.ntmps28
  go_wp2
  go_loopw [4, 5] (fun v i wr => ∃ (k : Nat) (es : List Ev), k ≤ s.length ∧ i = .int .i64 k ∧ es.length = k ∧ Hid (es = evsOf (s.take k)) ∧ Hid (es.all rightEv = true) ∧ Hid (OwnE wr w.heap.size v es) ∧ Below w.heap.size w wr) (fun _ i _ => s.length - (intOf i).toNat)
  case atStart => exact ⟨0, [], Nat.zero_le _, rfl, rfl, rfl, rfl, ownE_nil _ _, Below.refl _ _⟩
  case round =>
    obtain ⟨k, es, hk, rfl, hel, HE, HA, HM, hb⟩ := hrel
    by_cases hlt : k < s.length
    · have HT0 := evsOf_take s k hlt
      have HX0 := List.getElem_mem hlt
      obtain ⟨c, hc⟩ : ∃ c, s[k] = c := ⟨_, rfl⟩
      rw [hc] at HT0 HX0
      have HT := Lib.hid HT0
      have HX := Lib.hid HX0
      have hix : ∀ h : k < (⟨s.toArray⟩ : ByteArray).size, (⟨s.toArray⟩ : ByteArray)[k] = c := fun _ => hc
      clear HT0 HX0 hc
      have bc := UInt8.toNat_lt c
      have vc : IntKind.i64.wrap (c.toNat : Int) = c.toNat := IntWalk.i64_in _ (by omega)
      go_wp2_with fail
      obtain ⟨x, h0, h1, h2, h3, hx⟩ : ∃ x : Ev, (c.toNat : Int) % 4 = x.thread ∧ (c.toNat : Int) / 4 % 8 = x.kind ∧ (c.toNat : Int) / 32 % 4 = x.obj ∧ decide ((128 : Int) ≤ c.toNat) = x.fail ∧ evOf c.toNat = x := ⟨evOf c.toNat, rfl, rfl, rfl, rfl, rfl⟩
      simp only [h0, h1, h2, h3]
      have hx2 := HT.out
      rw [hx] at hx2
      have HT2 := Lib.hid hx2
      have HV := Lib.hid hx
      clear hx hx2 HT h0 h1 h2 h3 vc bc hix
      have HB1 := Lib.hid (EvBox.new wr x)
      have HM1 := Lib.hid (HM.out.alloc (.cells #[.int .i64 x.thread, .int .i64 x.kind, .int .i64 x.obj, .bool x.fail] 39))
      have hb1 : Below w.heap.size w (wr.alloc (.cells #[.int .i64 x.thread, .int .i64 x.kind, .int .i64 x.obj, .bool x.fail] 39)) := hb.alloc hb.size _
      clear HM hb
      generalize wr.alloc (.cells #[.int .i64 x.thread, .int .i64 x.kind, .int .i64 x.obj, .bool x.fail] 39) = W1 at *
      generalize wr.heap.size = E at *
      refine (refEvRight_any x _).mono ?_
      rintro r w2 ⟨rfl, hb2⟩
      have HB2 := Lib.hid (HB1.out.later hb2)
      have hown2 := HM1.out.later hb2
      have hw2 : Below w.heap.size w w2 := hb1.trans (hb2.mono hb1.size)
      clear HB1 HM1 hb1 hb2
      obtain ⟨x0, x1, x2, x3⟩ := HB2.out.cells
      have lx := HB2.out.lt
      have hz := hw2.size
      cases hr : rightEv x
      · have HR := Lib.hid (readE_no HX.out (by rw [HV.out]; exact hr))
        clear hr HB2
        go_wp2
        go_ret2
        exact readPost_no HR.out hw2
      · have HR := Lib.hid hr
        clear hr HB2
        go_wp2_with (at_builtin; refine wp_appendE rfl (.tmp 32) (.tmp 34) rfl w.heap.size _ es rfl (hown2.alloc _) ⟨w2.heap.size, 0, none⟩ rfl x (ev_new w2 x _ _ rfl) (by omega) (by simp; omega) ?_; intro v1 w4 hown4 hb4)
        have hb5 := (hw2.alloc hz _).trans hb4
        have HO4 := Lib.hid hown4
        clear hown4
        go_roundw
        case rel => exact ⟨k + 1, es ++ [x], by omega, by go_num, by simp; omega, (by show _ = _; rw [HT2.out, HE.out]), (by show _ = _; rw [List.all_append, HA.out]; simp [HR.out]), HO4, hb5⟩
        case measure => simp [intOf]; omega
    · obtain rfl : k = s.length := by omega
      have HR : Hid (es = evsOf s) := by
        have h := HE.out
        rw [List.take_length] at h
        exact h
      obtain ⟨a', cap', rfl, hn⟩ := HM.out.form (by omega)
      have HN := Lib.hid hn
      clear hn
      go_wp2
      go_ret2
      exact readPost_yes (by rw [← HR.out]; exact HA.out) _ _ _ hel (by rw [← HR.out]; exact HN.out) hb

end Go.Proofs.Ytljlaopjimkcmaa
