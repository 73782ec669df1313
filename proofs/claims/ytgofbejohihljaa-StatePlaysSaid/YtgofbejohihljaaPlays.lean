/- StatePlays: whatever threads step, in whatever order, what the program tells is what the document says. -/
import Derived.Test.YtgofbejohihljaaRefReplay
import Derived.Test.YtgofbejohihljaaWake
import Derived.Test.YtgofbejohihljaaFew
import Derived.Test.YtgofbejohihljaaQuiet
import Derived.Test.YtgofbejohihljaaCopyState
namespace Go.Proofs.Ytgofbejohihljaa
open Go.RowKit

theorem evR_get (o : Option Ev) : evR o = .tuple #[.agg #[.int .i64 (o.getD ev0).thread, .int .i64 (o.getD ev0).kind, .int .i64 (o.getD ev0).obj, .bool (o.getD ev0).fail], .bool o.isSome] := rfl
theorem EvBox.only2 {w w' : World} {b c g : Nat} {e : Ev} (h : EvBox w g e) (ho : Only2 b c w w') (hb : g ≠ b) (hc : g ≠ c) : EvBox w' g e := (ho.block g h.lt hb hc).trans h
def PBox (w : World) (g : Nat) (p : Pg) (a : Option Addr) (cap : Nat) : Prop := w.heap[g]? = some (.cells #[.int .i64 p.vars, .int .i64 p.mutexes, .slice a p.threads.length cap] 24 (0, 0))
theorem PBox.lt {w : World} {g : Nat} {p : Pg} {a : Option Addr} {cap : Nat} (h : PBox w g p a cap) : g < w.heap.size := (Array.getElem?_eq_some_iff.1 h).1
theorem PBox.later {w w' : World} {g : Nat} {p : Pg} {a : Option Addr} {cap : Nat} (h : PBox w g p a cap) (hb : Below w.heap.size w w') : PBox w' g p a cap := (hb.block g h.lt).trans h
theorem PBox.only {w w' : World} {g b : Nat} {p : Pg} {a : Option Addr} {cap : Nat} (h : PBox w g p a cap) (ho : Only b w w') (hb : g ≠ b) : PBox w' g p a cap := (ho.block g h.lt hb).trans h
theorem PBox.only2 {w w' : World} {g b c : Nat} {p : Pg} {a : Option Addr} {cap : Nat} (h : PBox w g p a cap) (ho : Only2 b c w w') (hb : g ≠ b) (hc : g ≠ c) : PBox w' g p a cap := (ho.block g h.lt hb hc).trans h

set_option maxRecDepth 100000 in
set_option maxHeartbeats 4000000 in
theorem plays_any (p : Pg) (a : Option Addr) (cap : Nat) (fuel : Int) (ra : Option Addr) (rcap : Nat) (row : List Int) (w : World) (hp : ThreadsAt w a p.threads) (hrow : NumsAt w ra row) :
    Calls Try.prog 3 #[.agg #[.int .i64 p.vars, .int .i64 p.mutexes, .slice a p.threads.length cap], .int .i64 fuel, .slice ra row.length rcap] w fun r w' => r = .returned (.bool true) ∧ Below w.heap.size w w' := by
  have hrm := hrow.1
  unfold maxLen at hrm
  have HP := Lib.hid hp
  have HROW := Lib.hid hrow
  clear hp hrow
  go_enter Try.func3, Try.ntmps3
  go_wp2_with fail
  refine (awake_any _).mono ?_
  rintro r w1 ⟨rfl, hb1⟩
  have hc1 : ∀ o, w1.cell? ⟨w.heap.size, o, none⟩ = (w.alloc (.cells #[.int .i64 p.vars, .int .i64 p.mutexes, .slice a p.threads.length cap] 24)).cell? ⟨w.heap.size, o, none⟩ := fun o => hb1.cell (p := ⟨w.heap.size, o, none⟩) (by simp)
  have hw1 : Below w.heap.size w w1 := (below_alloc1 w _).trans (hb1.mono (by simp))
  have hz1 : w.heap.size < w1.heap.size := by have := hb1.size; simp at this; omega
  have HX1 : Hid (w1.heap[w.heap.size]? = some (.cells #[.int .i64 p.vars, .int .i64 p.mutexes, .slice a p.threads.length cap] 24 (0, 0))) := (hb1.block _ (by simp)).trans (heap_alloc_new w _)
  clear hb1
  go_wp2_with fail
  refine (few_any p a cap w1 (HP.out.later hw1)).mono ?_
  rintro r w2 ⟨rfl, hb2⟩
  have hc2 : ∀ o, w2.cell? ⟨w.heap.size, o, none⟩ = w1.cell? ⟨w.heap.size, o, none⟩ := fun o => hb2.cell (p := ⟨w.heap.size, o, none⟩) hz1
  have hw2 : Below w.heap.size w w2 := hw1.trans (hb2.mono hw1.size)
  have hz2 : w.heap.size < w2.heap.size := by have := hb2.size; omega
  have HX2 : Hid (w2.heap[w.heap.size]? = some (.cells #[.int .i64 p.vars, .int .i64 p.mutexes, .slice a p.threads.length cap] 24 (0, 0))) := (hb2.block _ hz1).trans HX1.out
  clear hb2 HX1
  cases hf : fewPg p
  · clear hf hc1 hc2
    go_wp2_with fail
    refine (awake_any _).mono ?_
    rintro r w3 ⟨rfl, hb3⟩
    have hw3 : Below w.heap.size w w3 := hw2.trans (hb3.mono hw2.size)
    go_wp2
    go_ret
    exact ⟨rfl, hw3⟩
  clear hf
  by_cases hN : 100 < row.length
  · clear hc1 hc2
    go_wp2_with fail
    refine (awake_any _).mono ?_
    rintro r w3 ⟨rfl, hb3⟩
    have hw3 : Below w.heap.size w w3 := hw2.trans (hb3.mono hw2.size)
    go_wp2
    go_ret
    exact ⟨rfl, hw3⟩
  by_cases hgood : rightPg p = true ∧ 0 ≤ fuel ∧ fuel ≤ 8
  case neg =>
    have HGD := Lib.hid hgood
    clear hgood
    go_wp2_with fail
    refine (new_any p a cap fuel w2 (HP.out.later hw2)).mono ?_
    rintro r w3 hr
    unfold NewR at hr
    rw [if_neg HGD.out] at hr
    obtain ⟨rfl, hb3⟩ := hr
    have hw3 : Below w.heap.size w w3 := hw2.trans (hb3.mono hw2.size)
    have hc3 : ∀ o, w3.cell? ⟨w.heap.size, o, none⟩ = w2.cell? ⟨w.heap.size, o, none⟩ := fun o => hb3.cell (p := ⟨w.heap.size, o, none⟩) hz2
    clear hb3
    go_wp2_with fail
    refine (refNew_no p a cap fuel w3 (HP.out.later hw3) HGD.out).mono ?_
    rintro r w4 ⟨rfl, hb4⟩
    have hw4 : Below w.heap.size w w4 := hw3.trans (hb4.mono hw3.size)
    clear hb4 hc1 hc2 hc3
    go_wp2
    go_ret
    exact ⟨rfl, hw4⟩
  obtain ⟨hr1, hf0, hf8⟩ := hgood
  obtain ⟨F, rfl⟩ : ∃ F : Nat, fuel = F := ⟨fuel.toNat, by omega⟩
  have HR1 := Lib.hid hr1
  clear hr1
  go_wp2_with fail
  refine (new_yes p a cap F w2 (HP.out.later hw2) HR1.out (by omega)).mono ?_
  rintro r w3 ⟨g, rfl, hg, hs, hb3⟩
  have hw3 : Below w.heap.size w w3 := hw2.trans (hb3.mono hw2.size)
  have hc3 : ∀ o, w3.cell? ⟨w.heap.size, o, none⟩ = w2.cell? ⟨w.heap.size, o, none⟩ := fun o => hb3.cell (p := ⟨w.heap.size, o, none⟩) hz2
  have HX3 : Hid (PBox w3 w.heap.size p a cap) := PBox.later HX2.out hb3
  have HS3 := Lib.hid hs
  have hg3 := hs.lt
  have hz3 : w.heap.size < w3.heap.size := HX3.out.lt
  clear hb3 hs HX2
  go_wp2_with fail
  refine (refNew_yes p a cap F w3 (HP.out.later hw3) HR1.out (by omega)).mono ?_
  rintro r w4 ⟨b, tb, tcap, rfl, hgb, hgt, hrf, hb4⟩
  have hw4 : Below w.heap.size w w4 := hw3.trans (hb4.mono hw3.size)
  have HX4 := Lib.hid (HX3.out.later hb4)
  have HS4 := Lib.hid (HS3.out.later hb4)
  have HR4 := Lib.hid hrf
  have HOK := Lib.hid (new_ok HR1.out F (by omega))
  have hbt := hrf.2.1
  have hgw : w.heap.size < g := by omega
  clear hb4 hrf hc1 hc2 hc3 HS3 HX3
  have nbg : b ≠ g := by omega
  have ntg : tb ≠ g := by omega
  have hwb : w.heap.size < b := by omega
  have hwt : w.heap.size < tb := by omega
  go_wp2_with fail
  go_loopw [62] (fun i wr => ∃ (k : Nat) (s : St), k ≤ row.length ∧ i = .int .i64 k ∧ StAt wr g s ∧ RefAt wr b tb a cap tcap s ∧ s.Ok F ∧ Hid (s.p = p) ∧ Below w.heap.size w wr ∧ PBox wr w.heap.size p a cap) (fun i _ => row.length - (intOf i).toNat)
  case atStart => exact ⟨0, _, Nat.zero_le _, rfl, HS4.out, HR4.out, HOK.out, rfl, hw4, HX4.out⟩
  case round =>
    clear hw4 HS4 HR4 HOK HX4
    obtain ⟨k, s, hk, rfl, hs, hrf, ok, HSP, hb, hpx⟩ := hrel
    have HS0 := Lib.hid hs
    have HR0 := Lib.hid hrf
    have HX0 := Lib.hid hpx
    have OK := Lib.hid ok
    have hgr := hs.lt
    have hl4 := ok.len4
    clear hs hrf ok hpx
    by_cases hlt : k < row.length
    · obtain ⟨rb, ro, rfl, hc⟩ := HROW.out.2 (by intro e; simp [e] at hlt)
      have d0 := cell_later hb (hc k hlt)
      have HB0 := Lib.hid hb
      clear hc hb
      generalize row[k] = t at *
      go_wp2_with fail
      refine (next_any HS0.out OK.out t).mono ?_
      rw [evR_get]
      rintro r u1 ⟨rfl, hbu1⟩
      have HS1 := Lib.hid (HS0.out.later hbu1)
      have HR1 := Lib.hid (HR0.out.later hbu1)
      have HX1 := Lib.hid (HX0.out.later hbu1)
      have HB1 := Lib.hid (HB0.out.trans (Below.mono hbu1 HB0.out.size))
      clear HS0 HR0 HX0 HB0
      clear hbu1 d0
      have hba := below_alloc1 u1 (.cells #[.int .i64 ((s.next t).getD ev0).thread, .int .i64 ((s.next t).getD ev0).kind, .int .i64 ((s.next t).getD ev0).obj, .bool ((s.next t).getD ev0).fail] 35)
      have HS2 := Lib.hid (HS1.out.later hba)
      have HR2 := Lib.hid (HR1.out.later hba)
      have HX2 := Lib.hid (HX1.out.later hba)
      have HB2 := Lib.hid (HB1.out.trans (Below.mono hba HB1.out.size))
      clear HS1 HR1 HX1 HB1
      have E1_2 := Lib.hid (EvBox.new u1 ((s.next t).getD ev0))
      clear hba
      go_wp2_with fail
      refine (refNext_any HR2.out (by rw [HSP.out]; exact HP.out.later HB2.out) OK.out t).mono ?_
      rw [evR_get]
      rintro r u2 ⟨rfl, hbu2⟩
      have HS3 := Lib.hid (HS2.out.later hbu2)
      have HR3 := Lib.hid (HR2.out.later hbu2)
      have HX3 := Lib.hid (HX2.out.later hbu2)
      have HB3 := Lib.hid (HB2.out.trans (Below.mono hbu2 HB2.out.size))
      have E1_3 := Lib.hid (E1_2.out.later hbu2)
      clear HS2 HR2 HX2 HB2 E1_2
      clear hbu2
      have hba := below_alloc1 u2 (.cells #[.int .i64 ((s.next t).getD ev0).thread, .int .i64 ((s.next t).getD ev0).kind, .int .i64 ((s.next t).getD ev0).obj, .bool ((s.next t).getD ev0).fail] 35)
      have HS4 := Lib.hid (HS3.out.later hba)
      have HR4 := Lib.hid (HR3.out.later hba)
      have HX4 := Lib.hid (HX3.out.later hba)
      have HB4 := Lib.hid (HB3.out.trans (Below.mono hba HB3.out.size))
      have E1_4 := Lib.hid (E1_3.out.later hba)
      clear HS3 HR3 HX3 HB3 E1_3
      have E2_4 := Lib.hid (EvBox.new u2 ((s.next t).getD ev0))
      clear hba
      go_wp2_with fail
      refine (copy_state HS4.out).mono ?_
      rintro r u3 ⟨rfl, hu3⟩
      have hbu3 : Below (u2.alloc (.cells #[.int .i64 ((s.next t).getD ev0).thread, .int .i64 ((s.next t).getD ev0).kind, .int .i64 ((s.next t).getD ev0).obj, .bool ((s.next t).getD ev0).fail] 35)).heap.size (u2.alloc (.cells #[.int .i64 ((s.next t).getD ev0).thread, .int .i64 ((s.next t).getD ev0).kind, .int .i64 ((s.next t).getD ev0).obj, .bool ((s.next t).getD ev0).fail] 35)) u3 := by rw [← hu3]; exact below_alloc1 _ _
      have HCn : Hid (StAt u3 (u2.alloc (.cells #[.int .i64 ((s.next t).getD ev0).thread, .int .i64 ((s.next t).getD ev0).kind, .int .i64 ((s.next t).getD ev0).obj, .bool ((s.next t).getD ev0).fail] 35)).heap.size s) := by rw [← hu3]; exact heap_alloc_new _ _
      have hCg : g < (u2.alloc (.cells #[.int .i64 ((s.next t).getD ev0).thread, .int .i64 ((s.next t).getD ev0).kind, .int .i64 ((s.next t).getD ev0).obj, .bool ((s.next t).getD ev0).fail] 35)).heap.size := HS4.out.lt
      have hCb := HR4.out.lt
      have hCx : w.heap.size < (u2.alloc (.cells #[.int .i64 ((s.next t).getD ev0).thread, .int .i64 ((s.next t).getD ev0).kind, .int .i64 ((s.next t).getD ev0).obj, .bool ((s.next t).getD ev0).fail] 35)).heap.size := HX4.out.lt
      have hC1 := E1_4.out.lt
      have hC2 := E2_4.out.lt
      have HS5 := Lib.hid (HS4.out.later hbu3)
      have HR5 := Lib.hid (HR4.out.later hbu3)
      have HX5 := Lib.hid (HX4.out.later hbu3)
      have HB5 := Lib.hid (HB4.out.trans (Below.mono hbu3 HB4.out.size))
      have E1_5 := Lib.hid (E1_4.out.later hbu3)
      have E2_5 := Lib.hid (E2_4.out.later hbu3)
      clear HS4 HR4 HX4 HB4 E1_4 E2_4
      have HC5 := HCn
      clear hbu3 HCn hu3
      generalize hCe : (u2.alloc (.cells #[.int .i64 ((s.next t).getD ev0).thread, .int .i64 ((s.next t).getD ev0).kind, .int .i64 ((s.next t).getD ev0).obj, .bool ((s.next t).getD ev0).fail] 35)).heap.size = C at *
      generalize hE1e : u1.heap.size = E1 at *
      generalize hE2e : u2.heap.size = E2 at *
      generalize hxx : (s.next t).getD ev0 = x at *
      generalize hbb : (s.next t).isSome = bb at *
      have hq1 := run_equal_ev x x
      rw [show decide (x = x) = true by simp] at hq1
      have hq2 : (bb != bb) = false := by simp
      obtain ⟨c10, c11, c12, c13⟩ := E1_5.out.cells
      obtain ⟨c20, c21, c22, c23⟩ := E2_5.out.cells
      clear hCe hE1e hE2e hxx hbb
      go_wp2_with fail
      refine (enabled_any HS5.out OK.out t).mono ?_
      rintro r u4 ⟨rfl, hbu4⟩
      clear c10 c11 c12 c13 c20 c21 c22 c23 E1_5 E2_5 hq1 hq2
      have HS6 := Lib.hid (HS5.out.later hbu4)
      have HR6 := Lib.hid (HR5.out.later hbu4)
      have HX6 := Lib.hid (HX5.out.later hbu4)
      have HB6 := Lib.hid (HB5.out.trans (Below.mono hbu4 HB5.out.size))
      have HC6 := Lib.hid (HC5.out.later hbu4)
      clear HS5 HR5 HX5 HB5 HC5
      clear hbu4
      go_wp2_with fail
      refine (refEnabled_any HR6.out (by rw [HSP.out]; exact HP.out.later HB6.out) OK.out t).mono ?_
      rintro r u5 ⟨rfl, hbu5⟩
      have HS7 := Lib.hid (HS6.out.later hbu5)
      have HR7 := Lib.hid (HR6.out.later hbu5)
      have HX7 := Lib.hid (HX6.out.later hbu5)
      have HB7 := Lib.hid (HB6.out.trans (Below.mono hbu5 HB6.out.size))
      have HC7 := Lib.hid (HC6.out.later hbu5)
      clear HS6 HR6 HX6 HB6 HC6
      clear hbu5
      have hmm : ((s.may t) != (s.may t)) = false := by simp
      go_wp2_with fail
      refine (step_any HC7.out OK.out t).mono ?_
      rintro r u6 ⟨rfl, _, ho6⟩
      have HS8 := Lib.hid (ho6.stAt HS7.out (by omega))
      have HR8 := Lib.hid (HR7.out.only ho6 (by omega) (by omega))
      have HX8 := Lib.hid (HX7.out.only ho6 (by omega))
      have HB8 := Lib.hid (HB7.out.trans (ho6.below (by omega) HB7.out.size))
      clear HS7 HR7 HX7 HB7 HC7 ho6
      unfold stepV evV
      have hsx := step_any (w := u6) (b := g) (s := s) HS8.out OK.out t
      clear hsx
      have hE3 : g < u6.heap.size := HS8.out.lt
      have hE3b := HR8.out.lt
      have hba := below_alloc1 u6 (.cells #[.int .i64 (s.step t).2.1.thread, .int .i64 (s.step t).2.1.kind, .int .i64 (s.step t).2.1.obj, .bool (s.step t).2.1.fail] 35)
      have HS9 := Lib.hid (HS8.out.later hba)
      have HR9 := Lib.hid (HR8.out.later hba)
      have HX9 := Lib.hid (HX8.out.later hba)
      have HB9 := Lib.hid (HB8.out.trans (Below.mono hba HB8.out.size))
      clear HS8 HR8 HX8 HB8
      have E3_9 := Lib.hid (EvBox.new u6 (s.step t).2.1)
      clear hba
      go_wp2_with fail
      refine (enabled_any HS9.out OK.out t).mono ?_
      rintro r u7 ⟨rfl, hbu7⟩
      have HS10 := Lib.hid (HS9.out.later hbu7)
      have HR10 := Lib.hid (HR9.out.later hbu7)
      have HX10 := Lib.hid (HX9.out.later hbu7)
      have HB10 := Lib.hid (HB9.out.trans (Below.mono hbu7 HB9.out.size))
      have E3_10 := Lib.hid (E3_9.out.later hbu7)
      clear HS9 HR9 HX9 HB9 E3_9
      clear hbu7
      go_wp2_with fail
      refine (refEnabled_any HR10.out (by rw [HSP.out]; exact HP.out.later HB10.out) OK.out t).mono ?_
      rintro r u8 ⟨rfl, hbu8⟩
      have HS11 := Lib.hid (HS10.out.later hbu8)
      have HR11 := Lib.hid (HR10.out.later hbu8)
      have HX11 := Lib.hid (HX10.out.later hbu8)
      have HB11 := Lib.hid (HB10.out.trans (Below.mono hbu8 HB10.out.size))
      have E3_11 := Lib.hid (E3_10.out.later hbu8)
      clear HS10 HR10 HX10 HB10 E3_10
      clear hbu8
      go_wp2_with fail
      refine (step_any HS11.out OK.out t).mono ?_
      rintro r u9 ⟨rfl, hs9, ho9⟩
      unfold stepV evV
      have HS12 := Lib.hid hs9
      have HR12 := Lib.hid (HR11.out.only ho9 nbg ntg)
      have HX12 := Lib.hid (HX11.out.only ho9 (by omega))
      have HB12 := Lib.hid (HB11.out.trans (ho9.below (by omega) HB11.out.size))
      have E3_12 := Lib.hid (E3_11.out.only ho9 (by omega))
      have hE4b := HR12.out.lt
      clear HS11 HR11 HX11 HB11 E3_11 ho9 hs9
      have hba := below_alloc1 u9 (.cells #[.int .i64 (s.step t).2.1.thread, .int .i64 (s.step t).2.1.kind, .int .i64 (s.step t).2.1.obj, .bool (s.step t).2.1.fail] 35)
      have HS13 := Lib.hid (HS12.out.later hba)
      have HR13 := Lib.hid (HR12.out.later hba)
      have HX13 := Lib.hid (HX12.out.later hba)
      have HB13 := Lib.hid (HB12.out.trans (Below.mono hba HB12.out.size))
      have E3_13 := Lib.hid (E3_12.out.later hba)
      clear HS12 HR12 HX12 HB12 E3_12
      have E4_13 := Lib.hid (EvBox.new u9 (s.step t).2.1)
      clear hba
      go_wp2_with fail
      refine (refStep_any HR13.out (by rw [HSP.out]; exact HP.out.later HB13.out) OK.out t).mono ?_
      rintro r u10 ⟨rfl, hr10, ho10⟩
      unfold stepV evV
      have HS14 := Lib.hid (ho10.stAt HS13.out (by omega) (by omega))
      have HR14 := Lib.hid hr10
      have HX14 := Lib.hid (HX13.out.only2 ho10 (by omega) (by omega))
      have HB14 := Lib.hid (HB13.out.trans (ho10.below (by omega) (by omega) HB13.out.size))
      have E3_14 := Lib.hid (E3_13.out.only2 ho10 (by omega) (by omega))
      have E4_14 := Lib.hid (E4_13.out.only2 ho10 (by omega) (by omega))
      clear HS13 HR13 HX13 HB13 E3_13 E4_13 ho10 hr10
      have hba := below_alloc1 u10 (.cells #[.int .i64 (s.step t).2.1.thread, .int .i64 (s.step t).2.1.kind, .int .i64 (s.step t).2.1.obj, .bool (s.step t).2.1.fail] 35)
      have HS15 := Lib.hid (HS14.out.later hba)
      have HR15 := Lib.hid (HR14.out.later hba)
      have HX15 := Lib.hid (HX14.out.later hba)
      have HB15 := Lib.hid (HB14.out.trans (Below.mono hba HB14.out.size))
      have E3_15 := Lib.hid (E3_14.out.later hba)
      have E4_15 := Lib.hid (E4_14.out.later hba)
      clear HS14 HR14 HX14 HB14 E3_14 E4_14
      have E5_15 := Lib.hid (EvBox.new u10 (s.step t).2.1)
      clear hba
      have hok5 := OK.out.step_ok t
      have hsp5 := (step_prog s t).trans HSP.out
      clear hmm
      generalize s.step t = stp at *
      obtain ⟨e, y, s'⟩ := stp
      dsimp only at *
      have OK5 := Lib.hid hok5
      have HSP5 := Lib.hid hsp5
      have hl45 := hok5.len4
      clear hok5 hsp5
      have hq1 := run_equal_ev y y
      rw [show decide (y = y) = true by simp] at hq1
      have hq2 : (e != e) = false := by simp
      obtain ⟨c30, c31, c32, c33⟩ := E3_15.out.cells
      obtain ⟨c40, c41, c42, c43⟩ := E4_15.out.cells
      obtain ⟨c50, c51, c52, c53⟩ := E5_15.out.cells
      go_wp2_with fail
      refine (all_any HS15.out OK5.out).mono ?_
      rintro r u11 ⟨v1, rfl, hv1, hbu11⟩
      clear c30 c31 c32 c33 c40 c41 c42 c43 c50 c51 c52 c53 E3_15 E4_15 E5_15 hq1 hq2
      have hal : s'.all.length ≤ 4 := by
        unfold St.all
        exact Nat.le_trans (List.length_filter_le _ _) (by simp; omega)
      obtain ⟨a1, cap1, rfl, hn1, _⟩ := hv1.form (by omega)
      have HN1 := Lib.hid hn1
      clear hv1 hn1
      have HS16 := Lib.hid (HS15.out.later hbu11)
      have HR16 := Lib.hid (HR15.out.later hbu11)
      have HX16 := Lib.hid (HX15.out.later hbu11)
      have HB16 := Lib.hid (HB15.out.trans (Below.mono hbu11 HB15.out.size))
      clear HS15 HR15 HX15 HB15
      clear hbu11
      go_wp2_with fail
      refine (refAll_any HR16.out (by rw [HSP5.out]; exact HP.out.later HB16.out) OK5.out).mono ?_
      rintro r u12 ⟨v2, rfl, hv2, hbu12⟩
      obtain ⟨a2, cap2, rfl, hn2, _⟩ := hv2.form (by omega)
      have HN2 := Lib.hid hn2
      have HN3 := Lib.hid (HN1.out.later hbu12)
      clear hv2 hn2 HN1
      have HS17 := Lib.hid (HS16.out.later hbu12)
      have HR17 := Lib.hid (HR16.out.later hbu12)
      have HX17 := Lib.hid (HX16.out.later hbu12)
      have HB17 := Lib.hid (HB16.out.trans (Below.mono hbu12 HB16.out.size))
      clear HS16 HR16 HX16 HB16
      clear hbu12
      go_wp2_with fail
      refine (sameInts_any a1 a2 cap1 cap2 s'.all s'.all u12 HN3.out HN2.out).mono ?_
      rw [show decide (s'.all = s'.all) = true by simp]
      rintro r u13 ⟨rfl, hbu13⟩
      clear HN2 HN3
      have HS18 := Lib.hid (HS17.out.later hbu13)
      have HR18 := Lib.hid (HR17.out.later hbu13)
      have HX18 := Lib.hid (HX17.out.later hbu13)
      have HB18 := Lib.hid (HB17.out.trans (Below.mono hbu13 HB17.out.size))
      clear HS17 HR17 HX17 HB17
      clear hbu13
      go_wp2_with fail
      go_loopw [148] (fun i wq => ∃ (j : Nat), j ≤ 4 ∧ i = .int .i64 j ∧ Hid (Below u13.heap.size u13 wq)) (fun i _ => 4 - (intOf i).toNat)
      case atStart => exact ⟨0, by omega, rfl, Below.refl _ _⟩
      case round =>
        obtain ⟨j, hj, rfl, hbq⟩ := hrel
        have HSq := Lib.hid (HS18.out.later hbq.out)
        have HRq := Lib.hid (HR18.out.later hbq.out)
        by_cases hj4 : j < 4
        · have c4 : wr.cell? ⟨b, 4 + j, none⟩ = some (.int .i64 (s'.var j)) := HRq.out.var j hj4
          have q1 : (s'.var j != s'.var j) = false := by simp
          by_cases hj2 : j < 2
          · have c8 := HRq.out.who j hj2
            have q2 : (s'.who j != s'.who j) = false := by simp
            have q3 : decide (j < 2) = true := by simpa using hj2
            have q4 : decide ((j : Int) < 2) = true := by simp; omega
            go_wp2
            go_quiet ((first | (go_at_call 25; exact var_quiet HSq.out j hj4 _) | (go_at_call 26; exact holder_quiet HSq.out OK5.out j _)))
            go_wp2
            go_roundw
            case rel => exact ⟨j + 1, by omega, by go_num, hbq.out.drewN⟩
            case measure => simp [intOf]; omega
          · have q3 : decide (j < 2) = false := by simpa using hj2
            have q4 : decide ((j : Int) < 2) = false := by simp; omega
            go_wp2
            go_quiet ((go_at_call 25; exact var_quiet HSq.out j hj4 _))
            go_wp2
            go_roundw
            case rel => exact ⟨j + 1, by omega, by go_num, hbq.out.drewN⟩
            case measure => simp [intOf]; omega
        · obtain rfl : j = 4 := by omega
          have HXq := Lib.hid (HX18.out.later hbq.out)
          have HBq := Lib.hid (HB18.out.trans (hbq.out.mono HB18.out.size))
          go_wp2
          go_roundw
          case rel => exact ⟨k + 1, s', by omega, by go_num, HSq.out, HRq.out, OK5.out, HSP5, HBq.out, HXq.out⟩
          case measure => simp [intOf]; omega
    · obtain rfl : k = row.length := by omega
      have hln : s.ts.length = p.threads.length := by have := OK.out.len; rw [HSP.out] at this; exact this
      have c2 : wr.cell? ⟨w.heap.size, 2, none⟩ = some (.slice a p.threads.length cap) := by simp [World.cell?, show wr.heap[w.heap.size]? = _ from HX0.out]
      have hcz := HX0.out.lt
      have HTQ : Hid (∀ n, Calls Try.prog 27 #[.pointer (some ⟨g, 0, none⟩)] (wr.drewN n) fun r w' => r = .returned (.int .i64 p.threads.length) ∧ ∃ m, w' = wr.drewN m) := fun n => by
        have := threads_any (w := wr.drewN n) HS0.out
        rw [hln] at this
        exact this.mono fun _ _ ⟨he, hm⟩ => ⟨he, n, hm.symm⟩
      have HVQ : Hid (∀ n, Calls Try.prog 25 #[.pointer (some ⟨g, 0, none⟩), .int .i64 4] (wr.drewN n) fun r w' => r = .returned (.int .i64 0) ∧ ∃ m, w' = wr.drewN m) := fun n =>
        (var_out (w := wr.drewN n) HS0.out 4 (by omega)).mono fun _ _ ⟨he, hm⟩ => ⟨he, n, hm.symm⟩
      have hw2' : s.who 2 = -1 := OK.out.free 2 (by
        have := OK.out.right
        unfold rightPg at this
        rw [Bool.and_eq_true, decide_eq_true_eq] at this
        omega)
      have HHQ : Hid (∀ n, Calls Try.prog 26 #[.pointer (some ⟨g, 0, none⟩), .int .i64 2] (wr.drewN n) fun r w' => r = .returned (.int .i64 (-1)) ∧ ∃ m, w' = wr.drewN m) := fun n => by
        have : Calls Try.prog 26 #[.pointer (some ⟨g, 0, none⟩), .int .i64 2] (wr.drewN n) fun r w' => r = .returned (.int .i64 (s.who 2)) ∧ ∃ m, w' = wr.drewN m := holder_quiet HS0.out OK.out 2 n
        rw [hw2'] at this
        exact this
      clear hln hw2'
      go_wp2
      go_quiet ((first | (go_at_call 27; exact HTQ.out _) | (go_at_call 25; exact HVQ.out _) | (go_at_call 26; exact HHQ.out _)))
      go_wp2
      go_ret
      exact ⟨rfl, hb.drewN⟩

end Go.Proofs.Ytgofbejohihljaa
