/- StateOwn: what a thread does next changes by its own steps alone. -/
import Derived.Test.YtgofbejohihljaaWake
import Derived.Test.YtgofbejohihljaaFew
import Derived.Maps.OwnOps
import Derived.Maps.OwnSet
import Derived.Maps.Views
namespace Go.Proofs.Ytgofbejohihljaa
open Go.RowKit Go.Maps

theorem ownLaw : Keyed Try.prog 3 := int_keyed Try.underlying3
theorem ownZero (w : World) : (zeroValue 35).run Try.prog w = .ok (.agg #[.int .i64 0, .int .i64 0, .int .i64 0, .bool false]) w := by kernel_rfl

/-- An event as a datum. -/
def evD (e : Ev) : DataW Unit := .agg [.lit (.int .i64 e.thread), .lit (.int .i64 e.kind), .lit (.int .i64 e.obj), .lit (.bool e.fail)]
theorem evD_inj {a b : Ev} (h : evD a = evD b) : a = b := by
  obtain ⟨a0, a1, a2, a3⟩ := a
  obtain ⟨b0, b1, b2, b3⟩ := b
  simpa [evD] using h
/-- How an event in a map reads. -/
def evElem : Value → Option (DataW Unit × List MemPlace)
  | .agg ⟨[.int .i64 a, .int .i64 b, .int .i64 c, .bool d]⟩ => some (evD ⟨a, b, c, d⟩, [])
  | _ => none
theorem evElem_mk (e : Ev) : evElem (.agg #[.int .i64 e.thread, .int .i64 e.kind, .int .i64 e.obj, .bool e.fail]) = some (evD e, []) := rfl
theorem evElem_inv {v : Value} {e : Ev} {ps : List MemPlace} (h : evElem v = some (evD e, ps)) : v = .agg #[.int .i64 e.thread, .int .i64 e.kind, .int .i64 e.obj, .bool e.fail] := by
  unfold evElem at h
  split at h
  · injection h with h
    injection h with h _
    rw [← evD_inj h]
  · cases h

theorem own_block {P : Program} {k : TypeId} {R : Value → Option (DataW Unit × List MemPlace)} {b n : Nat} {D : DataW Unit} {w w' : World} (h : w.ownsMap P k R b n D) (e : w'.heap[b]? = w.heap[b]?) : w'.ownsMap P k R b n D := by
  obtain ⟨es, c, h1, h2⟩ := h
  exact ⟨es, c, e.trans h1, h2⟩
theorem own_grown {w w' : World} {b : Nat} (h : w.grownBy w' (some b)) : Only b w w' := ⟨h.os, h.tape, h.output, h.size, fun k hk hb => h.block k hk (fun e => hb (by simpa using e))⟩
theorem own_wf {n : Int} (h0 : 0 ≤ n) (h1 : n ≤ 1000000) : (Lit.int .i64 n).wf = true := by
  simp [Lit.wf, IntKind.min, IntKind.max, IntKind.signed, IntKind.bits]
  omega

/-- The map has what the first j threads do next. -/
def Was (D : DataW Unit) (s : St) (j : Nat) : Prop := ∀ i : Nat, if i < j then Maps.has D (.int .i64 i) = (s.next i).isSome ∧ D.atKey (.int .i64 i) (evD ev0) = evD ((s.next i).getD ev0) else Maps.has D (.int .i64 i) = false
theorem Was.start (s : St) : Was (.map []) s 0 := fun i => by
  rw [if_neg (by omega)]
  rfl
theorem Was.none {D : DataW Unit} {s : St} {j : Nat} (h : Was D s j) (hn : s.next j = none) : Was D s (j + 1) := fun i => by
  have hi := h i
  by_cases e : i < j
  · rw [if_pos e] at hi
    rw [if_pos (by omega)]
    exact hi
  · rw [if_neg e] at hi
    by_cases e2 : i = j
    · subst e2
      rw [if_pos (by omega), hn]
      exact ⟨hi, atKey_of_not_has hi _⟩
    · rw [if_neg (by omega)]
      exact hi
theorem Was.some {D : DataW Unit} {s : St} {j : Nat} {x : Ev} (h : Was D s j) (hD : IsMap D) (hn : s.next j = some x) : Was (D.put (.int .i64 j) (evD x)) s (j + 1) := fun i => by
  have hi := h i
  by_cases e2 : i = j
  · subst e2
    rw [if_pos (by omega), hn]
    exact ⟨has_put_same hD (by simp [WideAt.IsKeyLit]) _, atKey_put_same hD (by simp [WideAt.IsKeyLit]) _ _⟩
  · have hne : (Lit.int .i64 i : Lit) ≠ .int .i64 j := by intro h; injection h with _ h; omega
    rw [has_put_other hne, atKey_put_other hne]
    by_cases e : i < j
    · rw [if_pos e] at hi
      rw [if_pos (by omega)]
      exact hi
    · rw [if_neg e] at hi
      rw [if_neg (by omega)]
      exact hi

theorem step_len (s : St) (t : Int) : (s.step t).2.2.ts.length = s.ts.length := by
  rcases s.step_cases t with ⟨i, _, _, e⟩ | ⟨e, _, e'⟩
  · rw [e]; simp [St.do_]
  · rw [e']

set_option maxRecDepth 100000 in
set_option maxHeartbeats 4000000 in
theorem own_any (p : Pg) (a : Option Addr) (cap : Nat) (fuel : Int) (ra : Option Addr) (rcap : Nat) (row : List Int) (w : World) (hp : ThreadsAt w a p.threads) (hrow : NumsAt w ra row) :
    Calls Try.prog 5 #[.agg #[.int .i64 p.vars, .int .i64 p.mutexes, .slice a p.threads.length cap], .int .i64 fuel, .slice ra row.length rcap] w fun r w' => r = .returned (.bool true) ∧ Below w.heap.size w w' := by
  have hrm := hrow.1
  unfold maxLen at hrm
  have HP := Lib.hid hp
  have HROW := Lib.hid hrow
  clear hp hrow
  go_enter Try.func5, Try.ntmps5
  go_wp2_with fail
  refine (awake_any _).mono ?_
  rintro r w1 ⟨rfl, hb1⟩
  have hc1 : ∀ o, w1.cell? ⟨w.heap.size, o, none⟩ = (w.alloc (.cells #[.int .i64 p.vars, .int .i64 p.mutexes, .slice a p.threads.length cap] 24)).cell? ⟨w.heap.size, o, none⟩ := fun o => hb1.cell (p := ⟨w.heap.size, o, none⟩) (by simp)
  have hw1 : Below w.heap.size w w1 := (below_alloc1 w _).trans (hb1.mono (by simp))
  have hz1 : w.heap.size < w1.heap.size := by have := hb1.size; simp at this; omega
  clear hb1
  go_wp2_with fail
  refine (few_any p a cap w1 (HP.out.later hw1)).mono ?_
  rintro r w2 ⟨rfl, hb2⟩
  have hc2 : ∀ o, w2.cell? ⟨w.heap.size, o, none⟩ = w1.cell? ⟨w.heap.size, o, none⟩ := fun o => hb2.cell (p := ⟨w.heap.size, o, none⟩) hz1
  have hw2 : Below w.heap.size w w2 := hw1.trans (hb2.mono hw1.size)
  have hz2 : w.heap.size < w2.heap.size := by have := hb2.size; omega
  clear hb2
  cases hf : fewPg p
  · clear hf hc1 hc2
    go_wp2_with fail
    refine (awake_any _).mono ?_
    rintro r w3 ⟨rfl, hb3⟩
    have hw3 : Below w.heap.size w w3 := hw2.trans (hb3.mono hw2.size)
    go_wp2
    go_ret
    exact ⟨rfl, hw3⟩
  clear hf
  by_cases hN : 100 < row.length
  · clear hc1 hc2
    go_wp2_with fail
    refine (awake_any _).mono ?_
    rintro r w3 ⟨rfl, hb3⟩
    have hw3 : Below w.heap.size w w3 := hw2.trans (hb3.mono hw2.size)
    go_wp2
    go_ret
    exact ⟨rfl, hw3⟩
  go_wp2_with fail
  refine (new_any p a cap fuel w2 (HP.out.later hw2)).mono ?_
  rintro r w3 hr
  unfold NewR at hr
  by_cases hgood : rightPg p = true ∧ 0 ≤ fuel ∧ fuel ≤ 8
  case neg =>
    rw [if_neg hgood] at hr
    obtain ⟨rfl, hb3⟩ := hr
    have hw3 : Below w.heap.size w w3 := hw2.trans (hb3.mono hw2.size)
    clear hb3 hgood hc1 hc2
    go_wp2
    go_ret
    exact ⟨rfl, hw3⟩
  rw [if_pos hgood] at hr
  obtain ⟨g, rfl, hg, hs, hb3⟩ := hr
  obtain ⟨hr1, hf0, hf8⟩ := hgood
  obtain ⟨F, rfl⟩ : ∃ F : Nat, fuel = F := ⟨fuel.toNat, by omega⟩
  simp only [Int.toNat_natCast] at hs
  have hw3 : Below w.heap.size w w3 := hw2.trans (hb3.mono hw2.size)
  have hgw : w.heap.size ≤ g := by omega
  have HS := Lib.hid hs
  have HOK := Lib.hid (new_ok hr1 F (by omega))
  have HR1 := Lib.hid hr1
  clear hs hb3 hc1 hc2 hr1 hg
  have hmm := @run_makeMap Try.prog
  go_wp2_with fail
  go_loopw [43] (fun i wr => ∃ (k : Nat) (s : St), k ≤ row.length ∧ i = .int .i64 k ∧ StAt wr g s ∧ s.Ok F ∧ Below w.heap.size w wr) (fun i _ => row.length - (intOf i).toNat)
  case atStart => exact ⟨0, _, Nat.zero_le _, rfl, HS.out, HOK.out, hw3⟩
  case round =>
    clear hw3 HS HOK
    obtain ⟨k, s, hk, rfl, hs, ok, hb⟩ := hrel
    have HS := Lib.hid hs
    have OK := Lib.hid ok
    have hgr := hs.lt
    have h4 := ok.len4
    clear hs ok
    by_cases hlt : k < row.length
    · obtain ⟨rb, ro, rfl, hc⟩ := HROW.out.2 (by intro e; simp [e] at hlt)
      have d0 := cell_later hb (hc k hlt)
      clear hc
      generalize row[k] = t at *
      have HS0 := Lib.hid (HS.out.later (below_alloc1 wr (.map #[] 0)))
      have hb0 : Below w.heap.size w (wr.alloc (.map #[] 0)) := hb.alloc hb.size _
      have hM0 : (wr.alloc (.map #[] 0)).ownsMap Try.prog 3 evElem wr.heap.size 0 (.map []) := World.ownsMap_made _ _ _ _
      have hga : wr.heap.size ≠ g := by omega
      have hwa : w.heap.size ≤ wr.heap.size := hb.size
      go_wp2_with (go_at_call 27; refine (threads_any HS0.out).mono ?_; rintro r w' ⟨rfl, rfl⟩)
      clear hb HS d0 hgr hmm
      generalize wr.alloc (.map #[] 0) = W0 at *
      generalize wr.heap.size = M at *
      go_loopw [50] (fun i wq => ∃ (j : Nat) (D : DataW Unit), j ≤ s.ts.length ∧ i = .int .i64 j ∧ wq.ownsMap Try.prog 3 evElem M j D ∧ Was D s j ∧ StAt wq g s ∧ Below w.heap.size w wq) (fun i _ => s.ts.length - (intOf i).toNat)
      case atStart => exact ⟨0, .map [], Nat.zero_le _, rfl, hM0, Was.start s, HS0.out, hb0⟩
      case round =>
        clear hb0 HS0 hM0
        obtain ⟨j, D, hj, rfl, hown, hwas, hs, hb⟩ := hrel
        have HS := Lib.hid hs
        have HWAS := Lib.hid hwas
        have hMr := hown.lt
        clear hs hwas
        by_cases hjn : j < s.ts.length
        · go_wp2_with fail
          refine (next_any HS.out OK.out j).mono ?_
          cases hn : s.next j with
          | none =>
            rw [evR_none]
            rintro r w5 ⟨rfl, hb5⟩
            have hown5 := (own_block hown (hb5.block _ hMr)).alloc (.cells #[.int .i64 0, .int .i64 0, .int .i64 0, .bool false] 35)
            have HS5 := Lib.hid ((HS.out.later hb5).later (below_alloc1 w5 (.cells #[.int .i64 0, .int .i64 0, .int .i64 0, .bool false] 35)))
            have hw5' := hb.trans (hb5.mono hb.size)
            have hw5 : Below w.heap.size w (w5.alloc (.cells #[.int .i64 0, .int .i64 0, .int .i64 0, .bool false] 35)) := hw5'.alloc hw5'.size _
            have HW2 := Lib.hid (HWAS.out.none hn)
            clear hb hb5 HS hown hw5' HWAS hn
            go_wp2
            go_roundw
            case rel => exact ⟨j + 1, D, by omega, by go_num, hown5.mono (by omega), HW2.out, HS5.out, hw5⟩
            case measure => simp [intOf]; omega
          | some x =>
            rw [evR_some]
            rintro r w5 ⟨rfl, hb5⟩
            have hown5 := (own_block hown (hb5.block _ hMr)).alloc (.cells #[.int .i64 x.thread, .int .i64 x.kind, .int .i64 x.obj, .bool x.fail] 35)
            have HS5 := Lib.hid ((HS.out.later hb5).later (below_alloc1 w5 (.cells #[.int .i64 x.thread, .int .i64 x.kind, .int .i64 x.obj, .bool x.fail] 35)))
            have hw5' := hb.trans (hb5.mono hb.size)
            have hw5 : Below w.heap.size w (w5.alloc (.cells #[.int .i64 x.thread, .int .i64 x.kind, .int .i64 x.obj, .bool x.fail] 35)) := hw5'.alloc hw5'.size _
            have HW2 := Lib.hid (HWAS.out.some hown.isMap hn)
            have hkey : keyOf Try.prog 3 (.int .i64 (j : Int)) = some (.int .i64 j) := keyOf_int_mk Try.underlying3 (own_wf (by omega) (by omega))
            have HKEY := Lib.hid hkey
            clear hb hb5 HS hown hw5' HWAS hn hkey
            go_wp2_with (at_mapUpdate; refine wpList_mapUpdate_own _ rfl _ _ _ 61 rfl 3 35 ownLaw Try.underlying61 evElem M j D rfl hown5 (by unfold maxLen; omega) _ _ _ rfl rfl HKEY.out _ [] (evElem_mk x) ?_; intro w6 hown6 hgrow6)
            have ho6 := own_grown hgrow6
            have HS6 := Lib.hid (ho6.stAt HS5.out (by omega))
            have hw6 := hw5.trans (ho6.below hwa hw5.size)
            clear hgrow6 ho6 hw5 HS5 hown5
            go_roundw
            case rel => exact ⟨j + 1, _, by omega, by go_num, hown6, HW2.out, HS6.out, hw6⟩
            case measure => simp [intOf]; omega
        · obtain rfl : j = s.ts.length := by omega
          go_wp2_with fail
          refine (step_any HS.out OK.out t).mono ?_
          rintro r w5 ⟨rfl, hs5, ho5⟩
          have hok5 := OK.out.step_ok t
          have HNX := Lib.hid (fun u (hu : u ≠ t) => OK.out.next_step t hu)
          have hl5 := step_len s t
          have hown5 := own_block hown (ho5.block _ hMr hga)
          have hw5 := hb.trans (ho5.below hgw hb.size)
          unfold stepV evV
          generalize s.step t = st at *
          obtain ⟨e, x, s'⟩ := st
          dsimp only at *
          have HS5 := Lib.hid hs5
          have HOK5 := Lib.hid hok5
          have HL5 := Lib.hid hl5
          have HOWN5 := Lib.hid hown5
          clear hb hown ho5 hs5 hok5 hl5 hown5 HS hMr
          have hth : Hid (Calls Try.prog 27 #[.pointer (some ⟨g, 0, none⟩)] w5 fun r w' => r = .returned (.int .i64 s.ts.length) ∧ w5 = w') := by
            have := threads_any HS5.out
            rw [HL5.out] at this
            exact this
          go_wp2_with fail
          refine hth.out.mono ?_
          rintro r w' ⟨rfl, rfl⟩
          go_wp2_with fail
          go_loopw [69] (fun i wq => ∃ (j : Nat), j ≤ s.ts.length ∧ i = .int .i64 j ∧ Hid (Below w5.heap.size w5 wq)) (fun i _ => s.ts.length - (intOf i).toNat)
          case atStart => exact ⟨0, Nat.zero_le _, rfl, Below.refl _ _⟩
          case round =>
            obtain ⟨j, hj, rfl, hbq⟩ := hrel
            have hbw := hw5.trans (hbq.out.mono hw5.size)
            by_cases hjn : j < s.ts.length
            · have hwj := HWAS.out j
              rw [if_pos hjn] at hwj
              obtain ⟨hwh, hwa2⟩ := hwj
              have hkey : keyOf Try.prog 3 (.int .i64 (j : Int)) = some (.int .i64 j) := keyOf_int_mk Try.underlying3 (own_wf (by omega) (by omega))
              have HSq := Lib.hid (HS5.out.later hbq.out)
              have hnx := HNX.out j
              go_wp2_with fail
              refine (next_any HSq.out HOK5.out j).mono ?_
              have evRe : evR (s'.next j) = .tuple #[.agg #[.int .i64 ((s'.next j).getD ev0).thread, .int .i64 ((s'.next j).getD ev0).kind, .int .i64 ((s'.next j).getD ev0).obj, .bool ((s'.next j).getD ev0).fail], .bool (s'.next j).isSome] := rfl
              rw [evRe]
              clear evRe
              rintro r w7 ⟨rfl, hb7⟩
              have hown7 := (own_block HOWN5.out ((hbq.out.trans (hb7.mono hbq.out.size)).block _ HOWN5.out.lt)).alloc (.cells #[.int .i64 ((s'.next j).getD ev0).thread, .int .i64 ((s'.next j).getD ev0).kind, .int .i64 ((s'.next j).getD ev0).obj, .bool ((s'.next j).getD ev0).fail] 35)
              obtain ⟨v, ps, hrun, hR⟩ := hown7.look_ok ownLaw Try.underlying61 (ownZero _) (evElem_mk ev0) hkey
              rw [hwh] at hrun
              rw [hwa2] at hR
              obtain rfl := evElem_inv hR
              have hb8 : Below w5.heap.size w5 (w7.alloc (.cells #[.int .i64 ((s'.next j).getD ev0).thread, .int .i64 ((s'.next j).getD ev0).kind, .int .i64 ((s'.next j).getD ev0).obj, .bool ((s'.next j).getD ev0).fail] 35)) := (hbq.out.trans (hb7.mono hbq.out.size)).alloc (Nat.le_trans hbq.out.size hb7.size) _
              have HB9 : Hid (Below w5.heap.size w5 ((w7.alloc (.cells #[.int .i64 ((s'.next j).getD ev0).thread, .int .i64 ((s'.next j).getD ev0).kind, .int .i64 ((s'.next j).getD ev0).obj, .bool ((s'.next j).getD ev0).fail] 35)).alloc (.cells #[.int .i64 ((s.next j).getD ev0).thread, .int .i64 ((s.next j).getD ev0).kind, .int .i64 ((s.next j).getD ev0).obj, .bool ((s.next j).getD ev0).fail] 35))) := hb8.alloc hb8.size _
              clear hown7 hR hwh hwa2 hkey hb7 hb8 HSq
              by_cases hjt : (j : Int) = t
              · have q0 : ((j : Int) != t) = false := by simp [hjt]
                clear hjt hnx
                generalize (s'.next j).getD ev0 = x1 at *
                generalize (s.next j).getD ev0 = x2 at *
                generalize (s'.next j).isSome = b1 at *
                generalize (s.next j).isSome = b2 at *
                go_wp2
                go_roundw
                case rel => exact ⟨j + 1, by omega, by go_num, HB9⟩
                case measure => simp [intOf]; omega
              · have q0 : ((j : Int) != t) = true := by simpa using hjt
                rw [hnx hjt] at hrun ⊢
                rw [hnx hjt] at HB9
                clear hjt hnx
                generalize (s.next j).getD ev0 = x2 at *
                generalize (s.next j).isSome = b2 at *
                have heq := run_equal_ev x2 x2
                have hdt : decide (x2 = x2) = true := by simp
                rw [hdt] at heq
                clear hdt
                have hbb : (b2 != b2) = false := by simp
                go_wp2
                go_roundw
                case rel => exact ⟨j + 1, by omega, by go_num, HB9⟩
                case measure => simp [intOf]; omega
            · obtain rfl : j = s.ts.length := by omega
              have HSq := Lib.hid (HS5.out.later hbq.out)
              go_wp2
              go_roundw
              case rel => exact ⟨k + 1, s', by omega, by go_num, HSq.out, HOK5.out, hbw⟩
              case measure => simp [intOf]; omega
    · obtain rfl : k = row.length := by omega
      go_wp2
      go_ret
      exact ⟨rfl, hb⟩

end Go.Proofs.Ytgofbejohihljaa
