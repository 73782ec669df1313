/- StateFuel: a thread does at most as many steps as its fuel; all together end within all their fuel. -/
import Derived.Test.YtgofbejohihljaaWake
import Derived.Test.YtgofbejohihljaaFew
import Derived.Maps.OwnOps
import Derived.Maps.OwnSet
import Derived.Maps.Views
namespace Go.Proofs.Ytgofbejohihljaa
open Go.RowKit Go.Maps

theorem law_int : Keyed Try.prog 3 := int_keyed Try.underlying3
theorem zero_int (w : World) : (zeroValue 3).run Try.prog w = .ok (.int .i64 0) w := by kernel_rfl

theorem ownsMap_block {P : Program} {k : TypeId} {R : Value → Option (DataW Unit × List MemPlace)} {b n : Nat} {D : DataW Unit} {w w' : World} (h : w.ownsMap P k R b n D) (e : w'.heap[b]? = w.heap[b]?) : w'.ownsMap P k R b n D := by
  obtain ⟨es, c, h1, h2⟩ := h
  exact ⟨es, c, e.trans h1, h2⟩
theorem only_grown {w w' : World} {b : Nat} (h : w.grownBy w' (some b)) : Only b w w' := ⟨h.os, h.tape, h.output, h.size, fun k hk hb => h.block k hk (fun e => hb (by simpa using e))⟩

theorem wf_small {n : Int} (h0 : 0 ≤ n) (h1 : n ≤ 1000000) : (Lit.int .i64 n).wf = true := by
  simp [Lit.wf, IntKind.min, IntKind.max, IntKind.signed, IntKind.bits]
  omega

/-- What the map has of a thread: how much of its fuel is gone. -/
def Gone (D : DataW Unit) (F : Nat) (s : St) : Prop := ∀ t : Nat, t < s.ts.length → D.atKey (.int .i64 t) (.lit (.int .i64 0)) = .lit (.int .i64 ((F : Int) - (s.th t).fuel))

theorem Gone.new (p : Pg) (F : Nat) : Gone (.map []) F (St.new p F) := by
  intro t ht
  have e : (St.new p F).th t = ⟨0, F, [0, 0]⟩ := new_th p F t (by simpa [St.new] using ht)
  rw [e]
  simp [DataW.atKey]

theorem St.step_ok_fuel {s : St} {t : Nat} {i : Ins} (hi : s.ins t = some i) (u : Nat) : ((s.do_ t i).th u).fuel = if u = t then (s.th t).fuel - 1 else (s.th u).fuel := by
  rw [St.th_do s t i (St.ins_has hi).1]
  simp only [Int.toNat_natCast]
  by_cases h : u = t
  · subst h; simp [St.thr]
  · simp [h]

theorem Gone.put {D : DataW Unit} {F : Nat} {s : St} (h : Gone D F s) (hD : IsMap D) {t : Nat} {i : Ins} (hi : s.ins t = some i) (hF : (s.th t).fuel ≤ F) :
    Gone (D.put (.int .i64 t) (.lit (.int .i64 ((F : Int) - (s.th t).fuel + 1)))) F (s.do_ t i) := by
  intro u hu
  have hl : (s.do_ t i).ts.length = s.ts.length := by simp [St.do_]
  have hf := (St.ins_has hi).2.1
  simp only [Int.toNat_natCast] at hf
  rw [St.step_ok_fuel hi]
  by_cases e : u = t
  · subst e
    rw [atKey_put_same hD (by simp [WideAt.IsKeyLit])]
    simp
    omega
  · rw [atKey_put_other (by intro h; injection h with _ h; omega), if_neg e]
    exact h u (by omega)

theorem new_fuel_sum (p : Pg) (F : Nat) : (St.new p F).fuel = F * p.threads.length := by
  unfold St.fuel St.new
  simp [List.map_const']
  rw [Nat.mul_comm]

theorem St.all_cons {s : St} {t : Int} {l : List Int} (h : s.all = t :: l) : s.may t = true := by
  have : t ∈ s.all := by rw [h]; simp
  unfold St.all at this
  exact (List.mem_filter.1 this).2
theorem St.all_len (s : St) : s.all.length ≤ s.ts.length := by
  unfold St.all
  exact Nat.le_trans (List.length_filter_le _ _) (by simp)
theorem St.may_step {s : St} {t : Int} (h : s.may t = true) : ∃ i, s.ins t = some i ∧ s.step t = (0, s.ev t i, s.do_ t i) := by
  rcases s.step_cases t with ⟨i, hi, _, e⟩ | ⟨e, he, e'⟩
  · exact ⟨i, hi, e⟩
  · exfalso
    unfold St.may at h
    cases hi : s.ins t with
    | none => rw [hi] at h; cases h
    | some i =>
      have hh := (St.ins_has hi).1
      unfold St.step at e'
      rw [if_pos hh, hi] at e'
      have hm : s.may t = true := by unfold St.may; rw [hi]; rw [hi] at h; exact h
      simp only [hm, if_true] at e'
      have := congrArg Prod.fst e'
      dsimp only at this
      omega

set_option maxRecDepth 100000 in
set_option maxHeartbeats 4000000 in
theorem fuel_any (p : Pg) (a : Option Addr) (cap : Nat) (fuel : Int) (ra : Option Addr) (rcap : Nat) (row : List Int) (w : World) (hp : ThreadsAt w a p.threads) (hrow : NumsAt w ra row) :
    Calls Try.prog 7 #[.agg #[.int .i64 p.vars, .int .i64 p.mutexes, .slice a p.threads.length cap], .int .i64 fuel, .slice ra row.length rcap] w fun r w' => r = .returned (.bool true) ∧ Below w.heap.size w w' := by
  have hrm := hrow.1
  unfold maxLen at hrm
  have HP := Lib.hid hp
  have HROW := Lib.hid hrow
  clear hp hrow
  go_enter Try.func7, Try.ntmps7
  go_wp2_with fail
  refine (awake_any _).mono ?_
  rintro r w1 ⟨rfl, hb1⟩
  have hc1 : ∀ o, w1.cell? ⟨w.heap.size, o, none⟩ = (w.alloc (.cells #[.int .i64 p.vars, .int .i64 p.mutexes, .slice a p.threads.length cap] 24)).cell? ⟨w.heap.size, o, none⟩ := fun o => hb1.cell (p := ⟨w.heap.size, o, none⟩) (by simp)
  have hw1 : Below w.heap.size w w1 := (below_alloc1 w _).trans (hb1.mono (by simp))
  have hz1 : w.heap.size < w1.heap.size := by have := hb1.size; simp at this; omega
  have HX1 : Hid (w1.heap[w.heap.size]? = some (.cells #[.int .i64 p.vars, .int .i64 p.mutexes, .slice a p.threads.length cap] 24 (0, 0))) := (hb1.block _ (by simp)).trans (heap_alloc_new w _)
  clear hb1
  go_wp2_with fail
  refine (few_any p a cap w1 (HP.out.later hw1)).mono ?_
  rintro r w2 ⟨rfl, hb2⟩
  have hc2 : ∀ o, w2.cell? ⟨w.heap.size, o, none⟩ = w1.cell? ⟨w.heap.size, o, none⟩ := fun o => hb2.cell (p := ⟨w.heap.size, o, none⟩) hz1
  have hw2 : Below w.heap.size w w2 := hw1.trans (hb2.mono hw1.size)
  have hz2 : w.heap.size < w2.heap.size := by have := hb2.size; omega
  have HX2 : Hid (w2.heap[w.heap.size]? = some (.cells #[.int .i64 p.vars, .int .i64 p.mutexes, .slice a p.threads.length cap] 24 (0, 0))) := (hb2.block _ hz1).trans HX1.out
  clear hb2 HX1
  cases hf : fewPg p
  · clear hf hc1 hc2
    go_wp2_with fail
    refine (awake_any _).mono ?_
    rintro r w3 ⟨rfl, hb3⟩
    have hw3 : Below w.heap.size w w3 := hw2.trans (hb3.mono hw2.size)
    go_wp2
    go_ret
    exact ⟨rfl, hw3⟩
  clear hf
  by_cases hN : 200 < row.length
  · clear hc1 hc2
    go_wp2_with fail
    refine (awake_any _).mono ?_
    rintro r w3 ⟨rfl, hb3⟩
    have hw3 : Below w.heap.size w w3 := hw2.trans (hb3.mono hw2.size)
    go_wp2
    go_ret
    exact ⟨rfl, hw3⟩
  go_wp2_with fail
  refine (new_any p a cap fuel w2 (HP.out.later hw2)).mono ?_
  rintro r w3 hr
  unfold NewR at hr
  by_cases hgood : rightPg p = true ∧ 0 ≤ fuel ∧ fuel ≤ 8
  case neg =>
    rw [if_neg hgood] at hr
    obtain ⟨rfl, hb3⟩ := hr
    have hw3 : Below w.heap.size w w3 := hw2.trans (hb3.mono hw2.size)
    clear hb3 hgood hc1 hc2
    go_wp2
    go_ret
    exact ⟨rfl, hw3⟩
  rw [if_pos hgood] at hr
  obtain ⟨g, rfl, hg, hs, hb3⟩ := hr
  obtain ⟨hr1, hf0, hf8⟩ := hgood
  obtain ⟨F, rfl⟩ : ∃ F : Nat, fuel = F := ⟨fuel.toNat, by omega⟩
  simp only [Int.toNat_natCast] at hs
  have hw3 : Below w.heap.size w w3 := hw2.trans (hb3.mono hw2.size)
  have hgw : w.heap.size ≤ g := by omega
  have HS := Lib.hid hs
  have HOK := Lib.hid (new_ok hr1 F (by omega))
  have HR1 := Lib.hid hr1
  have hbx : w3.heap[w.heap.size]? = some (.cells #[.int .i64 p.vars, .int .i64 p.mutexes, .slice a p.threads.length cap] 24 (0, 0)) := (hb3.block _ hz2).trans HX2.out
  have hgw1 : w.heap.size ≠ g := by omega
  have hz3 : w.heap.size < w3.heap.size := by have := hb3.size; omega
  have hgM : g < w3.heap.size := hs.lt
  clear hs hb3 hc1 hc2 hr1 hg HX2
  have hn4 : p.threads.length ≤ 4 := by have := HOK.out.len4; simpa [St.new] using this
  have HG := Lib.hid (Gone.new p F)
  have hmm := @run_makeMap Try.prog
  go_wp2_with fail
  go_loopw [10, 40] (fun al i wr => ∃ (k : Nat) (s : St) (D : DataW Unit) (n : Nat), k ≤ row.length ∧ i = .int .i64 k ∧ al = .int .i64 n ∧ Hid (n + s.fuel = F * p.threads.length) ∧ Hid (s.ts.length = p.threads.length) ∧ Gone D F s ∧ wr.ownsMap Try.prog 3 (plainElem Try.prog 3) w3.heap.size k D ∧ StAt wr g s ∧ s.Ok F ∧ Below w.heap.size w wr ∧ wr.heap[w.heap.size]? = some (.cells #[.int .i64 p.vars, .int .i64 p.mutexes, .slice a p.threads.length cap] 24 (0, 0))) (fun _ i _ => row.length - (intOf i).toNat)
  case atStart => exact ⟨0, _, .map [], 0, Nat.zero_le _, rfl, rfl, by show _ = _; rw [new_fuel_sum]; omega, by show _ = _; simp [St.new], HG.out, World.ownsMap_made _ _ _ _, HS.out.later (below_alloc1 _ _), HOK.out, hw3.alloc hw3.size _, (Below.heap_alloc _ _ _ (by omega)).trans hbx⟩
  case round =>
    clear hw3 HS HOK hbx HG hmm
    obtain ⟨k, s, D, n, hk, rfl, rfl, HN, HL, hgone, hown, hs, ok, hb, hbx⟩ := hrel
    have HS := Lib.hid hs
    have OK := Lib.hid ok
    have HBX := Lib.hid hbx
    have HGN := Lib.hid hgone
    have hgr := hs.lt
    have hMr := hown.lt
    have h32 : n ≤ 32 ∧ n + s.fuel ≤ 32 := by
      have h1 := HN.out
      have h2 : F * p.threads.length ≤ 8 * 4 := Nat.mul_le_mul (by omega) hn4
      omega
    obtain ⟨hn32, hs32⟩ := h32
    clear hs ok hbx hgone
    by_cases hlt : k < row.length
    · obtain ⟨rb, ro, rfl, hc⟩ := HROW.out.2 (by intro e; simp [e] at hlt)
      have d0 := cell_later hb (hc k hlt)
      clear hc
      generalize row[k] = t at *
      go_wp2_with fail
      refine (step_any HS.out OK.out t).mono ?_
      rcases s.step_cases t with ⟨i, hi, _, est⟩ | ⟨e, he, est⟩
      · obtain ⟨u, rfl, hu⟩ := St.ins_nat hi
        rw [est, stepV_ok]
        rintro r w5 ⟨rfl, hs5, ho5⟩
        dsimp only at hs5
        have hx := (OK.out.thr _ (St.th_mem hu)).2.2
        have hf8' := OK.out.f8
        have hfu := (St.ins_has hi).2.1
        simp only [Int.toNat_natCast] at hfu
        have h4 := OK.out.len4
        have HI := Lib.hid hi
        have hown5 := (ownsMap_block hown (ho5.block _ hMr (by omega))).alloc (.cells #[.int .i64 (s.ev u i).thread, .int .i64 (s.ev u i).kind, .int .i64 (s.ev u i).obj, .bool (s.ev u i).fail] 35)
        have HS5 := Lib.hid (hs5.later (below_alloc1 w5 (.cells #[.int .i64 (s.ev u i).thread, .int .i64 (s.ev u i).kind, .int .i64 (s.ev u i).obj, .bool (s.ev u i).fail] 35)))
        have hb5' := hb.trans (ho5.below hgw hb.size)
        have hb5 : Below w.heap.size w (w5.alloc (.cells #[.int .i64 (s.ev u i).thread, .int .i64 (s.ev u i).kind, .int .i64 (s.ev u i).obj, .bool (s.ev u i).fail] 35)) := hb5'.alloc hb5'.size _
        have HBX5 : Hid ((w5.alloc (.cells #[.int .i64 (s.ev u i).thread, .int .i64 (s.ev u i).kind, .int .i64 (s.ev u i).obj, .bool (s.ev u i).fail] 35)).heap[w.heap.size]? = some (.cells #[.int .i64 p.vars, .int .i64 p.mutexes, .slice a p.threads.length cap] 24 (0, 0))) := (Below.heap_alloc _ _ _ (by have := ho5.size; omega)).trans ((ho5.block _ (by omega) hgw1).trans HBX.out)
        have HOK5 := Lib.hid (OK.out.do_ok hi)
        have hz5 := hb5.size
        have hzM : w.heap.size ≤ w3.heap.size := by omega
        have hz6 : w.heap.size < (w5.alloc (.cells #[.int .i64 (s.ev u i).thread, .int .i64 (s.ev u i).kind, .int .i64 (s.ev u i).obj, .bool (s.ev u i).fail] 35)).heap.size := by have := ho5.size; simp; omega
        clear est hi hs5 ho5 hb hb5' hown HS HBX d0 hMr hgr
        have hkey : keyOf Try.prog 3 (.int .i64 (u : Int)) = some (.int .i64 u) := keyOf_int_mk Try.underlying3 (wf_small (by omega) (by omega))
        have HKEY := Lib.hid hkey
        clear hkey
        go_wp2_with (first
          | (at_lookup; refine wpList_lookup_own_int _ rfl _ _ 62 rfl 3 3 .i64 law_int Try.underlying62 Try.underlying3 (zero_int _) w3.heap.size k _ rfl hown5 _ _ rfl HKEY.out ?_; intro c hat hwc
             (have hce : c = (F : Int) - (s.th u).fuel := by (have h := HGN.out u hu; rw [hat] at h; simpa using h))
             (have HC := Lib.hid hce); (have hc0 : 0 ≤ c := by omega); (have hc8 : c + 1 ≤ F := by omega); clear hce hat hwc)
          | (at_mapUpdate; refine wpList_mapUpdate_own _ rfl _ _ _ 62 rfl 3 3 law_int Try.underlying62 _ w3.heap.size k _ rfl hown5 (by unfold maxLen; omega) _ _ _ rfl rfl HKEY.out _ [] (plainElem_int Try.underlying3 (wf_small (by omega) (by omega))) ?_; intro w6 hown6 hgrow6
             (have HIM := Lib.hid (hown5.isMap)); clear hown5)
          | (at_lookup; refine wpList_lookup_own_int _ rfl _ _ 62 rfl 3 3 .i64 law_int Try.underlying62 Try.underlying3 (zero_int _) w3.heap.size (k + 1) _ rfl hown6 _ _ rfl HKEY.out ?_; intro c2 hat2 hwc2
             (have hc2 : c2 = c + 1 := by (rw [atKey_put_same HIM.out (by simp [WideAt.IsKeyLit])] at hat2; simpa using hat2.symm)); subst hc2; clear hat2 hwc2))
        have ho6 := only_grown hgrow6
        go_roundw
        case rel =>
          refine ⟨k + 1, s.do_ u i, _, n + 1, by omega, by go_num, by go_num, ?_, ?_, ?_, hown6, ho6.stAt HS5.out (by omega), HOK5.out, hb5.trans (ho6.below hzM hz5), (ho6.block _ hz6 (by omega)).trans HBX5.out⟩
          · show _ = _
            have h1 := St.fuel_do HI.out
            have h2 := HN.out
            omega
          · show _ = _
            rw [← HL.out]
            simp [St.do_]
          · have := HGN.out.put HIM.out HI.out (by omega)
            rw [← HC.out] at this
            exact this
        case measure => simp [intOf]; omega
      · rw [est, stepV_err]
        rintro r w5 ⟨rfl, hs5, ho5⟩
        dsimp only at hs5
        have q0 : (e == 0) = false := by simp; omega
        have hown5 := (ownsMap_block hown (ho5.block _ hMr (by omega))).alloc (.cells #[.int .i64 0, .int .i64 0, .int .i64 0, .bool false] 35)
        have HS5 := Lib.hid (hs5.later (below_alloc1 w5 (.cells #[.int .i64 0, .int .i64 0, .int .i64 0, .bool false] 35)))
        have hb5' := hb.trans (ho5.below hgw hb.size)
        have hb5 : Below w.heap.size w (w5.alloc (.cells #[.int .i64 0, .int .i64 0, .int .i64 0, .bool false] 35)) := hb5'.alloc hb5'.size _
        have HBX5 : Hid ((w5.alloc (.cells #[.int .i64 0, .int .i64 0, .int .i64 0, .bool false] 35)).heap[w.heap.size]? = some (.cells #[.int .i64 p.vars, .int .i64 p.mutexes, .slice a p.threads.length cap] 24 (0, 0))) := (Below.heap_alloc _ _ _ (by have := ho5.size; omega)).trans ((ho5.block _ (by omega) hgw1).trans HBX.out)
        clear est he hs5 ho5 hb hb5' hown HS HBX d0
        go_wp2
        go_roundw
        case rel => exact ⟨k + 1, s, D, n, by omega, by go_num, rfl, HN, HL, HGN.out, hown5.mono (by omega), HS5.out, OK.out, hb5, HBX5.out⟩
        case measure => simp [intOf]; omega
    · obtain rfl : k = row.length := by omega
      clear hown HGN hMr
      go_wp2_with fail
      go_loopw [10, 15] (fun al i wr => ∃ (n j : Nat) (s : St), al = .int .i64 n ∧ i = .int .i64 j ∧ Hid (n + s.fuel = F * p.threads.length) ∧ j + s.fuel ≤ 32 ∧ StAt wr g s ∧ s.Ok F ∧ Below w.heap.size w wr ∧ wr.heap[w.heap.size]? = some (.cells #[.int .i64 p.vars, .int .i64 p.mutexes, .slice a p.threads.length cap] 24 (0, 0))) (fun _ i _ => 100 - (intOf i).toNat)
      case atStart => exact ⟨n, 0, s, rfl, rfl, HN, by omega, HS.out, OK.out, hb, HBX.out⟩
      case round =>
        clear HS OK HBX HN hb hn32 hs32 hgr HL
        obtain ⟨n, j, s, rfl, rfl, HN, hj, hs, ok, hb, hbx⟩ := hrel
        have HS := Lib.hid hs
        have OK := Lib.hid ok
        have HBX := Lib.hid hbx
        have hal := s.all_len
        have h4 := ok.len4
        have h2 : F * p.threads.length ≤ 8 * 4 := Nat.mul_le_mul (by omega) hn4
        have hn32 : n ≤ 32 := by have := HN.out; omega
        clear hs ok hbx
        go_wp2_with fail
        refine (all_any HS.out OK.out).mono ?_
        rintro r w5 ⟨v, rfl, hv, hb5⟩
        obtain ⟨a', cap', rfl, hnm, _⟩ := hv.form (by omega)
        have HS5 := Lib.hid (HS.out.later hb5)
        have hw5 := hb.trans (hb5.mono hb.size)
        have hbx5 : w5.heap[w.heap.size]? = some (.cells #[.int .i64 p.vars, .int .i64 p.mutexes, .slice a p.threads.length cap] 24 (0, 0)) := (hb5.block _ (Array.getElem?_eq_some_iff.1 HBX.out).1).trans HBX.out
        clear hv hb hb5 HS HBX hnm
        cases hall : s.all with
        | nil =>
          clear hall hal
          have c2 : w5.cell? ⟨w.heap.size, 2, none⟩ = some (.slice a p.threads.length cap) := by simp [World.cell?, hbx5]
          obtain ⟨m, hm⟩ : ∃ m : Nat, m = F * p.threads.length := ⟨_, rfl⟩
          have hmi : (F : Int) * (p.threads.length : Int) = (m : Int) := by rw [hm]; simp
          have hnm : n ≤ m := by have := HN.out; omega
          have HM := Lib.hid hmi
          have hm32 : m ≤ 32 := by omega
          have hwr : wrap64 ((F : Int) * (p.threads.length : Int)) = (m : Int) := by rw [hmi]; unfold wrap64; omega
          clear hm hmi hbx5 h2
          simp only [List.length_nil]
          go_wp2
          go_ret
          exact ⟨ret_bool (by simp), hw5⟩
        | cons t l =>
          have hmay := St.all_cons hall
          obtain ⟨i, hi, est⟩ := St.may_step hmay
          obtain ⟨u, rfl, hu⟩ := St.ins_nat hi
          have HALL := Lib.hid hall
          have HST := Lib.hid est
          have HI := Lib.hid hi
          have HBX5 := Lib.hid hbx5
          have hl4 : l.length ≤ 3 := by rw [hall] at hal; simp at hal; omega
          clear hall hmay est hi hbx5 hal
          simp only [List.length_cons]
          go_wp2_with fail
          refine (all_any HS5.out OK.out).mono ?_
          rw [HALL.out]
          rintro r w6 ⟨v6, rfl, hv6, hb6⟩
          obtain ⟨a6, cap6, rfl, hnm6, _⟩ := hv6.form (by simp; omega)
          obtain ⟨b6, o6, rfl, hc6⟩ := hnm6.2 (by simp)
          have d0 : w6.cell? ⟨b6, o6, none⟩ = some (.int .i64 u) := hc6 0 (by simp)
          have HS6 := Lib.hid (HS5.out.later hb6)
          have hw6 := hw5.trans (hb6.mono hw5.size)
          have HBX6 : Hid (w6.heap[w.heap.size]? = some (.cells #[.int .i64 p.vars, .int .i64 p.mutexes, .slice a p.threads.length cap] 24 (0, 0))) := (hb6.block _ (Array.getElem?_eq_some_iff.1 HBX5.out).1).trans HBX5.out
          clear hv6 hnm6 hc6 hb6 HS5 hw5 HBX5
          simp only [List.length_cons]
          go_wp2_with fail
          refine (step_any HS6.out OK.out u).mono ?_
          rw [HST.out, stepV_ok]
          rintro r w7 ⟨rfl, hs7, ho7⟩
          dsimp only at hs7
          have HS7 := Lib.hid hs7
          have hw7 := hw6.trans (ho7.below hgw hw6.size)
          have HBX7 : Hid (w7.heap[w.heap.size]? = some (.cells #[.int .i64 p.vars, .int .i64 p.mutexes, .slice a p.threads.length cap] 24 (0, 0))) := (ho7.block _ (Array.getElem?_eq_some_iff.1 HBX6.out).1 hgw1).trans HBX6.out
          have HOK7 := Lib.hid (OK.out.do_ok HI.out)
          have hfd := St.fuel_do HI.out
          clear hs7 ho7 hw6 HS6 HBX6 d0
          go_wp2
          go_roundw
          case rel => exact ⟨n + 1, j + 1, s.do_ u i, by go_num, by go_num, by show _ = _; have := HN.out; omega, by omega, HS7.out, HOK7.out, hw7, HBX7.out⟩
          case measure => simp [intOf]; omega

end Go.Proofs.Ytgofbejohihljaa
