/- FoataApart: no two events of a level depend on one another; each one of a later level depends on one of the level ahead. -/
import Derived.Test.YtfefidmbkbigoaaWake5
import Derived.Test.YtfefidmbkbigoaaClkRight
import Derived.Deep.DeepCutAuto
namespace Go.Proofs.Ytfefidmbkbigoaa
open Go.RowKit

theorem any_take_succ (f : Ev → Bool) {l : List Ev} {j : Nat} (h : j < l.length) : (l.take (j + 1)).any f = ((l.take j).any f || f (evI l j)) := by
  rw [List.take_succ_eq_append_getElem h, List.any_append, evI_get h]
  simp
theorem levelsF_right {l : List Ev} (h : rightL l = true) (hl : l.length ≤ 200) : levelsF l = lvls l := by
  unfold levelsF rightF
  rw [h]
  simp [hl]

set_option maxRecDepth 100000 in
set_option maxHeartbeats 8000000 in
theorem foataApart_any (a : Option Addr) (l : List Ev) (cap : Nat) (w : World) (hl : EvsAt w a l) :
    Calls Try.prog 8 #[.slice a l.length cap] w fun r w' => r = .returned (.bool true) ∧ Below w.heap.size w w' := by
  have hmx := hl.1
  unfold maxLen at hmx
  have HL := Lib.hid hl
  clear hl
  by_cases hlen : l.length ≤ 60
  case neg =>
    have hq : 60 < l.length := by omega
    clear hlen
    go_enter Try.func8, Try.ntmps8
    go_wp2_with fail
    refine (awake5_any w).mono ?_
    rintro r w1 ⟨rfl, hb1⟩
    go_wp2_with fail
    refine (awake5_any w1).mono ?_
    rintro r w2 ⟨rfl, hb2⟩
    go_wp2
    go_ret
    exact ⟨rfl, hb1.trans (hb2.mono hb1.size)⟩
  have hq40 : decide ((60 : Int) < (l.length : Int)) = false := by simp; omega
  have hq41 : decide (60 < l.length) = false := by simp; omega
  cases hr : rightL l
  case false =>
    have HR := Lib.hid hr
    clear hr
    go_enter Try.func8, Try.ntmps8
    go_wp2_with fail
    refine (awake5_any w).mono ?_
    rintro r w1 ⟨rfl, hb1⟩
    go_wp2_with fail
    refine (rows_any a cap l w1 (HL.out.later hb1)).mono ?_
    rintro r w2 ⟨rfl, hb2⟩
    rw [HR.out]
    go_wp2_with fail
    refine (awake5_any w2).mono ?_
    rintro r w3 ⟨rfl, hb3⟩
    have hb4 := (hb1.trans (hb2.mono hb1.size))
    go_wp2
    go_ret
    exact ⟨rfl, hb4.trans (hb3.mono hb4.size)⟩
  have HLF := Lib.hid (levelsF_right hr (by omega))
  have HR := Lib.hid hr
  clear hr
  go_enter Try.func8, Try.ntmps8
  go_wp2_with fail
  refine (awake5_any w).mono ?_
  rintro r w1 ⟨rfl, hb1⟩
  go_wp2_with fail
  refine (rows_any a cap l w1 (HL.out.later hb1)).mono ?_
  rintro r w2 ⟨rfl, hb2⟩
  rw [HR.out]
  have hbw := hb1.trans (hb2.mono hb1.size)
  clear hb1 hb2
  go_wp2_with fail
  refine (levels_any a cap l w2 (HL.out.later hbw)).mono ?_
  rintro r w3 ⟨v, ss, rfl, hv, hb3⟩
  have hb4 := hbw.trans (hb3.mono hbw.size)
  obtain ⟨a2, cap2, rfl, hat, _⟩ := OwnLv.formF hv
  have HAT := Lib.hid hat
  rw [HLF.out] at HAT
  rw [HLF.out]
  have HOK := Lib.hid (lvls_ok l)
  have HCN := Lib.hid (lvls_count l)
  have HSM : Hid (∀ i, ((lvls l).getD i []).length ≤ 60) := fun i => by have := lv_small l i; omega
  have hml : (lvls l).length ≤ 60 := by have := lv_count l; omega
  have HFT : Hid (∀ k, k < (lvls l).length → ((lvls l).take (k + 1)).flatten.length = ((lvls l).take k).flatten.length + ((lvls l).getD k []).length) := fun k hk => by rw [flat_take _ hk, List.length_append]
  have HFL : Hid (∀ k, ((lvls l).take k).flatten.length ≤ 60) := fun k => by have := flat_le (lvls l) k; have := lvls_count l; omega
  have HFE : Hid (((lvls l).take (lvls l).length).flatten.length = l.length) := by show _ = _; rw [List.take_length]; exact lvls_count l
  clear hv hat hbw hb3
  generalize lvls l = m at *
  go_wp2_with fail
  clear hq40 hq41
  go_loopw [4, 31] (fun s4 i wr => ∃ (k N : Nat), k ≤ m.length ∧ i = .int .i64 k ∧ s4 = .int .i64 N ∧ Hid (N = (m.take k).flatten.length) ∧ Hid (Below w3.heap.size w3 wr)) (fun _ i _ => m.length - (intOf i).toNat)
  case atStart => exact ⟨0, 0, Nat.zero_le _, rfl, rfl, rfl, Below.refl _ _⟩
  case round =>
    obtain ⟨k, N, hk, rfl, rfl, HN, HB⟩ := hrel
    by_cases hlt : k < m.length
    · obtain ⟨b, o, sa, sc, rfl, t0, he, hsc⟩ := HAT.out.room hlt
      have c0 := cell_later HB.out t0
      have HE := Lib.hid he
      have hN60 : N ≤ 60 := by rw [HN.out]; exact HFL.out k
      have hL60 := HSM.out k
      have HN2 : Hid (N + (m.getD k []).length = (m.take (k + 1)).flatten.length) := by show _ = _; rw [HFT.out k hlt, HN.out]
      have HAP := Lib.hid (HOK.out.apart k hlt)
      have HON : Hid (∀ i, k = i + 1 → ∀ e ∈ m.getD k [], ∃ x ∈ m.getD i [], dep x e = true) := fun i hi e he => by subst hi; exact HOK.out.on i hlt e he
      clear t0 he
      generalize hrow : m.getD k [] = row at *
      have HROW := Lib.hid hrow
      clear hrow
      have hw : IntKind.i64.wrap ((N : Int) + row.length) = (N : Int) + row.length := IntWalk.i64_in _ (by omega)
      go_wp2_with fail
      clear hw
      go_loopw [42] (fun i wr => ∃ j : Nat, j ≤ row.length ∧ i = .int .i64 j ∧ Hid (Below w3.heap.size w3 wr)) (fun i _ => row.length - (intOf i).toNat)
      case atStart => exact ⟨0, Nat.zero_le _, rfl, HB.out⟩
      case round =>
        obtain ⟨j, hj, rfl, HB2⟩ := hrel
        by_cases hjl : j < row.length
        · obtain ⟨b3, o3, rfl, x0, x1, x2, x3⟩ := HE.out.one hjl
          have y0 := cell_later HB2.out x0
          have y1 := cell_later HB2.out x1
          have y2 := cell_later HB2.out x2
          have y3 := cell_later HB2.out x3
          have hjsc : j ≤ sc := by omega
          clear x0 x1 x2 x3 c0
          have HBX := Lib.hid (EvBox.new wr (evI row j))
          have hba := below_alloc1 wr (.cells #[.int .i64 (evI row j).thread, .int .i64 (evI row j).kind, .int .i64 (evI row j).obj, .bool (evI row j).fail] 28)
          have HB3 := Lib.hid (HB2.out.trans (hba.mono HB2.out.size))
          have HDP : Hid (∀ t, t < j → dep (evI row t) (evI row j) = false) := fun t ht => by
            rw [evI_get hjl, evI_get (show t < row.length by omega)]
            exact (List.pairwise_iff_getElem.1 HAP.out) t j (by omega) hjl ht
          have HPR : Hid (∀ i, k = i + 1 → ((m.getD i []).any fun x => dep x (evI row j)) = true) := fun i hi => by
            obtain ⟨x, hx, hd⟩ := HON.out i hi (evI row j) (evI_mem hjl)
            exact List.any_eq_true.2 ⟨x, hx, hd⟩
          go_wp2_with fail
          generalize wr.alloc (.cells #[.int .i64 (evI row j).thread, .int .i64 (evI row j).kind, .int .i64 (evI row j).obj, .bool (evI row j).fail] 28) = W0 at *
          generalize evI row j = e at *
          generalize wr.heap.size = gb at *
          clear y0 y1 y2 y3 hba
          go_loopw [51] (fun i wr => ∃ t : Nat, t ≤ j ∧ i = .int .i64 t ∧ Hid (Below W0.heap.size W0 wr)) (fun i _ => j - (intOf i).toNat)
          case atStart => exact ⟨0, Nat.zero_le _, rfl, Below.refl _ _⟩
          case round =>
            obtain ⟨t, ht, rfl, HB4⟩ := hrel
            obtain ⟨z0, z1, z2, z3⟩ := (HBX.out.later HB4.out).cells
            have HB5 := Lib.hid (HB3.out.trans (HB4.out.mono HB3.out.size))
            by_cases htl : t < j
            · obtain ⟨b4, o4, e4, x0, x1, x2, x3⟩ := HE.out.one (show t < row.length by omega)
              injection e4 with e4
              injection e4 with e4 e5
              subst e4 e5
              have y0 := cell_later HB5.out x0
              have y1 := cell_later HB5.out x1
              have y2 := cell_later HB5.out x2
              have y3 := cell_later HB5.out x3
              have HD := Lib.hid (HDP.out t htl)
              clear x0 x1 x2 x3
              have hz := (HBX.out.later HB4.out).lt
              generalize evI row t = x at *
              go_wp2_with fail
              refine (refDepends_any x e _).mono ?_
              rintro r w5 ⟨rfl, hb5⟩
              rw [HD.out]
              have HB6 : Hid (Below W0.heap.size W0 w5) := (HB4.out.trans ((below_alloc1 wr _).mono HB4.out.size)).trans (hb5.mono (by simp; have := HB4.out.size; omega))
              clear hb5
              go_wp2
              go_roundw
              case rel => exact ⟨t + 1, by omega, by go_num, HB6.out⟩
              case measure => simp [intOf]; omega
            · obtain rfl : t = j := by omega
              by_cases hk0 : k = 0
              · have hq1 : ((k : Int) == 0) = true := by simp [hk0]
                have hq2 : decide ((0 : Int) < (k : Int)) = false := by simp [hk0]
                have hq3 : ¬ 0 < k := by omega
                have HK0 := Lib.hid hk0
                clear hk0
                go_wp2
                go_roundw
                case rel => exact ⟨t + 1, by omega, by go_num, HB5.out⟩
                case measure => simp [intOf]; omega
              · have hq1 : ((k : Int) == 0) = false := by simp; omega
                have hq2 : decide ((0 : Int) < (k : Int)) = true := by simp; omega
                have hq3 : 0 < k := by omega
                obtain ⟨i, hi⟩ : ∃ i : Nat, k = i + 1 := ⟨k - 1, by omega⟩
                have hi2 : (k : Int) - 1 = i := by omega
                have hwi : IntKind.i64.wrap (i : Int) = i := IntWalk.i64_in _ (by omega)
                have hwk : IntKind.i64.wrap ((k : Int) - 1) = i := by rw [hi2]; exact hwi
                obtain ⟨b5, o5, sa5, sc5, e5, t5, he5, _⟩ := HAT.out.one (k := i) (by omega)
                injection e5 with e5
                injection e5 with e5 e6
                subst e5 e6
                have c5 := cell_later HB5.out t5
                have HE5 := Lib.hid he5
                have HP5 := Lib.hid (HPR.out i hi)
                have hL5 := HSM.out i
                have him : (i : Int) < (m.length : Int) := by omega
                have him0 : (0 : Int) ≤ i := by omega
                have HII := Lib.hid hi
                clear t5 he5 hi hi2 hwi
                generalize m.getD i [] = prev at *
                have HPI : Hid ((prev.any fun x => dep x e) = true) := HP5.out
                go_wp2_with fail
                go_loopw [11, 69] (fun s11 i wr => ∃ (u : Nat) (f : Bool), u ≤ prev.length ∧ i = .int .i64 u ∧ s11 = .bool f ∧ Hid (f = (prev.take u).any fun x => dep x e) ∧ Hid (Below W0.heap.size W0 wr)) (fun _ i _ => prev.length - (intOf i).toNat)
                case atStart => exact ⟨0, false, Nat.zero_le _, rfl, rfl, rfl, HB4.out⟩
                case round =>
                  obtain ⟨u, f, hu, rfl, rfl, HF, HB7⟩ := hrel
                  obtain ⟨z0, z1, z2, z3⟩ := (HBX.out.later HB7.out).cells
                  have HB8 := Lib.hid (HB3.out.trans (HB7.out.mono HB3.out.size))
                  by_cases hul : u < prev.length
                  · obtain ⟨b8, o8, rfl, x0, x1, x2, x3⟩ := HE5.out.one hul
                    have y0 := cell_later HB8.out x0
                    have y1 := cell_later HB8.out x1
                    have y2 := cell_later HB8.out x2
                    have y3 := cell_later HB8.out x3
                    have HT := Lib.hid (any_take_succ (fun x => dep x e) hul)
                    have hz := (HBX.out.later HB7.out).lt
                    clear x0 x1 x2 x3
                    generalize evI prev u = x at *
                    cases f
                    · go_wp2_with fail
                      refine (refDepends_any x e _).mono ?_
                      rintro r w5 ⟨rfl, hb5⟩
                      have HB9 : Hid (Below W0.heap.size W0 w5) := (HB7.out.trans ((below_alloc1 wr _).mono HB7.out.size)).trans (hb5.mono (by simp; have := HB7.out.size; omega))
                      clear hb5
                      go_wp2
                      go_roundw
                      case rel => exact ⟨u + 1, _, by omega, by go_num, rfl, (by show _ = _; rw [HT.out, ← HF.out]; simp), HB9.out⟩
                      case measure => simp [intOf]; omega
                    · have HB9 : Hid (Below W0.heap.size W0 (wr.alloc (.cells #[.int .i64 x.thread, .int .i64 x.kind, .int .i64 x.obj, .bool x.fail] 28))) := HB7.out.trans ((below_alloc1 wr _).mono HB7.out.size)
                      go_wp2
                      go_roundw
                      case rel => exact ⟨u + 1, _, by omega, by go_num, rfl, (by show _ = _; rw [HT.out, ← HF.out]; simp), HB9.out⟩
                      case measure => simp [intOf]; omega
                  · have HFT2 : Hid (f = true) := by
                      show _ = _
                      rw [HF.out, List.take_of_length_le (by omega)]
                      exact HPI.out
                    obtain rfl : f = true := HFT2.out
                    go_wp2
                    go_roundw
                    case rel => exact ⟨t + 1, by omega, by go_num, HB8.out⟩
                    case measure => simp [intOf]; omega
        · obtain rfl : j = row.length := by omega
          go_wp2
          go_roundw
          case rel => exact ⟨k + 1, N + row.length, by omega, by go_num, by go_num, HN2, HB2.out⟩
          case measure => simp [intOf]; omega
    · obtain rfl : k = m.length := by omega
      have HEQ : Hid (N = l.length) := by show _ = _; rw [HN.out]; exact HFE.out
      obtain rfl : N = l.length := HEQ.out
      go_wp2
      go_ret
      exact ⟨by simp, hb4.trans (HB.out.mono hb4.size)⟩

end Go.Proofs.Ytfefidmbkbigoaa
