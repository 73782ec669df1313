import Derived.Test.YtbmhcnldcfaipaaPk01
import Derived.Test.YtbmhcnldcfaipaaPk05

/- The contracts of the document's Child and Blocked. -/
namespace Go.Proofs.Ytbmhcnldcfaipaa
open Go.RowKit

theorem evR_one (o : Option Ev) : evR o = .tuple #[.agg #[.int .i64 (o.getD ev0).thread, .int .i64 (o.getD ev0).kind, .int .i64 (o.getD ev0).obj, .bool (o.getD ev0).fail], .bool o.isSome] := rfl
theorem child_step {nx : Int → Option Ev} {e : Ev} {asl ear : Nat} {t : Int} {k : Nat} (h : nx t = some e) : childO nx asl ear t k = (decide ((k : Int) ≠ t) && (asl.testBit k || ear.testBit k) && (nx (k : Int)).isSome && !dep ((nx (k : Int)).getD ev0) e) := by
  unfold childO
  rw [h]
  cases nx (k : Int) with
  | none => simp
  | some x => simp
theorem refInBits_any {n : Nat} (a : Option Addr) (cap : Nat) (x : Int) (w : World) (hl : NumsAt w a (ints (bitsL n))) :
    Calls Try.prog 11 #[.slice a (bitsL n).length cap, .int .i64 x] w fun r w' => r = .returned (.bool (hasB n x)) ∧ w = w' := by
  have h8 := bitsL_len n
  have := refIn_any a cap (ints (bitsL n)) x w hl (by rw [ints_len]; omega)
  rw [ints_len, mem_has] at this
  exact this

set_option maxRecDepth 100000 in
set_option maxHeartbeats 4000000 in
theorem refChild_gen (g : Addr) (nx : Int → Option Ev) (asl ear : Nat) (aa ae : Option Addr) (ca ce : Nat) (t : Int) (w : World)
    (hasl : NumsAt w aa (ints (bitsL asl))) (hear : NumsAt w ae (ints (bitsL ear)))
    (hn : ∀ W, Below w.heap.size w W → ∀ t, Calls Try.prog 37 #[.pointer (some g), .int .i64 t] W fun r w' => r = .returned (evR (nx t)) ∧ Below W.heap.size W w') :
    Calls Try.prog 23 #[.pointer (some g), .slice aa (bitsL asl).length ca, .slice ae (bitsL ear).length ce, .int .i64 t] w fun r w' => ∃ v, r = .returned v ∧ OwnN w' w.heap.size v (ints (childTo nx asl ear t 8)) ∧ Below w.heap.size w w' := by
  have HN := Lib.hid hn
  have HASL := Lib.hid hasl
  have HEAR := Lib.hid hear
  clear hn hasl hear
  cases h : nx t with
  | none =>
    have HC := Lib.hid (child_none (asl := asl) (ear := ear) h 8)
    have H := Lib.hid h
    clear h
    go_enter Try.func23, Try.ntmps23
    go_wp2_with fail
    refine (HN.out w (Below.refl _ _) t).mono ?_
    rw [H.out, evR_none]
    rintro r w1 ⟨rfl, hb1⟩
    have hz := hb1.size
    go_wp2
    go_loopw [9, 12] (fun v i wr => v = .slice none 0 0 ∧ Hid (Below w.heap.size w wr)) (fun _ i _ => 0)
    case atStart => exact ⟨rfl, hb1.alloc hz _⟩
    case round =>
      obtain ⟨rfl, HW⟩ := hrel
      go_wp2
      go_ret
      exact ⟨_, rfl, by rw [HC.out]; exact ownN_nil _ _, HW.out⟩
  | some e =>
    have HCS := Lib.hid (fun k => child_step (asl := asl) (ear := ear) (k := k) h)
    have H := Lib.hid h
    clear h
    go_enter Try.func23, Try.ntmps23
    go_wp2_with fail
    refine (HN.out w (Below.refl _ _) t).mono ?_
    rw [H.out, evR_some]
    rintro r w1 ⟨rfl, hb1⟩
    have hz1 := hb1.size
    have HX : Hid (EvBox (w1.alloc (.cells #[.int .i64 e.thread, .int .i64 e.kind, .int .i64 e.obj, .bool e.fail] 54)) w1.heap.size e) := EvBox.new w1 e
    have HB2 := Lib.hid (hb1.alloc hz1 (.cells #[.int .i64 e.thread, .int .i64 e.kind, .int .i64 e.obj, .bool e.fail] 54))
    clear hb1
    go_wp2_with fail
    generalize w1.alloc (.cells #[.int .i64 e.thread, .int .i64 e.kind, .int .i64 e.obj, .bool e.fail] 54) = W2 at *
    have hz2 := HB2.out.size
    go_loopw [9, 12] (fun v i wr => ∃ k : Nat, k ≤ 8 ∧ i = .int .i64 k ∧ Hid (OwnN wr W2.heap.size v (ints (childTo nx asl ear t k))) ∧ Hid (Below W2.heap.size W2 wr)) (fun _ i _ => 8 - (intOf i).toNat)
    case atStart => exact ⟨0, Nat.zero_le _, rfl, ownN_nil _ _, Below.refl _ _⟩
    case round =>
      obtain ⟨k, hk, rfl, hown, HW⟩ := hrel
      have hzw := HW.out.size
      have HBW := Lib.hid (HB2.out.trans (HW.out.mono hz2))
      by_cases hlt : k < 8
      · have HC := Lib.hid (HCS.out k)
        have HY := Lib.hid (childTo_yes (nx := nx) (asl := asl) (ear := ear) (t := t) (k := k))
        have HNO := Lib.hid (childTo_no (nx := nx) (asl := asl) (ear := ear) (t := t) (k := k))
        have hle := childTo_len nx asl ear t k
        rw [← ints_len] at hle
        have HA := Lib.hid (hasB_nat asl hlt)
        have HE := Lib.hid (hasB_nat ear hlt)
        go_wp2_with fail
        refine (HN.out wr HBW.out _).mono ?_
        rw [evR_one]
        rintro r w4 ⟨rfl, hb4⟩
        have hz4 := hb4.size
        have hbx := hb4.alloc hz4 (.cells #[.int .i64 ((nx (k : Int)).getD ev0).thread, .int .i64 ((nx (k : Int)).getD ev0).kind, .int .i64 ((nx (k : Int)).getD ev0).obj, .bool ((nx (k : Int)).getD ev0).fail] 54)
        have HW5 := Lib.hid (HW.out.trans (hbx.mono HW.out.size))
        have HX5 := Lib.hid (HX.out.later HW5.out)
        have hown2 := Lib.hid (hown.out.later hbx)
        obtain ⟨e0, e1, e2, e3⟩ := HX5.out.cells
        obtain ⟨x0, x1, x2, x3⟩ := (EvBox.new w4 ((nx (k : Int)).getD ev0)).cells
        have HB5 := Lib.hid (HB2.out.trans (HW5.out.mono hz2))
        have HASL5 := Lib.hid (HASL.out.later HB5.out)
        have HEAR5 := Lib.hid (HEAR.out.later HB5.out)
        have hz5 := HW5.out.size
        clear hbx hb4 hown
        by_cases hkt : (k : Int) = t
        · have hq : ((k : Int) != t) = false := by simp [hkt]
          have HS := Lib.hid (HNO.out (by rw [HC.out]; simp [hkt]))
          clear HC
          have hq2 := hq
          clear hkt
          go_wp2
          go_roundw
          case rel => exact ⟨k + 1, by omega, by go_num, by show OwnN _ _ _ _; rw [HS.out]; exact hown2.out, HW5.out⟩
          case measure => simp [intOf]; omega
        · have hq : ((k : Int) != t) = true := by simp [hkt]
          go_wp2_with fail
          refine (refInBits_any aa ca (k : Int) _ HASL5.out).mono ?_
          rintro r w' ⟨rfl, rfl⟩
          rw [HA.out]
          cases hA : asl.testBit k
          · go_wp2_with fail
            refine (refInBits_any ae ce (k : Int) _ HEAR5.out).mono ?_
            rintro r w' ⟨rfl, rfl⟩
            rw [HE.out]
            cases hE : ear.testBit k
            · have HS := Lib.hid (HNO.out (by rw [HC.out, hA, hE]; simp))
              go_wp2
              go_roundw
              case rel => exact ⟨k + 1, by omega, by go_num, by show OwnN _ _ _ _; rw [HS.out]; exact hown2.out, HW5.out⟩
              case measure => simp [intOf]; omega
            · have hab : (asl.testBit k || ear.testBit k) = true := by rw [hA, hE]; rfl
              cases hi : (nx (k : Int)).isSome
              · have HS := Lib.hid (HNO.out (by rw [HC.out, hi]; simp))
                clear hq
                go_wp2
                go_roundw
                case rel => exact ⟨k + 1, by omega, by go_num, by show OwnN _ _ _ _; rw [HS.out]; exact hown2.out, HW5.out⟩
                case measure => simp [intOf]; omega
              · go_wp2_with fail
                refine (refDepends_any _ e _).mono ?_
                rintro r w6 ⟨rfl, hb6⟩
                have HW6 := Lib.hid (HW5.out.trans (hb6.mono HW5.out.size))
                have hown6 := Lib.hid (hown2.out.later hb6)
                have hz6 := HW6.out.size
                clear hb6 e0 e1 e2 e3 x0 x1 x2 x3 HX5
                cases hd : dep ((nx (k : Int)).getD ev0) e
                · have HS := Lib.hid (HY.out (by rw [HC.out, hi, hd, hab]; simp [hkt]))
                  clear hd hi
                  go_wp2_with (at_builtin; refine wp_appendN rfl (.tmp 58) (.tmp 60) rfl W2.heap.size _ (ints (childTo nx asl ear t k)) rfl (hown6.out.alloc _) ⟨w6.heap.size, 0, none⟩ 1 1 rfl [(k : Int)] rfl (nums_new w6 [(k : Int)] _ _ rfl) (by simp; omega) (by simp; omega) ?_; intro v1 w7 hown7 hb7 _)
                  have hb8 := (HW6.out.alloc hz6 _).trans hb7
                  go_roundw
                  case rel => exact ⟨k + 1, by omega, by go_num, by show OwnN _ _ _ _; rw [HS.out]; exact hown7, hb8⟩
                  case measure => simp [intOf]; omega
                · have HS := Lib.hid (HNO.out (by rw [HC.out, hd]; simp))
                  clear hd hi
                  go_wp2
                  go_roundw
                  case rel => exact ⟨k + 1, by omega, by go_num, by show OwnN _ _ _ _; rw [HS.out]; exact hown6.out, HW6.out⟩
                  case measure => simp [intOf]; omega
          · have hab : (asl.testBit k || ear.testBit k) = true := by rw [hA]; rfl
            cases hi : (nx (k : Int)).isSome
            · have HS := Lib.hid (HNO.out (by rw [HC.out, hi]; simp))
              clear hq
              go_wp2
              go_roundw
              case rel => exact ⟨k + 1, by omega, by go_num, by show OwnN _ _ _ _; rw [HS.out]; exact hown2.out, HW5.out⟩
              case measure => simp [intOf]; omega
            · go_wp2_with fail
              refine (refDepends_any _ e _).mono ?_
              rintro r w6 ⟨rfl, hb6⟩
              have HW6 := Lib.hid (HW5.out.trans (hb6.mono HW5.out.size))
              have hown6 := Lib.hid (hown2.out.later hb6)
              have hz6 := HW6.out.size
              clear hb6 e0 e1 e2 e3 x0 x1 x2 x3 HX5
              cases hd : dep ((nx (k : Int)).getD ev0) e
              · have HS := Lib.hid (HY.out (by rw [HC.out, hi, hd, hab]; simp [hkt]))
                clear hd hi
                go_wp2_with (at_builtin; refine wp_appendN rfl (.tmp 58) (.tmp 60) rfl W2.heap.size _ (ints (childTo nx asl ear t k)) rfl (hown6.out.alloc _) ⟨w6.heap.size, 0, none⟩ 1 1 rfl [(k : Int)] rfl (nums_new w6 [(k : Int)] _ _ rfl) (by simp; omega) (by simp; omega) ?_; intro v1 w7 hown7 hb7 _)
                have hb8 := (HW6.out.alloc hz6 _).trans hb7
                go_roundw
                case rel => exact ⟨k + 1, by omega, by go_num, by show OwnN _ _ _ _; rw [HS.out]; exact hown7, hb8⟩
                case measure => simp [intOf]; omega
              · have HS := Lib.hid (HNO.out (by rw [HC.out, hd]; simp))
                clear hd hi
                go_wp2
                go_roundw
                case rel => exact ⟨k + 1, by omega, by go_num, by show OwnN _ _ _ _; rw [HS.out]; exact hown6.out, HW6.out⟩
                case measure => simp [intOf]; omega
      · obtain rfl : k = 8 := by omega
        go_wp2
        go_ret
        exact ⟨_, rfl, ownN_low hown.out hz2, HBW.out⟩

theorem blocked_to {all : List Int} {asl k : Nat} (hk : k < all.length) (h : (all.take k).all (hasB asl) = true) : (all.take (k + 1)).all (hasB asl) = hasB asl all[k] := by
  rw [List.take_succ_eq_append_getElem hk, List.all_append, h]
  simp
theorem blocked_stop {all : List Int} {asl k : Nat} (hk : k < all.length) (h : hasB asl all[k] = false) : blockedB all asl = false := by
  unfold blockedB
  have : all.all (hasB asl) = false := by
    rw [Bool.eq_false_iff]
    intro h2
    rw [List.all_eq_true.1 h2 _ (List.getElem_mem hk)] at h
    cases h
  rw [this, Bool.and_false]
theorem blocked_end {all : List Int} {asl : Nat} (h : all.all (hasB asl) = true) : blockedB all asl = decide (0 < all.length) := by
  unfold blockedB
  rw [h]
  cases all with
  | nil => rfl
  | cons x l => simp

set_option maxRecDepth 100000 in
set_option maxHeartbeats 4000000 in
theorem refBlocked_gen (g : Addr) (all : List Int) (hm : all.length ≤ 1000) (asl : Nat) (aa : Option Addr) (ca : Nat) (w : World)
    (hasl : NumsAt w aa (ints (bitsL asl)))
    (hn : Calls Try.prog 40 #[.pointer (some g)] w fun r w' => ∃ v, r = .returned v ∧ OwnN w' w.heap.size v all ∧ Below w.heap.size w w') :
    Calls Try.prog 25 #[.pointer (some g), .slice aa (bitsL asl).length ca] w fun r w' => r = .returned (.bool (blockedB all asl)) ∧ Below w.heap.size w w' := by
  have HN := Lib.hid hn
  have HASL := Lib.hid hasl
  clear hn hasl
  go_enter Try.func25, Try.ntmps25
  go_wp2_with fail
  refine HN.out.mono ?_
  rintro r w1 ⟨v, rfl, hv, hb1⟩
  obtain ⟨a3, c3, rfl, hr3, _⟩ := hv.form (by omega)
  have HR := Lib.hid hr3
  have HA1 := Lib.hid (HASL.out.later hb1)
  have HB1 := Lib.hid hb1
  clear hv hr3 hb1
  go_wp2
  go_loopw [6] (fun i wr => ∃ k : Nat, k ≤ all.length ∧ i = .int .i64 k ∧ Hid ((all.take k).all (hasB asl) = true) ∧ wr = w1) (fun i _ => all.length - (intOf i).toNat)
  case atStart => exact ⟨0, Nat.zero_le _, rfl, by show _ = _; simp, rfl⟩
  case round =>
    obtain ⟨k, hk, rfl, HT, rfl⟩ := hrel
    by_cases hlt : k < all.length
    · obtain ⟨b, o, rfl, hck⟩ := num_at HR.out hlt
      have HS := Lib.hid (blocked_to hlt HT.out)
      have HO := Lib.hid (blocked_stop (asl := asl) hlt)
      go_wp2_with fail
      refine (refInBits_any aa ca all[k] _ HA1.out).mono ?_
      rintro r w' ⟨rfl, rfl⟩
      cases hA : hasB asl all[k]
      · have HF := Lib.hid (HO.out hA)
        go_wp2
        go_ret
        exact ⟨by rw [HF.out]; rfl, HB1.out⟩
      · have HF := Lib.hid (HS.out.trans hA)
        go_wp2
        go_roundw
        case rel => exact ⟨k + 1, by omega, by go_num, HF.out, by trivial⟩
        case measure => simp [intOf]; omega
    · obtain rfl : k = all.length := by omega
      have HF : Hid (blockedB all asl = decide (0 < all.length)) := blocked_end (by have := HT.out; rwa [List.take_length] at this)
      go_wp2
      go_ret
      exact ⟨by rw [HF.out]; rfl, HB1.out⟩

set_option maxRecDepth 100000 in
theorem refChild_nil (x y : Value) (t : Int) (w : World) :
    Calls Try.prog 23 #[.pointer none, x, y, .int .i64 t] w fun r w' => r = .returned (.slice none 0 0) ∧ w = w' := by
  go_enter Try.func23, Try.ntmps23
  go_wp2
  go_ret
  exact ⟨rfl, rfl⟩
set_option maxRecDepth 100000 in
theorem refBlocked_nil (x : Value) (w : World) :
    Calls Try.prog 25 #[.pointer none, x] w fun r w' => r = .returned (.bool false) ∧ w = w' := by
  go_enter Try.func25, Try.ntmps25
  go_wp2
  go_ret
  exact ⟨rfl, rfl⟩

end Go.Proofs.Ytbmhcnldcfaipaa

/- Arguments that are bytes, opened. -/
namespace Go.Proofs.Ytbmhcnldcfaipaa
open Go.RowKit Go.Deep Go.Joins Go.WideShapes Go.ChangeShapes

section
variable {H : Type} {enc : TypeId × Value → H} {W : World} {base : Nat} {spare : Nat → Bool} {held : Bool}

theorem wf_byte {n : Int} (h : (Lit.int .u8 n).wf = true) : 0 ≤ n ∧ n < 256 := by
  simp [Lit.wf, IntKind.min, IntKind.max, IntKind.signed, IntKind.bits] at h
  omega

set_option maxRecDepth 100000 in
theorem u8_of_trod {r : Reach} {b0 : Nat} {v : Value} {d : DataW H} {p : List MemPlace} (hv : Value.okWide Try.prog W r b0 5 v) (h : DataW.Trod enc Try.prog W base spare held 5 v d p) :
    ∃ n : Nat, v = .int .u8 n ∧ n < 256 := by
  obtain ⟨n, rfl, _, _, hw⟩ := open_int Try.underlying5 hv h
  obtain ⟨h0, h1⟩ := wf_byte hw
  exact ⟨n.toNat, by rw [Int.toNat_of_nonneg h0], by omega⟩

end
end Go.Proofs.Ytbmhcnldcfaipaa
