/- The contract of the document's Print of events. -/
import Derived.Test.YtljlaopjimkcmaaEvPrint
namespace Go.Proofs.Ytljlaopjimkcmaa
open Go.RowKit

theorem run_bstr_any {w : World} {B : Nat} {v : Value} {ns : List Int} (h : OwnB w B v ns) : (convert 50 9 v).run Try.prog w = .ok (.string (bstr ns)) w := by
  by_cases hn : ns = []
  · subst hn
    obtain ⟨h1, ⟨h2, h3⟩ | ⟨g, cap, cur, h2, h3, h4, h5, h6, h7, h8⟩⟩ := h
    · subst h2
      rw [run_convert_bytes_string w _ _ 5 _ _ _ Try.underlying50 Try.underlying5 Try.underlying9]
      simp [Conv.bytesToString, bstr]
      rfl
    · subst h2
      rw [run_convert_bytes_string w _ _ 5 _ _ _ Try.underlying50 Try.underlying5 Try.underlying9]
      have hl := run_loadCells_list (P := Try.prog) w ⟨g, 0, none⟩ ([].map (Value.int .u8)) (by simp)
      rw [List.length_map] at hl
      have hb := run_bytesToString w ⟨g, 0, none⟩ _ cap [] hl
      exact hb
  · exact run_bstr h hn

set_option maxRecDepth 100000 in
set_option maxHeartbeats 1000000 in
theorem refEvPrint_any (a : Option Addr) (cap : Nat) (l : List Ev) (w : World) (hl : EvsAt w a l) (hm : l.length ≤ 1000000) :
    Calls Try.prog 30 #[.slice a l.length cap] w fun r w' => r = .returned (.string (bstr (printE l))) ∧ Below w.heap.size w w' := by
  have HL := Lib.hid hl
  clear hl
  go_enter Try.func30, Try.ntmps30
  go_wp2
  go_loopw [3, 4] (fun v i wr => ∃ (k : Nat) (ns : List Int), k ≤ l.length ∧ i = .int .i64 k ∧ Hid ((l.take k).all rightEv = true) ∧ Hid (ns = (l.take k).map evB) ∧ ns.length = k ∧ OwnB wr w.heap.size v ns ∧ Below w.heap.size w wr) (fun _ i _ => l.length - (intOf i).toNat)
  case atStart => exact ⟨0, [], Nat.zero_le _, rfl, rfl, rfl, rfl, World.ownsRow_nil _ _ _ _, Below.refl _ _⟩
  case round =>
    obtain ⟨k, ns, hk, rfl, HA, HN, hnl, hown, hb⟩ := hrel
    have HO := Lib.hid hown
    clear hown
    by_cases hlt : k < l.length
    · obtain ⟨b, o, rfl, hc⟩ := HL.out.2 (by intro e; simp [e] at hlt)
      obtain ⟨c0, c1, c2, c3⟩ := hc k hlt
      have d0 := cell_later hb c0
      have d1 := cell_later hb c1
      have d2 := cell_later hb c2
      have d3 := cell_later hb c3
      clear hc c0 c1 c2 c3
      have HT0 := Lib.hid (List.take_succ_eq_append_getElem hlt : l.take (k + 1) = l.take k ++ [l[k]])
      have HT : Hid (ns ++ [evB l[k]] = (l.take (k + 1)).map evB) := by
        show _ = _
        rw [List.take_succ_eq_append_getElem hlt, List.map_append, ← HN.out]
        rfl
      have HX := Lib.hid (List.getElem_mem hlt)
      generalize l[k] = x at *
      go_wp2_with fail
      refine (refEvRight_any x _).mono ?_
      rintro r w2 ⟨rfl, hb2⟩
      have HO2 := Lib.hid (ownsRow_later HO.out hb2)
      have hw2 : Below w.heap.size w w2 := hb.trans (hb2.mono hb.size)
      have e0 := cell_later hb2 d0
      have e1 := cell_later hb2 d1
      have e2 := cell_later hb2 d2
      have e3 := cell_later hb2 d3
      clear HO hb hb2 d0 d1 d2 d3
      cases hr : rightEv x
      · have HR : Hid (printE l = []) := by
          show _ = _
          unfold printE
          rw [if_neg]
          intro h
          rw [List.all_eq_true] at h
          rw [h x HX.out] at hr
          cases hr
        clear hr
        go_wp2
        go_ret
        exact ⟨ret_str (by rw [HR.out]; rfl), hw2⟩
      · have HR := Lib.hid hr
        clear hr
        go_wp2_with fail
        refine (refByte_any x HR.out _).mono ?_
        rintro r w3 ⟨rfl, hb3⟩
        have hown3 := ownsRow_later HO2.out hb3
        have hw3 : Below w.heap.size w w3 := hw2.trans (hb3.mono hw2.size)
        have bd := evB_bd HR.out
        have hwr : IntKind.u8.wrap (evB x) = evB x := IntWalk.u8_in _ (by omega)
        have hz := hw3.size
        clear e0 e1 e2 e3 HO2 hb3
        go_wp2_with (at_builtin; refine wp_appendB rfl (.tmp 17) (.tmp 24) rfl w.heap.size _ ns rfl (OwnB.alloc hown3 _) ⟨w3.heap.size, 0, none⟩ 1 1 rfl [evB x] rfl (bytes_new w3 [evB x] _ _ rfl) (by omega) (by simp; omega) ?_; intro v1 w4 hown4 hb4)
        have hb5 := (hw3.alloc hz _).trans hb4
        go_roundw
        case rel => exact ⟨k + 1, ns ++ [evB x], by omega, by go_num, (by show _ = _; rw [HT0.out, List.all_append, HA.out]; simp [HR.out]), HT, by simp; omega, hown4, hb5⟩
        case measure => simp [intOf]; omega
    · obtain rfl : k = l.length := by omega
      have hcv := run_bstr_any HO.out
      have HP : Hid (printE l = ns) := by
        show _ = _
        unfold printE
        have h := HA.out
        have h2 := HN.out
        rw [List.take_length] at h h2
        rw [if_pos h, h2]
      go_wp2
      go_ret
      exact ⟨ret_str (by rw [HP.out]), hb⟩

end Go.Proofs.Ytljlaopjimkcmaa
