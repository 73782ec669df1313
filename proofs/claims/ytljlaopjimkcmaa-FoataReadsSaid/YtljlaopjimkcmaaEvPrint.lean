/- The contracts of event's Print and Threads. -/
import Derived.Test.YtljlaopjimkcmaaEvByte
import Derived.Test.YtljlaopjimkcmaaMem
import Derived.Test.YtljlaopjimkcmaaBytes
import Derived.Test.YtljlaopjimkcmaaMidRow
namespace Go.Proofs.Ytljlaopjimkcmaa
open Go.RowKit

theorem run_bstr_mid {w : World} {g n c : Nat} {ns : List Int} (h : MidAt w g 5 (ns.map (Value.int .u8))) (hn : n = ns.length) : (convert 50 9 (.slice (some ⟨g, 0, none⟩) n c)).run Try.prog w = .ok (.string (bstr ns)) w := by
  subst hn
  rw [run_convert_bytes_string w _ _ 5 _ _ _ Try.underlying50 Try.underlying5 Try.underlying9]
  have hl := run_loadCells_list (P := Try.prog) w ⟨g, 0, none⟩ (ns.map (Value.int .u8)) (fun j u hj => by
    have e : Addr.add ⟨g, 0, none⟩ j = ⟨g, j, none⟩ := by
      unfold Addr.add
      split
      · rename_i h0; subst h0; rfl
      · simp
    rw [e, h.cell]
    exact hj)
  rw [List.length_map] at hl
  rw [run_bytesToString w _ _ _ ns hl, foldl_bstr]
  have e : ByteArray.empty.data = #[] := rfl
  rw [e, Array.empty_append]
  rfl

theorem ret_str {a b : ByteArray} (h : a = b) : Ending.returned (.string a) = .returned (.string b) := by rw [h]

set_option maxRecDepth 100000 in
set_option maxHeartbeats 1000000 in
theorem evPrint_any (a : Option Addr) (cap : Nat) (l : List Ev) (w : World) (hl : EvsAt w a l) (hm : l.length ≤ 1000000) :
    Calls Try.prog 37 #[.slice a l.length cap] w fun r w' => r = .returned (.string (bstr (printE l))) ∧ Below w.heap.size w w' := by
  have hmk := run_make_k (P := Try.prog) 50 5 (.int .u8 0) 1 1 Try.underlying50 (by kernel_rfl) l.length (by omega) (by omega)
  have HL := Lib.hid hl
  clear hl
  go_enter Try.func37, Try.ntmps37
  go_wp2
  go_loopw [11] (fun i wr => ∃ k : Nat, k ≤ l.length ∧ i = .int .i64 k ∧ Hid ((l.take k).all rightEv = true) ∧ Hid (MidAt wr w.heap.size 5 (fill (fun e => .int .u8 (evB e)) (.int .u8 0) l k)) ∧ Below w.heap.size w wr) (fun i _ => l.length - (intOf i).toNat)
  case atStart =>
    refine ⟨0, Nat.zero_le _, rfl, rfl, ?_, below_alloc1 _ _⟩
    show MidAt _ _ _ _
    rw [fill_zero]
    have := MidAt.made w 5 (.int .u8 0) l.length
    simpa using this
  case round =>
    clear hmk
    obtain ⟨k, hk, rfl, HA, HM, hb⟩ := hrel
    by_cases hlt : k < l.length
    · obtain ⟨b, o, rfl, hc⟩ := HL.out.2 (by intro e; simp [e] at hlt)
      obtain ⟨c0, c1, c2, c3⟩ := hc k hlt
      have d0 := cell_later hb c0
      have d1 := cell_later hb c1
      have d2 := cell_later hb c2
      have d3 := cell_later hb c3
      have hz := HM.out.lt
      clear hc c0 c1 c2 c3
      have HT := Lib.hid (List.take_succ_eq_append_getElem hlt : l.take (k + 1) = l.take k ++ [l[k]])
      have HS := Lib.hid (fill_set (fun e => .int .u8 (evB e)) (.int .u8 0) l k hlt)
      have HX := Lib.hid (List.getElem_mem hlt)
      have HB1 := Lib.hid (EvBox.new wr l[k])
      have HM1 := Lib.hid (HM.out.later (below_alloc1 wr (.cells #[.int .i64 l[k].thread, .int .i64 l[k].kind, .int .i64 l[k].obj, .bool l[k].fail] 39)))
      have hb1 : Below w.heap.size w (wr.alloc (.cells #[.int .i64 l[k].thread, .int .i64 l[k].kind, .int .i64 l[k].obj, .bool l[k].fail] 39)) := hb.alloc hb.size _
      clear HM
      generalize l[k] = x at *
      go_wp2_with fail
      generalize wr.alloc (.cells #[.int .i64 x.thread, .int .i64 x.kind, .int .i64 x.obj, .bool x.fail] 39) = W1 at *
      generalize wr.heap.size = E at *
      clear d0 d1 d2 d3
      refine (evRight_any x _).mono ?_
      rintro r w2 ⟨rfl, hb2⟩
      have HB2 := Lib.hid (HB1.out.later hb2)
      have HM2 := Lib.hid (HM1.out.later hb2)
      have hw2 : Below w.heap.size w w2 := hb1.trans (hb2.mono hb1.size)
      clear HB1 HM1 hb1 hb2 hb
      obtain ⟨x0, x1, x2, x3⟩ := HB2.out.cells
      have lx := HB2.out.lt
      cases hr : rightEv x
      · have HR : Hid (printE l = []) := by
          show _ = _
          unfold printE
          rw [if_neg]
          intro h
          rw [List.all_eq_true] at h
          rw [h x HX.out] at hr
          cases hr
        clear hr HB2
        go_wp2
        go_ret
        exact ⟨ret_str (by rw [HR.out]; rfl), hw2⟩
      · have HR := Lib.hid hr
        clear hr
        go_wp2_with fail
        refine (toByte_any x HR.out _).mono ?_
        rintro r w3 ⟨rfl, hb3⟩
        have HM3 := Lib.hid (HM2.out.later hb3)
        have hw3 : Below w.heap.size w w3 := hw2.trans (hb3.mono hw2.size)
        have hf3 := HM3.out.frozen k
        have hc3 := HM3.out.cell k
        obtain ⟨y, hy⟩ : ∃ y, (fill (fun e => .int .u8 (evB e)) (.int .u8 0) l k)[k]? = some y := ⟨_, List.getElem?_eq_getElem (by rw [fill_length _ _ _ _ hk]; exact hlt)⟩
        rw [hy] at hc3
        have HM4 := Lib.hid (HM3.out.set k (.int .u8 (evB x)))
        rw [HS.out] at HM4
        have hb4 := hw3.setCell (p := ⟨w.heap.size, k, none⟩) (Nat.le_refl _) (.int .u8 (evB x))
        clear hy HM2 HM3 HB2 x0 x1 x2 x3 hb3
        go_wp2
        go_roundw
        case rel => exact ⟨k + 1, by omega, by go_num, (by show _ = _; rw [HT.out, List.all_append, HA.out]; simp [HR.out]), HM4, hb4⟩
        case measure => simp [intOf]; omega
    · obtain rfl : k = l.length := by omega
      have hcv : (convert 50 9 (.slice (some ⟨w.heap.size, 0, none⟩) l.length l.length)).run Try.prog wr = .ok (.string (bstr (l.map evB))) wr := by
        have h := HM.out
        rw [fill_all] at h
        refine run_bstr_mid (ns := l.map evB) ?_ (by simp)
        rw [List.map_map]
        exact h
      have HP : Hid (printE l = l.map evB) := by
        show _ = _
        unfold printE
        have h := HA.out
        rw [List.take_length] at h
        rw [if_pos h]
      go_wp2
      go_ret
      exact ⟨ret_str (by rw [HP.out]), hb⟩

end Go.Proofs.Ytljlaopjimkcmaa
