/- The contracts of event's Threads and of the document's. -/
import Derived.Test.YtfhndbibabbnlaaEvBox
import Derived.Test.YtfhndbibabbnlaaEvRows
import Derived.Test.YtfhndbibabbnlaaMidRow
namespace Go.Proofs.Ytfhndbibabbnlaa
open Go.RowKit

theorem MidAt.nums {w : World} {g : Nat} {t : TypeId} {ns : List Int} (h : MidAt w g t (ns.map (Value.int .i64))) (hm : ns.length ≤ 1000000) : NumsAt w (some ⟨g, 0, none⟩) ns := by
  refine ⟨by unfold maxLen; omega, fun _ => ⟨g, 0, rfl, fun i hi => ?_⟩⟩
  rw [Nat.zero_add, h.cell]
  simp [hi]

set_option maxRecDepth 100000 in
set_option maxHeartbeats 1000000 in
theorem evThreads_any (a : Option Addr) (cap : Nat) (l : List Ev) (w : World) (hl : EvsAt w a l) (hm : l.length ≤ 1000000) :
    Calls Try.prog 20 #[.slice a l.length cap] w fun r w' => ∃ g, r = .returned (.slice (some ⟨g, 0, none⟩) l.length l.length) ∧ NumsAt w' (some ⟨g, 0, none⟩) (l.map Ev.thread) ∧ Below w.heap.size w w' := by
  have hmk := run_make_k (P := Try.prog) 36 3 (.int .i64 0) 1 8 Try.underlying36 (by kernel_rfl) l.length (by omega) (by omega)
  have HL := Lib.hid hl
  clear hl
  go_enter Try.func20, Try.ntmps20
  go_wp2
  go_loopw [11] (fun i wr => ∃ k : Nat, k ≤ l.length ∧ i = .int .i64 k ∧ Hid (MidAt wr w.heap.size 3 (fill (fun e => .int .i64 e.thread) (.int .i64 0) l k)) ∧ Below w.heap.size w wr) (fun i _ => l.length - (intOf i).toNat)
  case atStart =>
    refine ⟨0, Nat.zero_le _, rfl, ?_, below_alloc1 _ _⟩
    show MidAt _ _ _ _
    rw [fill_zero]
    have := MidAt.made w 3 (.int .i64 0) l.length
    simpa using this
  case round =>
    clear hmk
    obtain ⟨k, hk, rfl, HM, hb⟩ := hrel
    by_cases hlt : k < l.length
    · obtain ⟨b, o, rfl, hc⟩ := HL.out.2 (by intro e; simp [e] at hlt)
      obtain ⟨c0, c1, c2, c3⟩ := hc k hlt
      have d0 := cell_later hb c0
      have d1 := cell_later hb c1
      have d2 := cell_later hb c2
      have d3 := cell_later hb c3
      have hz := HM.out.lt
      clear hc c0 c1 c2 c3
      have HS := Lib.hid (fill_set (fun e => .int .i64 e.thread) (.int .i64 0) l k hlt)
      obtain ⟨y, hy⟩ : ∃ y, (fill (fun e => .int .i64 e.thread) (.int .i64 0) l k)[k]? = some y := ⟨_, List.getElem?_eq_getElem (by rw [fill_length _ _ _ _ hk]; exact hlt)⟩
      have hf3 := HM.out.frozen k
      have hc3 := HM.out.cell k
      rw [hy] at hc3
      have HM1 := HM.out.set k (.int .i64 l[k].thread)
      rw [HS.out] at HM1
      have HM4 := Lib.hid (HM1.later (below_alloc1 _ (.cells #[.int .i64 l[k].thread, .int .i64 l[k].kind, .int .i64 l[k].obj, .bool l[k].fail] 23)))
      have hb1 := hb.setCell (p := ⟨w.heap.size, k, none⟩) (Nat.le_refl _) (.int .i64 l[k].thread)
      have hb4 := hb1.alloc hb1.size (.cells #[.int .i64 l[k].thread, .int .i64 l[k].kind, .int .i64 l[k].obj, .bool l[k].fail] 23)
      clear HM HM1 hb1 hy HS
      generalize l[k] = x at *
      go_wp2
      go_roundw
      case rel => exact ⟨k + 1, by omega, by go_num, HM4, hb4⟩
      case measure => simp [intOf]; omega
    · obtain rfl : k = l.length := by omega
      have HN : Hid (NumsAt wr (some ⟨w.heap.size, 0, none⟩) (l.map Ev.thread)) := by
        have h := HM.out
        rw [fill_all] at h
        refine MidAt.nums (t := 3) ?_ (by simpa using hm)
        rw [List.map_map]
        exact h
      go_wp2
      go_ret
      exact ⟨_, rfl, HN.out, hb⟩

set_option maxRecDepth 100000 in
set_option maxHeartbeats 1000000 in
theorem refThreads_any (a : Option Addr) (cap : Nat) (l : List Ev) (w : World) (hl : EvsAt w a l) (hm : l.length ≤ 1000000) :
    Calls Try.prog 21 #[.slice a l.length cap] w fun r w' => ∃ a' cap', r = .returned (.slice a' l.length cap') ∧ NumsAt w' a' (l.map Ev.thread) ∧ Below w.heap.size w w' := by
  have HL := Lib.hid hl
  clear hl
  go_enter Try.func21, Try.ntmps21
  go_wp2
  go_loopw [3, 4] (fun v i wr => ∃ (k : Nat) (ns : List Int), k ≤ l.length ∧ i = .int .i64 k ∧ Hid (ns = (l.take k).map Ev.thread) ∧ ns.length = k ∧ OwnN wr w.heap.size v ns ∧ Below w.heap.size w wr) (fun _ i _ => l.length - (intOf i).toNat)
  case atStart => exact ⟨0, [], Nat.zero_le _, rfl, rfl, rfl, ownN_nil _ _, Below.refl _ _⟩
  case round =>
    obtain ⟨k, ns, hk, rfl, HN, hnl, hown, hb⟩ := hrel
    by_cases hlt : k < l.length
    · obtain ⟨b, o, rfl, hc⟩ := HL.out.2 (by intro e; simp [e] at hlt)
      obtain ⟨c0, _, _, _⟩ := hc k hlt
      have d0 := cell_later hb c0
      clear hc c0
      have HT : Hid (ns ++ [l[k].thread] = (l.take (k + 1)).map Ev.thread) := by
        show _ = _
        rw [List.take_succ_eq_append_getElem hlt, List.map_append, ← HN.out]
        rfl
      generalize l[k] = x at *
      have hz := hb.size
      go_wp2_with (at_builtin; refine wp_appendN rfl (.tmp 11) (.tmp 17) rfl w.heap.size _ ns rfl (hown.alloc _) ⟨wr.heap.size, 0, none⟩ 1 1 rfl [x.thread] rfl (nums_new wr [x.thread] _ _ rfl) (by omega) (by simp; omega) ?_; intro v1 w2 hown2 hb3 _)
      have hb4 := (hb.alloc hz _).trans hb3
      go_roundw
      case rel => exact ⟨k + 1, ns ++ [x.thread], by omega, by go_num, HT, by simp; omega, hown2, hb4⟩
      case measure => simp [intOf]; omega
    · obtain rfl : k = l.length := by omega
      obtain ⟨a', cap', rfl, hn, _⟩ := hown.form (by omega)
      have HR : Hid (NumsAt wr a' (l.map Ev.thread)) := by
        have h := HN.out
        rw [List.take_length] at h
        rw [← h]
        exact hn
      clear hown hn
      go_wp2
      go_ret
      exact ⟨a', cap', by rw [hnl]; rfl, HR.out, hb⟩

end Go.Proofs.Ytfhndbibabbnlaa
