/- The contracts of the document's Print of levels, and of its Key. -/
import Derived.Test.YtljlaopjimkcmaaRefRight5
import Derived.Test.YtljlaopjimkcmaaRefEvPrint
import Derived.Deep.RegionHeld3
namespace Go.Proofs.Ytljlaopjimkcmaa
open Go.RowKit

theorem bstr_app (a b : List Int) : bstr a ++ bstr b = bstr (a ++ b) := by
  apply ByteArray.ext
  simp [bstr]
theorem spell_take (m : List (List Ev)) {k : Nat} (hk : k < m.length) : (m.take (k + 1)).flatMap lvB = (m.take k).flatMap lvB ++ ([((m.getD k []).length : Int)] ++ printE (m.getD k [])) := by
  rw [List.take_succ_eq_append_getElem hk, List.flatMap_append, getD_lt _ hk]
  simp [lvB]

/-- One byte as a string. -/
theorem run_byte_str {w : World} {g : Nat} {x : Int} (hc : w.cell? ⟨g, 0, none⟩ = some (.int .u8 x)) : (convert 50 9 (.slice (some ⟨g, 0, none⟩) 1 1)).run Try.prog w = .ok (.string (bstr [x])) w := by
  rw [run_convert_bytes_string w _ _ 5 _ _ _ Try.underlying50 Try.underlying5 Try.underlying9]
  have hl := run_loadCells_list (P := Try.prog) w ⟨g, 0, none⟩ ([x].map (Value.int .u8)) (by intro j u hj; match j with | 0 => (simp at hj; subst hj; exact hc) | j + 1 => simp at hj)
  have h2 := run_bytesToString w ⟨g, 0, none⟩ _ 1 [x] hl
  rw [foldl_bstr] at h2
  have e : ByteArray.empty.data = #[] := rfl
  rw [e, Array.empty_append] at h2
  exact h2
theorem byte_new (w : World) (x : Int) : (w.alloc (.cells #[.int .u8 x] 5)).cell? ⟨w.heap.size, 0, none⟩ = some (.int .u8 x) := by
  rw [World.cell?_alloc_new]
  rfl
theorem step_strB {w : World} {ops : Array Oper} {o : Oper} {a : Act} {K : Act → World → Prop} {Q : Exit → Act → World → Prop} {E : Prop} (hgd : o.guard = none) (x : Operand)
    (ho : o.op = .convert 50 9 x) (S : ByteArray) (v : Value) (hx : a.eval x = v) (hrun : (convert 50 9 v).run Try.prog w = .ok (.string S) w)
    (h : K (a.put o.dst (.string S)) w) : if Region.wanted o (yielded ops a.tmps) = true then Oper.wp Try.prog o a w K Q else E := by
  have hw : Region.wanted o (yielded ops a.tmps) = true := by simp [Region.wanted, hgd]
  rw [if_pos hw]
  unfold Oper.wp
  simp [execOp, ho, hx, hrun, Result.andThen]
  exact h

set_option maxRecDepth 100000 in
set_option maxHeartbeats 4000000 in
theorem refLvPrint_any (a : Option Addr) (cap : Nat) (m : List (List Ev)) (w : World) (hl : LvAt w a m) (hm : m.length ≤ 1000000) (hf : m.flatten.length ≤ 1000000) (hr : ∀ i, (m.getD i []).length ≤ 1000000) :
    Calls Try.prog 17 #[.slice a m.length cap] w fun r w' => r = .returned (.string (bstr (printF m))) ∧ Below w.heap.size w w' := by
  have HL := Lib.hid hl
  have HC := Lib.hid (refLvRight_any a cap m w hl hm hf hr)
  have HP : Hid (printF m = if decide (levelsF m.flatten = m) = true then spellB m else []) := by show _ = _; unfold printF; simp
  have HS : Hid (decide (levelsF m.flatten = m) = true → ∀ i, (m.getD i []).length ≤ 200) := fun h i => by
    have := levelsF_row m.flatten i
    rw [of_decide_eq_true h] at this
    omega
  have HLB : Hid (∀ k, ((m.take k).flatMap lvB).length ≤ 2000000) := fun k => by
    by_cases hk : k ≤ m.length
    · have := lvB_len m k; omega
    · have := lvB_len m m.length
      rw [List.take_length] at this
      rw [List.take_of_length_le (by omega)]
      omega
  clear hl hf hr
  generalize decide (levelsF m.flatten = m) = D at *
  cases D
  · have HP2 : Hid (printF m = []) := by show _ = _; rw [HP.out]; rfl
    clear HS HP
    go_enter Try.func17, Try.ntmps17
    go_wp2_with fail
    refine HC.out.mono ?_
    rintro r w1 ⟨rfl, hb1⟩
    clear HC
    go_wp2
    go_ret
    exact ⟨ret_str (by rw [HP2.out]; rfl), hb1⟩
  · have HP2 : Hid (printF m = spellB m) := by show _ = _; rw [HP.out]; rfl
    have HS2 := Lib.hid (HS.out rfl)
    clear HS HP
    go_enter Try.func17, Try.ntmps17
    go_wp2_with fail
    refine HC.out.mono ?_
    rintro r w1 ⟨rfl, hb1⟩
    clear HC
    go_wp2_with fail
    go_loopw [3, 4] (fun s i wr => ∃ k : Nat, k ≤ m.length ∧ i = .int .i64 k ∧ s = .string (bstr ((m.take k).flatMap lvB)) ∧ Hid (Below w.heap.size w wr)) (fun _ i _ => m.length - (intOf i).toNat)
    case atStart => exact ⟨0, Nat.zero_le _, rfl, rfl, hb1⟩
    case round =>
      clear hb1
      obtain ⟨k, hk, rfl, rfl, HB⟩ := hrel
      by_cases hlt : k < m.length
      · obtain ⟨b, o, sa, sc, rfl, c0, he0, _⟩ := HL.out.one hlt
        have c1 := cell_later HB.out c0
        have HE1 := Lib.hid (he0.later HB.out)
        have HT := Lib.hid (spell_take m hlt)
        have hlen := HS2.out k
        have hpre := HLB.out k
        have hro := printE_le (m.getD k [])
        clear c0 he0
        generalize (m.take k).flatMap lvB = pre at *
        generalize m.getD k [] = row at *
        have hB9 : Below wr.heap.size wr wr.drew := (Below.refl _ _).drew
        have hBA : Below wr.heap.size wr (wr.alloc (.cells #[.int .u8 (row.length : Int)] 5)).drew := (below_alloc1 wr _).drew
        have hwr : IntKind.u8.wrap (row.length : Int) = row.length := IntWalk.u8_in _ (by omega)
        have HX1 : Hid ((convert 50 9 (.slice (some ⟨wr.heap.size, 0, none⟩) 1 1)).run Try.prog (wr.alloc (.cells #[.int .u8 (row.length : Int)] 5)).drew = .ok (.string (bstr [(row.length : Int)])) (wr.alloc (.cells #[.int .u8 (row.length : Int)] 5)).drew) := run_byte_str (byte_new wr _)
        have HX3 : Hid (∀ W : World, (convert 50 9 (.slice (some ⟨W.heap.size, 0, none⟩) 1 1)).run Try.prog (W.alloc (.cells #[.int .u8 (row.length : Int)] 5)) = .ok (.string (bstr [(row.length : Int)])) (W.alloc (.cells #[.int .u8 (row.length : Int)] 5))) := fun W => run_byte_str (byte_new W _)
        have HX5 : Hid (∀ W, Below (wr.alloc (.cells #[.int .u8 (row.length : Int)] 5)).drew.heap.size (wr.alloc (.cells #[.int .u8 (row.length : Int)] 5)).drew W → (convert 50 9 (.slice (some ⟨wr.heap.size, 0, none⟩) 1 1)).run Try.prog W = .ok (.string (bstr [(row.length : Int)])) W) := fun W hW => run_byte_str (cell_later hW (show (wr.alloc (.cells #[.int .u8 (row.length : Int)] 5)).drew.cell? ⟨wr.heap.size, 0, none⟩ = _ from byte_new wr _))
        have HCALL : Hid (∀ W, Below wr.heap.size wr W → Calls Try.prog 30 #[.slice sa row.length sc] W fun r w' => r = .returned (.string (bstr (printE row))) ∧ Below W.heap.size W w') := fun W hW => refEvPrint_any sa sc row W (HE1.out.later hW) (by omega)
        have HQ : Hid (∀ W, Below wr.heap.size wr W → W.cell? ⟨b, o + k, none⟩ = some (.slice sa row.length sc)) := fun W hW => cell_later hW c1
        have HT2 : Hid (bstr pre ++ (bstr [(row.length : Int)] ++ bstr (printE row)) = bstr ((m.take (k + 1)).flatMap lvB)) := by show _ = _; rw [bstr_app, bstr_app, ← HT.out]
        have hki : (k : Int) < (m.length : Int) := by omega
        have hz1 : ¬ 9223372036854775807 < (bstr [(row.length : Int)]).size + (bstr (printE row)).size := by rw [bstr_size, bstr_size]; simp; omega
        have hz2 : ¬ 9223372036854775807 < (bstr pre).size + (bstr [(row.length : Int)] ++ bstr (printE row)).size := by rw [bstr_app, bstr_size, bstr_size, List.length_append]; simp; omega
        have hz3 : ¬ 9223372036854775807 < (bstr pre).size + ((bstr [(row.length : Int)]).size + (bstr (printE row)).size) := by rw [bstr_size, bstr_size, bstr_size]; simp; omega
        have hX1 := HX1.out
        have hX3 := HX3.out
        clear HT
        obtain ⟨S2, hS2⟩ : ∃ S2, S2 = bstr ((m.take (k + 1)).flatMap lvB) := ⟨_, rfl⟩
        rw [← hS2] at HT2
        have HSE := Lib.hid hS2
        clear hS2
        go_wp2_with fail
        have k2 : (wr.alloc (.cells #[.int .u8 (row.length : Int)] 5)).cell? ⟨b, o + k, none⟩ = some (.slice sa row.length sc) := HQ.out _ (below_alloc1 wr _)
        go_region_with (first
          | (go_simp; go_at_call 30; ((with_reducible refine (HCALL.out _ hB9).mono ?_); rintro r w10 ⟨rfl, hb10⟩; have hB10 := hB9.trans (hb10.mono hB9.size); have c10 := HQ.out _ hB10; have c11 := HQ.out _ (hB10.alloc hB10.size (.cells #[.int .u8 (row.length : Int)] 5))))
          | (go_simp; go_at_call 30; ((with_reducible refine (HCALL.out _ hBA).mono ?_); rintro r w10 ⟨rfl, hb10⟩; have hB10 := hBA.trans (hb10.mono hBA.size); have c10 := HQ.out _ hB10; have hX2 := HX5.out _ hb10)))
        all_goals
          have HBZ := Lib.hid (HB.out.trans (hB10.mono HB.out.size))
          have HBY := Lib.hid (HBZ.out.alloc HBZ.out.size (.cells #[.int .u8 (row.length : Int)] 5))
          rw [HT2.out]
          go_wp2
          go_roundw
          case rel => exact ⟨k + 1, by omega, by go_num, by rw [HSE.out], (by first | exact HBZ.out | exact HBY.out)⟩
          case measure => simp [intOf]; omega
      · obtain rfl : k = m.length := by omega
        rw [List.take_length]
        have hcv := run_byte_str (byte_new wr 0)
        have hwz : Below w.heap.size w (wr.alloc (.cells #[.int .u8 0] 5)) := HB.out.alloc HB.out.size _
        have hz1 : ¬ 9223372036854775807 < (bstr (m.flatMap lvB)).size + (bstr [0]).size := by have h := HLB.out m.length; rw [List.take_length] at h; rw [bstr_size, bstr_size]; simp only [List.length_singleton]; omega
        have HT2 : Hid (bstr (m.flatMap lvB) ++ bstr [0] = bstr (spellB m)) := by show _ = _; rw [bstr_app]; rfl
        go_wp2
        go_ret
        exact ⟨ret_str (by rw [HP2.out, ← HT2.out]), hwz⟩

end Go.Proofs.Ytljlaopjimkcmaa
