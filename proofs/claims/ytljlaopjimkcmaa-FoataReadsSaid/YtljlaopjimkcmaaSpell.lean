/- The contract of foata's spell. -/
import Derived.Test.YtljlaopjimkcmaaRowF
import Derived.Test.YtljlaopjimkcmaaEvPrint
import Derived.Lib.AppendStr
namespace Go.Proofs.Ytljlaopjimkcmaa
open Go.RowKit

/-- The bytes of levels. -/
def lvB (row : List Ev) : List Int := (row.length : Int) :: printE row
def spellB (m : List (List Ev)) : List Int := m.flatMap lvB ++ [0]
theorem printE_le (row : List Ev) : (printE row).length ≤ row.length := by
  unfold printE
  split
  · simp
  · simp
theorem printE_bd (row : List Ev) : ∀ n ∈ printE row, 0 ≤ n ∧ n < 256 := by
  intro n hn
  unfold printE at hn
  split at hn
  · rename_i h
    obtain ⟨e, he, rfl⟩ := List.mem_map.1 hn
    exact evB_bd (List.all_eq_true.1 h e he)
  · simp at hn
theorem strCells_bstr (ns : List Int) (h : ∀ n ∈ ns, 0 ≤ n ∧ n < 256) : Lib.strCells (bstr ns) = ns.map (Value.int .u8) := by
  unfold Lib.strCells bstr
  simp only [List.map_map]
  refine List.map_congr_left fun n hn => ?_
  obtain ⟨h0, h1⟩ := h n hn
  simp only [Function.comp]
  congr 1
  have : (UInt8.ofNat n.toNat).toNat = n.toNat := by rw [UInt8.toNat_ofNat']; omega
  rw [this]
  omega
theorem bstr_size (ns : List Int) : (bstr ns).size = ns.length := by
  show (bstr ns).data.size = _
  simp [bstr]
theorem lvB_len (m : List (List Ev)) (k : Nat) : ((m.take k).flatMap lvB).length ≤ k + m.flatten.length := by
  have h : ∀ (m : List (List Ev)), (m.flatMap lvB).length ≤ m.length + m.flatten.length := by
    intro m
    induction m with
    | nil => simp
    | cons r m ih =>
      rw [List.flatMap_cons, List.length_append, List.flatten_cons, List.length_append, List.length_cons]
      have := printE_le r
      have e : (lvB r).length = (printE r).length + 1 := rfl
      omega
  have h1 := h (m.take k)
  have h2 := flat_le m k
  rw [List.length_take] at h1
  omega

set_option maxRecDepth 100000 in
set_option maxHeartbeats 2000000 in
theorem spell_any (a : Option Addr) (cap : Nat) (m : List (List Ev)) (w : World) (hl : LvAt w a m) (hm : m.length ≤ 1000000) (hf : m.flatten.length ≤ 1000000) (h255 : ∀ i, (m.getD i []).length ≤ 255) :
    Calls Try.prog 21 #[.slice a m.length cap] w fun r w' => r = .returned (.string (bstr (spellB m))) ∧ Below w.heap.size w w' := by
  have HL := Lib.hid hl
  have HF := Lib.hid hf
  have H255 := Lib.hid h255
  clear hl hf h255
  obtain ⟨i0, hi0, hzz⟩ := Option.map_eq_some_iff.1 (show (Try.prog.info? 5).map (fun i => (i.zero, i.size, i.bytes)) = some (some (.int .u8 0), 1, 1) by kernel_rfl)
  simp only [Prod.mk.injEq] at hzz
  obtain ⟨hz0, hzs, hzb⟩ := hzz
  go_enter Try.func21, Try.ntmps21
  go_wp2
  go_loopw [3, 8] (fun v i wr => ∃ (k : Nat) (ns : List Int), k ≤ m.length ∧ i = .int .i64 k ∧ Hid (ns = (m.take k).flatMap lvB) ∧ ns.length ≤ 2000000 ∧ Hid (OwnB wr w.heap.size v ns) ∧ Hid (Below w.heap.size w wr)) (fun _ i _ => m.length - (intOf i).toNat)
  case atStart => exact ⟨0, [], Nat.zero_le _, rfl, rfl, by simp, World.ownsRow_nil _ _ _ _, Below.refl _ _⟩
  case round =>
    obtain ⟨k, ns, hk, rfl, HN, hnl, HO, HB⟩ := hrel
    by_cases hlt : k < m.length
    · obtain ⟨b, o, sa, sc, rfl, t0, he, hn⟩ := HL.out.one hlt
      have c0 := cell_later HB.out t0
      have HE := Lib.hid he
      have hL := H255.out k
      have HT : Hid ((m.take (k + 1)).flatMap lvB = (m.take k).flatMap lvB ++ ((((m.getD k []).length : Nat) : Int) :: printE (m.getD k []))) := by
        show _ = _
        rw [List.take_add_one, List.getElem?_eq_getElem hlt, List.flatMap_append, getD_lt _ hlt]
        simp [lvB]
      have HLn : Hid (((m.take (k + 1)).flatMap lvB).length ≤ 2000000) := by
        have := lvB_len m (k + 1)
        have := HF.out
        show _ ≤ _
        omega
      have HPL := Lib.hid (printE_le (m.getD k []))
      have HPB := Lib.hid (printE_bd (m.getD k []))
      clear t0 he hn
      generalize m.getD k [] = row at *
      have hw : IntKind.u8.wrap (row.length : Int) = row.length := by
        simp [IntKind.wrap, IntKind.bits, IntKind.signed]
        omega
      have hBB := HB.out.size
      go_wp2_with (at_builtin; refine wp_appendB rfl _ _ rfl w.heap.size _ ns rfl (HO.out.alloc _) ⟨wr.heap.size, 0, none⟩ 1 1 rfl [(row.length : Int)] rfl (bytes_new wr [(row.length : Int)] _ _ rfl) (by omega) (by simp; omega) ?_; intro v1 w4 hown4 hb4)
      have HO4 := Lib.hid hown4
      have hb5 := (HB.out.alloc hBB _).trans hb4
      clear hown4 hb4
      refine (evPrint_any sa sc row w4 (HE.out.later hb5) (by omega)).mono ?_
      rintro r w5 ⟨rfl, hb6⟩
      have HO5 : Hid (w5.ownsRow w.heap.size 5 1 v1 (ns ++ [(row.length : Int)]).length ((ns ++ [(row.length : Int)]).map (Value.int .u8))) := ownsRow_later HO4.out hb6
      have HB5 := Lib.hid (hb5.trans (hb6.mono hb5.size))
      have hBB5 := HB5.out.size
      have hsz : (bstr (printE row)).size = (printE row).length := bstr_size _
      have hpl := HPL.out
      clear hb5 hb6 HO4
      go_wp2_with (at_builtin; refine Lib.wpList_append_own_string _ rfl _ _ 50 9 rfl w.heap.size 5 i0 Try.underlying50 Try.underlying9 hi0 hz0 hzs hzb _ _ _ rfl HO5.out (bstr (printE row)) rfl (by simp [hsz]; unfold maxLen; omega) (by simp [hsz]; omega) hBB5 ?_; intro v2 w6 h1 h2 _)
      have HB7 : Hid (Below w.heap.size w w6) := HB5.out.trans ((Below.refl _ w5).grown h2 hBB5 (fun k hk => (World.ownsRow.lt HO5.out k hk).1))
      have HO7 : Hid (OwnB w6 w.heap.size v2 (ns ++ [(row.length : Int)] ++ printE row)) := by
        show OwnB _ _ _ _
        unfold OwnB
        rw [strCells_bstr _ HPB.out, hsz] at h1
        rw [List.length_append, List.map_append]
        exact h1
      have HN7 : Hid (ns ++ [(row.length : Int)] ++ printE row = (m.take (k + 1)).flatMap lvB) := by
        show _ = _
        rw [HT.out, HN.out]
        simp
      clear h1 h2
      go_roundw
      case rel => exact ⟨k + 1, ns ++ [(row.length : Int)] ++ printE row, by omega, by go_num, HN7, by rw [HN7.out]; exact HLn.out, HO7, HB7⟩
      case measure => simp [intOf]; omega
    · obtain rfl : k = m.length := by omega
      have HS : Hid (spellB m = ns ++ [0]) := by
        show _ = _
        have h := HN.out
        rw [List.take_length] at h
        unfold spellB
        rw [h]
      have hBB := HB.out.size
      go_wp2_with (at_builtin; refine wp_appendB rfl _ _ rfl w.heap.size _ ns rfl (HO.out.alloc _) ⟨wr.heap.size, 0, none⟩ 1 1 rfl [0] rfl (bytes_new wr [0] _ _ rfl) (by omega) (by simp; omega) ?_; intro v1 w4 hown4 hb4; have hcv := run_bstr hown4 (by simp); have HB4 := Lib.hid ((HB.out.alloc hBB _).trans hb4); clear hown4 hb4)
      go_ret
      exact ⟨ret_str (by rw [HS.out]), HB4.out⟩

end Go.Proofs.Ytljlaopjimkcmaa
