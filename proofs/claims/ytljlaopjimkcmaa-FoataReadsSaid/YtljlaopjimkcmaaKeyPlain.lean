/- Keys, plainly: bytes are read as they were printed, and two rows have one key just if they are the same. -/
import Derived.Test.YtljlaopjimkcmaaReadF
import Derived.Test.YtljlaopjimkcmaaSameDef
namespace Go.Proofs.Ytljlaopjimkcmaa
open Go.RowKit

/-- Numbers as bytes. -/
def u8s (ns : List Int) : List UInt8 := ns.map fun n => UInt8.ofNat n.toNat
theorem bstr_u8s (ns : List Int) : bstr ns = ⟨(u8s ns).toArray⟩ := rfl
theorem u8s_append (a b : List Int) : u8s (a ++ b) = u8s a ++ u8s b := by simp [u8s]
theorem u8s_length (a : List Int) : (u8s a).length = a.length := by simp [u8s]
/-- Levels whose bytes can be read. -/
def LvFit (m : List (List Ev)) : Prop := ∀ row ∈ m, 1 ≤ row.length ∧ row.length ≤ 255 ∧ row.all rightEv = true
theorem evsOf_u8s {row : List Ev} (h : row.all rightEv = true) : evsOf (u8s (row.map evB)) = row := by
  unfold evsOf u8s
  rw [List.map_map, List.map_map]
  conv => rhs; rw [← List.map_id row]
  refine List.map_congr_left fun e he => ?_
  have hr := List.all_eq_true.1 h e he
  obtain ⟨h0, h1⟩ := evB_bd hr
  simp only [Function.comp, id]
  have e1 : (UInt8.ofNat (evB e).toNat).toNat = (evB e).toNat := by rw [UInt8.toNat_ofNat']; omega
  rw [e1, show (((evB e).toNat : Nat) : Int) = evB e by omega, evOf_evB hr]
theorem printE_right {row : List Ev} (h : row.all rightEv = true) : printE row = row.map evB := by unfold printE; rw [if_pos h]
theorem readE_print {row : List Ev} (h : row.all rightEv = true) : readE (u8s (printE row)) = row := by
  rw [printE_right h]
  have h1 := evsOf_u8s h
  unfold readE readOk
  rw [h1, if_pos h]
theorem parse_spell : ∀ (m : List (List Ev)) (n : Nat), LvFit m → m.length ≤ n → parseN n (u8s (spellB m)) = m
  | [], 0, _, _ => rfl
  | [], n + 1, _, _ => by
    show parseN (n + 1) [0] = []
    unfold parseN
    rfl
  | row :: m, 0, _, h => by simp at h
  | row :: m, n + 1, hf, h => by
    obtain ⟨h1, h2, h3⟩ := hf row (by simp)
    have e1 : u8s (spellB (row :: m)) = UInt8.ofNat row.length :: (u8s (printE row) ++ u8s (spellB m)) := by
      unfold spellB lvB u8s
      simp
    have e2 : (UInt8.ofNat row.length).toNat = row.length := by rw [UInt8.toNat_ofNat']; omega
    have e3 : (u8s (printE row)).length = row.length := by rw [u8s_length, printE_right h3, List.length_map]
    rw [e1, parseN, e2, if_neg (by omega), List.take_left' e3, List.drop_left' e3, readE_print h3, parse_spell m n (fun r hr => hf r (by simp [hr])) (by simpa using h)]
theorem rightL_all (l : List Ev) : rightL l = l.all rightEv := rfl
theorem lvls_fit {l : List Ev} (hr : rightL l = true) (hl : l.length ≤ 200) : LvFit (lvls l) := by
  intro row hrow
  obtain ⟨i, hi, rfl⟩ := List.mem_iff_getElem.1 hrow
  have hfull := (lvls_ok l).full i hi
  have hsm := lv_small l i
  rw [getD_lt _ hi] at hfull hsm
  refine ⟨List.length_pos_iff.2 hfull, by omega, List.all_eq_true.2 fun e he => ?_⟩
  rw [rightL_all] at hr
  exact List.all_eq_true.1 hr e (mem_lvls (List.mem_flatten.2 ⟨_, hrow, he⟩))
theorem keyF_right {l : List Ev} (hr : rightL l = true) (hl : l.length ≤ 200) : keyF l = spellB (lvls l) := by
  unfold keyF rightF
  rw [hr]
  simp [hl]
theorem keyF_wrong {l : List Ev} (hr : rightL l = false) : keyF l = [] := by
  unfold keyF rightF
  rw [hr]
  simp
theorem parse_key {l : List Ev} (hr : rightL l = true) (hl : l.length ≤ 200) : parseN 200 (u8s (keyF l)) = lvls l := by
  rw [keyF_right hr hl]
  exact parse_spell _ _ (lvls_fit hr hl) (by have := lv_count l; omega)
theorem spell_ne (m : List (List Ev)) : u8s (spellB m) ≠ [] := by
  unfold spellB
  rw [u8s_append]
  simp [u8s]
/-- P5.2. -/
theorem key_iff {a b : List Ev} (hr : rightL a = true) (hl : a.length ≤ 200) (hl' : b.length ≤ 200) : u8s (keyF a) = u8s (keyF b) ↔ SameO a b := by
  constructor
  · intro h
    cases hb : rightL b
    · rw [keyF_wrong hb, keyF_right hr hl] at h
      exact absurd h (spell_ne _)
    · refine ⟨hr, hb, (lvls_iff a b).1 ?_⟩
      rw [← parse_key hr hl, ← parse_key hb hl', h]
  · rintro ⟨_, hb, hs⟩
    rw [keyF_right hr hl, keyF_right hb hl', (lvls_iff a b).2 hs]
theorem right_row {l : List Ev} (hr : rightL l = true) : rightL (lvls l).flatten = true := by
  rw [rightL_all] at *
  exact List.all_eq_true.2 fun e he => List.all_eq_true.1 hr e (mem_lvls he)
theorem row_same {l : List Ev} (hr : rightL l = true) : SameO (lvls l).flatten l := ⟨right_row hr, hr, sim_row l⟩

end Go.Proofs.Ytljlaopjimkcmaa
