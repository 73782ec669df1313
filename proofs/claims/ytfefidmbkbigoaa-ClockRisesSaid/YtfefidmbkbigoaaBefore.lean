/- The contract of clock's Before. -/
import Derived.Test.YtfefidmbkbigoaaClocks
import Derived.Test.YtfefidmbkbigoaaNumber
namespace Go.Proofs.Ytfefidmbkbigoaa
open Go.RowKit

def beforeO (l : List Ev) (i k : Int) : Bool := okI l i && (okI l k && hb l i.toNat k.toNat)
theorem beforeO_wrong {l : List Ev} {i k : Int} (h : rightL l = false) : beforeO l i k = false := by simp [beforeO, okI, h]
theorem beforeO_out1 {l : List Ev} {i k : Int} (h : ¬ (0 ≤ i ∧ i < l.length)) : beforeO l i k = false := by simp [beforeO, okI, h]
theorem beforeO_out2 {l : List Ev} {i k : Int} (h : ¬ (0 ≤ k ∧ k < l.length)) : beforeO l i k = false := by simp [beforeO, okI, h]
theorem beforeO_at {l : List Ev} {i k : Nat} (h : rightL l = true) (hi : i < l.length) (hk : k < l.length) : beforeO l i k = hb l i k := by
  have h1 : okI l i = true := by simp [okI, h]; omega
  have h2 : okI l k = true := by simp [okI, h]; omega
  unfold beforeO
  rw [h1, h2, Int.toNat_natCast, Int.toNat_natCast]
  rfl
theorem hb_num {l : List Ev} {i k : Nat} (h : rightL l = true) (hi : i < l.length) : hb l i k = decide (numO l i ≤ clk l k (evI l i).thread) := by
  rw [Bool.eq_iff_iff, hb_iff_num, decide_eq_true_eq, numO_at h hi]
  rfl
theorem rightL_of_take {l : List Ev} (h : rightL l = true) (k : Nat) : rightL (l.take k) = true := by
  unfold rightL at *
  rw [List.all_eq_true] at *
  exact fun x hx => h x (List.mem_of_mem_take hx)
theorem clk_take {l : List Ev} {k n : Nat} (h : k < n) (hn : n ≤ l.length) (t : Int) : clk (l.take n) k t = clk l k t := by
  have h1 := clk_append (l := l.take n) (m := l.drop n) (k := k) (by simp; omega) t
  rw [List.take_append_drop] at h1
  exact h1.symm

set_option maxRecDepth 100000 in
set_option maxHeartbeats 4000000 in
theorem before_any (a : Option Addr) (cap : Nat) (l : List Ev) (i k : Int) (w : World) (hl : EvsAt w a l) (hm : l.length ≤ 1000) (hcap : l.length ≤ cap) :
    Calls Try.prog 32 #[.slice a l.length cap, .int .i64 i, .int .i64 k] w fun r w' => r = .returned (.bool (beforeO l i k)) ∧ Below w.heap.size w w' := by
  have HL := Lib.hid hl
  have HC := Lib.hid (cRight_any a cap l w hl)
  cases hr : rightL l
  · have HE := Lib.hid (beforeO_wrong (i := i) (k := k) hr)
    rw [hr] at HC
    clear hl hr
    go_enter Try.func32, Try.ntmps32
    go_wp2_with fail
    refine HC.out.mono ?_
    rintro r w1 ⟨rfl, hb⟩
    clear HC
    go_wp2
    go_ret
    exact ⟨ret_bool HE.out.symm, hb⟩
  by_cases hi : 0 ≤ i ∧ i < l.length
  case neg =>
    have HE := Lib.hid (beforeO_out1 (l := l) (k := k) hi)
    have hq : belowB i l.length = false := by simpa [belowB] using hi
    rw [hr] at HC
    clear hl hr hi
    go_enter Try.func32, Try.ntmps32
    go_wp2_with fail
    refine HC.out.mono ?_
    rintro r w1 ⟨rfl, hb⟩
    clear HC
    go_wp2_with fail
    refine (cBelow_any i l.length w1).mono ?_
    rintro r w2 ⟨rfl, rfl⟩
    rw [hq]
    go_wp2
    go_ret
    exact ⟨ret_bool HE.out.symm, hb⟩
  by_cases hk : 0 ≤ k ∧ k < l.length
  case neg =>
    have HE := Lib.hid (beforeO_out2 (l := l) (i := i) hk)
    have hq : belowB i l.length = true := by simpa [belowB] using hi
    have hq2 : belowB k l.length = false := by simpa [belowB] using hk
    rw [hr] at HC
    clear hl hr hi hk
    go_enter Try.func32, Try.ntmps32
    go_wp2_with fail
    refine HC.out.mono ?_
    rintro r w1 ⟨rfl, hb⟩
    clear HC
    go_wp2_with fail
    refine (cBelow_any i l.length w1).mono ?_
    rintro r w2 ⟨rfl, rfl⟩
    rw [hq]
    go_wp2_with fail
    refine (cBelow_any k l.length w1).mono ?_
    rintro r w2 ⟨rfl, rfl⟩
    rw [hq2]
    go_wp2
    go_ret
    exact ⟨ret_bool HE.out.symm, hb⟩
  obtain ⟨i, rfl⟩ : ∃ n : Nat, i = n := ⟨i.toNat, by omega⟩
  obtain ⟨k, rfl⟩ : ∃ n : Nat, k = n := ⟨k.toNat, by omega⟩
  have hil : i < l.length := by omega
  have hkl : k < l.length := by omega
  have HE := Lib.hid (beforeO_at hr hil hkl)
  have HE2 := Lib.hid (hb_num (k := k) hr hil)
  have hq : belowB i l.length = true := by simp [belowB]; omega
  have hq2 : belowB k l.length = true := by simp [belowB]; omega
  have HR := Lib.hid hr
  rw [hr] at HC
  obtain ⟨b, o, rfl, t0, _⟩ := hl.one hil
  have hth := rightEv_bd (e := evI l i) (by rw [evI_get hil]; exact rightL_get hr hil)
  obtain ⟨th, hth2⟩ : ∃ th : Nat, (evI l i).thread = th := ⟨(evI l i).thread.toNat, by omega⟩
  rw [hth2] at hth t0 HE2
  have hti : (th : Int) < 4 := by omega
  have hti0 : (0 : Int) ≤ th := by omega
  clear hl hr hi hk hth hth2
  go_enter Try.func32, Try.ntmps32
  go_wp2_with fail
  refine HC.out.mono ?_
  rintro r w1 ⟨rfl, hb⟩
  clear HC
  go_wp2_with fail
  refine (cBelow_any i l.length w1).mono ?_
  rintro r w2 ⟨rfl, rfl⟩
  rw [hq]
  go_wp2_with fail
  refine (cBelow_any k l.length w1).mono ?_
  rintro r w2 ⟨rfl, rfl⟩
  rw [hq2]
  clear hq hq2
  have hlen : (l.take (k + 1)).length = k + 1 := by simp; omega
  have HC2 := Lib.hid (clocks_any (some ⟨b, o, none⟩) cap (l.take (k + 1)) w1 ((HL.out.later hb).take _) (by omega))
  rw [hlen] at HC2
  clear hlen
  go_wp2_with fail
  refine HC2.out.mono ?_
  rintro r w2 ⟨a2, cap2, rfl, hrow, hb2⟩
  clear HC2
  have hkk : k < (l.take (k + 1)).length := by simp; omega
  have hrt := rightL_of_take HR.out (k + 1)
  have hcl : (cks (l.take (k + 1))).length = k + 1 := by rw [cks_len hrt]; simp; omega
  obtain ⟨b2, o2, rfl, hcell⟩ := hrow.2 (by intro e; rw [e] at hcl; simp at hcl)
  have hc0 := hcell k (by omega) th (.int .i64 (clk l k th)) (by rw [cks_get hrt hkk]; unfold ckCell; rw [nums4_get _ (by omega)]; show some (Value.int .i64 (clk (l.take (k + 1)) k th : Nat)) = _; rw [clk_take (by omega) (by omega)])
  clear hcell hrow
  have hkK : k < (cks (l.take (k + 1))).length := by omega
  generalize (cks (l.take (k + 1))).length = K at *
  have hB := hb.trans (hb2.mono hb.size)
  have hHL := Lib.hid (HL.out.later hB)
  have ht1 := cell_later hB t0
  clear hrt hkk hcl HL HR t0
  have HQ : Hid (∀ w', Below w2.heap.size w2 w' → w'.cell? ⟨b, o + i * 4, none⟩ = some (.int .i64 (th : Int)) ∧ w'.cell? ⟨b2, o2 + k * 4 + th, none⟩ = some (.int .i64 (clk l k th)) ∧ EvsAt w' (some ⟨b, o, none⟩) l ∧ Below w2.heap.size w2 w') :=
    fun w' h => ⟨cell_later h ht1, cell_later h hc0, hHL.out.later h, h⟩
  have hB9 : Below w2.heap.size w2 w2.drew := (Below.refl _ _).drew
  have HN : Hid (∀ w', EvsAt w' (some ⟨b, o, none⟩) l → Calls Try.prog 16 #[.slice (some ⟨b, o, none⟩) l.length cap, .int .i64 i] w' fun r w'' => r = .returned (.int .i64 (numO l i)) ∧ Below w'.heap.size w' w'') := fun w' h => number_any _ cap l i w' h hm hcap
  clear ht1 hc0 hHL
  go_wp2_with fail
  go_region_held3 (fun w' => w'.cell? ⟨b, o + i * 4, none⟩ = some (.int .i64 (th : Int)) ∧ w'.cell? ⟨b2, o2 + k * 4 + th, none⟩ = some (.int .i64 (clk l k th)) ∧ EvsAt w' (some ⟨b, o, none⟩) l ∧ Below w2.heap.size w2 w') (first | exact HQ.out _ hB9 | exact HQ.out _ hB10)
    (first | (go_at_call 16; ((with_reducible refine (HN.out _ (HQ.out _ hB9).2.2.1).mono ?_); rintro r w10 ⟨rfl, hb10⟩; have hB10 := below_step hB9 hb10; clear hB9)))
  go_wp2
  go_ret
  exact ⟨ret_bool (by rw [HE.out, HE2.out]), hB.trans (hB10.mono hB.size)⟩

end Go.Proofs.Ytfefidmbkbigoaa
