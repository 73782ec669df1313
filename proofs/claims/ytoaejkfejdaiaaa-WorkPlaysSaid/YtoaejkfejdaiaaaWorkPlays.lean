/- The law WorkPlays, walked. -/
import Derived.Test.YtoaejkfejdaiaaaWkBoth
import Derived.Test.YtoaejkfejdaiaaaOpenW
import Derived.Test.YtoaejkfejdaiaaaMakeK
import Derived.Deep.DeepCutAuto
import Derived.Deep.CutBlock
import Derived.Deep.RegionHeld3
namespace Go.Proofs.Ytoaejkfejdaiaaa
open Go.RowKit

theorem RowAt.wop {w : World} {a : Option Addr} {l : List WOp} (h : RowAt w a 4 wopCell l) {k : Nat} (hk : k < l.length) : ∃ b o, a = some ⟨b, o, none⟩ ∧ w.cell? ⟨b, o + k * 4, none⟩ = some (.int .i64 l[k].kind) ∧ w.cell? ⟨b, o + k * 4 + 1, none⟩ = some (.int .i64 l[k].a) ∧ w.cell? ⟨b, o + k * 4 + 2, none⟩ = some (.int .i64 l[k].b) ∧ w.cell? ⟨b, o + k * 4 + 3, none⟩ = some (.string ⟨l[k].s.toArray⟩) := by
  obtain ⟨b, o, rfl, hc⟩ := h.2 (by intro e; simp [e] at hk)
  have h0 := hc k hk 0 _ rfl
  have h1 := hc k hk 1 _ rfl
  have h2 := hc k hk 2 _ rfl
  have h3 := hc k hk 3 _ rfl
  exact ⟨b, o, rfl, by simpa using h0, by simpa using h1, by simpa using h2, by simpa using h3⟩
theorem made_rows (n : Nat) : madeCells #[.slice none 0 0] n = cxA n (fun _ => .slice none 0 0) := by
  refine cxA_const _ _ (by simp [madeCells]) fun i hi => ?_
  unfold madeCells
  rw [Array.getElem?_map, Array.getElem?_range, if_pos (by omega)]
  have : i % 1 = 0 := by omega
  show some (#[Value.slice none 0 0][i % 1]!) = _
  rw [this]
  rfl
/-- The document's work as it is made. -/
theorem rw_made (w : World) (n : Nat) : RK ((w.alloc (.cells (madeCells #[.slice none 0 0] n) 38)).alloc (.cells #[.slice (some ⟨w.heap.size, 0, none⟩) n n] 31)) w.heap.size (w.heap.size + 1) w.heap.size n (fun _ => []) := by
  rw [made_rows]
  have hb := heap_alloc_new (w.alloc (.cells (cxA n fun _ => .slice none 0 0) 38)) (.cells #[.slice (some ⟨w.heap.size, 0, none⟩) n n] 31)
  rw [World.size_alloc] at hb
  exact ⟨_, by simp; omega, by omega, Nat.le_refl _, hb, ((below_alloc1 _ _).block _ (by simp)).trans (heap_alloc_new w _), fun j _ => txtV_nil _ _⟩
set_option maxRecDepth 100000 in
set_option maxHeartbeats 8000000 in
theorem workPlays_any (z : Int) (oa : Option Addr) (ol : List WOp) (oc : Nat) (w : World) (hord : RowAt w oa 4 wopCell ol) :
    Calls Try.prog 3 #[.int .i64 z, .slice oa ol.length oc] w fun r w' => r = .returned (.bool true) ∧ Below w.heap.size w w' := by
  have HOP : Hid (∀ W, Below w.heap.size w W → RowAt W oa 4 wopCell ol) := fun W hb => hord.later hb
  clear hord
  go_enter Try.func3, Try.ntmps3
  go_wp2_with fail
  refine (awake13_any w).mono ?_
  rintro r W2 ⟨rfl, hb2⟩
  by_cases h200 : 200 < ol.length
  · have q3 : decide ((200 : Int) < (ol.length : Int)) = true := decide_eq_true (by omega)
    go_wp2_with fail
    refine (awake13_any _).mono ?_
    rintro r w3 ⟨rfl, hb3⟩
    go_wp2
    go_ret
    exact ⟨rfl, hb2.trans (hb3.mono hb2.size)⟩
  have q3 : decide ((200 : Int) < (ol.length : Int)) = false := decide_eq_false (by omega)
  have hol : ol.length ≤ 200 := by omega
  by_cases hz : z < 1 ∨ 64 < z
  · have HN := Lib.hid (wNew_bad hz W2)
    have HB := Lib.hid hb2
    by_cases h1 : z < 1
    · have d1 : decide (z < 1) = true := decide_eq_true h1
      clear hz hb2
      go_wp2_with fail
      refine HN.out.mono ?_
      rintro r w' ⟨rfl, rfl⟩
      go_wp2
      go_ret
      exact ⟨rfl, HB.out⟩
    · have d1 : decide (z < 1) = false := decide_eq_false h1
      have d2 : decide (64 < z) = true := decide_eq_true (by omega)
      clear hz hb2
      go_wp2_with fail
      refine HN.out.mono ?_
      rintro r w' ⟨rfl, rfl⟩
      go_wp2
      go_ret
      exact ⟨rfl, HB.out⟩
  obtain ⟨n, rfl⟩ : ∃ n : Nat, z = n := ⟨z.toNat, by omega⟩
  have hn1 : 1 ≤ n := by omega
  have hn64 : n ≤ 64 := by omega
  have d1 : decide ((n : Int) < 1) = false := decide_eq_false (by omega)
  have d2 : decide ((64 : Int) < (n : Int)) = false := decide_eq_false (by omega)
  clear hz
  go_wp2_with fail
  refine (wNew_any hn1 hn64 W2).mono ?_
  rintro r W3 ⟨rfl, hb3, S, q, _⟩
  have hmk : (Instr.makeSlice 29 (.int .i64 (n : Int)) (.int .i64 (n : Int))).run Try.prog W3 = .ok (.slice (some ⟨W3.heap.size, 0, none⟩) n n) (W3.alloc (.cells (madeCells #[.slice none 0 0] (n * 1)) 38)) := run_make_k (P := Try.prog) 29 38 (.slice none 0 0) 1 24 Try.underlying29 (by kernel_rfl) n (by omega) (by omega) W3
  have hb4 := below_alloc2 W3 (.cells (madeCells #[.slice none 0 0] n) 38) (.cells #[.slice (some ⟨W3.heap.size, 0, none⟩) n n] 31)
  have hb23 := hb2.trans (hb3.mono hb2.size)
  have HI0 : Hid (PW w W2.heap.size (W2.heap.size + 1) W3.heap.size (W3.heap.size + 1) W3.heap.size n 0 S (fun _ => []) ((W3.alloc (.cells (madeCells #[.slice none 0 0] n) 38)).alloc (.cells #[.slice (some ⟨W3.heap.size, 0, none⟩) n n] 31))) := ⟨q.later hb4, rw_made W3 n, hb23.trans (hb4.mono hb23.size), hb2.size, hb23.size⟩
  clear hb2 hb3 hb4 hb23 q h200
  go_wp2_with fail
  clear hmk
  generalize (W3.alloc (.cells (madeCells #[.slice none 0 0] n) 38)).alloc (.cells #[.slice (some ⟨W3.heap.size, 0, none⟩) n n] 31) = W5 at *
  generalize W2.heap.size + 1 = b at *
  generalize W2.heap.size = B at *
  generalize W3.heap.size + 1 = bb at *
  generalize W3.heap.size = g at *
  go_loopw [9, 10, 11, 12, 13, 14, 46] (fun _ _ _ _ _ _ i wr => ∃ (j : Nat) (T : Nat → List Txt), j ≤ ol.length ∧ i = .int .i64 j ∧ Hid (∃ S, PW w B b g bb g n j S T wr)) (fun _ _ _ _ _ _ i _ => ol.length - (intOf i).toNat)
  case atStart => exact ⟨0, _, Nat.zero_le _, rfl, S, HI0.out⟩
  case round =>
    clear HI0
    obtain ⟨j, T, hj, rfl, hI⟩ := hrel
    obtain ⟨S', hI'⟩ := hI.out
    have HI := Lib.hid hI'
    clear hI hI'
    by_cases hlt : j < ol.length
    · obtain ⟨pb, o, rfl, e0, e1, e2, e3⟩ := (HOP.out _ HI.out.below).wop hlt
      generalize ol[j] = x at *
      obtain ⟨xk, xa, xb, xs⟩ := x
      dsimp only at e0 e1 e2 e3
      have hqs : (⟨xs.toArray⟩ : ByteArray).size = xs.length := by simp [ByteArray.size]
      by_cases h50 : 50 < xs.length
      · have q50 : decide ((50 : Int) < (xs.length : Int)) = true := decide_eq_true (by omega)
        have HB : Hid (Below w.heap.size w (wr.alloc (.cells #[.int .i64 xk, .int .i64 xa, .int .i64 xb, .string ⟨xs.toArray⟩] 33))) := HI.out.below.alloc HI.out.below.size _
        go_wp2
        go_ret
        exact ⟨rfl, HB.out⟩
      have q50 : decide ((50 : Int) < (xs.length : Int)) = false := decide_eq_false (by omega)
      have H6 : Hid (PS w B b g bb g n j T wr.heap.size #[.int .i64 xk, .int .i64 xa, .int .i64 xb, .string ⟨xs.toArray⟩] (wr.alloc (.cells #[.int .i64 xk, .int .i64 xa, .int .i64 xb, .string ⟨xs.toArray⟩] 33))) := ⟨S', HI.out.later (below_alloc1 wr _), heap_alloc_new wr _⟩
      have hxs : xs.length ≤ 50 := by omega
      clear h50 HI
      go_upto_region 12 with (fail)
      generalize wr.alloc (.cells #[.int .i64 xk, .int .i64 xa, .int .i64 xb, .string ⟨xs.toArray⟩] 33) = W6 at *
      generalize wr.heap.size = G at *
      have HF : Hid (∀ W : World, W.heap[G]? = some (.cells #[.int .i64 xk, .int .i64 xa, .int .i64 xb, .string ⟨xs.toArray⟩] 33 (0, 0)) → W.cell? ⟨G, 0, none⟩ = some (.int .i64 xk) ∧ W.cell? ⟨G, 1, none⟩ = some (.int .i64 xa) ∧ W.cell? ⟨G, 2, none⟩ = some (.int .i64 xb) ∧ W.cell? ⟨G, 3, none⟩ = some (.string ⟨xs.toArray⟩)) := fun W hW => ⟨by rw [cell_of_row W _ 0 _ _ _ hW]; rfl, by rw [cell_of_row W _ 1 _ _ _ hW]; rfl, by rw [cell_of_row W _ 2 _ _ _ hW]; rfl, by rw [cell_of_row W _ 3 _ _ _ hW]; rfl⟩
      have HBX : Hid (W6.heap[G]? = some (.cells #[.int .i64 xk, .int .i64 xa, .int .i64 xb, .string ⟨xs.toArray⟩] 33 (0, 0))) := H6.out.choose_spec.2
      obtain ⟨f0, f1, f2, f3⟩ := HF.out W6 HBX.out
      have hj9 : j ≤ 900 := by omega
      clear e0 e1 e2 e3
      rcases (by omega : xk = 1 ∨ (xk ≠ 1 ∧ xk = 2) ∨ (xk ≠ 1 ∧ xk ≠ 2)) with k1 | ⟨k1, k2⟩ | ⟨k1, k2⟩
      focus
        have q1 : (xk == 1) = true := by simpa using k1
        obtain ⟨ok, T8, hP⟩ := both_push (H6.out.later (Below.refl W6.heap.size W6).drew) hn64 hj9 xa (k := xs) (by omega)
        have HP := Lib.hid hP
        clear hP k1
        go_wp2_with fail
        have hS6 : W6.drew.cell? ⟨G, 1, none⟩ = some (.int .i64 xa) ∧ W6.drew.cell? ⟨G, 3, none⟩ = some (.string ⟨xs.toArray⟩) := ⟨f1, f3⟩
        clear f0 f1 f2 f3
        go_region_held3 (fun W => W.cell? ⟨G, 1, none⟩ = some (.int .i64 xa) ∧ W.cell? ⟨G, 3, none⟩ = some (.string ⟨xs.toArray⟩))
          (first | exact hS6 | exact hS7 | exact hS8)
          (first | (go_at_call 8; refine HP.out.mono ?_; rintro r W7 ⟨rfl, hbx7, h7⟩; have H7 := Lib.hid h7; have hS7 := And.intro (HF.out W7 hbx7).2.1 (HF.out W7 hbx7).2.2.2; clear h7 hbx7) | (go_at_call 9; refine H7.out.mono ?_; rintro r W8 ⟨rfl, h8⟩; have H8 := Lib.hid h8; have hS8 := And.intro (HF.out W8 h8.choose_spec.2).2.1 (HF.out W8 h8.choose_spec.2).2.2.2; clear h8))
        rename_i hHeld
        clear hHeld hS6 hS7 hS8
      rotate_left 1
      focus
        have q1 : (xk == 1) = false := by simpa using k1
        have q2 : (xk == 2) = true := by simpa using k2
        obtain ⟨s8, ok, T8, hP⟩ := both_pop H6.out hj9 xa
        have HP := Lib.hid hP
        clear hP k1 k2
        go_wp2_with fail
        refine HP.out.mono ?_
        rintro r W7 ⟨rfl, hbx7, h7⟩
        have H7 := Lib.hid h7
        clear f0 f1 f2 f3
        obtain ⟨f0, f1, f2, f3⟩ := HF.out W7 hbx7
        clear h7 hbx7
        go_wp2_with fail
        refine H7.out.mono ?_
        rintro r W8 ⟨rfl, h8⟩
        have H8 := Lib.hid h8
        clear h8 f0 f1 f2 f3
      rotate_left 1
      focus
        have q1 : (xk == 1) = false := by simpa using k1
        have q2 : (xk == 2) = false := by simpa using k2
        obtain ⟨s8, ok, T8, hP⟩ := both_steal H6.out hn64 hj9 xa xb
        have HP := Lib.hid hP
        clear hP k1 k2
        go_wp2_with fail
        refine HP.out.mono ?_
        rintro r W7 ⟨rfl, hbx7, h7⟩
        have H7 := Lib.hid h7
        clear f0 f1 f2 f3
        obtain ⟨f0, f1, f2, f3⟩ := HF.out W7 hbx7
        clear h7 hbx7
        go_wp2_with fail
        refine H7.out.mono ?_
        rintro r W8 ⟨rfl, h8⟩
        have H8 := Lib.hid h8
        clear h8 f0 f1 f2 f3
      all_goals
        clear HP H7 H6 HBX
        obtain ⟨f0, f1, f2, f3⟩ := HF.out W8 H8.out.choose_spec.2
        have hj10 : j + 1 ≤ 1000 := by omega
        have hj11 : j + 1 ≤ ol.length := by omega
        by_cases h0 : 0 ≤ xa
        · have d0 : decide (xa ≥ 0) = true := by simpa using h0
          by_cases h1 : xa < n
          · obtain ⟨t, rfl⟩ : ∃ t : Nat, xa = t := ⟨xa.toNat, by omega⟩
            have ht : t < n := by omega
            have e1 : decide ((t : Int) < (n : Int)) = true := decide_eq_true (by omega)
            have h2 : (t : Int) < (n : Int) := by omega
            obtain ⟨a8, cap8, s0, s1⟩ := H8.out.slice hj10 ht
            have HL : Hid (lenI n T8 (t : Int) = ((T8 t).length : Int)) := lenI_in ht
            obtain ⟨m8, hm8⟩ : ∃ m8, m8 = (T8 t).length := ⟨_, rfl⟩
            rw [← hm8] at s1 HL
            clear hm8
            go_wp2_with fail
            go_quiet (fail)
            have HE := Lib.hid (H8.out.later (Below.refl W8.heap.size W8).drewN (W7 := W8.drewN nq))
            clear f0 f1 f2 f3 s0 s1 H8
            generalize W8.drewN nq = W9 at *
            obtain ⟨f0, f1, f2, f3⟩ := HF.out W9 HE.out.choose_spec.2
            have HLQ : Hid (∀ k, Calls Try.prog 14 #[.pointer (some ⟨b, 0, none⟩), .int .i64 (t : Int)] (W9.drewN k) fun r w' => r = .returned (.int .i64 (m8 : Int)) ∧ ∃ i, w' = W9.drewN i) := fun k => by
              have := HE.out.lenQ (t : Int) k
              rw [HL.out] at this
              exact this
            have HTQ := Lib.hid (fun k => HE.out.totQ k)
            have HTR := Lib.hid (fun k => HE.out.totR hn64 hj10 k)
            have HHQ := Lib.hid (fun k => HE.out.hasQ (s := xs) (by omega) k)
            have HHR := Lib.hid (fun k => HE.out.hasR hn64 hj10 xs k)
            have HPW : Hid (∀ k, ∃ S, PW w B b g bb g n (j + 1) S T8 (W9.drewN k)) := fun k => HE.out.pw k
            generalize totW n T8 = tot at *
            generalize hasW n T8 xs = hx at *
            clear HE
            go_wp2_with fail
            go_quiet ((first | (go_at_call 14; exact HLQ.out _) | (go_at_call 15; exact HTQ.out _) | (go_at_call 16; exact HTR.out _) | (go_at_call 17; exact HHQ.out _) | (go_at_call 18; exact HHR.out _)))
            go_wp2_with fail
            go_roundw
            case rel => exact ⟨j + 1, T8, hj11, by go_num, HPW.out _⟩
            case measure => simp [intOf]; omega
          · have e1 : decide (xa < (n : Int)) = false := decide_eq_false h1
            have HL : Hid (lenI n T8 xa = 0) := lenI_out (by simp [isW]; omega)
            have HE := H8
            have HLQ : Hid (∀ k, Calls Try.prog 14 #[.pointer (some ⟨b, 0, none⟩), .int .i64 xa] (W8.drewN k) fun r w' => r = .returned (.int .i64 0) ∧ ∃ i, w' = W8.drewN i) := fun k => by
              have := HE.out.lenQ xa k
              rw [HL.out] at this
              exact this
            have HTQ := Lib.hid (fun k => HE.out.totQ k)
            have HTR := Lib.hid (fun k => HE.out.totR hn64 hj10 k)
            have HHQ := Lib.hid (fun k => HE.out.hasQ (s := xs) (by omega) k)
            have HHR := Lib.hid (fun k => HE.out.hasR hn64 hj10 xs k)
            have HPW : Hid (∀ k, ∃ S, PW w B b g bb g n (j + 1) S T8 (W8.drewN k)) := fun k => HE.out.pw k
            generalize totW n T8 = tot at *
            generalize hasW n T8 xs = hx at *
            clear HE
            go_wp2_with fail
            go_quiet ((first | (go_at_call 14; exact HLQ.out _) | (go_at_call 15; exact HTQ.out _) | (go_at_call 16; exact HTR.out _) | (go_at_call 17; exact HHQ.out _) | (go_at_call 18; exact HHR.out _)))
            go_wp2_with fail
            go_roundw
            case rel => exact ⟨j + 1, T8, hj11, by go_num, HPW.out _⟩
            case measure => simp [intOf]; omega
        · have d0 : decide (xa ≥ 0) = false := by simpa using h0
          have HL : Hid (lenI n T8 xa = 0) := lenI_out (by simp [isW]; omega)
          have HE := H8
          have HLQ : Hid (∀ k, Calls Try.prog 14 #[.pointer (some ⟨b, 0, none⟩), .int .i64 xa] (W8.drewN k) fun r w' => r = .returned (.int .i64 0) ∧ ∃ i, w' = W8.drewN i) := fun k => by
            have := HE.out.lenQ xa k
            rw [HL.out] at this
            exact this
          have HTQ := Lib.hid (fun k => HE.out.totQ k)
          have HTR := Lib.hid (fun k => HE.out.totR hn64 hj10 k)
          have HHQ := Lib.hid (fun k => HE.out.hasQ (s := xs) (by omega) k)
          have HHR := Lib.hid (fun k => HE.out.hasR hn64 hj10 xs k)
          have HPW : Hid (∀ k, ∃ S, PW w B b g bb g n (j + 1) S T8 (W8.drewN k)) := fun k => HE.out.pw k
          generalize totW n T8 = tot at *
          generalize hasW n T8 xs = hx at *
          clear HE
          go_wp2_with fail
          go_quiet ((first | (go_at_call 14; exact HLQ.out _) | (go_at_call 15; exact HTQ.out _) | (go_at_call 16; exact HTR.out _) | (go_at_call 17; exact HHQ.out _) | (go_at_call 18; exact HHR.out _)))
          go_wp2_with fail
          go_roundw
          case rel => exact ⟨j + 1, T8, hj11, by go_num, HPW.out _⟩
          case measure => simp [intOf]; omega
    · obtain rfl : j = ol.length := by omega
      have HB := Lib.hid HI.out.below
      go_wp2
      go_ret
      exact ⟨rfl, HB.out⟩
end Go.Proofs.Ytoaejkfejdaiaaa
