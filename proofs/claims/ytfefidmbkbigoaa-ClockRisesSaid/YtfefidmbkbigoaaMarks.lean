/- Rows of events with their clocks; the contract of clock's known. -/
import Derived.Test.YtfefidmbkbigoaaCells
import Derived.Test.YtfefidmbkbigoaaMkPlain
import Derived.Test.YtfefidmbkbigoaaMidRow
import Derived.Test.YtfefidmbkbigoaaEvent
import Derived.Deep.RegionHeld3
namespace Go.Proofs.Ytfefidmbkbigoaa
open Go.RowKit

def mkCell (m : Mk) : List Value := evCell m.e ++ nums4 (fun t => (m.c t : Int))
theorem mkCell_len (m : Mk) : (mkCell m).length = 8 := rfl
theorem mkCell_one (m : Mk) : ∀ v ∈ mkCell m, v.oneCell' = true := by
  intro v hv
  simp [mkCell, evCell, nums4] at hv
  rcases hv with rfl | rfl | rfl | rfl | rfl | rfl | rfl | rfl <;> rfl

theorem RowAt.mk {w : World} {a : Option Addr} {ms : List Mk} (h : RowAt w a 8 mkCell ms) (k : Nat) (hk : k < ms.length) : ∃ b o, a = some ⟨b, o, none⟩ ∧
    (w.cell? ⟨b, o + k * 8, none⟩ = some (.int .i64 ms[k].e.thread) ∧ w.cell? ⟨b, o + k * 8 + 1, none⟩ = some (.int .i64 ms[k].e.kind) ∧ w.cell? ⟨b, o + k * 8 + 2, none⟩ = some (.int .i64 ms[k].e.obj) ∧ w.cell? ⟨b, o + k * 8 + 3, none⟩ = some (.bool ms[k].e.fail)) ∧
    (w.cell? ⟨b, o + k * 8 + 4, none⟩ = some (.int .i64 (ms[k].c 0)) ∧ w.cell? ⟨b, o + k * 8 + 5, none⟩ = some (.int .i64 (ms[k].c 1)) ∧ w.cell? ⟨b, o + k * 8 + 6, none⟩ = some (.int .i64 (ms[k].c 2)) ∧ w.cell? ⟨b, o + k * 8 + 7, none⟩ = some (.int .i64 (ms[k].c 3))) := by
  obtain ⟨b, o, rfl, hc⟩ := h.2 (by intro e; simp [e] at hk)
  exact ⟨b, o, rfl, ⟨hc k hk 0 _ rfl, hc k hk 1 _ rfl, hc k hk 2 _ rfl, hc k hk 3 _ rfl⟩, hc k hk 4 _ rfl, hc k hk 5 _ rfl, hc k hk 6 _ rfl, hc k hk 7 _ rfl⟩

theorem MidAt.only {w w' : World} {g b : Nat} {t : TypeId} {xs : List Value} (h : MidAt w g t xs) (ho : Only b w w') (hb : g ≠ b) : MidAt w' g t xs := (ho.block g h.lt hb).trans h
theorem MidAt.four {w : World} {g : Nat} {t : TypeId} {c : Nat → Int} (h : MidAt w g t (nums4 c)) : w.cell? ⟨g, 0, none⟩ = some (.int .i64 (c 0)) ∧ w.cell? ⟨g, 1, none⟩ = some (.int .i64 (c 1)) ∧ w.cell? ⟨g, 2, none⟩ = some (.int .i64 (c 2)) ∧ w.cell? ⟨g, 3, none⟩ = some (.int .i64 (c 3)) :=
  ⟨by rw [h.cell]; rfl, by rw [h.cell]; rfl, by rw [h.cell]; rfl, by rw [h.cell]; rfl⟩
theorem mid_new (w : World) (t : TypeId) (c : Nat → Int) : MidAt (w.alloc (.cells #[.int .i64 (c 0), .int .i64 (c 1), .int .i64 (c 2), .int .i64 (c 3)] t)) w.heap.size t (nums4 c) := heap_alloc_new w _

/-- The four numbers, the first j of them raised. -/
def mix4 (f c : Nat → Nat) (j : Nat) : Nat → Int := fun t => if t < j then (if f t < c t then (c t : Int) else (f t : Int)) else (f t : Int)
theorem mix4_set (f c : Nat → Nat) (j : Nat) (h : j < 4) : (nums4 (mix4 f c j)).set j (.int .i64 (if f j < c j then (c j : Int) else (f j : Int))) = nums4 (mix4 f c (j + 1)) := by
  rw [nums4_set _ _ h]
  apply nums4_congr
  intro t _
  unfold mix4
  by_cases e : t = j
  · subst e
    rw [if_pos rfl, if_pos (show t < t + 1 by omega)]
  · rw [if_neg e]
    by_cases h2 : t < j
    · rw [if_pos h2, if_pos (show t < j + 1 by omega)]
    · rw [if_neg h2, if_neg (show ¬ t < j + 1 by omega)]

theorem below_step {w8 W w' : World} (h1 : Below w8.heap.size w8 W) (hb : Below W.heap.size W w') : Below w8.heap.size w8 w' := h1.trans (hb.mono h1.size)

/-- What known holds in memory between two rounds. -/
def KnW (w : World) (e : Ev) (c : Nat → Int) (n0 : Nat) (w' : World) : Prop :=
  EvBox w' n0 e ∧ MidAt w' (n0 + 1) 34 (nums4 fun _ => 0) ∧ MidAt w' (n0 + 1 + 1) 34 (nums4 c) ∧ Below n0 w w'

theorem KnW.later {w w1 w' : World} {e : Ev} {c : Nat → Int} {n0 : Nat} (h : KnW w e c n0 w1) (hb : Below w1.heap.size w1 w') : KnW w e c n0 w' :=
  ⟨h.1.later hb, h.2.1.later hb, h.2.2.1.later hb, h.2.2.2.trans (hb.mono (by have := h.2.2.1.lt; omega))⟩
theorem KnW.set {w w1 : World} {e : Ev} {c : Nat → Int} {n0 : Nat} (h : KnW w e c n0 w1) (j : Nat) (d : Nat → Int) (v : Value) (hd : (nums4 c).set j v = nums4 d) : KnW w e d n0 (w1.setCell ⟨n0 + 1 + 1, j, none⟩ v) := by
  have ho : Only (n0 + 1 + 1) w1 (w1.setCell ⟨n0 + 1 + 1, j, none⟩ v) := (Only.refl _ _).setCell _ _
  refine ⟨h.1.only ho (by omega), h.2.1.only ho (by omega), ?_, h.2.2.2.setCell (p := ⟨n0 + 1 + 1, j, none⟩) (by show n0 ≤ n0 + 1 + 1; omega) v⟩
  rw [← hd]
  exact h.2.2.1.set j v

set_option maxRecDepth 100000 in
set_option maxHeartbeats 4000000 in
theorem known_any (a : Option Addr) (cap : Nat) (ms : List Mk) (e : Ev) (w : World) (hl : RowAt w a 8 mkCell ms) :
    Calls Try.prog 40 #[.slice a ms.length cap, .agg #[.int .i64 e.thread, .int .i64 e.kind, .int .i64 e.obj, .bool e.fail]] w fun r w' =>
      r = .returned (.agg #[.int .i64 (kn ms e 0), .int .i64 (kn ms e 1), .int .i64 (kn ms e 2), .int .i64 (kn ms e 3)]) ∧ Below w.heap.size w w' := by
  have hm := hl.1
  unfold maxLen at hm
  have HL := Lib.hid hl
  clear hl
  have H0 : Hid (KnW w e (fun t => (kn (ms.take 0) e t : Int)) w.heap.size (((w.alloc (.cells #[.int .i64 e.thread, .int .i64 e.kind, .int .i64 e.obj, .bool e.fail] 28)).alloc (.cells #[.int .i64 0, .int .i64 0, .int .i64 0, .int .i64 0] 34)).alloc (.cells #[.int .i64 0, .int .i64 0, .int .i64 0, .int .i64 0] 34))) := by
    have b1 := EvBox.new w e
    have b2 := mid_new (w.alloc (.cells #[.int .i64 e.thread, .int .i64 e.kind, .int .i64 e.obj, .bool e.fail] 28)) 34 (fun _ => 0)
    have b3 := mid_new ((w.alloc (.cells #[.int .i64 e.thread, .int .i64 e.kind, .int .i64 e.obj, .bool e.fail] 28)).alloc (.cells #[.int .i64 0, .int .i64 0, .int .i64 0, .int .i64 0] 34)) 34 (fun _ => 0)
    simp only [World.size_alloc] at b2 b3
    exact ⟨(b1.later (below_alloc2 _ _ _)), b2.later (below_alloc1 _ _), b3, ((below_alloc2 w _ _).alloc (by simp; omega) _)⟩
  go_enter Try.func40, Try.ntmps40
  go_wp2
  go_loopw [11] (fun i wr => ∃ k : Nat, k ≤ ms.length ∧ i = .int .i64 k ∧ Hid (KnW w e (fun t => (kn (ms.take k) e t : Int)) w.heap.size wr)) (fun i _ => ms.length - (intOf i).toNat)
  case atStart => exact ⟨0, Nat.zero_le _, rfl, H0⟩
  case round =>
    clear H0
    obtain ⟨k, hk, rfl, HK⟩ := hrel
    by_cases hlt : k < ms.length
    · obtain ⟨b, o, rfl, hx, hc⟩ := HL.out.mk k hlt
      have HKT := Lib.hid (fun t => kn_take ms e t k hlt)
      have hb := HK.out.2.2.2
      obtain ⟨e0, e1, e2, e3⟩ := HK.out.1.cells
      obtain ⟨x0, x1, x2, x3⟩ := hx
      obtain ⟨y0, y1, y2, y3⟩ := hc
      have g0 := cell_later hb x0
      have g1 := cell_later hb x1
      have g2 := cell_later hb x2
      have g3 := cell_later hb x3
      have HC := Lib.hid (And.intro (cell_later hb y0) (And.intro (cell_later hb y1) (And.intro (cell_later hb y2) (cell_later hb y3))))
      clear x0 x1 x2 x3 y0 y1 y2 y3
      generalize ms[k] = m at *
      have HQ : Hid (∀ w', Below wr.heap.size wr w' → w'.cell? ⟨b, o + k * 8, none⟩ = some (.int .i64 m.e.thread) ∧ w'.cell? ⟨b, o + k * 8 + 1, none⟩ = some (.int .i64 m.e.kind) ∧ w'.cell? ⟨b, o + k * 8 + 2, none⟩ = some (.int .i64 m.e.obj) ∧ w'.cell? ⟨b, o + k * 8 + 3, none⟩ = some (.bool m.e.fail) ∧
          w'.cell? ⟨w.heap.size, 0, none⟩ = some (.int .i64 e.thread) ∧ w'.cell? ⟨w.heap.size, 1, none⟩ = some (.int .i64 e.kind) ∧ w'.cell? ⟨w.heap.size, 2, none⟩ = some (.int .i64 e.obj) ∧ w'.cell? ⟨w.heap.size, 3, none⟩ = some (.bool e.fail) ∧ Below wr.heap.size wr w') := by
        intro w' h
        exact ⟨cell_later h g0, cell_later h g1, cell_later h g2, cell_later h g3, cell_later h e0, cell_later h e1, cell_later h e2, cell_later h e3, h⟩
      have hB9 : Below wr.heap.size wr wr.drew := (Below.refl _ _).drew
      obtain ⟨D, hD⟩ : ∃ D, dep m.e e = D := ⟨_, rfl⟩
      have HD1 : Hid (∀ w', Calls Try.prog 56 #[.agg #[.int .i64 m.e.thread, .int .i64 m.e.kind, .int .i64 m.e.obj, .bool m.e.fail], .agg #[.int .i64 e.thread, .int .i64 e.kind, .int .i64 e.obj, .bool e.fail]] w' fun r w'' => r = .returned (.bool D) ∧ Below w'.heap.size w' w'') := fun w' => by rw [← hD]; exact depends_any m.e e w'
      have HDD := Lib.hid hD
      clear hD e0 e1 e2 e3 g0 g1 g2 g3
      go_wp2_with fail
      go_region_held3 (fun w' => w'.cell? ⟨b, o + k * 8, none⟩ = some (.int .i64 m.e.thread) ∧ w'.cell? ⟨b, o + k * 8 + 1, none⟩ = some (.int .i64 m.e.kind) ∧ w'.cell? ⟨b, o + k * 8 + 2, none⟩ = some (.int .i64 m.e.obj) ∧ w'.cell? ⟨b, o + k * 8 + 3, none⟩ = some (.bool m.e.fail) ∧
          w'.cell? ⟨w.heap.size, 0, none⟩ = some (.int .i64 e.thread) ∧ w'.cell? ⟨w.heap.size, 1, none⟩ = some (.int .i64 e.kind) ∧ w'.cell? ⟨w.heap.size, 2, none⟩ = some (.int .i64 e.obj) ∧ w'.cell? ⟨w.heap.size, 3, none⟩ = some (.bool e.fail) ∧ Below wr.heap.size wr w') (first | exact HQ.out _ hB9 | exact HQ.out _ hB10)
        (first | (go_at_call 56; ((with_reducible refine (HD1.out _).mono ?_); rintro r w10 ⟨rfl, hb10⟩; have hB10 := below_step hB9 hb10; clear hB9)))
      have HK1 := Lib.hid (HK.out.later hB10)
      have HC1 := Lib.hid (And.intro (cell_later hB10 HC.out.1) (And.intro (cell_later hB10 HC.out.2.1) (And.intro (cell_later hB10 HC.out.2.2.1) (cell_later hB10 HC.out.2.2.2))))
      clear HK HC hB10 hb HQ
      cases D
      · have HR : Hid (KnW w e (fun t => (kn (ms.take (k + 1)) e t : Int)) w.heap.size w10) := by
          have h : (fun t => (kn (ms.take (k + 1)) e t : Int)) = fun t => (kn (ms.take k) e t : Int) := by
            funext t
            rw [HKT.out t, HDD.out, if_neg (by simp)]
          show KnW _ _ _ _ _
          rw [h]
          exact HK1.out
        clear HKT HDD HD1 HC1
        go_wp2
        go_roundw
        case rel => exact ⟨k + 1, by omega, by go_num, HR⟩
        case measure => simp [intOf]; omega
      · have HE : Hid (∀ t, mix4 (fun t => kn (ms.take k) e t) m.c 4 t = if t < 4 then (kn (ms.take (k + 1)) e t : Int) else kn (ms.take k) e t) := by
          intro t
          unfold mix4
          split
          · rw [HKT.out t, HDD.out, if_pos rfl]
            simp only [Nat.max_def]
            split <;> split <;> omega
          · rfl
        clear HKT HDD HD1
        obtain ⟨y0, y1, y2, y3⟩ := HC1.out
        go_wp2
        go_loopw [26] (fun j wr2 => ∃ q : Nat, q ≤ 4 ∧ j = .int .i64 q ∧ Hid (KnW w e (mix4 (fun t => kn (ms.take k) e t) m.c q) w.heap.size wr2)) (fun j _ => 4 - (intOf j).toNat)
        case atStart => exact ⟨0, by omega, rfl, HK1⟩
        case round =>
          clear y0 y1 y2 y3 HC1 HK1
          obtain ⟨q, hq, rfl, HM⟩ := hrel
          by_cases hq4 : q < 4
          · have hcell : wr.cell? ⟨w.heap.size + 1 + 1, q, none⟩ = some (.int .i64 (kn (ms.take k) e q)) := by
              rw [HM.out.2.2.1.cell, nums4_get _ hq4]
              unfold mix4
              rw [if_neg (by omega)]
            have hf := HM.out.2.2.1.frozen q
            have HS : Hid (KnW w e (mix4 (fun t => kn (ms.take k) e t) m.c (q + 1)) w.heap.size (wr.setCell ⟨w.heap.size + 1 + 1, q, none⟩ (.int .i64 (if kn (ms.take k) e q < m.c q then (m.c q : Int) else (kn (ms.take k) e q : Int))))) := HM.out.set q _ _ (mix4_set _ _ _ hq4)
            clear HM HE
            have hix := fun w => run_index4 (P := Try.prog) w (t := 34) (elem := 3) (fun t => (m.c t : Int)) q Try.underlying34 Try.underlying3 rfl (by kernel_rfl) hq4
            go_wp2
            go_roundw
            case rel => exact ⟨q + 1, by omega, by go_num, HS⟩
            case measure => simp [intOf]; omega
          · obtain rfl : q = 4 := by omega
            have HR : Hid (KnW w e (fun t => (kn (ms.take (k + 1)) e t : Int)) w.heap.size wr) := by
              have h := HM.out
              have h2 : nums4 (mix4 (fun t => kn (ms.take k) e t) m.c 4) = nums4 (fun t => (kn (ms.take (k + 1)) e t : Int)) := nums4_congr fun t ht => by rw [HE.out t, if_pos ht]
              exact ⟨h.1, h.2.1, by rw [← h2]; exact h.2.2.1, h.2.2.2⟩
            clear HM HE
            go_wp2
            go_roundw
            case rel => exact ⟨k + 1, by omega, by go_num, HR⟩
            case measure => simp [intOf]; omega
    · obtain rfl : k = ms.length := by omega
      have HK2 : Hid (KnW w e (fun t => (kn ms e t : Int)) w.heap.size wr) := by have h := HK.out; rw [List.take_length] at h; exact h
      clear HK
      obtain ⟨c0, c1, c2, c3⟩ := HK2.out.2.2.1.four
      obtain ⟨z0, z1, z2, z3⟩ := HK2.out.2.1.four
      have f0 := HK2.out.2.1.frozen 0
      have f1 := HK2.out.2.1.frozen 1
      have f2 := HK2.out.2.1.frozen 2
      have f3 := HK2.out.2.1.frozen 3
      have hb := HK2.out.2.2.2
      go_wp2
      refine bodyPost_ret (v := .agg #[.int .i64 (kn ms e 0), .int .i64 (kn ms e 1), .int .i64 (kn ms e 2), .int .i64 (kn ms e 3)]) ?_ rfl ⟨rfl, ?_⟩
      · simp [results, Try.results40, go_sem, z0, z1, z2, z3]
      · exact (((hb.setCell (p := ⟨w.heap.size + 1, 0, none⟩) (by simp) _).setCell (p := ⟨w.heap.size + 1, 1, none⟩) (by simp) _).setCell (p := ⟨w.heap.size + 1, 2, none⟩) (by simp) _).setCell (p := ⟨w.heap.size + 1, 3, none⟩) (by simp) _

end Go.Proofs.Ytfefidmbkbigoaa
