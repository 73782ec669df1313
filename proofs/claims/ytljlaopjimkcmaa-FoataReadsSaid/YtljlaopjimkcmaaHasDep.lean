/- The contracts of levelOf's closure, of slices.IndexFunc and of slices.ContainsFunc with it. -/
import Derived.Test.YtljlaopjimkcmaaLvs
namespace Go.Proofs.Ytljlaopjimkcmaa
open Go.RowKit

set_option maxRecDepth 100000 in
set_option maxHeartbeats 1000000 in
theorem ahead_any (x e : Ev) (g : Nat) (w : World) (hb : EvBox w g e) :
    Calls Try.prog 34 #[.agg #[.int .i64 x.thread, .int .i64 x.kind, .int .i64 x.obj, .bool x.fail], .pointer (some ⟨g, 0, none⟩)] w fun r w' => r = .returned (.bool (dep x e)) ∧ Below w.heap.size w w' := by
  have hba := below_alloc1 w (.cells #[.int .i64 x.thread, .int .i64 x.kind, .int .i64 x.obj, .bool x.fail] 39)
  obtain ⟨c0, c1, c2, c3⟩ := (hb.later hba).cells
  obtain ⟨d0, d1, d2, d3⟩ := (EvBox.new w x).cells
  clear hb
  go_enter Try.func34, Try.ntmps34
  go_wp2_with fail
  refine (depends_any x e _).mono ?_
  rintro r w' ⟨rfl, hb'⟩
  have hB := hba.trans (hb'.mono hba.size)
  go_wp2
  go_ret
  exact ⟨rfl, hB⟩

def IdxR (es : List Ev) (e : Ev) (w : World) (r : Ending) (w' : World) : Prop := ∃ z : Int, r = .returned (.int .i64 z) ∧ decide (0 ≤ z) = es.any (fun x => dep x e) ∧ Below w.heap.size w w'

set_option maxRecDepth 100000 in
set_option maxHeartbeats 2000000 in
theorem indexE_any (a : Option Addr) (cap : Nat) (es : List Ev) (e : Ev) (g : Nat) (w : World) (hl : EvsAt w a es) (hb : EvBox w g e) :
    Calls Try.prog 44 #[.slice a es.length cap, .func (.func 34) #[] #[.pointer (some ⟨g, 0, none⟩)]] w (IdxR es e w) := by
  have hm := hl.1
  unfold maxLen at hm
  have HL := Lib.hid hl
  have HB := Lib.hid hb
  clear hl hb
  go_enter Try.func44, Try.ntmps44
  go_wp2
  go_loopw [8] (fun i wr => ∃ k : Nat, k ≤ es.length ∧ i = .int .i64 k ∧ Hid (∀ j (h : j < es.length), j < k → dep es[j] e = false) ∧ Below w.heap.size w wr) (fun i _ => es.length - (intOf i).toNat)
  case atStart => exact ⟨0, Nat.zero_le _, rfl, (fun j _ h => absurd h (by omega)), Below.refl _ _⟩
  case round =>
    obtain ⟨k, hk, rfl, HA, hbw⟩ := hrel
    by_cases hlt : k < es.length
    · obtain ⟨b, o, rfl, hc⟩ := HL.out.2 (by intro e; simp [e] at hlt)
      obtain ⟨c0, c1, c2, c3⟩ := hc k hlt
      have d0 := cell_later hbw c0
      have d1 := cell_later hbw c1
      have d2 := cell_later hbw c2
      have d3 := cell_later hbw c3
      have HX := Lib.hid (HB.out.later hbw)
      have h1 : Hid (dep es[k] e = true → es.any (fun x => dep x e) = true) := fun h => List.any_eq_true.2 ⟨_, List.getElem_mem hlt, h⟩
      have h2 : Hid (dep es[k] e = false → ∀ j (h : j < es.length), j < k + 1 → dep es[j] e = false) := fun h j hj hjk => by
        by_cases e' : j = k
        · subst e'; exact h
        · exact HA.out j hj (by omega)
      clear hc c0 c1 c2 c3
      generalize es[k] = x at *
      go_wp2_with fail
      refine (ahead_any x e g _ HX.out).mono ?_
      rintro r w2 ⟨rfl, hb5⟩
      have hb6 := hbw.trans (hb5.mono hbw.size)
      clear hb5
      cases hr : dep x e
      · have HN := Lib.hid (h2.out hr)
        clear h1 h2
        go_wp2
        go_roundw
        case rel => exact ⟨k + 1, by omega, by go_num, HN, hb6⟩
        case measure => simp [intOf]; omega
      · have HN := Lib.hid (h1.out hr)
        clear h1 h2
        go_wp2
        go_ret
        exact ⟨k, rfl, by rw [HN.out]; simp, hb6⟩
    · have HN : Hid (es.any (fun x => dep x e) = false) := by
        show _ = _
        rw [List.any_eq_false]
        intro x hx
        obtain ⟨j, hj, rfl⟩ := List.mem_iff_getElem.1 hx
        rw [HA.out j hj (by omega)]
        simp
      obtain rfl : k = es.length := by omega
      go_wp2
      go_ret
      exact ⟨-1, rfl, by rw [HN.out]; simp, hbw⟩

set_option maxRecDepth 100000 in
set_option maxHeartbeats 1000000 in
theorem containsE_any (a : Option Addr) (cap : Nat) (es : List Ev) (e : Ev) (g : Nat) (w : World) (hl : EvsAt w a es) (hb : EvBox w g e) :
    Calls Try.prog 33 #[.slice a es.length cap, .func (.func 34) #[] #[.pointer (some ⟨g, 0, none⟩)]] w fun r w' => r = .returned (.bool (es.any fun x => dep x e)) ∧ Below w.heap.size w w' := by
  have H := Lib.hid (indexE_any a cap es e g w hl hb)
  clear hl hb
  go_enter Try.func33, Try.ntmps33
  go_wp2_with fail
  refine H.out.mono ?_
  rintro r w' ⟨z, rfl, hz, hb'⟩
  have HZ := Lib.hid hz
  clear hz
  go_wp2
  go_ret
  exact ⟨ret_bool HZ.out, hb'⟩

end Go.Proofs.Ytljlaopjimkcmaa
