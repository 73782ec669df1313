/- The contract of awake, of layer 13: true. -/
import Derived.Test.YtoaejkfejdaiaaaWkTake
import Derived.Test.YtoaejkfejdaiaaaWkNew
namespace Go.Proofs.Ytoaejkfejdaiaaa
open Go.RowKit

/-- Work that was made since, and all that was there ahead as it was. -/
def WB (w : World) (b n cnt : Nat) (T : Nat → List Txt) (wr : World) : Prop := ∃ S, WU wr w.heap.size b n cnt S T ∧ Below w.heap.size w wr
section
variable {w wr w' : World} {b n cnt : Nat} {T T' : Nat → List Txt} {S : Nat → Prop}
theorem WB.step (h : WU wr w.heap.size b n cnt S T) (hb : Below w.heap.size w wr) {cnt' : Nat} (hr : WUR w.heap.size b n cnt' S T' wr w') : WB w b n cnt' T' w' := by
  obtain ⟨S', h1, h2, _⟩ := hr
  exact ⟨S', h1, hb.trans (h.k.only (Nat.le_refl _) h2)⟩
theorem aw_push {h : Nat} {cnt : Nat} {T : Nat → List Txt} (hw : Hid (WB w b 2 cnt T wr)) (hc : cnt < 1000) (hh : h < 2) {k : Txt} (hk : k.length ≤ 1000) (hs : hasW 2 T k = false) {U : Nat → List Txt} (hU : updF T h (putT (T h) k) = U) : Calls Try.prog 8 #[.pointer (some ⟨b, 0, none⟩), .int .i64 (h : Int), .string ⟨k.toArray⟩] wr fun r w' => r = .returned (.bool true) ∧ Hid (WB w b 2 (cnt + 1) U w') := by
  obtain ⟨S, q, hb⟩ := hw
  subst hU
  exact (wPush_yes q (by omega) (by omega) hh hk hs).mono fun r w' ⟨e, hr⟩ => ⟨e, WB.step q hb hr⟩
theorem aw_no {z : Int} (hw : Hid (WB w b 2 cnt T wr)) {k : Txt} (hk : k.length ≤ 1000) (hs : hasW 2 T k = true) : Calls Try.prog 8 #[.pointer (some ⟨b, 0, none⟩), .int .i64 z, .string ⟨k.toArray⟩] wr fun r w' => r = .returned (.bool false) ∧ w' = wr := by
  obtain ⟨S, q, hb⟩ := hw
  exact wPush_no q hk (.inr hs)
theorem aw_steal {i j : Nat} (hw : Hid (WB w b 2 cnt T wr)) (hc : cnt < 1000) (hi : i < 2) (hj : j < 2) (hij : i ≠ j) {k : Txt} {l : List Txt} (hT : T j = l ++ [k]) {U : Nat → List Txt} (hU : updF (updF T j l) i (putT (T i) k) = U) : Calls Try.prog 12 #[.pointer (some ⟨b, 0, none⟩), .int .i64 (i : Int), .int .i64 (j : Int)] wr fun r w' => r = .returned (.tuple #[.string ⟨k.toArray⟩, .bool true]) ∧ Hid (WB w b 2 (cnt + 1) U w') := by
  obtain ⟨S, q, hb⟩ := hw
  subst hU
  exact (wSteal_any q (by omega) (by omega) hi hj hij hT).mono fun r w' ⟨e, hr⟩ => ⟨e, WB.step q hb hr⟩
theorem aw_same {z : Int} (hw : Hid (WB w b 2 cnt T wr)) : Calls Try.prog 12 #[.pointer (some ⟨b, 0, none⟩), .int .i64 z, .int .i64 z] wr fun r w' => r = .returned (.tuple #[.string ⟨#[]⟩, .bool false]) ∧ w' = wr := by
  obtain ⟨S, q, hb⟩ := hw
  exact wSteal_no q z z (.inr (.inr (.inl rfl)))
theorem aw_pop {j : Nat} (hw : Hid (WB w b 2 cnt T wr)) (hj : j < 2) {k : Txt} {l : List Txt} (hT : T j = k :: l) {U : Nat → List Txt} (hU : updF T j l = U) : Calls Try.prog 10 #[.pointer (some ⟨b, 0, none⟩), .int .i64 (j : Int)] wr fun r w' => r = .returned (.tuple #[.string ⟨k.toArray⟩, .bool true]) ∧ Hid (WB w b 2 cnt U w') := by
  obtain ⟨S, q, hb⟩ := hw
  subst hU
  exact (wPop_any q hj hT).mono fun r w' ⟨e, hr⟩ => ⟨e, WB.step q hb hr⟩
theorem aw_len {j m : Nat} (hw : Hid (WB w b 2 cnt T wr)) (hj : j < 2) (hm : (T j).length = m) : Calls Try.prog 14 #[.pointer (some ⟨b, 0, none⟩), .int .i64 (j : Int)] wr fun r w' => r = .returned (.int .i64 (m : Int)) ∧ w' = wr := by
  obtain ⟨S, q, hb⟩ := hw
  have := wLen_any q.k hj
  rw [hm] at this
  exact this
theorem aw_tot {m : Nat} (hw : Hid (WB w b 2 cnt T wr)) (hm : totW 2 T = m) : Calls Try.prog 15 #[.pointer (some ⟨b, 0, none⟩)] wr fun r w' => r = .returned (.int .i64 (m : Int)) ∧ w' = wr := by
  obtain ⟨S, q, hb⟩ := hw
  have := wTotal_any q.k
  rw [hm] at this
  exact this
theorem aw_has {x : Bool} (hw : Hid (WB w b 2 cnt T wr)) {k : Txt} (hk : k.length ≤ 1000) (hx : hasW 2 T k = x) : Calls Try.prog 17 #[.pointer (some ⟨b, 0, none⟩), .string ⟨k.toArray⟩] wr fun r w' => r = .returned (.bool x) ∧ w' = wr := by
  obtain ⟨S, q, hb⟩ := hw
  have := wHas_any q.k hk
  rw [hx] at this
  exact this
end
/-- Two workers' lists. -/
def two2 (a c : List Txt) (k : Nat) : List Txt := if k = 0 then a else if k = 1 then c else []
theorem two2_0 (a c l : List Txt) : updF (two2 a c) 0 l = two2 l c := by
  funext k; unfold updF two2
  by_cases h : k = 0 <;> simp [h]
theorem two2_1 (a c l : List Txt) : updF (two2 a c) 1 l = two2 a l := by
  funext k; unfold updF two2
  by_cases h : k = 1 <;> simp [h]
set_option maxRecDepth 100000 in
set_option maxHeartbeats 4000000 in
theorem awake13_any (w : World) : Calls Try.prog 6 #[] w fun r w' => r = .returned (.bool true) ∧ Below w.heap.size w w' := by
  have HN : Hid (Calls Try.prog 7 #[.int .i64 2] w _) := wNew_any (n := 2) (by omega) (by omega) w
  have HN0 : Hid (∀ W, Calls Try.prog 7 #[.int .i64 65] W fun r w' => r = .returned (.tuple #[.pointer none, .int .i64 1]) ∧ w' = W) := fun W => wNew_bad (.inr (by omega)) W
  go_enter Try.func6, Try.ntmps6
  go_wp2_with fail
  refine HN.out.mono ?_
  rintro r w1 ⟨rfl, hb1, S, q1, _⟩
  have e0 : (fun _ : Nat => ([] : List Txt)) = two2 [] [] := by
    funext k; unfold two2; split
    · rfl
    · split <;> rfl
  rw [e0] at q1
  have H1 : Hid (WB w (w.heap.size + 1) 2 0 (two2 [] []) w1) := ⟨S, q1, hb1⟩
  clear hb1 q1
  go_wp2_with fail
  refine (HN0.out _).mono ?_
  rintro r w' ⟨rfl, rfl⟩
  go_wp2_with fail
  have C : Hid (Calls Try.prog 8 #[.pointer (some ⟨w.heap.size + 1, 0, none⟩), .int .i64 0, .string ⟨#[97]⟩] w' fun r w2 => r = .returned (.bool true) ∧ Hid (WB w (w.heap.size + 1) 2 1 (two2 [[97]] []) w2)) := aw_push (h := 0) (k := [97]) H1 (by omega) (by omega) (by decide) (by decide) (two2_0 _ _ _)
  refine C.out.mono ?_
  rintro r w2 ⟨rfl, H2⟩
  clear C
  go_wp2_with fail
  have C : Hid (Calls Try.prog 8 #[.pointer (some ⟨w.heap.size + 1, 0, none⟩), .int .i64 1, .string ⟨#[97]⟩] w2 fun r w' => r = .returned (.bool false) ∧ w' = w2) := aw_no (k := [97]) H2 (by decide) (by decide)
  refine C.out.mono ?_
  rintro r w' ⟨rfl, rfl⟩
  clear C
  go_wp2_with fail
  have C : Hid (Calls Try.prog 8 #[.pointer (some ⟨w.heap.size + 1, 0, none⟩), .int .i64 0, .string ⟨#[]⟩] w' fun r w2 => r = .returned (.bool true) ∧ Hid (WB w (w.heap.size + 1) 2 2 (two2 [[97], []] []) w2)) := aw_push (h := 0) (k := []) H2 (by omega) (by omega) (by decide) (by decide) (two2_0 _ _ _)
  refine C.out.mono ?_
  rintro r w3 ⟨rfl, H3⟩
  clear C
  go_wp2_with fail
  have C : Hid (Calls Try.prog 12 #[.pointer (some ⟨w.heap.size + 1, 0, none⟩), .int .i64 1, .int .i64 0] w3 fun r w2 => r = .returned (.tuple #[.string ⟨#[]⟩, .bool true]) ∧ Hid (WB w (w.heap.size + 1) 2 3 (two2 [[97]] [[]]) w2)) := aw_steal (i := 1) (j := 0) (k := []) (l := [[97]]) H3 (by omega) (by omega) (by omega) (by omega) rfl (by rw [two2_0, two2_1]; rfl)
  refine C.out.mono ?_
  rintro r w4 ⟨rfl, H4⟩
  clear C
  go_wp2_with fail
  have C : Hid (Calls Try.prog 12 #[.pointer (some ⟨w.heap.size + 1, 0, none⟩), .int .i64 1, .int .i64 1] w4 fun r w' => r = .returned (.tuple #[.string ⟨#[]⟩, .bool false]) ∧ w' = w4) := aw_same H4
  refine C.out.mono ?_
  rintro r w' ⟨rfl, rfl⟩
  clear C
  go_wp2_with fail
  have C : Hid (Calls Try.prog 10 #[.pointer (some ⟨w.heap.size + 1, 0, none⟩), .int .i64 0] w' fun r w2 => r = .returned (.tuple #[.string ⟨#[97]⟩, .bool true]) ∧ Hid (WB w (w.heap.size + 1) 2 3 (two2 [] [[]]) w2)) := aw_pop (j := 0) (k := [97]) (l := []) H4 (by omega) rfl (two2_0 _ _ _)
  refine C.out.mono ?_
  rintro r w5 ⟨rfl, H5⟩
  clear C
  go_wp2_with fail
  have C : Hid (Calls Try.prog 14 #[.pointer (some ⟨w.heap.size + 1, 0, none⟩), .int .i64 1] w5 fun r w' => r = .returned (.int .i64 1) ∧ w' = w5) := aw_len (j := 1) (m := 1) H5 (by omega) rfl
  refine C.out.mono ?_
  rintro r w' ⟨rfl, rfl⟩
  clear C
  go_wp2_with fail
  have C : Hid (Calls Try.prog 15 #[.pointer (some ⟨w.heap.size + 1, 0, none⟩)] w' fun r w2 => r = .returned (.int .i64 1) ∧ w2 = w') := aw_tot (m := 1) H5 (by decide)
  refine C.out.mono ?_
  rintro r w6 ⟨rfl, rfl⟩
  clear C
  go_wp2_with fail
  have C : Hid (Calls Try.prog 17 #[.pointer (some ⟨w.heap.size + 1, 0, none⟩), .string ⟨#[]⟩] w6 fun r w' => r = .returned (.bool true) ∧ w' = w6) := aw_has (k := []) H5 (by decide) (by decide)
  refine C.out.mono ?_
  rintro r w' ⟨rfl, rfl⟩
  clear C
  go_wp2_with fail
  have C : Hid (Calls Try.prog 17 #[.pointer (some ⟨w.heap.size + 1, 0, none⟩), .string ⟨#[97]⟩] w' fun r w2 => r = .returned (.bool false) ∧ w2 = w') := aw_has (k := [97]) H5 (by decide) (by decide)
  refine C.out.mono ?_
  rintro r w7 ⟨rfl, rfl⟩
  clear C
  obtain ⟨S5, _, hb5⟩ := H5.out
  have HB := Lib.hid hb5
  clear hb5
  go_wp2
  go_ret
  exact ⟨rfl, HB.out⟩
end Go.Proofs.Ytoaejkfejdaiaaa
