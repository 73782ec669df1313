/- The contract of an end's Push. -/
import Derived.Test.YtoaejkfejdaiaaaQuSwap
import Derived.Deep.RegionLaw
import Derived.Deep.RegionHeld3
import Derived.Test.YtoaejkfejdaiaaaOrdK
namespace Go.Proofs.Ytoaejkfejdaiaaa
open Go.RowKit

theorem infoIt : (Try.prog.info? 69).map (fun i => (i.zero, i.size, i.bytes)) = some (some (.pointer none), 1, 8) := by kernel_rfl
theorem step_appendIt {w : World} {ops : Array Oper} {o : Oper} {a : Act} {K : Act → World → Prop} {Q : Exit → Act → World → Prop} {E : Prop} (hgd : o.guard = none) (s x : Operand)
    (ho : o.op = .call { callee := .builtin .append, args := #[s, x], argTypes := #[57, 57] }) (B : Nat) (v : Value) (l : List Nat) (hs : a.eval s = v) (hown : OwnRow w B 69 1 itCell v l)
    (ad : Addr) (hx : a.eval x = .slice (some ad) 1 1) (y : Nat) (hnew : w.cell? ad = some (.pointer (some ⟨y, 0, none⟩))) (hlen : l.length ≤ 1000000) (hB : B ≤ w.heap.size)
    (h : ∀ v' w', OwnRow w' B 69 1 itCell v' (l ++ [y]) → w.grownBy w' v.ownBlock → (v'.ownBlock = v.ownBlock ∨ v'.ownBlock = some w.heap.size) → K (a.put o.dst v') w') : if Region.wanted o (yielded ops a.tmps) = true then Oper.wp Try.prog o a w K Q else E := by
  refine step_appendAt (f := itCell) (n := 1) 57 69 8 (.pointer none) Try.underlying57 infoIt rfl (by omega) (by omega) itCell_len hgd s x ho B v l hs hown ad hx y (itCell_one y) ?_ hlen hB ?_
  · intro j u hu
    cases j with
    | zero =>
      injection hu with hu
      rw [← hu]
      exact hnew
    | succ j => simp [itCell] at hu
  · intro v' w' h1 _ h3 h4
    exact h v' w' h1 h3 h4
theorem assert_item (v : Value) (w : World) : (Instr.typeAssert (.iface 69 v) 20 69 false).run Try.prog w = .ok v w := by kernel_rfl
section
variable {w w7 : World} {B b : Nat} {pre : Nat → Txt} {ids : List Nat} {vs : Nat → Value} {pl : Nat → Nat → Int} {ls : Nat → List Nat}
/-- A row is longer by one. -/
theorem QR.grow (q : QR w B b pre ids vs pl ls) {s : Nat} (hs : s < 2) {x : Nat} (hx : x ∈ ids) (hl : (ls s).length < 100000) {o : Obj} {v' : Value} (hown : OwnRow w7 B 69 1 itCell v' (ls s ++ [x])) (hg : (w.alloc o).grownBy w7 (vs s).ownBlock)
    (hv : v'.ownBlock = (vs s).ownBlock ∨ v'.ownBlock = some (w.alloc o).heap.size) :
    QR (w7.setCell ⟨b, s, none⟩ v') B b pre ids (updF vs s v') pl (updF ls s (ls s ++ [x])) ∧ OnlyS (QS b ids vs) w (w7.setCell ⟨b, s, none⟩ v') ∧ w7.frozen? ⟨b, s, none⟩ = false ∧ w7.cell? ⟨b, s, none⟩ = some (vs s) := by
  have hsz : (w.alloc o).heap.size = w.heap.size + 1 := World.size_alloc _ _
  have hold : ∀ y, y < w.heap.size → (w.alloc o).heap[y]? = w.heap[y]? := fun y hy => (below_alloc1 w o).block y hy
  have hbl : b < w.heap.size := q.lt (.inl rfl)
  have hbr : ∀ t, t < 2 → (vs t).ownBlock ≠ some b := fun t ht e => by
    obtain ⟨_, c, hc⟩ := (q.row t ht).kindQ e
    have := q.box
    rw [hc] at this; injection this with this; injection this with _ this; exact absurd this (by decide)
  have hbox7 : w7.heap[b]? = some (.cells #[vs 0, vs 1] 60 (0, 0)) := by
    rw [hg.block b (by omega) (fun e => hbr s hs e.symm), hold b hbl]
    exact q.box
  have h7 : ∀ y, y < w.heap.size → y ≠ b → (vs s).ownBlock ≠ some y → (w7.setCell ⟨b, s, none⟩ v').heap[y]? = w.heap[y]? := fun y h1 h2 h3 => by
    rw [Below.heap_setCell _ _ _ _ h2, hg.block y (by omega) (fun e => h3 e.symm), hold y h1]
  have hz7 : w.heap.size ≤ w7.heap.size := by have := hg.size; omega
  have hvb : ∀ y, v'.ownBlock = some y → y ≠ b := by
    rintro y hy rfl
    rcases hv with hv | hv
    · rw [hv] at hy; exact hbr s hs hy
    · rw [hv] at hy; injection hy with hy; omega
  refine ⟨⟨by rw [World.size_setCell]; exact Nat.le_trans q.low hz7, q.lowb, ?_, fun t ht => ?_, fun t ht => ?_, fun y h1 h2 => ?_, fun y hy => ⟨(q.item y hy).1, ?_⟩, fun t ht y hy => ?_⟩, ⟨hg.os, hg.tape, hg.output, by rw [World.size_setCell]; exact hz7, fun y hy hn => h7 y hy (fun e => hn (.inl e)) fun e => hn (.own hs e)⟩, by simp [World.frozen?, hbox7], ?_⟩
  · rw [heap_setCell_same w7 b s _ _ _ hbox7]
    rcases two hs with rfl | rfl <;> simp [updF]
  · by_cases e : t = s
    · subst e
      rw [updF_same, updF_same]
      exact hown.keepQ fun y hy => Below.heap_setCell _ _ _ _ (hvb y hy)
    · rw [updF_ne _ _ e, updF_ne _ _ e]
      refine (q.row t ht).keepQ fun y hy => h7 y (q.lt (.own ht hy)) (fun e2 => hbr t ht (e2 ▸ hy)) fun e2 => ?_
      rcases two hs with rfl | rfl <;> rcases two ht with rfl | rfl
      · exact e rfl
      · exact q.apart y e2 hy
      · exact q.apart y hy e2
      · exact e rfl
  · by_cases e : t = s
    · subst e; rw [updF_same, List.length_append]; simp; omega
    · rw [updF_ne _ _ e]; exact q.len t ht
  · have hnew : ∀ t y, t < 2 → (vs t).ownBlock = some y → some (w.alloc o).heap.size ≠ some y := fun t y ht hy e => by
      injection e with e
      have := q.lt (x := y) (.own ht hy)
      omega
    rcases two hs with rfl | rfl
    · rw [updF_same] at h1
      rw [updF_ne _ _ (by omega)] at h2
      rcases hv with hv | hv
      · exact q.apart y (hv ▸ h1) h2
      · exact hnew 1 y (by omega) h2 (hv ▸ h1)
    · rw [updF_same] at h2
      rw [updF_ne _ _ (by omega)] at h1
      rcases hv with hv | hv
      · exact q.apart y h1 (hv ▸ h2)
      · exact hnew 0 y (by omega) h1 (hv ▸ h2)
  · refine (h7 y (q.lt (.inr (.inr (.inr hy)))) (fun e => ?_) (fun e => q.row_item hs e hy rfl)).trans (q.item y hy).2
    subst e
    have := (q.item y hy).2
    rw [q.box] at this; injection this with this; injection this with _ this; exact absurd this (by decide)
  · by_cases e : t = s
    · subst e
      rw [updF_same, List.mem_append, List.mem_singleton] at hy
      rcases hy with hy | rfl
      · exact q.sub t ht y hy
      · exact hx
    · rw [updF_ne _ _ e] at hy
      exact q.sub t ht y hy
  · rw [cell_of_row w7 b s _ _ _ hbox7]
    rcases two hs with rfl | rfl <;> rfl
set_option maxRecDepth 100000 in
set_option maxHeartbeats 2000000 in
theorem endPush_any (q : QR w B b pre ids vs pl ls) {s : Nat} (hs : s < 2) {x : Nat} (hx : x ∈ ids) (hl : (ls s).length < 100000) {z : Nat} (hz : z ≤ w.heap.size) : Calls Try.prog 58 #[endV b s, .iface 69 (.pointer (some ⟨x, 0, none⟩))] w fun r w' => r = .returned (.tuple #[]) ∧
    ∃ v', QR w' B b pre ids (updF vs s v') (plPut pl s x (ls s).length) (updF ls s (ls s ++ [x])) ∧ OnlyS (QS b ids vs) w w' ∧ (v'.ownBlock = (vs s).ownBlock ∨ ∃ y, v'.ownBlock = some y ∧ z ≤ y) := by
  have hb1 : Below w.heap.size w (w.alloc (.cells #[.pointer (some ⟨b, 0, none⟩), .int .i64 s] 67)) := below_alloc1 w _
  have q1 := q.later hb1
  have hs0 : (w.alloc (.cells #[.pointer (some ⟨b, 0, none⟩), .int .i64 s] 67)).cell? ⟨w.heap.size, 0, none⟩ = some (.pointer (some ⟨b, 0, none⟩)) := by simp
  have hs1 : (w.alloc (.cells #[.pointer (some ⟨b, 0, none⟩), .int .i64 s] 67)).cell? ⟨w.heap.size, 1, none⟩ = some (.int .i64 s) := by simp
  have hsi : (s : Int) < 2 := by omega
  have cx := (q1.cellI hx).2 s hs
  have fx := frozen_item q1 hx (1 + s)
  have Q1 := Lib.hid q1
  have HEB : Hid ((w.alloc (.cells #[.pointer (some ⟨b, 0, none⟩), .int .i64 s] 67)).heap[w.heap.size]? = some (.cells #[.pointer (some ⟨b, 0, none⟩), .int .i64 s] 67 (0, 0))) := heap_alloc_new w _
  have hEN := Q1.out.not_other HEB.out (by decide) (by decide) (by decide)
  have hfz : Hid (∀ W, Below (w.alloc (.cells #[.pointer (some ⟨b, 0, none⟩), .int .i64 s] 67)).heap.size (w.alloc (.cells #[.pointer (some ⟨b, 0, none⟩), .int .i64 s] 67)) W → W.frozen? ⟨x, 1 + s, none⟩ = false) := fun W hb => frozen_item (Q1.out.later hb) hx _
  have has := assert_item (.pointer (some ⟨x, 0, none⟩))
  unfold endV
  clear q q1
  go_enter Try.func58, Try.ntmps58
  go_wp2_with fail
  have hex : w.heap.size ≠ x := fun e => hEN (.inr (.inr (.inr (e ▸ hx))))
  have HCC : Hid (∀ W, Below (w.alloc (.cells #[.pointer (some ⟨b, 0, none⟩), .int .i64 s] 67)).heap.size (w.alloc (.cells #[.pointer (some ⟨b, 0, none⟩), .int .i64 s] 67)) W → W.cell? ⟨w.heap.size, 0, none⟩ = some (.pointer (some ⟨b, 0, none⟩)) ∧ W.cell? ⟨w.heap.size, 1, none⟩ = some (.int .i64 s)) := fun W hb => ⟨cell_later hb hs0, cell_later hb hs1⟩
  have hB0 : Below (w.alloc (.cells #[.pointer (some ⟨b, 0, none⟩), .int .i64 s] 67)).heap.size (w.alloc (.cells #[.pointer (some ⟨b, 0, none⟩), .int .i64 s] 67)) (w.alloc (.cells #[.pointer (some ⟨b, 0, none⟩), .int .i64 s] 67)).drew := (Below.refl _ _).drew
  go_region_held3 (fun W => W.cell? ⟨w.heap.size, 0, none⟩ = some (.pointer (some ⟨b, 0, none⟩)) ∧ W.cell? ⟨w.heap.size, 1, none⟩ = some (.int .i64 s))
    (first | with_reducible exact HCC.out _ hB0 | with_reducible exact HCC.out _ hB1 | with_reducible exact hK3)
    (first | (go_at_call 55; ((with_reducible refine (endLen_any Q1.out.drew hs).mono ?_); rintro r w3 ⟨rfl, hb3⟩; have hB1 : Below (w.alloc (.cells #[.pointer (some ⟨b, 0, none⟩), .int .i64 s] 67)).heap.size (w.alloc (.cells #[.pointer (some ⟨b, 0, none⟩), .int .i64 s] 67)) w3 := Below.trans hB0 hb3; have cx3 := cell_later hB1 cx; have fx3 := hfz.out w3 hB1; have hK3 : (w3.setCell ⟨x, 1 + s, none⟩ (.int .i64 (ls s).length)).cell? ⟨w.heap.size, 0, none⟩ = some (.pointer (some ⟨b, 0, none⟩)) ∧ (w3.setCell ⟨x, 1 + s, none⟩ (.int .i64 (ls s).length)).cell? ⟨w.heap.size, 1, none⟩ = some (.int .i64 s) := ⟨(cell_other w3 hex _ _ _).trans (HCC.out w3 hB1).1, (cell_other w3 hex _ _ _).trans (HCC.out w3 hB1).2⟩)))
  obtain ⟨q4, o4, _⟩ := (Q1.out.later hB1).storeP hs hx ((ls s).length : Int)
  have d0 := (cell_other w3 hex (1 + s) 0 (.int .i64 (ls s).length)).trans (HCC.out w3 hB1).1
  have d1 := (cell_other w3 hex (1 + s) 1 (.int .i64 (ls s).length)).trans (HCC.out w3 hB1).2
  have O4 : Hid (OnlyS (QS b ids vs) w (w3.setCell ⟨x, 1 + s, none⟩ (.int .i64 (ls s).length))) := OnlyS.trans (OnlyS.of_below (hb1.trans (hB1.mono hb1.size))) o4
  have Q4 := Lib.hid q4
  have hEN4 : w.heap.size < (w3.setCell ⟨x, 1 + s, none⟩ (.int .i64 (ls s).length)).heap.size := World.block_lt_of_cell? _ _ d0
  clear q4 o4 HCC hB0 hB1 hK3 cx3 fx3 hb3 hs0 hs1 cx fx hfz HEB hb1 Q1 hex has
  generalize w3.setCell ⟨x, 1 + s, none⟩ (.int .i64 (ls s).length) = W4 at *
  generalize w.heap.size = eb at *
  obtain ⟨a4, cap4, hv4⟩ := Q4.out.sliceV hs
  have cb4 := Q4.out.cellB hs
  rw [hv4] at cb4
  have HV4 := Lib.hid hv4
  have hba := below_alloc1 W4 (.cells #[.pointer (some ⟨x, 0, none⟩)] 69)
  have d0a := cell_later hba d0
  have d1a := cell_later hba d1
  have cba := cell_later hba cb4
  have HTD : Hid (OwnRow (W4.alloc (.cells #[.pointer (some ⟨x, 0, none⟩)] 69)).drew B 69 1 itCell (.slice a4 (ls s).length cap4) (ls s)) := by
    have := ((Q4.out.later hba).row s hs).keepQ (w' := (W4.alloc (.cells #[.pointer (some ⟨x, 0, none⟩)] 69)).drew) fun _ _ => rfl
    rw [hv4] at this
    exact this
  have hcl : (W4.alloc (.cells #[.pointer (some ⟨x, 0, none⟩)] 69)).drew.cell? ⟨W4.heap.size, 0, none⟩ = some (.pointer (some ⟨x, 0, none⟩)) := by
    show (W4.alloc (.cells #[.pointer (some ⟨x, 0, none⟩)] 69)).cell? _ = _
    simp
  have hzc : B ≤ (W4.alloc (.cells #[.pointer (some ⟨x, 0, none⟩)] 69)).drew.heap.size := Nat.le_trans Q4.out.low hba.size
  have HGR : Hid (∀ (v' : Value) (w7 : World), OwnRow w7 B 69 1 itCell v' (ls s ++ [x]) → (W4.alloc (.cells #[.pointer (some ⟨x, 0, none⟩)] 69)).grownBy w7 (vs s).ownBlock → (v'.ownBlock = (vs s).ownBlock ∨ v'.ownBlock = some (W4.alloc (.cells #[.pointer (some ⟨x, 0, none⟩)] 69)).heap.size) → _) := fun v' w7 h1 h2 h3 => Q4.out.grow hs hx hl h1 h2 h3
  have heb : eb ≠ b := fun e => hEN (.inl e)
  have hHeld : W4.drew.cell? ⟨eb, 0, none⟩ = some (.pointer (some ⟨b, 0, none⟩)) ∧ W4.drew.cell? ⟨eb, 1, none⟩ = some (.int .i64 s) ∧ W4.drew.cell? ⟨b, s, none⟩ = some (.slice a4 (ls s).length cap4) := ⟨d0, d1, cb4⟩
  have hA5 : (W4.alloc (.cells #[.pointer (some ⟨x, 0, none⟩)] 69)).drew.cell? ⟨eb, 0, none⟩ = some (.pointer (some ⟨b, 0, none⟩)) ∧ (W4.alloc (.cells #[.pointer (some ⟨x, 0, none⟩)] 69)).drew.cell? ⟨eb, 1, none⟩ = some (.int .i64 s) ∧ (W4.alloc (.cells #[.pointer (some ⟨x, 0, none⟩)] 69)).drew.cell? ⟨b, s, none⟩ = some (.slice a4 (ls s).length cap4) := ⟨d0a, d1a, cba⟩
  go_wp2_with fail
  refine wp_region_k (S := fun W => W.cell? ⟨eb, 0, none⟩ = some (.pointer (some ⟨b, 0, none⟩)) ∧ W.cell? ⟨eb, 1, none⟩ = some (.int .i64 s) ∧ W.cell? ⟨b, s, none⟩ = some (.slice a4 (ls s).length cap4)) (k := 18) (by kernel_rfl) ?_
  refine wpAnyK_take (i := 0) (v := ?_) [18] rfl (by kernel_rfl) (by kernel_rfl) (by kernel_rfl) (by kernel_rfl) (by kernel_rfl) (fun _ _ _ h => h) (Or.inl ⟨by kernel_rfl, ?_⟩) hHeld ?_
  rotate_left
  · intro w hSw
    try dsimp only at hSw
    go_simp
    with_reducible rfl
  try simp only [Act.put, List.setIfInBounds_toArray]
  refine wpAnyK_take (i := 1) (v := ?_) [18] rfl (by kernel_rfl) (by kernel_rfl) (by kernel_rfl) (by kernel_rfl) (by kernel_rfl) (fun _ _ _ h => h) (Or.inl ⟨by kernel_rfl, ?_⟩) hHeld ?_
  rotate_left
  · intro w hSw
    try dsimp only at hSw
    go_simp
    with_reducible rfl
  try simp only [Act.put]
  refine wpAnyK_take (i := 2) (v := ?_) [18] rfl (by kernel_rfl) (by kernel_rfl) (by kernel_rfl) (by kernel_rfl) (by kernel_rfl) (fun _ _ _ h => h) (Or.inl ⟨by kernel_rfl, ?_⟩) hHeld ?_
  rotate_left
  · intro w hSw
    try dsimp only at hSw
    go_simp
    with_reducible rfl
  try simp only [Act.put]
  refine wpAnyK_take (i := 3) (v := ?_) [18] rfl (by kernel_rfl) (by kernel_rfl) (by kernel_rfl) (by kernel_rfl) (by kernel_rfl) (fun _ _ _ h => h) (Or.inl ⟨by kernel_rfl, ?_⟩) hHeld ?_
  rotate_left
  · intro w hSw
    try dsimp only at hSw
    go_simp
    with_reducible rfl
  try simp only [Act.put]
  refine wpAnyK_take (i := 4) (v := ?_) [18] rfl (by kernel_rfl) (by kernel_rfl) (by kernel_rfl) (by kernel_rfl) (by kernel_rfl) (fun _ _ _ h => h) (Or.inl ⟨by kernel_rfl, ?_⟩) hHeld ?_
  rotate_left
  · intro w hSw
    try dsimp only at hSw
    go_simp
    with_reducible rfl
  try simp only [Act.put]
  refine wpAnyK_take (i := 5) (v := ?_) [18] rfl (by kernel_rfl) (by kernel_rfl) (by kernel_rfl) (by kernel_rfl) (by kernel_rfl) (fun _ _ _ h => h) (Or.inl ⟨by kernel_rfl, ?_⟩) hHeld ?_
  rotate_left
  · intro w hSw
    try dsimp only at hSw
    go_simp
    with_reducible rfl
  try simp only [Act.put]
  refine wpAnyK_take (i := 6) (v := ?_) [18] rfl (by kernel_rfl) (by kernel_rfl) (by kernel_rfl) (by kernel_rfl) (by kernel_rfl) (fun _ _ _ h => h) (Or.inl ⟨by kernel_rfl, ?_⟩) hHeld ?_
  rotate_left
  · intro w hSw
    try dsimp only at hSw
    go_simp
    with_reducible rfl
  try simp only [Act.put]
  refine wpAnyK_take (i := 7) (v := ?_) [18] rfl (by kernel_rfl) (by kernel_rfl) (by kernel_rfl) (by kernel_rfl) (by kernel_rfl) (fun _ _ _ h => h) (Or.inl ⟨by kernel_rfl, ?_⟩) hHeld ?_
  rotate_left
  · intro w hSw
    try dsimp only at hSw
    go_simp
    with_reducible rfl
  try simp only [Act.put]
  refine wpAnyK_take (i := 8) (v := ?_) [18] rfl (by kernel_rfl) (by kernel_rfl) (by kernel_rfl) (by kernel_rfl) (by kernel_rfl) (fun _ _ _ h => h) (Or.inl ⟨by kernel_rfl, ?_⟩) hHeld ?_
  rotate_left
  · intro w hSw
    try dsimp only at hSw
    go_simp
    with_reducible rfl
  try simp only [Act.put]
  refine wpAnyK_take (i := 9) (v := ?_) [18] rfl (by kernel_rfl) (by kernel_rfl) (by kernel_rfl) (by kernel_rfl) (by kernel_rfl) (fun _ _ _ h => h) (Or.inl ⟨by kernel_rfl, ?_⟩) hHeld ?_
  rotate_left
  · intro w hSw
    try dsimp only at hSw
    go_simp
    with_reducible rfl
  try simp only [Act.put]
  refine wpAnyK_take (i := 10) (v := ?_) [18] rfl (by kernel_rfl) (by kernel_rfl) (by kernel_rfl) (by kernel_rfl) (by kernel_rfl) (fun _ _ _ h => h) (Or.inl ⟨by kernel_rfl, ?_⟩) hHeld ?_
  rotate_left
  · intro w hSw
    try dsimp only at hSw
    go_simp
    with_reducible rfl
  try simp only [Act.put]
  refine wpAnyK_take (i := 11) (v := ?_) [18] rfl (by kernel_rfl) (by kernel_rfl) (by kernel_rfl) (by kernel_rfl) (by kernel_rfl) (fun _ _ _ h => h) (Or.inl ⟨by kernel_rfl, ?_⟩) hHeld ?_
  rotate_left
  · intro w hSw
    try dsimp only at hSw
    go_simp
    with_reducible rfl
  try simp only [Act.put]
  refine wpAnyK_take (i := 12) (v := ?_) [18] rfl (by kernel_rfl) (by kernel_rfl) (by kernel_rfl) (by kernel_rfl) (by kernel_rfl) (fun _ _ _ h => h) (Or.inl ⟨by kernel_rfl, ?_⟩) hHeld ?_
  rotate_left
  · intro w hSw
    try dsimp only at hSw
    go_simp
    with_reducible rfl
  try simp only [Act.put]
  refine wpAnyK_take (i := 15) (v := ?_) [16, 17, 18] rfl (by kernel_rfl) (by kernel_rfl) (by kernel_rfl) (by kernel_rfl) (by kernel_rfl) (fun _ _ _ h => h) (Or.inl ⟨by kernel_rfl, ?_⟩) hHeld ?_
  rotate_left
  · intro w hSw
    try dsimp only at hSw
    go_simp
    with_reducible rfl
  try simp only [Act.put]
  refine wpAnyK_take (i := 16) (v := ?_) [17, 18] rfl (by kernel_rfl) (by kernel_rfl) (by kernel_rfl) (by kernel_rfl) (by kernel_rfl) (fun _ _ _ h => h) (Or.inl ⟨by kernel_rfl, ?_⟩) hHeld ?_
  rotate_left
  · intro w hSw
    try dsimp only at hSw
    go_simp
    with_reducible rfl
  try simp only [Act.put]
  refine wpAnyK_one (i := 13) (by kernel_rfl) rfl (fun K hK => ?_)
  go_simp
  refine hK.out _ _ (fun _ => hA5) ?_
  clear hK K
  try simp only [Act.put, List.setIfInBounds_toArray, List.set_cons_zero, List.set_cons_succ]
  refine wpAnyK_one (i := 14) (by kernel_rfl) rfl (fun K hK => ?_)
  refine step_appendIt (by rfl) (.tmp 26) (.tmp 28) (by rfl) B _ (ls s) (by rfl) HTD.out ⟨W4.heap.size, 0, none⟩ (by rfl) x hcl (by omega) hzc ?_
  intro v7 w7 hown7 hg7 hv7
  obtain ⟨b7, c7, hv7e, _⟩ := OwnRow.form hown7 itCell_len (by rw [List.length_append, List.length_singleton]; omega)
  rw [List.length_append, List.length_singleton] at hv7e
  subst hv7e
  rw [← HV4.out] at hg7 hv7
  have hgr := HGR.out _ w7 hown7 ⟨hg7.os, hg7.tape, hg7.output, hg7.size, hg7.block⟩ hv7
  have d07 := hg7.cell d0a (fun e => hEN (.own hs e.symm))
  have d17 := hg7.cell d1a (fun e => hEN (.own hs e.symm))
  obtain ⟨q8, o8, f8, c8⟩ := hgr
  rw [HV4.out] at c8
  have Q8 := Lib.hid q8
  have O8 := Lib.hid o8
  have HV7 := Lib.hid hv7
  clear q8 o8 hown7 hg7 hv7
  refine hK.out _ _ (fun _ => ⟨d07, d17, c8⟩) ?_
  clear hK K
  try simp only [Act.put, List.setIfInBounds_toArray]
  refine wpAnyK_one (i := 17) (by kernel_rfl) rfl (fun K hK => ?_)
  go_simp
  refine hK.out _ _ (fun _ => ⟨d07, d17, c8⟩) ?_
  clear hK K
  try simp only [Act.put, List.setIfInBounds_toArray, List.set_cons_zero, List.set_cons_succ]
  refine wpAnyK_one (i := 18) (by kernel_rfl) rfl (fun K hK => ?_)
  go_simp
  refine hK.out _ _ (fun h => absurd rfl h) ?_
  clear hK K
  try simp only [Act.put, List.setIfInBounds_toArray, List.set_cons_zero, List.set_cons_succ]
  refine wpAnyK_done (by kernel_rfl) ?_ _
  go_wp2
  have hv9 : (Value.slice b7 ((ls s).length + 1) c7).ownBlock = (vs s).ownBlock ∨ ∃ y, (Value.slice b7 ((ls s).length + 1) c7).ownBlock = some y ∧ z ≤ y := HV7.out.imp id fun h => ⟨_, h, Nat.le_trans hz (Nat.le_trans (Nat.le_of_lt hEN4) hba.size)⟩
  refine bodyPost_end (results_none rfl _ _ _) rfl ⟨rfl, _, Q8.out, O4.out.trans O8.out, hv9⟩
end

end Go.Proofs.Ytoaejkfejdaiaaa
