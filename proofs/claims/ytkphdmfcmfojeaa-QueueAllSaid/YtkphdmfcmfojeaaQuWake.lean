/- The contract of awake, of layer 11: true. -/
import Derived.Test.YtkphdmfcmfojeaaQuNew
import Derived.Test.YtkphdmfcmfojeaaQuPut
namespace Go.Proofs.Ytkphdmfcmfojeaa
open Go.RowKit

def awkL : List Txt := [[97], [], [97, 98], [98]]
def awkC : Array Value := #[.string ⟨#[97]⟩, .string ⟨#[]⟩, .string ⟨#[97, 98]⟩, .string ⟨#[98]⟩]
theorem awk_cell {w : World} {g : Nat} (h : w.heap[g]? = some (.cells awkC 9 (0, 0))) {j : Nat} (hj : j < awkL.length) : w.cell? ⟨g, j, none⟩ = some (.string ⟨awkL[j].toArray⟩) := by
  rw [cell_of_row w g j _ _ _ h]
  have hi4 : j < 4 := hj
  obtain rfl | rfl | rfl | rfl : j = 0 ∨ j = 1 ∨ j = 2 ∨ j = 3 := by omega
  all_goals rfl
theorem QU.not_row {w : World} {B b : Nat} {S : Nat → Prop} {T : List Txt} (q : QU w B b S T) {g : Nat} {c : Array Value} {ty : TypeId} (h : w.heap[g]? = some (.cells c ty (0, 0))) (h1 : ty ≠ 137) (h2 : ty ≠ 138) (h3 : ty ≠ 140) : ¬ S g := fun hx => by
  obtain ⟨_, c', ty', e, e2⟩ := q.kinds hx
  rw [h] at e; injection e with e; injection e with _ e
  rcases e2 with rfl | rfl | rfl
  · exact h1 e
  · exact h2 e
  · exact h3 e
theorem OnlyS.row {S : Nat → Prop} {w w' : World} (o : OnlyS S w w') {g : Nat} {x : Obj} (h : w.heap[g]? = some x) (hs : ¬ S g) : w'.heap[g]? = some x := (o.block g (Array.getElem?_eq_some_iff.1 h).1 hs).trans h
theorem awk_1 {k : Txt} {T' : List Txt} (p : (k :: T').Perm [[98], [97, 98], [], [97]]) (h : ∀ y ∈ ([[98], [97, 98], [], [97]] : List Txt), aheadT y k = false) : k = [97, 98] ∧ T'.Perm [[98], [], [97]] := by
  have hk : k ∈ ([[98], [97, 98], [], [97]] : List Txt) := p.subset (List.mem_cons_self)
  have h1 := h [97, 98] (by simp)
  have e : k = [97, 98] := by
    simp only [List.mem_cons, List.not_mem_nil, or_false] at hk
    rcases hk with rfl | rfl | rfl | rfl
    · exact absurd h1 (by decide)
    · rfl
    · exact absurd h1 (by decide)
    · exact absurd h1 (by decide)
  subst e
  exact ⟨rfl, (p.trans (List.Perm.swap _ _ _)).cons_inv⟩
theorem awk_2 {k : Txt} {T' : List Txt} (p : (k :: T').Perm [[98], [], [97]]) (h : ∀ y ∈ ([[98], [], [97]] : List Txt), aheadT k y = false) : k = [] ∧ T'.Perm [[98], [97]] := by
  have hk : k ∈ ([[98], [], [97]] : List Txt) := p.subset (List.mem_cons_self)
  have h1 := h [] (by simp)
  have e : k = [] := by
    simp only [List.mem_cons, List.not_mem_nil, or_false] at hk
    rcases hk with rfl | rfl | rfl
    · exact absurd h1 (by decide)
    · rfl
    · exact absurd h1 (by decide)
  subst e
  exact ⟨rfl, (p.trans (List.Perm.swap _ _ _)).cons_inv⟩
theorem awk_3 {k : Txt} {T' : List Txt} (p : (k :: T').Perm [[98], [97]]) (h : ∀ y ∈ ([[98], [97]] : List Txt), aheadT y k = false) : k = [97] ∧ T'.Perm [[98]] := by
  have hk : k ∈ ([[98], [97]] : List Txt) := p.subset (List.mem_cons_self)
  have h1 := h [97] (by simp)
  have e : k = [97] := by
    simp only [List.mem_cons, List.not_mem_nil, or_false] at hk
    rcases hk with rfl | rfl
    · exact absurd h1 (by decide)
    · rfl
  subst e
  exact ⟨rfl, (p.trans (List.Perm.swap _ _ _)).cons_inv⟩
/-- A queue behind j pushes of a list. -/
def PushedI (w0 : World) (B b : Nat) (l : List Txt) (j : Nat) (wr : World) : Prop := ∃ S, QU wr B b S (l.take j).reverse ∧ Below w0.heap.size w0 wr ∧ ∀ x, S x → w0.heap.size ≤ x
theorem PushedI.next {w0 wr w' : World} {B b : Nat} {l : List Txt} {j : Nat} {S S' : Nat → Prop} (hj : j < l.length) (h1 : ∀ x, S x → w0.heap.size ≤ x) (hb : Below w0.heap.size w0 wr) (q : QU w' B b S' (l[j] :: (l.take j).reverse)) (o : OnlyS S wr w') (h2 : ∀ x, S' x → S x ∨ wr.heap.size ≤ x) : PushedI w0 B b l (j + 1) w' := by
  refine ⟨S', ?_, hb.trans (o.below hb.size h1), fun x hx => ?_⟩
  · rw [List.take_succ_eq_append_getElem hj, List.reverse_append]
    exact q
  · rcases h2 x hx with h | h
    · exact h1 x h
    · exact Nat.le_trans hb.size h
set_option maxRecDepth 100000 in
set_option maxHeartbeats 4000000 in
theorem awake11_any (w : World) : Calls Try.prog 38 #[] w fun r w' => r = .returned (.bool true) ∧ Below w.heap.size w w' := by
  have HN := Lib.hid (qNew_any w)
  go_enter Try.func38, Try.ntmps38
  go_wp2_with fail
  refine HN.out.mono ?_
  rintro r w1 ⟨rfl, hb1, S, q1, hS⟩
  have hba : Below w.heap.size w (w1.alloc (.cells #[.string ⟨#[97]⟩, .string ⟨#[]⟩, .string ⟨#[97, 98]⟩, .string ⟨#[98]⟩] 9)) := hb1.alloc hb1.size _
  have HI0 : Hid (PushedI w w.heap.size w.heap.size awkL 0 (w1.alloc (.cells #[.string ⟨#[97]⟩, .string ⟨#[]⟩, .string ⟨#[97, 98]⟩, .string ⟨#[98]⟩] 9))) := ⟨S, q1.later (below_alloc1 _ _), hba, hS⟩
  have HR0 : Hid ((w1.alloc (.cells #[.string ⟨#[97]⟩, .string ⟨#[]⟩, .string ⟨#[97, 98]⟩, .string ⟨#[98]⟩] 9)).heap[w1.heap.size]? = some (.cells awkC 9 (0, 0))) := heap_alloc_new w1 _
  clear q1 hS hba hb1
  go_wp2_with fail
  generalize w1.heap.size = g at *
  generalize w.heap.size = B at *
  go_loopw [3, 15] (fun _ t15 wr => ∃ j : Nat, j ≤ 4 ∧ t15 = .int .i64 j ∧ Hid (PushedI w B B awkL j wr) ∧ Hid (wr.heap[g]? = some (.cells awkC 9 (0, 0)))) (fun _ t15 _ => 4 - (intOf t15).toNat)
  case atStart => exact ⟨0, Nat.zero_le _, rfl, HI0, HR0⟩
  case round =>
    clear HI0 HR0 HN
    obtain ⟨j, hj, rfl, HI, HR⟩ := hrel
    by_cases hlt : j < 4
    · have c0 := awk_cell HR.out (j := j) hlt
      obtain ⟨S', q', hb', hS'⟩ := HI.out
      have hlen : awkL[j].length ≤ 2 := (by decide : ∀ x ∈ awkL, x.length ≤ 2) _ (List.getElem_mem hlt)
      have HP := Lib.hid (qPush_any q' awkL[j] (by omega) (by simp [List.length_take]; omega))
      have HX : Hid (∀ w' S2, QU w' B B S2 (awkL[j] :: (awkL.take j).reverse) → OnlyS S' wr w' → (∀ x, S2 x → S' x ∨ wr.heap.size ≤ x) → PushedI w B B awkL (j + 1) w' ∧ w'.heap[g]? = some (.cells awkC 9 (0, 0))) := fun w' S2 h1 h2 h3 => ⟨PushedI.next hlt hS' hb' h1 h2 h3, h2.row HR.out (q'.not_row HR.out (by decide) (by decide) (by decide))⟩
      clear q' hb' hS' hlen HI HR
      generalize awkL[j] = x at *
      go_wp2_with fail
      refine HP.out.mono ?_
      rintro r w3 ⟨rfl, S2, q3, o3, h3⟩
      obtain ⟨hi, hr⟩ := HX.out w3 S2 q3 o3 h3
      have HI3 := Lib.hid hi
      have HR3 := Lib.hid hr
      clear hi hr q3 o3 h3
      go_wp2_with fail
      go_roundw
      case rel => exact ⟨j + 1, by omega, by go_num, HI3, HR3⟩
      case measure => simp [intOf]; omega
    · obtain rfl : j = 4 := by omega
      obtain ⟨S', q', hb', hS'⟩ := HI.out
      have q4 : QU wr B B S' [[98], [97, 98], [], [97]] := q'
      have HP := Lib.hid (qPop_any q4 (by simp))
      have HB := Lib.hid hb'
      have HS := Lib.hid hS'
      clear q' q4 hb' hS' HI HR hlt hj
      go_wp2_with fail
      refine HP.out.mono ?_
      rintro r w3 ⟨k, T', rfl, p3, t3, q3, o3⟩
      obtain ⟨rfl, p3'⟩ := awk_1 p3 t3
      have HP3 := Lib.hid (qSteal_any (q3.perm p3') (by simp))
      have HB3 := Lib.hid (HB.out.trans (o3.below HB.out.size HS.out))
      clear p3 t3 q3 o3 p3'
      go_wp2_with fail
      refine HP3.out.mono ?_
      rintro r w4 ⟨k, T4, rfl, p4, t4, q4, o4⟩
      obtain ⟨rfl, p4'⟩ := awk_2 p4 t4
      have HP4 := Lib.hid (qPop_any (q4.perm p4') (by simp))
      have HB4 := Lib.hid (HB3.out.trans (o4.below HB3.out.size HS.out))
      clear p4 t4 q4 o4 p4'
      go_wp2_with fail
      refine HP4.out.mono ?_
      rintro r w5 ⟨k, T5, rfl, p5, t5, q5, o5⟩
      obtain ⟨rfl, p5'⟩ := awk_3 p5 t5
      have HP5 := Lib.hid (qLen_any (q5.perm p5'))
      have HB5 := Lib.hid (HB4.out.trans (o5.below HB4.out.size HS.out))
      clear p5 t5 q5 o5 p5'
      go_wp2_with fail
      refine HP5.out.mono ?_
      rintro r w' ⟨rfl, rfl⟩
      go_wp2
      go_ret
      exact ⟨rfl, HB5.out⟩
end Go.Proofs.Ytkphdmfcmfojeaa
