/- The contract of the document's Put. -/
import Derived.Test.YtoaejkfejdaiaaaQuRef
namespace Go.Proofs.Ytoaejkfejdaiaaa
open Go.RowKit

theorem infoTxt : (Try.prog.info? 9).map (fun i => (i.zero, i.size, i.bytes)) = some (some (.string ByteArray.empty), 1, 16) := by kernel_rfl
theorem txt_new (w : World) (k : Txt) (g : Nat) (hg : g = w.heap.size) : ∀ j u, (txtCell k)[j]? = some u → (w.alloc (.cells #[.string ⟨k.toArray⟩] 9)).cell? (Addr.add ⟨g, 0, none⟩ j) = some u := cells_new w (txtCell k) 9 g hg
theorem wp_appendT {w : World} {ops : Array Oper} {rest : List Oper} {o : Oper} {a : Act} {Q : Exit → Act → World → Prop} (hgd : o.guard = none) (s x : Operand)
    (ho : o.op = .call { callee := .builtin .append, args := #[s, x], argTypes := #[38, 38] }) (B : Nat) (v : Value) (l : List Txt) (hs : a.eval s = v) (hown : OwnRow w B 9 1 txtCell v l)
    (ad : Addr) (hx : a.eval x = .slice (some ad) 1 1) (e : Txt) (hnews : ∀ j u, (txtCell e)[j]? = some u → w.cell? (ad.add j) = some u) (hlen : l.length ≤ 1000000) (hB : B ≤ w.heap.size)
    (h : ∀ v' w', OwnRow w' B 9 1 txtCell v' (l ++ [e]) → Below B w w' → wpList Try.prog ops Q rest (a.put o.dst v') w') : wpList Try.prog ops Q (o :: rest) a w :=
  wp_appendR (f := txtCell) (n := 1) 38 9 16 (.string ByteArray.empty) Try.underlying38 infoTxt rfl (by omega) (by omega) txtCell_len hgd s x ho B v l hs hown ad hx e (txtCell_one e) hnews hlen hB fun v' w' h1 h2 _ => h v' w' h1 h2
theorem RowAt.txt {w : World} {a : Option Addr} {ks : List Txt} (h : RowAt w a 1 txtCell ks) {j : Nat} (hj : j < ks.length) : ∃ b o, a = some ⟨b, o, none⟩ ∧ w.cell? ⟨b, o + j, none⟩ = some (.string ⟨ks[j].toArray⟩) := by
  obtain ⟨b, o, rfl, hc⟩ := h.2 (by intro e; simp [e] at hj)
  have h1 := hc j hj 0 _ rfl
  rw [Nat.mul_one, Nat.add_zero] at h1
  exact ⟨b, o, rfl, h1⟩
set_option maxRecDepth 100000 in
set_option maxHeartbeats 2000000 in
theorem refPut_any (a : Option Addr) (cap : Nat) (l : List Txt) (s : Txt) (w : World) (hl : RowAt w a 1 txtCell l) (hlen : l.length ≤ 1000) :
    Calls Try.prog 23 #[.slice a l.length cap, .string ⟨s.toArray⟩] w fun r w' => ∃ v, r = .returned v ∧ OwnRow w' w.heap.size 9 1 txtCell v (putT l s) ∧ Below w.heap.size w w' := by
  have HL := Lib.hid hl
  have HE := Lib.hid (putTo_end l s)
  have HLE := Lib.hid (putTo_len l s)
  have HS := Lib.hid (fun j (h : j < l.length) => putTo_succ (l := l) (s := s) h)
  clear hl
  go_enter Try.func23, Try.ntmps23
  go_wp2
  go_loopw [5, 6, 7] (fun v d i wr => ∃ j : Nat, j ≤ l.length ∧ i = .int .i64 j ∧ d = .bool (putTo l s j).2 ∧ Hid (OwnRow wr w.heap.size 9 1 txtCell v (putTo l s j).1) ∧ Below w.heap.size w wr) (fun _ _ i _ => l.length - (intOf i).toNat)
  case atStart => exact ⟨0, Nat.zero_le _, rfl, rfl, ownRow_nil _ _ _ _ _, Below.refl _ _⟩
  case round =>
    obtain ⟨j, hj, rfl, rfl, hown, hb⟩ := hrel
    have hle := HLE.out j
    by_cases hlt : j < l.length
    · obtain ⟨b, o, rfl, c0⟩ := (HL.out.later hb).txt hlt
      have HSJ := Lib.hid (HS.out j hlt)
      have hz := hb.size
      have HC : Hid (∀ W, Below w.heap.size w W → W.cell? ⟨b, o + j, none⟩ = some (.string ⟨l[j].toArray⟩)) := fun W hbW => by
        obtain ⟨b', o', e', c'⟩ := (HL.out.later hbW).txt hlt
        injection e' with e'
        injection e' with e1 e2
        subst e1 e2
        exact c'
      generalize (putTo l s j).1 = m at *
      cases hd : (putTo l s j).2
      · rw [hd] at HSJ
        have HA := Lib.hid (refAhead_any s l[j] wr)
        generalize l[j] = x at *
        go_wp2_with fail
        refine HA.out.mono ?_
        rintro r w' ⟨rfl, rfl⟩
        cases ha : aheadT s x
        · rw [ha, if_neg (by simp)] at HSJ
          go_wp2_with (at_builtin; refine wp_appendT rfl (.tmp 28) (.tmp 33) rfl w.heap.size _ m rfl (hown.out.alloc _) ⟨wr.heap.size, 0, none⟩ rfl x (txt_new wr x _ rfl) (by omega) (by simp; omega) ?_; intro v1 w2 hown2 hb3)
          have hb4 := (hb.alloc hz _).trans hb3
          go_roundw
          case rel => exact ⟨j + 1, by omega, by go_num, by rw [HSJ.out], by show OwnRow _ _ _ _ _ _ _; rw [HSJ.out]; exact hown2, hb4⟩
          case measure => simp [intOf]; omega
        · rw [ha, if_pos (by simp)] at HSJ
          go_wp2_with (first
            | (at_builtin; refine wp_appendT rfl (.tmp 24) (.tmp 26) rfl w.heap.size _ m rfl (hown.out.alloc _) ⟨wr.heap.size, 0, none⟩ rfl s (txt_new wr s _ rfl) (by omega) (by simp; omega) ?_; intro v1 w2 hown2 hb3; have hb4 := (hb.alloc hz _).trans hb3; have c2 := HC.out w2 hb4; have hz2 := hb4.size)
            | (at_builtin; refine wp_appendT rfl (.tmp 28) (.tmp 33) rfl w.heap.size _ (m ++ [s]) rfl (hown2.alloc _) ⟨w2.heap.size, 0, none⟩ rfl x (txt_new w2 x _ rfl) (by simp; omega) (by simp; omega) ?_; intro v3 w4 hown4 hb5))
          have hb6 := (hb4.alloc hz2 _).trans hb5
          have e5 : m ++ [s] ++ [x] = m ++ [s, x] := by simp
          rw [e5] at hown4
          go_roundw
          case rel => exact ⟨j + 1, by omega, by go_num, by rw [HSJ.out], by show OwnRow _ _ _ _ _ _ _; rw [HSJ.out]; exact hown4, hb6⟩
          case measure => simp [intOf]; omega
      · rw [hd, if_neg (by simp)] at HSJ
        generalize l[j] = x at *
        go_wp2_with (at_builtin; refine wp_appendT rfl (.tmp 28) (.tmp 33) rfl w.heap.size _ m rfl (hown.out.alloc _) ⟨wr.heap.size, 0, none⟩ rfl x (txt_new wr x _ rfl) (by omega) (by simp; omega) ?_; intro v1 w2 hown2 hb3)
        have hb4 := (hb.alloc hz _).trans hb3
        go_roundw
        case rel => exact ⟨j + 1, by omega, by go_num, by rw [HSJ.out], by show OwnRow _ _ _ _ _ _ _; rw [HSJ.out]; exact hown2, hb4⟩
        case measure => simp [intOf]; omega
    · obtain rfl : j = l.length := by omega
      have hz := hb.size
      have HEE := HE
      generalize (putTo l s l.length).1 = m at *
      cases hd : (putTo l s l.length).2
      · rw [hd, if_neg (by simp)] at HEE
        go_wp2_with (at_builtin; refine wp_appendT rfl (.tmp 37) (.tmp 39) rfl w.heap.size _ m rfl (hown.out.alloc _) ⟨wr.heap.size, 0, none⟩ rfl s (txt_new wr s _ rfl) (by omega) (by simp; omega) ?_; intro v1 w2 hown2 hb3)
        have hb4 := (hb.alloc hz _).trans hb3
        go_ret
        exact ⟨_, rfl, by rw [← HEE.out]; exact hown2, hb4⟩
      · rw [hd, if_pos rfl] at HEE
        go_wp2
        go_ret
        exact ⟨_, rfl, by rw [← HEE.out]; exact hown.out, hb⟩
end Go.Proofs.Ytoaejkfejdaiaaa
