/- The contract of readInstr. -/
import Derived.Test.YtjkfocmfgcmegaaInstr
import Derived.BigRegion
import Derived.StillTailTactics
namespace Go.Proofs.Ytjkfocmfgcmegaa
open Go.RowKit

/-- The instruction at the front of a text. -/
def insOf (l : List UInt8) : Ins := ⟨(l.getD 0 0).toNat, (l.getD 1 0).toNat, (l.getD 2 0).toNat, if (l.getD 3 0).toNat < 128 then (l.getD 3 0).toNat else ((l.getD 3 0).toNat : Int) - 256⟩

theorem w8_byte (b : UInt8) : IntKind.i8.wrap (b.toNat : Int) = if b.toNat < 128 then (b.toNat : Int) else (b.toNat : Int) - 256 := by
  have := UInt8.toNat_lt b
  simp [IntKind.wrap, IntKind.bits, IntKind.signed]
  split <;> omega

theorem getD_byte (s : ByteArray) (k : Nat) (h : k < s.size) : s.data.toList.getD k 0 = s[k] := by
  rw [List.getD_eq_getElem?_getD, List.getElem?_eq_getElem (by simpa using h)]
  rfl

theorem insOf_eq (s : ByteArray) (h0 : 0 < s.size) (h1 : 1 < s.size) (h2 : 2 < s.size) (h3 : 3 < s.size) (x3 : Int) (hx : IntKind.i8.wrap (s[3].toNat : Int) = x3) :
    insV (insOf s.data.toList) = .agg #[.int .i64 s[0].toNat, .int .i64 s[1].toNat, .int .i64 s[2].toNat, .int .i64 x3] := by
  rw [w8_byte] at hx
  unfold insV insOf
  dsimp only
  rw [getD_byte s 0 h0, getD_byte s 1 h1, getD_byte s 2 h2, getD_byte s 3 h3, hx]

set_option maxRecDepth 100000 in
set_option maxHeartbeats 1000000 in
theorem readInstr_any (s : ByteArray) (w : World) (hs : 4 ≤ s.size) :
    Calls Try.prog 30 #[.string s] w fun r w' => r = .returned (insV (insOf s.data.toList)) ∧ Below w.heap.size w w' := by
  have h0 : (0 : Int) < s.size := by omega
  have h1 : (1 : Int) < s.size := by omega
  have h2 : (2 : Int) < s.size := by omega
  have h3 : (3 : Int) < s.size := by omega
  have g0 : 0 < s.size := by omega
  have g1 : 1 < s.size := by omega
  have g2 : 2 < s.size := by omega
  have g3 : 3 < s.size := by omega
  go_enter Try.func30, Try.ntmps30
  go_wp2
  have hb : Below w.heap.size w (w.alloc (.cells #[.int .i64 0, .int .i64 0, .int .i64 0, .int .i64 0] 34)) := below_alloc1 _ _
  have hh : (w.alloc (.cells #[.int .i64 0, .int .i64 0, .int .i64 0, .int .i64 0] 34)).heap[w.heap.size]? = some (.cells #[.int .i64 0, .int .i64 0, .int .i64 0, .int .i64 0] 34 (0, 0)) := (MapKept.heap_alloc w _).1
  generalize w.alloc (.cells #[.int .i64 0, .int .i64 0, .int .i64 0, .int .i64 0] 34) = W1 at *
  have q0 : W1.cell? ⟨w.heap.size, 0, none⟩ = some (.int .i64 0) := by simp [World.cell?, hh]
  have q1 : W1.cell? ⟨w.heap.size, 1, none⟩ = some (.int .i64 0) := by simp [World.cell?, hh]
  have q2 : W1.cell? ⟨w.heap.size, 2, none⟩ = some (.int .i64 0) := by simp [World.cell?, hh]
  have q3 : W1.cell? ⟨w.heap.size, 3, none⟩ = some (.int .i64 0) := by simp [World.cell?, hh]
  have f0 : W1.frozen? ⟨w.heap.size, 0, none⟩ = false := by simp [World.frozen?, hh]
  have f1 : W1.frozen? ⟨w.heap.size, 1, none⟩ = false := by simp [World.frozen?, hh]
  have f2 : W1.frozen? ⟨w.heap.size, 2, none⟩ = false := by simp [World.frozen?, hh]
  have f3 : W1.frozen? ⟨w.heap.size, 3, none⟩ = false := by simp [World.frozen?, hh]
  clear hh
  have b0 := UInt8.toNat_lt s[0]
  have b1 := UInt8.toNat_lt s[1]
  have b2 := UInt8.toNat_lt s[2]
  have b3 := UInt8.toNat_lt s[3]
  obtain ⟨x3, hx3⟩ : ∃ x, IntKind.i8.wrap (s[3].toNat : Int) = x := ⟨_, rfl⟩
  have hx3' : -128 ≤ x3 ∧ x3 ≤ 127 := by
    have := w8_byte s[3]
    rw [hx3] at this
    split at this <;> omega
  have v0 : IntKind.i64.wrap (s[0].toNat : Int) = s[0].toNat := IntWalk.i64_in _ (by omega)
  have v1 : IntKind.i64.wrap (s[1].toNat : Int) = s[1].toNat := IntWalk.i64_in _ (by omega)
  have v2 : IntKind.i64.wrap (s[2].toNat : Int) = s[2].toNat := IntWalk.i64_in _ (by omega)
  have v3 : IntKind.i64.wrap x3 = x3 := IntWalk.i64_in _ (by omega)
  have HE := Lib.hid (insOf_eq s g0 g1 g2 g3 x3 hx3)
  go_region
  go_wp2
  have hbf := ((((hb.setCell (p := ⟨w.heap.size, 0, none⟩) (Nat.le_refl _) (.int .i64 s[0].toNat)).setCell (p := ⟨w.heap.size, 1, none⟩) (Nat.le_refl _) (.int .i64 s[1].toNat)).setCell (p := ⟨w.heap.size, 2, none⟩) (Nat.le_refl _) (.int .i64 s[2].toNat)).setCell (p := ⟨w.heap.size, 3, none⟩) (Nat.le_refl _) (.int .i64 x3)).drew
  exact bodyPost_ret (v := .agg #[.int .i64 s[0].toNat, .int .i64 s[1].toNat, .int .i64 s[2].toNat, .int .i64 x3]) (by simp [results, Try.results30, go_sem, q0, q1, q2, q3]) rfl ⟨by rw [HE.out], hbf⟩
end Go.Proofs.Ytjkfocmfgcmegaa
