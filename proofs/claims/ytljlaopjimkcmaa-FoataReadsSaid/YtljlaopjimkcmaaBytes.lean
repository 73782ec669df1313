/- Numbers as bytes, and as a text. -/
import Derived.Test.YtljlaopjimkcmaaMem
namespace Go.Proofs.Ytljlaopjimkcmaa
open Go.RowKit

/-- Numbers as a text. -/
def bstr (ns : List Int) : ByteArray := ⟨(ns.map fun n => UInt8.ofNat n.toNat).toArray⟩

theorem foldl_bstr (ns : List Int) (s : ByteArray) : ns.foldl (fun r n => r.push (UInt8.ofNat n.toNat)) s = ⟨s.data ++ (ns.map fun n => UInt8.ofNat n.toNat).toArray⟩ := by
  induction ns generalizing s with
  | nil => simp
  | cons n ns ih =>
    rw [List.foldl_cons, ih]
    simp [ByteArray.push]

/-- A row of bytes of the call's own. -/
def OwnB (w : World) (B : Nat) (v : Value) (ns : List Int) : Prop := w.ownsRow B 5 1 v ns.length (ns.map (Value.int .u8))

theorem OwnB.alloc {w : World} {B : Nat} {v : Value} {ns : List Int} (h : OwnB w B v ns) (o : Obj) : OwnB (w.alloc o) B v ns := World.ownsRow.alloc h o

theorem ownB_made (w : World) (B : Nat) (hB : B ≤ w.heap.size) (ns : List Int) (hm : ns.length ≤ maxLen) : OwnB (w.alloc (.cells (ns.map (Value.int .u8)).toArray 5)) B (.slice (some ⟨w.heap.size, 0, none⟩) ns.length ns.length) ns := by
  refine ⟨by simp, .inr ⟨w.heap.size, ns.length, (ns.map (Value.int .u8)).toArray, rfl, hB, (MapKept.heap_alloc w _).1, Nat.le_refl _, hm, by simp, ?_⟩⟩
  rw [List.take_of_length_le (by simp)]

theorem OwnB.slice {w : World} {B : Nat} {v : Value} {ns : List Int} (h : OwnB w B v ns) (hn : ns ≠ []) : ∃ g cap, v = .slice (some ⟨g, 0, none⟩) ns.length cap ∧ ∀ j u, (ns.map (Value.int .u8))[j]? = some u → w.cell? (Addr.add ⟨g, 0, none⟩ j) = some u := by
  obtain ⟨h1, h2 | ⟨g, cap, cur, h2, h3, h4, h5, h6, h7, h8⟩⟩ := h
  · exact absurd (List.eq_nil_of_length_eq_zero h2.2) hn
  · refine ⟨g, cap, h2, ?_⟩
    exact World.ownsRow.cells (base := B) (e := 5) (size := 1) ⟨h1, .inr ⟨g, cap, cur, h2, h3, h4, h5, h6, h7, h8⟩⟩ (by rw [h2]; rfl)

theorem run_bstr {w : World} {B : Nat} {v : Value} {ns : List Int} (h : OwnB w B v ns) (hn : ns ≠ []) : (convert 50 9 v).run Try.prog w = .ok (.string (bstr ns)) w := by
  obtain ⟨g, cap, rfl, hc⟩ := h.slice hn
  rw [run_convert_bytes_string w _ _ 5 _ _ _ Try.underlying50 Try.underlying5 Try.underlying9]
  have hl := run_loadCells_list (P := Try.prog) w ⟨g, 0, none⟩ (ns.map (Value.int .u8)) hc
  rw [List.length_map] at hl
  rw [run_bytesToString w _ _ _ ns hl, foldl_bstr]
  have e : ByteArray.empty.data = #[] := rfl
  rw [e, Array.empty_append]
  rfl

theorem bytes_new (w : World) (ms : List Int) (t : TypeId) (g : Nat) (hg : g = w.heap.size) : ∀ j u, (ms.map (Value.int .u8))[j]? = some u → (w.alloc (.cells (ms.map (Value.int .u8)).toArray t)).cell? (Addr.add ⟨g, 0, none⟩ j) = some u := by
  subst hg
  intro j u hj
  have e : Addr.add ⟨w.heap.size, 0, none⟩ j = ⟨w.heap.size, j, none⟩ := by
    unfold Addr.add
    split
    · rename_i h0; subst h0; rfl
    · simp
  rw [e, World.cell?_alloc_new]
  simpa using hj

theorem wp_appendB {w : World} {ops : Array Oper} {rest : List Oper} {o : Oper} {a : Act} {Q : Exit → Act → World → Prop} (hgd : o.guard = none) (s x : Operand)
    (ho : o.op = .call { callee := .builtin .append, args := #[s, x], argTypes := #[50, 50] }) (B : Nat) (v : Value) (ns : List Int) (hs : a.eval s = v) (hown : OwnB w B v ns)
    (ad : Addr) (m c : Nat) (hx : a.eval x = .slice (some ad) m c) (ms : List Int) (hm : ms.length = m) (hnews : ∀ j u, (ms.map (Value.int .u8))[j]? = some u → w.cell? (ad.add j) = some u)
    (hlen : ns.length + m ≤ 1000000000) (hB : B ≤ w.heap.size)
    (h : ∀ v' w', OwnB w' B v' (ns ++ ms) → Below B w w' → wpList Try.prog ops Q rest (a.put o.dst v') w') : wpList Try.prog ops Q (o :: rest) a w := by
  have hinfo : (Try.prog.info? 5).map (fun i => (i.zero, i.size, i.bytes)) = some (some (.int .u8 0), 1, 1) := by kernel_rfl
  obtain ⟨i, hi, hzz⟩ := Option.map_eq_some_iff.1 hinfo
  simp only [Prod.mk.injEq] at hzz
  obtain ⟨hz, hsz, hby⟩ := hzz
  refine wpList_append_own w hgd s x 50 ho B 5 i (.int .u8 0) 1 1 Try.underlying50 hi hz hsz hby rfl (by decide) v ns.length (ns.map (Value.int .u8)) hs hown ad m c (ms.map (Value.int .u8)) hx (by simp [hm]) hnews
    (by intro u hu; obtain ⟨y, _, rfl⟩ := List.mem_map.1 hu; rfl) (by unfold maxLen; omega) (by omega) hB ?_
  intro v' w' h1 h2 _
  refine h v' w' ?_ ((Below.refl B w).grown h2 hB (fun k hk => (World.ownsRow.lt hown k hk).1))
  unfold OwnB
  rw [List.length_append, List.map_append, hm]
  exact h1

end Go.Proofs.Ytljlaopjimkcmaa
