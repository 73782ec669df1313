/- The contract of Print. -/
import Derived.Test.YtjkfocmfgcmegaaRight
namespace Go.Proofs.Ytjkfocmfgcmegaa
open Go.RowKit

def insB (i : Ins) : List Int := [i.kind, i.r, i.x, i.n % 256]
def codeB (l : List Ins) : List Int := (l.length : Int) :: l.flatMap insB
def pgB (p : Pg) : List Int := [p.vars, p.mutexes, p.threads.length] ++ p.threads.flatMap codeB
/-- Numbers as a text. -/
def bstr (ns : List Int) : ByteArray := ⟨(ns.map fun n => UInt8.ofNat n.toNat).toArray⟩

theorem foldl_bstr (ns : List Int) (s : ByteArray) : ns.foldl (fun r n => r.push (UInt8.ofNat n.toNat)) s = ⟨s.data ++ (ns.map fun n => UInt8.ofNat n.toNat).toArray⟩ := by
  induction ns generalizing s with
  | nil => simp
  | cons n ns ih =>
    rw [List.foldl_cons, ih]
    simp [ByteArray.push]

/-- A row of bytes of the call's own. -/
def OwnB (w : World) (B : Nat) (v : Value) (ns : List Int) : Prop := w.ownsRow B 5 1 v ns.length (ns.map (Value.int .u8))

theorem rightIns_bd {V M n : Int} {i : Ins} (h : rightIns V M n i = true) (hV : V ≤ 4) (hM : M ≤ 2) (hn : n ≤ 8) :
    0 ≤ i.kind ∧ i.kind ≤ 8 ∧ 0 ≤ i.r ∧ i.r ≤ 1 ∧ 0 ≤ i.x ∧ i.x ≤ 8 ∧ -128 ≤ i.n ∧ i.n ≤ 127 := by
  unfold rightIns at h
  split at h
  · simp at h; omega
  split at h
  · simp at h; omega
  split at h
  · simp at h; omega
  split at h
  · simp at h; omega
  split at h
  · simp at h; omega
  · cases h

theorem rightPg_code {p : Pg} (h : rightPg p = true) {k : Nat} (hk : k < p.threads.length) : p.threads[k].length ≤ 8 ∧ ∀ j (hj : j < p.threads[k].length), rightIns p.vars p.mutexes p.threads[k].length p.threads[k][j] = true := by
  unfold rightPg at h
  rw [Bool.and_eq_true, List.all_eq_true] at h
  have := h.2 _ (List.getElem_mem hk)
  unfold rightCode at this
  rw [Bool.and_eq_true, List.all_eq_true] at this
  exact ⟨by simpa using this.1, fun j hj => this.2 _ (List.getElem_mem hj)⟩

theorem OwnB.alloc {w : World} {B : Nat} {v : Value} {ns : List Int} (h : OwnB w B v ns) (o : Obj) : OwnB (w.alloc o) B v ns := World.ownsRow.alloc h o

theorem ownB_made (w : World) (B : Nat) (hB : B ≤ w.heap.size) (ns : List Int) (hm : ns.length ≤ maxLen) : OwnB (w.alloc (.cells (ns.map (Value.int .u8)).toArray 5)) B (.slice (some ⟨w.heap.size, 0, none⟩) ns.length ns.length) ns := by
  refine ⟨by simp, .inr ⟨w.heap.size, ns.length, (ns.map (Value.int .u8)).toArray, rfl, hB, (MapKept.heap_alloc w _).1, Nat.le_refl _, hm, by simp, ?_⟩⟩
  rw [List.take_of_length_le (by simp)]

theorem OwnB.slice {w : World} {B : Nat} {v : Value} {ns : List Int} (h : OwnB w B v ns) (hn : ns ≠ []) : ∃ g cap, v = .slice (some ⟨g, 0, none⟩) ns.length cap ∧ ∀ j u, (ns.map (Value.int .u8))[j]? = some u → w.cell? (Addr.add ⟨g, 0, none⟩ j) = some u := by
  obtain ⟨h1, h2 | ⟨g, cap, cur, h2, h3, h4, h5, h6, h7, h8⟩⟩ := h
  · exact absurd (List.eq_nil_of_length_eq_zero h2.2) hn
  · refine ⟨g, cap, h2, ?_⟩
    exact World.ownsRow.cells (base := B) (e := 5) (size := 1) ⟨h1, .inr ⟨g, cap, cur, h2, h3, h4, h5, h6, h7, h8⟩⟩ (by rw [h2]; rfl)

theorem run_bstr {w : World} {B : Nat} {v : Value} {ns : List Int} (h : OwnB w B v ns) (hn : ns ≠ []) : (convert 43 9 v).run Try.prog w = .ok (.string (bstr ns)) w := by
  obtain ⟨g, cap, rfl, hc⟩ := h.slice hn
  rw [run_convert_bytes_string w _ _ 5 _ _ _ Try.underlying43 Try.underlying5 Try.underlying9]
  have hl := run_loadCells_list (P := Try.prog) w ⟨g, 0, none⟩ (ns.map (Value.int .u8)) hc
  rw [List.length_map] at hl
  rw [run_bytesToString w _ _ _ ns hl, foldl_bstr]
  have e : ByteArray.empty.data = #[] := rfl
  rw [e, Array.empty_append]
  rfl

theorem bytes_new (w : World) (ms : List Int) (t : TypeId) (g : Nat) (hg : g = w.heap.size) : ∀ j u, (ms.map (Value.int .u8))[j]? = some u → (w.alloc (.cells (ms.map (Value.int .u8)).toArray t)).cell? (Addr.add ⟨g, 0, none⟩ j) = some u := by
  subst hg
  intro j u hj
  have e : Addr.add ⟨w.heap.size, 0, none⟩ j = ⟨w.heap.size, j, none⟩ := by
    unfold Addr.add
    split
    · rename_i h0; subst h0; rfl
    · simp
  rw [e, World.cell?_alloc_new]
  simpa using hj

theorem wp_appendB {w : World} {ops : Array Oper} {rest : List Oper} {o : Oper} {a : Act} {Q : Exit → Act → World → Prop} (hgd : o.guard = none) (s x : Operand)
    (ho : o.op = .call { callee := .builtin .append, args := #[s, x], argTypes := #[43, 43] }) (B : Nat) (v : Value) (ns : List Int) (hs : a.eval s = v) (hown : OwnB w B v ns)
    (ad : Addr) (m c : Nat) (hx : a.eval x = .slice (some ad) m c) (ms : List Int) (hm : ms.length = m) (hnews : ∀ j u, (ms.map (Value.int .u8))[j]? = some u → w.cell? (ad.add j) = some u)
    (hlen : ns.length + m ≤ 1000000000) (hB : B ≤ w.heap.size)
    (h : ∀ v' w', OwnB w' B v' (ns ++ ms) → Below B w w' → wpList Try.prog ops Q rest (a.put o.dst v') w') : wpList Try.prog ops Q (o :: rest) a w := by
  have hinfo : (Try.prog.info? 5).map (fun i => (i.zero, i.size, i.bytes)) = some (some (.int .u8 0), 1, 1) := by kernel_rfl
  obtain ⟨i, hi, hzz⟩ := Option.map_eq_some_iff.1 hinfo
  simp only [Prod.mk.injEq] at hzz
  obtain ⟨hz, hsz, hby⟩ := hzz
  refine wpList_append_own w hgd s x 43 ho B 5 i (.int .u8 0) 1 1 Try.underlying43 hi hz hsz hby rfl (by decide) v ns.length (ns.map (Value.int .u8)) hs hown ad m c (ms.map (Value.int .u8)) hx (by simp [hm]) hnews
    (by intro u hu; obtain ⟨y, _, rfl⟩ := List.mem_map.1 hu; rfl) (by unfold maxLen; omega) (by omega) hB ?_
  intro v' w' h1 h2 _
  refine h v' w' ?_ ((Below.refl B w).grown h2 hB (fun k hk => (World.ownsRow.lt hown k hk).1))
  unfold OwnB
  rw [List.length_append, List.map_append, hm]
  exact h1

theorem printsNo (p : Pg) (a : Option Addr) (cap : Nat) (w : World) (hp : ThreadsAt w a p.threads) (hr : rightPg p = false) :
    Calls Try.prog 11 #[pgV p a cap] w fun r w' => r = .returned (.tuple #[.string ByteArray.empty, .int .i64 1]) ∧ Below w.heap.size w w' := by
  obtain ⟨V, M, ts⟩ := p
  have HR := Lib.hid hr
  have HP := Lib.hid hp
  clear hr hp
  have hv : pgV ⟨V, M, ts⟩ a cap = .agg #[.int .i64 V, .int .i64 M, .slice a ts.length cap] := rfl
  rw [hv]
  clear hv
  go_enter Try.func11, Try.ntmps11
  go_wp2_with fail
  refine (right_any ⟨V, M, ts⟩ a cap _ (HP.out.later (below_alloc1 w _))).mono ?_
  rintro r w1 ⟨rfl, hb⟩
  rw [HR.out]
  have hb2 : Below w.heap.size w w1 := (below_alloc1 w _).trans (hb.mono (by simp))
  go_wp2
  go_ret2
  exact ⟨rfl, hb2⟩

set_option maxRecDepth 100000 in
set_option maxHeartbeats 2000000 in
theorem printsYes (p : Pg) (a : Option Addr) (cap : Nat) (w : World) (hp : ThreadsAt w a p.threads) (hr : rightPg p = true) :
    Calls Try.prog 11 #[pgV p a cap] w fun r w' => r = .returned (.tuple #[.string (bstr (pgB p)), .int .i64 0]) ∧ Below w.heap.size w w' := by
  obtain ⟨V, M, ts⟩ := p
  have HR := Lib.hid hr
  have HP := Lib.hid hp
  have bd : 0 ≤ V ∧ V ≤ 4 ∧ 0 ≤ M ∧ M ≤ 2 ∧ 1 ≤ ts.length ∧ ts.length ≤ 4 := by
    have := hr
    unfold rightPg at this
    rw [Bool.and_eq_true] at this
    simpa using this.1
  obtain ⟨b1, b2, b3, b4, b5, b6⟩ := bd
  clear hr hp
  have hv : pgV ⟨V, M, ts⟩ a cap = .agg #[.int .i64 V, .int .i64 M, .slice a ts.length cap] := rfl
  rw [hv]
  clear hv
  go_enter Try.func11, Try.ntmps11
  go_wp2_with fail
  refine (right_any ⟨V, M, ts⟩ a cap _ (HP.out.later (below_alloc1 w _))).mono ?_
  rintro r w1 ⟨rfl, hb⟩
  rw [HR.out]
  have hb2 : Below (w.heap.size + 1) (w.alloc (.cells #[.int .i64 V, .int .i64 M, .slice a ts.length cap] 24)) w1 := hb.mono (by simp)
  have p0 : w1.cell? ⟨w.heap.size, 0, none⟩ = some (.int .i64 V) := by rw [hb2.cell (p := ⟨w.heap.size, 0, none⟩) (by simp)]; simp
  have p1 : w1.cell? ⟨w.heap.size, 1, none⟩ = some (.int .i64 M) := by rw [hb2.cell (p := ⟨w.heap.size, 1, none⟩) (by simp)]; simp
  have p2 : w1.cell? ⟨w.heap.size, 2, none⟩ = some (.slice a ts.length cap) := by rw [hb2.cell (p := ⟨w.heap.size, 2, none⟩) (by simp)]; simp
  have hz : w.heap.size < w1.heap.size := by have := hb2.size; simp at this; omega
  go_wp2
  go_loopw [4, 26] (fun out i wr => ∃ (k : Nat) (ns : List Int), k ≤ ts.length ∧ i = .int .i64 k ∧ Hid (ns = [V, M, (ts.length : Int)] ++ (ts.take k).flatMap codeB) ∧ ns.length ≤ 3 + 33 * k ∧ OwnB wr (w.heap.size + 1) out ns ∧ Below (w.heap.size + 1) (w.alloc (.cells #[.int .i64 V, .int .i64 M, .slice a ts.length cap] 24)) wr) (fun _ i _ => ts.length - (intOf i).toNat)
  case atStart =>
    exact ⟨0, [V, M, (ts.length : Int)], Nat.zero_le _, rfl, rfl, by simp, ownB_made w1 _ (by omega) [V, M, (ts.length : Int)] (by simp [maxLen]), hb2.alloc (by omega) _⟩
  case round =>
    obtain ⟨k, ns, hk, rfl, HNS, hnl, hown, hbr⟩ := hrel
    have hbw : Below w.heap.size w wr := (below_alloc1 w _).trans (hbr.mono (by omega))
    have hzr : w.heap.size + 1 ≤ wr.heap.size := by have := hbr.size; simp at this; omega
    by_cases hlt : k < ts.length
    · obtain ⟨h8, hins⟩ := rightPg_code HR.out hlt
      dsimp only at h8 hins
      have HINS := Lib.hid hins
      clear hins
      obtain ⟨b, o, rfl, hc⟩ := HP.out.2 (by intro e; simp [e] at hlt)
      obtain ⟨c, ccap, c0, c1, _⟩ := hc k hlt
      have d0 := cell_later hbw c0
      have D1 := Lib.hid c1
      clear c0 c1 hc
      go_wp2_with (at_builtin; refine wp_appendB rfl (.tmp 30) (.tmp 34) rfl (w.heap.size + 1) _ ns rfl (hown.alloc _) ⟨wr.heap.size, 0, none⟩ 1 1 rfl [(ts[k].length : Int)] rfl (bytes_new wr [(ts[k].length : Int)] _ _ rfl) (by omega) (by simp; omega) ?_; intro v1 w2 hown2 hb3)
      have hb4 : Below (w.heap.size + 1) (w.alloc (.cells #[.int .i64 V, .int .i64 M, .slice (some ⟨b, o, none⟩) ts.length cap] 24)) w2 := (hbr.alloc (by omega) _).trans hb3
      clear hb3 hown
      go_loopw [4, 38] (fun out i wq => ∃ (j : Nat) (ms : List Int), j ≤ ts[k].length ∧ i = .int .i64 j ∧ Hid (ms = (ns ++ [(ts[k].length : Int)]) ++ (ts[k].take j).flatMap insB) ∧ ms.length ≤ 3 + 33 * k + 1 + 4 * j ∧ OwnB wq (w.heap.size + 1) out ms ∧ Below (w.heap.size + 1) (w.alloc (.cells #[.int .i64 V, .int .i64 M, .slice (some ⟨b, o, none⟩) ts.length cap] 24)) wq) (fun _ i _ => ts[k].length - (intOf i).toNat)
      case atStart => exact ⟨0, ns ++ [(ts[k].length : Int)], Nat.zero_le _, rfl, by show _ = _; simp, by simp; omega, hown2, hb4⟩
      case round =>
        obtain ⟨j, ms, hj, rfl, HMS, hml, hown3, hbq⟩ := hrel
        have hbw2 : Below w.heap.size w wr := (below_alloc1 w _).trans (hbq.mono (by omega))
        have hzq : w.heap.size + 1 ≤ wr.heap.size := by have := hbq.size; simp at this; omega
        by_cases hjl : j < ts[k].length
        · obtain ⟨n0, n1, n2, n3, n4, n5, n6, n7⟩ := rightIns_bd (HINS.out j hjl) b2 b4 (by omega)
          obtain ⟨b', o', rfl, hc⟩ := D1.out.2 (by intro e; simp [e] at hjl)
          obtain ⟨c0, c1, c2, c3⟩ := hc j hjl
          have e0 := cell_later hbw2 c0
          have e1 := cell_later hbw2 c1
          have e2 := cell_later hbw2 c2
          have e3 := cell_later hbw2 c3
          clear c0 c1 c2 c3 hc
          have HT := Lib.hid (List.take_succ_eq_append_getElem hjl : ts[k].take (j + 1) = ts[k].take j ++ [ts[k][j]])
          go_wp2_with (at_builtin; refine wp_appendB rfl (.tmp 42) (.tmp 55) rfl (w.heap.size + 1) _ ms rfl ((hown3.alloc _).alloc _) ⟨wr.heap.size + 1, 0, none⟩ 4 4 rfl [ts[k][j].kind, ts[k][j].r, ts[k][j].x, ts[k][j].n % 256] rfl (bytes_new (wr.alloc _) [ts[k][j].kind, ts[k][j].r, ts[k][j].x, ts[k][j].n % 256] _ _ (by simp)) (by omega) (by simp; omega) ?_; intro v3 w3 hown4 hb5)
          go_roundw
          case rel =>
            refine ⟨j + 1, ms ++ [ts[k][j].kind, ts[k][j].r, ts[k][j].x, ts[k][j].n % 256], by omega, by go_num, ?_, by simp; omega, hown4, ((hbq.alloc (by omega) _).alloc (by simp; omega) _).trans hb5⟩
            show _ = _
            rw [HT.out, List.flatMap_append, HMS.out]
            simp [insB]
          case measure => simp [intOf]; omega
        · obtain rfl : j = ts[k].length := by omega
          have HT := Lib.hid (List.take_succ_eq_append_getElem hlt : ts.take (k + 1) = ts.take k ++ [ts[k]])
          go_wp2
          go_roundw
          case rel =>
            refine ⟨k + 1, ms, by omega, by go_num, ?_, by omega, hown3, hbq⟩
            show _ = _
            rw [HT.out, List.flatMap_append, HMS.out, HNS.out, List.take_length]
            simp [codeB]
          case measure => simp [intOf]; omega
    · obtain rfl : k = ts.length := by omega
      have hne : ns ≠ [] := by rw [HNS.out]; simp
      have hcv := run_bstr hown hne
      have HB : Hid (pgB ⟨V, M, ts⟩ = ns) := by
        show _ = _
        rw [HNS.out, List.take_length]; rfl
      clear hne
      go_wp2
      go_ret2
      exact ⟨by rw [HB.out]; rfl, hbw⟩
end Go.Proofs.Ytjkfocmfgcmegaa
