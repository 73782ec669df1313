import Derived.StillTailTactics
import Derived.Laws.OwnMore
import Derived.Deep.RegionHeld3
import Derived.Deep.AppendSrc
import Derived.Test.YtkphdmfcmfojeaaPk01
import Derived.Test.YtkphdmfcmfojeaaPk02
import Derived.Test.YtkphdmfcmfojeaaPk03
import Derived.Test.YtkphdmfcmfojeaaPk05
import Derived.Test.YtkphdmfcmfojeaaPk06

/- The contract of the document's Step: a lock. -/
namespace Go.Proofs.Ytkphdmfcmfojeaa
open Go.RowKit
section
variable {F : Nat} {w : World} {b tb : Nat} {a : Option Addr} {cap tcap : Nat} {s : St}

set_option maxRecDepth 100000 in
set_option maxHeartbeats 8000000 in
theorem refStep_5 (h : RefAt w b tb a cap tcap s) (hth : ThreadsAt w a s.p.threads) (ok : s.Ok F) (t : Nat) (i : Ins) (hi : s.ins t = some i) (hm : s.may t = true) (hk1 : i.kind = 5) : Calls Try.prog 64 #[.pointer (some ⟨b, 0, none⟩), .int .i64 t] w fun e w' => e = .returned (stepV (s.step t)) ∧ RefAt w' b tb a cap tcap (s.step t).2.2 ∧ Only2 b tb w w' := by
  obtain ⟨k, hkk, ht⟩ := St.ins_nat hi
  obtain rfl : t = k := by omega
  have hst : s.step t = (0, s.ev t i, s.do_ t i) := by
    unfold St.step
    rw [if_pos (by unfold St.has; omega), hi]
    simp only [hm]
    rfl
  have hn : s.next t = some (s.ev t i) := by unfold St.next; rw [hi]; rfl
  rw [hst, stepV_ok]
  dsimp only
  obtain ⟨o1, o2, o3, o4, o5, o6⟩ := ok.obj hi
  have hx0 : 0 ≤ i.x := by
    have := (ok.ins_right hi).1
    unfold rightIns at this
    repeat' split at this
    all_goals first | (simp only [decide_eq_true_eq] at this; omega) | (cases this)
  obtain ⟨_, hfu, hcode⟩ := St.ins_has hi
  simp only [Int.toNat_natCast] at hfu hcode
  have h4 := ok.len4
  have hln := ok.len
  have hrl : (s.th t).r.length = 2 := (ok.thr _ (St.th_mem ht)).1
  have hvl := ok.vl
  have hml := ok.ml
  obtain ⟨f, hf⟩ : ∃ f, (s.th t).fuel = f + 1 := ⟨(s.th t).fuel - 1, by omega⟩
  have hf8 : f ≤ 1000 := by have := (ok.thr _ (St.th_mem ht)).2.2; have := ok.f8; omega
  have h8 := ok.code8 t ht
  obtain ⟨hat, hic⟩ := List.getElem?_eq_some_iff.1 hcode
  obtain ⟨n, hn1⟩ : ∃ n, (s.th t).at_ = n := ⟨_, rfl⟩
  have hkp : t < s.p.threads.length := by omega
  have hcd : s.code t = s.p.threads[t] := getD_lt _ hkp
  obtain ⟨ab, ao, rfl, hc⟩ := hth.2 (by intro e; simp [e] at hkp)
  obtain ⟨c, ccap, c0, c1, _⟩ := hc t hkp
  rw [← hcd] at c0 c1
  obtain ⟨cb, co, rfl, hcc⟩ := c1.2 (by intro e; simp [e] at hat)
  obtain ⟨i0, i1, i2, i3⟩ := hcc _ hat
  rw [hic] at i0 i1 i2 i3
  rw [hn1] at i0 i1 i2 i3 hat
  have p1 := h.prog.2
  have q0 : decide ((t : Int) < 0) = false := by simp
  have q1 : decide ((s.ts.length : Int) ≤ t) = false := by simp; omega
  have q2 : decide (s.ts.length ≤ t) = false := by simp; omega
  obtain ⟨hb1, hb2⟩ := h.lt
  have HB := Lib.hid (h.later (below_alloc1 w (.cells #[.int .i64 0, .int .i64 0, .int .i64 0, .bool false] 128)))
  have HTH := Lib.hid (hth.later (below_alloc1 w (.cells #[.int .i64 0, .int .i64 0, .int .i64 0, .bool false] 128)))
  have OK := Lib.hid ok
  have HM := Lib.hid hm
  obtain ⟨kd, r, x, m⟩ := i
  dsimp only at *
  obtain ⟨r, rfl⟩ : ∃ y : Nat, r = y := ⟨r.toNat, by omega⟩
  obtain ⟨x, rfl⟩ : ∃ y : Nat, x = y := ⟨x.toNat, by omega⟩
  subst hk1
  have hx2 : x < 2 := by have := o2 (.inl rfl); omega
  clear o1 o2 o3
  obtain ⟨e, he⟩ : ∃ e, e = s.ev t ⟨5, r, x, m⟩ := ⟨_, rfl⟩
  rw [← he] at hn ⊢
  have HE := Lib.hid he
  have HN := Lib.hid hn
  have HI := Lib.hid (And.intro hi (And.intro hf (And.intro hn1 (And.intro hrl (And.intro hvl hml)))))
  have HC := Lib.hid (And.intro c0 (And.intro i0 (And.intro i1 (And.intro i2 i3))))
  have h8n : n < 8 := by omega
  have hatn : n < (s.code t).length := by omega
  clear hst h hth ok hi hn he hkk hm hfu hcode hc c1 hcc hic hcd hln hrl hvl hml hf hn1 o6 c0 i0 i1 i2 i3
  try clear hat
  generalize (s.code t).length = ln at *
  go_enter Try.func64, Try.ntmps64
  go_wp2_with fail
  refine (refNext_any HB.out HTH.out OK.out t).mono ?_
  rw [HN.out, evR_some]
  rintro r9 w1 ⟨rfl, hb3⟩
  have hz : w.heap.size < w1.heap.size := by have := hb3.size; simp at this; omega
  have RX1 : Hid (EvBox0 w1 w.heap.size) := (hb3.block _ (by simp)).trans (heap_alloc_new w _)
  have H1 := Lib.hid ((HB.out.later hb3).later (below_alloc1 w1 (.cells #[.int .i64 e.thread, .int .i64 e.kind, .int .i64 e.obj, .bool e.fail] 128)))
  have T1 := Lib.hid ((HTH.out.later hb3).later (below_alloc1 w1 (.cells #[.int .i64 e.thread, .int .i64 e.kind, .int .i64 e.obj, .bool e.fail] 128)))
  have B1 : Hid (Below w.heap.size w w1) := (below_alloc1 w _).trans (hb3.mono (by simp))
  clear hb3 p1 HB HTH
  go_wp2_with fail
  refine (refEnabled_any H1.out T1.out OK.out t).mono ?_
  rw [HM.out]
  rintro r9 w2 ⟨rfl, hb4⟩
  have EX2 : Hid (w2.heap[w1.heap.size]? = some (.cells #[.int .i64 e.thread, .int .i64 e.kind, .int .i64 e.obj, .bool e.fail] 128 (0, 0))) := (hb4.block _ (by simp)).trans (heap_alloc_new w1 _)
  have B2 : Hid (Below w1.heap.size w1 w2) := (below_alloc1 w1 _).trans (hb4.mono (by simp))
  have RX2 : Hid (EvBox0 w2 w.heap.size) := (B2.out.block _ hz).trans RX1.out
  have H2 := Lib.hid (H1.out.later hb4)
  have W2 : Hid (Below w.heap.size w w2) := B1.out.trans (B2.out.mono (by omega))
  have hz2 : w1.heap.size < w2.heap.size := (Array.getElem?_eq_some_iff.1 EX2.out).1
  have hz3 : w.heap.size < w2.heap.size := by omega
  obtain ⟨p0, p1⟩ := H2.out.prog
  have ca := H2.out.at_ t ht
  rw [HI.out.2.2.1] at ca
  have d0 := cell_later W2.out HC.out.1
  have d1 := cell_later W2.out HC.out.2.1
  have d2 := cell_later W2.out HC.out.2.2.1
  have d3 := cell_later W2.out HC.out.2.2.2.1
  have d4 := cell_later W2.out HC.out.2.2.2.2
  have z0 := cell_block d0
  have z1 := cell_block d1
  dsimp only at z0 z1
  have ltb : tb < w2.heap.size := by omega
  have lb : b < w2.heap.size := by omega
  clear hb4 H1 T1 B1 B2 RX1 HC
  go_wp2
  go_region
  generalize hW : (w2.alloc (.cells #[.int .i64 5, .int .i64 r, .int .i64 x, .int .i64 m] 94)).drew = W at *
  have hbW : Below w2.heap.size w2 W := by rw [← hW]; exact ((Below.refl _ _).alloc (Nat.le_refl _) _).drew
  have IX : W.heap[w2.heap.size]? = some (.cells #[.int .i64 5, .int .i64 r, .int .i64 x, .int .i64 m] 94 (0, 0)) := by rw [← hW]; exact heap_alloc_new w2 _
  have HW := Lib.hid (H2.out.later hbW)
  have EX := Lib.hid ((hbW.block _ hz2).trans EX2.out)
  have RX : Hid (EvBox0 W w.heap.size) := (hbW.block _ hz3).trans RX2.out
  have OW : Hid (Only2 b tb w W) := .of_below (W2.out.trans (hbW.mono W2.out.size))
  have cf := HW.out.fuel t ht
  rw [HI.out.2.1, Int.natCast_add] at cf
  have ca2 := HW.out.at_ t ht
  rw [HI.out.2.2.1] at ca2
  have ff := fun o => (HW.out.frozen o).2
  have j0 := (ins_cells IX).1
  have IXH := Lib.hid IX
  have nb : b ≠ tb := HW.out.2.1
  generalize hI : w2.heap.size = I at *
  generalize hE : w1.heap.size = E at *
  generalize hR : w.heap.size = R at *
  have n1 : ¬ tb = I := by omega
  have n2 : ¬ I = tb := by omega
  have n3 : ¬ tb = E := by omega
  have n4 : ¬ E = tb := by omega
  have n5 : ¬ tb = R := by omega
  have n6 : ¬ R = tb := by omega
  have n7 : ¬ b = I := by omega
  have n8 : ¬ I = b := by omega
  have n9 : ¬ b = E := by omega
  have n10 : ¬ E = b := by omega
  have n11 : ¬ b = R := by omega
  have n12 : ¬ R = b := by omega
  have n13 : ¬ tb = b := fun h => nb h.symm
  have n14 : ¬ b = tb := nb
  have n15 : ¬ R = E := by omega
  have n16 : ¬ E = R := by omega
  clear hW hbW H2 EX2 RX2 W2 d0 d1 d2 d3 d4 ca p0 p1 IX
  go_wp2
  generalize hV : (W.setCell ⟨tb, t * 4 + 1, none⟩ (.int .i64 f)).setCell ⟨tb, t * 4, none⟩ (.int .i64 (n + 1)) = V at *
  have hoth : ∀ k, k ≠ tb → V.heap[k]? = W.heap[k]? := fun k hk => by rw [← hV, Below.heap_setCell _ _ _ _ hk, Below.heap_setCell _ _ _ _ hk]
  have HG : Hid (RefAt V b tb (some ⟨ab, ao, none⟩) cap tcap (s.go t)) := by rw [← hV]; exact HW.out.go t f n ht HI.out.2.1 HI.out.2.2.1
  have OV : Hid (Only2 b tb w V) := by rw [← hV]; exact (OW.out.setCell (.inr (.inl rfl)) _ _).setCell (.inr (.inl rfl)) _ _
  obtain ⟨j0v, j1v, j2v, j3v⟩ := ins_cells ((hoth I (fun e => n2 e)).trans IXH.out)
  obtain ⟨x0, x1, x2, x3⟩ := ev_cells ((hoth E (fun e => n4 e)).trans EX.out)
  obtain ⟨e0, e1, e2, e3, ef⟩ := EvBox0.cells ((hoth R (fun e => n6 e)).trans RX.out)
  have f0 := ef 0
  have f1 := ef 1
  have f2 := ef 2
  have f3 := ef 3
  have htg : t < (s.go t).ts.length := by rw [St.go, St.put_len]; exact ht
  clear hV hoth j0 cf ca2 ff ef IXH EX RX HW OW
  have hek : e.kind = 4 := by rw [HE.out]; rfl
  have q4 : (e.kind == 4) = true := by simp [hek]
  have q5 : (e.kind == 5) = false := by simp [hek]
  clear hek
  have cw := HG.out.who x hx2
  have fw := (HG.out.frozen (8 + x)).1
  have GL := Lib.hid (go_lock s t r x m ht)
  go_quiet (fail)
  go_wp2
  go_region
  go_wp2
  refine bodyPost_ret (v := .tuple #[.agg #[.int .i64 e.thread, .int .i64 e.kind, .int .i64 e.obj, .bool e.fail], .int .i64 0]) (by simp [results, Try.results64, go_sem, e0, e1, e2, e3]) rfl ⟨rfl, ?_, ?_⟩
  · obtain ⟨hi, hf, hn1, hrl, hvl, hml⟩ := HI.out
    have hg := HG.out
    have h2 := (hg.drewN (nq + 1)).setWho x t hx2 hml
    rw [GL.out] at h2
    exact h2.other4 (by omega) (by omega) _ _ _ _
  · exact ((OV.out.drewN).setCell (.inl rfl) _ _).set4 (Nat.le_of_eq hR) _ _ _ _
end
end Go.Proofs.Ytkphdmfcmfojeaa

/- The contract of the document's Step: an unlock. -/
namespace Go.Proofs.Ytkphdmfcmfojeaa
open Go.RowKit
section
variable {F : Nat} {w : World} {b tb : Nat} {a : Option Addr} {cap tcap : Nat} {s : St}

set_option maxRecDepth 100000 in
set_option maxHeartbeats 8000000 in
theorem refStep_6 (h : RefAt w b tb a cap tcap s) (hth : ThreadsAt w a s.p.threads) (ok : s.Ok F) (t : Nat) (i : Ins) (hi : s.ins t = some i) (hm : s.may t = true) (hk1 : i.kind = 6) (hw : s.who i.x = t) : Calls Try.prog 64 #[.pointer (some ⟨b, 0, none⟩), .int .i64 t] w fun e w' => e = .returned (stepV (s.step t)) ∧ RefAt w' b tb a cap tcap (s.step t).2.2 ∧ Only2 b tb w w' := by
  obtain ⟨k, hkk, ht⟩ := St.ins_nat hi
  obtain rfl : t = k := by omega
  have hst : s.step t = (0, s.ev t i, s.do_ t i) := by
    unfold St.step
    rw [if_pos (by unfold St.has; omega), hi]
    simp only [hm]
    rfl
  have hn : s.next t = some (s.ev t i) := by unfold St.next; rw [hi]; rfl
  rw [hst, stepV_ok]
  dsimp only
  obtain ⟨o1, o2, o3, o4, o5, o6⟩ := ok.obj hi
  have hx0 : 0 ≤ i.x := by
    have := (ok.ins_right hi).1
    unfold rightIns at this
    repeat' split at this
    all_goals first | (simp only [decide_eq_true_eq] at this; omega) | (cases this)
  obtain ⟨_, hfu, hcode⟩ := St.ins_has hi
  simp only [Int.toNat_natCast] at hfu hcode
  have h4 := ok.len4
  have hln := ok.len
  have hrl : (s.th t).r.length = 2 := (ok.thr _ (St.th_mem ht)).1
  have hvl := ok.vl
  have hml := ok.ml
  obtain ⟨f, hf⟩ : ∃ f, (s.th t).fuel = f + 1 := ⟨(s.th t).fuel - 1, by omega⟩
  have hf8 : f ≤ 1000 := by have := (ok.thr _ (St.th_mem ht)).2.2; have := ok.f8; omega
  have h8 := ok.code8 t ht
  obtain ⟨hat, hic⟩ := List.getElem?_eq_some_iff.1 hcode
  obtain ⟨n, hn1⟩ : ∃ n, (s.th t).at_ = n := ⟨_, rfl⟩
  have hkp : t < s.p.threads.length := by omega
  have hcd : s.code t = s.p.threads[t] := getD_lt _ hkp
  obtain ⟨ab, ao, rfl, hc⟩ := hth.2 (by intro e; simp [e] at hkp)
  obtain ⟨c, ccap, c0, c1, _⟩ := hc t hkp
  rw [← hcd] at c0 c1
  obtain ⟨cb, co, rfl, hcc⟩ := c1.2 (by intro e; simp [e] at hat)
  obtain ⟨i0, i1, i2, i3⟩ := hcc _ hat
  rw [hic] at i0 i1 i2 i3
  rw [hn1] at i0 i1 i2 i3 hat
  have p1 := h.prog.2
  have q0 : decide ((t : Int) < 0) = false := by simp
  have q1 : decide ((s.ts.length : Int) ≤ t) = false := by simp; omega
  have q2 : decide (s.ts.length ≤ t) = false := by simp; omega
  obtain ⟨hb1, hb2⟩ := h.lt
  have HB := Lib.hid (h.later (below_alloc1 w (.cells #[.int .i64 0, .int .i64 0, .int .i64 0, .bool false] 128)))
  have HTH := Lib.hid (hth.later (below_alloc1 w (.cells #[.int .i64 0, .int .i64 0, .int .i64 0, .bool false] 128)))
  have OK := Lib.hid ok
  have HM := Lib.hid hm
  obtain ⟨kd, r, x, m⟩ := i
  dsimp only at *
  obtain ⟨r, rfl⟩ : ∃ y : Nat, r = y := ⟨r.toNat, by omega⟩
  obtain ⟨x, rfl⟩ : ∃ y : Nat, x = y := ⟨x.toNat, by omega⟩
  subst hk1
  have hx2 : x < 2 := by have := o2 (.inr rfl); omega
  clear o1 o2 o3
  obtain ⟨e, he⟩ : ∃ e, e = s.ev t ⟨6, r, x, m⟩ := ⟨_, rfl⟩
  rw [← he] at hn ⊢
  have HE := Lib.hid he
  have HN := Lib.hid hn
  have HI := Lib.hid (And.intro hi (And.intro hf (And.intro hn1 (And.intro hrl (And.intro hvl hml)))))
  have HC := Lib.hid (And.intro c0 (And.intro i0 (And.intro i1 (And.intro i2 i3))))
  have h8n : n < 8 := by omega
  have hatn : n < (s.code t).length := by omega
  clear hst h hth ok hi hn he hkk hm hfu hcode hc c1 hcc hic hcd hln hrl hvl hml hf hn1 o6 c0 i0 i1 i2 i3
  try clear hat
  generalize (s.code t).length = ln at *
  go_enter Try.func64, Try.ntmps64
  go_wp2_with fail
  refine (refNext_any HB.out HTH.out OK.out t).mono ?_
  rw [HN.out, evR_some]
  rintro r9 w1 ⟨rfl, hb3⟩
  have hz : w.heap.size < w1.heap.size := by have := hb3.size; simp at this; omega
  have RX1 : Hid (EvBox0 w1 w.heap.size) := (hb3.block _ (by simp)).trans (heap_alloc_new w _)
  have H1 := Lib.hid ((HB.out.later hb3).later (below_alloc1 w1 (.cells #[.int .i64 e.thread, .int .i64 e.kind, .int .i64 e.obj, .bool e.fail] 128)))
  have T1 := Lib.hid ((HTH.out.later hb3).later (below_alloc1 w1 (.cells #[.int .i64 e.thread, .int .i64 e.kind, .int .i64 e.obj, .bool e.fail] 128)))
  have B1 : Hid (Below w.heap.size w w1) := (below_alloc1 w _).trans (hb3.mono (by simp))
  clear hb3 p1 HB HTH
  go_wp2_with fail
  refine (refEnabled_any H1.out T1.out OK.out t).mono ?_
  rw [HM.out]
  rintro r9 w2 ⟨rfl, hb4⟩
  have EX2 : Hid (w2.heap[w1.heap.size]? = some (.cells #[.int .i64 e.thread, .int .i64 e.kind, .int .i64 e.obj, .bool e.fail] 128 (0, 0))) := (hb4.block _ (by simp)).trans (heap_alloc_new w1 _)
  have B2 : Hid (Below w1.heap.size w1 w2) := (below_alloc1 w1 _).trans (hb4.mono (by simp))
  have RX2 : Hid (EvBox0 w2 w.heap.size) := (B2.out.block _ hz).trans RX1.out
  have H2 := Lib.hid (H1.out.later hb4)
  have W2 : Hid (Below w.heap.size w w2) := B1.out.trans (B2.out.mono (by omega))
  have hz2 : w1.heap.size < w2.heap.size := (Array.getElem?_eq_some_iff.1 EX2.out).1
  have hz3 : w.heap.size < w2.heap.size := by omega
  obtain ⟨p0, p1⟩ := H2.out.prog
  have ca := H2.out.at_ t ht
  rw [HI.out.2.2.1] at ca
  have d0 := cell_later W2.out HC.out.1
  have d1 := cell_later W2.out HC.out.2.1
  have d2 := cell_later W2.out HC.out.2.2.1
  have d3 := cell_later W2.out HC.out.2.2.2.1
  have d4 := cell_later W2.out HC.out.2.2.2.2
  have z0 := cell_block d0
  have z1 := cell_block d1
  dsimp only at z0 z1
  have ltb : tb < w2.heap.size := by omega
  have lb : b < w2.heap.size := by omega
  clear hb4 H1 T1 B1 B2 RX1 HC
  go_wp2
  go_region
  generalize hW : (w2.alloc (.cells #[.int .i64 6, .int .i64 r, .int .i64 x, .int .i64 m] 94)).drew = W at *
  have hbW : Below w2.heap.size w2 W := by rw [← hW]; exact ((Below.refl _ _).alloc (Nat.le_refl _) _).drew
  have IX : W.heap[w2.heap.size]? = some (.cells #[.int .i64 6, .int .i64 r, .int .i64 x, .int .i64 m] 94 (0, 0)) := by rw [← hW]; exact heap_alloc_new w2 _
  have HW := Lib.hid (H2.out.later hbW)
  have EX := Lib.hid ((hbW.block _ hz2).trans EX2.out)
  have RX : Hid (EvBox0 W w.heap.size) := (hbW.block _ hz3).trans RX2.out
  have OW : Hid (Only2 b tb w W) := .of_below (W2.out.trans (hbW.mono W2.out.size))
  have cf := HW.out.fuel t ht
  rw [HI.out.2.1, Int.natCast_add] at cf
  have ca2 := HW.out.at_ t ht
  rw [HI.out.2.2.1] at ca2
  have ff := fun o => (HW.out.frozen o).2
  have j0 := (ins_cells IX).1
  have IXH := Lib.hid IX
  have nb : b ≠ tb := HW.out.2.1
  generalize hI : w2.heap.size = I at *
  generalize hE : w1.heap.size = E at *
  generalize hR : w.heap.size = R at *
  have n1 : ¬ tb = I := by omega
  have n2 : ¬ I = tb := by omega
  have n3 : ¬ tb = E := by omega
  have n4 : ¬ E = tb := by omega
  have n5 : ¬ tb = R := by omega
  have n6 : ¬ R = tb := by omega
  have n7 : ¬ b = I := by omega
  have n8 : ¬ I = b := by omega
  have n9 : ¬ b = E := by omega
  have n10 : ¬ E = b := by omega
  have n11 : ¬ b = R := by omega
  have n12 : ¬ R = b := by omega
  have n13 : ¬ tb = b := fun h => nb h.symm
  have n14 : ¬ b = tb := nb
  have n15 : ¬ R = E := by omega
  have n16 : ¬ E = R := by omega
  clear hW hbW H2 EX2 RX2 W2 d0 d1 d2 d3 d4 ca p0 p1 IX
  go_wp2
  generalize hV : (W.setCell ⟨tb, t * 4 + 1, none⟩ (.int .i64 f)).setCell ⟨tb, t * 4, none⟩ (.int .i64 (n + 1)) = V at *
  have hoth : ∀ k, k ≠ tb → V.heap[k]? = W.heap[k]? := fun k hk => by rw [← hV, Below.heap_setCell _ _ _ _ hk, Below.heap_setCell _ _ _ _ hk]
  have HG : Hid (RefAt V b tb (some ⟨ab, ao, none⟩) cap tcap (s.go t)) := by rw [← hV]; exact HW.out.go t f n ht HI.out.2.1 HI.out.2.2.1
  have OV : Hid (Only2 b tb w V) := by rw [← hV]; exact (OW.out.setCell (.inr (.inl rfl)) _ _).setCell (.inr (.inl rfl)) _ _
  obtain ⟨j0v, j1v, j2v, j3v⟩ := ins_cells ((hoth I (fun e => n2 e)).trans IXH.out)
  obtain ⟨x0, x1, x2, x3⟩ := ev_cells ((hoth E (fun e => n4 e)).trans EX.out)
  obtain ⟨e0, e1, e2, e3, ef⟩ := EvBox0.cells ((hoth R (fun e => n6 e)).trans RX.out)
  have f0 := ef 0
  have f1 := ef 1
  have f2 := ef 2
  have f3 := ef 3
  have htg : t < (s.go t).ts.length := by rw [St.go, St.put_len]; exact ht
  clear hV hoth j0 cf ca2 ff ef IXH EX RX HW OW
  have hek : e.kind = 5 := by rw [HE.out]; unfold St.ev; dsimp only; rw [if_neg (by omega), if_neg (by omega), if_neg (by omega), if_pos rfl, if_pos hw]
  have q4 : (e.kind == 4) = false := by simp [hek]
  have q5 : (e.kind == 5) = true := by simp [hek]
  clear hek
  have cw := HG.out.who x hx2
  have fw := (HG.out.frozen (8 + x)).1
  have gl := go_unlock s t r x m ht
  rw [if_pos (show (s.go t).who x = t from hw)] at gl
  have GL := Lib.hid gl
  clear gl hw
  go_quiet (fail)
  go_wp2
  go_region
  go_wp2
  refine bodyPost_ret (v := .tuple #[.agg #[.int .i64 e.thread, .int .i64 e.kind, .int .i64 e.obj, .bool e.fail], .int .i64 0]) (by simp [results, Try.results64, go_sem, e0, e1, e2, e3]) rfl ⟨rfl, ?_, ?_⟩
  · obtain ⟨hi, hf, hn1, hrl, hvl, hml⟩ := HI.out
    have hg := HG.out
    have h2 := (hg.drewN (nq + 1)).setWho x (-1) hx2 hml
    rw [GL.out] at h2
    exact h2.other4 (by omega) (by omega) _ _ _ _
  · exact ((OV.out.drewN).setCell (.inl rfl) _ _).set4 (Nat.le_of_eq hR) _ _ _ _
end
end Go.Proofs.Ytkphdmfcmfojeaa

/- The contract of the document's Step: an unlock that fails. -/
namespace Go.Proofs.Ytkphdmfcmfojeaa
open Go.RowKit
section
variable {F : Nat} {w : World} {b tb : Nat} {a : Option Addr} {cap tcap : Nat} {s : St}

set_option maxRecDepth 100000 in
set_option maxHeartbeats 8000000 in
theorem refStep_6b (h : RefAt w b tb a cap tcap s) (hth : ThreadsAt w a s.p.threads) (ok : s.Ok F) (t : Nat) (i : Ins) (hi : s.ins t = some i) (hm : s.may t = true) (hk1 : i.kind = 6) (hw : ¬ s.who i.x = t) : Calls Try.prog 64 #[.pointer (some ⟨b, 0, none⟩), .int .i64 t] w fun e w' => e = .returned (stepV (s.step t)) ∧ RefAt w' b tb a cap tcap (s.step t).2.2 ∧ Only2 b tb w w' := by
  obtain ⟨k, hkk, ht⟩ := St.ins_nat hi
  obtain rfl : t = k := by omega
  have hst : s.step t = (0, s.ev t i, s.do_ t i) := by
    unfold St.step
    rw [if_pos (by unfold St.has; omega), hi]
    simp only [hm]
    rfl
  have hn : s.next t = some (s.ev t i) := by unfold St.next; rw [hi]; rfl
  rw [hst, stepV_ok]
  dsimp only
  obtain ⟨o1, o2, o3, o4, o5, o6⟩ := ok.obj hi
  have hx0 : 0 ≤ i.x := by
    have := (ok.ins_right hi).1
    unfold rightIns at this
    repeat' split at this
    all_goals first | (simp only [decide_eq_true_eq] at this; omega) | (cases this)
  obtain ⟨_, hfu, hcode⟩ := St.ins_has hi
  simp only [Int.toNat_natCast] at hfu hcode
  have h4 := ok.len4
  have hln := ok.len
  have hrl : (s.th t).r.length = 2 := (ok.thr _ (St.th_mem ht)).1
  have hvl := ok.vl
  have hml := ok.ml
  obtain ⟨f, hf⟩ : ∃ f, (s.th t).fuel = f + 1 := ⟨(s.th t).fuel - 1, by omega⟩
  have hf8 : f ≤ 1000 := by have := (ok.thr _ (St.th_mem ht)).2.2; have := ok.f8; omega
  have h8 := ok.code8 t ht
  obtain ⟨hat, hic⟩ := List.getElem?_eq_some_iff.1 hcode
  obtain ⟨n, hn1⟩ : ∃ n, (s.th t).at_ = n := ⟨_, rfl⟩
  have hkp : t < s.p.threads.length := by omega
  have hcd : s.code t = s.p.threads[t] := getD_lt _ hkp
  obtain ⟨ab, ao, rfl, hc⟩ := hth.2 (by intro e; simp [e] at hkp)
  obtain ⟨c, ccap, c0, c1, _⟩ := hc t hkp
  rw [← hcd] at c0 c1
  obtain ⟨cb, co, rfl, hcc⟩ := c1.2 (by intro e; simp [e] at hat)
  obtain ⟨i0, i1, i2, i3⟩ := hcc _ hat
  rw [hic] at i0 i1 i2 i3
  rw [hn1] at i0 i1 i2 i3 hat
  have p1 := h.prog.2
  have q0 : decide ((t : Int) < 0) = false := by simp
  have q1 : decide ((s.ts.length : Int) ≤ t) = false := by simp; omega
  have q2 : decide (s.ts.length ≤ t) = false := by simp; omega
  obtain ⟨hb1, hb2⟩ := h.lt
  have HB := Lib.hid (h.later (below_alloc1 w (.cells #[.int .i64 0, .int .i64 0, .int .i64 0, .bool false] 128)))
  have HTH := Lib.hid (hth.later (below_alloc1 w (.cells #[.int .i64 0, .int .i64 0, .int .i64 0, .bool false] 128)))
  have OK := Lib.hid ok
  have HM := Lib.hid hm
  obtain ⟨kd, r, x, m⟩ := i
  dsimp only at *
  obtain ⟨r, rfl⟩ : ∃ y : Nat, r = y := ⟨r.toNat, by omega⟩
  obtain ⟨x, rfl⟩ : ∃ y : Nat, x = y := ⟨x.toNat, by omega⟩
  subst hk1
  clear o1 o2 o3
  obtain ⟨e, he⟩ : ∃ e, e = s.ev t ⟨6, r, x, m⟩ := ⟨_, rfl⟩
  rw [← he] at hn ⊢
  have HE := Lib.hid he
  have HN := Lib.hid hn
  have HI := Lib.hid (And.intro hi (And.intro hf (And.intro hn1 (And.intro hrl (And.intro hvl hml)))))
  have HC := Lib.hid (And.intro c0 (And.intro i0 (And.intro i1 (And.intro i2 i3))))
  have h8n : n < 8 := by omega
  have hatn : n < (s.code t).length := by omega
  clear hst h hth ok hi hn he hkk hm hfu hcode hc c1 hcc hic hcd hln hrl hvl hml hf hn1 o6 c0 i0 i1 i2 i3
  try clear hat
  generalize (s.code t).length = ln at *
  go_enter Try.func64, Try.ntmps64
  go_wp2_with fail
  refine (refNext_any HB.out HTH.out OK.out t).mono ?_
  rw [HN.out, evR_some]
  rintro r9 w1 ⟨rfl, hb3⟩
  have hz : w.heap.size < w1.heap.size := by have := hb3.size; simp at this; omega
  have RX1 : Hid (EvBox0 w1 w.heap.size) := (hb3.block _ (by simp)).trans (heap_alloc_new w _)
  have H1 := Lib.hid ((HB.out.later hb3).later (below_alloc1 w1 (.cells #[.int .i64 e.thread, .int .i64 e.kind, .int .i64 e.obj, .bool e.fail] 128)))
  have T1 := Lib.hid ((HTH.out.later hb3).later (below_alloc1 w1 (.cells #[.int .i64 e.thread, .int .i64 e.kind, .int .i64 e.obj, .bool e.fail] 128)))
  have B1 : Hid (Below w.heap.size w w1) := (below_alloc1 w _).trans (hb3.mono (by simp))
  clear hb3 p1 HB HTH
  go_wp2_with fail
  refine (refEnabled_any H1.out T1.out OK.out t).mono ?_
  rw [HM.out]
  rintro r9 w2 ⟨rfl, hb4⟩
  have EX2 : Hid (w2.heap[w1.heap.size]? = some (.cells #[.int .i64 e.thread, .int .i64 e.kind, .int .i64 e.obj, .bool e.fail] 128 (0, 0))) := (hb4.block _ (by simp)).trans (heap_alloc_new w1 _)
  have B2 : Hid (Below w1.heap.size w1 w2) := (below_alloc1 w1 _).trans (hb4.mono (by simp))
  have RX2 : Hid (EvBox0 w2 w.heap.size) := (B2.out.block _ hz).trans RX1.out
  have H2 := Lib.hid (H1.out.later hb4)
  have W2 : Hid (Below w.heap.size w w2) := B1.out.trans (B2.out.mono (by omega))
  have hz2 : w1.heap.size < w2.heap.size := (Array.getElem?_eq_some_iff.1 EX2.out).1
  have hz3 : w.heap.size < w2.heap.size := by omega
  obtain ⟨p0, p1⟩ := H2.out.prog
  have ca := H2.out.at_ t ht
  rw [HI.out.2.2.1] at ca
  have d0 := cell_later W2.out HC.out.1
  have d1 := cell_later W2.out HC.out.2.1
  have d2 := cell_later W2.out HC.out.2.2.1
  have d3 := cell_later W2.out HC.out.2.2.2.1
  have d4 := cell_later W2.out HC.out.2.2.2.2
  have z0 := cell_block d0
  have z1 := cell_block d1
  dsimp only at z0 z1
  have ltb : tb < w2.heap.size := by omega
  have lb : b < w2.heap.size := by omega
  clear hb4 H1 T1 B1 B2 RX1 HC
  go_wp2
  go_region
  generalize hW : (w2.alloc (.cells #[.int .i64 6, .int .i64 r, .int .i64 x, .int .i64 m] 94)).drew = W at *
  have hbW : Below w2.heap.size w2 W := by rw [← hW]; exact ((Below.refl _ _).alloc (Nat.le_refl _) _).drew
  have IX : W.heap[w2.heap.size]? = some (.cells #[.int .i64 6, .int .i64 r, .int .i64 x, .int .i64 m] 94 (0, 0)) := by rw [← hW]; exact heap_alloc_new w2 _
  have HW := Lib.hid (H2.out.later hbW)
  have EX := Lib.hid ((hbW.block _ hz2).trans EX2.out)
  have RX : Hid (EvBox0 W w.heap.size) := (hbW.block _ hz3).trans RX2.out
  have OW : Hid (Only2 b tb w W) := .of_below (W2.out.trans (hbW.mono W2.out.size))
  have cf := HW.out.fuel t ht
  rw [HI.out.2.1, Int.natCast_add] at cf
  have ca2 := HW.out.at_ t ht
  rw [HI.out.2.2.1] at ca2
  have ff := fun o => (HW.out.frozen o).2
  have j0 := (ins_cells IX).1
  have IXH := Lib.hid IX
  have nb : b ≠ tb := HW.out.2.1
  generalize hI : w2.heap.size = I at *
  generalize hE : w1.heap.size = E at *
  generalize hR : w.heap.size = R at *
  have n1 : ¬ tb = I := by omega
  have n2 : ¬ I = tb := by omega
  have n3 : ¬ tb = E := by omega
  have n4 : ¬ E = tb := by omega
  have n5 : ¬ tb = R := by omega
  have n6 : ¬ R = tb := by omega
  have n7 : ¬ b = I := by omega
  have n8 : ¬ I = b := by omega
  have n9 : ¬ b = E := by omega
  have n10 : ¬ E = b := by omega
  have n11 : ¬ b = R := by omega
  have n12 : ¬ R = b := by omega
  have n13 : ¬ tb = b := fun h => nb h.symm
  have n14 : ¬ b = tb := nb
  have n15 : ¬ R = E := by omega
  have n16 : ¬ E = R := by omega
  clear hW hbW H2 EX2 RX2 W2 d0 d1 d2 d3 d4 ca p0 p1 IX
  go_wp2
  generalize hV : (W.setCell ⟨tb, t * 4 + 1, none⟩ (.int .i64 f)).setCell ⟨tb, t * 4, none⟩ (.int .i64 (n + 1)) = V at *
  have hoth : ∀ k, k ≠ tb → V.heap[k]? = W.heap[k]? := fun k hk => by rw [← hV, Below.heap_setCell _ _ _ _ hk, Below.heap_setCell _ _ _ _ hk]
  have HG : Hid (RefAt V b tb (some ⟨ab, ao, none⟩) cap tcap (s.go t)) := by rw [← hV]; exact HW.out.go t f n ht HI.out.2.1 HI.out.2.2.1
  have OV : Hid (Only2 b tb w V) := by rw [← hV]; exact (OW.out.setCell (.inr (.inl rfl)) _ _).setCell (.inr (.inl rfl)) _ _
  obtain ⟨j0v, j1v, j2v, j3v⟩ := ins_cells ((hoth I (fun e => n2 e)).trans IXH.out)
  obtain ⟨x0, x1, x2, x3⟩ := ev_cells ((hoth E (fun e => n4 e)).trans EX.out)
  obtain ⟨e0, e1, e2, e3, ef⟩ := EvBox0.cells ((hoth R (fun e => n6 e)).trans RX.out)
  have f0 := ef 0
  have f1 := ef 1
  have f2 := ef 2
  have f3 := ef 3
  have htg : t < (s.go t).ts.length := by rw [St.go, St.put_len]; exact ht
  clear hV hoth j0 cf ca2 ff ef IXH EX RX HW OW
  have hek : e.kind = 1 := by rw [HE.out]; unfold St.ev; dsimp only; rw [if_neg (by omega), if_neg (by omega), if_neg (by omega), if_pos rfl, if_neg hw]
  have q4 : (e.kind == 4) = false := by simp [hek]
  have q5 : (e.kind == 5) = false := by simp [hek]
  clear hek
  have gl := go_unlock s t r x m ht
  rw [if_neg (show ¬ (s.go t).who x = t from hw)] at gl
  have GL := Lib.hid gl
  clear gl hw
  go_quiet (fail)
  go_wp2
  refine bodyPost_ret (v := .tuple #[.agg #[.int .i64 e.thread, .int .i64 e.kind, .int .i64 e.obj, .bool e.fail], .int .i64 0]) (by simp [results, Try.results64, go_sem, e0, e1, e2, e3]) rfl ⟨rfl, ?_, ?_⟩
  · obtain ⟨hi, hf, hn1, hrl, hvl, hml⟩ := HI.out
    have hg := HG.out
    have h2 := hg.drewN nq
    rw [GL.out] at h2
    exact h2.other4 (by omega) (by omega) _ _ _ _
  · exact (OV.out.drewN).set4 (Nat.le_of_eq hR) _ _ _ _
end
end Go.Proofs.Ytkphdmfcmfojeaa

/- The contract of the document's Step: a jump. -/
namespace Go.Proofs.Ytkphdmfcmfojeaa
open Go.RowKit
section
variable {F : Nat} {w : World} {b tb : Nat} {a : Option Addr} {cap tcap : Nat} {s : St}

set_option maxRecDepth 100000 in
set_option maxHeartbeats 8000000 in
theorem refStep_7 (h : RefAt w b tb a cap tcap s) (hth : ThreadsAt w a s.p.threads) (ok : s.Ok F) (t : Nat) (i : Ins) (hi : s.ins t = some i) (hm : s.may t = true) (hk1 : i.kind = 7) (hw : ¬ (s.th t).r.getD i.r.toNat 0 = 0) : Calls Try.prog 64 #[.pointer (some ⟨b, 0, none⟩), .int .i64 t] w fun e w' => e = .returned (stepV (s.step t)) ∧ RefAt w' b tb a cap tcap (s.step t).2.2 ∧ Only2 b tb w w' := by
  obtain ⟨k, hkk, ht⟩ := St.ins_nat hi
  obtain rfl : t = k := by omega
  have hst : s.step t = (0, s.ev t i, s.do_ t i) := by
    unfold St.step
    rw [if_pos (by unfold St.has; omega), hi]
    simp only [hm]
    rfl
  have hn : s.next t = some (s.ev t i) := by unfold St.next; rw [hi]; rfl
  rw [hst, stepV_ok]
  dsimp only
  obtain ⟨o1, o2, o3, o4, o5, o6⟩ := ok.obj hi
  have hx0 : 0 ≤ i.x := by
    have := (ok.ins_right hi).1
    unfold rightIns at this
    repeat' split at this
    all_goals first | (simp only [decide_eq_true_eq] at this; omega) | (cases this)
  obtain ⟨_, hfu, hcode⟩ := St.ins_has hi
  simp only [Int.toNat_natCast] at hfu hcode
  have h4 := ok.len4
  have hln := ok.len
  have hrl : (s.th t).r.length = 2 := (ok.thr _ (St.th_mem ht)).1
  have hvl := ok.vl
  have hml := ok.ml
  obtain ⟨f, hf⟩ : ∃ f, (s.th t).fuel = f + 1 := ⟨(s.th t).fuel - 1, by omega⟩
  have hf8 : f ≤ 1000 := by have := (ok.thr _ (St.th_mem ht)).2.2; have := ok.f8; omega
  have h8 := ok.code8 t ht
  obtain ⟨hat, hic⟩ := List.getElem?_eq_some_iff.1 hcode
  obtain ⟨n, hn1⟩ : ∃ n, (s.th t).at_ = n := ⟨_, rfl⟩
  have hkp : t < s.p.threads.length := by omega
  have hcd : s.code t = s.p.threads[t] := getD_lt _ hkp
  obtain ⟨ab, ao, rfl, hc⟩ := hth.2 (by intro e; simp [e] at hkp)
  obtain ⟨c, ccap, c0, c1, _⟩ := hc t hkp
  rw [← hcd] at c0 c1
  obtain ⟨cb, co, rfl, hcc⟩ := c1.2 (by intro e; simp [e] at hat)
  obtain ⟨i0, i1, i2, i3⟩ := hcc _ hat
  rw [hic] at i0 i1 i2 i3
  rw [hn1] at i0 i1 i2 i3 hat
  have p1 := h.prog.2
  have q0 : decide ((t : Int) < 0) = false := by simp
  have q1 : decide ((s.ts.length : Int) ≤ t) = false := by simp; omega
  have q2 : decide (s.ts.length ≤ t) = false := by simp; omega
  obtain ⟨hb1, hb2⟩ := h.lt
  have HB := Lib.hid (h.later (below_alloc1 w (.cells #[.int .i64 0, .int .i64 0, .int .i64 0, .bool false] 128)))
  have HTH := Lib.hid (hth.later (below_alloc1 w (.cells #[.int .i64 0, .int .i64 0, .int .i64 0, .bool false] 128)))
  have OK := Lib.hid ok
  have HM := Lib.hid hm
  obtain ⟨kd, r, x, m⟩ := i
  dsimp only at *
  obtain ⟨r, rfl⟩ : ∃ y : Nat, r = y := ⟨r.toNat, by omega⟩
  obtain ⟨x, rfl⟩ : ∃ y : Nat, x = y := ⟨x.toNat, by omega⟩
  subst hk1
  have hr2 : r < 2 := by omega
  clear o1 o2 o3
  obtain ⟨e, he⟩ : ∃ e, e = s.ev t ⟨7, r, x, m⟩ := ⟨_, rfl⟩
  rw [← he] at hn ⊢
  have HE := Lib.hid he
  have HN := Lib.hid hn
  have HI := Lib.hid (And.intro hi (And.intro hf (And.intro hn1 (And.intro hrl (And.intro hvl hml)))))
  have HC := Lib.hid (And.intro c0 (And.intro i0 (And.intro i1 (And.intro i2 i3))))
  have h8n : n < 8 := by omega
  have hatn : n < (s.code t).length := by omega
  clear hst h hth ok hi hn he hkk hm hfu hcode hc c1 hcc hic hcd hln hrl hvl hml hf hn1 o6 c0 i0 i1 i2 i3
  try clear hat
  generalize (s.code t).length = ln at *
  go_enter Try.func64, Try.ntmps64
  go_wp2_with fail
  refine (refNext_any HB.out HTH.out OK.out t).mono ?_
  rw [HN.out, evR_some]
  rintro r9 w1 ⟨rfl, hb3⟩
  have hz : w.heap.size < w1.heap.size := by have := hb3.size; simp at this; omega
  have RX1 : Hid (EvBox0 w1 w.heap.size) := (hb3.block _ (by simp)).trans (heap_alloc_new w _)
  have H1 := Lib.hid ((HB.out.later hb3).later (below_alloc1 w1 (.cells #[.int .i64 e.thread, .int .i64 e.kind, .int .i64 e.obj, .bool e.fail] 128)))
  have T1 := Lib.hid ((HTH.out.later hb3).later (below_alloc1 w1 (.cells #[.int .i64 e.thread, .int .i64 e.kind, .int .i64 e.obj, .bool e.fail] 128)))
  have B1 : Hid (Below w.heap.size w w1) := (below_alloc1 w _).trans (hb3.mono (by simp))
  clear hb3 p1 HB HTH
  go_wp2_with fail
  refine (refEnabled_any H1.out T1.out OK.out t).mono ?_
  rw [HM.out]
  rintro r9 w2 ⟨rfl, hb4⟩
  have EX2 : Hid (w2.heap[w1.heap.size]? = some (.cells #[.int .i64 e.thread, .int .i64 e.kind, .int .i64 e.obj, .bool e.fail] 128 (0, 0))) := (hb4.block _ (by simp)).trans (heap_alloc_new w1 _)
  have B2 : Hid (Below w1.heap.size w1 w2) := (below_alloc1 w1 _).trans (hb4.mono (by simp))
  have RX2 : Hid (EvBox0 w2 w.heap.size) := (B2.out.block _ hz).trans RX1.out
  have H2 := Lib.hid (H1.out.later hb4)
  have W2 : Hid (Below w.heap.size w w2) := B1.out.trans (B2.out.mono (by omega))
  have hz2 : w1.heap.size < w2.heap.size := (Array.getElem?_eq_some_iff.1 EX2.out).1
  have hz3 : w.heap.size < w2.heap.size := by omega
  obtain ⟨p0, p1⟩ := H2.out.prog
  have ca := H2.out.at_ t ht
  rw [HI.out.2.2.1] at ca
  have d0 := cell_later W2.out HC.out.1
  have d1 := cell_later W2.out HC.out.2.1
  have d2 := cell_later W2.out HC.out.2.2.1
  have d3 := cell_later W2.out HC.out.2.2.2.1
  have d4 := cell_later W2.out HC.out.2.2.2.2
  have z0 := cell_block d0
  have z1 := cell_block d1
  dsimp only at z0 z1
  have ltb : tb < w2.heap.size := by omega
  have lb : b < w2.heap.size := by omega
  clear hb4 H1 T1 B1 B2 RX1 HC
  go_wp2
  go_region
  generalize hW : (w2.alloc (.cells #[.int .i64 7, .int .i64 r, .int .i64 x, .int .i64 m] 94)).drew = W at *
  have hbW : Below w2.heap.size w2 W := by rw [← hW]; exact ((Below.refl _ _).alloc (Nat.le_refl _) _).drew
  have IX : W.heap[w2.heap.size]? = some (.cells #[.int .i64 7, .int .i64 r, .int .i64 x, .int .i64 m] 94 (0, 0)) := by rw [← hW]; exact heap_alloc_new w2 _
  have HW := Lib.hid (H2.out.later hbW)
  have EX := Lib.hid ((hbW.block _ hz2).trans EX2.out)
  have RX : Hid (EvBox0 W w.heap.size) := (hbW.block _ hz3).trans RX2.out
  have OW : Hid (Only2 b tb w W) := .of_below (W2.out.trans (hbW.mono W2.out.size))
  have cf := HW.out.fuel t ht
  rw [HI.out.2.1, Int.natCast_add] at cf
  have ca2 := HW.out.at_ t ht
  rw [HI.out.2.2.1] at ca2
  have ff := fun o => (HW.out.frozen o).2
  have j0 := (ins_cells IX).1
  have IXH := Lib.hid IX
  have nb : b ≠ tb := HW.out.2.1
  generalize hI : w2.heap.size = I at *
  generalize hE : w1.heap.size = E at *
  generalize hR : w.heap.size = R at *
  have n1 : ¬ tb = I := by omega
  have n2 : ¬ I = tb := by omega
  have n3 : ¬ tb = E := by omega
  have n4 : ¬ E = tb := by omega
  have n5 : ¬ tb = R := by omega
  have n6 : ¬ R = tb := by omega
  have n7 : ¬ b = I := by omega
  have n8 : ¬ I = b := by omega
  have n9 : ¬ b = E := by omega
  have n10 : ¬ E = b := by omega
  have n11 : ¬ b = R := by omega
  have n12 : ¬ R = b := by omega
  have n13 : ¬ tb = b := fun h => nb h.symm
  have n14 : ¬ b = tb := nb
  have n15 : ¬ R = E := by omega
  have n16 : ¬ E = R := by omega
  clear hW hbW H2 EX2 RX2 W2 d0 d1 d2 d3 d4 ca p0 p1 IX
  go_wp2
  generalize hV : (W.setCell ⟨tb, t * 4 + 1, none⟩ (.int .i64 f)).setCell ⟨tb, t * 4, none⟩ (.int .i64 (n + 1)) = V at *
  have hoth : ∀ k, k ≠ tb → V.heap[k]? = W.heap[k]? := fun k hk => by rw [← hV, Below.heap_setCell _ _ _ _ hk, Below.heap_setCell _ _ _ _ hk]
  have HG : Hid (RefAt V b tb (some ⟨ab, ao, none⟩) cap tcap (s.go t)) := by rw [← hV]; exact HW.out.go t f n ht HI.out.2.1 HI.out.2.2.1
  have OV : Hid (Only2 b tb w V) := by rw [← hV]; exact (OW.out.setCell (.inr (.inl rfl)) _ _).setCell (.inr (.inl rfl)) _ _
  obtain ⟨j0v, j1v, j2v, j3v⟩ := ins_cells ((hoth I (fun e => n2 e)).trans IXH.out)
  obtain ⟨x0, x1, x2, x3⟩ := ev_cells ((hoth E (fun e => n4 e)).trans EX.out)
  obtain ⟨e0, e1, e2, e3, ef⟩ := EvBox0.cells ((hoth R (fun e => n6 e)).trans RX.out)
  have f0 := ef 0
  have f1 := ef 1
  have f2 := ef 2
  have f3 := ef 3
  have htg : t < (s.go t).ts.length := by rw [St.go, St.put_len]; exact ht
  clear hV hoth j0 cf ca2 ff ef IXH EX RX HW OW
  have gl := go_jump s t r x m ht
  rw [St.go_th s t ht, if_neg (show ¬ (s.th t).r.getD r 0 = 0 from hw)] at gl
  have cr := HG.out.reg t htg r hr2
  have ca := HG.out.at_ t htg
  have fa := (HG.out.frozen (t * 4)).2
  have q7 : (((s.go t).th t).r.getD r 0 != 0) = true := by rw [St.go_th s t ht]; simpa using hw
  generalize ((s.go t).th t).r.getD r 0 = vv at *
  have GL := Lib.hid gl
  clear gl hw
  go_quiet (fail)
  go_wp2
  refine bodyPost_ret (v := .tuple #[.agg #[.int .i64 e.thread, .int .i64 e.kind, .int .i64 e.obj, .bool e.fail], .int .i64 0]) (by simp [results, Try.results64, go_sem, e0, e1, e2, e3]) rfl ⟨rfl, ?_, ?_⟩
  · obtain ⟨hi, hf, hn1, hrl, hvl, hml⟩ := HI.out
    have hg := HG.out
    have h2 := (hg.drewN nq).setAt t x htg
    rw [St.go_th s t ht, GL.out] at h2
    exact h2.other4 (by omega) (by omega) _ _ _ _
  · exact ((OV.out.drewN).setCell (.inr (.inl rfl)) _ _).set4 (Nat.le_of_eq hR) _ _ _ _
end
end Go.Proofs.Ytkphdmfcmfojeaa

/- The contract of the document's Step: a jump that is none. -/
namespace Go.Proofs.Ytkphdmfcmfojeaa
open Go.RowKit
section
variable {F : Nat} {w : World} {b tb : Nat} {a : Option Addr} {cap tcap : Nat} {s : St}

set_option maxRecDepth 100000 in
set_option maxHeartbeats 8000000 in
theorem refStep_7z (h : RefAt w b tb a cap tcap s) (hth : ThreadsAt w a s.p.threads) (ok : s.Ok F) (t : Nat) (i : Ins) (hi : s.ins t = some i) (hm : s.may t = true) (hk1 : i.kind = 7) (hw : (s.th t).r.getD i.r.toNat 0 = 0) : Calls Try.prog 64 #[.pointer (some ⟨b, 0, none⟩), .int .i64 t] w fun e w' => e = .returned (stepV (s.step t)) ∧ RefAt w' b tb a cap tcap (s.step t).2.2 ∧ Only2 b tb w w' := by
  obtain ⟨k, hkk, ht⟩ := St.ins_nat hi
  obtain rfl : t = k := by omega
  have hst : s.step t = (0, s.ev t i, s.do_ t i) := by
    unfold St.step
    rw [if_pos (by unfold St.has; omega), hi]
    simp only [hm]
    rfl
  have hn : s.next t = some (s.ev t i) := by unfold St.next; rw [hi]; rfl
  rw [hst, stepV_ok]
  dsimp only
  obtain ⟨o1, o2, o3, o4, o5, o6⟩ := ok.obj hi
  have hx0 : 0 ≤ i.x := by
    have := (ok.ins_right hi).1
    unfold rightIns at this
    repeat' split at this
    all_goals first | (simp only [decide_eq_true_eq] at this; omega) | (cases this)
  obtain ⟨_, hfu, hcode⟩ := St.ins_has hi
  simp only [Int.toNat_natCast] at hfu hcode
  have h4 := ok.len4
  have hln := ok.len
  have hrl : (s.th t).r.length = 2 := (ok.thr _ (St.th_mem ht)).1
  have hvl := ok.vl
  have hml := ok.ml
  obtain ⟨f, hf⟩ : ∃ f, (s.th t).fuel = f + 1 := ⟨(s.th t).fuel - 1, by omega⟩
  have hf8 : f ≤ 1000 := by have := (ok.thr _ (St.th_mem ht)).2.2; have := ok.f8; omega
  have h8 := ok.code8 t ht
  obtain ⟨hat, hic⟩ := List.getElem?_eq_some_iff.1 hcode
  obtain ⟨n, hn1⟩ : ∃ n, (s.th t).at_ = n := ⟨_, rfl⟩
  have hkp : t < s.p.threads.length := by omega
  have hcd : s.code t = s.p.threads[t] := getD_lt _ hkp
  obtain ⟨ab, ao, rfl, hc⟩ := hth.2 (by intro e; simp [e] at hkp)
  obtain ⟨c, ccap, c0, c1, _⟩ := hc t hkp
  rw [← hcd] at c0 c1
  obtain ⟨cb, co, rfl, hcc⟩ := c1.2 (by intro e; simp [e] at hat)
  obtain ⟨i0, i1, i2, i3⟩ := hcc _ hat
  rw [hic] at i0 i1 i2 i3
  rw [hn1] at i0 i1 i2 i3 hat
  have p1 := h.prog.2
  have q0 : decide ((t : Int) < 0) = false := by simp
  have q1 : decide ((s.ts.length : Int) ≤ t) = false := by simp; omega
  have q2 : decide (s.ts.length ≤ t) = false := by simp; omega
  obtain ⟨hb1, hb2⟩ := h.lt
  have HB := Lib.hid (h.later (below_alloc1 w (.cells #[.int .i64 0, .int .i64 0, .int .i64 0, .bool false] 128)))
  have HTH := Lib.hid (hth.later (below_alloc1 w (.cells #[.int .i64 0, .int .i64 0, .int .i64 0, .bool false] 128)))
  have OK := Lib.hid ok
  have HM := Lib.hid hm
  obtain ⟨kd, r, x, m⟩ := i
  dsimp only at *
  obtain ⟨r, rfl⟩ : ∃ y : Nat, r = y := ⟨r.toNat, by omega⟩
  obtain ⟨x, rfl⟩ : ∃ y : Nat, x = y := ⟨x.toNat, by omega⟩
  subst hk1
  have hr2 : r < 2 := by omega
  clear o1 o2 o3
  obtain ⟨e, he⟩ : ∃ e, e = s.ev t ⟨7, r, x, m⟩ := ⟨_, rfl⟩
  rw [← he] at hn ⊢
  have HE := Lib.hid he
  have HN := Lib.hid hn
  have HI := Lib.hid (And.intro hi (And.intro hf (And.intro hn1 (And.intro hrl (And.intro hvl hml)))))
  have HC := Lib.hid (And.intro c0 (And.intro i0 (And.intro i1 (And.intro i2 i3))))
  have h8n : n < 8 := by omega
  have hatn : n < (s.code t).length := by omega
  clear hst h hth ok hi hn he hkk hm hfu hcode hc c1 hcc hic hcd hln hrl hvl hml hf hn1 o6 c0 i0 i1 i2 i3
  try clear hat
  generalize (s.code t).length = ln at *
  go_enter Try.func64, Try.ntmps64
  go_wp2_with fail
  refine (refNext_any HB.out HTH.out OK.out t).mono ?_
  rw [HN.out, evR_some]
  rintro r9 w1 ⟨rfl, hb3⟩
  have hz : w.heap.size < w1.heap.size := by have := hb3.size; simp at this; omega
  have RX1 : Hid (EvBox0 w1 w.heap.size) := (hb3.block _ (by simp)).trans (heap_alloc_new w _)
  have H1 := Lib.hid ((HB.out.later hb3).later (below_alloc1 w1 (.cells #[.int .i64 e.thread, .int .i64 e.kind, .int .i64 e.obj, .bool e.fail] 128)))
  have T1 := Lib.hid ((HTH.out.later hb3).later (below_alloc1 w1 (.cells #[.int .i64 e.thread, .int .i64 e.kind, .int .i64 e.obj, .bool e.fail] 128)))
  have B1 : Hid (Below w.heap.size w w1) := (below_alloc1 w _).trans (hb3.mono (by simp))
  clear hb3 p1 HB HTH
  go_wp2_with fail
  refine (refEnabled_any H1.out T1.out OK.out t).mono ?_
  rw [HM.out]
  rintro r9 w2 ⟨rfl, hb4⟩
  have EX2 : Hid (w2.heap[w1.heap.size]? = some (.cells #[.int .i64 e.thread, .int .i64 e.kind, .int .i64 e.obj, .bool e.fail] 128 (0, 0))) := (hb4.block _ (by simp)).trans (heap_alloc_new w1 _)
  have B2 : Hid (Below w1.heap.size w1 w2) := (below_alloc1 w1 _).trans (hb4.mono (by simp))
  have RX2 : Hid (EvBox0 w2 w.heap.size) := (B2.out.block _ hz).trans RX1.out
  have H2 := Lib.hid (H1.out.later hb4)
  have W2 : Hid (Below w.heap.size w w2) := B1.out.trans (B2.out.mono (by omega))
  have hz2 : w1.heap.size < w2.heap.size := (Array.getElem?_eq_some_iff.1 EX2.out).1
  have hz3 : w.heap.size < w2.heap.size := by omega
  obtain ⟨p0, p1⟩ := H2.out.prog
  have ca := H2.out.at_ t ht
  rw [HI.out.2.2.1] at ca
  have d0 := cell_later W2.out HC.out.1
  have d1 := cell_later W2.out HC.out.2.1
  have d2 := cell_later W2.out HC.out.2.2.1
  have d3 := cell_later W2.out HC.out.2.2.2.1
  have d4 := cell_later W2.out HC.out.2.2.2.2
  have z0 := cell_block d0
  have z1 := cell_block d1
  dsimp only at z0 z1
  have ltb : tb < w2.heap.size := by omega
  have lb : b < w2.heap.size := by omega
  clear hb4 H1 T1 B1 B2 RX1 HC
  go_wp2
  go_region
  generalize hW : (w2.alloc (.cells #[.int .i64 7, .int .i64 r, .int .i64 x, .int .i64 m] 94)).drew = W at *
  have hbW : Below w2.heap.size w2 W := by rw [← hW]; exact ((Below.refl _ _).alloc (Nat.le_refl _) _).drew
  have IX : W.heap[w2.heap.size]? = some (.cells #[.int .i64 7, .int .i64 r, .int .i64 x, .int .i64 m] 94 (0, 0)) := by rw [← hW]; exact heap_alloc_new w2 _
  have HW := Lib.hid (H2.out.later hbW)
  have EX := Lib.hid ((hbW.block _ hz2).trans EX2.out)
  have RX : Hid (EvBox0 W w.heap.size) := (hbW.block _ hz3).trans RX2.out
  have OW : Hid (Only2 b tb w W) := .of_below (W2.out.trans (hbW.mono W2.out.size))
  have cf := HW.out.fuel t ht
  rw [HI.out.2.1, Int.natCast_add] at cf
  have ca2 := HW.out.at_ t ht
  rw [HI.out.2.2.1] at ca2
  have ff := fun o => (HW.out.frozen o).2
  have j0 := (ins_cells IX).1
  have IXH := Lib.hid IX
  have nb : b ≠ tb := HW.out.2.1
  generalize hI : w2.heap.size = I at *
  generalize hE : w1.heap.size = E at *
  generalize hR : w.heap.size = R at *
  have n1 : ¬ tb = I := by omega
  have n2 : ¬ I = tb := by omega
  have n3 : ¬ tb = E := by omega
  have n4 : ¬ E = tb := by omega
  have n5 : ¬ tb = R := by omega
  have n6 : ¬ R = tb := by omega
  have n7 : ¬ b = I := by omega
  have n8 : ¬ I = b := by omega
  have n9 : ¬ b = E := by omega
  have n10 : ¬ E = b := by omega
  have n11 : ¬ b = R := by omega
  have n12 : ¬ R = b := by omega
  have n13 : ¬ tb = b := fun h => nb h.symm
  have n14 : ¬ b = tb := nb
  have n15 : ¬ R = E := by omega
  have n16 : ¬ E = R := by omega
  clear hW hbW H2 EX2 RX2 W2 d0 d1 d2 d3 d4 ca p0 p1 IX
  go_wp2
  generalize hV : (W.setCell ⟨tb, t * 4 + 1, none⟩ (.int .i64 f)).setCell ⟨tb, t * 4, none⟩ (.int .i64 (n + 1)) = V at *
  have hoth : ∀ k, k ≠ tb → V.heap[k]? = W.heap[k]? := fun k hk => by rw [← hV, Below.heap_setCell _ _ _ _ hk, Below.heap_setCell _ _ _ _ hk]
  have HG : Hid (RefAt V b tb (some ⟨ab, ao, none⟩) cap tcap (s.go t)) := by rw [← hV]; exact HW.out.go t f n ht HI.out.2.1 HI.out.2.2.1
  have OV : Hid (Only2 b tb w V) := by rw [← hV]; exact (OW.out.setCell (.inr (.inl rfl)) _ _).setCell (.inr (.inl rfl)) _ _
  obtain ⟨j0v, j1v, j2v, j3v⟩ := ins_cells ((hoth I (fun e => n2 e)).trans IXH.out)
  obtain ⟨x0, x1, x2, x3⟩ := ev_cells ((hoth E (fun e => n4 e)).trans EX.out)
  obtain ⟨e0, e1, e2, e3, ef⟩ := EvBox0.cells ((hoth R (fun e => n6 e)).trans RX.out)
  have f0 := ef 0
  have f1 := ef 1
  have f2 := ef 2
  have f3 := ef 3
  have htg : t < (s.go t).ts.length := by rw [St.go, St.put_len]; exact ht
  clear hV hoth j0 cf ca2 ff ef IXH EX RX HW OW
  have hek : e.kind = 1 := by rw [HE.out]; rfl
  have q4 : (e.kind == 4) = false := by simp [hek]
  have q5 : (e.kind == 5) = false := by simp [hek]
  clear hek
  have gl := go_jump s t r x m ht
  rw [St.go_th s t ht, if_pos (show (s.th t).r.getD r 0 = 0 from hw)] at gl
  have cr := HG.out.reg t htg r hr2
  have q7 : (((s.go t).th t).r.getD r 0 != 0) = false := by rw [St.go_th s t ht]; simpa using hw
  generalize ((s.go t).th t).r.getD r 0 = vv at *
  have GL := Lib.hid gl
  clear gl hw
  go_quiet (fail)
  go_wp2
  refine bodyPost_ret (v := .tuple #[.agg #[.int .i64 e.thread, .int .i64 e.kind, .int .i64 e.obj, .bool e.fail], .int .i64 0]) (by simp [results, Try.results64, go_sem, e0, e1, e2, e3]) rfl ⟨rfl, ?_, ?_⟩
  · obtain ⟨hi, hf, hn1, hrl, hvl, hml⟩ := HI.out
    have hg := HG.out
    have h2 := hg.drewN nq
    rw [GL.out] at h2
    exact h2.other4 (by omega) (by omega) _ _ _ _
  · exact (OV.out.drewN).set4 (Nat.le_of_eq hR) _ _ _ _
end
end Go.Proofs.Ytkphdmfcmfojeaa

/- The contract of the document's Step: an assertion. -/
namespace Go.Proofs.Ytkphdmfcmfojeaa
open Go.RowKit
section
variable {F : Nat} {w : World} {b tb : Nat} {a : Option Addr} {cap tcap : Nat} {s : St}

set_option maxRecDepth 100000 in
set_option maxHeartbeats 8000000 in
theorem refStep_8 (h : RefAt w b tb a cap tcap s) (hth : ThreadsAt w a s.p.threads) (ok : s.Ok F) (t : Nat) (i : Ins) (hi : s.ins t = some i) (hm : s.may t = true) (hk1 : i.kind = 8) : Calls Try.prog 64 #[.pointer (some ⟨b, 0, none⟩), .int .i64 t] w fun e w' => e = .returned (stepV (s.step t)) ∧ RefAt w' b tb a cap tcap (s.step t).2.2 ∧ Only2 b tb w w' := by
  obtain ⟨k, hkk, ht⟩ := St.ins_nat hi
  obtain rfl : t = k := by omega
  have hst : s.step t = (0, s.ev t i, s.do_ t i) := by
    unfold St.step
    rw [if_pos (by unfold St.has; omega), hi]
    simp only [hm]
    rfl
  have hn : s.next t = some (s.ev t i) := by unfold St.next; rw [hi]; rfl
  rw [hst, stepV_ok]
  dsimp only
  obtain ⟨o1, o2, o3, o4, o5, o6⟩ := ok.obj hi
  have hx0 : 0 ≤ i.x := by
    have := (ok.ins_right hi).1
    unfold rightIns at this
    repeat' split at this
    all_goals first | (simp only [decide_eq_true_eq] at this; omega) | (cases this)
  obtain ⟨_, hfu, hcode⟩ := St.ins_has hi
  simp only [Int.toNat_natCast] at hfu hcode
  have h4 := ok.len4
  have hln := ok.len
  have hrl : (s.th t).r.length = 2 := (ok.thr _ (St.th_mem ht)).1
  have hvl := ok.vl
  have hml := ok.ml
  obtain ⟨f, hf⟩ : ∃ f, (s.th t).fuel = f + 1 := ⟨(s.th t).fuel - 1, by omega⟩
  have hf8 : f ≤ 1000 := by have := (ok.thr _ (St.th_mem ht)).2.2; have := ok.f8; omega
  have h8 := ok.code8 t ht
  obtain ⟨hat, hic⟩ := List.getElem?_eq_some_iff.1 hcode
  obtain ⟨n, hn1⟩ : ∃ n, (s.th t).at_ = n := ⟨_, rfl⟩
  have hkp : t < s.p.threads.length := by omega
  have hcd : s.code t = s.p.threads[t] := getD_lt _ hkp
  obtain ⟨ab, ao, rfl, hc⟩ := hth.2 (by intro e; simp [e] at hkp)
  obtain ⟨c, ccap, c0, c1, _⟩ := hc t hkp
  rw [← hcd] at c0 c1
  obtain ⟨cb, co, rfl, hcc⟩ := c1.2 (by intro e; simp [e] at hat)
  obtain ⟨i0, i1, i2, i3⟩ := hcc _ hat
  rw [hic] at i0 i1 i2 i3
  rw [hn1] at i0 i1 i2 i3 hat
  have p1 := h.prog.2
  have q0 : decide ((t : Int) < 0) = false := by simp
  have q1 : decide ((s.ts.length : Int) ≤ t) = false := by simp; omega
  have q2 : decide (s.ts.length ≤ t) = false := by simp; omega
  obtain ⟨hb1, hb2⟩ := h.lt
  have HB := Lib.hid (h.later (below_alloc1 w (.cells #[.int .i64 0, .int .i64 0, .int .i64 0, .bool false] 128)))
  have HTH := Lib.hid (hth.later (below_alloc1 w (.cells #[.int .i64 0, .int .i64 0, .int .i64 0, .bool false] 128)))
  have OK := Lib.hid ok
  have HM := Lib.hid hm
  obtain ⟨kd, r, x, m⟩ := i
  dsimp only at *
  obtain ⟨r, rfl⟩ : ∃ y : Nat, r = y := ⟨r.toNat, by omega⟩
  obtain ⟨x, rfl⟩ : ∃ y : Nat, x = y := ⟨x.toNat, by omega⟩
  subst hk1
  clear o1 o2 o3
  obtain ⟨e, he⟩ : ∃ e, e = s.ev t ⟨8, r, x, m⟩ := ⟨_, rfl⟩
  rw [← he] at hn ⊢
  have HE := Lib.hid he
  have HN := Lib.hid hn
  have HI := Lib.hid (And.intro hi (And.intro hf (And.intro hn1 (And.intro hrl (And.intro hvl hml)))))
  have HC := Lib.hid (And.intro c0 (And.intro i0 (And.intro i1 (And.intro i2 i3))))
  have h8n : n < 8 := by omega
  have hatn : n < (s.code t).length := by omega
  clear hst h hth ok hi hn he hkk hm hfu hcode hc c1 hcc hic hcd hln hrl hvl hml hf hn1 o6 c0 i0 i1 i2 i3
  try clear hat
  generalize (s.code t).length = ln at *
  go_enter Try.func64, Try.ntmps64
  go_wp2_with fail
  refine (refNext_any HB.out HTH.out OK.out t).mono ?_
  rw [HN.out, evR_some]
  rintro r9 w1 ⟨rfl, hb3⟩
  have hz : w.heap.size < w1.heap.size := by have := hb3.size; simp at this; omega
  have RX1 : Hid (EvBox0 w1 w.heap.size) := (hb3.block _ (by simp)).trans (heap_alloc_new w _)
  have H1 := Lib.hid ((HB.out.later hb3).later (below_alloc1 w1 (.cells #[.int .i64 e.thread, .int .i64 e.kind, .int .i64 e.obj, .bool e.fail] 128)))
  have T1 := Lib.hid ((HTH.out.later hb3).later (below_alloc1 w1 (.cells #[.int .i64 e.thread, .int .i64 e.kind, .int .i64 e.obj, .bool e.fail] 128)))
  have B1 : Hid (Below w.heap.size w w1) := (below_alloc1 w _).trans (hb3.mono (by simp))
  clear hb3 p1 HB HTH
  go_wp2_with fail
  refine (refEnabled_any H1.out T1.out OK.out t).mono ?_
  rw [HM.out]
  rintro r9 w2 ⟨rfl, hb4⟩
  have EX2 : Hid (w2.heap[w1.heap.size]? = some (.cells #[.int .i64 e.thread, .int .i64 e.kind, .int .i64 e.obj, .bool e.fail] 128 (0, 0))) := (hb4.block _ (by simp)).trans (heap_alloc_new w1 _)
  have B2 : Hid (Below w1.heap.size w1 w2) := (below_alloc1 w1 _).trans (hb4.mono (by simp))
  have RX2 : Hid (EvBox0 w2 w.heap.size) := (B2.out.block _ hz).trans RX1.out
  have H2 := Lib.hid (H1.out.later hb4)
  have W2 : Hid (Below w.heap.size w w2) := B1.out.trans (B2.out.mono (by omega))
  have hz2 : w1.heap.size < w2.heap.size := (Array.getElem?_eq_some_iff.1 EX2.out).1
  have hz3 : w.heap.size < w2.heap.size := by omega
  obtain ⟨p0, p1⟩ := H2.out.prog
  have ca := H2.out.at_ t ht
  rw [HI.out.2.2.1] at ca
  have d0 := cell_later W2.out HC.out.1
  have d1 := cell_later W2.out HC.out.2.1
  have d2 := cell_later W2.out HC.out.2.2.1
  have d3 := cell_later W2.out HC.out.2.2.2.1
  have d4 := cell_later W2.out HC.out.2.2.2.2
  have z0 := cell_block d0
  have z1 := cell_block d1
  dsimp only at z0 z1
  have ltb : tb < w2.heap.size := by omega
  have lb : b < w2.heap.size := by omega
  clear hb4 H1 T1 B1 B2 RX1 HC
  go_wp2
  go_region
  generalize hW : (w2.alloc (.cells #[.int .i64 8, .int .i64 r, .int .i64 x, .int .i64 m] 94)).drew = W at *
  have hbW : Below w2.heap.size w2 W := by rw [← hW]; exact ((Below.refl _ _).alloc (Nat.le_refl _) _).drew
  have IX : W.heap[w2.heap.size]? = some (.cells #[.int .i64 8, .int .i64 r, .int .i64 x, .int .i64 m] 94 (0, 0)) := by rw [← hW]; exact heap_alloc_new w2 _
  have HW := Lib.hid (H2.out.later hbW)
  have EX := Lib.hid ((hbW.block _ hz2).trans EX2.out)
  have RX : Hid (EvBox0 W w.heap.size) := (hbW.block _ hz3).trans RX2.out
  have OW : Hid (Only2 b tb w W) := .of_below (W2.out.trans (hbW.mono W2.out.size))
  have cf := HW.out.fuel t ht
  rw [HI.out.2.1, Int.natCast_add] at cf
  have ca2 := HW.out.at_ t ht
  rw [HI.out.2.2.1] at ca2
  have ff := fun o => (HW.out.frozen o).2
  have j0 := (ins_cells IX).1
  have IXH := Lib.hid IX
  have nb : b ≠ tb := HW.out.2.1
  generalize hI : w2.heap.size = I at *
  generalize hE : w1.heap.size = E at *
  generalize hR : w.heap.size = R at *
  have n1 : ¬ tb = I := by omega
  have n2 : ¬ I = tb := by omega
  have n3 : ¬ tb = E := by omega
  have n4 : ¬ E = tb := by omega
  have n5 : ¬ tb = R := by omega
  have n6 : ¬ R = tb := by omega
  have n7 : ¬ b = I := by omega
  have n8 : ¬ I = b := by omega
  have n9 : ¬ b = E := by omega
  have n10 : ¬ E = b := by omega
  have n11 : ¬ b = R := by omega
  have n12 : ¬ R = b := by omega
  have n13 : ¬ tb = b := fun h => nb h.symm
  have n14 : ¬ b = tb := nb
  have n15 : ¬ R = E := by omega
  have n16 : ¬ E = R := by omega
  clear hW hbW H2 EX2 RX2 W2 d0 d1 d2 d3 d4 ca p0 p1 IX
  go_wp2
  generalize hV : (W.setCell ⟨tb, t * 4 + 1, none⟩ (.int .i64 f)).setCell ⟨tb, t * 4, none⟩ (.int .i64 (n + 1)) = V at *
  have hoth : ∀ k, k ≠ tb → V.heap[k]? = W.heap[k]? := fun k hk => by rw [← hV, Below.heap_setCell _ _ _ _ hk, Below.heap_setCell _ _ _ _ hk]
  have HG : Hid (RefAt V b tb (some ⟨ab, ao, none⟩) cap tcap (s.go t)) := by rw [← hV]; exact HW.out.go t f n ht HI.out.2.1 HI.out.2.2.1
  have OV : Hid (Only2 b tb w V) := by rw [← hV]; exact (OW.out.setCell (.inr (.inl rfl)) _ _).setCell (.inr (.inl rfl)) _ _
  obtain ⟨j0v, j1v, j2v, j3v⟩ := ins_cells ((hoth I (fun e => n2 e)).trans IXH.out)
  obtain ⟨x0, x1, x2, x3⟩ := ev_cells ((hoth E (fun e => n4 e)).trans EX.out)
  obtain ⟨e0, e1, e2, e3, ef⟩ := EvBox0.cells ((hoth R (fun e => n6 e)).trans RX.out)
  have f0 := ef 0
  have f1 := ef 1
  have f2 := ef 2
  have f3 := ef 3
  have htg : t < (s.go t).ts.length := by rw [St.go, St.put_len]; exact ht
  clear hV hoth j0 cf ca2 ff ef IXH EX RX HW OW
  have hek : e.kind = 1 := by rw [HE.out]; rfl
  have q4 : (e.kind == 4) = false := by simp [hek]
  have q5 : (e.kind == 5) = false := by simp [hek]
  clear hek
  have GL := Lib.hid (go_assert s t r x m ht)
  go_quiet (fail)
  go_wp2
  refine bodyPost_ret (v := .tuple #[.agg #[.int .i64 e.thread, .int .i64 e.kind, .int .i64 e.obj, .bool e.fail], .int .i64 0]) (by simp [results, Try.results64, go_sem, e0, e1, e2, e3]) rfl ⟨rfl, ?_, ?_⟩
  · obtain ⟨hi, hf, hn1, hrl, hvl, hml⟩ := HI.out
    have hg := HG.out
    have h2 := hg.drewN nq
    rw [GL.out] at h2
    exact h2.other4 (by omega) (by omega) _ _ _ _
  · exact (OV.out.drewN).set4 (Nat.le_of_eq hR) _ _ _ _
end
end Go.Proofs.Ytkphdmfcmfojeaa

/- The contract of the document's Step. -/
namespace Go.Proofs.Ytkphdmfcmfojeaa
open Go.RowKit

theorem refStep_any {F : Nat} {w : World} {b tb : Nat} {a : Option Addr} {cap tcap : Nat} {s : St} (h : RefAt w b tb a cap tcap s) (hth : ThreadsAt w a s.p.threads) (ok : s.Ok F) (t : Int) :
    Calls Try.prog 64 #[.pointer (some ⟨b, 0, none⟩), .int .i64 t] w fun e w' => e = .returned (stepV (s.step t)) ∧ RefAt w' b tb a cap tcap (s.step t).2.2 ∧ Only2 b tb w w' := by
  cases hb : belowB t s.ts.length
  · exact refStep_range h t hb
  · have hb' : 0 ≤ t ∧ t < s.ts.length := by simpa [belowB] using hb
    cases hi : s.ins t with
    | none =>
      obtain ⟨k, rfl⟩ : ∃ k : Nat, t = k := ⟨t.toNat, by omega⟩
      exact refStep_none h hth ok k (by omega) hi
    | some i =>
      obtain ⟨k, rfl, _⟩ := St.ins_nat hi
      cases hm : s.may k
      · exact refStep_state h hth ok k i hi hm
      · have hk : i.kind = 1 ∨ i.kind = 2 ∨ i.kind = 3 ∨ i.kind = 4 ∨ i.kind = 5 ∨ i.kind = 6 ∨ i.kind = 7 ∨ i.kind = 8 := by
          have := (ok.ins_right hi).1
          unfold rightIns at this
          repeat' split at this
          all_goals first | omega | (cases this)
        rcases hk with h1 | h1 | h1 | h1 | h1 | h1 | h1 | h1
        · exact refStep_1 h hth ok k i hi hm h1
        · exact refStep_2 h hth ok k i hi hm h1
        · exact refStep_3 h hth ok k i hi hm h1
        · exact refStep_4 h hth ok k i hi hm h1
        · exact refStep_5 h hth ok k i hi hm h1
        · by_cases hw : s.who i.x = k
          · exact refStep_6 h hth ok k i hi hm h1 hw
          · exact refStep_6b h hth ok k i hi hm h1 hw
        · by_cases hw : (s.th k).r.getD i.r.toNat 0 = 0
          · exact refStep_7z h hth ok k i hi hm h1 hw
          · exact refStep_7 h hth ok k i hi hm h1 hw
        · exact refStep_8 h hth ok k i hi hm h1

end Go.Proofs.Ytkphdmfcmfojeaa

/- The contract of the document's Instr. -/
namespace Go.Proofs.Ytkphdmfcmfojeaa
open Go.RowKit

def withinB (n lo hi : Int) : Bool := decide (lo ≤ n ∧ n ≤ hi)
theorem within_any (n lo hi : Int) (w : World) : Calls Try.prog 77 #[.int .i64 n, .int .i64 lo, .int .i64 hi] w fun r w' => r = .returned (.bool (withinB n lo hi)) ∧ w = w' := by
  go_enter Try.func77, Try.ntmps77
  go_wp2
  all_goals
    go_ret
    refine ⟨ret_bool ?_, rfl⟩
    simp [withinB]
    try omega

set_option maxRecDepth 100000 in
set_option maxHeartbeats 1000000 in
theorem refInstr_any (V M size : Int) (_hs : 0 ≤ size) (_hs2 : size ≤ 1000) (hV : 0 ≤ V) (hV2 : V ≤ 4) (hM : 0 ≤ M) (hM2 : M ≤ 2) (t : Value) (i : Ins) (w : World) :
    Calls Try.prog 78 #[.agg #[.int .i64 V, .int .i64 M, t], .int .i64 size, insV i] w fun r w' => r = .returned (.bool (rightIns V M size i)) ∧ Below w.heap.size w w' := by
  obtain ⟨k, ri, x, n⟩ := i
  unfold insV
  dsimp only
  go_enter Try.func78, Try.ntmps78
  go_wp2_with (go_at_call 77; refine (within_any _ _ _ _).mono ?_; rintro r w' ⟨rfl, rfl⟩)
  all_goals
    go_ret
    refine ⟨ret_bool ?_, below_alloc2 _ _ _⟩
    simp [withinB] at *
    rw [Bool.eq_iff_iff]
    simp [rightIns, *]
    try (first | omega | (split <;> omega))
end Go.Proofs.Ytkphdmfcmfojeaa

/- The contract of the document's Right. -/
namespace Go.Proofs.Ytkphdmfcmfojeaa
open Go.RowKit

set_option maxRecDepth 100000 in
set_option maxHeartbeats 1000000 in
theorem refRight_any (p : Pg) (a : Option Addr) (cap : Nat) (w : World) (hp : ThreadsAt w a p.threads) :
    Calls Try.prog 49 #[pgV p a cap] w fun r w' => r = .returned (.bool (rightPg p)) ∧ Below w.heap.size w w' := by
  obtain ⟨V, M, ts⟩ := p
  unfold pgV
  dsimp only at *
  have hm := hp.1
  unfold maxLen at hm
  have HL := Lib.hid hp
  clear hp
  cases hV : withinB V 0 4
  · have H : Hid (rightPg ⟨V, M, ts⟩ = false) := by
      show _ = _
      simp [withinB] at hV
      simp [rightPg]; omega
    go_enter Try.func49, Try.ntmps49
    go_wp2_with (go_at_call 77; refine (within_any _ _ _ _).mono ?_; rintro r w' ⟨rfl, rfl⟩)
    go_ret
    exact ⟨ret_bool H.out.symm, below_alloc1 _ _⟩
  cases hM : withinB M 0 2
  · have H : Hid (rightPg ⟨V, M, ts⟩ = false) := by
      show _ = _
      simp [withinB] at hM
      simp [rightPg]; omega
    go_enter Try.func49, Try.ntmps49
    go_wp2_with (go_at_call 77; refine (within_any _ _ _ _).mono ?_; rintro r w' ⟨rfl, rfl⟩)
    go_ret
    exact ⟨ret_bool H.out.symm, below_alloc1 _ _⟩
  cases hT : withinB ts.length 1 4
  · have H : Hid (rightPg ⟨V, M, ts⟩ = false) := by
      show _ = _
      simp [withinB] at hT
      simp [rightPg]; omega
    go_enter Try.func49, Try.ntmps49
    go_wp2_with (go_at_call 77; refine (within_any _ _ _ _).mono ?_; rintro r w' ⟨rfl, rfl⟩)
    go_ret
    exact ⟨ret_bool H.out.symm, below_alloc1 _ _⟩
  have bV : 0 ≤ V ∧ V ≤ 4 := by simpa [withinB] using hV
  have bM : 0 ≤ M ∧ M ≤ 2 := by simpa [withinB] using hM
  have bT : 1 ≤ ts.length ∧ ts.length ≤ 4 := by simp [withinB] at hT; omega
  have H : Hid (rightPg ⟨V, M, ts⟩ = ts.all (rightCode V M)) := by
    show _ = _
    have : decide (0 ≤ V ∧ V ≤ 4 ∧ 0 ≤ M ∧ M ≤ 2 ∧ 1 ≤ ts.length ∧ ts.length ≤ 4) = true := by simp; omega
    unfold rightPg
    dsimp only
    rw [this, Bool.true_and]
  obtain ⟨bV1, bV2⟩ := bV
  obtain ⟨bM1, bM2⟩ := bM
  obtain ⟨bT1, bT2⟩ := bT
  go_enter Try.func49, Try.ntmps49
  go_wp2_with (go_at_call 77; refine (within_any _ _ _ _).mono ?_; rintro r w' ⟨rfl, rfl⟩)
  go_loopw [3] (fun i wr => ∃ k : Nat, k ≤ ts.length ∧ i = .int .i64 k ∧ Hid ((ts.take k).all (rightCode V M) = true) ∧ Below (w.heap.size + 1) (w.alloc (.cells #[.int .i64 V, .int .i64 M, .slice a ts.length cap] 24)) wr) (fun i _ => ts.length - (intOf i).toNat)
  case atStart => exact ⟨0, Nat.zero_le _, rfl, rfl, Below.refl _ _⟩
  case round =>
    obtain ⟨k, hk, rfl, hall, hb⟩ := hrel
    have p2 : wr.cell? ⟨w.heap.size, 2, none⟩ = some (.slice a ts.length cap) := by rw [hb.cell (p := ⟨w.heap.size, 2, none⟩) (by simp)]; simp
    have hbw : Below w.heap.size w wr := ((Below.refl _ _).alloc (Nat.le_refl _) _).trans (hb.mono (by omega))
    by_cases hlt : k < ts.length
    · obtain ⟨b, o, rfl, hc⟩ := HL.out.2 (by intro e; simp [e] at hlt)
      obtain ⟨c, ccap, c0, c1, _⟩ := hc k hlt
      have d0 := cell_later hbw c0
      have D1 := Lib.hid (c1.later hbw)
      have hcm := c1.1
      unfold maxLen at hcm
      clear c0 c1 hc
      have ht : (ts.take (k + 1)) = ts.take k ++ [ts[k]] := List.take_succ_eq_append_getElem hlt
      have HT := Lib.hid ht
      clear ht
      by_cases h8 : 8 < ts[k].length
      · have HR : Hid (rightPg ⟨V, M, ts⟩ = false) := by
          show _ = _
          rw [H.out, List.all_eq_false]; exact ⟨ts[k], List.getElem_mem _, by simp [rightCode]; omega⟩
        go_wp2
        go_ret
        exact ⟨ret_bool HR.out.symm, hbw⟩
      · have HC : Hid (rightCode V M ts[k] = ts[k].all (rightIns V M ts[k].length)) := by
          show _ = _
          have : decide (ts[k].length ≤ 8) = true := by simp; omega
          unfold rightCode
          rw [this, Bool.true_and]
        go_wp2
        obtain ⟨wo, hwo⟩ : ∃ x, x = wr := ⟨_, rfl⟩
        subst hwo
        have q0 : wo.cell? ⟨w.heap.size, 0, none⟩ = some (.int .i64 V) := by rw [hb.cell (p := ⟨w.heap.size, 0, none⟩) (by simp)]; simp
        have q1 : wo.cell? ⟨w.heap.size, 1, none⟩ = some (.int .i64 M) := by rw [hb.cell (p := ⟨w.heap.size, 1, none⟩) (by simp)]; simp
        have hz : w.heap.size < wo.heap.size := by have := hb.size; simp at this; omega
        go_loopw [5] (fun i w2 => ∃ j : Nat, j ≤ ts[k].length ∧ i = .int .i64 j ∧ Hid ((ts[k].take j).all (rightIns V M ts[k].length) = true) ∧ Below wo.heap.size wo w2) (fun i _ => ts[k].length - (intOf i).toNat)
        case atStart => exact ⟨0, Nat.zero_le _, rfl, rfl, Below.refl _ _⟩
        case round =>
          obtain ⟨j, hj, rfl, hin, hb'⟩ := hrel
          have r0 := cell_later hb' q0
          have r1 := cell_later hb' q1
          have r2 := cell_later hb' p2
          by_cases hjl : j < ts[k].length
          · obtain ⟨b', o', rfl, hc⟩ := D1.out.2 (by intro e; simp [e] at hjl)
            obtain ⟨c0, c1, c2, c3⟩ := hc j hjl
            have d0 := cell_later hb' c0
            have d1 := cell_later hb' c1
            have d2 := cell_later hb' c2
            have d3 := cell_later hb' c3
            clear c0 c1 c2 c3 hc
            go_wp2
            go_still_tail 7, (by kernel_rfl)
            go_wp2_with fail
            refine (refInstr_any V M ts[k].length (by omega) (by omega) bV1 bV2 bM1 bM2 _ ts[k][j] _).mono ?_
            rintro r w1 ⟨rfl, hb1⟩
            have hb2 : Below wo.heap.size wo w1 := hb'.drew.trans (hb1.mono hb'.size)
            have hb3 : Below w.heap.size w w1 := hbw.trans (hb2.mono (by omega))
            have htj : (ts[k].take (j + 1)) = ts[k].take j ++ [ts[k][j]] := List.take_succ_eq_append_getElem hjl
            cases hr : rightIns V M ts[k].length ts[k][j]
            · have HR : Hid (rightPg ⟨V, M, ts⟩ = false) := by
                show _ = _
                rw [H.out, List.all_eq_false]; refine ⟨ts[k], List.getElem_mem _, ?_⟩
                rw [HC.out, Bool.not_eq_true, List.all_eq_false]
                exact ⟨ts[k][j], List.getElem_mem _, by simp [hr]⟩
              clear hr htj
              go_wp2
              go_ret
              exact ⟨ret_bool HR.out.symm, hb3⟩
            · have HR : Hid ((ts[k].take (j + 1)).all (rightIns V M ts[k].length) = true) := by
                show _ = _
                rw [htj, List.all_append, hin.out]; simp [hr]
              clear hr htj
              go_wp2
              go_roundw
              case rel => exact ⟨j + 1, by omega, by go_num, HR, hb2⟩
              case measure => simp [intOf]; omega
          · obtain rfl : j = ts[k].length := by omega
            have HR : Hid ((ts.take (k + 1)).all (rightCode V M) = true) := by
              show _ = _
              rw [HT.out, List.all_append, hall.out]
              have := hin.out
              rw [List.take_length] at this
              simp [HC.out, this]
            have hb4 : Below (w.heap.size + 1) (w.alloc (.cells #[.int .i64 V, .int .i64 M, .slice (some ⟨b, o, none⟩) ts.length cap] 24)) wr := hb.trans (hb'.mono (by omega))
            go_wp2
            go_roundw
            case rel => exact ⟨k + 1, by omega, by go_num, HR, hb4⟩
            case measure => simp [intOf]; omega
    · obtain rfl : k = ts.length := by omega
      have HR : Hid (rightPg ⟨V, M, ts⟩ = true) := by
        show _ = _
        rw [H.out, ← hall.out, List.take_length]
      go_wp2
      go_ret
      exact ⟨ret_bool HR.out.symm, hbw⟩
end Go.Proofs.Ytkphdmfcmfojeaa

/- The contract of the document's New. -/
namespace Go.Proofs.Ytkphdmfcmfojeaa
open Go.RowKit

def thrs (F k : Nat) : List Thr := List.replicate k ⟨0, F, [0, 0]⟩
theorem thrs_len (F k : Nat) : (thrs F k).length = k := by simp [thrs]
theorem thrs_succ (F k : Nat) : thrs F (k + 1) = thrs F k ++ [⟨0, F, [0, 0]⟩] := by simp [thrs, List.replicate_succ']

def boxA (p : Pg) (a : Option Addr) (cap : Nat) (tv : Value) : Array Value :=
  #[.int .i64 p.vars, .int .i64 p.mutexes, .slice a p.threads.length cap, tv, .int .i64 0, .int .i64 0, .int .i64 0, .int .i64 0, .int .i64 (-1), .int .i64 (-1)]

theorem wp_appendThr {w : World} {ops : Array Oper} {rest : List Oper} {o : Oper} {a : Act} {Q : Exit → Act → World → Prop} (hgd : o.guard = none) (s x : Operand)
    (ho : o.op = .call { callee := .builtin .append, args := #[s, x], argTypes := #[104, 104] }) (B : Nat) (v : Value) (l : List Thr) (hs : a.eval s = v) (hown : w.ownsRow B 110 4 v l.length (thrCells l))
    (ad : Addr) (hx : a.eval x = .slice (some ad) 1 1) (y : Thr) (hnews : ∀ j u, (thrCells [y])[j]? = some u → w.cell? (ad.add j) = some u)
    (hlen : l.length ≤ 1000000) (hB : B ≤ w.heap.size)
    (h : ∀ v' w', w'.ownsRow B 110 4 v' (l.length + 1) (thrCells (l ++ [y])) → w.grownBy w' v.ownBlock → wpList Try.prog ops Q rest (a.put o.dst v') w') : wpList Try.prog ops Q (o :: rest) a w := by
  have hinfo : (Try.prog.info? 110).map (fun i => (i.zero, i.size, i.bytes)) = some (some (.agg #[.int .i64 0, .int .i64 0, .int .i64 0, .int .i64 0]), 4, 32) := by kernel_rfl
  obtain ⟨t, hi, hzz⟩ := Option.map_eq_some_iff.1 hinfo
  simp only [Prod.mk.injEq] at hzz
  obtain ⟨hz, hsz, hby⟩ := hzz
  refine wpList_append_own w hgd s x 104 ho B 110 t (.agg #[.int .i64 0, .int .i64 0, .int .i64 0, .int .i64 0]) 4 32 Try.underlying104 hi hz hsz hby rfl (by decide) v l.length (thrCells l) hs hown ad 1 1 (thrCells [y]) hx rfl hnews
    (thrCells_one _) (by unfold maxLen; omega) (by omega) hB ?_
  intro v' w' h1 h2 _
  refine h v' w' ?_ h2
  rw [thrCells_append]
  exact h1

theorem thr_new (w : World) (F : Nat) (t : TypeId) (g : Nat) (hg : g = w.heap.size) : ∀ j u, (thrCells [⟨0, F, [0, 0]⟩])[j]? = some u → (w.alloc (.cells #[.int .i64 0, .int .i64 F, .int .i64 0, .int .i64 0] t)).cell? (Addr.add ⟨g, 0, none⟩ j) = some u := by
  subst hg
  intro j u hj
  have e : Addr.add ⟨w.heap.size, 0, none⟩ j = ⟨w.heap.size, j, none⟩ := by
    unfold Addr.add
    split
    · rename_i h0; subst h0; rfl
    · simp
  rw [e, World.cell?_alloc_new]
  simpa [thrCells, thrCell] using hj

theorem refnew_mid {p : Pg} {a : Option Addr} {cap : Nat} {wr w7 : World} {b k : Nat} {tv v7 : Value} {o : Obj} {xs ys : List Value} (hbox : wr.heap[b]? = some (.cells (boxA p a cap tv) 107 (0, 0))) (hown : wr.ownsRow (b + 1) 110 4 tv k xs)
    (h7 : w7.ownsRow (b + 1) 110 4 v7 (k + 1) ys) (hg : (wr.alloc o).grownBy w7 tv.ownBlock) :
    ∃ g7 cap7, v7 = .slice (some ⟨g7, 0, none⟩) (k + 1) cap7 ∧ w7.cell? ⟨b, 3, none⟩ = some tv ∧ w7.frozen? ⟨b, 3, none⟩ = false ∧
      Hid ((w7.setCell ⟨b, 3, none⟩ (.slice (some ⟨g7, 0, none⟩) (k + 1) cap7)).heap[b]? = some (.cells (boxA p a cap (.slice (some ⟨g7, 0, none⟩) (k + 1) cap7)) 107 (0, 0))) ∧
      Hid ((w7.setCell ⟨b, 3, none⟩ (.slice (some ⟨g7, 0, none⟩) (k + 1) cap7)).ownsRow (b + 1) 110 4 (.slice (some ⟨g7, 0, none⟩) (k + 1) cap7) (k + 1) ys) ∧ Below b wr w7 := by
  have hlt : b < wr.heap.size := (Array.getElem?_eq_some_iff.1 hbox).1
  have own : ∀ j, tv.ownBlock = some j → b + 1 ≤ j := fun j hj => (World.ownsRow.lt hown j hj).1
  have hb7 : w7.heap[b]? = some (.cells (boxA p a cap tv) 107 (0, 0)) := by
    rw [hg.block b (by simp; omega) (fun e => by have := own _ e.symm; omega), Below.heap_alloc _ _ _ hlt]
    exact hbox
  obtain ⟨r1, ⟨_, r3⟩ | ⟨g, cap', cur, rfl, r4, r5, r6⟩⟩ := h7
  · exact absurd r3 (by omega)
  · refine ⟨g, cap', rfl, by simp [World.cell?, hb7, boxA], by simp [World.frozen?, hb7], ?_, ?_, ?_⟩
    · show _ = _
      rw [heap_setCell_same w7 b 3 _ _ _ hb7]
      rfl
    · exact ⟨r1, .inr ⟨g, cap', cur, rfl, r4, (Below.heap_setCell _ _ _ _ (by show g ≠ b; omega)).trans r5, r6⟩⟩
    · exact ((Below.refl _ _).alloc (by omega) o).grown hg (by simp; omega) (fun j hj => by have := own j hj; omega)

theorem new_eq (p : Pg) (F : Nat) : (St.new p F).ts = thrs F p.threads.length := by
  unfold St.new thrs
  simp [List.map_const']

set_option maxRecDepth 100000 in
set_option maxHeartbeats 4000000 in
theorem refNew_no (p : Pg) (a : Option Addr) (cap : Nat) (fuel : Int) (w : World) (hp : ThreadsAt w a p.threads) (hr : ¬ (rightPg p = true ∧ 0 ≤ fuel ∧ fuel ≤ 8)) :
    Calls Try.prog 14 #[.agg #[.int .i64 p.vars, .int .i64 p.mutexes, .slice a p.threads.length cap], .int .i64 fuel] w fun r w' => r = .returned (.pointer none) ∧ Below w.heap.size w w' := by
  have HP := Lib.hid hp
  have HR := Lib.hid hr
  clear hr hp
  go_enter Try.func14, Try.ntmps14
  go_wp2_with fail
  refine (refRight_any p a cap _ (HP.out.later (below_alloc1 w _))).mono ?_
  rintro r w1 ⟨rfl, hb⟩
  have hb1 : Below w.heap.size w w1 := (below_alloc1 w _).trans (hb.mono (by simp))
  clear hb
  cases hr : rightPg p
  · clear hr
    go_wp2
    go_ret
    exact ⟨rfl, hb1⟩
  · by_cases h0 : fuel < 0
    · have q0 : decide (fuel < 0) = true := by simpa using h0
      clear hr
      go_wp2
      go_ret
      exact ⟨rfl, hb1⟩
    · have q0 : decide (fuel < 0) = false := by simpa using h0
      have h8 : 8 < fuel := by
        rcases Decidable.em (fuel ≤ 8) with h | h
        · exact absurd ⟨hr, by omega, h⟩ HR.out
        · omega
      have q8 : decide (8 < fuel) = true := by simpa using h8
      clear hr
      go_wp2
      go_ret
      exact ⟨rfl, hb1⟩

set_option maxRecDepth 100000 in
set_option maxHeartbeats 4000000 in
theorem refNew_yes (p : Pg) (a : Option Addr) (cap F : Nat) (w : World) (hp : ThreadsAt w a p.threads) (hr : rightPg p = true) (hF : F ≤ 8) :
    Calls Try.prog 14 #[.agg #[.int .i64 p.vars, .int .i64 p.mutexes, .slice a p.threads.length cap], .int .i64 F] w
      fun r w' => ∃ b tb tcap, r = .returned (.pointer (some ⟨b, 0, none⟩)) ∧ w.heap.size ≤ b ∧ w.heap.size ≤ tb ∧ RefAt w' b tb a cap tcap (St.new p F) ∧ Below w.heap.size w w' := by
  have hn : 1 ≤ p.threads.length ∧ p.threads.length ≤ 4 := by
    unfold rightPg at hr
    rw [Bool.and_eq_true, decide_eq_true_eq] at hr
    omega
  obtain ⟨hn1, hn4⟩ := hn
  have HR := Lib.hid hr
  have HP := Lib.hid hp
  have q0 : decide ((F : Int) < 0) = false := by simp
  have q8 : decide (8 < (F : Int)) = false := by simp; omega
  clear hr hp
  go_enter Try.func14, Try.ntmps14
  go_wp2_with fail
  refine (refRight_any p a cap _ (HP.out.later (below_alloc1 w _))).mono ?_
  rw [HR.out]
  rintro r w1 ⟨rfl, hb⟩
  have hb1 : Below w.heap.size w w1 := (below_alloc1 w _).trans (hb.mono (by simp))
  have hc : ∀ o, w1.cell? ⟨w.heap.size, o, none⟩ = (w.alloc (.cells #[.int .i64 p.vars, .int .i64 p.mutexes, .slice a p.threads.length cap] 24)).cell? ⟨w.heap.size, o, none⟩ := fun o => hb.cell (p := ⟨w.heap.size, o, none⟩) (by simp)
  have hz : w.heap.size < w1.heap.size := by have := hb.size; simp at this; omega
  have HPX : Hid (w1.heap[w.heap.size]? = some (.cells #[.int .i64 p.vars, .int .i64 p.mutexes, .slice a p.threads.length cap] 24 (0, 0))) := (hb.block _ (by simp)).trans (heap_alloc_new w _)
  clear hb
  go_wp2
  clear hc
  go_loopw [6] (fun i wr => ∃ (k : Nat) (tv : Value), k ≤ p.threads.length ∧ i = .int .i64 k ∧ wr.heap[w1.heap.size]? = some (.cells (boxA p a cap tv) 107 (0, 0)) ∧ wr.ownsRow (w1.heap.size + 1) 110 4 tv (thrs F k).length (thrCells (thrs F k)) ∧ Below w1.heap.size w1 wr) (fun i _ => p.threads.length - (intOf i).toNat)
  case atStart => exact ⟨0, .slice none 0 0, Nat.zero_le _, rfl, heap_alloc_new w1 _, World.ownsRow_nil _ _ _ _, below_alloc1 _ _⟩
  case round =>
    obtain ⟨k, tv, hk, rfl, hbox, hown, hbr⟩ := hrel
    have c2 : wr.cell? ⟨w.heap.size, 2, none⟩ = some (.slice a p.threads.length cap) := by
      have : wr.heap[w.heap.size]? = some (.cells #[.int .i64 p.vars, .int .i64 p.mutexes, .slice a p.threads.length cap] 24 (0, 0)) := (hbr.block _ hz).trans HPX.out
      simp [World.cell?, this]
    have c3 : wr.cell? ⟨w1.heap.size, 3, none⟩ = some tv := by simp [World.cell?, hbox, boxA]
    have hbl := (Array.getElem?_eq_some_iff.1 hbox).1
    have hlk := thrs_len F k
    have HBOX := Lib.hid hbox
    have HOWN := Lib.hid hown
    have HLK := Lib.hid hlk
    clear hbox hown hlk
    by_cases hlt : k < p.threads.length
    · go_wp2_with (at_builtin; refine wp_appendThr rfl (.tmp 33) (.tmp 36) rfl (w1.heap.size + 1) _ (thrs F k) rfl (World.ownsRow.alloc HOWN.out _) ⟨wr.heap.size, 0, none⟩ rfl ⟨0, F, [0, 0]⟩ (thr_new wr F _ _ rfl) (by rw [HLK.out]; omega) (by simp; omega) ?_; intro v7 w7 hown7 hg7; obtain ⟨g7, cap7, rfl, d3, f3, HB7, HO7, hbl7⟩ := refnew_mid HBOX.out HOWN.out hown7 hg7; clear hown7 hg7)
      have hb7 : Below w1.heap.size w1 (w7.setCell ⟨w1.heap.size, 3, none⟩ (.slice (some ⟨g7, 0, none⟩) ((thrs F k).length + 1) cap7)) := (hbr.trans hbl7).setCell (p := ⟨w1.heap.size, 3, none⟩) (Nat.le_refl _) _
      go_roundw
      case rel => exact ⟨k + 1, _, by omega, by go_num, HB7.out, by rw [thrs_succ, List.length_append]; exact HO7.out, hb7⟩
      case measure => simp [intOf]; omega
    · obtain rfl : k = p.threads.length := by omega
      go_wp2
      go_ret
      have hown := HOWN.out
      rw [HLK.out] at hown
      obtain ⟨r1, ⟨_, r3⟩ | ⟨tb, tcap, cur, e, r4, r5, _, _, _, r6⟩⟩ := hown
      · exact absurd r3 (by omega)
      · subst e
        refine ⟨_, tb, tcap, rfl, by omega, by omega, ⟨?_, by omega, cur, r5, ?_⟩, hb1.trans (hbr.mono (by omega))⟩
        · rw [HBOX.out]
          have hl : (St.new p F).ts.length = p.threads.length := by rw [new_eq, thrs_len]
          unfold refA boxA
          rw [hl]
          rfl
        · rw [new_eq, thrs_len]
          exact r6

end Go.Proofs.Ytkphdmfcmfojeaa

/- The contract of the document's Replay. -/
namespace Go.Proofs.Ytkphdmfcmfojeaa
open Go.RowKit

def RefReplayR (p : Pg) (a : Option Addr) (cap : Nat) (fuel : Int) (row : List Int) (w : World) (r : Ending) (w' : World) : Prop :=
  Below w.heap.size w w' ∧ match rep p fuel row with
  | (_, es, some s) => ∃ b tb tcap v, r = .returned (.tuple #[.pointer (some ⟨b, 0, none⟩), v, .int .i64 0]) ∧ RefAt w' b tb a cap tcap s ∧ s.p = p ∧ s.Ok fuel.toNat ∧ OwnE w' w.heap.size v es
  | (e, _, none) => r = .returned (.tuple #[.pointer none, .slice none 0 0, .int .i64 e])

theorem step_prog (s : St) (t : Int) : (s.step t).2.2.p = s.p := by
  rcases s.step_cases t with ⟨i, _, _, e⟩ | ⟨e, _, e'⟩
  · rw [e]; rfl
  · rw [e']
theorem OwnE.only2 {w w' : World} {B b c : Nat} {v : Value} {l : List Ev} (h : OwnE w B v l) (ho : Only2 b c w w') (hb : b < B) (hc : c < B) : OwnE w' B v l := by
  obtain ⟨h1, h2 | ⟨g, cap, cur, h2, h3, h4, h5⟩⟩ := h
  · exact ⟨h1, .inl h2⟩
  · exact ⟨h1, .inr ⟨g, cap, cur, h2, h3, (ho.block g (Array.getElem?_eq_some_iff.1 h4).1 (by omega) (by omega)).trans h4, h5⟩⟩
theorem RefAt.below {w w' : World} {b tb B : Nat} {a : Option Addr} {cap tcap : Nat} {s : St} (h : RefAt w b tb a cap tcap s) (hb : Below B w w') (h1 : b < B) (h2 : tb < B) : RefAt w' b tb a cap tcap s := by
  obtain ⟨g1, g0, cur, g2, g3⟩ := h
  exact ⟨(hb.block b h1).trans g1, g0, cur, (hb.block tb h2).trans g2, g3⟩

end Go.Proofs.Ytkphdmfcmfojeaa

/- append(.., row...) of events onto a row of the call's own. -/
namespace Go.Proofs.Ytkphdmfcmfojeaa
open Go.RowKit

theorem EvsAt.cellAt {w : World} {b o : Nat} {es : List Ev} (h : EvsAt w (some ⟨b, o, none⟩) es) (j : Nat) (u : Value) (hj : (evCells es)[j]? = some u) : w.cell? (Addr.add ⟨b, o, none⟩ j) = some u := by
  have hjl : j < es.length * 4 := by
    have := (List.getElem?_eq_some_iff.1 hj).1
    rw [evCells_length] at this
    exact this
  obtain ⟨b', o', e, hc⟩ := h.2 (by rintro rfl; simp at hjl)
  injection e with e
  injection e with e1 e2
  subst e1 e2
  have hi : j / 4 < es.length := by omega
  have hg := evCells_get es (j / 4) (j % 4) hi (by omega)
  rw [show j / 4 * 4 + j % 4 = j by omega, hj] at hg
  have ha : Addr.add ⟨b, o, none⟩ j = ⟨b, o + j, none⟩ := by unfold Addr.add; split <;> simp_all
  rw [ha]
  obtain ⟨c0, c1, c2, c3⟩ := hc (j / 4) hi
  rcases (by omega : j % 4 = 0 ∨ j % 4 = 1 ∨ j % 4 = 2 ∨ j % 4 = 3) with hr | hr | hr | hr <;> rw [hr] at hg <;> simp [evCell] at hg <;> subst hg
  · rw [← c0]; congr 2; omega
  · rw [← c1]; congr 2; omega
  · rw [← c2]; congr 2; omega
  · rw [← c3]; congr 2; omega

theorem wp_copyE {w : World} {o : Oper} {a : Act} {K : Act → World → Prop} {Q : Exit → Act → World → Prop} (s x : Operand)
    (ho : o.op = .call { callee := .builtin .append, args := #[s, x], argTypes := #[60, 60] }) (B : Nat) (v : Value) (es : List Ev) (hs : a.eval s = v) (hown : OwnE w B v es)
    (ra : Option Addr) (rcap : Nat) (row : List Ev) (hx : a.eval x = .slice ra row.length rcap) (hrow : EvsAt w ra row) (hra : ra = none → rcap = 0 ∧ row = [])
    (hlen : es.length + row.length ≤ 1000000) (hB : B ≤ w.heap.size)
    (h : ∀ v' w', OwnE w' B v' (es ++ row) → Below B w w' → K (a.put o.dst v') w') : Oper.wp Try.prog o a w K Q := by
  have hinfo : (Try.prog.info? 128).map (fun i => (i.zero, i.size, i.bytes)) = some (some (.agg #[.int .i64 0, .int .i64 0, .int .i64 0, .bool false]), 4, 32) := by kernel_rfl
  obtain ⟨i, hi, hzz⟩ := Option.map_eq_some_iff.1 hinfo
  simp only [Prod.mk.injEq] at hzz
  obtain ⟨hz, hsz, hby⟩ := hzz
  cases ra with
  | none =>
    obtain ⟨rfl, rfl⟩ := hra rfl
    have hrun := run_append_owned_none (P := Try.prog) (w := w) B 60 o.type 128 i 4 Try.underlying60 hi v es.length (evCells es) hown
    have hK := h v w (by rw [List.append_nil]; exact hown) (Below.refl _ _)
    unfold Oper.wp
    simp [execOp, ho, resolve, invoke, builtin, hs, hx, hrun, Result.andThen]
    exact hK
  | some ad =>
    by_cases hne : row = []
    · subst hne
      refine wp_append_own w s x 60 ho B 128 i (.agg #[.int .i64 0, .int .i64 0, .int .i64 0, .bool false]) 4 32 Try.underlying60 hi hz hsz hby rfl (by decide) v es.length (evCells es) hs hown ad 0 rcap [] hx (by simp) (by simp) (by simp) (by unfold maxLen; omega) (by omega) hB ?_
      intro v' w' h1 h2 _
      refine h v' w' ?_ ((Below.refl B w).grown h2 hB (fun k hk => (World.ownsRow.lt hown k hk).1))
      unfold OwnE
      simpa using h1
    · obtain ⟨b, o', e, hc⟩ := hrow.2 hne
      injection e with e
      subst e
      refine wp_append_own w s x 60 ho B 128 i (.agg #[.int .i64 0, .int .i64 0, .int .i64 0, .bool false]) 4 32 Try.underlying60 hi hz hsz hby rfl (by decide) v es.length (evCells es) hs hown ⟨b, o', none⟩ row.length rcap (evCells row) hx (by rw [evCells_length]) (fun j u hj => hrow.cellAt j u hj)
        (evCells_one _) (by unfold maxLen; omega) (by omega) hB ?_
      intro v' w' h1 h2 _
      refine h v' w' ?_ ((Below.refl B w).grown h2 hB (fun k hk => (World.ownsRow.lt hown k hk).1))
      unfold OwnE
      rw [List.length_append, evCells_append]
      exact h1

/-- The same in a region whose order is drawn. -/
theorem step_copyE {w : World} {ops : Array Oper} {o : Oper} {a : Act} {K : Act → World → Prop} {Q : Exit → Act → World → Prop} {E : Prop} (hgd : o.guard = none) (s x : Operand)
    (ho : o.op = .call { callee := .builtin .append, args := #[s, x], argTypes := #[60, 60] }) (B : Nat) (v : Value) (es : List Ev) (hs : a.eval s = v) (hown : OwnE w B v es)
    (ra : Option Addr) (rcap : Nat) (row : List Ev) (hx : a.eval x = .slice ra row.length rcap) (hrow : EvsAt w ra row) (hra : ra = none → rcap = 0 ∧ row = [])
    (hlen : es.length + row.length ≤ 1000000) (hB : B ≤ w.heap.size)
    (h : ∀ v' w', OwnE w' B v' (es ++ row) → Below B w w' → K (a.put o.dst v') w') : if Region.wanted o (yielded ops a.tmps) = true then Oper.wp Try.prog o a w K Q else E := by
  have hw : Region.wanted o (yielded ops a.tmps) = true := by simp [Region.wanted, hgd]
  rw [if_pos hw]
  exact wp_copyE s x ho B v es hs hown ra rcap row hx hrow hra hlen hB h

theorem wpList_copyE {w : World} {ops : Array Oper} {rest : List Oper} {o : Oper} {a : Act} {Q : Exit → Act → World → Prop} (hgd : o.guard = none) (s x : Operand)
    (ho : o.op = .call { callee := .builtin .append, args := #[s, x], argTypes := #[60, 60] }) (B : Nat) (v : Value) (es : List Ev) (hs : a.eval s = v) (hown : OwnE w B v es)
    (ra : Option Addr) (rcap : Nat) (row : List Ev) (hx : a.eval x = .slice ra row.length rcap) (hrow : EvsAt w ra row) (hra : ra = none → rcap = 0 ∧ row = [])
    (hlen : es.length + row.length ≤ 1000000) (hB : B ≤ w.heap.size)
    (h : ∀ v' w', OwnE w' B v' (es ++ row) → Below B w w' → wpList Try.prog ops Q rest (a.put o.dst v') w') : wpList Try.prog ops Q (o :: rest) a w :=
  wpList_plain hgd fun _ hK => wp_copyE s x ho B v es hs hown ra rcap row hx hrow hra hlen hB fun v' w' h1 h2 => hK _ _ (h v' w' h1 h2)

theorem ownE_empty (w W : World) (h : W.heap = (w.alloc (.cells #[] 128)).heap) : OwnE W w.heap.size (.slice (some ⟨w.heap.size, 0, none⟩) 0 0) [] := by
  have h0 : (w.alloc (.cells #[] 128)).ownsRow w.heap.size 128 4 (.slice (some ⟨w.heap.size, 0, none⟩) 0 0) 0 [] := World.ownsRow_made w #[] 0 (Nat.le_refl _) (by simp [maxLen]) rfl
  obtain ⟨h1, h2 | ⟨g, cap, cur, h2, h3, h4, h5⟩⟩ := h0
  · exact ⟨h1, .inl h2⟩
  · exact ⟨h1, .inr ⟨g, cap, cur, h2, h3, by rw [h]; exact h4, h5⟩⟩

end Go.Proofs.Ytkphdmfcmfojeaa

/- The contract of the document's Copy of a state. -/
namespace Go.Proofs.Ytkphdmfcmfojeaa
open Go.RowKit

section
variable {w : World} {b tb : Nat} {a : Option Addr} {cap tcap : Nat} {s : St}
theorem infoThr : (Try.prog.info? 110).map (fun i => (i.zero.isSome, i.size, i.bytes)) = some (true, 4, 32) := by kernel_rfl
theorem run_copyT (ty : TypeId) (g : Nat) (h : RefAt w b tb a cap tcap s) (hne : 1 ≤ s.ts.length) (h4 : s.ts.length ≤ 4) :
    ∃ ntc w', (Builtin.append_ #[104, 104] ty #[.slice (some ⟨g, 0, none⟩) 0 0, .slice (some ⟨tb, 0, none⟩) s.ts.length tcap]).run Try.prog w = .ok (.slice (some ⟨w.heap.size, 0, none⟩) s.ts.length ntc) w' ∧
      (∃ cur, w'.heap[w.heap.size]? = some (.cells cur 110 (0, 0)) ∧ cur.toList.take (s.ts.length * 4) = thrCells s.ts) ∧ Below w.heap.size w w' := by
  obtain ⟨i, hi, hzz⟩ := Option.map_eq_some_iff.1 infoThr
  simp only [Prod.mk.injEq] at hzz
  obtain ⟨hz, hsz, hby⟩ := hzz
  obtain ⟨z, hz⟩ := Option.isSome_iff_exists.1 hz
  have hl := thrCells_length s.ts
  have hsrc : Src Try.prog i.size 104 (.slice (some ⟨tb, 0, none⟩) s.ts.length tcap) s.ts.length (thrCells s.ts) w := by
    rw [hsz]
    refine Src.ofSlice w Try.underlying104 ⟨tb, 0, none⟩ s.ts.length tcap (thrCells s.ts) hl (fun j u hj => ?_) (thrCells_one _)
    have hjl : j < s.ts.length * 4 := by rw [← hl]; exact (List.getElem?_eq_some_iff.1 hj).1
    obtain ⟨t, k, rfl, hk⟩ : ∃ t k, j = t * 4 + k ∧ k < 4 := ⟨j / 4, j % 4, by omega, by omega⟩
    have ht : t < s.ts.length := by omega
    rw [thrCells_get s.ts t k ht hk] at hj
    have hc := h.thr t ht k hk
    have e : s.th t = s.ts[t] := getD_lt _ ht
    rw [e, hj] at hc
    have ea : Addr.add ⟨tb, 0, none⟩ (t * 4 + k) = ⟨tb, t * 4 + k, none⟩ := by
      unfold Addr.add
      split
      · rename_i h0; rw [h0]
      · simp
    rw [ea]
    exact hc
  have hold : (Builtin.firstCells i.size 0 (.slice (some ⟨g, 0, none⟩) 0 0)).run Try.prog w.drew = .ok ([] : List Value).toArray w.drew := by
    rw [hsz]
    exact run_firstCells_some w.drew 4 0 ⟨g, 0, none⟩ 0 0 [] rfl (by simp)
  have hrun := run_append_grow_src (P := Try.prog) w 104 104 ty 110 i _ Try.underlying104 hi hz (some ⟨g, 0, none⟩) 0 0 [] hold _ s.ts.length (thrCells s.ts) hsrc (by omega) (by omega) (by rw [hby]; exact growslice_fits (by omega) (by omega))
  rw [Nat.zero_add] at hrun
  refine ⟨_, _, hrun, ⟨_, heap_alloc_new w.drew _, ?_⟩, ((Below.refl _ _).drew).alloc (Nat.le_refl _) _⟩
  simp only [List.nil_append, Array.toList_append]
  rw [← hl]
  simp
theorem wpList_copyT {ops : Array Oper} {rest : List Oper} {o : Oper} {A : Act} {Q : Exit → Act → World → Prop} (hgd : o.guard = none) (x y : Operand)
    (ho : o.op = .call { callee := .builtin .append, args := #[x, y], argTypes := #[104, 104] }) (g : Nat) (hx : A.eval x = .slice (some ⟨g, 0, none⟩) 0 0) (hy : A.eval y = .slice (some ⟨tb, 0, none⟩) s.ts.length tcap)
    (h : RefAt w b tb a cap tcap s) (hne : 1 ≤ s.ts.length) (h4 : s.ts.length ≤ 4)
    (hK : ∀ ntc w', (∃ cur, w'.heap[w.heap.size]? = some (.cells cur 110 (0, 0)) ∧ cur.toList.take (s.ts.length * 4) = thrCells s.ts) → Below w.heap.size w w' → wpList Try.prog ops Q rest (A.put o.dst (.slice (some ⟨w.heap.size, 0, none⟩) s.ts.length ntc)) w') :
    wpList Try.prog ops Q (o :: rest) A w := by
  refine wpList_plain hgd fun K hK' => ?_
  obtain ⟨ntc, w', hr, h1, h2⟩ := run_copyT o.type g h hne h4
  unfold Oper.wp
  simp [execOp, ho, resolve, invoke, builtin, hx, hy, hr, Result.andThen]
  exact hK' _ _ (hK ntc w' h1 h2)

set_option maxRecDepth 100000 in
set_option maxHeartbeats 4000000 in
theorem refCopy_any (h : RefAt w b tb a cap tcap s) (hne : 1 ≤ s.ts.length) (h4 : s.ts.length ≤ 4) :
    Calls Try.prog 62 #[.pointer (some ⟨b, 0, none⟩)] w fun r w' => ∃ nb ntb ntc, r = .returned (.pointer (some ⟨nb, 0, none⟩)) ∧ w.heap.size ≤ nb ∧ w.heap.size ≤ ntb ∧ RefAt w' nb ntb a cap ntc s ∧ Below w.heap.size w w' := by
  have H := Lib.hid h
  have hcell : ∀ j, w.cell? ⟨b, j, none⟩ = (refA s a cap tb tcap)[j]? := fun j => by
    unfold World.cell?
    dsimp only
    rw [h.1]
    rfl
  have hlt := h.lt.1
  have c0 := hcell 0
  have c1 := hcell 1
  have c2 := hcell 2
  have c3 := hcell 3
  have c4 := hcell 4
  have c5 := hcell 5
  have c6 := hcell 6
  have c7 := hcell 7
  have c8 := hcell 8
  have c9 := hcell 9
  simp only [refA, List.getElem?_toArray, List.getElem?_cons_zero, List.getElem?_cons_succ] at c0 c1 c2 c3 c4 c5 c6 c7 c8 c9
  have HBOX : Hid (∀ (W : World) (nb ntb ntc : Nat), W.heap[nb]? = some (.cells #[.int .i64 s.p.vars, .int .i64 s.p.mutexes, .slice a s.p.threads.length cap, .slice (some ⟨tb, 0, none⟩) s.ts.length tcap,
    .int .i64 (s.v.getD 0 0), .int .i64 (s.v.getD 1 0), .int .i64 (s.v.getD 2 0), .int .i64 (s.v.getD 3 0), .int .i64 (s.m.getD 0 (-1)), .int .i64 (s.m.getD 1 (-1))] 107 (0, 0)) → (W.setCell ⟨nb, 3, none⟩ (.slice (some ⟨ntb, 0, none⟩) s.ts.length ntc)).heap[nb]? = some (.cells (refA s a cap ntb ntc) 107 (0, 0))) := fun W nb ntb ntc hW => by
    rw [heap_setCell_same W nb 3 _ _ _ hW]
    rfl
  clear hcell h
  generalize s.v.getD 0 0 = n0 at *
  generalize s.v.getD 1 0 = n1 at *
  generalize s.v.getD 2 0 = n2 at *
  generalize s.v.getD 3 0 = n3 at *
  generalize s.m.getD 0 (-1) = m0 at *
  generalize s.m.getD 1 (-1) = m1 at *
  go_enter Try.func62, Try.ntmps62
  have hb1 : Below w.heap.size w ((w.alloc (.cells #[.int .i64 s.p.vars, .int .i64 s.p.mutexes, .slice a s.p.threads.length cap, .slice (some ⟨tb, 0, none⟩) s.ts.length tcap, .int .i64 n0, .int .i64 n1, .int .i64 n2, .int .i64 n3, .int .i64 m0, .int .i64 m1] 107)).alloc (.cells #[] 110)) := below_alloc2 w _ _
  have hh1 : ((w.alloc (.cells #[.int .i64 s.p.vars, .int .i64 s.p.mutexes, .slice a s.p.threads.length cap, .slice (some ⟨tb, 0, none⟩) s.ts.length tcap, .int .i64 n0, .int .i64 n1, .int .i64 n2, .int .i64 n3, .int .i64 m0, .int .i64 m1] 107)).alloc (.cells #[] 110)).heap[w.heap.size]? = some (.cells #[.int .i64 s.p.vars, .int .i64 s.p.mutexes, .slice a s.p.threads.length cap, .slice (some ⟨tb, 0, none⟩) s.ts.length tcap, .int .i64 n0, .int .i64 n1, .int .i64 n2, .int .i64 n3, .int .i64 m0, .int .i64 m1] 107 (0, 0)) := ((below_alloc1 _ _).block _ (by rw [World.size_alloc]; omega)).trans (heap_alloc_new w _)
  have HH1 := Lib.hid hh1
  clear hh1
  go_wp2_with (at_builtin; refine wpList_copyT rfl _ _ rfl (w.heap.size + 1) rfl rfl (H.out.later hb1) hne h4 ?_; intro ntc w4 hcur hb4; have HCUR := Lib.hid hcur; have HB4 := Lib.hid hb4; have hh4 := (hb4.block w.heap.size (by rw [World.size_alloc, World.size_alloc]; omega)).trans HH1.out; have d3 : w4.cell? ⟨w.heap.size, 3, none⟩ = some (.slice (some ⟨tb, 0, none⟩) s.ts.length tcap) := (by unfold World.cell?; dsimp only; rw [hh4]; rfl); have f3 : w4.frozen? ⟨w.heap.size, 3, none⟩ = false := (by unfold World.frozen?; dsimp only; rw [hh4]; rfl); have HH4 := Lib.hid hh4; clear hcur hb4 hh4)
  go_ret
  have hz : ((w.alloc (.cells #[.int .i64 s.p.vars, .int .i64 s.p.mutexes, .slice a s.p.threads.length cap, .slice (some ⟨tb, 0, none⟩) s.ts.length tcap, .int .i64 n0, .int .i64 n1, .int .i64 n2, .int .i64 n3, .int .i64 m0, .int .i64 m1] 107)).alloc (.cells #[] 110)).heap.size = w.heap.size + 1 + 1 := by rw [World.size_alloc, World.size_alloc]
  obtain ⟨cur, k1, k2⟩ := HCUR.out
  rw [hz] at k1
  refine ⟨w.heap.size, _, ntc, rfl, Nat.le_refl _, ?_, ⟨HBOX.out _ _ _ _ HH4.out, ?_, cur, (Below.heap_setCell _ _ _ _ ?_).trans k1, k2⟩, ((hb1.trans (HB4.out.mono hb1.size)).setCell (p := ⟨w.heap.size, 3, none⟩) (Nat.le_refl _) _)⟩
  · omega
  · omega
  · show w.heap.size + 1 + 1 ≠ w.heap.size
    omega
end

end Go.Proofs.Ytkphdmfcmfojeaa

/- The document's tree: its nodes in memory; Row, Left. -/
namespace Go.Proofs.Ytkphdmfcmfojeaa
open Go.RowKit

/-- A node of the document's tree. -/
structure RNd where
  pre : Pfx
  own : Int
  asl : List Int
  todo : List Int
  done : List Int
/-- Who is left, below k. -/
def RNd.leftTo (n : RNd) (k : Nat) : List Nat := (List.range k).filter fun i => decide ((i : Int) ∈ n.todo) && !decide ((i : Int) ∈ n.done) && !decide ((i : Int) ∈ n.asl)
theorem RNd.left_zero (n : RNd) : n.leftTo 0 = [] := rfl
theorem RNd.left_len (n : RNd) (k : Nat) : (n.leftTo k).length ≤ k := by
  have := List.length_filter_le (fun i : Nat => decide ((i : Int) ∈ n.todo) && !decide ((i : Int) ∈ n.done) && !decide ((i : Int) ∈ n.asl)) (List.range k)
  simpa [RNd.leftTo] using this
theorem RNd.left_yes {n : RNd} {k : Nat} (h : (decide ((k : Int) ∈ n.todo) && !decide ((k : Int) ∈ n.done) && !decide ((k : Int) ∈ n.asl)) = true) : ints (n.leftTo (k + 1)) = ints (n.leftTo k) ++ [(k : Int)] := by
  unfold RNd.leftTo
  rw [List.range_succ, List.filter_append, ints_app]
  simp [h, ints]
theorem RNd.left_no {n : RNd} {k : Nat} (h : (decide ((k : Int) ∈ n.todo) && !decide ((k : Int) ∈ n.done) && !decide ((k : Int) ∈ n.asl)) = false) : ints (n.leftTo (k + 1)) = ints (n.leftTo k) := by
  unfold RNd.leftTo
  rw [List.range_succ, List.filter_append, ints_app]
  simp only [List.filter_cons, h]
  simp [ints]
theorem rowK_succ {k : Pfx} {j : Nat} (h : j < k.length) : rowK (k.take (j + 1)) = rowK (k.take j) ++ [((k[j]).toNat : Int)] := by
  rw [List.take_succ_eq_append_getElem h]
  unfold rowK
  rw [List.map_append]
  rfl

set_option maxRecDepth 100000 in
set_option maxHeartbeats 1000000 in
theorem refRow_any (k : Pfx) (w : World) (hk : k.length ≤ 1000) :
    Calls Try.prog 63 #[.string ⟨k.toArray⟩] w fun r w' => ∃ v, r = .returned v ∧ OwnN w' w.heap.size v (rowK k) ∧ Below w.heap.size w w' := by
  have hqs : (⟨k.toArray⟩ : ByteArray).size = k.length := by simp [ByteArray.size]
  have HQ9 : Hid (∀ j (h : j < k.length) (h' : j < (⟨k.toArray⟩ : ByteArray).size), (⟨k.toArray⟩ : ByteArray)[j] = k[j]'h) := fun j h h' => rfl
  have HTL : Hid (rowK (k.take k.length) = rowK k) := by show _ = _; rw [List.take_length]
  have HLE : Hid (∀ j, (rowK (k.take j)).length ≤ k.length) := fun j => by rw [rowK_len, List.length_take]; omega
  go_enter Try.func63, Try.ntmps63
  go_wp2
  go_loopw [3, 4] (fun l i wr => ∃ j : Nat, j ≤ k.length ∧ i = .int .i64 j ∧ Hid (OwnN wr w.heap.size l (rowK (k.take j))) ∧ Below w.heap.size w wr) (fun _ i _ => k.length - (intOf i).toNat)
  case atStart => exact ⟨0, Nat.zero_le _, rfl, ownN_nil _ _, Below.refl _ _⟩
  case round =>
    obtain ⟨j, hj, rfl, hown, hb⟩ := hrel
    by_cases hlt : j < k.length
    · have hix := HQ9.out j hlt
      have bc := UInt8.toNat_lt (k[j]'hlt)
      have HS := Lib.hid (rowK_succ hlt)
      have hle := HLE.out j
      have hz := hb.size
      have vc : IntKind.i64.wrap ((k[j]'hlt).toNat : Int) = (k[j]'hlt).toNat := IntWalk.i64_in _ (by omega)
      have hji : (j : Int) < (k.length : Int) := by omega
      have hji0 : (0 : Int) ≤ j := by omega
      generalize k[j]'hlt = c at *
      go_wp2_with (at_builtin; refine wp_appendN rfl (.tmp 11) (.tmp 16) rfl w.heap.size _ (rowK (k.take j)) rfl (hown.out.alloc _) ⟨wr.heap.size, 0, none⟩ 1 1 rfl [(c.toNat : Int)] rfl (nums_new wr [(c.toNat : Int)] _ _ rfl) (by simp; omega) (by simp; omega) ?_; intro v1 w2 hown2 hb3 _)
      have hb4 := (hb.alloc hz _).trans hb3
      go_roundw
      case rel => exact ⟨j + 1, by omega, by go_num, by show OwnN _ _ _ _; rw [HS.out]; exact hown2, hb4⟩
      case measure => simp [intOf]; omega
    · obtain rfl : j = k.length := by omega
      go_wp2
      go_ret
      exact ⟨_, rfl, by rw [← HTL.out]; exact hown.out, hb⟩

set_option maxRecDepth 100000 in
set_option maxHeartbeats 2000000 in
theorem refLeft_any (g : Nat) (n : RNd) (aa at_ ad : Option Addr) (ca ct cd : Nat) (w : World) (hc2 : w.cell? ⟨g, 2, none⟩ = some (.slice aa n.asl.length ca)) (hc3 : w.cell? ⟨g, 3, none⟩ = some (.slice at_ n.todo.length ct)) (hc4 : w.cell? ⟨g, 4, none⟩ = some (.slice ad n.done.length cd))
    (ha : NumsAt w aa n.asl) (ht : NumsAt w at_ n.todo) (hd : NumsAt w ad n.done) (hal : n.asl.length ≤ 1000) (htl : n.todo.length ≤ 1000) (hdl : n.done.length ≤ 1000) :
    Calls Try.prog 26 #[.pointer (some ⟨g, 0, none⟩)] w fun r w' => ∃ v, r = .returned v ∧ OwnN w' w.heap.size v (ints (n.leftTo 8)) ∧ Below w.heap.size w w' := by
  have HA := Lib.hid ha
  have HT := Lib.hid ht
  have HD := Lib.hid hd
  have HC : Hid (∀ W, Below w.heap.size w W → W.cell? ⟨g, 2, none⟩ = some (.slice aa n.asl.length ca) ∧ W.cell? ⟨g, 3, none⟩ = some (.slice at_ n.todo.length ct) ∧ W.cell? ⟨g, 4, none⟩ = some (.slice ad n.done.length cd)) := fun W hb => ⟨cell_later hb hc2, cell_later hb hc3, cell_later hb hc4⟩
  clear ha ht hd hc2 hc3 hc4
  go_enter Try.func26, Try.ntmps26
  go_wp2
  go_loopw [3, 4] (fun l i wr => ∃ k : Nat, k ≤ 8 ∧ i = .int .i64 k ∧ Hid (OwnN wr w.heap.size l (ints (n.leftTo k))) ∧ Below w.heap.size w wr) (fun _ i _ => 8 - (intOf i).toNat)
  case atStart => exact ⟨0, Nat.zero_le _, rfl, ownN_nil _ _, Below.refl _ _⟩
  case round =>
    obtain ⟨k, hk, rfl, hown, hb⟩ := hrel
    by_cases hlt : k < 8
    · have hle := n.left_len k
      rw [← ints_len] at hle
      have hz := hb.size
      have HY := Lib.hid (RNd.left_yes (n := n) (k := k))
      have HN := Lib.hid (RNd.left_no (n := n) (k := k))
      obtain ⟨c2, c3, c4⟩ := HC.out wr hb
      go_wp2_with fail
      refine (refIn_any at_ ct n.todo (k : Int) wr (HT.out.later hb) htl).mono ?_
      rintro r w' ⟨rfl, rfl⟩
      cases h1 : decide ((k : Int) ∈ n.todo)
      · have HR := Lib.hid (HN.out (by rw [h1]; rfl))
        clear h1
        go_wp2
        go_roundw
        case rel => exact ⟨k + 1, by omega, by go_num, by show OwnN _ _ _ _; rw [HR.out]; exact hown.out, hb⟩
        case measure => simp [intOf]; omega
      · go_wp2_with fail
        refine (refIn_any ad cd n.done (k : Int) _ (HD.out.later hb) hdl).mono ?_
        rintro r w' ⟨rfl, rfl⟩
        cases h2 : decide ((k : Int) ∈ n.done)
        · go_wp2_with fail
          refine (refIn_any aa ca n.asl (k : Int) _ (HA.out.later hb) hal).mono ?_
          rintro r w' ⟨rfl, rfl⟩
          cases h3 : decide ((k : Int) ∈ n.asl)
          · have HR := Lib.hid (HY.out (by rw [h1, h2, h3]; rfl))
            clear h1 h2 h3
            go_wp2_with (at_builtin; refine wp_appendN rfl (.tmp 33) (.tmp 35) rfl w.heap.size _ (ints (n.leftTo k)) rfl (hown.out.alloc _) ⟨_, 0, none⟩ 1 1 rfl [(k : Int)] rfl (nums_new _ [(k : Int)] _ _ rfl) (by simp; omega) (by simp; omega) ?_; intro v1 w2 hown2 hb3 _)
            have hb4 := (hb.alloc hz _).trans hb3
            go_roundw
            case rel => exact ⟨k + 1, by omega, by go_num, by show OwnN _ _ _ _; rw [HR.out]; exact hown2, hb4⟩
            case measure => simp [intOf]; omega
          · have HR := Lib.hid (HN.out (by rw [h3]; simp))
            clear h1 h2 h3
            go_wp2
            go_roundw
            case rel => exact ⟨k + 1, by omega, by go_num, by show OwnN _ _ _ _; rw [HR.out]; exact hown.out, hb⟩
            case measure => simp [intOf]; omega
        · have HR := Lib.hid (HN.out (by rw [h2]; simp))
          clear h1 h2
          go_wp2
          go_roundw
          case rel => exact ⟨k + 1, by omega, by go_num, by show OwnN _ _ _ _; rw [HR.out]; exact hown.out, hb⟩
          case measure => simp [intOf]; omega
    · obtain rfl : k = 8 := by omega
      go_wp2
      go_ret
      exact ⟨_, rfl, hown.out, hb⟩

end Go.Proofs.Ytkphdmfcmfojeaa

/- The contract of the document's tree's At. -/
namespace Go.Proofs.Ytkphdmfcmfojeaa
open Go.RowKit

def RefAtR (p : Pg) (a : Option Addr) (cap : Nat) (fuel : Int) (row : List Int) (w : World) (r : Ending) (w' : World) : Prop :=
  Below w.heap.size w w' ∧ match rep p fuel row with
  | (_, _, some s) => ∃ b tb tcap, r = .returned (.tuple #[.pointer (some ⟨b, 0, none⟩), .int .i64 0]) ∧ w.heap.size ≤ b ∧ w.heap.size ≤ tb ∧ RefAt w' b tb a cap tcap s ∧ s.p = p ∧ s.Ok fuel.toNat
  | (e, _, none) => r = .returned (.tuple #[.pointer none, .int .i64 e])
theorem OwnN.only2x {w w' : World} {B b c : Nat} {v : Value} {l : List Int} (h : OwnN w B v l) (ho : Only2 b c w w') (hb : b < B) (hc : c < B) : OwnN w' B v l := by
  obtain ⟨h1, h2 | ⟨g, cap, cur, h2, h3, h4, h5⟩⟩ := h
  · exact ⟨h1, .inl h2⟩
  · exact ⟨h1, .inr ⟨g, cap, cur, h2, h3, (ho.block g (Array.getElem?_eq_some_iff.1 h4).1 (by omega) (by omega)).trans h4, h5⟩⟩

set_option maxRecDepth 100000 in
set_option maxHeartbeats 4000000 in
theorem refAtT_any (p : Pg) (a : Option Addr) (cap F : Nat) (hg : goodPg p F = true) (g rb rt rtc : Nat) (k : Pfx) (w : World) (hk : k.length ≤ 1000) (hp : ThreadsAt w a p.threads) (hr : RefAt w rb rt a cap rtc (St.new p F)) (c0 : w.cell? ⟨g, 0, none⟩ = some (.pointer (some ⟨rb, 0, none⟩))) :
    Calls Try.prog 28 #[.pointer (some ⟨g, 0, none⟩), .string ⟨k.toArray⟩] w (RefAtR p a cap F (rowK k) w) := by
  have HP := Lib.hid hp
  have hr1 : rightPg p = true ∧ F ≤ 8 := by
    unfold goodPg at hg
    rw [Bool.and_eq_true, decide_eq_true_eq] at hg
    exact ⟨hg.1, by omega⟩
  obtain ⟨hr1, hf8⟩ := hr1
  have HRP : Hid (rep p F (rowK k) = comb [] ((St.new p F).run (rowK k))) := by
    show _ = _
    unfold rep
    rw [if_pos hg]
    rfl
  have HOK := Lib.hid (new_ok hr1 F hf8)
  have hts : 1 ≤ (St.new p F).ts.length ∧ (St.new p F).ts.length ≤ 4 := by
    have h := hr1
    unfold rightPg at h
    rw [Bool.and_eq_true, decide_eq_true_eq] at h
    have e : (St.new p F).ts.length = p.threads.length := by simp [St.new]
    omega
  have HC := Lib.hid (refCopy_any hr hts.1 hts.2)
  have hrl : (rowK k).length ≤ 1000 := by rw [rowK_len]; exact hk
  clear hp hr hg hr1 hts
  go_enter Try.func28, Try.ntmps28
  go_wp2_with fail
  refine HC.out.mono ?_
  rintro r w2 ⟨b, tb, tcap, rfl, hgb1, hgt1, hs, hw2⟩
  obtain ⟨hb2a, hb2b⟩ := hs.lt
  have HS := Lib.hid hs
  clear hs c0 HC
  go_wp2_with fail
  refine (refRow_any k w2 hk).mono ?_
  rintro r w3 ⟨v, rfl, hown, hb3⟩
  obtain ⟨ra, rc, rfl, _⟩ := OwnN.form hown (by omega)
  have HO := Lib.hid hown
  have HS3 := Lib.hid (HS.out.later hb3)
  have hw3 : Below w.heap.size w w3 := hw2.trans (hb3.mono hw2.size)
  have hz3 := hb3.size
  generalize rowK k = row at *
  clear hown hb3 HS hw2
  go_wp2_with fail
  go_loopw [8] (fun i wr => ∃ (j : Nat) (s : St) (es : List Ev), j ≤ row.length ∧ i = .int .i64 j ∧ Hid (rep p F row = comb es (s.run (row.drop j))) ∧ Hid (s.p = p) ∧ Hid (OwnN wr w2.heap.size (.slice ra row.length rc) row) ∧ RefAt wr b tb a cap tcap s ∧ s.Ok F ∧ Below w.heap.size w wr ∧ w2.heap.size ≤ wr.heap.size) (fun i _ => row.length - (intOf i).toNat)
  case atStart => exact ⟨0, _, [], Nat.zero_le _, rfl, HRP, rfl, HO, HS3.out, HOK.out, hw3, hz3⟩
  case round =>
    clear HS3 HOK HRP HO
    obtain ⟨j, s, es, hj, rfl, HRP, HSP, HO, hs, ok, hb, hz⟩ := hrel
    have HS := Lib.hid hs
    have OK := Lib.hid ok
    clear hs ok
    by_cases hlt : j < row.length
    · obtain ⟨_, _, he, hnum, _⟩ := OwnN.form HO.out (by omega)
      injection he with he1 _ he2
      subst he1 he2
      obtain ⟨rb', ro, rfl, hc⟩ := hnum.2 (by intro e; rw [e] at hlt; exact absurd hlt (Nat.not_lt_zero _))
      have d0 := hc j hlt
      have hdr : row.drop j = row[j] :: row.drop (j + 1) := List.drop_eq_getElem_cons hlt
      have HDR := Lib.hid hdr
      have HTW : Hid (ThreadsAt wr a s.p.threads) := by rw [HSP.out]; exact HP.out.later hb
      clear hc hdr hnum
      generalize row[j] = t at *
      go_wp2_with fail
      refine (refStep_any HS.out HTW.out OK.out t).mono ?_
      rintro r w5 ⟨rfl, hs5, ho5⟩
      have hok5 := OK.out.step_ok t
      have hsp5 := (step_prog s t).trans HSP.out
      have HCE := Lib.hid (comb_err es s t (row.drop (j + 1)))
      have HCO := Lib.hid (comb_ok es s t (row.drop (j + 1)))
      have hb5 := hb.trans (ho5.below hgb1 hgt1 hb.size)
      have hown5 := HO.out.only2x ho5 hb2a hb2b
      have hz5 : w2.heap.size ≤ w5.heap.size := Nat.le_trans hz ho5.size
      unfold stepV evV
      generalize s.step t = st at *
      obtain ⟨e, x, s'⟩ := st
      dsimp only at *
      have HS5 := Lib.hid (hs5.later (below_alloc1 w5 (.cells #[.int .i64 x.thread, .int .i64 x.kind, .int .i64 x.obj, .bool x.fail] 128)))
      have HOK5 := Lib.hid hok5
      have HSP5 := Lib.hid hsp5
      have HOW5 := Lib.hid (hown5.alloc (.cells #[.int .i64 x.thread, .int .i64 x.kind, .int .i64 x.obj, .bool x.fail] 128))
      have hbe : Below w.heap.size w (w5.alloc (.cells #[.int .i64 x.thread, .int .i64 x.kind, .int .i64 x.obj, .bool x.fail] 128)) := hb5.alloc hb5.size _
      have hze : w2.heap.size ≤ (w5.alloc (.cells #[.int .i64 x.thread, .int .i64 x.kind, .int .i64 x.obj, .bool x.fail] 128)).heap.size := by rw [World.size_alloc]; omega
      clear hb ho5 hs5 hok5 hb5 HS d0 hsp5 HTW hown5
      by_cases he : e = 0
      · subst he
        have HR2 : Hid (rep p F row = comb (es ++ [x]) (s'.run (row.drop (j + 1)))) := by
          show _ = _
          rw [HRP.out, HDR.out]
          exact HCO.out rfl
        clear HCE HCO
        go_wp2_with fail
        go_roundw
        case rel => exact ⟨j + 1, s', es ++ [x], by omega, by go_num, HR2, HSP5, HOW5, HS5.out, HOK5.out, hbe, hze⟩
        case measure => simp [intOf]; omega
      · have q0 : (e != 0) = true := by simpa using he
        have HR2 : Hid (rep p F row = (e, [], none)) := by
          show _ = _
          rw [HRP.out, HDR.out]
          exact HCE.out he
        clear he HCE HCO
        go_wp2
        refine bodyPost_ret (v := .tuple #[.pointer none, .int .i64 e]) (by simp [results, Try.results28, go_sem]) rfl ?_
        unfold RefAtR
        rw [HR2.out]
        exact ⟨hbe, rfl⟩
    · obtain rfl : j = row.length := by omega
      have HR2 : Hid (rep p F row = (0, es, some s)) := by
        show _ = _
        rw [HRP.out, List.drop_length]
        exact comb_nil es s
      go_wp2
      refine bodyPost_ret (v := .tuple #[.pointer (some ⟨b, 0, none⟩), .int .i64 0]) (by simp [results, Try.results28, go_sem]) rfl ?_
      unfold RefAtR
      rw [HR2.out]
      exact ⟨hb, b, tb, tcap, rfl, hgb1, hgt1, HS.out, HSP.out, OK.out⟩

end Go.Proofs.Ytkphdmfcmfojeaa
