import Derived.Test.YtnldkmcijmbhcaaGreatPk05
import Derived.Test.YtnldkmcijmbhcaaGreatPk19

/- The contract of the document's Step: an add. -/
namespace Go.Proofs.YtnldkmcijmbhcaaGreat
open Go.RowKit
section
variable {F : Nat} {w : World} {b tb : Nat} {a : Option Addr} {cap tcap : Nat} {s : St}

set_option maxRecDepth 100000 in
set_option maxHeartbeats 8000000 in
theorem refStep_4 (h : RefAt w b tb a cap tcap s) (hth : ThreadsAt w a s.p.threads) (ok : s.Ok F) (t : Nat) (i : Ins) (hi : s.ins t = some i) (hm : s.may t = true) (hk1 : i.kind = 4) : Calls Tryz.prog 33 #[.pointer (some ⟨b, 0, none⟩), .int .i64 t] w fun e w' => e = .returned (stepV (s.step t)) ∧ RefAt w' b tb a cap tcap (s.step t).2.2 ∧ Only2 b tb w w' := by
  obtain ⟨k, hkk, ht⟩ := St.ins_nat hi
  obtain rfl : t = k := by omega
  have hst : s.step t = (0, s.ev t i, s.do_ t i) := by
    unfold St.step
    rw [if_pos (by unfold St.has; omega), hi]
    simp only [hm]
    rfl
  have hn : s.next t = some (s.ev t i) := by unfold St.next; rw [hi]; rfl
  rw [hst, stepV_ok]
  dsimp only
  obtain ⟨o1, o2, o3, o4, o5, o6⟩ := ok.obj hi
  have hx0 : 0 ≤ i.x := by
    have := (ok.ins_right hi).1
    unfold rightIns at this
    repeat' split at this
    all_goals first | (simp only [decide_eq_true_eq] at this; omega) | (cases this)
  obtain ⟨_, hfu, hcode⟩ := St.ins_has hi
  simp only [Int.toNat_natCast] at hfu hcode
  have h4 := ok.len4
  have hln := ok.len
  have hrl : (s.th t).r.length = 2 := (ok.thr _ (St.th_mem ht)).1
  have hvl := ok.vl
  have hml := ok.ml
  obtain ⟨f, hf⟩ : ∃ f, (s.th t).fuel = f + 1 := ⟨(s.th t).fuel - 1, by omega⟩
  have hf8 : f ≤ 1000 := by have := (ok.thr _ (St.th_mem ht)).2.2; have := ok.f8; omega
  have h8 := ok.code8 t ht
  obtain ⟨hat, hic⟩ := List.getElem?_eq_some_iff.1 hcode
  obtain ⟨n, hn1⟩ : ∃ n, (s.th t).at_ = n := ⟨_, rfl⟩
  have hkp : t < s.p.threads.length := by omega
  have hcd : s.code t = s.p.threads[t] := getD_lt _ hkp
  obtain ⟨ab, ao, rfl, hc⟩ := hth.2 (by intro e; simp [e] at hkp)
  obtain ⟨c, ccap, c0, c1, _⟩ := hc t hkp
  rw [← hcd] at c0 c1
  obtain ⟨cb, co, rfl, hcc⟩ := c1.2 (by intro e; simp [e] at hat)
  obtain ⟨i0, i1, i2, i3⟩ := hcc _ hat
  rw [hic] at i0 i1 i2 i3
  rw [hn1] at i0 i1 i2 i3 hat
  have p1 := h.prog.2
  have q0 : decide ((t : Int) < 0) = false := by simp
  have q1 : decide ((s.ts.length : Int) ≤ t) = false := by simp; omega
  have q2 : decide (s.ts.length ≤ t) = false := by simp; omega
  obtain ⟨hb1, hb2⟩ := h.lt
  have HB := Lib.hid (h.later (below_alloc1 w (.cells #[.int .i64 0, .int .i64 0, .int .i64 0, .bool false] 81)))
  have HTH := Lib.hid (hth.later (below_alloc1 w (.cells #[.int .i64 0, .int .i64 0, .int .i64 0, .bool false] 81)))
  have OK := Lib.hid ok
  have HM := Lib.hid hm
  obtain ⟨kd, r, x, m⟩ := i
  dsimp only at *
  obtain ⟨r, rfl⟩ : ∃ y : Nat, r = y := ⟨r.toNat, by omega⟩
  obtain ⟨x, rfl⟩ : ∃ y : Nat, x = y := ⟨x.toNat, by omega⟩
  subst hk1
  have hr2 : r < 2 := by omega
  clear o1 o2 o3
  obtain ⟨e, he⟩ : ∃ e, e = s.ev t ⟨4, r, x, m⟩ := ⟨_, rfl⟩
  rw [← he] at hn ⊢
  have HE := Lib.hid he
  have HN := Lib.hid hn
  have HI := Lib.hid (And.intro hi (And.intro hf (And.intro hn1 (And.intro hrl (And.intro hvl hml)))))
  have HC := Lib.hid (And.intro c0 (And.intro i0 (And.intro i1 (And.intro i2 i3))))
  have h8n : n < 8 := by omega
  have hatn : n < (s.code t).length := by omega
  clear hst h hth ok hi hn he hkk hm hfu hcode hc c1 hcc hic hcd hln hrl hvl hml hf hn1 o6 c0 i0 i1 i2 i3
  try clear hat
  generalize (s.code t).length = ln at *
  go_enter Tryz.func33, Tryz.ntmps33
  go_wp2_with fail
  refine (refNext_any HB.out HTH.out OK.out t).mono ?_
  rw [HN.out, evR_some]
  rintro r9 w1 ⟨rfl, hb3⟩
  have hz : w.heap.size < w1.heap.size := by have := hb3.size; simp at this; omega
  have RX1 : Hid (EvBox0 w1 w.heap.size) := (hb3.block _ (by simp)).trans (heap_alloc_new w _)
  have H1 := Lib.hid ((HB.out.later hb3).later (below_alloc1 w1 (.cells #[.int .i64 e.thread, .int .i64 e.kind, .int .i64 e.obj, .bool e.fail] 81)))
  have T1 := Lib.hid ((HTH.out.later hb3).later (below_alloc1 w1 (.cells #[.int .i64 e.thread, .int .i64 e.kind, .int .i64 e.obj, .bool e.fail] 81)))
  have B1 : Hid (Below w.heap.size w w1) := (below_alloc1 w _).trans (hb3.mono (by simp))
  clear hb3 p1 HB HTH
  go_wp2_with fail
  refine (refEnabled_any H1.out T1.out OK.out t).mono ?_
  rw [HM.out]
  rintro r9 w2 ⟨rfl, hb4⟩
  have EX2 : Hid (w2.heap[w1.heap.size]? = some (.cells #[.int .i64 e.thread, .int .i64 e.kind, .int .i64 e.obj, .bool e.fail] 81 (0, 0))) := (hb4.block _ (by simp)).trans (heap_alloc_new w1 _)
  have B2 : Hid (Below w1.heap.size w1 w2) := (below_alloc1 w1 _).trans (hb4.mono (by simp))
  have RX2 : Hid (EvBox0 w2 w.heap.size) := (B2.out.block _ hz).trans RX1.out
  have H2 := Lib.hid (H1.out.later hb4)
  have W2 : Hid (Below w.heap.size w w2) := B1.out.trans (B2.out.mono (by omega))
  have hz2 : w1.heap.size < w2.heap.size := (Array.getElem?_eq_some_iff.1 EX2.out).1
  have hz3 : w.heap.size < w2.heap.size := by omega
  obtain ⟨p0, p1⟩ := H2.out.prog
  have ca := H2.out.at_ t ht
  rw [HI.out.2.2.1] at ca
  have d0 := cell_later W2.out HC.out.1
  have d1 := cell_later W2.out HC.out.2.1
  have d2 := cell_later W2.out HC.out.2.2.1
  have d3 := cell_later W2.out HC.out.2.2.2.1
  have d4 := cell_later W2.out HC.out.2.2.2.2
  have z0 := cell_block d0
  have z1 := cell_block d1
  dsimp only at z0 z1
  have ltb : tb < w2.heap.size := by omega
  have lb : b < w2.heap.size := by omega
  clear hb4 H1 T1 B1 B2 RX1 HC
  go_wp2
  go_region
  generalize hW : (w2.alloc (.cells #[.int .i64 4, .int .i64 r, .int .i64 x, .int .i64 m] 48)).drew = W at *
  have hbW : Below w2.heap.size w2 W := by rw [← hW]; exact ((Below.refl _ _).alloc (Nat.le_refl _) _).drew
  have IX : W.heap[w2.heap.size]? = some (.cells #[.int .i64 4, .int .i64 r, .int .i64 x, .int .i64 m] 48 (0, 0)) := by rw [← hW]; exact heap_alloc_new w2 _
  have HW := Lib.hid (H2.out.later hbW)
  have EX := Lib.hid ((hbW.block _ hz2).trans EX2.out)
  have RX : Hid (EvBox0 W w.heap.size) := (hbW.block _ hz3).trans RX2.out
  have OW : Hid (Only2 b tb w W) := .of_below (W2.out.trans (hbW.mono W2.out.size))
  have cf := HW.out.fuel t ht
  rw [HI.out.2.1, Int.natCast_add] at cf
  have ca2 := HW.out.at_ t ht
  rw [HI.out.2.2.1] at ca2
  have ff := fun o => (HW.out.frozen o).2
  have j0 := (ins_cells IX).1
  have IXH := Lib.hid IX
  have nb : b ≠ tb := HW.out.2.1
  generalize hI : w2.heap.size = I at *
  generalize hE : w1.heap.size = E at *
  generalize hR : w.heap.size = R at *
  have n1 : ¬ tb = I := by omega
  have n2 : ¬ I = tb := by omega
  have n3 : ¬ tb = E := by omega
  have n4 : ¬ E = tb := by omega
  have n5 : ¬ tb = R := by omega
  have n6 : ¬ R = tb := by omega
  have n7 : ¬ b = I := by omega
  have n8 : ¬ I = b := by omega
  have n9 : ¬ b = E := by omega
  have n10 : ¬ E = b := by omega
  have n11 : ¬ b = R := by omega
  have n12 : ¬ R = b := by omega
  have n13 : ¬ tb = b := fun h => nb h.symm
  have n14 : ¬ b = tb := nb
  have n15 : ¬ R = E := by omega
  have n16 : ¬ E = R := by omega
  clear hW hbW H2 EX2 RX2 W2 d0 d1 d2 d3 d4 ca p0 p1 IX
  go_wp2
  generalize hV : (W.setCell ⟨tb, t * 4 + 1, none⟩ (.int .i64 f)).setCell ⟨tb, t * 4, none⟩ (.int .i64 (n + 1)) = V at *
  have hoth : ∀ k, k ≠ tb → V.heap[k]? = W.heap[k]? := fun k hk => by rw [← hV, Below.heap_setCell _ _ _ _ hk, Below.heap_setCell _ _ _ _ hk]
  have HG : Hid (RefAt V b tb (some ⟨ab, ao, none⟩) cap tcap (s.go t)) := by rw [← hV]; exact HW.out.go t f n ht HI.out.2.1 HI.out.2.2.1
  have OV : Hid (Only2 b tb w V) := by rw [← hV]; exact (OW.out.setCell (.inr (.inl rfl)) _ _).setCell (.inr (.inl rfl)) _ _
  obtain ⟨j0v, j1v, j2v, j3v⟩ := ins_cells ((hoth I (fun e => n2 e)).trans IXH.out)
  obtain ⟨x0, x1, x2, x3⟩ := ev_cells ((hoth E (fun e => n4 e)).trans EX.out)
  obtain ⟨e0, e1, e2, e3, ef⟩ := EvBox0.cells ((hoth R (fun e => n6 e)).trans RX.out)
  have f0 := ef 0
  have f1 := ef 1
  have f2 := ef 2
  have f3 := ef 3
  have htg : t < (s.go t).ts.length := by rw [St.go, St.put_len]; exact ht
  clear hV hoth j0 cf ca2 ff ef IXH EX RX HW OW
  have gl := go_add s t r x m ht
  have cr := HG.out.reg t htg r hr2
  have ff := (HG.out.frozen (t * 4 + 2 + r)).2
  generalize ((s.go t).th t).r.getD r 0 = vv at *
  have ew : wrap64 (vv + m) = IntKind.i64.wrap (vv + m) := by rw [IntKind.wrap_i64]; unfold wrap64; first | rfl | omega
  rw [← ew] at gl
  have GL := Lib.hid gl
  clear gl ew
  go_region
  go_wp2
  refine bodyPost_ret (v := .tuple #[.agg #[.int .i64 e.thread, .int .i64 e.kind, .int .i64 e.obj, .bool e.fail], .int .i64 0]) (by simp [results, Tryz.results33, go_sem, e0, e1, e2, e3]) rfl ⟨rfl, ?_, ?_⟩
  · obtain ⟨hi, hf, hn1, hrl, hvl, hml⟩ := HI.out
    have hg := HG.out
    have h2 := hg.setReg t r (wrap64 (vv + m)) htg hr2 (by rw [St.go_th _ _ ht]; exact hrl)
    rw [GL.out] at h2
    exact (h2.other4 (by omega) (by omega) _ _ _ _).drewN 1
  · exact ((OV.out.setCell (.inr (.inl rfl)) _ _).set4 (Nat.le_of_eq hR) _ _ _ _).drew
end
end Go.Proofs.YtnldkmcijmbhcaaGreat

/- The contract of the document's Step: a lock. -/
namespace Go.Proofs.YtnldkmcijmbhcaaGreat
open Go.RowKit
section
variable {F : Nat} {w : World} {b tb : Nat} {a : Option Addr} {cap tcap : Nat} {s : St}

set_option maxRecDepth 100000 in
set_option maxHeartbeats 8000000 in
theorem refStep_5 (h : RefAt w b tb a cap tcap s) (hth : ThreadsAt w a s.p.threads) (ok : s.Ok F) (t : Nat) (i : Ins) (hi : s.ins t = some i) (hm : s.may t = true) (hk1 : i.kind = 5) : Calls Tryz.prog 33 #[.pointer (some ⟨b, 0, none⟩), .int .i64 t] w fun e w' => e = .returned (stepV (s.step t)) ∧ RefAt w' b tb a cap tcap (s.step t).2.2 ∧ Only2 b tb w w' := by
  obtain ⟨k, hkk, ht⟩ := St.ins_nat hi
  obtain rfl : t = k := by omega
  have hst : s.step t = (0, s.ev t i, s.do_ t i) := by
    unfold St.step
    rw [if_pos (by unfold St.has; omega), hi]
    simp only [hm]
    rfl
  have hn : s.next t = some (s.ev t i) := by unfold St.next; rw [hi]; rfl
  rw [hst, stepV_ok]
  dsimp only
  obtain ⟨o1, o2, o3, o4, o5, o6⟩ := ok.obj hi
  have hx0 : 0 ≤ i.x := by
    have := (ok.ins_right hi).1
    unfold rightIns at this
    repeat' split at this
    all_goals first | (simp only [decide_eq_true_eq] at this; omega) | (cases this)
  obtain ⟨_, hfu, hcode⟩ := St.ins_has hi
  simp only [Int.toNat_natCast] at hfu hcode
  have h4 := ok.len4
  have hln := ok.len
  have hrl : (s.th t).r.length = 2 := (ok.thr _ (St.th_mem ht)).1
  have hvl := ok.vl
  have hml := ok.ml
  obtain ⟨f, hf⟩ : ∃ f, (s.th t).fuel = f + 1 := ⟨(s.th t).fuel - 1, by omega⟩
  have hf8 : f ≤ 1000 := by have := (ok.thr _ (St.th_mem ht)).2.2; have := ok.f8; omega
  have h8 := ok.code8 t ht
  obtain ⟨hat, hic⟩ := List.getElem?_eq_some_iff.1 hcode
  obtain ⟨n, hn1⟩ : ∃ n, (s.th t).at_ = n := ⟨_, rfl⟩
  have hkp : t < s.p.threads.length := by omega
  have hcd : s.code t = s.p.threads[t] := getD_lt _ hkp
  obtain ⟨ab, ao, rfl, hc⟩ := hth.2 (by intro e; simp [e] at hkp)
  obtain ⟨c, ccap, c0, c1, _⟩ := hc t hkp
  rw [← hcd] at c0 c1
  obtain ⟨cb, co, rfl, hcc⟩ := c1.2 (by intro e; simp [e] at hat)
  obtain ⟨i0, i1, i2, i3⟩ := hcc _ hat
  rw [hic] at i0 i1 i2 i3
  rw [hn1] at i0 i1 i2 i3 hat
  have p1 := h.prog.2
  have q0 : decide ((t : Int) < 0) = false := by simp
  have q1 : decide ((s.ts.length : Int) ≤ t) = false := by simp; omega
  have q2 : decide (s.ts.length ≤ t) = false := by simp; omega
  obtain ⟨hb1, hb2⟩ := h.lt
  have HB := Lib.hid (h.later (below_alloc1 w (.cells #[.int .i64 0, .int .i64 0, .int .i64 0, .bool false] 81)))
  have HTH := Lib.hid (hth.later (below_alloc1 w (.cells #[.int .i64 0, .int .i64 0, .int .i64 0, .bool false] 81)))
  have OK := Lib.hid ok
  have HM := Lib.hid hm
  obtain ⟨kd, r, x, m⟩ := i
  dsimp only at *
  obtain ⟨r, rfl⟩ : ∃ y : Nat, r = y := ⟨r.toNat, by omega⟩
  obtain ⟨x, rfl⟩ : ∃ y : Nat, x = y := ⟨x.toNat, by omega⟩
  subst hk1
  have hx2 : x < 2 := by have := o2 (.inl rfl); omega
  clear o1 o2 o3
  obtain ⟨e, he⟩ : ∃ e, e = s.ev t ⟨5, r, x, m⟩ := ⟨_, rfl⟩
  rw [← he] at hn ⊢
  have HE := Lib.hid he
  have HN := Lib.hid hn
  have HI := Lib.hid (And.intro hi (And.intro hf (And.intro hn1 (And.intro hrl (And.intro hvl hml)))))
  have HC := Lib.hid (And.intro c0 (And.intro i0 (And.intro i1 (And.intro i2 i3))))
  have h8n : n < 8 := by omega
  have hatn : n < (s.code t).length := by omega
  clear hst h hth ok hi hn he hkk hm hfu hcode hc c1 hcc hic hcd hln hrl hvl hml hf hn1 o6 c0 i0 i1 i2 i3
  try clear hat
  generalize (s.code t).length = ln at *
  go_enter Tryz.func33, Tryz.ntmps33
  go_wp2_with fail
  refine (refNext_any HB.out HTH.out OK.out t).mono ?_
  rw [HN.out, evR_some]
  rintro r9 w1 ⟨rfl, hb3⟩
  have hz : w.heap.size < w1.heap.size := by have := hb3.size; simp at this; omega
  have RX1 : Hid (EvBox0 w1 w.heap.size) := (hb3.block _ (by simp)).trans (heap_alloc_new w _)
  have H1 := Lib.hid ((HB.out.later hb3).later (below_alloc1 w1 (.cells #[.int .i64 e.thread, .int .i64 e.kind, .int .i64 e.obj, .bool e.fail] 81)))
  have T1 := Lib.hid ((HTH.out.later hb3).later (below_alloc1 w1 (.cells #[.int .i64 e.thread, .int .i64 e.kind, .int .i64 e.obj, .bool e.fail] 81)))
  have B1 : Hid (Below w.heap.size w w1) := (below_alloc1 w _).trans (hb3.mono (by simp))
  clear hb3 p1 HB HTH
  go_wp2_with fail
  refine (refEnabled_any H1.out T1.out OK.out t).mono ?_
  rw [HM.out]
  rintro r9 w2 ⟨rfl, hb4⟩
  have EX2 : Hid (w2.heap[w1.heap.size]? = some (.cells #[.int .i64 e.thread, .int .i64 e.kind, .int .i64 e.obj, .bool e.fail] 81 (0, 0))) := (hb4.block _ (by simp)).trans (heap_alloc_new w1 _)
  have B2 : Hid (Below w1.heap.size w1 w2) := (below_alloc1 w1 _).trans (hb4.mono (by simp))
  have RX2 : Hid (EvBox0 w2 w.heap.size) := (B2.out.block _ hz).trans RX1.out
  have H2 := Lib.hid (H1.out.later hb4)
  have W2 : Hid (Below w.heap.size w w2) := B1.out.trans (B2.out.mono (by omega))
  have hz2 : w1.heap.size < w2.heap.size := (Array.getElem?_eq_some_iff.1 EX2.out).1
  have hz3 : w.heap.size < w2.heap.size := by omega
  obtain ⟨p0, p1⟩ := H2.out.prog
  have ca := H2.out.at_ t ht
  rw [HI.out.2.2.1] at ca
  have d0 := cell_later W2.out HC.out.1
  have d1 := cell_later W2.out HC.out.2.1
  have d2 := cell_later W2.out HC.out.2.2.1
  have d3 := cell_later W2.out HC.out.2.2.2.1
  have d4 := cell_later W2.out HC.out.2.2.2.2
  have z0 := cell_block d0
  have z1 := cell_block d1
  dsimp only at z0 z1
  have ltb : tb < w2.heap.size := by omega
  have lb : b < w2.heap.size := by omega
  clear hb4 H1 T1 B1 B2 RX1 HC
  go_wp2
  go_region
  generalize hW : (w2.alloc (.cells #[.int .i64 5, .int .i64 r, .int .i64 x, .int .i64 m] 48)).drew = W at *
  have hbW : Below w2.heap.size w2 W := by rw [← hW]; exact ((Below.refl _ _).alloc (Nat.le_refl _) _).drew
  have IX : W.heap[w2.heap.size]? = some (.cells #[.int .i64 5, .int .i64 r, .int .i64 x, .int .i64 m] 48 (0, 0)) := by rw [← hW]; exact heap_alloc_new w2 _
  have HW := Lib.hid (H2.out.later hbW)
  have EX := Lib.hid ((hbW.block _ hz2).trans EX2.out)
  have RX : Hid (EvBox0 W w.heap.size) := (hbW.block _ hz3).trans RX2.out
  have OW : Hid (Only2 b tb w W) := .of_below (W2.out.trans (hbW.mono W2.out.size))
  have cf := HW.out.fuel t ht
  rw [HI.out.2.1, Int.natCast_add] at cf
  have ca2 := HW.out.at_ t ht
  rw [HI.out.2.2.1] at ca2
  have ff := fun o => (HW.out.frozen o).2
  have j0 := (ins_cells IX).1
  have IXH := Lib.hid IX
  have nb : b ≠ tb := HW.out.2.1
  generalize hI : w2.heap.size = I at *
  generalize hE : w1.heap.size = E at *
  generalize hR : w.heap.size = R at *
  have n1 : ¬ tb = I := by omega
  have n2 : ¬ I = tb := by omega
  have n3 : ¬ tb = E := by omega
  have n4 : ¬ E = tb := by omega
  have n5 : ¬ tb = R := by omega
  have n6 : ¬ R = tb := by omega
  have n7 : ¬ b = I := by omega
  have n8 : ¬ I = b := by omega
  have n9 : ¬ b = E := by omega
  have n10 : ¬ E = b := by omega
  have n11 : ¬ b = R := by omega
  have n12 : ¬ R = b := by omega
  have n13 : ¬ tb = b := fun h => nb h.symm
  have n14 : ¬ b = tb := nb
  have n15 : ¬ R = E := by omega
  have n16 : ¬ E = R := by omega
  clear hW hbW H2 EX2 RX2 W2 d0 d1 d2 d3 d4 ca p0 p1 IX
  go_wp2
  generalize hV : (W.setCell ⟨tb, t * 4 + 1, none⟩ (.int .i64 f)).setCell ⟨tb, t * 4, none⟩ (.int .i64 (n + 1)) = V at *
  have hoth : ∀ k, k ≠ tb → V.heap[k]? = W.heap[k]? := fun k hk => by rw [← hV, Below.heap_setCell _ _ _ _ hk, Below.heap_setCell _ _ _ _ hk]
  have HG : Hid (RefAt V b tb (some ⟨ab, ao, none⟩) cap tcap (s.go t)) := by rw [← hV]; exact HW.out.go t f n ht HI.out.2.1 HI.out.2.2.1
  have OV : Hid (Only2 b tb w V) := by rw [← hV]; exact (OW.out.setCell (.inr (.inl rfl)) _ _).setCell (.inr (.inl rfl)) _ _
  obtain ⟨j0v, j1v, j2v, j3v⟩ := ins_cells ((hoth I (fun e => n2 e)).trans IXH.out)
  obtain ⟨x0, x1, x2, x3⟩ := ev_cells ((hoth E (fun e => n4 e)).trans EX.out)
  obtain ⟨e0, e1, e2, e3, ef⟩ := EvBox0.cells ((hoth R (fun e => n6 e)).trans RX.out)
  have f0 := ef 0
  have f1 := ef 1
  have f2 := ef 2
  have f3 := ef 3
  have htg : t < (s.go t).ts.length := by rw [St.go, St.put_len]; exact ht
  clear hV hoth j0 cf ca2 ff ef IXH EX RX HW OW
  have hek : e.kind = 4 := by rw [HE.out]; rfl
  have q4 : (e.kind == 4) = true := by simp [hek]
  have q5 : (e.kind == 5) = false := by simp [hek]
  clear hek
  have cw := HG.out.who x hx2
  have fw := (HG.out.frozen (8 + x)).1
  have GL := Lib.hid (go_lock s t r x m ht)
  go_quiet (fail)
  go_wp2
  go_region
  go_wp2
  refine bodyPost_ret (v := .tuple #[.agg #[.int .i64 e.thread, .int .i64 e.kind, .int .i64 e.obj, .bool e.fail], .int .i64 0]) (by simp [results, Tryz.results33, go_sem, e0, e1, e2, e3]) rfl ⟨rfl, ?_, ?_⟩
  · obtain ⟨hi, hf, hn1, hrl, hvl, hml⟩ := HI.out
    have hg := HG.out
    have h2 := (hg.drewN (nq + 1)).setWho x t hx2 hml
    rw [GL.out] at h2
    exact h2.other4 (by omega) (by omega) _ _ _ _
  · exact ((OV.out.drewN).setCell (.inl rfl) _ _).set4 (Nat.le_of_eq hR) _ _ _ _
end
end Go.Proofs.YtnldkmcijmbhcaaGreat

/- The contract of the document's Step: an unlock. -/
namespace Go.Proofs.YtnldkmcijmbhcaaGreat
open Go.RowKit
section
variable {F : Nat} {w : World} {b tb : Nat} {a : Option Addr} {cap tcap : Nat} {s : St}

set_option maxRecDepth 100000 in
set_option maxHeartbeats 8000000 in
theorem refStep_6 (h : RefAt w b tb a cap tcap s) (hth : ThreadsAt w a s.p.threads) (ok : s.Ok F) (t : Nat) (i : Ins) (hi : s.ins t = some i) (hm : s.may t = true) (hk1 : i.kind = 6) (hw : s.who i.x = t) : Calls Tryz.prog 33 #[.pointer (some ⟨b, 0, none⟩), .int .i64 t] w fun e w' => e = .returned (stepV (s.step t)) ∧ RefAt w' b tb a cap tcap (s.step t).2.2 ∧ Only2 b tb w w' := by
  obtain ⟨k, hkk, ht⟩ := St.ins_nat hi
  obtain rfl : t = k := by omega
  have hst : s.step t = (0, s.ev t i, s.do_ t i) := by
    unfold St.step
    rw [if_pos (by unfold St.has; omega), hi]
    simp only [hm]
    rfl
  have hn : s.next t = some (s.ev t i) := by unfold St.next; rw [hi]; rfl
  rw [hst, stepV_ok]
  dsimp only
  obtain ⟨o1, o2, o3, o4, o5, o6⟩ := ok.obj hi
  have hx0 : 0 ≤ i.x := by
    have := (ok.ins_right hi).1
    unfold rightIns at this
    repeat' split at this
    all_goals first | (simp only [decide_eq_true_eq] at this; omega) | (cases this)
  obtain ⟨_, hfu, hcode⟩ := St.ins_has hi
  simp only [Int.toNat_natCast] at hfu hcode
  have h4 := ok.len4
  have hln := ok.len
  have hrl : (s.th t).r.length = 2 := (ok.thr _ (St.th_mem ht)).1
  have hvl := ok.vl
  have hml := ok.ml
  obtain ⟨f, hf⟩ : ∃ f, (s.th t).fuel = f + 1 := ⟨(s.th t).fuel - 1, by omega⟩
  have hf8 : f ≤ 1000 := by have := (ok.thr _ (St.th_mem ht)).2.2; have := ok.f8; omega
  have h8 := ok.code8 t ht
  obtain ⟨hat, hic⟩ := List.getElem?_eq_some_iff.1 hcode
  obtain ⟨n, hn1⟩ : ∃ n, (s.th t).at_ = n := ⟨_, rfl⟩
  have hkp : t < s.p.threads.length := by omega
  have hcd : s.code t = s.p.threads[t] := getD_lt _ hkp
  obtain ⟨ab, ao, rfl, hc⟩ := hth.2 (by intro e; simp [e] at hkp)
  obtain ⟨c, ccap, c0, c1, _⟩ := hc t hkp
  rw [← hcd] at c0 c1
  obtain ⟨cb, co, rfl, hcc⟩ := c1.2 (by intro e; simp [e] at hat)
  obtain ⟨i0, i1, i2, i3⟩ := hcc _ hat
  rw [hic] at i0 i1 i2 i3
  rw [hn1] at i0 i1 i2 i3 hat
  have p1 := h.prog.2
  have q0 : decide ((t : Int) < 0) = false := by simp
  have q1 : decide ((s.ts.length : Int) ≤ t) = false := by simp; omega
  have q2 : decide (s.ts.length ≤ t) = false := by simp; omega
  obtain ⟨hb1, hb2⟩ := h.lt
  have HB := Lib.hid (h.later (below_alloc1 w (.cells #[.int .i64 0, .int .i64 0, .int .i64 0, .bool false] 81)))
  have HTH := Lib.hid (hth.later (below_alloc1 w (.cells #[.int .i64 0, .int .i64 0, .int .i64 0, .bool false] 81)))
  have OK := Lib.hid ok
  have HM := Lib.hid hm
  obtain ⟨kd, r, x, m⟩ := i
  dsimp only at *
  obtain ⟨r, rfl⟩ : ∃ y : Nat, r = y := ⟨r.toNat, by omega⟩
  obtain ⟨x, rfl⟩ : ∃ y : Nat, x = y := ⟨x.toNat, by omega⟩
  subst hk1
  have hx2 : x < 2 := by have := o2 (.inr rfl); omega
  clear o1 o2 o3
  obtain ⟨e, he⟩ : ∃ e, e = s.ev t ⟨6, r, x, m⟩ := ⟨_, rfl⟩
  rw [← he] at hn ⊢
  have HE := Lib.hid he
  have HN := Lib.hid hn
  have HI := Lib.hid (And.intro hi (And.intro hf (And.intro hn1 (And.intro hrl (And.intro hvl hml)))))
  have HC := Lib.hid (And.intro c0 (And.intro i0 (And.intro i1 (And.intro i2 i3))))
  have h8n : n < 8 := by omega
  have hatn : n < (s.code t).length := by omega
  clear hst h hth ok hi hn he hkk hm hfu hcode hc c1 hcc hic hcd hln hrl hvl hml hf hn1 o6 c0 i0 i1 i2 i3
  try clear hat
  generalize (s.code t).length = ln at *
  go_enter Tryz.func33, Tryz.ntmps33
  go_wp2_with fail
  refine (refNext_any HB.out HTH.out OK.out t).mono ?_
  rw [HN.out, evR_some]
  rintro r9 w1 ⟨rfl, hb3⟩
  have hz : w.heap.size < w1.heap.size := by have := hb3.size; simp at this; omega
  have RX1 : Hid (EvBox0 w1 w.heap.size) := (hb3.block _ (by simp)).trans (heap_alloc_new w _)
  have H1 := Lib.hid ((HB.out.later hb3).later (below_alloc1 w1 (.cells #[.int .i64 e.thread, .int .i64 e.kind, .int .i64 e.obj, .bool e.fail] 81)))
  have T1 := Lib.hid ((HTH.out.later hb3).later (below_alloc1 w1 (.cells #[.int .i64 e.thread, .int .i64 e.kind, .int .i64 e.obj, .bool e.fail] 81)))
  have B1 : Hid (Below w.heap.size w w1) := (below_alloc1 w _).trans (hb3.mono (by simp))
  clear hb3 p1 HB HTH
  go_wp2_with fail
  refine (refEnabled_any H1.out T1.out OK.out t).mono ?_
  rw [HM.out]
  rintro r9 w2 ⟨rfl, hb4⟩
  have EX2 : Hid (w2.heap[w1.heap.size]? = some (.cells #[.int .i64 e.thread, .int .i64 e.kind, .int .i64 e.obj, .bool e.fail] 81 (0, 0))) := (hb4.block _ (by simp)).trans (heap_alloc_new w1 _)
  have B2 : Hid (Below w1.heap.size w1 w2) := (below_alloc1 w1 _).trans (hb4.mono (by simp))
  have RX2 : Hid (EvBox0 w2 w.heap.size) := (B2.out.block _ hz).trans RX1.out
  have H2 := Lib.hid (H1.out.later hb4)
  have W2 : Hid (Below w.heap.size w w2) := B1.out.trans (B2.out.mono (by omega))
  have hz2 : w1.heap.size < w2.heap.size := (Array.getElem?_eq_some_iff.1 EX2.out).1
  have hz3 : w.heap.size < w2.heap.size := by omega
  obtain ⟨p0, p1⟩ := H2.out.prog
  have ca := H2.out.at_ t ht
  rw [HI.out.2.2.1] at ca
  have d0 := cell_later W2.out HC.out.1
  have d1 := cell_later W2.out HC.out.2.1
  have d2 := cell_later W2.out HC.out.2.2.1
  have d3 := cell_later W2.out HC.out.2.2.2.1
  have d4 := cell_later W2.out HC.out.2.2.2.2
  have z0 := cell_block d0
  have z1 := cell_block d1
  dsimp only at z0 z1
  have ltb : tb < w2.heap.size := by omega
  have lb : b < w2.heap.size := by omega
  clear hb4 H1 T1 B1 B2 RX1 HC
  go_wp2
  go_region
  generalize hW : (w2.alloc (.cells #[.int .i64 6, .int .i64 r, .int .i64 x, .int .i64 m] 48)).drew = W at *
  have hbW : Below w2.heap.size w2 W := by rw [← hW]; exact ((Below.refl _ _).alloc (Nat.le_refl _) _).drew
  have IX : W.heap[w2.heap.size]? = some (.cells #[.int .i64 6, .int .i64 r, .int .i64 x, .int .i64 m] 48 (0, 0)) := by rw [← hW]; exact heap_alloc_new w2 _
  have HW := Lib.hid (H2.out.later hbW)
  have EX := Lib.hid ((hbW.block _ hz2).trans EX2.out)
  have RX : Hid (EvBox0 W w.heap.size) := (hbW.block _ hz3).trans RX2.out
  have OW : Hid (Only2 b tb w W) := .of_below (W2.out.trans (hbW.mono W2.out.size))
  have cf := HW.out.fuel t ht
  rw [HI.out.2.1, Int.natCast_add] at cf
  have ca2 := HW.out.at_ t ht
  rw [HI.out.2.2.1] at ca2
  have ff := fun o => (HW.out.frozen o).2
  have j0 := (ins_cells IX).1
  have IXH := Lib.hid IX
  have nb : b ≠ tb := HW.out.2.1
  generalize hI : w2.heap.size = I at *
  generalize hE : w1.heap.size = E at *
  generalize hR : w.heap.size = R at *
  have n1 : ¬ tb = I := by omega
  have n2 : ¬ I = tb := by omega
  have n3 : ¬ tb = E := by omega
  have n4 : ¬ E = tb := by omega
  have n5 : ¬ tb = R := by omega
  have n6 : ¬ R = tb := by omega
  have n7 : ¬ b = I := by omega
  have n8 : ¬ I = b := by omega
  have n9 : ¬ b = E := by omega
  have n10 : ¬ E = b := by omega
  have n11 : ¬ b = R := by omega
  have n12 : ¬ R = b := by omega
  have n13 : ¬ tb = b := fun h => nb h.symm
  have n14 : ¬ b = tb := nb
  have n15 : ¬ R = E := by omega
  have n16 : ¬ E = R := by omega
  clear hW hbW H2 EX2 RX2 W2 d0 d1 d2 d3 d4 ca p0 p1 IX
  go_wp2
  generalize hV : (W.setCell ⟨tb, t * 4 + 1, none⟩ (.int .i64 f)).setCell ⟨tb, t * 4, none⟩ (.int .i64 (n + 1)) = V at *
  have hoth : ∀ k, k ≠ tb → V.heap[k]? = W.heap[k]? := fun k hk => by rw [← hV, Below.heap_setCell _ _ _ _ hk, Below.heap_setCell _ _ _ _ hk]
  have HG : Hid (RefAt V b tb (some ⟨ab, ao, none⟩) cap tcap (s.go t)) := by rw [← hV]; exact HW.out.go t f n ht HI.out.2.1 HI.out.2.2.1
  have OV : Hid (Only2 b tb w V) := by rw [← hV]; exact (OW.out.setCell (.inr (.inl rfl)) _ _).setCell (.inr (.inl rfl)) _ _
  obtain ⟨j0v, j1v, j2v, j3v⟩ := ins_cells ((hoth I (fun e => n2 e)).trans IXH.out)
  obtain ⟨x0, x1, x2, x3⟩ := ev_cells ((hoth E (fun e => n4 e)).trans EX.out)
  obtain ⟨e0, e1, e2, e3, ef⟩ := EvBox0.cells ((hoth R (fun e => n6 e)).trans RX.out)
  have f0 := ef 0
  have f1 := ef 1
  have f2 := ef 2
  have f3 := ef 3
  have htg : t < (s.go t).ts.length := by rw [St.go, St.put_len]; exact ht
  clear hV hoth j0 cf ca2 ff ef IXH EX RX HW OW
  have hek : e.kind = 5 := by rw [HE.out]; unfold St.ev; dsimp only; rw [if_neg (by omega), if_neg (by omega), if_neg (by omega), if_pos rfl, if_pos hw]
  have q4 : (e.kind == 4) = false := by simp [hek]
  have q5 : (e.kind == 5) = true := by simp [hek]
  clear hek
  have cw := HG.out.who x hx2
  have fw := (HG.out.frozen (8 + x)).1
  have gl := go_unlock s t r x m ht
  rw [if_pos (show (s.go t).who x = t from hw)] at gl
  have GL := Lib.hid gl
  clear gl hw
  go_quiet (fail)
  go_wp2
  go_region
  go_wp2
  refine bodyPost_ret (v := .tuple #[.agg #[.int .i64 e.thread, .int .i64 e.kind, .int .i64 e.obj, .bool e.fail], .int .i64 0]) (by simp [results, Tryz.results33, go_sem, e0, e1, e2, e3]) rfl ⟨rfl, ?_, ?_⟩
  · obtain ⟨hi, hf, hn1, hrl, hvl, hml⟩ := HI.out
    have hg := HG.out
    have h2 := (hg.drewN (nq + 1)).setWho x (-1) hx2 hml
    rw [GL.out] at h2
    exact h2.other4 (by omega) (by omega) _ _ _ _
  · exact ((OV.out.drewN).setCell (.inl rfl) _ _).set4 (Nat.le_of_eq hR) _ _ _ _
end
end Go.Proofs.YtnldkmcijmbhcaaGreat

/- The contract of the document's Step: an unlock that fails. -/
namespace Go.Proofs.YtnldkmcijmbhcaaGreat
open Go.RowKit
section
variable {F : Nat} {w : World} {b tb : Nat} {a : Option Addr} {cap tcap : Nat} {s : St}

set_option maxRecDepth 100000 in
set_option maxHeartbeats 8000000 in
theorem refStep_6b (h : RefAt w b tb a cap tcap s) (hth : ThreadsAt w a s.p.threads) (ok : s.Ok F) (t : Nat) (i : Ins) (hi : s.ins t = some i) (hm : s.may t = true) (hk1 : i.kind = 6) (hw : ¬ s.who i.x = t) : Calls Tryz.prog 33 #[.pointer (some ⟨b, 0, none⟩), .int .i64 t] w fun e w' => e = .returned (stepV (s.step t)) ∧ RefAt w' b tb a cap tcap (s.step t).2.2 ∧ Only2 b tb w w' := by
  obtain ⟨k, hkk, ht⟩ := St.ins_nat hi
  obtain rfl : t = k := by omega
  have hst : s.step t = (0, s.ev t i, s.do_ t i) := by
    unfold St.step
    rw [if_pos (by unfold St.has; omega), hi]
    simp only [hm]
    rfl
  have hn : s.next t = some (s.ev t i) := by unfold St.next; rw [hi]; rfl
  rw [hst, stepV_ok]
  dsimp only
  obtain ⟨o1, o2, o3, o4, o5, o6⟩ := ok.obj hi
  have hx0 : 0 ≤ i.x := by
    have := (ok.ins_right hi).1
    unfold rightIns at this
    repeat' split at this
    all_goals first | (simp only [decide_eq_true_eq] at this; omega) | (cases this)
  obtain ⟨_, hfu, hcode⟩ := St.ins_has hi
  simp only [Int.toNat_natCast] at hfu hcode
  have h4 := ok.len4
  have hln := ok.len
  have hrl : (s.th t).r.length = 2 := (ok.thr _ (St.th_mem ht)).1
  have hvl := ok.vl
  have hml := ok.ml
  obtain ⟨f, hf⟩ : ∃ f, (s.th t).fuel = f + 1 := ⟨(s.th t).fuel - 1, by omega⟩
  have hf8 : f ≤ 1000 := by have := (ok.thr _ (St.th_mem ht)).2.2; have := ok.f8; omega
  have h8 := ok.code8 t ht
  obtain ⟨hat, hic⟩ := List.getElem?_eq_some_iff.1 hcode
  obtain ⟨n, hn1⟩ : ∃ n, (s.th t).at_ = n := ⟨_, rfl⟩
  have hkp : t < s.p.threads.length := by omega
  have hcd : s.code t = s.p.threads[t] := getD_lt _ hkp
  obtain ⟨ab, ao, rfl, hc⟩ := hth.2 (by intro e; simp [e] at hkp)
  obtain ⟨c, ccap, c0, c1, _⟩ := hc t hkp
  rw [← hcd] at c0 c1
  obtain ⟨cb, co, rfl, hcc⟩ := c1.2 (by intro e; simp [e] at hat)
  obtain ⟨i0, i1, i2, i3⟩ := hcc _ hat
  rw [hic] at i0 i1 i2 i3
  rw [hn1] at i0 i1 i2 i3 hat
  have p1 := h.prog.2
  have q0 : decide ((t : Int) < 0) = false := by simp
  have q1 : decide ((s.ts.length : Int) ≤ t) = false := by simp; omega
  have q2 : decide (s.ts.length ≤ t) = false := by simp; omega
  obtain ⟨hb1, hb2⟩ := h.lt
  have HB := Lib.hid (h.later (below_alloc1 w (.cells #[.int .i64 0, .int .i64 0, .int .i64 0, .bool false] 81)))
  have HTH := Lib.hid (hth.later (below_alloc1 w (.cells #[.int .i64 0, .int .i64 0, .int .i64 0, .bool false] 81)))
  have OK := Lib.hid ok
  have HM := Lib.hid hm
  obtain ⟨kd, r, x, m⟩ := i
  dsimp only at *
  obtain ⟨r, rfl⟩ : ∃ y : Nat, r = y := ⟨r.toNat, by omega⟩
  obtain ⟨x, rfl⟩ : ∃ y : Nat, x = y := ⟨x.toNat, by omega⟩
  subst hk1
  clear o1 o2 o3
  obtain ⟨e, he⟩ : ∃ e, e = s.ev t ⟨6, r, x, m⟩ := ⟨_, rfl⟩
  rw [← he] at hn ⊢
  have HE := Lib.hid he
  have HN := Lib.hid hn
  have HI := Lib.hid (And.intro hi (And.intro hf (And.intro hn1 (And.intro hrl (And.intro hvl hml)))))
  have HC := Lib.hid (And.intro c0 (And.intro i0 (And.intro i1 (And.intro i2 i3))))
  have h8n : n < 8 := by omega
  have hatn : n < (s.code t).length := by omega
  clear hst h hth ok hi hn he hkk hm hfu hcode hc c1 hcc hic hcd hln hrl hvl hml hf hn1 o6 c0 i0 i1 i2 i3
  try clear hat
  generalize (s.code t).length = ln at *
  go_enter Tryz.func33, Tryz.ntmps33
  go_wp2_with fail
  refine (refNext_any HB.out HTH.out OK.out t).mono ?_
  rw [HN.out, evR_some]
  rintro r9 w1 ⟨rfl, hb3⟩
  have hz : w.heap.size < w1.heap.size := by have := hb3.size; simp at this; omega
  have RX1 : Hid (EvBox0 w1 w.heap.size) := (hb3.block _ (by simp)).trans (heap_alloc_new w _)
  have H1 := Lib.hid ((HB.out.later hb3).later (below_alloc1 w1 (.cells #[.int .i64 e.thread, .int .i64 e.kind, .int .i64 e.obj, .bool e.fail] 81)))
  have T1 := Lib.hid ((HTH.out.later hb3).later (below_alloc1 w1 (.cells #[.int .i64 e.thread, .int .i64 e.kind, .int .i64 e.obj, .bool e.fail] 81)))
  have B1 : Hid (Below w.heap.size w w1) := (below_alloc1 w _).trans (hb3.mono (by simp))
  clear hb3 p1 HB HTH
  go_wp2_with fail
  refine (refEnabled_any H1.out T1.out OK.out t).mono ?_
  rw [HM.out]
  rintro r9 w2 ⟨rfl, hb4⟩
  have EX2 : Hid (w2.heap[w1.heap.size]? = some (.cells #[.int .i64 e.thread, .int .i64 e.kind, .int .i64 e.obj, .bool e.fail] 81 (0, 0))) := (hb4.block _ (by simp)).trans (heap_alloc_new w1 _)
  have B2 : Hid (Below w1.heap.size w1 w2) := (below_alloc1 w1 _).trans (hb4.mono (by simp))
  have RX2 : Hid (EvBox0 w2 w.heap.size) := (B2.out.block _ hz).trans RX1.out
  have H2 := Lib.hid (H1.out.later hb4)
  have W2 : Hid (Below w.heap.size w w2) := B1.out.trans (B2.out.mono (by omega))
  have hz2 : w1.heap.size < w2.heap.size := (Array.getElem?_eq_some_iff.1 EX2.out).1
  have hz3 : w.heap.size < w2.heap.size := by omega
  obtain ⟨p0, p1⟩ := H2.out.prog
  have ca := H2.out.at_ t ht
  rw [HI.out.2.2.1] at ca
  have d0 := cell_later W2.out HC.out.1
  have d1 := cell_later W2.out HC.out.2.1
  have d2 := cell_later W2.out HC.out.2.2.1
  have d3 := cell_later W2.out HC.out.2.2.2.1
  have d4 := cell_later W2.out HC.out.2.2.2.2
  have z0 := cell_block d0
  have z1 := cell_block d1
  dsimp only at z0 z1
  have ltb : tb < w2.heap.size := by omega
  have lb : b < w2.heap.size := by omega
  clear hb4 H1 T1 B1 B2 RX1 HC
  go_wp2
  go_region
  generalize hW : (w2.alloc (.cells #[.int .i64 6, .int .i64 r, .int .i64 x, .int .i64 m] 48)).drew = W at *
  have hbW : Below w2.heap.size w2 W := by rw [← hW]; exact ((Below.refl _ _).alloc (Nat.le_refl _) _).drew
  have IX : W.heap[w2.heap.size]? = some (.cells #[.int .i64 6, .int .i64 r, .int .i64 x, .int .i64 m] 48 (0, 0)) := by rw [← hW]; exact heap_alloc_new w2 _
  have HW := Lib.hid (H2.out.later hbW)
  have EX := Lib.hid ((hbW.block _ hz2).trans EX2.out)
  have RX : Hid (EvBox0 W w.heap.size) := (hbW.block _ hz3).trans RX2.out
  have OW : Hid (Only2 b tb w W) := .of_below (W2.out.trans (hbW.mono W2.out.size))
  have cf := HW.out.fuel t ht
  rw [HI.out.2.1, Int.natCast_add] at cf
  have ca2 := HW.out.at_ t ht
  rw [HI.out.2.2.1] at ca2
  have ff := fun o => (HW.out.frozen o).2
  have j0 := (ins_cells IX).1
  have IXH := Lib.hid IX
  have nb : b ≠ tb := HW.out.2.1
  generalize hI : w2.heap.size = I at *
  generalize hE : w1.heap.size = E at *
  generalize hR : w.heap.size = R at *
  have n1 : ¬ tb = I := by omega
  have n2 : ¬ I = tb := by omega
  have n3 : ¬ tb = E := by omega
  have n4 : ¬ E = tb := by omega
  have n5 : ¬ tb = R := by omega
  have n6 : ¬ R = tb := by omega
  have n7 : ¬ b = I := by omega
  have n8 : ¬ I = b := by omega
  have n9 : ¬ b = E := by omega
  have n10 : ¬ E = b := by omega
  have n11 : ¬ b = R := by omega
  have n12 : ¬ R = b := by omega
  have n13 : ¬ tb = b := fun h => nb h.symm
  have n14 : ¬ b = tb := nb
  have n15 : ¬ R = E := by omega
  have n16 : ¬ E = R := by omega
  clear hW hbW H2 EX2 RX2 W2 d0 d1 d2 d3 d4 ca p0 p1 IX
  go_wp2
  generalize hV : (W.setCell ⟨tb, t * 4 + 1, none⟩ (.int .i64 f)).setCell ⟨tb, t * 4, none⟩ (.int .i64 (n + 1)) = V at *
  have hoth : ∀ k, k ≠ tb → V.heap[k]? = W.heap[k]? := fun k hk => by rw [← hV, Below.heap_setCell _ _ _ _ hk, Below.heap_setCell _ _ _ _ hk]
  have HG : Hid (RefAt V b tb (some ⟨ab, ao, none⟩) cap tcap (s.go t)) := by rw [← hV]; exact HW.out.go t f n ht HI.out.2.1 HI.out.2.2.1
  have OV : Hid (Only2 b tb w V) := by rw [← hV]; exact (OW.out.setCell (.inr (.inl rfl)) _ _).setCell (.inr (.inl rfl)) _ _
  obtain ⟨j0v, j1v, j2v, j3v⟩ := ins_cells ((hoth I (fun e => n2 e)).trans IXH.out)
  obtain ⟨x0, x1, x2, x3⟩ := ev_cells ((hoth E (fun e => n4 e)).trans EX.out)
  obtain ⟨e0, e1, e2, e3, ef⟩ := EvBox0.cells ((hoth R (fun e => n6 e)).trans RX.out)
  have f0 := ef 0
  have f1 := ef 1
  have f2 := ef 2
  have f3 := ef 3
  have htg : t < (s.go t).ts.length := by rw [St.go, St.put_len]; exact ht
  clear hV hoth j0 cf ca2 ff ef IXH EX RX HW OW
  have hek : e.kind = 1 := by rw [HE.out]; unfold St.ev; dsimp only; rw [if_neg (by omega), if_neg (by omega), if_neg (by omega), if_pos rfl, if_neg hw]
  have q4 : (e.kind == 4) = false := by simp [hek]
  have q5 : (e.kind == 5) = false := by simp [hek]
  clear hek
  have gl := go_unlock s t r x m ht
  rw [if_neg (show ¬ (s.go t).who x = t from hw)] at gl
  have GL := Lib.hid gl
  clear gl hw
  go_quiet (fail)
  go_wp2
  refine bodyPost_ret (v := .tuple #[.agg #[.int .i64 e.thread, .int .i64 e.kind, .int .i64 e.obj, .bool e.fail], .int .i64 0]) (by simp [results, Tryz.results33, go_sem, e0, e1, e2, e3]) rfl ⟨rfl, ?_, ?_⟩
  · obtain ⟨hi, hf, hn1, hrl, hvl, hml⟩ := HI.out
    have hg := HG.out
    have h2 := hg.drewN nq
    rw [GL.out] at h2
    exact h2.other4 (by omega) (by omega) _ _ _ _
  · exact (OV.out.drewN).set4 (Nat.le_of_eq hR) _ _ _ _
end
end Go.Proofs.YtnldkmcijmbhcaaGreat

/- The contract of the document's Step: a jump. -/
namespace Go.Proofs.YtnldkmcijmbhcaaGreat
open Go.RowKit
section
variable {F : Nat} {w : World} {b tb : Nat} {a : Option Addr} {cap tcap : Nat} {s : St}

set_option maxRecDepth 100000 in
set_option maxHeartbeats 8000000 in
theorem refStep_7 (h : RefAt w b tb a cap tcap s) (hth : ThreadsAt w a s.p.threads) (ok : s.Ok F) (t : Nat) (i : Ins) (hi : s.ins t = some i) (hm : s.may t = true) (hk1 : i.kind = 7) (hw : ¬ (s.th t).r.getD i.r.toNat 0 = 0) : Calls Tryz.prog 33 #[.pointer (some ⟨b, 0, none⟩), .int .i64 t] w fun e w' => e = .returned (stepV (s.step t)) ∧ RefAt w' b tb a cap tcap (s.step t).2.2 ∧ Only2 b tb w w' := by
  obtain ⟨k, hkk, ht⟩ := St.ins_nat hi
  obtain rfl : t = k := by omega
  have hst : s.step t = (0, s.ev t i, s.do_ t i) := by
    unfold St.step
    rw [if_pos (by unfold St.has; omega), hi]
    simp only [hm]
    rfl
  have hn : s.next t = some (s.ev t i) := by unfold St.next; rw [hi]; rfl
  rw [hst, stepV_ok]
  dsimp only
  obtain ⟨o1, o2, o3, o4, o5, o6⟩ := ok.obj hi
  have hx0 : 0 ≤ i.x := by
    have := (ok.ins_right hi).1
    unfold rightIns at this
    repeat' split at this
    all_goals first | (simp only [decide_eq_true_eq] at this; omega) | (cases this)
  obtain ⟨_, hfu, hcode⟩ := St.ins_has hi
  simp only [Int.toNat_natCast] at hfu hcode
  have h4 := ok.len4
  have hln := ok.len
  have hrl : (s.th t).r.length = 2 := (ok.thr _ (St.th_mem ht)).1
  have hvl := ok.vl
  have hml := ok.ml
  obtain ⟨f, hf⟩ : ∃ f, (s.th t).fuel = f + 1 := ⟨(s.th t).fuel - 1, by omega⟩
  have hf8 : f ≤ 1000 := by have := (ok.thr _ (St.th_mem ht)).2.2; have := ok.f8; omega
  have h8 := ok.code8 t ht
  obtain ⟨hat, hic⟩ := List.getElem?_eq_some_iff.1 hcode
  obtain ⟨n, hn1⟩ : ∃ n, (s.th t).at_ = n := ⟨_, rfl⟩
  have hkp : t < s.p.threads.length := by omega
  have hcd : s.code t = s.p.threads[t] := getD_lt _ hkp
  obtain ⟨ab, ao, rfl, hc⟩ := hth.2 (by intro e; simp [e] at hkp)
  obtain ⟨c, ccap, c0, c1, _⟩ := hc t hkp
  rw [← hcd] at c0 c1
  obtain ⟨cb, co, rfl, hcc⟩ := c1.2 (by intro e; simp [e] at hat)
  obtain ⟨i0, i1, i2, i3⟩ := hcc _ hat
  rw [hic] at i0 i1 i2 i3
  rw [hn1] at i0 i1 i2 i3 hat
  have p1 := h.prog.2
  have q0 : decide ((t : Int) < 0) = false := by simp
  have q1 : decide ((s.ts.length : Int) ≤ t) = false := by simp; omega
  have q2 : decide (s.ts.length ≤ t) = false := by simp; omega
  obtain ⟨hb1, hb2⟩ := h.lt
  have HB := Lib.hid (h.later (below_alloc1 w (.cells #[.int .i64 0, .int .i64 0, .int .i64 0, .bool false] 81)))
  have HTH := Lib.hid (hth.later (below_alloc1 w (.cells #[.int .i64 0, .int .i64 0, .int .i64 0, .bool false] 81)))
  have OK := Lib.hid ok
  have HM := Lib.hid hm
  obtain ⟨kd, r, x, m⟩ := i
  dsimp only at *
  obtain ⟨r, rfl⟩ : ∃ y : Nat, r = y := ⟨r.toNat, by omega⟩
  obtain ⟨x, rfl⟩ : ∃ y : Nat, x = y := ⟨x.toNat, by omega⟩
  subst hk1
  have hr2 : r < 2 := by omega
  clear o1 o2 o3
  obtain ⟨e, he⟩ : ∃ e, e = s.ev t ⟨7, r, x, m⟩ := ⟨_, rfl⟩
  rw [← he] at hn ⊢
  have HE := Lib.hid he
  have HN := Lib.hid hn
  have HI := Lib.hid (And.intro hi (And.intro hf (And.intro hn1 (And.intro hrl (And.intro hvl hml)))))
  have HC := Lib.hid (And.intro c0 (And.intro i0 (And.intro i1 (And.intro i2 i3))))
  have h8n : n < 8 := by omega
  have hatn : n < (s.code t).length := by omega
  clear hst h hth ok hi hn he hkk hm hfu hcode hc c1 hcc hic hcd hln hrl hvl hml hf hn1 o6 c0 i0 i1 i2 i3
  try clear hat
  generalize (s.code t).length = ln at *
  go_enter Tryz.func33, Tryz.ntmps33
  go_wp2_with fail
  refine (refNext_any HB.out HTH.out OK.out t).mono ?_
  rw [HN.out, evR_some]
  rintro r9 w1 ⟨rfl, hb3⟩
  have hz : w.heap.size < w1.heap.size := by have := hb3.size; simp at this; omega
  have RX1 : Hid (EvBox0 w1 w.heap.size) := (hb3.block _ (by simp)).trans (heap_alloc_new w _)
  have H1 := Lib.hid ((HB.out.later hb3).later (below_alloc1 w1 (.cells #[.int .i64 e.thread, .int .i64 e.kind, .int .i64 e.obj, .bool e.fail] 81)))
  have T1 := Lib.hid ((HTH.out.later hb3).later (below_alloc1 w1 (.cells #[.int .i64 e.thread, .int .i64 e.kind, .int .i64 e.obj, .bool e.fail] 81)))
  have B1 : Hid (Below w.heap.size w w1) := (below_alloc1 w _).trans (hb3.mono (by simp))
  clear hb3 p1 HB HTH
  go_wp2_with fail
  refine (refEnabled_any H1.out T1.out OK.out t).mono ?_
  rw [HM.out]
  rintro r9 w2 ⟨rfl, hb4⟩
  have EX2 : Hid (w2.heap[w1.heap.size]? = some (.cells #[.int .i64 e.thread, .int .i64 e.kind, .int .i64 e.obj, .bool e.fail] 81 (0, 0))) := (hb4.block _ (by simp)).trans (heap_alloc_new w1 _)
  have B2 : Hid (Below w1.heap.size w1 w2) := (below_alloc1 w1 _).trans (hb4.mono (by simp))
  have RX2 : Hid (EvBox0 w2 w.heap.size) := (B2.out.block _ hz).trans RX1.out
  have H2 := Lib.hid (H1.out.later hb4)
  have W2 : Hid (Below w.heap.size w w2) := B1.out.trans (B2.out.mono (by omega))
  have hz2 : w1.heap.size < w2.heap.size := (Array.getElem?_eq_some_iff.1 EX2.out).1
  have hz3 : w.heap.size < w2.heap.size := by omega
  obtain ⟨p0, p1⟩ := H2.out.prog
  have ca := H2.out.at_ t ht
  rw [HI.out.2.2.1] at ca
  have d0 := cell_later W2.out HC.out.1
  have d1 := cell_later W2.out HC.out.2.1
  have d2 := cell_later W2.out HC.out.2.2.1
  have d3 := cell_later W2.out HC.out.2.2.2.1
  have d4 := cell_later W2.out HC.out.2.2.2.2
  have z0 := cell_block d0
  have z1 := cell_block d1
  dsimp only at z0 z1
  have ltb : tb < w2.heap.size := by omega
  have lb : b < w2.heap.size := by omega
  clear hb4 H1 T1 B1 B2 RX1 HC
  go_wp2
  go_region
  generalize hW : (w2.alloc (.cells #[.int .i64 7, .int .i64 r, .int .i64 x, .int .i64 m] 48)).drew = W at *
  have hbW : Below w2.heap.size w2 W := by rw [← hW]; exact ((Below.refl _ _).alloc (Nat.le_refl _) _).drew
  have IX : W.heap[w2.heap.size]? = some (.cells #[.int .i64 7, .int .i64 r, .int .i64 x, .int .i64 m] 48 (0, 0)) := by rw [← hW]; exact heap_alloc_new w2 _
  have HW := Lib.hid (H2.out.later hbW)
  have EX := Lib.hid ((hbW.block _ hz2).trans EX2.out)
  have RX : Hid (EvBox0 W w.heap.size) := (hbW.block _ hz3).trans RX2.out
  have OW : Hid (Only2 b tb w W) := .of_below (W2.out.trans (hbW.mono W2.out.size))
  have cf := HW.out.fuel t ht
  rw [HI.out.2.1, Int.natCast_add] at cf
  have ca2 := HW.out.at_ t ht
  rw [HI.out.2.2.1] at ca2
  have ff := fun o => (HW.out.frozen o).2
  have j0 := (ins_cells IX).1
  have IXH := Lib.hid IX
  have nb : b ≠ tb := HW.out.2.1
  generalize hI : w2.heap.size = I at *
  generalize hE : w1.heap.size = E at *
  generalize hR : w.heap.size = R at *
  have n1 : ¬ tb = I := by omega
  have n2 : ¬ I = tb := by omega
  have n3 : ¬ tb = E := by omega
  have n4 : ¬ E = tb := by omega
  have n5 : ¬ tb = R := by omega
  have n6 : ¬ R = tb := by omega
  have n7 : ¬ b = I := by omega
  have n8 : ¬ I = b := by omega
  have n9 : ¬ b = E := by omega
  have n10 : ¬ E = b := by omega
  have n11 : ¬ b = R := by omega
  have n12 : ¬ R = b := by omega
  have n13 : ¬ tb = b := fun h => nb h.symm
  have n14 : ¬ b = tb := nb
  have n15 : ¬ R = E := by omega
  have n16 : ¬ E = R := by omega
  clear hW hbW H2 EX2 RX2 W2 d0 d1 d2 d3 d4 ca p0 p1 IX
  go_wp2
  generalize hV : (W.setCell ⟨tb, t * 4 + 1, none⟩ (.int .i64 f)).setCell ⟨tb, t * 4, none⟩ (.int .i64 (n + 1)) = V at *
  have hoth : ∀ k, k ≠ tb → V.heap[k]? = W.heap[k]? := fun k hk => by rw [← hV, Below.heap_setCell _ _ _ _ hk, Below.heap_setCell _ _ _ _ hk]
  have HG : Hid (RefAt V b tb (some ⟨ab, ao, none⟩) cap tcap (s.go t)) := by rw [← hV]; exact HW.out.go t f n ht HI.out.2.1 HI.out.2.2.1
  have OV : Hid (Only2 b tb w V) := by rw [← hV]; exact (OW.out.setCell (.inr (.inl rfl)) _ _).setCell (.inr (.inl rfl)) _ _
  obtain ⟨j0v, j1v, j2v, j3v⟩ := ins_cells ((hoth I (fun e => n2 e)).trans IXH.out)
  obtain ⟨x0, x1, x2, x3⟩ := ev_cells ((hoth E (fun e => n4 e)).trans EX.out)
  obtain ⟨e0, e1, e2, e3, ef⟩ := EvBox0.cells ((hoth R (fun e => n6 e)).trans RX.out)
  have f0 := ef 0
  have f1 := ef 1
  have f2 := ef 2
  have f3 := ef 3
  have htg : t < (s.go t).ts.length := by rw [St.go, St.put_len]; exact ht
  clear hV hoth j0 cf ca2 ff ef IXH EX RX HW OW
  have gl := go_jump s t r x m ht
  rw [St.go_th s t ht, if_neg (show ¬ (s.th t).r.getD r 0 = 0 from hw)] at gl
  have cr := HG.out.reg t htg r hr2
  have ca := HG.out.at_ t htg
  have fa := (HG.out.frozen (t * 4)).2
  have q7 : (((s.go t).th t).r.getD r 0 != 0) = true := by rw [St.go_th s t ht]; simpa using hw
  generalize ((s.go t).th t).r.getD r 0 = vv at *
  have GL := Lib.hid gl
  clear gl hw
  go_quiet (fail)
  go_wp2
  refine bodyPost_ret (v := .tuple #[.agg #[.int .i64 e.thread, .int .i64 e.kind, .int .i64 e.obj, .bool e.fail], .int .i64 0]) (by simp [results, Tryz.results33, go_sem, e0, e1, e2, e3]) rfl ⟨rfl, ?_, ?_⟩
  · obtain ⟨hi, hf, hn1, hrl, hvl, hml⟩ := HI.out
    have hg := HG.out
    have h2 := (hg.drewN nq).setAt t x htg
    rw [St.go_th s t ht, GL.out] at h2
    exact h2.other4 (by omega) (by omega) _ _ _ _
  · exact ((OV.out.drewN).setCell (.inr (.inl rfl)) _ _).set4 (Nat.le_of_eq hR) _ _ _ _
end
end Go.Proofs.YtnldkmcijmbhcaaGreat

/- The contract of the document's Step: a jump that is none. -/
namespace Go.Proofs.YtnldkmcijmbhcaaGreat
open Go.RowKit
section
variable {F : Nat} {w : World} {b tb : Nat} {a : Option Addr} {cap tcap : Nat} {s : St}

set_option maxRecDepth 100000 in
set_option maxHeartbeats 8000000 in
theorem refStep_7z (h : RefAt w b tb a cap tcap s) (hth : ThreadsAt w a s.p.threads) (ok : s.Ok F) (t : Nat) (i : Ins) (hi : s.ins t = some i) (hm : s.may t = true) (hk1 : i.kind = 7) (hw : (s.th t).r.getD i.r.toNat 0 = 0) : Calls Tryz.prog 33 #[.pointer (some ⟨b, 0, none⟩), .int .i64 t] w fun e w' => e = .returned (stepV (s.step t)) ∧ RefAt w' b tb a cap tcap (s.step t).2.2 ∧ Only2 b tb w w' := by
  obtain ⟨k, hkk, ht⟩ := St.ins_nat hi
  obtain rfl : t = k := by omega
  have hst : s.step t = (0, s.ev t i, s.do_ t i) := by
    unfold St.step
    rw [if_pos (by unfold St.has; omega), hi]
    simp only [hm]
    rfl
  have hn : s.next t = some (s.ev t i) := by unfold St.next; rw [hi]; rfl
  rw [hst, stepV_ok]
  dsimp only
  obtain ⟨o1, o2, o3, o4, o5, o6⟩ := ok.obj hi
  have hx0 : 0 ≤ i.x := by
    have := (ok.ins_right hi).1
    unfold rightIns at this
    repeat' split at this
    all_goals first | (simp only [decide_eq_true_eq] at this; omega) | (cases this)
  obtain ⟨_, hfu, hcode⟩ := St.ins_has hi
  simp only [Int.toNat_natCast] at hfu hcode
  have h4 := ok.len4
  have hln := ok.len
  have hrl : (s.th t).r.length = 2 := (ok.thr _ (St.th_mem ht)).1
  have hvl := ok.vl
  have hml := ok.ml
  obtain ⟨f, hf⟩ : ∃ f, (s.th t).fuel = f + 1 := ⟨(s.th t).fuel - 1, by omega⟩
  have hf8 : f ≤ 1000 := by have := (ok.thr _ (St.th_mem ht)).2.2; have := ok.f8; omega
  have h8 := ok.code8 t ht
  obtain ⟨hat, hic⟩ := List.getElem?_eq_some_iff.1 hcode
  obtain ⟨n, hn1⟩ : ∃ n, (s.th t).at_ = n := ⟨_, rfl⟩
  have hkp : t < s.p.threads.length := by omega
  have hcd : s.code t = s.p.threads[t] := getD_lt _ hkp
  obtain ⟨ab, ao, rfl, hc⟩ := hth.2 (by intro e; simp [e] at hkp)
  obtain ⟨c, ccap, c0, c1, _⟩ := hc t hkp
  rw [← hcd] at c0 c1
  obtain ⟨cb, co, rfl, hcc⟩ := c1.2 (by intro e; simp [e] at hat)
  obtain ⟨i0, i1, i2, i3⟩ := hcc _ hat
  rw [hic] at i0 i1 i2 i3
  rw [hn1] at i0 i1 i2 i3 hat
  have p1 := h.prog.2
  have q0 : decide ((t : Int) < 0) = false := by simp
  have q1 : decide ((s.ts.length : Int) ≤ t) = false := by simp; omega
  have q2 : decide (s.ts.length ≤ t) = false := by simp; omega
  obtain ⟨hb1, hb2⟩ := h.lt
  have HB := Lib.hid (h.later (below_alloc1 w (.cells #[.int .i64 0, .int .i64 0, .int .i64 0, .bool false] 81)))
  have HTH := Lib.hid (hth.later (below_alloc1 w (.cells #[.int .i64 0, .int .i64 0, .int .i64 0, .bool false] 81)))
  have OK := Lib.hid ok
  have HM := Lib.hid hm
  obtain ⟨kd, r, x, m⟩ := i
  dsimp only at *
  obtain ⟨r, rfl⟩ : ∃ y : Nat, r = y := ⟨r.toNat, by omega⟩
  obtain ⟨x, rfl⟩ : ∃ y : Nat, x = y := ⟨x.toNat, by omega⟩
  subst hk1
  have hr2 : r < 2 := by omega
  clear o1 o2 o3
  obtain ⟨e, he⟩ : ∃ e, e = s.ev t ⟨7, r, x, m⟩ := ⟨_, rfl⟩
  rw [← he] at hn ⊢
  have HE := Lib.hid he
  have HN := Lib.hid hn
  have HI := Lib.hid (And.intro hi (And.intro hf (And.intro hn1 (And.intro hrl (And.intro hvl hml)))))
  have HC := Lib.hid (And.intro c0 (And.intro i0 (And.intro i1 (And.intro i2 i3))))
  have h8n : n < 8 := by omega
  have hatn : n < (s.code t).length := by omega
  clear hst h hth ok hi hn he hkk hm hfu hcode hc c1 hcc hic hcd hln hrl hvl hml hf hn1 o6 c0 i0 i1 i2 i3
  try clear hat
  generalize (s.code t).length = ln at *
  go_enter Tryz.func33, Tryz.ntmps33
  go_wp2_with fail
  refine (refNext_any HB.out HTH.out OK.out t).mono ?_
  rw [HN.out, evR_some]
  rintro r9 w1 ⟨rfl, hb3⟩
  have hz : w.heap.size < w1.heap.size := by have := hb3.size; simp at this; omega
  have RX1 : Hid (EvBox0 w1 w.heap.size) := (hb3.block _ (by simp)).trans (heap_alloc_new w _)
  have H1 := Lib.hid ((HB.out.later hb3).later (below_alloc1 w1 (.cells #[.int .i64 e.thread, .int .i64 e.kind, .int .i64 e.obj, .bool e.fail] 81)))
  have T1 := Lib.hid ((HTH.out.later hb3).later (below_alloc1 w1 (.cells #[.int .i64 e.thread, .int .i64 e.kind, .int .i64 e.obj, .bool e.fail] 81)))
  have B1 : Hid (Below w.heap.size w w1) := (below_alloc1 w _).trans (hb3.mono (by simp))
  clear hb3 p1 HB HTH
  go_wp2_with fail
  refine (refEnabled_any H1.out T1.out OK.out t).mono ?_
  rw [HM.out]
  rintro r9 w2 ⟨rfl, hb4⟩
  have EX2 : Hid (w2.heap[w1.heap.size]? = some (.cells #[.int .i64 e.thread, .int .i64 e.kind, .int .i64 e.obj, .bool e.fail] 81 (0, 0))) := (hb4.block _ (by simp)).trans (heap_alloc_new w1 _)
  have B2 : Hid (Below w1.heap.size w1 w2) := (below_alloc1 w1 _).trans (hb4.mono (by simp))
  have RX2 : Hid (EvBox0 w2 w.heap.size) := (B2.out.block _ hz).trans RX1.out
  have H2 := Lib.hid (H1.out.later hb4)
  have W2 : Hid (Below w.heap.size w w2) := B1.out.trans (B2.out.mono (by omega))
  have hz2 : w1.heap.size < w2.heap.size := (Array.getElem?_eq_some_iff.1 EX2.out).1
  have hz3 : w.heap.size < w2.heap.size := by omega
  obtain ⟨p0, p1⟩ := H2.out.prog
  have ca := H2.out.at_ t ht
  rw [HI.out.2.2.1] at ca
  have d0 := cell_later W2.out HC.out.1
  have d1 := cell_later W2.out HC.out.2.1
  have d2 := cell_later W2.out HC.out.2.2.1
  have d3 := cell_later W2.out HC.out.2.2.2.1
  have d4 := cell_later W2.out HC.out.2.2.2.2
  have z0 := cell_block d0
  have z1 := cell_block d1
  dsimp only at z0 z1
  have ltb : tb < w2.heap.size := by omega
  have lb : b < w2.heap.size := by omega
  clear hb4 H1 T1 B1 B2 RX1 HC
  go_wp2
  go_region
  generalize hW : (w2.alloc (.cells #[.int .i64 7, .int .i64 r, .int .i64 x, .int .i64 m] 48)).drew = W at *
  have hbW : Below w2.heap.size w2 W := by rw [← hW]; exact ((Below.refl _ _).alloc (Nat.le_refl _) _).drew
  have IX : W.heap[w2.heap.size]? = some (.cells #[.int .i64 7, .int .i64 r, .int .i64 x, .int .i64 m] 48 (0, 0)) := by rw [← hW]; exact heap_alloc_new w2 _
  have HW := Lib.hid (H2.out.later hbW)
  have EX := Lib.hid ((hbW.block _ hz2).trans EX2.out)
  have RX : Hid (EvBox0 W w.heap.size) := (hbW.block _ hz3).trans RX2.out
  have OW : Hid (Only2 b tb w W) := .of_below (W2.out.trans (hbW.mono W2.out.size))
  have cf := HW.out.fuel t ht
  rw [HI.out.2.1, Int.natCast_add] at cf
  have ca2 := HW.out.at_ t ht
  rw [HI.out.2.2.1] at ca2
  have ff := fun o => (HW.out.frozen o).2
  have j0 := (ins_cells IX).1
  have IXH := Lib.hid IX
  have nb : b ≠ tb := HW.out.2.1
  generalize hI : w2.heap.size = I at *
  generalize hE : w1.heap.size = E at *
  generalize hR : w.heap.size = R at *
  have n1 : ¬ tb = I := by omega
  have n2 : ¬ I = tb := by omega
  have n3 : ¬ tb = E := by omega
  have n4 : ¬ E = tb := by omega
  have n5 : ¬ tb = R := by omega
  have n6 : ¬ R = tb := by omega
  have n7 : ¬ b = I := by omega
  have n8 : ¬ I = b := by omega
  have n9 : ¬ b = E := by omega
  have n10 : ¬ E = b := by omega
  have n11 : ¬ b = R := by omega
  have n12 : ¬ R = b := by omega
  have n13 : ¬ tb = b := fun h => nb h.symm
  have n14 : ¬ b = tb := nb
  have n15 : ¬ R = E := by omega
  have n16 : ¬ E = R := by omega
  clear hW hbW H2 EX2 RX2 W2 d0 d1 d2 d3 d4 ca p0 p1 IX
  go_wp2
  generalize hV : (W.setCell ⟨tb, t * 4 + 1, none⟩ (.int .i64 f)).setCell ⟨tb, t * 4, none⟩ (.int .i64 (n + 1)) = V at *
  have hoth : ∀ k, k ≠ tb → V.heap[k]? = W.heap[k]? := fun k hk => by rw [← hV, Below.heap_setCell _ _ _ _ hk, Below.heap_setCell _ _ _ _ hk]
  have HG : Hid (RefAt V b tb (some ⟨ab, ao, none⟩) cap tcap (s.go t)) := by rw [← hV]; exact HW.out.go t f n ht HI.out.2.1 HI.out.2.2.1
  have OV : Hid (Only2 b tb w V) := by rw [← hV]; exact (OW.out.setCell (.inr (.inl rfl)) _ _).setCell (.inr (.inl rfl)) _ _
  obtain ⟨j0v, j1v, j2v, j3v⟩ := ins_cells ((hoth I (fun e => n2 e)).trans IXH.out)
  obtain ⟨x0, x1, x2, x3⟩ := ev_cells ((hoth E (fun e => n4 e)).trans EX.out)
  obtain ⟨e0, e1, e2, e3, ef⟩ := EvBox0.cells ((hoth R (fun e => n6 e)).trans RX.out)
  have f0 := ef 0
  have f1 := ef 1
  have f2 := ef 2
  have f3 := ef 3
  have htg : t < (s.go t).ts.length := by rw [St.go, St.put_len]; exact ht
  clear hV hoth j0 cf ca2 ff ef IXH EX RX HW OW
  have hek : e.kind = 1 := by rw [HE.out]; rfl
  have q4 : (e.kind == 4) = false := by simp [hek]
  have q5 : (e.kind == 5) = false := by simp [hek]
  clear hek
  have gl := go_jump s t r x m ht
  rw [St.go_th s t ht, if_pos (show (s.th t).r.getD r 0 = 0 from hw)] at gl
  have cr := HG.out.reg t htg r hr2
  have q7 : (((s.go t).th t).r.getD r 0 != 0) = false := by rw [St.go_th s t ht]; simpa using hw
  generalize ((s.go t).th t).r.getD r 0 = vv at *
  have GL := Lib.hid gl
  clear gl hw
  go_quiet (fail)
  go_wp2
  refine bodyPost_ret (v := .tuple #[.agg #[.int .i64 e.thread, .int .i64 e.kind, .int .i64 e.obj, .bool e.fail], .int .i64 0]) (by simp [results, Tryz.results33, go_sem, e0, e1, e2, e3]) rfl ⟨rfl, ?_, ?_⟩
  · obtain ⟨hi, hf, hn1, hrl, hvl, hml⟩ := HI.out
    have hg := HG.out
    have h2 := hg.drewN nq
    rw [GL.out] at h2
    exact h2.other4 (by omega) (by omega) _ _ _ _
  · exact (OV.out.drewN).set4 (Nat.le_of_eq hR) _ _ _ _
end
end Go.Proofs.YtnldkmcijmbhcaaGreat

/- The contract of the document's Step: an assertion. -/
namespace Go.Proofs.YtnldkmcijmbhcaaGreat
open Go.RowKit
section
variable {F : Nat} {w : World} {b tb : Nat} {a : Option Addr} {cap tcap : Nat} {s : St}

set_option maxRecDepth 100000 in
set_option maxHeartbeats 8000000 in
theorem refStep_8 (h : RefAt w b tb a cap tcap s) (hth : ThreadsAt w a s.p.threads) (ok : s.Ok F) (t : Nat) (i : Ins) (hi : s.ins t = some i) (hm : s.may t = true) (hk1 : i.kind = 8) : Calls Tryz.prog 33 #[.pointer (some ⟨b, 0, none⟩), .int .i64 t] w fun e w' => e = .returned (stepV (s.step t)) ∧ RefAt w' b tb a cap tcap (s.step t).2.2 ∧ Only2 b tb w w' := by
  obtain ⟨k, hkk, ht⟩ := St.ins_nat hi
  obtain rfl : t = k := by omega
  have hst : s.step t = (0, s.ev t i, s.do_ t i) := by
    unfold St.step
    rw [if_pos (by unfold St.has; omega), hi]
    simp only [hm]
    rfl
  have hn : s.next t = some (s.ev t i) := by unfold St.next; rw [hi]; rfl
  rw [hst, stepV_ok]
  dsimp only
  obtain ⟨o1, o2, o3, o4, o5, o6⟩ := ok.obj hi
  have hx0 : 0 ≤ i.x := by
    have := (ok.ins_right hi).1
    unfold rightIns at this
    repeat' split at this
    all_goals first | (simp only [decide_eq_true_eq] at this; omega) | (cases this)
  obtain ⟨_, hfu, hcode⟩ := St.ins_has hi
  simp only [Int.toNat_natCast] at hfu hcode
  have h4 := ok.len4
  have hln := ok.len
  have hrl : (s.th t).r.length = 2 := (ok.thr _ (St.th_mem ht)).1
  have hvl := ok.vl
  have hml := ok.ml
  obtain ⟨f, hf⟩ : ∃ f, (s.th t).fuel = f + 1 := ⟨(s.th t).fuel - 1, by omega⟩
  have hf8 : f ≤ 1000 := by have := (ok.thr _ (St.th_mem ht)).2.2; have := ok.f8; omega
  have h8 := ok.code8 t ht
  obtain ⟨hat, hic⟩ := List.getElem?_eq_some_iff.1 hcode
  obtain ⟨n, hn1⟩ : ∃ n, (s.th t).at_ = n := ⟨_, rfl⟩
  have hkp : t < s.p.threads.length := by omega
  have hcd : s.code t = s.p.threads[t] := getD_lt _ hkp
  obtain ⟨ab, ao, rfl, hc⟩ := hth.2 (by intro e; simp [e] at hkp)
  obtain ⟨c, ccap, c0, c1, _⟩ := hc t hkp
  rw [← hcd] at c0 c1
  obtain ⟨cb, co, rfl, hcc⟩ := c1.2 (by intro e; simp [e] at hat)
  obtain ⟨i0, i1, i2, i3⟩ := hcc _ hat
  rw [hic] at i0 i1 i2 i3
  rw [hn1] at i0 i1 i2 i3 hat
  have p1 := h.prog.2
  have q0 : decide ((t : Int) < 0) = false := by simp
  have q1 : decide ((s.ts.length : Int) ≤ t) = false := by simp; omega
  have q2 : decide (s.ts.length ≤ t) = false := by simp; omega
  obtain ⟨hb1, hb2⟩ := h.lt
  have HB := Lib.hid (h.later (below_alloc1 w (.cells #[.int .i64 0, .int .i64 0, .int .i64 0, .bool false] 81)))
  have HTH := Lib.hid (hth.later (below_alloc1 w (.cells #[.int .i64 0, .int .i64 0, .int .i64 0, .bool false] 81)))
  have OK := Lib.hid ok
  have HM := Lib.hid hm
  obtain ⟨kd, r, x, m⟩ := i
  dsimp only at *
  obtain ⟨r, rfl⟩ : ∃ y : Nat, r = y := ⟨r.toNat, by omega⟩
  obtain ⟨x, rfl⟩ : ∃ y : Nat, x = y := ⟨x.toNat, by omega⟩
  subst hk1
  clear o1 o2 o3
  obtain ⟨e, he⟩ : ∃ e, e = s.ev t ⟨8, r, x, m⟩ := ⟨_, rfl⟩
  rw [← he] at hn ⊢
  have HE := Lib.hid he
  have HN := Lib.hid hn
  have HI := Lib.hid (And.intro hi (And.intro hf (And.intro hn1 (And.intro hrl (And.intro hvl hml)))))
  have HC := Lib.hid (And.intro c0 (And.intro i0 (And.intro i1 (And.intro i2 i3))))
  have h8n : n < 8 := by omega
  have hatn : n < (s.code t).length := by omega
  clear hst h hth ok hi hn he hkk hm hfu hcode hc c1 hcc hic hcd hln hrl hvl hml hf hn1 o6 c0 i0 i1 i2 i3
  try clear hat
  generalize (s.code t).length = ln at *
  go_enter Tryz.func33, Tryz.ntmps33
  go_wp2_with fail
  refine (refNext_any HB.out HTH.out OK.out t).mono ?_
  rw [HN.out, evR_some]
  rintro r9 w1 ⟨rfl, hb3⟩
  have hz : w.heap.size < w1.heap.size := by have := hb3.size; simp at this; omega
  have RX1 : Hid (EvBox0 w1 w.heap.size) := (hb3.block _ (by simp)).trans (heap_alloc_new w _)
  have H1 := Lib.hid ((HB.out.later hb3).later (below_alloc1 w1 (.cells #[.int .i64 e.thread, .int .i64 e.kind, .int .i64 e.obj, .bool e.fail] 81)))
  have T1 := Lib.hid ((HTH.out.later hb3).later (below_alloc1 w1 (.cells #[.int .i64 e.thread, .int .i64 e.kind, .int .i64 e.obj, .bool e.fail] 81)))
  have B1 : Hid (Below w.heap.size w w1) := (below_alloc1 w _).trans (hb3.mono (by simp))
  clear hb3 p1 HB HTH
  go_wp2_with fail
  refine (refEnabled_any H1.out T1.out OK.out t).mono ?_
  rw [HM.out]
  rintro r9 w2 ⟨rfl, hb4⟩
  have EX2 : Hid (w2.heap[w1.heap.size]? = some (.cells #[.int .i64 e.thread, .int .i64 e.kind, .int .i64 e.obj, .bool e.fail] 81 (0, 0))) := (hb4.block _ (by simp)).trans (heap_alloc_new w1 _)
  have B2 : Hid (Below w1.heap.size w1 w2) := (below_alloc1 w1 _).trans (hb4.mono (by simp))
  have RX2 : Hid (EvBox0 w2 w.heap.size) := (B2.out.block _ hz).trans RX1.out
  have H2 := Lib.hid (H1.out.later hb4)
  have W2 : Hid (Below w.heap.size w w2) := B1.out.trans (B2.out.mono (by omega))
  have hz2 : w1.heap.size < w2.heap.size := (Array.getElem?_eq_some_iff.1 EX2.out).1
  have hz3 : w.heap.size < w2.heap.size := by omega
  obtain ⟨p0, p1⟩ := H2.out.prog
  have ca := H2.out.at_ t ht
  rw [HI.out.2.2.1] at ca
  have d0 := cell_later W2.out HC.out.1
  have d1 := cell_later W2.out HC.out.2.1
  have d2 := cell_later W2.out HC.out.2.2.1
  have d3 := cell_later W2.out HC.out.2.2.2.1
  have d4 := cell_later W2.out HC.out.2.2.2.2
  have z0 := cell_block d0
  have z1 := cell_block d1
  dsimp only at z0 z1
  have ltb : tb < w2.heap.size := by omega
  have lb : b < w2.heap.size := by omega
  clear hb4 H1 T1 B1 B2 RX1 HC
  go_wp2
  go_region
  generalize hW : (w2.alloc (.cells #[.int .i64 8, .int .i64 r, .int .i64 x, .int .i64 m] 48)).drew = W at *
  have hbW : Below w2.heap.size w2 W := by rw [← hW]; exact ((Below.refl _ _).alloc (Nat.le_refl _) _).drew
  have IX : W.heap[w2.heap.size]? = some (.cells #[.int .i64 8, .int .i64 r, .int .i64 x, .int .i64 m] 48 (0, 0)) := by rw [← hW]; exact heap_alloc_new w2 _
  have HW := Lib.hid (H2.out.later hbW)
  have EX := Lib.hid ((hbW.block _ hz2).trans EX2.out)
  have RX : Hid (EvBox0 W w.heap.size) := (hbW.block _ hz3).trans RX2.out
  have OW : Hid (Only2 b tb w W) := .of_below (W2.out.trans (hbW.mono W2.out.size))
  have cf := HW.out.fuel t ht
  rw [HI.out.2.1, Int.natCast_add] at cf
  have ca2 := HW.out.at_ t ht
  rw [HI.out.2.2.1] at ca2
  have ff := fun o => (HW.out.frozen o).2
  have j0 := (ins_cells IX).1
  have IXH := Lib.hid IX
  have nb : b ≠ tb := HW.out.2.1
  generalize hI : w2.heap.size = I at *
  generalize hE : w1.heap.size = E at *
  generalize hR : w.heap.size = R at *
  have n1 : ¬ tb = I := by omega
  have n2 : ¬ I = tb := by omega
  have n3 : ¬ tb = E := by omega
  have n4 : ¬ E = tb := by omega
  have n5 : ¬ tb = R := by omega
  have n6 : ¬ R = tb := by omega
  have n7 : ¬ b = I := by omega
  have n8 : ¬ I = b := by omega
  have n9 : ¬ b = E := by omega
  have n10 : ¬ E = b := by omega
  have n11 : ¬ b = R := by omega
  have n12 : ¬ R = b := by omega
  have n13 : ¬ tb = b := fun h => nb h.symm
  have n14 : ¬ b = tb := nb
  have n15 : ¬ R = E := by omega
  have n16 : ¬ E = R := by omega
  clear hW hbW H2 EX2 RX2 W2 d0 d1 d2 d3 d4 ca p0 p1 IX
  go_wp2
  generalize hV : (W.setCell ⟨tb, t * 4 + 1, none⟩ (.int .i64 f)).setCell ⟨tb, t * 4, none⟩ (.int .i64 (n + 1)) = V at *
  have hoth : ∀ k, k ≠ tb → V.heap[k]? = W.heap[k]? := fun k hk => by rw [← hV, Below.heap_setCell _ _ _ _ hk, Below.heap_setCell _ _ _ _ hk]
  have HG : Hid (RefAt V b tb (some ⟨ab, ao, none⟩) cap tcap (s.go t)) := by rw [← hV]; exact HW.out.go t f n ht HI.out.2.1 HI.out.2.2.1
  have OV : Hid (Only2 b tb w V) := by rw [← hV]; exact (OW.out.setCell (.inr (.inl rfl)) _ _).setCell (.inr (.inl rfl)) _ _
  obtain ⟨j0v, j1v, j2v, j3v⟩ := ins_cells ((hoth I (fun e => n2 e)).trans IXH.out)
  obtain ⟨x0, x1, x2, x3⟩ := ev_cells ((hoth E (fun e => n4 e)).trans EX.out)
  obtain ⟨e0, e1, e2, e3, ef⟩ := EvBox0.cells ((hoth R (fun e => n6 e)).trans RX.out)
  have f0 := ef 0
  have f1 := ef 1
  have f2 := ef 2
  have f3 := ef 3
  have htg : t < (s.go t).ts.length := by rw [St.go, St.put_len]; exact ht
  clear hV hoth j0 cf ca2 ff ef IXH EX RX HW OW
  have hek : e.kind = 1 := by rw [HE.out]; rfl
  have q4 : (e.kind == 4) = false := by simp [hek]
  have q5 : (e.kind == 5) = false := by simp [hek]
  clear hek
  have GL := Lib.hid (go_assert s t r x m ht)
  go_quiet (fail)
  go_wp2
  refine bodyPost_ret (v := .tuple #[.agg #[.int .i64 e.thread, .int .i64 e.kind, .int .i64 e.obj, .bool e.fail], .int .i64 0]) (by simp [results, Tryz.results33, go_sem, e0, e1, e2, e3]) rfl ⟨rfl, ?_, ?_⟩
  · obtain ⟨hi, hf, hn1, hrl, hvl, hml⟩ := HI.out
    have hg := HG.out
    have h2 := hg.drewN nq
    rw [GL.out] at h2
    exact h2.other4 (by omega) (by omega) _ _ _ _
  · exact (OV.out.drewN).set4 (Nat.le_of_eq hR) _ _ _ _
end
end Go.Proofs.YtnldkmcijmbhcaaGreat

/- The contract of the document's Step. -/
namespace Go.Proofs.YtnldkmcijmbhcaaGreat
open Go.RowKit

theorem refStep_any {F : Nat} {w : World} {b tb : Nat} {a : Option Addr} {cap tcap : Nat} {s : St} (h : RefAt w b tb a cap tcap s) (hth : ThreadsAt w a s.p.threads) (ok : s.Ok F) (t : Int) :
    Calls Tryz.prog 33 #[.pointer (some ⟨b, 0, none⟩), .int .i64 t] w fun e w' => e = .returned (stepV (s.step t)) ∧ RefAt w' b tb a cap tcap (s.step t).2.2 ∧ Only2 b tb w w' := by
  cases hb : belowB t s.ts.length
  · exact refStep_range h t hb
  · have hb' : 0 ≤ t ∧ t < s.ts.length := by simpa [belowB] using hb
    cases hi : s.ins t with
    | none =>
      obtain ⟨k, rfl⟩ : ∃ k : Nat, t = k := ⟨t.toNat, by omega⟩
      exact refStep_none h hth ok k (by omega) hi
    | some i =>
      obtain ⟨k, rfl, _⟩ := St.ins_nat hi
      cases hm : s.may k
      · exact refStep_state h hth ok k i hi hm
      · have hk : i.kind = 1 ∨ i.kind = 2 ∨ i.kind = 3 ∨ i.kind = 4 ∨ i.kind = 5 ∨ i.kind = 6 ∨ i.kind = 7 ∨ i.kind = 8 := by
          have := (ok.ins_right hi).1
          unfold rightIns at this
          repeat' split at this
          all_goals first | omega | (cases this)
        rcases hk with h1 | h1 | h1 | h1 | h1 | h1 | h1 | h1
        · exact refStep_1 h hth ok k i hi hm h1
        · exact refStep_2 h hth ok k i hi hm h1
        · exact refStep_3 h hth ok k i hi hm h1
        · exact refStep_4 h hth ok k i hi hm h1
        · exact refStep_5 h hth ok k i hi hm h1
        · by_cases hw : s.who i.x = k
          · exact refStep_6 h hth ok k i hi hm h1 hw
          · exact refStep_6b h hth ok k i hi hm h1 hw
        · by_cases hw : (s.th k).r.getD i.r.toNat 0 = 0
          · exact refStep_7z h hth ok k i hi hm h1 hw
          · exact refStep_7 h hth ok k i hi hm h1 hw
        · exact refStep_8 h hth ok k i hi hm h1

end Go.Proofs.YtnldkmcijmbhcaaGreat

/- Where each event of a row stands, one by one: the document's levels, plainly. -/
namespace Go.Proofs.YtnldkmcijmbhcaaGreat
open Go.RowKit

/-- The level of the i-th event. -/
def atL (l : List Ev) (i : Nat) : Nat := lvN (lvls (l.take i)) (evI l i)
theorem lvls_take (l : List Ev) {k : Nat} (hk : k < l.length) : lvls (l.take (k + 1)) = addL (lvls (l.take k)) (evI l k) := by
  rw [← lvls_snoc, evI_get hk, List.take_add_one, List.getElem?_eq_getElem hk]
  rfl
theorem mem_level (l : List Ev) : ∀ k, k ≤ l.length → ∀ j x, x ∈ (lvls (l.take k)).getD j [] ↔ ∃ i, i < k ∧ evI l i = x ∧ atL l i = j
  | 0, _, j, x => by
    have : lvls (l.take 0) = [] := by rw [List.take_zero]; rfl
    rw [this]
    simp [List.getD]
  | k + 1, hk, j, x => by
    have ih := mem_level l k (by omega) j x
    rw [lvls_take l (by omega), addL_get]
    by_cases h : j = lvN (lvls (l.take k)) (evI l k)
    · rw [if_pos h, mem_insE, ih]
      constructor
      · rintro (rfl | ⟨i, hi, h1, h2⟩)
        · exact ⟨k, by omega, rfl, h.symm⟩
        · exact ⟨i, by omega, h1, h2⟩
      · rintro ⟨i, hi, h1, h2⟩
        by_cases e : i = k
        · subst e; exact .inl h1.symm
        · exact .inr ⟨i, by omega, h1, h2⟩
    · rw [if_neg h, ih]
      constructor
      · rintro ⟨i, hi, h1, h2⟩
        exact ⟨i, by omega, h1, h2⟩
      · rintro ⟨i, hi, h1, h2⟩
        refine ⟨i, ?_, h1, h2⟩
        by_cases e : i = k
        · subst e; exact absurd h2.symm h
        · omega
/-- The greatest level but one of those ahead that it depends on. -/
def maxN (l : List Ev) (e : Ev) (k : Nat) : Nat := top (fun i => atL l i + 1) (fun i => dep (evI l i) e) k
theorem maxN_succ (l : List Ev) (e : Ev) (k : Nat) : maxN l e (k + 1) = if dep (evI l k) e then max (maxN l e k) (atL l k + 1) else maxN l e k := by
  unfold maxN
  rw [top_succ]
theorem maxN_lvN (l : List Ev) (e : Ev) {k : Nat} (hk : k ≤ l.length) : maxN l e k = lvN (lvls (l.take k)) e := by
  apply Nat.le_antisymm
  · refine top_le fun i hi hd => ?_
    have hm : evI l i ∈ (lvls (l.take k)).getD (atL l i) [] := (mem_level l k hk _ _).2 ⟨i, hi, rfl, rfl⟩
    have hlt : atL l i < (lvls (l.take k)).length := by
      apply Classical.byContradiction
      intro hn
      simp [List.getD, List.getElem?_eq_none (Nat.le_of_not_lt hn)] at hm
    exact lvN_ge hlt ⟨_, hm, hd⟩
  · cases h : lvN (lvls (l.take k)) e with
    | zero => exact Nat.zero_le _
    | succ j =>
      obtain ⟨x, hx, hd⟩ := lvN_some h
      obtain ⟨i, hi, h1, h2⟩ := (mem_level l k hk j x).1 hx
      have := top_ge (f := fun i => atL l i + 1) (q := fun i => dep (evI l i) e) hi (by show dep (evI l i) e = true; rw [h1]; exact hd)
      unfold maxN
      simp only [h2] at this
      omega
theorem atL_le (l : List Ev) {i : Nat} (hi : i < l.length) : atL l i ≤ i := by
  have h1 := lvN_le (lvls (l.take i)) (evI l i)
  have h2 := lv_count (l.take i)
  rw [List.length_take] at h2
  unfold atL
  omega

end Go.Proofs.YtnldkmcijmbhcaaGreat
