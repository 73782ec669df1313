import Derived.StillTailTactics
import Derived.Test.YtbmhcnldcfaipaaPk01
import Derived.Test.YtbmhcnldcfaipaaPk02

/- The contract of the document's Step: a store. -/
namespace Go.Proofs.Ytbmhcnldcfaipaa
open Go.RowKit
section
variable {F : Nat} {w : World} {b tb : Nat} {a : Option Addr} {cap tcap : Nat} {s : St}

set_option maxRecDepth 100000 in
set_option maxHeartbeats 8000000 in
theorem refStep_2 (h : RefAt w b tb a cap tcap s) (hth : ThreadsAt w a s.p.threads) (ok : s.Ok F) (t : Nat) (i : Ins) (hi : s.ins t = some i) (hm : s.may t = true) (hk1 : i.kind = 2) : Calls Try.prog 36 #[.pointer (some ⟨b, 0, none⟩), .int .i64 t] w fun e w' => e = .returned (stepV (s.step t)) ∧ RefAt w' b tb a cap tcap (s.step t).2.2 ∧ Only2 b tb w w' := by
  obtain ⟨k, hkk, ht⟩ := St.ins_nat hi
  obtain rfl : t = k := by omega
  have hst : s.step t = (0, s.ev t i, s.do_ t i) := by
    unfold St.step
    rw [if_pos (by unfold St.has; omega), hi]
    simp only [hm]
    rfl
  have hn : s.next t = some (s.ev t i) := by unfold St.next; rw [hi]; rfl
  rw [hst, stepV_ok]
  dsimp only
  obtain ⟨o1, o2, o3, o4, o5, o6⟩ := ok.obj hi
  have hx0 : 0 ≤ i.x := by
    have := (ok.ins_right hi).1
    unfold rightIns at this
    repeat' split at this
    all_goals first | (simp only [decide_eq_true_eq] at this; omega) | (cases this)
  obtain ⟨_, hfu, hcode⟩ := St.ins_has hi
  simp only [Int.toNat_natCast] at hfu hcode
  have h4 := ok.len4
  have hln := ok.len
  have hrl : (s.th t).r.length = 2 := (ok.thr _ (St.th_mem ht)).1
  have hvl := ok.vl
  have hml := ok.ml
  obtain ⟨f, hf⟩ : ∃ f, (s.th t).fuel = f + 1 := ⟨(s.th t).fuel - 1, by omega⟩
  have hf8 : f ≤ 1000 := by have := (ok.thr _ (St.th_mem ht)).2.2; have := ok.f8; omega
  have h8 := ok.code8 t ht
  obtain ⟨hat, hic⟩ := List.getElem?_eq_some_iff.1 hcode
  obtain ⟨n, hn1⟩ : ∃ n, (s.th t).at_ = n := ⟨_, rfl⟩
  have hkp : t < s.p.threads.length := by omega
  have hcd : s.code t = s.p.threads[t] := getD_lt _ hkp
  obtain ⟨ab, ao, rfl, hc⟩ := hth.2 (by intro e; simp [e] at hkp)
  obtain ⟨c, ccap, c0, c1, _⟩ := hc t hkp
  rw [← hcd] at c0 c1
  obtain ⟨cb, co, rfl, hcc⟩ := c1.2 (by intro e; simp [e] at hat)
  obtain ⟨i0, i1, i2, i3⟩ := hcc _ hat
  rw [hic] at i0 i1 i2 i3
  rw [hn1] at i0 i1 i2 i3 hat
  have p1 := h.prog.2
  have q0 : decide ((t : Int) < 0) = false := by simp
  have q1 : decide ((s.ts.length : Int) ≤ t) = false := by simp; omega
  have q2 : decide (s.ts.length ≤ t) = false := by simp; omega
  obtain ⟨hb1, hb2⟩ := h.lt
  have HB := Lib.hid (h.later (below_alloc1 w (.cells #[.int .i64 0, .int .i64 0, .int .i64 0, .bool false] 54)))
  have HTH := Lib.hid (hth.later (below_alloc1 w (.cells #[.int .i64 0, .int .i64 0, .int .i64 0, .bool false] 54)))
  have OK := Lib.hid ok
  have HM := Lib.hid hm
  obtain ⟨kd, r, x, m⟩ := i
  dsimp only at *
  obtain ⟨r, rfl⟩ : ∃ y : Nat, r = y := ⟨r.toNat, by omega⟩
  obtain ⟨x, rfl⟩ : ∃ y : Nat, x = y := ⟨x.toNat, by omega⟩
  subst hk1
  have hr2 : r < 2 := by omega
  have hx4 : x < 4 := by have := o1 (.inr rfl); omega
  clear o1 o2 o3
  obtain ⟨e, he⟩ : ∃ e, e = s.ev t ⟨2, r, x, m⟩ := ⟨_, rfl⟩
  rw [← he] at hn ⊢
  have HE := Lib.hid he
  have HN := Lib.hid hn
  have HI := Lib.hid (And.intro hi (And.intro hf (And.intro hn1 (And.intro hrl (And.intro hvl hml)))))
  have HC := Lib.hid (And.intro c0 (And.intro i0 (And.intro i1 (And.intro i2 i3))))
  have h8n : n < 8 := by omega
  have hatn : n < (s.code t).length := by omega
  clear hst h hth ok hi hn he hkk hm hfu hcode hc c1 hcc hic hcd hln hrl hvl hml hf hn1 o6 c0 i0 i1 i2 i3
  try clear hat
  generalize (s.code t).length = ln at *
  go_enter Try.func36, Try.ntmps36
  go_wp2_with fail
  refine (refNext_any HB.out HTH.out OK.out t).mono ?_
  rw [HN.out, evR_some]
  rintro r9 w1 ⟨rfl, hb3⟩
  have hz : w.heap.size < w1.heap.size := by have := hb3.size; simp at this; omega
  have RX1 : Hid (EvBox0 w1 w.heap.size) := (hb3.block _ (by simp)).trans (heap_alloc_new w _)
  have H1 := Lib.hid ((HB.out.later hb3).later (below_alloc1 w1 (.cells #[.int .i64 e.thread, .int .i64 e.kind, .int .i64 e.obj, .bool e.fail] 54)))
  have T1 := Lib.hid ((HTH.out.later hb3).later (below_alloc1 w1 (.cells #[.int .i64 e.thread, .int .i64 e.kind, .int .i64 e.obj, .bool e.fail] 54)))
  have B1 : Hid (Below w.heap.size w w1) := (below_alloc1 w _).trans (hb3.mono (by simp))
  clear hb3 p1 HB HTH
  go_wp2_with fail
  refine (refEnabled_any H1.out T1.out OK.out t).mono ?_
  rw [HM.out]
  rintro r9 w2 ⟨rfl, hb4⟩
  have EX2 : Hid (w2.heap[w1.heap.size]? = some (.cells #[.int .i64 e.thread, .int .i64 e.kind, .int .i64 e.obj, .bool e.fail] 54 (0, 0))) := (hb4.block _ (by simp)).trans (heap_alloc_new w1 _)
  have B2 : Hid (Below w1.heap.size w1 w2) := (below_alloc1 w1 _).trans (hb4.mono (by simp))
  have RX2 : Hid (EvBox0 w2 w.heap.size) := (B2.out.block _ hz).trans RX1.out
  have H2 := Lib.hid (H1.out.later hb4)
  have W2 : Hid (Below w.heap.size w w2) := B1.out.trans (B2.out.mono (by omega))
  have hz2 : w1.heap.size < w2.heap.size := (Array.getElem?_eq_some_iff.1 EX2.out).1
  have hz3 : w.heap.size < w2.heap.size := by omega
  obtain ⟨p0, p1⟩ := H2.out.prog
  have ca := H2.out.at_ t ht
  rw [HI.out.2.2.1] at ca
  have d0 := cell_later W2.out HC.out.1
  have d1 := cell_later W2.out HC.out.2.1
  have d2 := cell_later W2.out HC.out.2.2.1
  have d3 := cell_later W2.out HC.out.2.2.2.1
  have d4 := cell_later W2.out HC.out.2.2.2.2
  have z0 := cell_block d0
  have z1 := cell_block d1
  dsimp only at z0 z1
  have ltb : tb < w2.heap.size := by omega
  have lb : b < w2.heap.size := by omega
  clear hb4 H1 T1 B1 B2 RX1 HC
  go_wp2
  go_region
  generalize hW : (w2.alloc (.cells #[.int .i64 2, .int .i64 r, .int .i64 x, .int .i64 m] 64)).drew = W at *
  have hbW : Below w2.heap.size w2 W := by rw [← hW]; exact ((Below.refl _ _).alloc (Nat.le_refl _) _).drew
  have IX : W.heap[w2.heap.size]? = some (.cells #[.int .i64 2, .int .i64 r, .int .i64 x, .int .i64 m] 64 (0, 0)) := by rw [← hW]; exact heap_alloc_new w2 _
  have HW := Lib.hid (H2.out.later hbW)
  have EX := Lib.hid ((hbW.block _ hz2).trans EX2.out)
  have RX : Hid (EvBox0 W w.heap.size) := (hbW.block _ hz3).trans RX2.out
  have OW : Hid (Only2 b tb w W) := .of_below (W2.out.trans (hbW.mono W2.out.size))
  have cf := HW.out.fuel t ht
  rw [HI.out.2.1, Int.natCast_add] at cf
  have ca2 := HW.out.at_ t ht
  rw [HI.out.2.2.1] at ca2
  have ff := fun o => (HW.out.frozen o).2
  have j0 := (ins_cells IX).1
  have IXH := Lib.hid IX
  have nb : b ≠ tb := HW.out.2.1
  generalize hI : w2.heap.size = I at *
  generalize hE : w1.heap.size = E at *
  generalize hR : w.heap.size = R at *
  have n1 : ¬ tb = I := by omega
  have n2 : ¬ I = tb := by omega
  have n3 : ¬ tb = E := by omega
  have n4 : ¬ E = tb := by omega
  have n5 : ¬ tb = R := by omega
  have n6 : ¬ R = tb := by omega
  have n7 : ¬ b = I := by omega
  have n8 : ¬ I = b := by omega
  have n9 : ¬ b = E := by omega
  have n10 : ¬ E = b := by omega
  have n11 : ¬ b = R := by omega
  have n12 : ¬ R = b := by omega
  have n13 : ¬ tb = b := fun h => nb h.symm
  have n14 : ¬ b = tb := nb
  have n15 : ¬ R = E := by omega
  have n16 : ¬ E = R := by omega
  clear hW hbW H2 EX2 RX2 W2 d0 d1 d2 d3 d4 ca p0 p1 IX
  go_wp2
  generalize hV : (W.setCell ⟨tb, t * 4 + 1, none⟩ (.int .i64 f)).setCell ⟨tb, t * 4, none⟩ (.int .i64 (n + 1)) = V at *
  have hoth : ∀ k, k ≠ tb → V.heap[k]? = W.heap[k]? := fun k hk => by rw [← hV, Below.heap_setCell _ _ _ _ hk, Below.heap_setCell _ _ _ _ hk]
  have HG : Hid (RefAt V b tb (some ⟨ab, ao, none⟩) cap tcap (s.go t)) := by rw [← hV]; exact HW.out.go t f n ht HI.out.2.1 HI.out.2.2.1
  have OV : Hid (Only2 b tb w V) := by rw [← hV]; exact (OW.out.setCell (.inr (.inl rfl)) _ _).setCell (.inr (.inl rfl)) _ _
  obtain ⟨j0v, j1v, j2v, j3v⟩ := ins_cells ((hoth I (fun e => n2 e)).trans IXH.out)
  obtain ⟨x0, x1, x2, x3⟩ := ev_cells ((hoth E (fun e => n4 e)).trans EX.out)
  obtain ⟨e0, e1, e2, e3, ef⟩ := EvBox0.cells ((hoth R (fun e => n6 e)).trans RX.out)
  have f0 := ef 0
  have f1 := ef 1
  have f2 := ef 2
  have f3 := ef 3
  have htg : t < (s.go t).ts.length := by rw [St.go, St.put_len]; exact ht
  clear hV hoth j0 cf ca2 ff ef IXH EX RX HW OW
  have cv := HG.out.var x hx4
  have fv := (HG.out.frozen (4 + x)).1
  have gl := go_store s t r x m ht
  have cr := HG.out.reg t htg r hr2
  generalize ((s.go t).th t).r.getD r 0 = vv at *
  have GL := Lib.hid gl
  clear gl
  go_region
  go_wp2
  refine bodyPost_ret (v := .tuple #[.agg #[.int .i64 e.thread, .int .i64 e.kind, .int .i64 e.obj, .bool e.fail], .int .i64 0]) (by simp [results, Try.results36, go_sem, e0, e1, e2, e3]) rfl ⟨rfl, ?_, ?_⟩
  · obtain ⟨hi, hf, hn1, hrl, hvl, hml⟩ := HI.out
    have hg := HG.out
    have h2 := hg.setVar x vv hx4 hvl
    rw [GL.out] at h2
    exact (h2.other4 (by omega) (by omega) _ _ _ _).drewN 1
  · exact ((OV.out.setCell (.inl rfl) _ _).set4 (Nat.le_of_eq hR) _ _ _ _).drew
end
end Go.Proofs.Ytbmhcnldcfaipaa

/- The contract of the document's Step: a set. -/
namespace Go.Proofs.Ytbmhcnldcfaipaa
open Go.RowKit
section
variable {F : Nat} {w : World} {b tb : Nat} {a : Option Addr} {cap tcap : Nat} {s : St}

set_option maxRecDepth 100000 in
set_option maxHeartbeats 8000000 in
theorem refStep_3 (h : RefAt w b tb a cap tcap s) (hth : ThreadsAt w a s.p.threads) (ok : s.Ok F) (t : Nat) (i : Ins) (hi : s.ins t = some i) (hm : s.may t = true) (hk1 : i.kind = 3) : Calls Try.prog 36 #[.pointer (some ⟨b, 0, none⟩), .int .i64 t] w fun e w' => e = .returned (stepV (s.step t)) ∧ RefAt w' b tb a cap tcap (s.step t).2.2 ∧ Only2 b tb w w' := by
  obtain ⟨k, hkk, ht⟩ := St.ins_nat hi
  obtain rfl : t = k := by omega
  have hst : s.step t = (0, s.ev t i, s.do_ t i) := by
    unfold St.step
    rw [if_pos (by unfold St.has; omega), hi]
    simp only [hm]
    rfl
  have hn : s.next t = some (s.ev t i) := by unfold St.next; rw [hi]; rfl
  rw [hst, stepV_ok]
  dsimp only
  obtain ⟨o1, o2, o3, o4, o5, o6⟩ := ok.obj hi
  have hx0 : 0 ≤ i.x := by
    have := (ok.ins_right hi).1
    unfold rightIns at this
    repeat' split at this
    all_goals first | (simp only [decide_eq_true_eq] at this; omega) | (cases this)
  obtain ⟨_, hfu, hcode⟩ := St.ins_has hi
  simp only [Int.toNat_natCast] at hfu hcode
  have h4 := ok.len4
  have hln := ok.len
  have hrl : (s.th t).r.length = 2 := (ok.thr _ (St.th_mem ht)).1
  have hvl := ok.vl
  have hml := ok.ml
  obtain ⟨f, hf⟩ : ∃ f, (s.th t).fuel = f + 1 := ⟨(s.th t).fuel - 1, by omega⟩
  have hf8 : f ≤ 1000 := by have := (ok.thr _ (St.th_mem ht)).2.2; have := ok.f8; omega
  have h8 := ok.code8 t ht
  obtain ⟨hat, hic⟩ := List.getElem?_eq_some_iff.1 hcode
  obtain ⟨n, hn1⟩ : ∃ n, (s.th t).at_ = n := ⟨_, rfl⟩
  have hkp : t < s.p.threads.length := by omega
  have hcd : s.code t = s.p.threads[t] := getD_lt _ hkp
  obtain ⟨ab, ao, rfl, hc⟩ := hth.2 (by intro e; simp [e] at hkp)
  obtain ⟨c, ccap, c0, c1, _⟩ := hc t hkp
  rw [← hcd] at c0 c1
  obtain ⟨cb, co, rfl, hcc⟩ := c1.2 (by intro e; simp [e] at hat)
  obtain ⟨i0, i1, i2, i3⟩ := hcc _ hat
  rw [hic] at i0 i1 i2 i3
  rw [hn1] at i0 i1 i2 i3 hat
  have p1 := h.prog.2
  have q0 : decide ((t : Int) < 0) = false := by simp
  have q1 : decide ((s.ts.length : Int) ≤ t) = false := by simp; omega
  have q2 : decide (s.ts.length ≤ t) = false := by simp; omega
  obtain ⟨hb1, hb2⟩ := h.lt
  have HB := Lib.hid (h.later (below_alloc1 w (.cells #[.int .i64 0, .int .i64 0, .int .i64 0, .bool false] 54)))
  have HTH := Lib.hid (hth.later (below_alloc1 w (.cells #[.int .i64 0, .int .i64 0, .int .i64 0, .bool false] 54)))
  have OK := Lib.hid ok
  have HM := Lib.hid hm
  obtain ⟨kd, r, x, m⟩ := i
  dsimp only at *
  obtain ⟨r, rfl⟩ : ∃ y : Nat, r = y := ⟨r.toNat, by omega⟩
  obtain ⟨x, rfl⟩ : ∃ y : Nat, x = y := ⟨x.toNat, by omega⟩
  subst hk1
  have hr2 : r < 2 := by omega
  clear o1 o2 o3
  obtain ⟨e, he⟩ : ∃ e, e = s.ev t ⟨3, r, x, m⟩ := ⟨_, rfl⟩
  rw [← he] at hn ⊢
  have HE := Lib.hid he
  have HN := Lib.hid hn
  have HI := Lib.hid (And.intro hi (And.intro hf (And.intro hn1 (And.intro hrl (And.intro hvl hml)))))
  have HC := Lib.hid (And.intro c0 (And.intro i0 (And.intro i1 (And.intro i2 i3))))
  have h8n : n < 8 := by omega
  have hatn : n < (s.code t).length := by omega
  clear hst h hth ok hi hn he hkk hm hfu hcode hc c1 hcc hic hcd hln hrl hvl hml hf hn1 o6 c0 i0 i1 i2 i3
  try clear hat
  generalize (s.code t).length = ln at *
  go_enter Try.func36, Try.ntmps36
  go_wp2_with fail
  refine (refNext_any HB.out HTH.out OK.out t).mono ?_
  rw [HN.out, evR_some]
  rintro r9 w1 ⟨rfl, hb3⟩
  have hz : w.heap.size < w1.heap.size := by have := hb3.size; simp at this; omega
  have RX1 : Hid (EvBox0 w1 w.heap.size) := (hb3.block _ (by simp)).trans (heap_alloc_new w _)
  have H1 := Lib.hid ((HB.out.later hb3).later (below_alloc1 w1 (.cells #[.int .i64 e.thread, .int .i64 e.kind, .int .i64 e.obj, .bool e.fail] 54)))
  have T1 := Lib.hid ((HTH.out.later hb3).later (below_alloc1 w1 (.cells #[.int .i64 e.thread, .int .i64 e.kind, .int .i64 e.obj, .bool e.fail] 54)))
  have B1 : Hid (Below w.heap.size w w1) := (below_alloc1 w _).trans (hb3.mono (by simp))
  clear hb3 p1 HB HTH
  go_wp2_with fail
  refine (refEnabled_any H1.out T1.out OK.out t).mono ?_
  rw [HM.out]
  rintro r9 w2 ⟨rfl, hb4⟩
  have EX2 : Hid (w2.heap[w1.heap.size]? = some (.cells #[.int .i64 e.thread, .int .i64 e.kind, .int .i64 e.obj, .bool e.fail] 54 (0, 0))) := (hb4.block _ (by simp)).trans (heap_alloc_new w1 _)
  have B2 : Hid (Below w1.heap.size w1 w2) := (below_alloc1 w1 _).trans (hb4.mono (by simp))
  have RX2 : Hid (EvBox0 w2 w.heap.size) := (B2.out.block _ hz).trans RX1.out
  have H2 := Lib.hid (H1.out.later hb4)
  have W2 : Hid (Below w.heap.size w w2) := B1.out.trans (B2.out.mono (by omega))
  have hz2 : w1.heap.size < w2.heap.size := (Array.getElem?_eq_some_iff.1 EX2.out).1
  have hz3 : w.heap.size < w2.heap.size := by omega
  obtain ⟨p0, p1⟩ := H2.out.prog
  have ca := H2.out.at_ t ht
  rw [HI.out.2.2.1] at ca
  have d0 := cell_later W2.out HC.out.1
  have d1 := cell_later W2.out HC.out.2.1
  have d2 := cell_later W2.out HC.out.2.2.1
  have d3 := cell_later W2.out HC.out.2.2.2.1
  have d4 := cell_later W2.out HC.out.2.2.2.2
  have z0 := cell_block d0
  have z1 := cell_block d1
  dsimp only at z0 z1
  have ltb : tb < w2.heap.size := by omega
  have lb : b < w2.heap.size := by omega
  clear hb4 H1 T1 B1 B2 RX1 HC
  go_wp2
  go_region
  generalize hW : (w2.alloc (.cells #[.int .i64 3, .int .i64 r, .int .i64 x, .int .i64 m] 64)).drew = W at *
  have hbW : Below w2.heap.size w2 W := by rw [← hW]; exact ((Below.refl _ _).alloc (Nat.le_refl _) _).drew
  have IX : W.heap[w2.heap.size]? = some (.cells #[.int .i64 3, .int .i64 r, .int .i64 x, .int .i64 m] 64 (0, 0)) := by rw [← hW]; exact heap_alloc_new w2 _
  have HW := Lib.hid (H2.out.later hbW)
  have EX := Lib.hid ((hbW.block _ hz2).trans EX2.out)
  have RX : Hid (EvBox0 W w.heap.size) := (hbW.block _ hz3).trans RX2.out
  have OW : Hid (Only2 b tb w W) := .of_below (W2.out.trans (hbW.mono W2.out.size))
  have cf := HW.out.fuel t ht
  rw [HI.out.2.1, Int.natCast_add] at cf
  have ca2 := HW.out.at_ t ht
  rw [HI.out.2.2.1] at ca2
  have ff := fun o => (HW.out.frozen o).2
  have j0 := (ins_cells IX).1
  have IXH := Lib.hid IX
  have nb : b ≠ tb := HW.out.2.1
  generalize hI : w2.heap.size = I at *
  generalize hE : w1.heap.size = E at *
  generalize hR : w.heap.size = R at *
  have n1 : ¬ tb = I := by omega
  have n2 : ¬ I = tb := by omega
  have n3 : ¬ tb = E := by omega
  have n4 : ¬ E = tb := by omega
  have n5 : ¬ tb = R := by omega
  have n6 : ¬ R = tb := by omega
  have n7 : ¬ b = I := by omega
  have n8 : ¬ I = b := by omega
  have n9 : ¬ b = E := by omega
  have n10 : ¬ E = b := by omega
  have n11 : ¬ b = R := by omega
  have n12 : ¬ R = b := by omega
  have n13 : ¬ tb = b := fun h => nb h.symm
  have n14 : ¬ b = tb := nb
  have n15 : ¬ R = E := by omega
  have n16 : ¬ E = R := by omega
  clear hW hbW H2 EX2 RX2 W2 d0 d1 d2 d3 d4 ca p0 p1 IX
  go_wp2
  generalize hV : (W.setCell ⟨tb, t * 4 + 1, none⟩ (.int .i64 f)).setCell ⟨tb, t * 4, none⟩ (.int .i64 (n + 1)) = V at *
  have hoth : ∀ k, k ≠ tb → V.heap[k]? = W.heap[k]? := fun k hk => by rw [← hV, Below.heap_setCell _ _ _ _ hk, Below.heap_setCell _ _ _ _ hk]
  have HG : Hid (RefAt V b tb (some ⟨ab, ao, none⟩) cap tcap (s.go t)) := by rw [← hV]; exact HW.out.go t f n ht HI.out.2.1 HI.out.2.2.1
  have OV : Hid (Only2 b tb w V) := by rw [← hV]; exact (OW.out.setCell (.inr (.inl rfl)) _ _).setCell (.inr (.inl rfl)) _ _
  obtain ⟨j0v, j1v, j2v, j3v⟩ := ins_cells ((hoth I (fun e => n2 e)).trans IXH.out)
  obtain ⟨x0, x1, x2, x3⟩ := ev_cells ((hoth E (fun e => n4 e)).trans EX.out)
  obtain ⟨e0, e1, e2, e3, ef⟩ := EvBox0.cells ((hoth R (fun e => n6 e)).trans RX.out)
  have f0 := ef 0
  have f1 := ef 1
  have f2 := ef 2
  have f3 := ef 3
  have htg : t < (s.go t).ts.length := by rw [St.go, St.put_len]; exact ht
  clear hV hoth j0 cf ca2 ff ef IXH EX RX HW OW
  have GL := Lib.hid (go_set s t r x m ht)
  have cr := HG.out.reg t htg r hr2
  have ff := (HG.out.frozen (t * 4 + 2 + r)).2
  go_region
  go_wp2
  refine bodyPost_ret (v := .tuple #[.agg #[.int .i64 e.thread, .int .i64 e.kind, .int .i64 e.obj, .bool e.fail], .int .i64 0]) (by simp [results, Try.results36, go_sem, e0, e1, e2, e3]) rfl ⟨rfl, ?_, ?_⟩
  · obtain ⟨hi, hf, hn1, hrl, hvl, hml⟩ := HI.out
    have hg := HG.out
    have h2 := hg.setReg t r m htg hr2 (by rw [St.go_th _ _ ht]; exact hrl)
    rw [GL.out] at h2
    exact (h2.other4 (by omega) (by omega) _ _ _ _).drewN 1
  · exact ((OV.out.setCell (.inr (.inl rfl)) _ _).set4 (Nat.le_of_eq hR) _ _ _ _).drew
end
end Go.Proofs.Ytbmhcnldcfaipaa

/- The contract of the document's Step: an add. -/
namespace Go.Proofs.Ytbmhcnldcfaipaa
open Go.RowKit
section
variable {F : Nat} {w : World} {b tb : Nat} {a : Option Addr} {cap tcap : Nat} {s : St}

set_option maxRecDepth 100000 in
set_option maxHeartbeats 8000000 in
theorem refStep_4 (h : RefAt w b tb a cap tcap s) (hth : ThreadsAt w a s.p.threads) (ok : s.Ok F) (t : Nat) (i : Ins) (hi : s.ins t = some i) (hm : s.may t = true) (hk1 : i.kind = 4) : Calls Try.prog 36 #[.pointer (some ⟨b, 0, none⟩), .int .i64 t] w fun e w' => e = .returned (stepV (s.step t)) ∧ RefAt w' b tb a cap tcap (s.step t).2.2 ∧ Only2 b tb w w' := by
  obtain ⟨k, hkk, ht⟩ := St.ins_nat hi
  obtain rfl : t = k := by omega
  have hst : s.step t = (0, s.ev t i, s.do_ t i) := by
    unfold St.step
    rw [if_pos (by unfold St.has; omega), hi]
    simp only [hm]
    rfl
  have hn : s.next t = some (s.ev t i) := by unfold St.next; rw [hi]; rfl
  rw [hst, stepV_ok]
  dsimp only
  obtain ⟨o1, o2, o3, o4, o5, o6⟩ := ok.obj hi
  have hx0 : 0 ≤ i.x := by
    have := (ok.ins_right hi).1
    unfold rightIns at this
    repeat' split at this
    all_goals first | (simp only [decide_eq_true_eq] at this; omega) | (cases this)
  obtain ⟨_, hfu, hcode⟩ := St.ins_has hi
  simp only [Int.toNat_natCast] at hfu hcode
  have h4 := ok.len4
  have hln := ok.len
  have hrl : (s.th t).r.length = 2 := (ok.thr _ (St.th_mem ht)).1
  have hvl := ok.vl
  have hml := ok.ml
  obtain ⟨f, hf⟩ : ∃ f, (s.th t).fuel = f + 1 := ⟨(s.th t).fuel - 1, by omega⟩
  have hf8 : f ≤ 1000 := by have := (ok.thr _ (St.th_mem ht)).2.2; have := ok.f8; omega
  have h8 := ok.code8 t ht
  obtain ⟨hat, hic⟩ := List.getElem?_eq_some_iff.1 hcode
  obtain ⟨n, hn1⟩ : ∃ n, (s.th t).at_ = n := ⟨_, rfl⟩
  have hkp : t < s.p.threads.length := by omega
  have hcd : s.code t = s.p.threads[t] := getD_lt _ hkp
  obtain ⟨ab, ao, rfl, hc⟩ := hth.2 (by intro e; simp [e] at hkp)
  obtain ⟨c, ccap, c0, c1, _⟩ := hc t hkp
  rw [← hcd] at c0 c1
  obtain ⟨cb, co, rfl, hcc⟩ := c1.2 (by intro e; simp [e] at hat)
  obtain ⟨i0, i1, i2, i3⟩ := hcc _ hat
  rw [hic] at i0 i1 i2 i3
  rw [hn1] at i0 i1 i2 i3 hat
  have p1 := h.prog.2
  have q0 : decide ((t : Int) < 0) = false := by simp
  have q1 : decide ((s.ts.length : Int) ≤ t) = false := by simp; omega
  have q2 : decide (s.ts.length ≤ t) = false := by simp; omega
  obtain ⟨hb1, hb2⟩ := h.lt
  have HB := Lib.hid (h.later (below_alloc1 w (.cells #[.int .i64 0, .int .i64 0, .int .i64 0, .bool false] 54)))
  have HTH := Lib.hid (hth.later (below_alloc1 w (.cells #[.int .i64 0, .int .i64 0, .int .i64 0, .bool false] 54)))
  have OK := Lib.hid ok
  have HM := Lib.hid hm
  obtain ⟨kd, r, x, m⟩ := i
  dsimp only at *
  obtain ⟨r, rfl⟩ : ∃ y : Nat, r = y := ⟨r.toNat, by omega⟩
  obtain ⟨x, rfl⟩ : ∃ y : Nat, x = y := ⟨x.toNat, by omega⟩
  subst hk1
  have hr2 : r < 2 := by omega
  clear o1 o2 o3
  obtain ⟨e, he⟩ : ∃ e, e = s.ev t ⟨4, r, x, m⟩ := ⟨_, rfl⟩
  rw [← he] at hn ⊢
  have HE := Lib.hid he
  have HN := Lib.hid hn
  have HI := Lib.hid (And.intro hi (And.intro hf (And.intro hn1 (And.intro hrl (And.intro hvl hml)))))
  have HC := Lib.hid (And.intro c0 (And.intro i0 (And.intro i1 (And.intro i2 i3))))
  have h8n : n < 8 := by omega
  have hatn : n < (s.code t).length := by omega
  clear hst h hth ok hi hn he hkk hm hfu hcode hc c1 hcc hic hcd hln hrl hvl hml hf hn1 o6 c0 i0 i1 i2 i3
  try clear hat
  generalize (s.code t).length = ln at *
  go_enter Try.func36, Try.ntmps36
  go_wp2_with fail
  refine (refNext_any HB.out HTH.out OK.out t).mono ?_
  rw [HN.out, evR_some]
  rintro r9 w1 ⟨rfl, hb3⟩
  have hz : w.heap.size < w1.heap.size := by have := hb3.size; simp at this; omega
  have RX1 : Hid (EvBox0 w1 w.heap.size) := (hb3.block _ (by simp)).trans (heap_alloc_new w _)
  have H1 := Lib.hid ((HB.out.later hb3).later (below_alloc1 w1 (.cells #[.int .i64 e.thread, .int .i64 e.kind, .int .i64 e.obj, .bool e.fail] 54)))
  have T1 := Lib.hid ((HTH.out.later hb3).later (below_alloc1 w1 (.cells #[.int .i64 e.thread, .int .i64 e.kind, .int .i64 e.obj, .bool e.fail] 54)))
  have B1 : Hid (Below w.heap.size w w1) := (below_alloc1 w _).trans (hb3.mono (by simp))
  clear hb3 p1 HB HTH
  go_wp2_with fail
  refine (refEnabled_any H1.out T1.out OK.out t).mono ?_
  rw [HM.out]
  rintro r9 w2 ⟨rfl, hb4⟩
  have EX2 : Hid (w2.heap[w1.heap.size]? = some (.cells #[.int .i64 e.thread, .int .i64 e.kind, .int .i64 e.obj, .bool e.fail] 54 (0, 0))) := (hb4.block _ (by simp)).trans (heap_alloc_new w1 _)
  have B2 : Hid (Below w1.heap.size w1 w2) := (below_alloc1 w1 _).trans (hb4.mono (by simp))
  have RX2 : Hid (EvBox0 w2 w.heap.size) := (B2.out.block _ hz).trans RX1.out
  have H2 := Lib.hid (H1.out.later hb4)
  have W2 : Hid (Below w.heap.size w w2) := B1.out.trans (B2.out.mono (by omega))
  have hz2 : w1.heap.size < w2.heap.size := (Array.getElem?_eq_some_iff.1 EX2.out).1
  have hz3 : w.heap.size < w2.heap.size := by omega
  obtain ⟨p0, p1⟩ := H2.out.prog
  have ca := H2.out.at_ t ht
  rw [HI.out.2.2.1] at ca
  have d0 := cell_later W2.out HC.out.1
  have d1 := cell_later W2.out HC.out.2.1
  have d2 := cell_later W2.out HC.out.2.2.1
  have d3 := cell_later W2.out HC.out.2.2.2.1
  have d4 := cell_later W2.out HC.out.2.2.2.2
  have z0 := cell_block d0
  have z1 := cell_block d1
  dsimp only at z0 z1
  have ltb : tb < w2.heap.size := by omega
  have lb : b < w2.heap.size := by omega
  clear hb4 H1 T1 B1 B2 RX1 HC
  go_wp2
  go_region
  generalize hW : (w2.alloc (.cells #[.int .i64 4, .int .i64 r, .int .i64 x, .int .i64 m] 64)).drew = W at *
  have hbW : Below w2.heap.size w2 W := by rw [← hW]; exact ((Below.refl _ _).alloc (Nat.le_refl _) _).drew
  have IX : W.heap[w2.heap.size]? = some (.cells #[.int .i64 4, .int .i64 r, .int .i64 x, .int .i64 m] 64 (0, 0)) := by rw [← hW]; exact heap_alloc_new w2 _
  have HW := Lib.hid (H2.out.later hbW)
  have EX := Lib.hid ((hbW.block _ hz2).trans EX2.out)
  have RX : Hid (EvBox0 W w.heap.size) := (hbW.block _ hz3).trans RX2.out
  have OW : Hid (Only2 b tb w W) := .of_below (W2.out.trans (hbW.mono W2.out.size))
  have cf := HW.out.fuel t ht
  rw [HI.out.2.1, Int.natCast_add] at cf
  have ca2 := HW.out.at_ t ht
  rw [HI.out.2.2.1] at ca2
  have ff := fun o => (HW.out.frozen o).2
  have j0 := (ins_cells IX).1
  have IXH := Lib.hid IX
  have nb : b ≠ tb := HW.out.2.1
  generalize hI : w2.heap.size = I at *
  generalize hE : w1.heap.size = E at *
  generalize hR : w.heap.size = R at *
  have n1 : ¬ tb = I := by omega
  have n2 : ¬ I = tb := by omega
  have n3 : ¬ tb = E := by omega
  have n4 : ¬ E = tb := by omega
  have n5 : ¬ tb = R := by omega
  have n6 : ¬ R = tb := by omega
  have n7 : ¬ b = I := by omega
  have n8 : ¬ I = b := by omega
  have n9 : ¬ b = E := by omega
  have n10 : ¬ E = b := by omega
  have n11 : ¬ b = R := by omega
  have n12 : ¬ R = b := by omega
  have n13 : ¬ tb = b := fun h => nb h.symm
  have n14 : ¬ b = tb := nb
  have n15 : ¬ R = E := by omega
  have n16 : ¬ E = R := by omega
  clear hW hbW H2 EX2 RX2 W2 d0 d1 d2 d3 d4 ca p0 p1 IX
  go_wp2
  generalize hV : (W.setCell ⟨tb, t * 4 + 1, none⟩ (.int .i64 f)).setCell ⟨tb, t * 4, none⟩ (.int .i64 (n + 1)) = V at *
  have hoth : ∀ k, k ≠ tb → V.heap[k]? = W.heap[k]? := fun k hk => by rw [← hV, Below.heap_setCell _ _ _ _ hk, Below.heap_setCell _ _ _ _ hk]
  have HG : Hid (RefAt V b tb (some ⟨ab, ao, none⟩) cap tcap (s.go t)) := by rw [← hV]; exact HW.out.go t f n ht HI.out.2.1 HI.out.2.2.1
  have OV : Hid (Only2 b tb w V) := by rw [← hV]; exact (OW.out.setCell (.inr (.inl rfl)) _ _).setCell (.inr (.inl rfl)) _ _
  obtain ⟨j0v, j1v, j2v, j3v⟩ := ins_cells ((hoth I (fun e => n2 e)).trans IXH.out)
  obtain ⟨x0, x1, x2, x3⟩ := ev_cells ((hoth E (fun e => n4 e)).trans EX.out)
  obtain ⟨e0, e1, e2, e3, ef⟩ := EvBox0.cells ((hoth R (fun e => n6 e)).trans RX.out)
  have f0 := ef 0
  have f1 := ef 1
  have f2 := ef 2
  have f3 := ef 3
  have htg : t < (s.go t).ts.length := by rw [St.go, St.put_len]; exact ht
  clear hV hoth j0 cf ca2 ff ef IXH EX RX HW OW
  have gl := go_add s t r x m ht
  have cr := HG.out.reg t htg r hr2
  have ff := (HG.out.frozen (t * 4 + 2 + r)).2
  generalize ((s.go t).th t).r.getD r 0 = vv at *
  have ew : wrap64 (vv + m) = IntKind.i64.wrap (vv + m) := by rw [IntKind.wrap_i64]; unfold wrap64; first | rfl | omega
  rw [← ew] at gl
  have GL := Lib.hid gl
  clear gl ew
  go_region
  go_wp2
  refine bodyPost_ret (v := .tuple #[.agg #[.int .i64 e.thread, .int .i64 e.kind, .int .i64 e.obj, .bool e.fail], .int .i64 0]) (by simp [results, Try.results36, go_sem, e0, e1, e2, e3]) rfl ⟨rfl, ?_, ?_⟩
  · obtain ⟨hi, hf, hn1, hrl, hvl, hml⟩ := HI.out
    have hg := HG.out
    have h2 := hg.setReg t r (wrap64 (vv + m)) htg hr2 (by rw [St.go_th _ _ ht]; exact hrl)
    rw [GL.out] at h2
    exact (h2.other4 (by omega) (by omega) _ _ _ _).drewN 1
  · exact ((OV.out.setCell (.inr (.inl rfl)) _ _).set4 (Nat.le_of_eq hR) _ _ _ _).drew
end
end Go.Proofs.Ytbmhcnldcfaipaa

/- The contract of the document's Step: a lock. -/
namespace Go.Proofs.Ytbmhcnldcfaipaa
open Go.RowKit
section
variable {F : Nat} {w : World} {b tb : Nat} {a : Option Addr} {cap tcap : Nat} {s : St}

set_option maxRecDepth 100000 in
set_option maxHeartbeats 8000000 in
theorem refStep_5 (h : RefAt w b tb a cap tcap s) (hth : ThreadsAt w a s.p.threads) (ok : s.Ok F) (t : Nat) (i : Ins) (hi : s.ins t = some i) (hm : s.may t = true) (hk1 : i.kind = 5) : Calls Try.prog 36 #[.pointer (some ⟨b, 0, none⟩), .int .i64 t] w fun e w' => e = .returned (stepV (s.step t)) ∧ RefAt w' b tb a cap tcap (s.step t).2.2 ∧ Only2 b tb w w' := by
  obtain ⟨k, hkk, ht⟩ := St.ins_nat hi
  obtain rfl : t = k := by omega
  have hst : s.step t = (0, s.ev t i, s.do_ t i) := by
    unfold St.step
    rw [if_pos (by unfold St.has; omega), hi]
    simp only [hm]
    rfl
  have hn : s.next t = some (s.ev t i) := by unfold St.next; rw [hi]; rfl
  rw [hst, stepV_ok]
  dsimp only
  obtain ⟨o1, o2, o3, o4, o5, o6⟩ := ok.obj hi
  have hx0 : 0 ≤ i.x := by
    have := (ok.ins_right hi).1
    unfold rightIns at this
    repeat' split at this
    all_goals first | (simp only [decide_eq_true_eq] at this; omega) | (cases this)
  obtain ⟨_, hfu, hcode⟩ := St.ins_has hi
  simp only [Int.toNat_natCast] at hfu hcode
  have h4 := ok.len4
  have hln := ok.len
  have hrl : (s.th t).r.length = 2 := (ok.thr _ (St.th_mem ht)).1
  have hvl := ok.vl
  have hml := ok.ml
  obtain ⟨f, hf⟩ : ∃ f, (s.th t).fuel = f + 1 := ⟨(s.th t).fuel - 1, by omega⟩
  have hf8 : f ≤ 1000 := by have := (ok.thr _ (St.th_mem ht)).2.2; have := ok.f8; omega
  have h8 := ok.code8 t ht
  obtain ⟨hat, hic⟩ := List.getElem?_eq_some_iff.1 hcode
  obtain ⟨n, hn1⟩ : ∃ n, (s.th t).at_ = n := ⟨_, rfl⟩
  have hkp : t < s.p.threads.length := by omega
  have hcd : s.code t = s.p.threads[t] := getD_lt _ hkp
  obtain ⟨ab, ao, rfl, hc⟩ := hth.2 (by intro e; simp [e] at hkp)
  obtain ⟨c, ccap, c0, c1, _⟩ := hc t hkp
  rw [← hcd] at c0 c1
  obtain ⟨cb, co, rfl, hcc⟩ := c1.2 (by intro e; simp [e] at hat)
  obtain ⟨i0, i1, i2, i3⟩ := hcc _ hat
  rw [hic] at i0 i1 i2 i3
  rw [hn1] at i0 i1 i2 i3 hat
  have p1 := h.prog.2
  have q0 : decide ((t : Int) < 0) = false := by simp
  have q1 : decide ((s.ts.length : Int) ≤ t) = false := by simp; omega
  have q2 : decide (s.ts.length ≤ t) = false := by simp; omega
  obtain ⟨hb1, hb2⟩ := h.lt
  have HB := Lib.hid (h.later (below_alloc1 w (.cells #[.int .i64 0, .int .i64 0, .int .i64 0, .bool false] 54)))
  have HTH := Lib.hid (hth.later (below_alloc1 w (.cells #[.int .i64 0, .int .i64 0, .int .i64 0, .bool false] 54)))
  have OK := Lib.hid ok
  have HM := Lib.hid hm
  obtain ⟨kd, r, x, m⟩ := i
  dsimp only at *
  obtain ⟨r, rfl⟩ : ∃ y : Nat, r = y := ⟨r.toNat, by omega⟩
  obtain ⟨x, rfl⟩ : ∃ y : Nat, x = y := ⟨x.toNat, by omega⟩
  subst hk1
  have hx2 : x < 2 := by have := o2 (.inl rfl); omega
  clear o1 o2 o3
  obtain ⟨e, he⟩ : ∃ e, e = s.ev t ⟨5, r, x, m⟩ := ⟨_, rfl⟩
  rw [← he] at hn ⊢
  have HE := Lib.hid he
  have HN := Lib.hid hn
  have HI := Lib.hid (And.intro hi (And.intro hf (And.intro hn1 (And.intro hrl (And.intro hvl hml)))))
  have HC := Lib.hid (And.intro c0 (And.intro i0 (And.intro i1 (And.intro i2 i3))))
  have h8n : n < 8 := by omega
  have hatn : n < (s.code t).length := by omega
  clear hst h hth ok hi hn he hkk hm hfu hcode hc c1 hcc hic hcd hln hrl hvl hml hf hn1 o6 c0 i0 i1 i2 i3
  try clear hat
  generalize (s.code t).length = ln at *
  go_enter Try.func36, Try.ntmps36
  go_wp2_with fail
  refine (refNext_any HB.out HTH.out OK.out t).mono ?_
  rw [HN.out, evR_some]
  rintro r9 w1 ⟨rfl, hb3⟩
  have hz : w.heap.size < w1.heap.size := by have := hb3.size; simp at this; omega
  have RX1 : Hid (EvBox0 w1 w.heap.size) := (hb3.block _ (by simp)).trans (heap_alloc_new w _)
  have H1 := Lib.hid ((HB.out.later hb3).later (below_alloc1 w1 (.cells #[.int .i64 e.thread, .int .i64 e.kind, .int .i64 e.obj, .bool e.fail] 54)))
  have T1 := Lib.hid ((HTH.out.later hb3).later (below_alloc1 w1 (.cells #[.int .i64 e.thread, .int .i64 e.kind, .int .i64 e.obj, .bool e.fail] 54)))
  have B1 : Hid (Below w.heap.size w w1) := (below_alloc1 w _).trans (hb3.mono (by simp))
  clear hb3 p1 HB HTH
  go_wp2_with fail
  refine (refEnabled_any H1.out T1.out OK.out t).mono ?_
  rw [HM.out]
  rintro r9 w2 ⟨rfl, hb4⟩
  have EX2 : Hid (w2.heap[w1.heap.size]? = some (.cells #[.int .i64 e.thread, .int .i64 e.kind, .int .i64 e.obj, .bool e.fail] 54 (0, 0))) := (hb4.block _ (by simp)).trans (heap_alloc_new w1 _)
  have B2 : Hid (Below w1.heap.size w1 w2) := (below_alloc1 w1 _).trans (hb4.mono (by simp))
  have RX2 : Hid (EvBox0 w2 w.heap.size) := (B2.out.block _ hz).trans RX1.out
  have H2 := Lib.hid (H1.out.later hb4)
  have W2 : Hid (Below w.heap.size w w2) := B1.out.trans (B2.out.mono (by omega))
  have hz2 : w1.heap.size < w2.heap.size := (Array.getElem?_eq_some_iff.1 EX2.out).1
  have hz3 : w.heap.size < w2.heap.size := by omega
  obtain ⟨p0, p1⟩ := H2.out.prog
  have ca := H2.out.at_ t ht
  rw [HI.out.2.2.1] at ca
  have d0 := cell_later W2.out HC.out.1
  have d1 := cell_later W2.out HC.out.2.1
  have d2 := cell_later W2.out HC.out.2.2.1
  have d3 := cell_later W2.out HC.out.2.2.2.1
  have d4 := cell_later W2.out HC.out.2.2.2.2
  have z0 := cell_block d0
  have z1 := cell_block d1
  dsimp only at z0 z1
  have ltb : tb < w2.heap.size := by omega
  have lb : b < w2.heap.size := by omega
  clear hb4 H1 T1 B1 B2 RX1 HC
  go_wp2
  go_region
  generalize hW : (w2.alloc (.cells #[.int .i64 5, .int .i64 r, .int .i64 x, .int .i64 m] 64)).drew = W at *
  have hbW : Below w2.heap.size w2 W := by rw [← hW]; exact ((Below.refl _ _).alloc (Nat.le_refl _) _).drew
  have IX : W.heap[w2.heap.size]? = some (.cells #[.int .i64 5, .int .i64 r, .int .i64 x, .int .i64 m] 64 (0, 0)) := by rw [← hW]; exact heap_alloc_new w2 _
  have HW := Lib.hid (H2.out.later hbW)
  have EX := Lib.hid ((hbW.block _ hz2).trans EX2.out)
  have RX : Hid (EvBox0 W w.heap.size) := (hbW.block _ hz3).trans RX2.out
  have OW : Hid (Only2 b tb w W) := .of_below (W2.out.trans (hbW.mono W2.out.size))
  have cf := HW.out.fuel t ht
  rw [HI.out.2.1, Int.natCast_add] at cf
  have ca2 := HW.out.at_ t ht
  rw [HI.out.2.2.1] at ca2
  have ff := fun o => (HW.out.frozen o).2
  have j0 := (ins_cells IX).1
  have IXH := Lib.hid IX
  have nb : b ≠ tb := HW.out.2.1
  generalize hI : w2.heap.size = I at *
  generalize hE : w1.heap.size = E at *
  generalize hR : w.heap.size = R at *
  have n1 : ¬ tb = I := by omega
  have n2 : ¬ I = tb := by omega
  have n3 : ¬ tb = E := by omega
  have n4 : ¬ E = tb := by omega
  have n5 : ¬ tb = R := by omega
  have n6 : ¬ R = tb := by omega
  have n7 : ¬ b = I := by omega
  have n8 : ¬ I = b := by omega
  have n9 : ¬ b = E := by omega
  have n10 : ¬ E = b := by omega
  have n11 : ¬ b = R := by omega
  have n12 : ¬ R = b := by omega
  have n13 : ¬ tb = b := fun h => nb h.symm
  have n14 : ¬ b = tb := nb
  have n15 : ¬ R = E := by omega
  have n16 : ¬ E = R := by omega
  clear hW hbW H2 EX2 RX2 W2 d0 d1 d2 d3 d4 ca p0 p1 IX
  go_wp2
  generalize hV : (W.setCell ⟨tb, t * 4 + 1, none⟩ (.int .i64 f)).setCell ⟨tb, t * 4, none⟩ (.int .i64 (n + 1)) = V at *
  have hoth : ∀ k, k ≠ tb → V.heap[k]? = W.heap[k]? := fun k hk => by rw [← hV, Below.heap_setCell _ _ _ _ hk, Below.heap_setCell _ _ _ _ hk]
  have HG : Hid (RefAt V b tb (some ⟨ab, ao, none⟩) cap tcap (s.go t)) := by rw [← hV]; exact HW.out.go t f n ht HI.out.2.1 HI.out.2.2.1
  have OV : Hid (Only2 b tb w V) := by rw [← hV]; exact (OW.out.setCell (.inr (.inl rfl)) _ _).setCell (.inr (.inl rfl)) _ _
  obtain ⟨j0v, j1v, j2v, j3v⟩ := ins_cells ((hoth I (fun e => n2 e)).trans IXH.out)
  obtain ⟨x0, x1, x2, x3⟩ := ev_cells ((hoth E (fun e => n4 e)).trans EX.out)
  obtain ⟨e0, e1, e2, e3, ef⟩ := EvBox0.cells ((hoth R (fun e => n6 e)).trans RX.out)
  have f0 := ef 0
  have f1 := ef 1
  have f2 := ef 2
  have f3 := ef 3
  have htg : t < (s.go t).ts.length := by rw [St.go, St.put_len]; exact ht
  clear hV hoth j0 cf ca2 ff ef IXH EX RX HW OW
  have hek : e.kind = 4 := by rw [HE.out]; rfl
  have q4 : (e.kind == 4) = true := by simp [hek]
  have q5 : (e.kind == 5) = false := by simp [hek]
  clear hek
  have cw := HG.out.who x hx2
  have fw := (HG.out.frozen (8 + x)).1
  have GL := Lib.hid (go_lock s t r x m ht)
  go_quiet (fail)
  go_wp2
  go_region
  go_wp2
  refine bodyPost_ret (v := .tuple #[.agg #[.int .i64 e.thread, .int .i64 e.kind, .int .i64 e.obj, .bool e.fail], .int .i64 0]) (by simp [results, Try.results36, go_sem, e0, e1, e2, e3]) rfl ⟨rfl, ?_, ?_⟩
  · obtain ⟨hi, hf, hn1, hrl, hvl, hml⟩ := HI.out
    have hg := HG.out
    have h2 := (hg.drewN (nq + 1)).setWho x t hx2 hml
    rw [GL.out] at h2
    exact h2.other4 (by omega) (by omega) _ _ _ _
  · exact ((OV.out.drewN).setCell (.inl rfl) _ _).set4 (Nat.le_of_eq hR) _ _ _ _
end
end Go.Proofs.Ytbmhcnldcfaipaa

/- The contract of the document's Step: an unlock. -/
namespace Go.Proofs.Ytbmhcnldcfaipaa
open Go.RowKit
section
variable {F : Nat} {w : World} {b tb : Nat} {a : Option Addr} {cap tcap : Nat} {s : St}

set_option maxRecDepth 100000 in
set_option maxHeartbeats 8000000 in
theorem refStep_6 (h : RefAt w b tb a cap tcap s) (hth : ThreadsAt w a s.p.threads) (ok : s.Ok F) (t : Nat) (i : Ins) (hi : s.ins t = some i) (hm : s.may t = true) (hk1 : i.kind = 6) (hw : s.who i.x = t) : Calls Try.prog 36 #[.pointer (some ⟨b, 0, none⟩), .int .i64 t] w fun e w' => e = .returned (stepV (s.step t)) ∧ RefAt w' b tb a cap tcap (s.step t).2.2 ∧ Only2 b tb w w' := by
  obtain ⟨k, hkk, ht⟩ := St.ins_nat hi
  obtain rfl : t = k := by omega
  have hst : s.step t = (0, s.ev t i, s.do_ t i) := by
    unfold St.step
    rw [if_pos (by unfold St.has; omega), hi]
    simp only [hm]
    rfl
  have hn : s.next t = some (s.ev t i) := by unfold St.next; rw [hi]; rfl
  rw [hst, stepV_ok]
  dsimp only
  obtain ⟨o1, o2, o3, o4, o5, o6⟩ := ok.obj hi
  have hx0 : 0 ≤ i.x := by
    have := (ok.ins_right hi).1
    unfold rightIns at this
    repeat' split at this
    all_goals first | (simp only [decide_eq_true_eq] at this; omega) | (cases this)
  obtain ⟨_, hfu, hcode⟩ := St.ins_has hi
  simp only [Int.toNat_natCast] at hfu hcode
  have h4 := ok.len4
  have hln := ok.len
  have hrl : (s.th t).r.length = 2 := (ok.thr _ (St.th_mem ht)).1
  have hvl := ok.vl
  have hml := ok.ml
  obtain ⟨f, hf⟩ : ∃ f, (s.th t).fuel = f + 1 := ⟨(s.th t).fuel - 1, by omega⟩
  have hf8 : f ≤ 1000 := by have := (ok.thr _ (St.th_mem ht)).2.2; have := ok.f8; omega
  have h8 := ok.code8 t ht
  obtain ⟨hat, hic⟩ := List.getElem?_eq_some_iff.1 hcode
  obtain ⟨n, hn1⟩ : ∃ n, (s.th t).at_ = n := ⟨_, rfl⟩
  have hkp : t < s.p.threads.length := by omega
  have hcd : s.code t = s.p.threads[t] := getD_lt _ hkp
  obtain ⟨ab, ao, rfl, hc⟩ := hth.2 (by intro e; simp [e] at hkp)
  obtain ⟨c, ccap, c0, c1, _⟩ := hc t hkp
  rw [← hcd] at c0 c1
  obtain ⟨cb, co, rfl, hcc⟩ := c1.2 (by intro e; simp [e] at hat)
  obtain ⟨i0, i1, i2, i3⟩ := hcc _ hat
  rw [hic] at i0 i1 i2 i3
  rw [hn1] at i0 i1 i2 i3 hat
  have p1 := h.prog.2
  have q0 : decide ((t : Int) < 0) = false := by simp
  have q1 : decide ((s.ts.length : Int) ≤ t) = false := by simp; omega
  have q2 : decide (s.ts.length ≤ t) = false := by simp; omega
  obtain ⟨hb1, hb2⟩ := h.lt
  have HB := Lib.hid (h.later (below_alloc1 w (.cells #[.int .i64 0, .int .i64 0, .int .i64 0, .bool false] 54)))
  have HTH := Lib.hid (hth.later (below_alloc1 w (.cells #[.int .i64 0, .int .i64 0, .int .i64 0, .bool false] 54)))
  have OK := Lib.hid ok
  have HM := Lib.hid hm
  obtain ⟨kd, r, x, m⟩ := i
  dsimp only at *
  obtain ⟨r, rfl⟩ : ∃ y : Nat, r = y := ⟨r.toNat, by omega⟩
  obtain ⟨x, rfl⟩ : ∃ y : Nat, x = y := ⟨x.toNat, by omega⟩
  subst hk1
  have hx2 : x < 2 := by have := o2 (.inr rfl); omega
  clear o1 o2 o3
  obtain ⟨e, he⟩ : ∃ e, e = s.ev t ⟨6, r, x, m⟩ := ⟨_, rfl⟩
  rw [← he] at hn ⊢
  have HE := Lib.hid he
  have HN := Lib.hid hn
  have HI := Lib.hid (And.intro hi (And.intro hf (And.intro hn1 (And.intro hrl (And.intro hvl hml)))))
  have HC := Lib.hid (And.intro c0 (And.intro i0 (And.intro i1 (And.intro i2 i3))))
  have h8n : n < 8 := by omega
  have hatn : n < (s.code t).length := by omega
  clear hst h hth ok hi hn he hkk hm hfu hcode hc c1 hcc hic hcd hln hrl hvl hml hf hn1 o6 c0 i0 i1 i2 i3
  try clear hat
  generalize (s.code t).length = ln at *
  go_enter Try.func36, Try.ntmps36
  go_wp2_with fail
  refine (refNext_any HB.out HTH.out OK.out t).mono ?_
  rw [HN.out, evR_some]
  rintro r9 w1 ⟨rfl, hb3⟩
  have hz : w.heap.size < w1.heap.size := by have := hb3.size; simp at this; omega
  have RX1 : Hid (EvBox0 w1 w.heap.size) := (hb3.block _ (by simp)).trans (heap_alloc_new w _)
  have H1 := Lib.hid ((HB.out.later hb3).later (below_alloc1 w1 (.cells #[.int .i64 e.thread, .int .i64 e.kind, .int .i64 e.obj, .bool e.fail] 54)))
  have T1 := Lib.hid ((HTH.out.later hb3).later (below_alloc1 w1 (.cells #[.int .i64 e.thread, .int .i64 e.kind, .int .i64 e.obj, .bool e.fail] 54)))
  have B1 : Hid (Below w.heap.size w w1) := (below_alloc1 w _).trans (hb3.mono (by simp))
  clear hb3 p1 HB HTH
  go_wp2_with fail
  refine (refEnabled_any H1.out T1.out OK.out t).mono ?_
  rw [HM.out]
  rintro r9 w2 ⟨rfl, hb4⟩
  have EX2 : Hid (w2.heap[w1.heap.size]? = some (.cells #[.int .i64 e.thread, .int .i64 e.kind, .int .i64 e.obj, .bool e.fail] 54 (0, 0))) := (hb4.block _ (by simp)).trans (heap_alloc_new w1 _)
  have B2 : Hid (Below w1.heap.size w1 w2) := (below_alloc1 w1 _).trans (hb4.mono (by simp))
  have RX2 : Hid (EvBox0 w2 w.heap.size) := (B2.out.block _ hz).trans RX1.out
  have H2 := Lib.hid (H1.out.later hb4)
  have W2 : Hid (Below w.heap.size w w2) := B1.out.trans (B2.out.mono (by omega))
  have hz2 : w1.heap.size < w2.heap.size := (Array.getElem?_eq_some_iff.1 EX2.out).1
  have hz3 : w.heap.size < w2.heap.size := by omega
  obtain ⟨p0, p1⟩ := H2.out.prog
  have ca := H2.out.at_ t ht
  rw [HI.out.2.2.1] at ca
  have d0 := cell_later W2.out HC.out.1
  have d1 := cell_later W2.out HC.out.2.1
  have d2 := cell_later W2.out HC.out.2.2.1
  have d3 := cell_later W2.out HC.out.2.2.2.1
  have d4 := cell_later W2.out HC.out.2.2.2.2
  have z0 := cell_block d0
  have z1 := cell_block d1
  dsimp only at z0 z1
  have ltb : tb < w2.heap.size := by omega
  have lb : b < w2.heap.size := by omega
  clear hb4 H1 T1 B1 B2 RX1 HC
  go_wp2
  go_region
  generalize hW : (w2.alloc (.cells #[.int .i64 6, .int .i64 r, .int .i64 x, .int .i64 m] 64)).drew = W at *
  have hbW : Below w2.heap.size w2 W := by rw [← hW]; exact ((Below.refl _ _).alloc (Nat.le_refl _) _).drew
  have IX : W.heap[w2.heap.size]? = some (.cells #[.int .i64 6, .int .i64 r, .int .i64 x, .int .i64 m] 64 (0, 0)) := by rw [← hW]; exact heap_alloc_new w2 _
  have HW := Lib.hid (H2.out.later hbW)
  have EX := Lib.hid ((hbW.block _ hz2).trans EX2.out)
  have RX : Hid (EvBox0 W w.heap.size) := (hbW.block _ hz3).trans RX2.out
  have OW : Hid (Only2 b tb w W) := .of_below (W2.out.trans (hbW.mono W2.out.size))
  have cf := HW.out.fuel t ht
  rw [HI.out.2.1, Int.natCast_add] at cf
  have ca2 := HW.out.at_ t ht
  rw [HI.out.2.2.1] at ca2
  have ff := fun o => (HW.out.frozen o).2
  have j0 := (ins_cells IX).1
  have IXH := Lib.hid IX
  have nb : b ≠ tb := HW.out.2.1
  generalize hI : w2.heap.size = I at *
  generalize hE : w1.heap.size = E at *
  generalize hR : w.heap.size = R at *
  have n1 : ¬ tb = I := by omega
  have n2 : ¬ I = tb := by omega
  have n3 : ¬ tb = E := by omega
  have n4 : ¬ E = tb := by omega
  have n5 : ¬ tb = R := by omega
  have n6 : ¬ R = tb := by omega
  have n7 : ¬ b = I := by omega
  have n8 : ¬ I = b := by omega
  have n9 : ¬ b = E := by omega
  have n10 : ¬ E = b := by omega
  have n11 : ¬ b = R := by omega
  have n12 : ¬ R = b := by omega
  have n13 : ¬ tb = b := fun h => nb h.symm
  have n14 : ¬ b = tb := nb
  have n15 : ¬ R = E := by omega
  have n16 : ¬ E = R := by omega
  clear hW hbW H2 EX2 RX2 W2 d0 d1 d2 d3 d4 ca p0 p1 IX
  go_wp2
  generalize hV : (W.setCell ⟨tb, t * 4 + 1, none⟩ (.int .i64 f)).setCell ⟨tb, t * 4, none⟩ (.int .i64 (n + 1)) = V at *
  have hoth : ∀ k, k ≠ tb → V.heap[k]? = W.heap[k]? := fun k hk => by rw [← hV, Below.heap_setCell _ _ _ _ hk, Below.heap_setCell _ _ _ _ hk]
  have HG : Hid (RefAt V b tb (some ⟨ab, ao, none⟩) cap tcap (s.go t)) := by rw [← hV]; exact HW.out.go t f n ht HI.out.2.1 HI.out.2.2.1
  have OV : Hid (Only2 b tb w V) := by rw [← hV]; exact (OW.out.setCell (.inr (.inl rfl)) _ _).setCell (.inr (.inl rfl)) _ _
  obtain ⟨j0v, j1v, j2v, j3v⟩ := ins_cells ((hoth I (fun e => n2 e)).trans IXH.out)
  obtain ⟨x0, x1, x2, x3⟩ := ev_cells ((hoth E (fun e => n4 e)).trans EX.out)
  obtain ⟨e0, e1, e2, e3, ef⟩ := EvBox0.cells ((hoth R (fun e => n6 e)).trans RX.out)
  have f0 := ef 0
  have f1 := ef 1
  have f2 := ef 2
  have f3 := ef 3
  have htg : t < (s.go t).ts.length := by rw [St.go, St.put_len]; exact ht
  clear hV hoth j0 cf ca2 ff ef IXH EX RX HW OW
  have hek : e.kind = 5 := by rw [HE.out]; unfold St.ev; dsimp only; rw [if_neg (by omega), if_neg (by omega), if_neg (by omega), if_pos rfl, if_pos hw]
  have q4 : (e.kind == 4) = false := by simp [hek]
  have q5 : (e.kind == 5) = true := by simp [hek]
  clear hek
  have cw := HG.out.who x hx2
  have fw := (HG.out.frozen (8 + x)).1
  have gl := go_unlock s t r x m ht
  rw [if_pos (show (s.go t).who x = t from hw)] at gl
  have GL := Lib.hid gl
  clear gl hw
  go_quiet (fail)
  go_wp2
  go_region
  go_wp2
  refine bodyPost_ret (v := .tuple #[.agg #[.int .i64 e.thread, .int .i64 e.kind, .int .i64 e.obj, .bool e.fail], .int .i64 0]) (by simp [results, Try.results36, go_sem, e0, e1, e2, e3]) rfl ⟨rfl, ?_, ?_⟩
  · obtain ⟨hi, hf, hn1, hrl, hvl, hml⟩ := HI.out
    have hg := HG.out
    have h2 := (hg.drewN (nq + 1)).setWho x (-1) hx2 hml
    rw [GL.out] at h2
    exact h2.other4 (by omega) (by omega) _ _ _ _
  · exact ((OV.out.drewN).setCell (.inl rfl) _ _).set4 (Nat.le_of_eq hR) _ _ _ _
end
end Go.Proofs.Ytbmhcnldcfaipaa

/- The contract of the document's Step: an unlock that fails. -/
namespace Go.Proofs.Ytbmhcnldcfaipaa
open Go.RowKit
section
variable {F : Nat} {w : World} {b tb : Nat} {a : Option Addr} {cap tcap : Nat} {s : St}

set_option maxRecDepth 100000 in
set_option maxHeartbeats 8000000 in
theorem refStep_6b (h : RefAt w b tb a cap tcap s) (hth : ThreadsAt w a s.p.threads) (ok : s.Ok F) (t : Nat) (i : Ins) (hi : s.ins t = some i) (hm : s.may t = true) (hk1 : i.kind = 6) (hw : ¬ s.who i.x = t) : Calls Try.prog 36 #[.pointer (some ⟨b, 0, none⟩), .int .i64 t] w fun e w' => e = .returned (stepV (s.step t)) ∧ RefAt w' b tb a cap tcap (s.step t).2.2 ∧ Only2 b tb w w' := by
  obtain ⟨k, hkk, ht⟩ := St.ins_nat hi
  obtain rfl : t = k := by omega
  have hst : s.step t = (0, s.ev t i, s.do_ t i) := by
    unfold St.step
    rw [if_pos (by unfold St.has; omega), hi]
    simp only [hm]
    rfl
  have hn : s.next t = some (s.ev t i) := by unfold St.next; rw [hi]; rfl
  rw [hst, stepV_ok]
  dsimp only
  obtain ⟨o1, o2, o3, o4, o5, o6⟩ := ok.obj hi
  have hx0 : 0 ≤ i.x := by
    have := (ok.ins_right hi).1
    unfold rightIns at this
    repeat' split at this
    all_goals first | (simp only [decide_eq_true_eq] at this; omega) | (cases this)
  obtain ⟨_, hfu, hcode⟩ := St.ins_has hi
  simp only [Int.toNat_natCast] at hfu hcode
  have h4 := ok.len4
  have hln := ok.len
  have hrl : (s.th t).r.length = 2 := (ok.thr _ (St.th_mem ht)).1
  have hvl := ok.vl
  have hml := ok.ml
  obtain ⟨f, hf⟩ : ∃ f, (s.th t).fuel = f + 1 := ⟨(s.th t).fuel - 1, by omega⟩
  have hf8 : f ≤ 1000 := by have := (ok.thr _ (St.th_mem ht)).2.2; have := ok.f8; omega
  have h8 := ok.code8 t ht
  obtain ⟨hat, hic⟩ := List.getElem?_eq_some_iff.1 hcode
  obtain ⟨n, hn1⟩ : ∃ n, (s.th t).at_ = n := ⟨_, rfl⟩
  have hkp : t < s.p.threads.length := by omega
  have hcd : s.code t = s.p.threads[t] := getD_lt _ hkp
  obtain ⟨ab, ao, rfl, hc⟩ := hth.2 (by intro e; simp [e] at hkp)
  obtain ⟨c, ccap, c0, c1, _⟩ := hc t hkp
  rw [← hcd] at c0 c1
  obtain ⟨cb, co, rfl, hcc⟩ := c1.2 (by intro e; simp [e] at hat)
  obtain ⟨i0, i1, i2, i3⟩ := hcc _ hat
  rw [hic] at i0 i1 i2 i3
  rw [hn1] at i0 i1 i2 i3 hat
  have p1 := h.prog.2
  have q0 : decide ((t : Int) < 0) = false := by simp
  have q1 : decide ((s.ts.length : Int) ≤ t) = false := by simp; omega
  have q2 : decide (s.ts.length ≤ t) = false := by simp; omega
  obtain ⟨hb1, hb2⟩ := h.lt
  have HB := Lib.hid (h.later (below_alloc1 w (.cells #[.int .i64 0, .int .i64 0, .int .i64 0, .bool false] 54)))
  have HTH := Lib.hid (hth.later (below_alloc1 w (.cells #[.int .i64 0, .int .i64 0, .int .i64 0, .bool false] 54)))
  have OK := Lib.hid ok
  have HM := Lib.hid hm
  obtain ⟨kd, r, x, m⟩ := i
  dsimp only at *
  obtain ⟨r, rfl⟩ : ∃ y : Nat, r = y := ⟨r.toNat, by omega⟩
  obtain ⟨x, rfl⟩ : ∃ y : Nat, x = y := ⟨x.toNat, by omega⟩
  subst hk1
  clear o1 o2 o3
  obtain ⟨e, he⟩ : ∃ e, e = s.ev t ⟨6, r, x, m⟩ := ⟨_, rfl⟩
  rw [← he] at hn ⊢
  have HE := Lib.hid he
  have HN := Lib.hid hn
  have HI := Lib.hid (And.intro hi (And.intro hf (And.intro hn1 (And.intro hrl (And.intro hvl hml)))))
  have HC := Lib.hid (And.intro c0 (And.intro i0 (And.intro i1 (And.intro i2 i3))))
  have h8n : n < 8 := by omega
  have hatn : n < (s.code t).length := by omega
  clear hst h hth ok hi hn he hkk hm hfu hcode hc c1 hcc hic hcd hln hrl hvl hml hf hn1 o6 c0 i0 i1 i2 i3
  try clear hat
  generalize (s.code t).length = ln at *
  go_enter Try.func36, Try.ntmps36
  go_wp2_with fail
  refine (refNext_any HB.out HTH.out OK.out t).mono ?_
  rw [HN.out, evR_some]
  rintro r9 w1 ⟨rfl, hb3⟩
  have hz : w.heap.size < w1.heap.size := by have := hb3.size; simp at this; omega
  have RX1 : Hid (EvBox0 w1 w.heap.size) := (hb3.block _ (by simp)).trans (heap_alloc_new w _)
  have H1 := Lib.hid ((HB.out.later hb3).later (below_alloc1 w1 (.cells #[.int .i64 e.thread, .int .i64 e.kind, .int .i64 e.obj, .bool e.fail] 54)))
  have T1 := Lib.hid ((HTH.out.later hb3).later (below_alloc1 w1 (.cells #[.int .i64 e.thread, .int .i64 e.kind, .int .i64 e.obj, .bool e.fail] 54)))
  have B1 : Hid (Below w.heap.size w w1) := (below_alloc1 w _).trans (hb3.mono (by simp))
  clear hb3 p1 HB HTH
  go_wp2_with fail
  refine (refEnabled_any H1.out T1.out OK.out t).mono ?_
  rw [HM.out]
  rintro r9 w2 ⟨rfl, hb4⟩
  have EX2 : Hid (w2.heap[w1.heap.size]? = some (.cells #[.int .i64 e.thread, .int .i64 e.kind, .int .i64 e.obj, .bool e.fail] 54 (0, 0))) := (hb4.block _ (by simp)).trans (heap_alloc_new w1 _)
  have B2 : Hid (Below w1.heap.size w1 w2) := (below_alloc1 w1 _).trans (hb4.mono (by simp))
  have RX2 : Hid (EvBox0 w2 w.heap.size) := (B2.out.block _ hz).trans RX1.out
  have H2 := Lib.hid (H1.out.later hb4)
  have W2 : Hid (Below w.heap.size w w2) := B1.out.trans (B2.out.mono (by omega))
  have hz2 : w1.heap.size < w2.heap.size := (Array.getElem?_eq_some_iff.1 EX2.out).1
  have hz3 : w.heap.size < w2.heap.size := by omega
  obtain ⟨p0, p1⟩ := H2.out.prog
  have ca := H2.out.at_ t ht
  rw [HI.out.2.2.1] at ca
  have d0 := cell_later W2.out HC.out.1
  have d1 := cell_later W2.out HC.out.2.1
  have d2 := cell_later W2.out HC.out.2.2.1
  have d3 := cell_later W2.out HC.out.2.2.2.1
  have d4 := cell_later W2.out HC.out.2.2.2.2
  have z0 := cell_block d0
  have z1 := cell_block d1
  dsimp only at z0 z1
  have ltb : tb < w2.heap.size := by omega
  have lb : b < w2.heap.size := by omega
  clear hb4 H1 T1 B1 B2 RX1 HC
  go_wp2
  go_region
  generalize hW : (w2.alloc (.cells #[.int .i64 6, .int .i64 r, .int .i64 x, .int .i64 m] 64)).drew = W at *
  have hbW : Below w2.heap.size w2 W := by rw [← hW]; exact ((Below.refl _ _).alloc (Nat.le_refl _) _).drew
  have IX : W.heap[w2.heap.size]? = some (.cells #[.int .i64 6, .int .i64 r, .int .i64 x, .int .i64 m] 64 (0, 0)) := by rw [← hW]; exact heap_alloc_new w2 _
  have HW := Lib.hid (H2.out.later hbW)
  have EX := Lib.hid ((hbW.block _ hz2).trans EX2.out)
  have RX : Hid (EvBox0 W w.heap.size) := (hbW.block _ hz3).trans RX2.out
  have OW : Hid (Only2 b tb w W) := .of_below (W2.out.trans (hbW.mono W2.out.size))
  have cf := HW.out.fuel t ht
  rw [HI.out.2.1, Int.natCast_add] at cf
  have ca2 := HW.out.at_ t ht
  rw [HI.out.2.2.1] at ca2
  have ff := fun o => (HW.out.frozen o).2
  have j0 := (ins_cells IX).1
  have IXH := Lib.hid IX
  have nb : b ≠ tb := HW.out.2.1
  generalize hI : w2.heap.size = I at *
  generalize hE : w1.heap.size = E at *
  generalize hR : w.heap.size = R at *
  have n1 : ¬ tb = I := by omega
  have n2 : ¬ I = tb := by omega
  have n3 : ¬ tb = E := by omega
  have n4 : ¬ E = tb := by omega
  have n5 : ¬ tb = R := by omega
  have n6 : ¬ R = tb := by omega
  have n7 : ¬ b = I := by omega
  have n8 : ¬ I = b := by omega
  have n9 : ¬ b = E := by omega
  have n10 : ¬ E = b := by omega
  have n11 : ¬ b = R := by omega
  have n12 : ¬ R = b := by omega
  have n13 : ¬ tb = b := fun h => nb h.symm
  have n14 : ¬ b = tb := nb
  have n15 : ¬ R = E := by omega
  have n16 : ¬ E = R := by omega
  clear hW hbW H2 EX2 RX2 W2 d0 d1 d2 d3 d4 ca p0 p1 IX
  go_wp2
  generalize hV : (W.setCell ⟨tb, t * 4 + 1, none⟩ (.int .i64 f)).setCell ⟨tb, t * 4, none⟩ (.int .i64 (n + 1)) = V at *
  have hoth : ∀ k, k ≠ tb → V.heap[k]? = W.heap[k]? := fun k hk => by rw [← hV, Below.heap_setCell _ _ _ _ hk, Below.heap_setCell _ _ _ _ hk]
  have HG : Hid (RefAt V b tb (some ⟨ab, ao, none⟩) cap tcap (s.go t)) := by rw [← hV]; exact HW.out.go t f n ht HI.out.2.1 HI.out.2.2.1
  have OV : Hid (Only2 b tb w V) := by rw [← hV]; exact (OW.out.setCell (.inr (.inl rfl)) _ _).setCell (.inr (.inl rfl)) _ _
  obtain ⟨j0v, j1v, j2v, j3v⟩ := ins_cells ((hoth I (fun e => n2 e)).trans IXH.out)
  obtain ⟨x0, x1, x2, x3⟩ := ev_cells ((hoth E (fun e => n4 e)).trans EX.out)
  obtain ⟨e0, e1, e2, e3, ef⟩ := EvBox0.cells ((hoth R (fun e => n6 e)).trans RX.out)
  have f0 := ef 0
  have f1 := ef 1
  have f2 := ef 2
  have f3 := ef 3
  have htg : t < (s.go t).ts.length := by rw [St.go, St.put_len]; exact ht
  clear hV hoth j0 cf ca2 ff ef IXH EX RX HW OW
  have hek : e.kind = 1 := by rw [HE.out]; unfold St.ev; dsimp only; rw [if_neg (by omega), if_neg (by omega), if_neg (by omega), if_pos rfl, if_neg hw]
  have q4 : (e.kind == 4) = false := by simp [hek]
  have q5 : (e.kind == 5) = false := by simp [hek]
  clear hek
  have gl := go_unlock s t r x m ht
  rw [if_neg (show ¬ (s.go t).who x = t from hw)] at gl
  have GL := Lib.hid gl
  clear gl hw
  go_quiet (fail)
  go_wp2
  refine bodyPost_ret (v := .tuple #[.agg #[.int .i64 e.thread, .int .i64 e.kind, .int .i64 e.obj, .bool e.fail], .int .i64 0]) (by simp [results, Try.results36, go_sem, e0, e1, e2, e3]) rfl ⟨rfl, ?_, ?_⟩
  · obtain ⟨hi, hf, hn1, hrl, hvl, hml⟩ := HI.out
    have hg := HG.out
    have h2 := hg.drewN nq
    rw [GL.out] at h2
    exact h2.other4 (by omega) (by omega) _ _ _ _
  · exact (OV.out.drewN).set4 (Nat.le_of_eq hR) _ _ _ _
end
end Go.Proofs.Ytbmhcnldcfaipaa

/- The contract of the document's Step: a jump. -/
namespace Go.Proofs.Ytbmhcnldcfaipaa
open Go.RowKit
section
variable {F : Nat} {w : World} {b tb : Nat} {a : Option Addr} {cap tcap : Nat} {s : St}

set_option maxRecDepth 100000 in
set_option maxHeartbeats 8000000 in
theorem refStep_7 (h : RefAt w b tb a cap tcap s) (hth : ThreadsAt w a s.p.threads) (ok : s.Ok F) (t : Nat) (i : Ins) (hi : s.ins t = some i) (hm : s.may t = true) (hk1 : i.kind = 7) (hw : ¬ (s.th t).r.getD i.r.toNat 0 = 0) : Calls Try.prog 36 #[.pointer (some ⟨b, 0, none⟩), .int .i64 t] w fun e w' => e = .returned (stepV (s.step t)) ∧ RefAt w' b tb a cap tcap (s.step t).2.2 ∧ Only2 b tb w w' := by
  obtain ⟨k, hkk, ht⟩ := St.ins_nat hi
  obtain rfl : t = k := by omega
  have hst : s.step t = (0, s.ev t i, s.do_ t i) := by
    unfold St.step
    rw [if_pos (by unfold St.has; omega), hi]
    simp only [hm]
    rfl
  have hn : s.next t = some (s.ev t i) := by unfold St.next; rw [hi]; rfl
  rw [hst, stepV_ok]
  dsimp only
  obtain ⟨o1, o2, o3, o4, o5, o6⟩ := ok.obj hi
  have hx0 : 0 ≤ i.x := by
    have := (ok.ins_right hi).1
    unfold rightIns at this
    repeat' split at this
    all_goals first | (simp only [decide_eq_true_eq] at this; omega) | (cases this)
  obtain ⟨_, hfu, hcode⟩ := St.ins_has hi
  simp only [Int.toNat_natCast] at hfu hcode
  have h4 := ok.len4
  have hln := ok.len
  have hrl : (s.th t).r.length = 2 := (ok.thr _ (St.th_mem ht)).1
  have hvl := ok.vl
  have hml := ok.ml
  obtain ⟨f, hf⟩ : ∃ f, (s.th t).fuel = f + 1 := ⟨(s.th t).fuel - 1, by omega⟩
  have hf8 : f ≤ 1000 := by have := (ok.thr _ (St.th_mem ht)).2.2; have := ok.f8; omega
  have h8 := ok.code8 t ht
  obtain ⟨hat, hic⟩ := List.getElem?_eq_some_iff.1 hcode
  obtain ⟨n, hn1⟩ : ∃ n, (s.th t).at_ = n := ⟨_, rfl⟩
  have hkp : t < s.p.threads.length := by omega
  have hcd : s.code t = s.p.threads[t] := getD_lt _ hkp
  obtain ⟨ab, ao, rfl, hc⟩ := hth.2 (by intro e; simp [e] at hkp)
  obtain ⟨c, ccap, c0, c1, _⟩ := hc t hkp
  rw [← hcd] at c0 c1
  obtain ⟨cb, co, rfl, hcc⟩ := c1.2 (by intro e; simp [e] at hat)
  obtain ⟨i0, i1, i2, i3⟩ := hcc _ hat
  rw [hic] at i0 i1 i2 i3
  rw [hn1] at i0 i1 i2 i3 hat
  have p1 := h.prog.2
  have q0 : decide ((t : Int) < 0) = false := by simp
  have q1 : decide ((s.ts.length : Int) ≤ t) = false := by simp; omega
  have q2 : decide (s.ts.length ≤ t) = false := by simp; omega
  obtain ⟨hb1, hb2⟩ := h.lt
  have HB := Lib.hid (h.later (below_alloc1 w (.cells #[.int .i64 0, .int .i64 0, .int .i64 0, .bool false] 54)))
  have HTH := Lib.hid (hth.later (below_alloc1 w (.cells #[.int .i64 0, .int .i64 0, .int .i64 0, .bool false] 54)))
  have OK := Lib.hid ok
  have HM := Lib.hid hm
  obtain ⟨kd, r, x, m⟩ := i
  dsimp only at *
  obtain ⟨r, rfl⟩ : ∃ y : Nat, r = y := ⟨r.toNat, by omega⟩
  obtain ⟨x, rfl⟩ : ∃ y : Nat, x = y := ⟨x.toNat, by omega⟩
  subst hk1
  have hr2 : r < 2 := by omega
  clear o1 o2 o3
  obtain ⟨e, he⟩ : ∃ e, e = s.ev t ⟨7, r, x, m⟩ := ⟨_, rfl⟩
  rw [← he] at hn ⊢
  have HE := Lib.hid he
  have HN := Lib.hid hn
  have HI := Lib.hid (And.intro hi (And.intro hf (And.intro hn1 (And.intro hrl (And.intro hvl hml)))))
  have HC := Lib.hid (And.intro c0 (And.intro i0 (And.intro i1 (And.intro i2 i3))))
  have h8n : n < 8 := by omega
  have hatn : n < (s.code t).length := by omega
  clear hst h hth ok hi hn he hkk hm hfu hcode hc c1 hcc hic hcd hln hrl hvl hml hf hn1 o6 c0 i0 i1 i2 i3
  try clear hat
  generalize (s.code t).length = ln at *
  go_enter Try.func36, Try.ntmps36
  go_wp2_with fail
  refine (refNext_any HB.out HTH.out OK.out t).mono ?_
  rw [HN.out, evR_some]
  rintro r9 w1 ⟨rfl, hb3⟩
  have hz : w.heap.size < w1.heap.size := by have := hb3.size; simp at this; omega
  have RX1 : Hid (EvBox0 w1 w.heap.size) := (hb3.block _ (by simp)).trans (heap_alloc_new w _)
  have H1 := Lib.hid ((HB.out.later hb3).later (below_alloc1 w1 (.cells #[.int .i64 e.thread, .int .i64 e.kind, .int .i64 e.obj, .bool e.fail] 54)))
  have T1 := Lib.hid ((HTH.out.later hb3).later (below_alloc1 w1 (.cells #[.int .i64 e.thread, .int .i64 e.kind, .int .i64 e.obj, .bool e.fail] 54)))
  have B1 : Hid (Below w.heap.size w w1) := (below_alloc1 w _).trans (hb3.mono (by simp))
  clear hb3 p1 HB HTH
  go_wp2_with fail
  refine (refEnabled_any H1.out T1.out OK.out t).mono ?_
  rw [HM.out]
  rintro r9 w2 ⟨rfl, hb4⟩
  have EX2 : Hid (w2.heap[w1.heap.size]? = some (.cells #[.int .i64 e.thread, .int .i64 e.kind, .int .i64 e.obj, .bool e.fail] 54 (0, 0))) := (hb4.block _ (by simp)).trans (heap_alloc_new w1 _)
  have B2 : Hid (Below w1.heap.size w1 w2) := (below_alloc1 w1 _).trans (hb4.mono (by simp))
  have RX2 : Hid (EvBox0 w2 w.heap.size) := (B2.out.block _ hz).trans RX1.out
  have H2 := Lib.hid (H1.out.later hb4)
  have W2 : Hid (Below w.heap.size w w2) := B1.out.trans (B2.out.mono (by omega))
  have hz2 : w1.heap.size < w2.heap.size := (Array.getElem?_eq_some_iff.1 EX2.out).1
  have hz3 : w.heap.size < w2.heap.size := by omega
  obtain ⟨p0, p1⟩ := H2.out.prog
  have ca := H2.out.at_ t ht
  rw [HI.out.2.2.1] at ca
  have d0 := cell_later W2.out HC.out.1
  have d1 := cell_later W2.out HC.out.2.1
  have d2 := cell_later W2.out HC.out.2.2.1
  have d3 := cell_later W2.out HC.out.2.2.2.1
  have d4 := cell_later W2.out HC.out.2.2.2.2
  have z0 := cell_block d0
  have z1 := cell_block d1
  dsimp only at z0 z1
  have ltb : tb < w2.heap.size := by omega
  have lb : b < w2.heap.size := by omega
  clear hb4 H1 T1 B1 B2 RX1 HC
  go_wp2
  go_region
  generalize hW : (w2.alloc (.cells #[.int .i64 7, .int .i64 r, .int .i64 x, .int .i64 m] 64)).drew = W at *
  have hbW : Below w2.heap.size w2 W := by rw [← hW]; exact ((Below.refl _ _).alloc (Nat.le_refl _) _).drew
  have IX : W.heap[w2.heap.size]? = some (.cells #[.int .i64 7, .int .i64 r, .int .i64 x, .int .i64 m] 64 (0, 0)) := by rw [← hW]; exact heap_alloc_new w2 _
  have HW := Lib.hid (H2.out.later hbW)
  have EX := Lib.hid ((hbW.block _ hz2).trans EX2.out)
  have RX : Hid (EvBox0 W w.heap.size) := (hbW.block _ hz3).trans RX2.out
  have OW : Hid (Only2 b tb w W) := .of_below (W2.out.trans (hbW.mono W2.out.size))
  have cf := HW.out.fuel t ht
  rw [HI.out.2.1, Int.natCast_add] at cf
  have ca2 := HW.out.at_ t ht
  rw [HI.out.2.2.1] at ca2
  have ff := fun o => (HW.out.frozen o).2
  have j0 := (ins_cells IX).1
  have IXH := Lib.hid IX
  have nb : b ≠ tb := HW.out.2.1
  generalize hI : w2.heap.size = I at *
  generalize hE : w1.heap.size = E at *
  generalize hR : w.heap.size = R at *
  have n1 : ¬ tb = I := by omega
  have n2 : ¬ I = tb := by omega
  have n3 : ¬ tb = E := by omega
  have n4 : ¬ E = tb := by omega
  have n5 : ¬ tb = R := by omega
  have n6 : ¬ R = tb := by omega
  have n7 : ¬ b = I := by omega
  have n8 : ¬ I = b := by omega
  have n9 : ¬ b = E := by omega
  have n10 : ¬ E = b := by omega
  have n11 : ¬ b = R := by omega
  have n12 : ¬ R = b := by omega
  have n13 : ¬ tb = b := fun h => nb h.symm
  have n14 : ¬ b = tb := nb
  have n15 : ¬ R = E := by omega
  have n16 : ¬ E = R := by omega
  clear hW hbW H2 EX2 RX2 W2 d0 d1 d2 d3 d4 ca p0 p1 IX
  go_wp2
  generalize hV : (W.setCell ⟨tb, t * 4 + 1, none⟩ (.int .i64 f)).setCell ⟨tb, t * 4, none⟩ (.int .i64 (n + 1)) = V at *
  have hoth : ∀ k, k ≠ tb → V.heap[k]? = W.heap[k]? := fun k hk => by rw [← hV, Below.heap_setCell _ _ _ _ hk, Below.heap_setCell _ _ _ _ hk]
  have HG : Hid (RefAt V b tb (some ⟨ab, ao, none⟩) cap tcap (s.go t)) := by rw [← hV]; exact HW.out.go t f n ht HI.out.2.1 HI.out.2.2.1
  have OV : Hid (Only2 b tb w V) := by rw [← hV]; exact (OW.out.setCell (.inr (.inl rfl)) _ _).setCell (.inr (.inl rfl)) _ _
  obtain ⟨j0v, j1v, j2v, j3v⟩ := ins_cells ((hoth I (fun e => n2 e)).trans IXH.out)
  obtain ⟨x0, x1, x2, x3⟩ := ev_cells ((hoth E (fun e => n4 e)).trans EX.out)
  obtain ⟨e0, e1, e2, e3, ef⟩ := EvBox0.cells ((hoth R (fun e => n6 e)).trans RX.out)
  have f0 := ef 0
  have f1 := ef 1
  have f2 := ef 2
  have f3 := ef 3
  have htg : t < (s.go t).ts.length := by rw [St.go, St.put_len]; exact ht
  clear hV hoth j0 cf ca2 ff ef IXH EX RX HW OW
  have gl := go_jump s t r x m ht
  rw [St.go_th s t ht, if_neg (show ¬ (s.th t).r.getD r 0 = 0 from hw)] at gl
  have cr := HG.out.reg t htg r hr2
  have ca := HG.out.at_ t htg
  have fa := (HG.out.frozen (t * 4)).2
  have q7 : (((s.go t).th t).r.getD r 0 != 0) = true := by rw [St.go_th s t ht]; simpa using hw
  generalize ((s.go t).th t).r.getD r 0 = vv at *
  have GL := Lib.hid gl
  clear gl hw
  go_quiet (fail)
  go_wp2
  refine bodyPost_ret (v := .tuple #[.agg #[.int .i64 e.thread, .int .i64 e.kind, .int .i64 e.obj, .bool e.fail], .int .i64 0]) (by simp [results, Try.results36, go_sem, e0, e1, e2, e3]) rfl ⟨rfl, ?_, ?_⟩
  · obtain ⟨hi, hf, hn1, hrl, hvl, hml⟩ := HI.out
    have hg := HG.out
    have h2 := (hg.drewN nq).setAt t x htg
    rw [St.go_th s t ht, GL.out] at h2
    exact h2.other4 (by omega) (by omega) _ _ _ _
  · exact ((OV.out.drewN).setCell (.inr (.inl rfl)) _ _).set4 (Nat.le_of_eq hR) _ _ _ _
end
end Go.Proofs.Ytbmhcnldcfaipaa

/- The contract of the document's Step: a jump that is none. -/
namespace Go.Proofs.Ytbmhcnldcfaipaa
open Go.RowKit
section
variable {F : Nat} {w : World} {b tb : Nat} {a : Option Addr} {cap tcap : Nat} {s : St}

set_option maxRecDepth 100000 in
set_option maxHeartbeats 8000000 in
theorem refStep_7z (h : RefAt w b tb a cap tcap s) (hth : ThreadsAt w a s.p.threads) (ok : s.Ok F) (t : Nat) (i : Ins) (hi : s.ins t = some i) (hm : s.may t = true) (hk1 : i.kind = 7) (hw : (s.th t).r.getD i.r.toNat 0 = 0) : Calls Try.prog 36 #[.pointer (some ⟨b, 0, none⟩), .int .i64 t] w fun e w' => e = .returned (stepV (s.step t)) ∧ RefAt w' b tb a cap tcap (s.step t).2.2 ∧ Only2 b tb w w' := by
  obtain ⟨k, hkk, ht⟩ := St.ins_nat hi
  obtain rfl : t = k := by omega
  have hst : s.step t = (0, s.ev t i, s.do_ t i) := by
    unfold St.step
    rw [if_pos (by unfold St.has; omega), hi]
    simp only [hm]
    rfl
  have hn : s.next t = some (s.ev t i) := by unfold St.next; rw [hi]; rfl
  rw [hst, stepV_ok]
  dsimp only
  obtain ⟨o1, o2, o3, o4, o5, o6⟩ := ok.obj hi
  have hx0 : 0 ≤ i.x := by
    have := (ok.ins_right hi).1
    unfold rightIns at this
    repeat' split at this
    all_goals first | (simp only [decide_eq_true_eq] at this; omega) | (cases this)
  obtain ⟨_, hfu, hcode⟩ := St.ins_has hi
  simp only [Int.toNat_natCast] at hfu hcode
  have h4 := ok.len4
  have hln := ok.len
  have hrl : (s.th t).r.length = 2 := (ok.thr _ (St.th_mem ht)).1
  have hvl := ok.vl
  have hml := ok.ml
  obtain ⟨f, hf⟩ : ∃ f, (s.th t).fuel = f + 1 := ⟨(s.th t).fuel - 1, by omega⟩
  have hf8 : f ≤ 1000 := by have := (ok.thr _ (St.th_mem ht)).2.2; have := ok.f8; omega
  have h8 := ok.code8 t ht
  obtain ⟨hat, hic⟩ := List.getElem?_eq_some_iff.1 hcode
  obtain ⟨n, hn1⟩ : ∃ n, (s.th t).at_ = n := ⟨_, rfl⟩
  have hkp : t < s.p.threads.length := by omega
  have hcd : s.code t = s.p.threads[t] := getD_lt _ hkp
  obtain ⟨ab, ao, rfl, hc⟩ := hth.2 (by intro e; simp [e] at hkp)
  obtain ⟨c, ccap, c0, c1, _⟩ := hc t hkp
  rw [← hcd] at c0 c1
  obtain ⟨cb, co, rfl, hcc⟩ := c1.2 (by intro e; simp [e] at hat)
  obtain ⟨i0, i1, i2, i3⟩ := hcc _ hat
  rw [hic] at i0 i1 i2 i3
  rw [hn1] at i0 i1 i2 i3 hat
  have p1 := h.prog.2
  have q0 : decide ((t : Int) < 0) = false := by simp
  have q1 : decide ((s.ts.length : Int) ≤ t) = false := by simp; omega
  have q2 : decide (s.ts.length ≤ t) = false := by simp; omega
  obtain ⟨hb1, hb2⟩ := h.lt
  have HB := Lib.hid (h.later (below_alloc1 w (.cells #[.int .i64 0, .int .i64 0, .int .i64 0, .bool false] 54)))
  have HTH := Lib.hid (hth.later (below_alloc1 w (.cells #[.int .i64 0, .int .i64 0, .int .i64 0, .bool false] 54)))
  have OK := Lib.hid ok
  have HM := Lib.hid hm
  obtain ⟨kd, r, x, m⟩ := i
  dsimp only at *
  obtain ⟨r, rfl⟩ : ∃ y : Nat, r = y := ⟨r.toNat, by omega⟩
  obtain ⟨x, rfl⟩ : ∃ y : Nat, x = y := ⟨x.toNat, by omega⟩
  subst hk1
  have hr2 : r < 2 := by omega
  clear o1 o2 o3
  obtain ⟨e, he⟩ : ∃ e, e = s.ev t ⟨7, r, x, m⟩ := ⟨_, rfl⟩
  rw [← he] at hn ⊢
  have HE := Lib.hid he
  have HN := Lib.hid hn
  have HI := Lib.hid (And.intro hi (And.intro hf (And.intro hn1 (And.intro hrl (And.intro hvl hml)))))
  have HC := Lib.hid (And.intro c0 (And.intro i0 (And.intro i1 (And.intro i2 i3))))
  have h8n : n < 8 := by omega
  have hatn : n < (s.code t).length := by omega
  clear hst h hth ok hi hn he hkk hm hfu hcode hc c1 hcc hic hcd hln hrl hvl hml hf hn1 o6 c0 i0 i1 i2 i3
  try clear hat
  generalize (s.code t).length = ln at *
  go_enter Try.func36, Try.ntmps36
  go_wp2_with fail
  refine (refNext_any HB.out HTH.out OK.out t).mono ?_
  rw [HN.out, evR_some]
  rintro r9 w1 ⟨rfl, hb3⟩
  have hz : w.heap.size < w1.heap.size := by have := hb3.size; simp at this; omega
  have RX1 : Hid (EvBox0 w1 w.heap.size) := (hb3.block _ (by simp)).trans (heap_alloc_new w _)
  have H1 := Lib.hid ((HB.out.later hb3).later (below_alloc1 w1 (.cells #[.int .i64 e.thread, .int .i64 e.kind, .int .i64 e.obj, .bool e.fail] 54)))
  have T1 := Lib.hid ((HTH.out.later hb3).later (below_alloc1 w1 (.cells #[.int .i64 e.thread, .int .i64 e.kind, .int .i64 e.obj, .bool e.fail] 54)))
  have B1 : Hid (Below w.heap.size w w1) := (below_alloc1 w _).trans (hb3.mono (by simp))
  clear hb3 p1 HB HTH
  go_wp2_with fail
  refine (refEnabled_any H1.out T1.out OK.out t).mono ?_
  rw [HM.out]
  rintro r9 w2 ⟨rfl, hb4⟩
  have EX2 : Hid (w2.heap[w1.heap.size]? = some (.cells #[.int .i64 e.thread, .int .i64 e.kind, .int .i64 e.obj, .bool e.fail] 54 (0, 0))) := (hb4.block _ (by simp)).trans (heap_alloc_new w1 _)
  have B2 : Hid (Below w1.heap.size w1 w2) := (below_alloc1 w1 _).trans (hb4.mono (by simp))
  have RX2 : Hid (EvBox0 w2 w.heap.size) := (B2.out.block _ hz).trans RX1.out
  have H2 := Lib.hid (H1.out.later hb4)
  have W2 : Hid (Below w.heap.size w w2) := B1.out.trans (B2.out.mono (by omega))
  have hz2 : w1.heap.size < w2.heap.size := (Array.getElem?_eq_some_iff.1 EX2.out).1
  have hz3 : w.heap.size < w2.heap.size := by omega
  obtain ⟨p0, p1⟩ := H2.out.prog
  have ca := H2.out.at_ t ht
  rw [HI.out.2.2.1] at ca
  have d0 := cell_later W2.out HC.out.1
  have d1 := cell_later W2.out HC.out.2.1
  have d2 := cell_later W2.out HC.out.2.2.1
  have d3 := cell_later W2.out HC.out.2.2.2.1
  have d4 := cell_later W2.out HC.out.2.2.2.2
  have z0 := cell_block d0
  have z1 := cell_block d1
  dsimp only at z0 z1
  have ltb : tb < w2.heap.size := by omega
  have lb : b < w2.heap.size := by omega
  clear hb4 H1 T1 B1 B2 RX1 HC
  go_wp2
  go_region
  generalize hW : (w2.alloc (.cells #[.int .i64 7, .int .i64 r, .int .i64 x, .int .i64 m] 64)).drew = W at *
  have hbW : Below w2.heap.size w2 W := by rw [← hW]; exact ((Below.refl _ _).alloc (Nat.le_refl _) _).drew
  have IX : W.heap[w2.heap.size]? = some (.cells #[.int .i64 7, .int .i64 r, .int .i64 x, .int .i64 m] 64 (0, 0)) := by rw [← hW]; exact heap_alloc_new w2 _
  have HW := Lib.hid (H2.out.later hbW)
  have EX := Lib.hid ((hbW.block _ hz2).trans EX2.out)
  have RX : Hid (EvBox0 W w.heap.size) := (hbW.block _ hz3).trans RX2.out
  have OW : Hid (Only2 b tb w W) := .of_below (W2.out.trans (hbW.mono W2.out.size))
  have cf := HW.out.fuel t ht
  rw [HI.out.2.1, Int.natCast_add] at cf
  have ca2 := HW.out.at_ t ht
  rw [HI.out.2.2.1] at ca2
  have ff := fun o => (HW.out.frozen o).2
  have j0 := (ins_cells IX).1
  have IXH := Lib.hid IX
  have nb : b ≠ tb := HW.out.2.1
  generalize hI : w2.heap.size = I at *
  generalize hE : w1.heap.size = E at *
  generalize hR : w.heap.size = R at *
  have n1 : ¬ tb = I := by omega
  have n2 : ¬ I = tb := by omega
  have n3 : ¬ tb = E := by omega
  have n4 : ¬ E = tb := by omega
  have n5 : ¬ tb = R := by omega
  have n6 : ¬ R = tb := by omega
  have n7 : ¬ b = I := by omega
  have n8 : ¬ I = b := by omega
  have n9 : ¬ b = E := by omega
  have n10 : ¬ E = b := by omega
  have n11 : ¬ b = R := by omega
  have n12 : ¬ R = b := by omega
  have n13 : ¬ tb = b := fun h => nb h.symm
  have n14 : ¬ b = tb := nb
  have n15 : ¬ R = E := by omega
  have n16 : ¬ E = R := by omega
  clear hW hbW H2 EX2 RX2 W2 d0 d1 d2 d3 d4 ca p0 p1 IX
  go_wp2
  generalize hV : (W.setCell ⟨tb, t * 4 + 1, none⟩ (.int .i64 f)).setCell ⟨tb, t * 4, none⟩ (.int .i64 (n + 1)) = V at *
  have hoth : ∀ k, k ≠ tb → V.heap[k]? = W.heap[k]? := fun k hk => by rw [← hV, Below.heap_setCell _ _ _ _ hk, Below.heap_setCell _ _ _ _ hk]
  have HG : Hid (RefAt V b tb (some ⟨ab, ao, none⟩) cap tcap (s.go t)) := by rw [← hV]; exact HW.out.go t f n ht HI.out.2.1 HI.out.2.2.1
  have OV : Hid (Only2 b tb w V) := by rw [← hV]; exact (OW.out.setCell (.inr (.inl rfl)) _ _).setCell (.inr (.inl rfl)) _ _
  obtain ⟨j0v, j1v, j2v, j3v⟩ := ins_cells ((hoth I (fun e => n2 e)).trans IXH.out)
  obtain ⟨x0, x1, x2, x3⟩ := ev_cells ((hoth E (fun e => n4 e)).trans EX.out)
  obtain ⟨e0, e1, e2, e3, ef⟩ := EvBox0.cells ((hoth R (fun e => n6 e)).trans RX.out)
  have f0 := ef 0
  have f1 := ef 1
  have f2 := ef 2
  have f3 := ef 3
  have htg : t < (s.go t).ts.length := by rw [St.go, St.put_len]; exact ht
  clear hV hoth j0 cf ca2 ff ef IXH EX RX HW OW
  have hek : e.kind = 1 := by rw [HE.out]; rfl
  have q4 : (e.kind == 4) = false := by simp [hek]
  have q5 : (e.kind == 5) = false := by simp [hek]
  clear hek
  have gl := go_jump s t r x m ht
  rw [St.go_th s t ht, if_pos (show (s.th t).r.getD r 0 = 0 from hw)] at gl
  have cr := HG.out.reg t htg r hr2
  have q7 : (((s.go t).th t).r.getD r 0 != 0) = false := by rw [St.go_th s t ht]; simpa using hw
  generalize ((s.go t).th t).r.getD r 0 = vv at *
  have GL := Lib.hid gl
  clear gl hw
  go_quiet (fail)
  go_wp2
  refine bodyPost_ret (v := .tuple #[.agg #[.int .i64 e.thread, .int .i64 e.kind, .int .i64 e.obj, .bool e.fail], .int .i64 0]) (by simp [results, Try.results36, go_sem, e0, e1, e2, e3]) rfl ⟨rfl, ?_, ?_⟩
  · obtain ⟨hi, hf, hn1, hrl, hvl, hml⟩ := HI.out
    have hg := HG.out
    have h2 := hg.drewN nq
    rw [GL.out] at h2
    exact h2.other4 (by omega) (by omega) _ _ _ _
  · exact (OV.out.drewN).set4 (Nat.le_of_eq hR) _ _ _ _
end
end Go.Proofs.Ytbmhcnldcfaipaa

/- The contract of the document's Step: an assertion. -/
namespace Go.Proofs.Ytbmhcnldcfaipaa
open Go.RowKit
section
variable {F : Nat} {w : World} {b tb : Nat} {a : Option Addr} {cap tcap : Nat} {s : St}

set_option maxRecDepth 100000 in
set_option maxHeartbeats 8000000 in
theorem refStep_8 (h : RefAt w b tb a cap tcap s) (hth : ThreadsAt w a s.p.threads) (ok : s.Ok F) (t : Nat) (i : Ins) (hi : s.ins t = some i) (hm : s.may t = true) (hk1 : i.kind = 8) : Calls Try.prog 36 #[.pointer (some ⟨b, 0, none⟩), .int .i64 t] w fun e w' => e = .returned (stepV (s.step t)) ∧ RefAt w' b tb a cap tcap (s.step t).2.2 ∧ Only2 b tb w w' := by
  obtain ⟨k, hkk, ht⟩ := St.ins_nat hi
  obtain rfl : t = k := by omega
  have hst : s.step t = (0, s.ev t i, s.do_ t i) := by
    unfold St.step
    rw [if_pos (by unfold St.has; omega), hi]
    simp only [hm]
    rfl
  have hn : s.next t = some (s.ev t i) := by unfold St.next; rw [hi]; rfl
  rw [hst, stepV_ok]
  dsimp only
  obtain ⟨o1, o2, o3, o4, o5, o6⟩ := ok.obj hi
  have hx0 : 0 ≤ i.x := by
    have := (ok.ins_right hi).1
    unfold rightIns at this
    repeat' split at this
    all_goals first | (simp only [decide_eq_true_eq] at this; omega) | (cases this)
  obtain ⟨_, hfu, hcode⟩ := St.ins_has hi
  simp only [Int.toNat_natCast] at hfu hcode
  have h4 := ok.len4
  have hln := ok.len
  have hrl : (s.th t).r.length = 2 := (ok.thr _ (St.th_mem ht)).1
  have hvl := ok.vl
  have hml := ok.ml
  obtain ⟨f, hf⟩ : ∃ f, (s.th t).fuel = f + 1 := ⟨(s.th t).fuel - 1, by omega⟩
  have hf8 : f ≤ 1000 := by have := (ok.thr _ (St.th_mem ht)).2.2; have := ok.f8; omega
  have h8 := ok.code8 t ht
  obtain ⟨hat, hic⟩ := List.getElem?_eq_some_iff.1 hcode
  obtain ⟨n, hn1⟩ : ∃ n, (s.th t).at_ = n := ⟨_, rfl⟩
  have hkp : t < s.p.threads.length := by omega
  have hcd : s.code t = s.p.threads[t] := getD_lt _ hkp
  obtain ⟨ab, ao, rfl, hc⟩ := hth.2 (by intro e; simp [e] at hkp)
  obtain ⟨c, ccap, c0, c1, _⟩ := hc t hkp
  rw [← hcd] at c0 c1
  obtain ⟨cb, co, rfl, hcc⟩ := c1.2 (by intro e; simp [e] at hat)
  obtain ⟨i0, i1, i2, i3⟩ := hcc _ hat
  rw [hic] at i0 i1 i2 i3
  rw [hn1] at i0 i1 i2 i3 hat
  have p1 := h.prog.2
  have q0 : decide ((t : Int) < 0) = false := by simp
  have q1 : decide ((s.ts.length : Int) ≤ t) = false := by simp; omega
  have q2 : decide (s.ts.length ≤ t) = false := by simp; omega
  obtain ⟨hb1, hb2⟩ := h.lt
  have HB := Lib.hid (h.later (below_alloc1 w (.cells #[.int .i64 0, .int .i64 0, .int .i64 0, .bool false] 54)))
  have HTH := Lib.hid (hth.later (below_alloc1 w (.cells #[.int .i64 0, .int .i64 0, .int .i64 0, .bool false] 54)))
  have OK := Lib.hid ok
  have HM := Lib.hid hm
  obtain ⟨kd, r, x, m⟩ := i
  dsimp only at *
  obtain ⟨r, rfl⟩ : ∃ y : Nat, r = y := ⟨r.toNat, by omega⟩
  obtain ⟨x, rfl⟩ : ∃ y : Nat, x = y := ⟨x.toNat, by omega⟩
  subst hk1
  clear o1 o2 o3
  obtain ⟨e, he⟩ : ∃ e, e = s.ev t ⟨8, r, x, m⟩ := ⟨_, rfl⟩
  rw [← he] at hn ⊢
  have HE := Lib.hid he
  have HN := Lib.hid hn
  have HI := Lib.hid (And.intro hi (And.intro hf (And.intro hn1 (And.intro hrl (And.intro hvl hml)))))
  have HC := Lib.hid (And.intro c0 (And.intro i0 (And.intro i1 (And.intro i2 i3))))
  have h8n : n < 8 := by omega
  have hatn : n < (s.code t).length := by omega
  clear hst h hth ok hi hn he hkk hm hfu hcode hc c1 hcc hic hcd hln hrl hvl hml hf hn1 o6 c0 i0 i1 i2 i3
  try clear hat
  generalize (s.code t).length = ln at *
  go_enter Try.func36, Try.ntmps36
  go_wp2_with fail
  refine (refNext_any HB.out HTH.out OK.out t).mono ?_
  rw [HN.out, evR_some]
  rintro r9 w1 ⟨rfl, hb3⟩
  have hz : w.heap.size < w1.heap.size := by have := hb3.size; simp at this; omega
  have RX1 : Hid (EvBox0 w1 w.heap.size) := (hb3.block _ (by simp)).trans (heap_alloc_new w _)
  have H1 := Lib.hid ((HB.out.later hb3).later (below_alloc1 w1 (.cells #[.int .i64 e.thread, .int .i64 e.kind, .int .i64 e.obj, .bool e.fail] 54)))
  have T1 := Lib.hid ((HTH.out.later hb3).later (below_alloc1 w1 (.cells #[.int .i64 e.thread, .int .i64 e.kind, .int .i64 e.obj, .bool e.fail] 54)))
  have B1 : Hid (Below w.heap.size w w1) := (below_alloc1 w _).trans (hb3.mono (by simp))
  clear hb3 p1 HB HTH
  go_wp2_with fail
  refine (refEnabled_any H1.out T1.out OK.out t).mono ?_
  rw [HM.out]
  rintro r9 w2 ⟨rfl, hb4⟩
  have EX2 : Hid (w2.heap[w1.heap.size]? = some (.cells #[.int .i64 e.thread, .int .i64 e.kind, .int .i64 e.obj, .bool e.fail] 54 (0, 0))) := (hb4.block _ (by simp)).trans (heap_alloc_new w1 _)
  have B2 : Hid (Below w1.heap.size w1 w2) := (below_alloc1 w1 _).trans (hb4.mono (by simp))
  have RX2 : Hid (EvBox0 w2 w.heap.size) := (B2.out.block _ hz).trans RX1.out
  have H2 := Lib.hid (H1.out.later hb4)
  have W2 : Hid (Below w.heap.size w w2) := B1.out.trans (B2.out.mono (by omega))
  have hz2 : w1.heap.size < w2.heap.size := (Array.getElem?_eq_some_iff.1 EX2.out).1
  have hz3 : w.heap.size < w2.heap.size := by omega
  obtain ⟨p0, p1⟩ := H2.out.prog
  have ca := H2.out.at_ t ht
  rw [HI.out.2.2.1] at ca
  have d0 := cell_later W2.out HC.out.1
  have d1 := cell_later W2.out HC.out.2.1
  have d2 := cell_later W2.out HC.out.2.2.1
  have d3 := cell_later W2.out HC.out.2.2.2.1
  have d4 := cell_later W2.out HC.out.2.2.2.2
  have z0 := cell_block d0
  have z1 := cell_block d1
  dsimp only at z0 z1
  have ltb : tb < w2.heap.size := by omega
  have lb : b < w2.heap.size := by omega
  clear hb4 H1 T1 B1 B2 RX1 HC
  go_wp2
  go_region
  generalize hW : (w2.alloc (.cells #[.int .i64 8, .int .i64 r, .int .i64 x, .int .i64 m] 64)).drew = W at *
  have hbW : Below w2.heap.size w2 W := by rw [← hW]; exact ((Below.refl _ _).alloc (Nat.le_refl _) _).drew
  have IX : W.heap[w2.heap.size]? = some (.cells #[.int .i64 8, .int .i64 r, .int .i64 x, .int .i64 m] 64 (0, 0)) := by rw [← hW]; exact heap_alloc_new w2 _
  have HW := Lib.hid (H2.out.later hbW)
  have EX := Lib.hid ((hbW.block _ hz2).trans EX2.out)
  have RX : Hid (EvBox0 W w.heap.size) := (hbW.block _ hz3).trans RX2.out
  have OW : Hid (Only2 b tb w W) := .of_below (W2.out.trans (hbW.mono W2.out.size))
  have cf := HW.out.fuel t ht
  rw [HI.out.2.1, Int.natCast_add] at cf
  have ca2 := HW.out.at_ t ht
  rw [HI.out.2.2.1] at ca2
  have ff := fun o => (HW.out.frozen o).2
  have j0 := (ins_cells IX).1
  have IXH := Lib.hid IX
  have nb : b ≠ tb := HW.out.2.1
  generalize hI : w2.heap.size = I at *
  generalize hE : w1.heap.size = E at *
  generalize hR : w.heap.size = R at *
  have n1 : ¬ tb = I := by omega
  have n2 : ¬ I = tb := by omega
  have n3 : ¬ tb = E := by omega
  have n4 : ¬ E = tb := by omega
  have n5 : ¬ tb = R := by omega
  have n6 : ¬ R = tb := by omega
  have n7 : ¬ b = I := by omega
  have n8 : ¬ I = b := by omega
  have n9 : ¬ b = E := by omega
  have n10 : ¬ E = b := by omega
  have n11 : ¬ b = R := by omega
  have n12 : ¬ R = b := by omega
  have n13 : ¬ tb = b := fun h => nb h.symm
  have n14 : ¬ b = tb := nb
  have n15 : ¬ R = E := by omega
  have n16 : ¬ E = R := by omega
  clear hW hbW H2 EX2 RX2 W2 d0 d1 d2 d3 d4 ca p0 p1 IX
  go_wp2
  generalize hV : (W.setCell ⟨tb, t * 4 + 1, none⟩ (.int .i64 f)).setCell ⟨tb, t * 4, none⟩ (.int .i64 (n + 1)) = V at *
  have hoth : ∀ k, k ≠ tb → V.heap[k]? = W.heap[k]? := fun k hk => by rw [← hV, Below.heap_setCell _ _ _ _ hk, Below.heap_setCell _ _ _ _ hk]
  have HG : Hid (RefAt V b tb (some ⟨ab, ao, none⟩) cap tcap (s.go t)) := by rw [← hV]; exact HW.out.go t f n ht HI.out.2.1 HI.out.2.2.1
  have OV : Hid (Only2 b tb w V) := by rw [← hV]; exact (OW.out.setCell (.inr (.inl rfl)) _ _).setCell (.inr (.inl rfl)) _ _
  obtain ⟨j0v, j1v, j2v, j3v⟩ := ins_cells ((hoth I (fun e => n2 e)).trans IXH.out)
  obtain ⟨x0, x1, x2, x3⟩ := ev_cells ((hoth E (fun e => n4 e)).trans EX.out)
  obtain ⟨e0, e1, e2, e3, ef⟩ := EvBox0.cells ((hoth R (fun e => n6 e)).trans RX.out)
  have f0 := ef 0
  have f1 := ef 1
  have f2 := ef 2
  have f3 := ef 3
  have htg : t < (s.go t).ts.length := by rw [St.go, St.put_len]; exact ht
  clear hV hoth j0 cf ca2 ff ef IXH EX RX HW OW
  have hek : e.kind = 1 := by rw [HE.out]; rfl
  have q4 : (e.kind == 4) = false := by simp [hek]
  have q5 : (e.kind == 5) = false := by simp [hek]
  clear hek
  have GL := Lib.hid (go_assert s t r x m ht)
  go_quiet (fail)
  go_wp2
  refine bodyPost_ret (v := .tuple #[.agg #[.int .i64 e.thread, .int .i64 e.kind, .int .i64 e.obj, .bool e.fail], .int .i64 0]) (by simp [results, Try.results36, go_sem, e0, e1, e2, e3]) rfl ⟨rfl, ?_, ?_⟩
  · obtain ⟨hi, hf, hn1, hrl, hvl, hml⟩ := HI.out
    have hg := HG.out
    have h2 := hg.drewN nq
    rw [GL.out] at h2
    exact h2.other4 (by omega) (by omega) _ _ _ _
  · exact (OV.out.drewN).set4 (Nat.le_of_eq hR) _ _ _ _
end
end Go.Proofs.Ytbmhcnldcfaipaa

/- The contract of the document's Step. -/
namespace Go.Proofs.Ytbmhcnldcfaipaa
open Go.RowKit

theorem refStep_any {F : Nat} {w : World} {b tb : Nat} {a : Option Addr} {cap tcap : Nat} {s : St} (h : RefAt w b tb a cap tcap s) (hth : ThreadsAt w a s.p.threads) (ok : s.Ok F) (t : Int) :
    Calls Try.prog 36 #[.pointer (some ⟨b, 0, none⟩), .int .i64 t] w fun e w' => e = .returned (stepV (s.step t)) ∧ RefAt w' b tb a cap tcap (s.step t).2.2 ∧ Only2 b tb w w' := by
  cases hb : belowB t s.ts.length
  · exact refStep_range h t hb
  · have hb' : 0 ≤ t ∧ t < s.ts.length := by simpa [belowB] using hb
    cases hi : s.ins t with
    | none =>
      obtain ⟨k, rfl⟩ : ∃ k : Nat, t = k := ⟨t.toNat, by omega⟩
      exact refStep_none h hth ok k (by omega) hi
    | some i =>
      obtain ⟨k, rfl, _⟩ := St.ins_nat hi
      cases hm : s.may k
      · exact refStep_state h hth ok k i hi hm
      · have hk : i.kind = 1 ∨ i.kind = 2 ∨ i.kind = 3 ∨ i.kind = 4 ∨ i.kind = 5 ∨ i.kind = 6 ∨ i.kind = 7 ∨ i.kind = 8 := by
          have := (ok.ins_right hi).1
          unfold rightIns at this
          repeat' split at this
          all_goals first | omega | (cases this)
        rcases hk with h1 | h1 | h1 | h1 | h1 | h1 | h1 | h1
        · exact refStep_1 h hth ok k i hi hm h1
        · exact refStep_2 h hth ok k i hi hm h1
        · exact refStep_3 h hth ok k i hi hm h1
        · exact refStep_4 h hth ok k i hi hm h1
        · exact refStep_5 h hth ok k i hi hm h1
        · by_cases hw : s.who i.x = k
          · exact refStep_6 h hth ok k i hi hm h1 hw
          · exact refStep_6b h hth ok k i hi hm h1 hw
        · by_cases hw : (s.th k).r.getD i.r.toNat 0 = 0
          · exact refStep_7z h hth ok k i hi hm h1 hw
          · exact refStep_7 h hth ok k i hi hm h1 hw
        · exact refStep_8 h hth ok k i hi hm h1

end Go.Proofs.Ytbmhcnldcfaipaa

/- The contract of the document's Instr. -/
namespace Go.Proofs.Ytbmhcnldcfaipaa
open Go.RowKit

def withinB (n lo hi : Int) : Bool := decide (lo ≤ n ∧ n ≤ hi)
theorem within_any (n lo hi : Int) (w : World) : Calls Try.prog 54 #[.int .i64 n, .int .i64 lo, .int .i64 hi] w fun r w' => r = .returned (.bool (withinB n lo hi)) ∧ w = w' := by
  go_enter Try.func54, Try.ntmps54
  go_wp2
  all_goals
    go_ret
    refine ⟨ret_bool ?_, rfl⟩
    simp [withinB]
    try omega

set_option maxRecDepth 100000 in
set_option maxHeartbeats 1000000 in
theorem refInstr_any (V M size : Int) (_hs : 0 ≤ size) (_hs2 : size ≤ 1000) (hV : 0 ≤ V) (hV2 : V ≤ 4) (hM : 0 ≤ M) (hM2 : M ≤ 2) (t : Value) (i : Ins) (w : World) :
    Calls Try.prog 55 #[.agg #[.int .i64 V, .int .i64 M, t], .int .i64 size, insV i] w fun r w' => r = .returned (.bool (rightIns V M size i)) ∧ Below w.heap.size w w' := by
  obtain ⟨k, ri, x, n⟩ := i
  unfold insV
  dsimp only
  go_enter Try.func55, Try.ntmps55
  go_wp2_with (go_at_call 54; refine (within_any _ _ _ _).mono ?_; rintro r w' ⟨rfl, rfl⟩)
  all_goals
    go_ret
    refine ⟨ret_bool ?_, below_alloc2 _ _ _⟩
    simp [withinB] at *
    rw [Bool.eq_iff_iff]
    simp [rightIns, *]
    try (first | omega | (split <;> omega))
end Go.Proofs.Ytbmhcnldcfaipaa

/- The contract of the document's Right. -/
namespace Go.Proofs.Ytbmhcnldcfaipaa
open Go.RowKit

set_option maxRecDepth 100000 in
set_option maxHeartbeats 1000000 in
theorem refRight_any (p : Pg) (a : Option Addr) (cap : Nat) (w : World) (hp : ThreadsAt w a p.threads) :
    Calls Try.prog 49 #[pgV p a cap] w fun r w' => r = .returned (.bool (rightPg p)) ∧ Below w.heap.size w w' := by
  obtain ⟨V, M, ts⟩ := p
  unfold pgV
  dsimp only at *
  have hm := hp.1
  unfold maxLen at hm
  have HL := Lib.hid hp
  clear hp
  cases hV : withinB V 0 4
  · have H : Hid (rightPg ⟨V, M, ts⟩ = false) := by
      show _ = _
      simp [withinB] at hV
      simp [rightPg]; omega
    go_enter Try.func49, Try.ntmps49
    go_wp2_with (go_at_call 54; refine (within_any _ _ _ _).mono ?_; rintro r w' ⟨rfl, rfl⟩)
    go_ret
    exact ⟨ret_bool H.out.symm, below_alloc1 _ _⟩
  cases hM : withinB M 0 2
  · have H : Hid (rightPg ⟨V, M, ts⟩ = false) := by
      show _ = _
      simp [withinB] at hM
      simp [rightPg]; omega
    go_enter Try.func49, Try.ntmps49
    go_wp2_with (go_at_call 54; refine (within_any _ _ _ _).mono ?_; rintro r w' ⟨rfl, rfl⟩)
    go_ret
    exact ⟨ret_bool H.out.symm, below_alloc1 _ _⟩
  cases hT : withinB ts.length 1 4
  · have H : Hid (rightPg ⟨V, M, ts⟩ = false) := by
      show _ = _
      simp [withinB] at hT
      simp [rightPg]; omega
    go_enter Try.func49, Try.ntmps49
    go_wp2_with (go_at_call 54; refine (within_any _ _ _ _).mono ?_; rintro r w' ⟨rfl, rfl⟩)
    go_ret
    exact ⟨ret_bool H.out.symm, below_alloc1 _ _⟩
  have bV : 0 ≤ V ∧ V ≤ 4 := by simpa [withinB] using hV
  have bM : 0 ≤ M ∧ M ≤ 2 := by simpa [withinB] using hM
  have bT : 1 ≤ ts.length ∧ ts.length ≤ 4 := by simp [withinB] at hT; omega
  have H : Hid (rightPg ⟨V, M, ts⟩ = ts.all (rightCode V M)) := by
    show _ = _
    have : decide (0 ≤ V ∧ V ≤ 4 ∧ 0 ≤ M ∧ M ≤ 2 ∧ 1 ≤ ts.length ∧ ts.length ≤ 4) = true := by simp; omega
    unfold rightPg
    dsimp only
    rw [this, Bool.true_and]
  obtain ⟨bV1, bV2⟩ := bV
  obtain ⟨bM1, bM2⟩ := bM
  obtain ⟨bT1, bT2⟩ := bT
  go_enter Try.func49, Try.ntmps49
  go_wp2_with (go_at_call 54; refine (within_any _ _ _ _).mono ?_; rintro r w' ⟨rfl, rfl⟩)
  go_loopw [3] (fun i wr => ∃ k : Nat, k ≤ ts.length ∧ i = .int .i64 k ∧ Hid ((ts.take k).all (rightCode V M) = true) ∧ Below (w.heap.size + 1) (w.alloc (.cells #[.int .i64 V, .int .i64 M, .slice a ts.length cap] 37)) wr) (fun i _ => ts.length - (intOf i).toNat)
  case atStart => exact ⟨0, Nat.zero_le _, rfl, rfl, Below.refl _ _⟩
  case round =>
    obtain ⟨k, hk, rfl, hall, hb⟩ := hrel
    have p2 : wr.cell? ⟨w.heap.size, 2, none⟩ = some (.slice a ts.length cap) := by rw [hb.cell (p := ⟨w.heap.size, 2, none⟩) (by simp)]; simp
    have hbw : Below w.heap.size w wr := ((Below.refl _ _).alloc (Nat.le_refl _) _).trans (hb.mono (by omega))
    by_cases hlt : k < ts.length
    · obtain ⟨b, o, rfl, hc⟩ := HL.out.2 (by intro e; simp [e] at hlt)
      obtain ⟨c, ccap, c0, c1, _⟩ := hc k hlt
      have d0 := cell_later hbw c0
      have D1 := Lib.hid (c1.later hbw)
      have hcm := c1.1
      unfold maxLen at hcm
      clear c0 c1 hc
      have ht : (ts.take (k + 1)) = ts.take k ++ [ts[k]] := List.take_succ_eq_append_getElem hlt
      have HT := Lib.hid ht
      clear ht
      by_cases h8 : 8 < ts[k].length
      · have HR : Hid (rightPg ⟨V, M, ts⟩ = false) := by
          show _ = _
          rw [H.out, List.all_eq_false]; exact ⟨ts[k], List.getElem_mem _, by simp [rightCode]; omega⟩
        go_wp2
        go_ret
        exact ⟨ret_bool HR.out.symm, hbw⟩
      · have HC : Hid (rightCode V M ts[k] = ts[k].all (rightIns V M ts[k].length)) := by
          show _ = _
          have : decide (ts[k].length ≤ 8) = true := by simp; omega
          unfold rightCode
          rw [this, Bool.true_and]
        go_wp2
        obtain ⟨wo, hwo⟩ : ∃ x, x = wr := ⟨_, rfl⟩
        subst hwo
        have q0 : wo.cell? ⟨w.heap.size, 0, none⟩ = some (.int .i64 V) := by rw [hb.cell (p := ⟨w.heap.size, 0, none⟩) (by simp)]; simp
        have q1 : wo.cell? ⟨w.heap.size, 1, none⟩ = some (.int .i64 M) := by rw [hb.cell (p := ⟨w.heap.size, 1, none⟩) (by simp)]; simp
        have hz : w.heap.size < wo.heap.size := by have := hb.size; simp at this; omega
        go_loopw [5] (fun i w2 => ∃ j : Nat, j ≤ ts[k].length ∧ i = .int .i64 j ∧ Hid ((ts[k].take j).all (rightIns V M ts[k].length) = true) ∧ Below wo.heap.size wo w2) (fun i _ => ts[k].length - (intOf i).toNat)
        case atStart => exact ⟨0, Nat.zero_le _, rfl, rfl, Below.refl _ _⟩
        case round =>
          obtain ⟨j, hj, rfl, hin, hb'⟩ := hrel
          have r0 := cell_later hb' q0
          have r1 := cell_later hb' q1
          have r2 := cell_later hb' p2
          by_cases hjl : j < ts[k].length
          · obtain ⟨b', o', rfl, hc⟩ := D1.out.2 (by intro e; simp [e] at hjl)
            obtain ⟨c0, c1, c2, c3⟩ := hc j hjl
            have d0 := cell_later hb' c0
            have d1 := cell_later hb' c1
            have d2 := cell_later hb' c2
            have d3 := cell_later hb' c3
            clear c0 c1 c2 c3 hc
            go_wp2
            go_still_tail 7, (by kernel_rfl)
            go_wp2_with fail
            refine (refInstr_any V M ts[k].length (by omega) (by omega) bV1 bV2 bM1 bM2 _ ts[k][j] _).mono ?_
            rintro r w1 ⟨rfl, hb1⟩
            have hb2 : Below wo.heap.size wo w1 := hb'.drew.trans (hb1.mono hb'.size)
            have hb3 : Below w.heap.size w w1 := hbw.trans (hb2.mono (by omega))
            have htj : (ts[k].take (j + 1)) = ts[k].take j ++ [ts[k][j]] := List.take_succ_eq_append_getElem hjl
            cases hr : rightIns V M ts[k].length ts[k][j]
            · have HR : Hid (rightPg ⟨V, M, ts⟩ = false) := by
                show _ = _
                rw [H.out, List.all_eq_false]; refine ⟨ts[k], List.getElem_mem _, ?_⟩
                rw [HC.out, Bool.not_eq_true, List.all_eq_false]
                exact ⟨ts[k][j], List.getElem_mem _, by simp [hr]⟩
              clear hr htj
              go_wp2
              go_ret
              exact ⟨ret_bool HR.out.symm, hb3⟩
            · have HR : Hid ((ts[k].take (j + 1)).all (rightIns V M ts[k].length) = true) := by
                show _ = _
                rw [htj, List.all_append, hin.out]; simp [hr]
              clear hr htj
              go_wp2
              go_roundw
              case rel => exact ⟨j + 1, by omega, by go_num, HR, hb2⟩
              case measure => simp [intOf]; omega
          · obtain rfl : j = ts[k].length := by omega
            have HR : Hid ((ts.take (k + 1)).all (rightCode V M) = true) := by
              show _ = _
              rw [HT.out, List.all_append, hall.out]
              have := hin.out
              rw [List.take_length] at this
              simp [HC.out, this]
            have hb4 : Below (w.heap.size + 1) (w.alloc (.cells #[.int .i64 V, .int .i64 M, .slice (some ⟨b, o, none⟩) ts.length cap] 37)) wr := hb.trans (hb'.mono (by omega))
            go_wp2
            go_roundw
            case rel => exact ⟨k + 1, by omega, by go_num, HR, hb4⟩
            case measure => simp [intOf]; omega
    · obtain rfl : k = ts.length := by omega
      have HR : Hid (rightPg ⟨V, M, ts⟩ = true) := by
        show _ = _
        rw [H.out, ← hall.out, List.take_length]
      go_wp2
      go_ret
      exact ⟨ret_bool HR.out.symm, hbw⟩
end Go.Proofs.Ytbmhcnldcfaipaa

/- The contract of the document's New. -/
namespace Go.Proofs.Ytbmhcnldcfaipaa
open Go.RowKit

def thrs (F k : Nat) : List Thr := List.replicate k ⟨0, F, [0, 0]⟩
theorem thrs_len (F k : Nat) : (thrs F k).length = k := by simp [thrs]
theorem thrs_succ (F k : Nat) : thrs F (k + 1) = thrs F k ++ [⟨0, F, [0, 0]⟩] := by simp [thrs, List.replicate_succ']

def boxA (p : Pg) (a : Option Addr) (cap : Nat) (tv : Value) : Array Value :=
  #[.int .i64 p.vars, .int .i64 p.mutexes, .slice a p.threads.length cap, tv, .int .i64 0, .int .i64 0, .int .i64 0, .int .i64 0, .int .i64 (-1), .int .i64 (-1)]

theorem wp_appendThr {w : World} {ops : Array Oper} {rest : List Oper} {o : Oper} {a : Act} {Q : Exit → Act → World → Prop} (hgd : o.guard = none) (s x : Operand)
    (ho : o.op = .call { callee := .builtin .append, args := #[s, x], argTypes := #[88, 88] }) (B : Nat) (v : Value) (l : List Thr) (hs : a.eval s = v) (hown : w.ownsRow B 92 4 v l.length (thrCells l))
    (ad : Addr) (hx : a.eval x = .slice (some ad) 1 1) (y : Thr) (hnews : ∀ j u, (thrCells [y])[j]? = some u → w.cell? (ad.add j) = some u)
    (hlen : l.length ≤ 1000000) (hB : B ≤ w.heap.size)
    (h : ∀ v' w', w'.ownsRow B 92 4 v' (l.length + 1) (thrCells (l ++ [y])) → w.grownBy w' v.ownBlock → wpList Try.prog ops Q rest (a.put o.dst v') w') : wpList Try.prog ops Q (o :: rest) a w := by
  have hinfo : (Try.prog.info? 92).map (fun i => (i.zero, i.size, i.bytes)) = some (some (.agg #[.int .i64 0, .int .i64 0, .int .i64 0, .int .i64 0]), 4, 32) := by kernel_rfl
  obtain ⟨t, hi, hzz⟩ := Option.map_eq_some_iff.1 hinfo
  simp only [Prod.mk.injEq] at hzz
  obtain ⟨hz, hsz, hby⟩ := hzz
  refine wpList_append_own w hgd s x 88 ho B 92 t (.agg #[.int .i64 0, .int .i64 0, .int .i64 0, .int .i64 0]) 4 32 Try.underlying88 hi hz hsz hby rfl (by decide) v l.length (thrCells l) hs hown ad 1 1 (thrCells [y]) hx rfl hnews
    (thrCells_one _) (by unfold maxLen; omega) (by omega) hB ?_
  intro v' w' h1 h2 _
  refine h v' w' ?_ h2
  rw [thrCells_append]
  exact h1

theorem thr_new (w : World) (F : Nat) (t : TypeId) (g : Nat) (hg : g = w.heap.size) : ∀ j u, (thrCells [⟨0, F, [0, 0]⟩])[j]? = some u → (w.alloc (.cells #[.int .i64 0, .int .i64 F, .int .i64 0, .int .i64 0] t)).cell? (Addr.add ⟨g, 0, none⟩ j) = some u := by
  subst hg
  intro j u hj
  have e : Addr.add ⟨w.heap.size, 0, none⟩ j = ⟨w.heap.size, j, none⟩ := by
    unfold Addr.add
    split
    · rename_i h0; subst h0; rfl
    · simp
  rw [e, World.cell?_alloc_new]
  simpa [thrCells, thrCell] using hj

theorem refnew_mid {p : Pg} {a : Option Addr} {cap : Nat} {wr w7 : World} {b k : Nat} {tv v7 : Value} {o : Obj} {xs ys : List Value} (hbox : wr.heap[b]? = some (.cells (boxA p a cap tv) 90 (0, 0))) (hown : wr.ownsRow (b + 1) 92 4 tv k xs)
    (h7 : w7.ownsRow (b + 1) 92 4 v7 (k + 1) ys) (hg : (wr.alloc o).grownBy w7 tv.ownBlock) :
    ∃ g7 cap7, v7 = .slice (some ⟨g7, 0, none⟩) (k + 1) cap7 ∧ w7.cell? ⟨b, 3, none⟩ = some tv ∧ w7.frozen? ⟨b, 3, none⟩ = false ∧
      Hid ((w7.setCell ⟨b, 3, none⟩ (.slice (some ⟨g7, 0, none⟩) (k + 1) cap7)).heap[b]? = some (.cells (boxA p a cap (.slice (some ⟨g7, 0, none⟩) (k + 1) cap7)) 90 (0, 0))) ∧
      Hid ((w7.setCell ⟨b, 3, none⟩ (.slice (some ⟨g7, 0, none⟩) (k + 1) cap7)).ownsRow (b + 1) 92 4 (.slice (some ⟨g7, 0, none⟩) (k + 1) cap7) (k + 1) ys) ∧ Below b wr w7 := by
  have hlt : b < wr.heap.size := (Array.getElem?_eq_some_iff.1 hbox).1
  have own : ∀ j, tv.ownBlock = some j → b + 1 ≤ j := fun j hj => (World.ownsRow.lt hown j hj).1
  have hb7 : w7.heap[b]? = some (.cells (boxA p a cap tv) 90 (0, 0)) := by
    rw [hg.block b (by simp; omega) (fun e => by have := own _ e.symm; omega), Below.heap_alloc _ _ _ hlt]
    exact hbox
  obtain ⟨r1, ⟨_, r3⟩ | ⟨g, cap', cur, rfl, r4, r5, r6⟩⟩ := h7
  · exact absurd r3 (by omega)
  · refine ⟨g, cap', rfl, by simp [World.cell?, hb7, boxA], by simp [World.frozen?, hb7], ?_, ?_, ?_⟩
    · show _ = _
      rw [heap_setCell_same w7 b 3 _ _ _ hb7]
      rfl
    · exact ⟨r1, .inr ⟨g, cap', cur, rfl, r4, (Below.heap_setCell _ _ _ _ (by show g ≠ b; omega)).trans r5, r6⟩⟩
    · exact ((Below.refl _ _).alloc (by omega) o).grown hg (by simp; omega) (fun j hj => by have := own j hj; omega)

theorem new_eq (p : Pg) (F : Nat) : (St.new p F).ts = thrs F p.threads.length := by
  unfold St.new thrs
  simp [List.map_const']

set_option maxRecDepth 100000 in
set_option maxHeartbeats 4000000 in
theorem refNew_no (p : Pg) (a : Option Addr) (cap : Nat) (fuel : Int) (w : World) (hp : ThreadsAt w a p.threads) (hr : ¬ (rightPg p = true ∧ 0 ≤ fuel ∧ fuel ≤ 8)) :
    Calls Try.prog 35 #[.agg #[.int .i64 p.vars, .int .i64 p.mutexes, .slice a p.threads.length cap], .int .i64 fuel] w fun r w' => r = .returned (.pointer none) ∧ Below w.heap.size w w' := by
  have HP := Lib.hid hp
  have HR := Lib.hid hr
  clear hr hp
  go_enter Try.func35, Try.ntmps35
  go_wp2_with fail
  refine (refRight_any p a cap _ (HP.out.later (below_alloc1 w _))).mono ?_
  rintro r w1 ⟨rfl, hb⟩
  have hb1 : Below w.heap.size w w1 := (below_alloc1 w _).trans (hb.mono (by simp))
  clear hb
  cases hr : rightPg p
  · clear hr
    go_wp2
    go_ret
    exact ⟨rfl, hb1⟩
  · by_cases h0 : fuel < 0
    · have q0 : decide (fuel < 0) = true := by simpa using h0
      clear hr
      go_wp2
      go_ret
      exact ⟨rfl, hb1⟩
    · have q0 : decide (fuel < 0) = false := by simpa using h0
      have h8 : 8 < fuel := by
        rcases Decidable.em (fuel ≤ 8) with h | h
        · exact absurd ⟨hr, by omega, h⟩ HR.out
        · omega
      have q8 : decide (8 < fuel) = true := by simpa using h8
      clear hr
      go_wp2
      go_ret
      exact ⟨rfl, hb1⟩

set_option maxRecDepth 100000 in
set_option maxHeartbeats 4000000 in
theorem refNew_yes (p : Pg) (a : Option Addr) (cap F : Nat) (w : World) (hp : ThreadsAt w a p.threads) (hr : rightPg p = true) (hF : F ≤ 8) :
    Calls Try.prog 35 #[.agg #[.int .i64 p.vars, .int .i64 p.mutexes, .slice a p.threads.length cap], .int .i64 F] w
      fun r w' => ∃ b tb tcap, r = .returned (.pointer (some ⟨b, 0, none⟩)) ∧ w.heap.size ≤ b ∧ w.heap.size ≤ tb ∧ RefAt w' b tb a cap tcap (St.new p F) ∧ Below w.heap.size w w' := by
  have hn : 1 ≤ p.threads.length ∧ p.threads.length ≤ 4 := by
    unfold rightPg at hr
    rw [Bool.and_eq_true, decide_eq_true_eq] at hr
    omega
  obtain ⟨hn1, hn4⟩ := hn
  have HR := Lib.hid hr
  have HP := Lib.hid hp
  have q0 : decide ((F : Int) < 0) = false := by simp
  have q8 : decide (8 < (F : Int)) = false := by simp; omega
  clear hr hp
  go_enter Try.func35, Try.ntmps35
  go_wp2_with fail
  refine (refRight_any p a cap _ (HP.out.later (below_alloc1 w _))).mono ?_
  rw [HR.out]
  rintro r w1 ⟨rfl, hb⟩
  have hb1 : Below w.heap.size w w1 := (below_alloc1 w _).trans (hb.mono (by simp))
  have hc : ∀ o, w1.cell? ⟨w.heap.size, o, none⟩ = (w.alloc (.cells #[.int .i64 p.vars, .int .i64 p.mutexes, .slice a p.threads.length cap] 37)).cell? ⟨w.heap.size, o, none⟩ := fun o => hb.cell (p := ⟨w.heap.size, o, none⟩) (by simp)
  have hz : w.heap.size < w1.heap.size := by have := hb.size; simp at this; omega
  have HPX : Hid (w1.heap[w.heap.size]? = some (.cells #[.int .i64 p.vars, .int .i64 p.mutexes, .slice a p.threads.length cap] 37 (0, 0))) := (hb.block _ (by simp)).trans (heap_alloc_new w _)
  clear hb
  go_wp2
  clear hc
  go_loopw [6] (fun i wr => ∃ (k : Nat) (tv : Value), k ≤ p.threads.length ∧ i = .int .i64 k ∧ wr.heap[w1.heap.size]? = some (.cells (boxA p a cap tv) 90 (0, 0)) ∧ wr.ownsRow (w1.heap.size + 1) 92 4 tv (thrs F k).length (thrCells (thrs F k)) ∧ Below w1.heap.size w1 wr) (fun i _ => p.threads.length - (intOf i).toNat)
  case atStart => exact ⟨0, .slice none 0 0, Nat.zero_le _, rfl, heap_alloc_new w1 _, World.ownsRow_nil _ _ _ _, below_alloc1 _ _⟩
  case round =>
    obtain ⟨k, tv, hk, rfl, hbox, hown, hbr⟩ := hrel
    have c2 : wr.cell? ⟨w.heap.size, 2, none⟩ = some (.slice a p.threads.length cap) := by
      have : wr.heap[w.heap.size]? = some (.cells #[.int .i64 p.vars, .int .i64 p.mutexes, .slice a p.threads.length cap] 37 (0, 0)) := (hbr.block _ hz).trans HPX.out
      simp [World.cell?, this]
    have c3 : wr.cell? ⟨w1.heap.size, 3, none⟩ = some tv := by simp [World.cell?, hbox, boxA]
    have hbl := (Array.getElem?_eq_some_iff.1 hbox).1
    have hlk := thrs_len F k
    have HBOX := Lib.hid hbox
    have HOWN := Lib.hid hown
    have HLK := Lib.hid hlk
    clear hbox hown hlk
    by_cases hlt : k < p.threads.length
    · go_wp2_with (at_builtin; refine wp_appendThr rfl (.tmp 33) (.tmp 36) rfl (w1.heap.size + 1) _ (thrs F k) rfl (World.ownsRow.alloc HOWN.out _) ⟨wr.heap.size, 0, none⟩ rfl ⟨0, F, [0, 0]⟩ (thr_new wr F _ _ rfl) (by rw [HLK.out]; omega) (by simp; omega) ?_; intro v7 w7 hown7 hg7; obtain ⟨g7, cap7, rfl, d3, f3, HB7, HO7, hbl7⟩ := refnew_mid HBOX.out HOWN.out hown7 hg7; clear hown7 hg7)
      have hb7 : Below w1.heap.size w1 (w7.setCell ⟨w1.heap.size, 3, none⟩ (.slice (some ⟨g7, 0, none⟩) ((thrs F k).length + 1) cap7)) := (hbr.trans hbl7).setCell (p := ⟨w1.heap.size, 3, none⟩) (Nat.le_refl _) _
      go_roundw
      case rel => exact ⟨k + 1, _, by omega, by go_num, HB7.out, by rw [thrs_succ, List.length_append]; exact HO7.out, hb7⟩
      case measure => simp [intOf]; omega
    · obtain rfl : k = p.threads.length := by omega
      go_wp2
      go_ret
      have hown := HOWN.out
      rw [HLK.out] at hown
      obtain ⟨r1, ⟨_, r3⟩ | ⟨tb, tcap, cur, e, r4, r5, _, _, _, r6⟩⟩ := hown
      · exact absurd r3 (by omega)
      · subst e
        refine ⟨_, tb, tcap, rfl, by omega, by omega, ⟨?_, by omega, cur, r5, ?_⟩, hb1.trans (hbr.mono (by omega))⟩
        · rw [HBOX.out]
          have hl : (St.new p F).ts.length = p.threads.length := by rw [new_eq, thrs_len]
          unfold refA boxA
          rw [hl]
          rfl
        · rw [new_eq, thrs_len]
          exact r6

end Go.Proofs.Ytbmhcnldcfaipaa

/- The cells of rows of instructions. -/
namespace Go.Proofs.Ytbmhcnldcfaipaa
open Go.RowKit

def insCells (l : List Ins) : List Value := l.flatMap fun i => [.int .i64 i.kind, .int .i64 i.r, .int .i64 i.x, .int .i64 i.n]

theorem insCells_length (l : List Ins) : (insCells l).length = l.length * 4 := by
  induction l with
  | nil => rfl
  | cons i l ih => simp only [insCells, List.flatMap_cons, List.length_append, List.length_cons, List.length_nil] at *; omega

theorem insCells_get (l : List Ins) (i j : Nat) (h : i < l.length) (hj : j < 4) :
    (insCells l)[i * 4 + j]? = [Value.int .i64 l[i].kind, .int .i64 l[i].r, .int .i64 l[i].x, .int .i64 l[i].n][j]? := by
  induction l generalizing i with
  | nil => simp at h
  | cons x l ih =>
    cases i with
    | zero =>
      simp only [insCells, List.flatMap_cons, Nat.zero_mul, Nat.zero_add, List.getElem_cons_zero]
      rw [List.getElem?_append_left (by simpa using hj)]
    | succ i =>
      have := ih i (by simpa using h)
      simp only [insCells, List.flatMap_cons, List.getElem_cons_succ] at *
      rw [List.getElem?_append_right (by simp; omega), ← this]
      congr 1
      simp
      omega

theorem insCells_one (l : List Ins) : ∀ v ∈ insCells l, v.oneCell' = true := by
  intro v hv
  simp only [insCells, List.mem_flatMap] at hv
  obtain ⟨i, _, hv⟩ := hv
  simp at hv
  rcases hv with rfl | rfl | rfl | rfl <;> rfl

/-- The cells of a code that lies in memory. -/
theorem CodeAt.cells {w : World} {b o : Nat} {l : List Ins} (h : CodeAt w (some ⟨b, o, none⟩) l) :
    ∀ j v, (insCells l)[j]? = some v → w.cell? (Addr.add ⟨b, o, none⟩ j) = some v := by
  intro j v hv
  have hj : j < (insCells l).length := (List.getElem?_eq_some_iff.1 hv).1
  rw [insCells_length] at hj
  have hlt : j / 4 < l.length := by omega
  obtain ⟨b', o', e, hc⟩ := h.2 (by intro e; simp [e] at hlt)
  obtain ⟨rfl, rfl⟩ : b = b' ∧ o = o' := by simpa using e
  obtain ⟨c0, c1, c2, c3⟩ := hc (j / 4) hlt
  have ej : j / 4 * 4 + j % 4 = j := by omega
  have hm : j % 4 < 4 := by omega
  have := insCells_get l (j / 4) (j % 4) hlt hm
  rw [ej, hv] at this
  have ha : Addr.add ⟨b, o, none⟩ j = ⟨b, o + j / 4 * 4 + j % 4, none⟩ := by
    unfold Addr.add
    split
    · rename_i h0; subst h0; rfl
    · simp; omega
  rw [ha]
  obtain h | h | h | h : j % 4 = 0 ∨ j % 4 = 1 ∨ j % 4 = 2 ∨ j % 4 = 3 := by omega
  all_goals
    rw [h] at this ⊢
    simp at this
    subst this
    first | exact c0 | exact c1 | exact c2 | exact c3

/-- A row of the cells of a code is that code. -/
theorem codeAt_row {w : World} {g : Nat} {l : List Ins} {t : TypeId} {fr : Nat × Nat} (hm : l.length ≤ maxLen) (h : w.heap[g]? = some (.cells (insCells l).toArray t fr)) : CodeAt w (some ⟨g, 0, none⟩) l := by
  refine ⟨hm, fun _ => ⟨g, 0, rfl, fun i hi => ?_⟩⟩
  have e : ∀ j, w.cell? ⟨g, j, none⟩ = (insCells l)[j]? := by intro j; simp [World.cell?, h]
  refine ⟨?_, ?_, ?_, ?_⟩
  · rw [e]; simpa using insCells_get l i 0 hi (by omega)
  · rw [e]; simpa using insCells_get l i 1 hi (by omega)
  · rw [e]; simpa using insCells_get l i 2 hi (by omega)
  · rw [e]; simpa using insCells_get l i 3 hi (by omega)

end Go.Proofs.Ytbmhcnldcfaipaa
