import Derived.Laws.CopyOwn
import Derived.Shelf.SortG.Plain
import Derived.Shelf.SlicesG.In.CompactS
import Derived.Shelf.SortG.SortNone
import Derived.Sort.OwnSorted
import Derived.Sort.EveryDepth
import Derived.Test.YtnldkmcijmbhcaaGreatProg
import Derived.Test.YtnldkmcijmbhcaaGreatPk01
import Derived.Test.YtnldkmcijmbhcaaGreatPk04
import Derived.Test.YtnldkmcijmbhcaaGreatPk06
import Derived.Test.YtnldkmcijmbhcaaGreatPk09
import Derived.Test.YtnldkmcijmbhcaaGreatPk14
import Derived.Test.YtnldkmcijmbhcaaGreatPk15

/- The contract of goOn. -/
namespace Go.Proofs.YtnldkmcijmbhcaaGreat
open Go.RowKit

set_option maxRecDepth 100000 in
set_option maxHeartbeats 16000000 in
theorem goOn_any {w : World} {B xb oc F : Nat} {pv rv kv : Value} {oa : Option Addr} {ps : List (Nat × PN)} {x : Xp} {e : Ev} {s1 : St} (h : XM w B xb pv rv kv oa oc ps x) (hB : B ≤ w.heap.size)
    (hlen : x.path.length = x.row.length + 1) (hrow : x.row.length ≤ 90) (hright : rightL (x.row ++ [e]) = true) (hoks : ∀ n ∈ x.path, n.st.Ok F) (hbits : ∀ n ∈ x.path, n.z < 256 ∧ n.go < 256 ∧ n.gone < 256) (hl : (lastX x).left ≠ []) (hst : (lastX x).st.step (pick x.order x.choices (lastX x).left) = (0, e, s1))
    (hc : x.choices ≤ 90000) (hnd : x.nodes ≤ 90000) (hru : x.runs ≤ 90000) (hbl : x.blocked ≤ 90000) (hks : x.keys.length ≤ 90000) (ho : x.order.length ≤ 1000) (hbs : ∀ n ∈ x.order, 0 ≤ n ∧ n < 256) :
    Calls Tryz.prog 23 #[.pointer (some ⟨xb, 0, none⟩)] w fun r w' => r = .returned (.tuple #[]) ∧ ExR B xb oa oc (goX x) w' ∧ Below B w w' := by
  have hpl : ps.length = x.path.length := by rw [← h.eq, List.length_map]
  obtain ⟨pa, pc, rfl, _, _⟩ := OwnRow.form2 h.path pnCell_len (by omega)
  obtain ⟨ra, rc, rfl, _, _⟩ := h.row.form2 (by omega)
  obtain ⟨m, hm0⟩ : ∃ m, m = x.row.length := ⟨_, rfl⟩
  have hm : x.path.length = m + 1 := by omega
  rw [hpl, hm] at h
  obtain ⟨g, cap, e0, _⟩ := h.path.block (by intro e; rw [e] at hpl; simp at hpl; omega)
  injection e0 with e0 e01 e02
  subst e0
  clear e01 e02
  have hmp : m < ps.length := by omega
  have hnode := (h.node hmp).1
  have hlast : ps[m].2 = lastX x := by
    unfold lastX
    have h1 : (ps.map Prod.snd).getD m pn0 = x.path.getD m pn0 := by rw [h.eq]
    rw [hm, Nat.add_sub_cancel, ← h1, List.getD_eq_getElem?_getD, List.getElem?_map, List.getElem?_eq_getElem hmp]
    rfl
  have hin : lastX x ∈ x.path := by
    rw [← hlast, ← h.eq]
    exact List.mem_map.2 ⟨_, List.getElem_mem hmp, rfl⟩
  obtain ⟨x0, _⟩ := h.cells
  obtain ⟨b1, b2, b3⟩ := hbits _ hin
  have okl := hoks _ hin
  rw [hlast] at hnode
  obtain ⟨sb, hsb⟩ : ∃ sb, sb = ps[m].1 := ⟨_, rfl⟩
  rw [← hsb] at hnode
  have hsm := h.sts _ (List.getElem_mem hmp)
  rw [hlast, ← hsb] at hsm
  have hll : (lastX x).left.length ≤ 8 := by
    unfold PN.left
    refine Nat.le_trans (List.length_filter_le _ _) ?_
    rw [ints_len]
    exact bitsL_len _
  have hpsm : ps[m] = (sb, lastX x) := by rw [hsb, ← hlast]
  generalize hL : lastX x = n at *
  have HLEFT : Hid (∀ W, Below w.heap.size w W → Calls Tryz.prog 43 #[.pointer (some ⟨g, m * 4, none⟩)] W fun r w' => ∃ v, r = .returned v ∧ OwnN w' W.heap.size v n.left ∧ Below W.heap.size W w') := fun W hb => left_any (hnode.later hb) b1 b2 b3
  have HX := Lib.hid h
  have HSM := Lib.hid hsm
  have HOKN := Lib.hid okl
  have HND : Hid (∀ W rv' kv' y, XM W B xb (.slice (some ⟨g, 0, none⟩) (m + 1) pc) rv' kv' oa oc ps y → NodeAt W g (m * 4) sb n) := fun W rv' kv' y hx => by
    have h1 := (hx.node hmp).1
    rw [hpsm] at h1
    exact h1
  have HNF : Hid (∀ W rv' kv' y, XM W B xb (.slice (some ⟨g, 0, none⟩) (m + 1) pc) rv' kv' oa oc ps y → W.frozen? ⟨g, m * 4 + 3, none⟩ = false) := fun W rv' kv' y hx => (hx.node hmp).2 3 (by omega)
  have HNX : Hid (∀ W, XM W B xb (.slice (some ⟨g, 0, none⟩) (m + 1) pc) (.slice ra x.row.length rc) kv oa oc ps { x with choices := picked x.choices n.left } → B ≤ W.heap.size → XM (W.setCell ⟨g, m * 4 + 3, none⟩ (.int .u8 (wt n.gone (pick x.order x.choices n.left) : Nat))) B xb (.slice (some ⟨g, 0, none⟩) (m + 1) pc) (.slice ra x.row.length rc) kv oa oc (ps.set m (sb, { n with gone := wt n.gone (pick x.order x.choices n.left) })) { x with choices := picked x.choices n.left, path := x.path.set m { n with gone := wt n.gone (pick x.order x.choices n.left) } }) := fun W hx hBW => by
    have h1 := hx.put hBW hmp 3 (.int .u8 (wt n.gone (pick x.order x.choices n.left) : Nat)) (q := { n with gone := wt n.gone (pick x.order x.choices n.left) }) (by rw [hpsm]; rfl) (by omega) (by rw [hpsm])
    rw [hpsm] at h1
    exact h1
  have HSET : Hid (∀ q ∈ ps.set m (sb, { n with gone := wt n.gone (pick x.order x.choices n.left) }), q.2.st.Ok F) := fun q hq => by
    rcases List.mem_or_eq_of_mem_set hq with hq | rfl
    · exact hoks _ (by rw [← h.eq]; exact List.mem_map.2 ⟨q, hq, rfl⟩)
    · exact okl
  have HPS : Hid ((ps.set m (sb, { n with gone := wt n.gone (pick x.order x.choices n.left) })).map Prod.snd = x.path.set m { n with gone := wt n.gone (pick x.order x.choices n.left) }) := by
    show _ = _
    rw [List.map_set, h.eq]
  have HGO : Hid (goX x = makeX { x with choices := picked x.choices n.left, path := x.path.set m { n with gone := wt n.gone (pick x.order x.choices n.left) }, row := x.row ++ [e] } s1 (childN n.st.next n.z n.gone (pick x.order x.choices n.left))) := by
    show _ = _
    unfold goX
    rw [hL]
    dsimp only
    rw [hst, show x.path.length - 1 = m by omega]
  have HLN : Hid ((x.path.set m { n with gone := wt n.gone (pick x.order x.choices n.left) }).length = (x.row ++ [e]).length) := by
    show _ = _
    rw [List.length_set, List.length_append, List.length_singleton]
    omega
  have HOKP : Hid (∀ y ∈ x.path.set m { n with gone := wt n.gone (pick x.order x.choices n.left) }, y.st.Ok F) := fun y hy => by
    rcases List.mem_or_eq_of_mem_set hy with hy | rfl
    · exact hoks y hy
    · exact okl
  have HPL : Hid (x.path.length = m + 1) := hm
  have HM0 := Lib.hid hm0
  have HSTEP := Lib.hid hst
  have HRI := Lib.hid hright
  have HBS := Lib.hid hbs
  have HNE := Lib.hid hl
  have hlo := h.low
  have hm90 : m ≤ 90 := by omega
  clear hnode hlast hpsm hsm okl h hoks hbits hlen hst hright hm hm0 hpl hbs hin hl hL hsb hmp
  go_enter Tryz.func23, Tryz.ntmps23
  go_wp2_with fail
  go_quiet (fail)
  have hb1 : Below w.heap.size w (w.drewN nq) := (Below.refl _ _).drewN
  have HL1 := Lib.hid (HLEFT.out _ hb1)
  have HX1 : Hid (XM (w.drewN nq) B xb (.slice (some ⟨g, 0, none⟩) (m + 1) pc) (.slice ra x.row.length rc) kv oa oc ps x) := HX.out.later hb1
  have HS1 := Lib.hid (HSM.out.later hb1)
  have HB1 : Hid (Below B w (w.drewN nq)) := (Below.refl _ _).drewN
  have hB1 : B ≤ (w.drewN nq).heap.size := hB
  clear hb1 HLEFT HX HSM x0
  generalize w.drewN nq = W1 at *
  go_wp2_with fail
  refine HL1.out.mono ?_
  rintro r W2 ⟨v2, rfl, hv2, hb2⟩
  obtain ⟨a2, c2, rfl, _, _⟩ := hv2.form (by omega)
  have HX2 := Lib.hid (HX1.out.later hb2)
  have HS2 := Lib.hid (HS1.out.later hb2)
  have HB2 : Hid (Below B w W2) := HB1.out.trans (hb2.mono hB1)
  have hB2 : B ≤ W2.heap.size := Nat.le_trans hB HB2.out.size
  have HCH := Lib.hid (choose_any HX2.out hB2 hv2 HNE.out (by omega) (by omega) ho HBS.out)
  have hsx2 : sb ≠ xb := HX2.out.ne_st HS2.out
  clear HX1 HS1 HB1 hb2 HL1 hv2
  go_wp2_with fail
  refine HCH.out.mono ?_
  rintro r W3 ⟨rfl, hx3, ho3⟩
  have HX3 := Lib.hid hx3
  have HS3 := Lib.hid (HS2.out.onlyX ho3 hsx2)
  have HB3 : Hid (Below B w W3) := HB2.out.trans (ho3.below hlo hB2)
  have hB3 : B ≤ W3.heap.size := Nat.le_trans hB HB3.out.size
  have hn3 := HND.out W3 _ _ _ hx3
  obtain ⟨n0, n1, n2, n3⟩ := hn3
  have HCD : Hid (∀ W, Below W3.heap.size W3 W → Calls Tryz.prog 44 #[.pointer (some ⟨sb, 0, none⟩), .int .u8 n.z, .int .u8 n.gone, .int .i64 (pick x.order x.choices n.left)] W fun r w' => r = .returned (.int .u8 (childN n.st.next n.z n.gone (pick x.order x.choices n.left) : Nat)) ∧ Below W.heap.size W w') := fun W hb =>
    child_gen (some ⟨sb, 0, none⟩) n.st.next b1 b3 _ W (fun W' hb' t => next_any ((HS3.out.later hb).later hb') HOKN.out t)
  have HHD : Hid (∀ W, Below W3.heap.size W3 W → W.cell? ⟨g, m * 4, none⟩ = some (.pointer (some ⟨sb, 0, none⟩)) ∧ W.cell? ⟨g, m * 4 + 1, none⟩ = some (.int .u8 (n.z : Nat)) ∧ W.cell? ⟨g, m * 4 + 3, none⟩ = some (.int .u8 (n.gone : Nat))) := fun W hb => ⟨cell_later hb n0, cell_later hb n1, cell_later hb n3⟩
  have hB19 : Below W3.heap.size W3 W3.drew := (Below.refl _ _).drew
  clear HX2 HS2 HB2 HCH ho3 hx3
  go_wp2_with fail
  go_region_held3 (fun W => W.cell? ⟨g, m * 4, none⟩ = some (.pointer (some ⟨sb, 0, none⟩)) ∧ W.cell? ⟨g, m * 4 + 1, none⟩ = some (.int .u8 (n.z : Nat)) ∧ W.cell? ⟨g, m * 4 + 3, none⟩ = some (.int .u8 (n.gone : Nat)))
    (first | exact HHD.out _ hB19 | exact HHD.out _ hB20)
    (first | (go_at_call 44; ((with_reducible refine (HCD.out _ hB19).mono ?_); rintro r w10 ⟨rfl, hb10⟩; have hB20 := hB19.trans (hb10.mono hB19.size))))
  go_wp2_with fail
  refine (with_any b3 _ _).mono ?_
  rintro r w' ⟨rfl, rfl⟩
  have HX10 := Lib.hid (HX3.out.later hB20)
  have HS10 := Lib.hid (HS3.out.later hB20)
  have HB10 : Hid (Below B w w10) := HB3.out.trans (hB20.mono hB3)
  have hB10 : B ≤ w10.heap.size := Nat.le_trans hB HB10.out.size
  obtain ⟨_, _, n3'⟩ := HHD.out _ hB20
  have nf := HNF.out _ _ _ _ HX10.out
  have HX11 := Lib.hid (HNX.out w10 HX10.out hB10)
  have hgB : B ≤ g := (own_ty HX10.out.path g rfl).1
  have HB11 : Hid (Below B w (w10.setCell ⟨g, m * 4 + 3, none⟩ (.int .u8 (wt n.gone (pick x.order x.choices n.left) : Nat)))) := HB10.out.setCell (p := ⟨g, m * 4 + 3, none⟩) hgB _
  have HS11 : Hid (StAt (w10.setCell ⟨g, m * 4 + 3, none⟩ (.int .u8 (wt n.gone (pick x.order x.choices n.left) : Nat))) sb n.st) := st_keptT HS10.out (grown_set w10 g (m * 4 + 3) _) (own_ty HX10.out.path) tyPnSS
  have hc11 : (w10.setCell ⟨g, m * 4 + 3, none⟩ (.int .u8 (wt n.gone (pick x.order x.choices n.left) : Nat))).cell? ⟨g, m * 4, none⟩ = some (.pointer (some ⟨sb, 0, none⟩)) := by
    have hml : m < (ps.set m (sb, { n with gone := wt n.gone (pick x.order x.choices n.left) })).length := by
      have := congrArg List.length HX11.out.eq
      rw [List.length_map] at this
      rw [this]
      show m < (x.path.set m _).length
      rw [List.length_set, HPL.out]
      omega
    have h1 := (HX11.out.node hml).1.c0
    rw [List.getElem_set_self] at h1
    exact h1
  have HCP := Lib.hid (copy_state HS11.out)
  clear HX3 HS3 HB3 HX10 HS10 HB10 HNX HNF HND HHD HCD
  generalize pick x.order x.choices n.left = T at *
  generalize hW11 : w10.setCell ⟨g, m * 4 + 3, none⟩ (.int .u8 (wt n.gone T : Nat)) = W11 at *
  go_wp2_with fail
  refine HCP.out.mono ?_
  rintro r w' ⟨rfl, rfl⟩
  clear hW11 HCP n3' nf
  have hB11 : B ≤ W11.heap.size := Nat.le_trans hB HB11.out.size
  have hst12 : StAt (W11.alloc (.cells (numA (stNum n.st)) 92)) W11.heap.size n.st := heap_new_st W11 n.st
  have HSA := Lib.hid (step_any hst12 HOKN.out T)
  rw [HSTEP.out, stepV_ok] at HSA
  have hsz12 : (W11.alloc (.cells (numA (stNum n.st)) 92)).heap.size = W11.heap.size + 1 := World.size_alloc _ _
  have hb12 := below_alloc1 W11 (.cells (numA (stNum n.st)) 92)
  have HOK1 : Hid (s1.Ok F) := by
    have := HOKN.out.step_ok T
    rw [HSTEP.out] at this
    exact this
  obtain ⟨nb, hnb⟩ : ∃ nb, nb = W11.heap.size := ⟨_, rfl⟩
  go_wp2_with fail
  refine HSA.out.mono ?_
  rintro r W13 ⟨rfl, hs13, ho13⟩
  have hb13 : Below W11.heap.size W11 W13 := hb12.trans (ho13.below (Nat.le_refl _) (by omega))
  have HX13 := Lib.hid (HX11.out.later hb13)
  have HB13 : Hid (Below B w W13) := HB11.out.trans (hb13.mono hB11)
  have hB13 : B ≤ W13.heap.size := Nat.le_trans hB HB13.out.size
  have hs13' : StAt W13 nb s1 := by rw [hnb]; exact hs13
  have HNE6 : Hid ((Value.slice ra x.row.length rc).ownBlock ≠ some W13.heap.size) := fun e0 => by
    have := (World.ownsRow.lt HX13.out.row _ e0).2
    omega
  have hb14 := below_alloc1 W13 (.cells #[.int .i64 e.thread, .int .i64 e.kind, .int .i64 e.obj, .bool e.fail] 81)
  have HX14 := Lib.hid (HX13.out.later hb14)
  have HS14 := Lib.hid (hs13'.later hb14)
  have HE14 : Hid (EvBox (W13.alloc (.cells #[.int .i64 e.thread, .int .i64 e.kind, .int .i64 e.obj, .bool e.fail] 81)) W13.heap.size e) := EvBox.new W13 e
  have HB14 : Hid (Below B w (W13.alloc (.cells #[.int .i64 e.thread, .int .i64 e.kind, .int .i64 e.obj, .bool e.fail] 81))) := HB13.out.trans (hb14.mono hB13)
  clear HX11 HS11 HB11 hst12 HSA hb12 hs13 ho13 hb13 HX13 HB13 hs13' hb14 hc11
  rw [← hnb]
  clear hnb hsz12
  go_wp2_with fail
  refine wp_region_k (S := fun W => W.cell? ⟨xb, 1, none⟩ = some (.slice ra x.row.length rc) ∧ W.cell? ⟨W13.heap.size, 0, none⟩ = some (.int .i64 e.thread) ∧ W.cell? ⟨W13.heap.size, 1, none⟩ = some (.int .i64 e.kind) ∧ W.cell? ⟨W13.heap.size, 2, none⟩ = some (.int .i64 e.obj) ∧ W.cell? ⟨W13.heap.size, 3, none⟩ = some (.bool e.fail)) (k := 10) (by kernel_rfl) ?_
  obtain ⟨eb, heb⟩ : ∃ eb, eb = W13.heap.size := ⟨_, rfl⟩
  rw [← heb] at HE14 HNE6 ⊢
  have HXD : Hid (XM (W13.alloc (.cells #[.int .i64 e.thread, .int .i64 e.kind, .int .i64 e.obj, .bool e.fail] 81)).drew B xb (.slice (some ⟨g, 0, none⟩) (m + 1) pc) (.slice ra x.row.length rc) kv oa oc (ps.set m (sb, { n with gone := wt n.gone T })) { x with choices := picked x.choices n.left, path := x.path.set m { n with gone := wt n.gone T } }) := HX14.out.drew
  have HSD : Hid (StAt (W13.alloc (.cells #[.int .i64 e.thread, .int .i64 e.kind, .int .i64 e.obj, .bool e.fail] 81)).drew nb s1) := HS14
  have HED : Hid (EvBox (W13.alloc (.cells #[.int .i64 e.thread, .int .i64 e.kind, .int .i64 e.obj, .bool e.fail] 81)).drew eb e) := HE14
  have HBD : Hid (Below B w (W13.alloc (.cells #[.int .i64 e.thread, .int .i64 e.kind, .int .i64 e.obj, .bool e.fail] 81)).drew) := HB14.out.drew
  clear HX14 HS14 HE14 HB14
  generalize (W13.alloc (.cells #[.int .i64 e.thread, .int .i64 e.kind, .int .i64 e.obj, .bool e.fail] 81)).drew = wd at *
  clear heb
  have hBd : B ≤ wd.heap.size := Nat.le_trans hB HBD.out.size
  have HCE : Hid (∀ W, Below wd.heap.size wd W → W.cell? ⟨xb, 1, none⟩ = some (.slice ra x.row.length rc) ∧ W.cell? ⟨eb, 0, none⟩ = some (.int .i64 e.thread) ∧ W.cell? ⟨eb, 1, none⟩ = some (.int .i64 e.kind) ∧ W.cell? ⟨eb, 2, none⟩ = some (.int .i64 e.obj) ∧ W.cell? ⟨eb, 3, none⟩ = some (.bool e.fail)) := fun W hb => ⟨cell_later hb HXD.out.cells.2.1, (HED.out.later hb).cells⟩
  have HFIN : Hid (∀ W v6 w6, Below wd.heap.size wd W → OwnRow w6 B 81 4 evCell v6 (x.row ++ [e]) → W.grownBy w6 (Value.slice ra x.row.length rc).ownBlock → XM (w6.setCell ⟨xb, 1, none⟩ v6) B xb (.slice (some ⟨g, 0, none⟩) (m + 1) pc) v6 kv oa oc (ps.set m (sb, { n with gone := wt n.gone T })) { x with choices := picked x.choices n.left, path := x.path.set m { n with gone := wt n.gone T }, row := x.row ++ [e] } ∧ StAt (w6.setCell ⟨xb, 1, none⟩ v6) nb s1 ∧ Below B w (w6.setCell ⟨xb, 1, none⟩ v6) ∧ (w6.cell? ⟨xb, 1, none⟩ = some (.slice ra x.row.length rc) ∧ w6.frozen? ⟨xb, 1, none⟩ = false)) := by
    intro W v6 w6 hb ho6 hg6
    have h1 := HXD.out.later hb
    have hBW : B ≤ W.heap.size := Nat.le_trans hBd hb.size
    have ht := own_ty h1.row
    have h2 := h1.moreRow hBW (show OwnE w6 B v6 (x.row ++ [e]) from ho6) hg6
    have hbx : w6.heap[xb]? = W.heap[xb]? := hg6.block xb h1.lt fun e => by
      obtain ⟨_, cs, hcs⟩ := ht xb e.symm
      rw [h1.blk] at hcs
      injection hcs with hcs
      injection hcs with _ h2
      exact tyExEv h2
    have hst : StAt w6 nb s1 := st_keptT (HSD.out.later hb) hg6 ht tyEvSS
    have hne : nb ≠ xb := h1.ne_st (HSD.out.later hb)
    refine ⟨h2, hst.onlyX ((Only.refl xb w6).setCell 1 _) hne, ((HBD.out.trans (hb.mono hBd)).trans (below_keptT hg6 ht hBW)).setCell (p := ⟨xb, 1, none⟩) hlo _, ?_, ?_⟩
    · rw [World.cell?_of_block (w := W) (a := ⟨xb, 1, none⟩) hbx]; exact h1.cells.2.1
    · rw [World.frozen?_of_block (w := W) (a := ⟨xb, 1, none⟩) hbx]; exact h1.frozen 1
  have HSB : Hid (∀ W v6 w6, Below wd.heap.size wd W → OwnRow w6 B 81 4 evCell v6 (x.row ++ [e]) → W.grownBy w6 (Value.slice ra x.row.length rc).ownBlock → ((Value.slice ra x.row.length rc).ownBlock ≠ some eb) → w6.cell? ⟨eb, 0, none⟩ = some (.int .i64 e.thread) ∧ w6.cell? ⟨eb, 1, none⟩ = some (.int .i64 e.kind) ∧ w6.cell? ⟨eb, 2, none⟩ = some (.int .i64 e.obj) ∧ w6.cell? ⟨eb, 3, none⟩ = some (.bool e.fail)) := by
    intro W v6 w6 hb ho6 hg6 hne
    have hbn : EvBox w6 eb e := (hg6.block eb (HED.out.later hb).lt (fun e => hne e.symm)).trans (HED.out.later hb)
    exact hbn.cells
  have HOD : Hid (∀ W, Below wd.heap.size wd W → OwnRow W B 81 4 evCell (.slice ra x.row.length rc) x.row) := fun W hb => (HXD.out.later hb).row
  have HPC : Hid (∀ W : World, (∀ j u, (evCell e)[j]? = some u → (W.alloc (.cells (evCell e).toArray 81)).cell? (Addr.add ⟨W.heap.size, 0, none⟩ j) = some u)) := fun W => cells_new W (evCell e) _ _ rfl
  have hHeld := HCE.out wd (Below.refl _ _)
  have hBA := below_alloc1 wd (.cells (evCell e).toArray 81)
  clear HXD HSD HED
  refine wpAnyK_take (i := 0) (v := ?_) [10] rfl (by kernel_rfl) (by kernel_rfl) (by kernel_rfl) (by kernel_rfl) (by kernel_rfl) (fun _ _ _ h => h) (Or.inl ⟨by kernel_rfl, ?_⟩) hHeld ?_
  rotate_left
  · intro w hSw
    try dsimp only at hSw
    go_simp
    with_reducible rfl
  try simp only [Act.put, List.setIfInBounds_toArray]
  refine wpAnyK_take (i := 1) (v := ?_) [10] rfl (by kernel_rfl) (by kernel_rfl) (by kernel_rfl) (by kernel_rfl) (by kernel_rfl) (fun _ _ _ h => h) (Or.inl ⟨by kernel_rfl, ?_⟩) hHeld ?_
  rotate_left
  · intro w hSw
    try dsimp only at hSw
    go_simp
    with_reducible rfl
  try simp only [Act.put]
  refine wpAnyK_take (i := 2) (v := ?_) [10] rfl (by kernel_rfl) (by kernel_rfl) (by kernel_rfl) (by kernel_rfl) (by kernel_rfl) (fun _ _ _ h => h) (Or.inl ⟨by kernel_rfl, ?_⟩) hHeld ?_
  rotate_left
  · intro w hSw
    try dsimp only at hSw
    go_simp
    with_reducible rfl
  try simp only [Act.put]
  refine wpAnyK_take (i := 3) (v := ?_) [10] rfl (by kernel_rfl) (by kernel_rfl) (by kernel_rfl) (by kernel_rfl) (by kernel_rfl) (fun _ _ _ h => h) (Or.inl ⟨by kernel_rfl, ?_⟩) hHeld ?_
  rotate_left
  · intro w hSw
    try dsimp only at hSw
    go_simp
    with_reducible rfl
  try simp only [Act.put]
  refine wpAnyK_take (i := 4) (v := ?_) [10] rfl (by kernel_rfl) (by kernel_rfl) (by kernel_rfl) (by kernel_rfl) (by kernel_rfl) (fun _ _ _ h => h) (Or.inl ⟨by kernel_rfl, ?_⟩) hHeld ?_
  rotate_left
  · intro w hSw
    try dsimp only at hSw
    go_simp
    with_reducible rfl
  try simp only [Act.put]
  refine wpAnyK_take (i := 5) (v := ?_) [10] rfl (by kernel_rfl) (by kernel_rfl) (by kernel_rfl) (by kernel_rfl) (by kernel_rfl) (fun _ _ _ h => h) (Or.inl ⟨by kernel_rfl, ?_⟩) hHeld ?_
  rotate_left
  · intro w hSw
    try dsimp only at hSw
    go_simp
    with_reducible rfl
  try simp only [Act.put]
  refine wpAnyK_one (i := 6) (by kernel_rfl) rfl (fun K hK => ?_)
  go_simp
  refine hK.out _ _ (fun _ => HCE.out _ hBA) ?_
  clear hK K
  try simp only [Act.put, List.setIfInBounds_toArray, List.set_cons_zero, List.set_cons_succ]
  refine wpAnyK_one (i := 7) (by kernel_rfl) rfl (fun K hK => ?_)
  refine step_appendAt (f := evCell) (n := 4) 57 81 32 (.agg #[.int .i64 0, .int .i64 0, .int .i64 0, .bool false]) Tryz.underlying57 infoEv (by rfl) (by omega) (by omega) (fun _ => rfl) (by rfl) _ _ (by rfl) B _ x.row (by rfl) (HOD.out _ hBA) ⟨wd.heap.size, 0, none⟩ (by rfl) e (fun v hv => by simp [evCell] at hv; rcases hv with rfl | rfl | rfl | rfl <;> rfl) (HPC.out wd) (by omega) (Nat.le_trans hBd hBA.size) ?_
  intro v6 w6 h6 hb6 hg6 hw6
  obtain ⟨g6, cap6, hv6, _, _⟩ := OwnRow.block h6 (by simp)
  rw [List.length_append, List.length_singleton] at hv6
  subst hv6
  have HF6 := Lib.hid (HFIN.out _ _ _ hBA h6 hg6)
  have hf6 := HF6.out.2.2.2.2
  have hc6 := HF6.out.2.2.2.1
  have hS6 := And.intro hc6 (HSB.out _ _ _ hBA h6 hg6 HNE6.out)
  refine hK.out _ _ (fun _ => hS6) ?_
  clear hK K
  try simp only [Act.put, List.setIfInBounds_toArray]
  refine wpAnyK_one (i := 8) (by kernel_rfl) rfl (fun K hK => ?_)
  go_simp
  refine hK.out _ _ (fun _ => hS6) ?_
  clear hK K
  try simp only [Act.put, List.setIfInBounds_toArray, List.set_cons_zero, List.set_cons_succ]
  refine wpAnyK_one (i := 9) (by kernel_rfl) rfl (fun K hK => ?_)
  go_simp
  refine hK.out _ _ (fun _ => hS6) ?_
  clear hK K
  try simp only [Act.put, List.setIfInBounds_toArray, List.set_cons_zero, List.set_cons_succ]
  refine wpAnyK_one (i := 10) (by kernel_rfl) rfl (fun K hK => ?_)
  go_simp
  refine hK.out _ _ (fun h => absurd rfl h) ?_
  clear hK K
  try simp only [Act.put, List.setIfInBounds_toArray, List.set_cons_zero, List.set_cons_succ]
  refine wpAnyK_done (by kernel_rfl) ?_ _
  have HMK := Lib.hid (makeNode_any (F := F) (z := childN n.st.next n.z n.gone T) HF6.out.1 (Nat.le_trans hB HF6.out.2.2.1.size) HF6.out.2.1 HOK1.out (childN_lt _ _ _ _) HLN.out (by rw [List.length_append, List.length_singleton]; omega) HRI.out HOKP.out (show picked x.choices n.left ≤ 100000 by unfold picked; split <;> omega) (show x.nodes ≤ 100000 by omega) (show x.runs ≤ 100000 by omega) (show x.blocked ≤ 100000 by omega) (show x.keys.length ≤ 100000 by omega) ho HBS.out)
  have HBF : Hid (Below B w (w6.setCell ⟨xb, 1, none⟩ (.slice (some ⟨g6, 0, none⟩) (x.row.length + 1) cap6))) := HF6.out.2.2.1
  clear hHeld hc6 hf6 hS6 HCE HFIN HSB HOD HPC hBA HF6
  generalize childN n.st.next n.z n.gone T = CH at *
  generalize w6.setCell ⟨xb, 1, none⟩ (.slice (some ⟨g6, 0, none⟩) (x.row.length + 1) cap6) = W7 at *
  go_wp2_with fail
  refine HMK.out.mono ?_
  rintro r W8 ⟨rfl, hx8, hb8⟩
  have HE8 : Hid (ExR B xb oa oc (goX x) W8) := by rw [HGO.out]; exact hx8
  have HB8 : Hid (Below B w W8) := HBF.out.trans hb8
  clear HMK HGO hx8 hb8
  go_wp2
  go_end0
  exact ⟨rfl, HE8.out, HB8.out⟩

end Go.Proofs.YtnldkmcijmbhcaaGreat

/- One worker's exploration at its end, plainly: what it tells of all classes. -/
namespace Go.Proofs.YtnldkmcijmbhcaaGreat

theorem first_nodes (s : St) (order : List Int) : (firstX s order).nodes = 1 := make_nodes _ _ _
theorem end_nodes (s : St) (order : List Int) (b : Int) : (endX s order b).nodes ≤ 1 + (b.toNat - 1) := by
  have := it_nodes (b.toNat - 1) (firstX s order)
  rw [first_nodes] at this
  exact this
theorem end_any {s : St} {order : List Int} {b : Int} (h : anyX (endX s order b) = true) : (endX s order b).nodes = 1 + (b.toNat - 1) := by
  have := it_any (b.toNat - 1) (firstX s order) h
  rw [first_nodes] at this
  exact this
theorem blk_ends (s0 : St) (T : List Nd) : (endsT s0 T).length + (blkT s0 T).length ≤ T.length := by
  unfold endsT blkT
  induction T with
  | nil => exact Nat.le_refl _
  | cons n T ih =>
    simp only [List.filter_cons, List.length_cons]
    by_cases h : (doneSt s0 n.row).all = []
    · simp only [h, decide_true, if_true, ne_eq, not_true, decide_false, Bool.false_and, Bool.false_eq_true, if_false, List.length_cons]
      simp only [ne_eq] at ih
      omega
    · simp only [h, decide_false, Bool.false_eq_true, if_false, ne_eq, not_false_eq_true, decide_true, Bool.true_and]
      simp only [ne_eq] at ih
      split
      · simp only [List.length_cons]; omega
      · omega
section
variable {p : Pg} {fuel : Int} {F : Nat} {order : List Int} {b : Int}
theorem end_part (ok : (s0 p fuel).Ok F) : (endX (s0 p fuel) order b).nodes ≤ preW p fuel ∧ (endX (s0 p fuel) order b).runs = (endX (s0 p fuel) order b).keys.length ∧ (endX (s0 p fuel) order b).keys.Nodup ∧
    (∀ k ∈ (endX (s0 p fuel) order b).keys, k ∈ keysOf (runsW p fuel)) ∧ (endX (s0 p fuel) order b).runs + (endX (s0 p fuel) order b).blocked ≤ (endX (s0 p fuel) order b).nodes ∧
    (anyX (endX (s0 p fuel) order b) = false → sortK (endX (s0 p fuel) order b).keys = sortK (keysOf (runsW p fuel)) ∧ (endX (s0 p fuel) order b).keys.length = (sortK (keysOf (runsW p fuel))).length) ∧
    (anyX (endX (s0 p fuel) order b) = true → (endX (s0 p fuel) order b).nodes + 1 ≤ preW p fuel) := by
  obtain ⟨T, M, C, h⟩ := end_inv ok order b
  generalize hX : endX (s0 p fuel) order b = X at *
  refine ⟨?_, ?_, ?_, ?_, ?_, ?_, ?_⟩
  · rw [h.nodes]; exact tree_len ok h.ok
  · rw [h.runs, h.keys]; unfold keysT; rw [List.length_map]
  · rw [h.keys]; exact keysT_nodup ok h.ok
  · intro k hk
    rw [h.keys] at hk
    exact keysT_sub ok h.ok hk
  · rw [h.runs, h.blk, h.nodes]; exact blk_ends _ _
  · intro ha
    rw [h.keys]
    exact keysT_exact ok h.ok (h.done ha)
  · intro ha
    obtain ⟨T', M', C', h'⟩ := h.back.go ok (back_last ha)
    have h1 := h'.nodes
    have h2 := tree_len ok h'.ok
    rw [go_nodes, (back_same X).1] at h1
    omega
theorem end_exact (ok : (s0 p fuel).Ok F) (hb : (preW p fuel : Int) ≤ b) : anyX (endX (s0 p fuel) order b) = false := by
  rw [Bool.eq_false_iff]
  intro ha
  have h1 := (end_part (order := order) (b := b) ok).2.2.2.2.2.2 ha
  have h2 := end_any ha
  have := pre_pos 33 (s0 p fuel)
  unfold preW at *
  omega
/-- Where no node was gone into twice: one end, and nobody is kept back. -/
theorem end_line (ok : (s0 p fuel).Ok F) (hb : (preW p fuel : Int) ≤ b) (hg : ∀ T M C, InvX (s0 p fuel) (endX (s0 p fuel) order b) T M C → ∀ n ∈ T, n.g.length ≤ 1) : (endX (s0 p fuel) order b).runs = 1 ∧ (endX (s0 p fuel) order b).blocked = 0 := by
  obtain ⟨T, M, C, h⟩ := end_inv ok order b
  have ha := end_exact (order := order) ok hb
  have h1 := hg T M C h
  have hz := fun n hn t => h.ok.z_line h1 n.row.length n hn rfl t
  have hd := (h.done ha).any
  refine ⟨?_, ?_⟩
  · rw [h.runs]
    refine filter_one (nodup_of_map h.ok.nodup) _ ?_ ?_
    · obtain ⟨n, hn, z, hx, hm⟩ := h.ok.has_end hz hd
      refine ⟨n, hn, ?_⟩
      rw [decide_eq_true_eq, ← ex_done hx]
      exact all_may.2 hm
    · intro x hx y hy ex ey
      obtain ⟨zx, hzx⟩ := h.ok.rows x hx
      obtain ⟨zy, hzy⟩ := h.ok.rows y hy
      rw [decide_eq_true_eq, ← ex_done hzx] at ex
      rw [decide_eq_true_eq, ← ex_done hzy] at ey
      exact h.ok.end_line h1 hx hy hzx hzy (all_may.1 ex) (all_may.1 ey)
  · rw [h.blk, List.length_eq_zero_iff]
    unfold blkT
    rw [List.filter_eq_nil_iff]
    intro n hn
    rw [Bool.and_eq_true, decide_eq_true_eq]
    rintro ⟨g1, g2⟩
    obtain ⟨t, ht⟩ := List.exists_mem_of_ne_nil _ g1
    have := List.all_eq_true.1 g2 t ht
    rw [hz n hn t] at this
    cases this
theorem end_share (ok : (s0 p fuel).Ok fuel.toNat) (hp : ShareNo p) (hb : (preW p fuel : Int) ≤ b) : (endX (s0 p fuel) order b).runs = 1 ∧ (endX (s0 p fuel) order b).blocked = 0 :=
  end_line ok hb fun _ _ _ h => share_line hp ok h.ok h.by_ h.gm h.one
theorem end_one (ok : (s0 p fuel).Ok F) (h1 : (s0 p fuel).ts.length = 1) (hb : (preW p fuel : Int) ≤ b) : (endX (s0 p fuel) order b).runs = 1 ∧ (endX (s0 p fuel) order b).blocked = 0 ∧ (endX (s0 p fuel) order b).nodes = preW p fuel ∧ (runsW p fuel).length = 1 ∧ preW p fuel ≤ (s0 p fuel).fuel + 1 := by
  have hl := end_line (order := order) (b := b) ok hb fun T M C h => h.ok.g_one h1
  obtain ⟨T, M, C, h⟩ := end_inv ok order b
  have ha := end_exact (order := order) ok hb
  have hg := h.ok.g_one h1
  have e1 := tree_len ok h.ok
  have e2 := h.ok.len_one h1 (h.done ha).any 33
  have e3 := h.ok.len_line hg (N := (s0 p fuel).fuel) fun n hn => by
    obtain ⟨z, hz⟩ := h.ok.rows n hn
    have := ex_len hz
    omega
  refine ⟨hl.1, hl.2, ?_, runs_one 33 [] h1, ?_⟩
  · rw [h.nodes]
    unfold preW at *
    omega
  · unfold preW at *
    omega
/-- As many, whichever way the threads stand. -/
theorem end_turned {order' : List Int} {b' : Int} (hok : okPg p fuel) (hb : (preW p fuel : Int) ≤ b) (hb' : (preW p fuel : Int) ≤ b') : (endX (s0 p fuel) order b).runs = (endX (s0 (flipP p) fuel) order' b').runs ∧ anyX (endX (s0 p fuel) order b) = false ∧ anyX (endX (s0 (flipP p) fuel) order' b') = false := by
  obtain ⟨h1, h2, _, _, h5⟩ := turned_all hok
  have ok : (s0 p fuel).Ok fuel.toNat := new_ok hok.1 fuel.toNat (by have := hok.2; omega)
  have ok' : (s0 (flipP p) fuel).Ok fuel.toNat := new_ok h1.1 fuel.toNat (by have := h1.2; omega)
  have a1 := end_exact (order := order) ok hb
  have a2 := end_exact (order := order') ok' (b := b') (by rw [h2]; exact hb')
  obtain ⟨_, e1, _, _, _, e2, _⟩ := end_part (order := order) (b := b) ok
  obtain ⟨_, f1, _, _, _, f2, _⟩ := end_part (order := order') (b := b') ok'
  refine ⟨?_, a1, a2⟩
  rw [e1, f1, (e2 a1).2, (f2 a2).2, h5]
end

/-- What a greater budget tells. -/
theorem end_grow (s : St) (order : List Int) {b c : Int} (h : b ≤ c) : MoreX (endX s order b) (endX s order c) ∧ (anyX (endX s order b) = false → endX s order c = endX s order b) := by
  obtain ⟨m, hm⟩ : ∃ m, c.toNat - 1 = (b.toNat - 1) + m := ⟨c.toNat - 1 - (b.toNat - 1), by omega⟩
  have := it_grow (b.toNat - 1) m (firstX s order)
  rw [← hm] at this
  exact this
/-- Keys, each once: sorted they stay as many. -/
theorem keys_sorted {ks : List Key} (h : ks.Nodup) : sortK ks = ks.mergeSort (fun x y => decide (x ≤ y)) := by unfold sortK; rw [dedupK_nodup h]

end Go.Proofs.YtnldkmcijmbhcaaGreat

/- The cells of rows of instructions. -/
namespace Go.Proofs.YtnldkmcijmbhcaaGreat
open Go.RowKit

def insCells (l : List Ins) : List Value := l.flatMap fun i => [.int .i64 i.kind, .int .i64 i.r, .int .i64 i.x, .int .i64 i.n]

theorem insCells_length (l : List Ins) : (insCells l).length = l.length * 4 := by
  induction l with
  | nil => rfl
  | cons i l ih => simp only [insCells, List.flatMap_cons, List.length_append, List.length_cons, List.length_nil] at *; omega

theorem insCells_get (l : List Ins) (i j : Nat) (h : i < l.length) (hj : j < 4) :
    (insCells l)[i * 4 + j]? = [Value.int .i64 l[i].kind, .int .i64 l[i].r, .int .i64 l[i].x, .int .i64 l[i].n][j]? := by
  induction l generalizing i with
  | nil => simp at h
  | cons x l ih =>
    cases i with
    | zero =>
      simp only [insCells, List.flatMap_cons, Nat.zero_mul, Nat.zero_add, List.getElem_cons_zero]
      rw [List.getElem?_append_left (by simpa using hj)]
    | succ i =>
      have := ih i (by simpa using h)
      simp only [insCells, List.flatMap_cons, List.getElem_cons_succ] at *
      rw [List.getElem?_append_right (by simp; omega), ← this]
      congr 1
      simp
      omega

theorem insCells_one (l : List Ins) : ∀ v ∈ insCells l, v.oneCell' = true := by
  intro v hv
  simp only [insCells, List.mem_flatMap] at hv
  obtain ⟨i, _, hv⟩ := hv
  simp at hv
  rcases hv with rfl | rfl | rfl | rfl <;> rfl

/-- The cells of a code that lies in memory. -/
theorem CodeAt.cells {w : World} {b o : Nat} {l : List Ins} (h : CodeAt w (some ⟨b, o, none⟩) l) :
    ∀ j v, (insCells l)[j]? = some v → w.cell? (Addr.add ⟨b, o, none⟩ j) = some v := by
  intro j v hv
  have hj : j < (insCells l).length := (List.getElem?_eq_some_iff.1 hv).1
  rw [insCells_length] at hj
  have hlt : j / 4 < l.length := by omega
  obtain ⟨b', o', e, hc⟩ := h.2 (by intro e; simp [e] at hlt)
  obtain ⟨rfl, rfl⟩ : b = b' ∧ o = o' := by simpa using e
  obtain ⟨c0, c1, c2, c3⟩ := hc (j / 4) hlt
  have ej : j / 4 * 4 + j % 4 = j := by omega
  have hm : j % 4 < 4 := by omega
  have := insCells_get l (j / 4) (j % 4) hlt hm
  rw [ej, hv] at this
  have ha : Addr.add ⟨b, o, none⟩ j = ⟨b, o + j / 4 * 4 + j % 4, none⟩ := by
    unfold Addr.add
    split
    · rename_i h0; subst h0; rfl
    · simp; omega
  rw [ha]
  obtain h | h | h | h : j % 4 = 0 ∨ j % 4 = 1 ∨ j % 4 = 2 ∨ j % 4 = 3 := by omega
  all_goals
    rw [h] at this ⊢
    simp at this
    subst this
    first | exact c0 | exact c1 | exact c2 | exact c3

end Go.Proofs.YtnldkmcijmbhcaaGreat

/- Plain numbers for New: a state that is being laid. -/
namespace Go.Proofs.YtnldkmcijmbhcaaGreat
open Go.RowKit

def insNums (l : List Ins) : List Int := l.flatMap fun i => [i.kind, i.r, i.x, i.n]
theorem insNums_cells (l : List Ins) : insCells l = (insNums l).map (Value.int .i64) := by
  simp [insCells, insNums, List.map_flatMap]
theorem insNums_length (l : List Ins) : (insNums l).length = l.length * 4 := by
  have := insCells_length l
  rw [insNums_cells] at this
  simpa using this
theorem insNums_get (l : List Ins) (j : Nat) : (insNums l).getD j 0 = insNum (l.getD (j / 4) ins0) (j % 4) := by
  induction l generalizing j with
  | nil =>
    simp [insNums]
    unfold insNum ins0
    repeat' split
    all_goals rfl
  | cons i l ih =>
    by_cases h : j < 4
    · rw [show j / 4 = 0 by omega, show j % 4 = j by omega]
      obtain rfl | rfl | rfl | rfl : j = 0 ∨ j = 1 ∨ j = 2 ∨ j = 3 := by omega
      all_goals rfl
    · obtain ⟨k, rfl⟩ : ∃ k, j = k + 4 := ⟨j - 4, by omega⟩
      rw [show (k + 4) / 4 = k / 4 + 1 by omega, show (k + 4) % 4 = k % 4 by omega]
      exact ih k

/-- In block g lie the numbers f. -/
def NumAt (w : World) (g : Nat) (f : Nat → Int) : Prop := w.heap[g]? = some (.cells (numA f) 92 (0, 0))
theorem NumAt.lt {w : World} {g : Nat} {f : Nat → Int} (h : NumAt w g f) : g < w.heap.size := (Array.getElem?_eq_some_iff.1 h).1
theorem NumAt.cell {w : World} {g : Nat} {f : Nat → Int} (h : NumAt w g f) (o : Nat) (ho : o < 156) : w.cell? ⟨g, o, none⟩ = some (.int .i64 (f o)) := by
  rw [cell_of_row w g o _ _ _ h, numA_get _ _ ho]
theorem NumAt.frozen {w : World} {g : Nat} {f : Nat → Int} (h : NumAt w g f) (o : Nat) : w.frozen? ⟨g, o, none⟩ = false := by
  simp [World.frozen?, show w.heap[g]? = _ from h]
theorem NumAt.set {w : World} {g : Nat} {f : Nat → Int} (h : NumAt w g f) (f' : Nat → Int) (o : Nat) (n : Int) (ho : o < 156) (hs : ∀ j, j < 156 → f' j = if j = o then n else f j) : NumAt (w.setCell ⟨g, o, none⟩ (.int .i64 n)) g f' := by
  have := heap_setCell_same w g o _ _ (.int .i64 n) h
  rw [numA_set _ _ o n ho hs] at this
  exact this

theorem numA_splice (f f1 : Nat → Int) (o : Nat) (vs : List Int) (h : ∀ j, j < 156 → f1 j = if o ≤ j ∧ j < o + vs.length then vs.getD (j - o) 0 else f j) (ho : o + vs.length ≤ 156) :
    ((numA f).toList.take o ++ vs.map (Value.int .i64) ++ (numA f).toList.drop (o + vs.length)).toArray = numA f1 := by
  have hl : (numA f).toList.length = 156 := by simp [numA]
  apply Array.ext_getElem?
  intro j
  rw [List.getElem?_toArray]
  by_cases hj : j < 156
  · rw [numA_get f1 j hj, h j hj]
    by_cases h1 : j < o
    · rw [if_neg (by omega), List.append_assoc, List.getElem?_append_left (by simp [hl]; omega), List.getElem?_take_of_lt h1]
      have := numA_get f j hj
      simpa using this
    · by_cases h2 : j < o + vs.length
      · rw [if_pos ⟨by omega, h2⟩, List.getElem?_append_left (by simp [hl]; omega), List.getElem?_append_right (by simp [hl]; omega)]
        have e : j - ((numA f).toList.take o).length = j - o := by simp [hl]; omega
        rw [e, List.getElem?_map, List.getElem?_eq_getElem (by omega), getD_lt _ (by omega)]
        rfl
      · rw [if_neg (by omega), List.getElem?_append_right (by simp [hl]; omega), List.getElem?_drop]
        have e : o + vs.length + (j - ((numA f).toList.take o ++ vs.map (Value.int .i64)).length) = j := by simp [hl]; omega
        rw [e]
        have := numA_get f j hj
        simpa using this
  · have h1 : (numA f1)[j]? = none := Array.getElem?_eq_none (by rw [numA_size]; omega)
    rw [h1, List.getElem?_eq_none]
    simp [hl]
    omega

/-- copy(dst, src) into the middle of the block: elements of four numbers. -/
theorem run_copy_code (w : World) (g o : Nat) (f f1 : Nat → Int) (hg : NumAt w g f) (c : Option Addr) (cap : Nat) (l : List Ins) (hl : CodeAt w c l) (h8 : l.length ≤ 8) (ho : o + 32 ≤ 156)
    (h : ∀ j, j < 156 → f1 j = if o ≤ j ∧ j < o + l.length * 4 then insNum (l.getD ((j - o) / 4) ins0) ((j - o) % 4) else f j) :
    (Builtin.copy_ #[44, 44] 3 #[.slice (some ⟨g, o, none⟩) 8 8, .slice c l.length cap]).run Tryz.prog w = .ok (.int .i64 l.length) (w.setRow g (numA f1)) := by
  have hs : (Tryz.prog.info? 48).map (·.size) = some 4 := by kernel_rfl
  have hm : Nat.min l.length 8 = l.length := Nat.min_eq_left h8
  cases hq : Tryz.prog.info? 48 with
  | none => simp [hq] at hs
  | some i =>
    have hi : i.size = 4 := by simpa [hq] using hs
    have hst := run_storeCells_at (P := Tryz.prog) g o 92 (insCells l) 0 _ w hg (by rw [insCells_length, numA_size]; omega) (insCells_one l)
    have hsp := numA_splice f f1 o (insNums l) (fun j hj => by rw [h j hj, insNums_length, insNums_get]) (by rw [insNums_length]; omega)
    rw [Nat.add_zero, insNums_cells, List.length_map, hsp] at hst
    by_cases h0 : l = []
    · subst h0
      have hlc : ∀ (x : Addr), (loadCells x 0).run Tryz.prog w = .ok #[] w := fun x => by simpa using run_loadCells_list (P := Tryz.prog) w x [] (by simp)
      have hst' : (storeCells ⟨g, o, none⟩ ([] : List Value)).run Tryz.prog w = .ok () (w.setRow g (numA f1)) := hst
      cases c <;> simp [Builtin.copy_, run_underlying Tryz.underlying44, Builtin.lenOf, Builtin.firstCells, sizeOf, typeInfo, hq, hlc, hst', goInt]
    · obtain ⟨b', o', rfl, _⟩ := hl.2 h0
      have hld := run_loadCells_list (P := Tryz.prog) w ⟨b', o', none⟩ (insCells l) hl.cells
      rw [insCells_length] at hld
      rw [← insNums_cells] at hst
      simp [Builtin.copy_, run_underlying Tryz.underlying44, Builtin.lenOf, Builtin.firstCells, sizeOf, typeInfo, hq, hi, hm, hld, hst, goInt]

/-- The numbers when the first k threads are laid. -/
def newNum (p : Pg) (F k o : Nat) : Int := if o < 2 + k * 37 ∧ o < 150 then stNum (St.new p F) o else 0
/-- The numbers when all threads are, and k mutexes. -/
def newNum2 (p : Pg) (F k o : Nat) : Int := if o < 154 + k then stNum (St.new p F) o else 0

theorem new_th (p : Pg) (F k : Nat) (hk : k < p.threads.length) : (St.new p F).th k = ⟨0, F, [0, 0]⟩ := by
  unfold St.th St.new
  dsimp only
  rw [getD_lt _ (by simpa using hk)]
  simp
theorem new_th_out (p : Pg) (F k : Nat) (hk : p.threads.length ≤ k) : (St.new p F).th k = thr0 := by
  unfold St.th St.new
  simp [List.getD, hk]
theorem new_code (p : Pg) (F k : Nat) (hk : k < p.threads.length) : (St.new p F).code k = p.threads[k] := by
  unfold St.code St.new
  exact getD_lt _ hk
theorem new_code_out (p : Pg) (F k : Nat) (hk : p.threads.length ≤ k) : (St.new p F).code k = [] := by
  unfold St.code St.new
  simp [List.getD, hk]
theorem thrNum_out (k : Nat) : thrNum [] thr0 k = 0 := by
  unfold thrNum
  have e : ∀ n, insNum ins0 n = 0 := fun n => by unfold insNum ins0; repeat' split
                                                 all_goals rfl
  have e2 : ∀ n : Nat, ([0, 0] : List Int).getD n 0 = 0 := fun n => match n with | 0 => rfl | 1 => rfl | n + 2 => rfl
  dsimp only [thr0]
  by_cases h : k < 32
  · rw [if_pos h]; exact e _
  rw [if_neg h]
  by_cases h : k = 32
  · rw [if_pos h]; rfl
  rw [if_neg h]
  by_cases h : k = 33
  · rw [if_pos h]; rfl
  rw [if_neg h]
  by_cases h : k = 34
  · rw [if_pos h]; rfl
  rw [if_neg h]
  exact e2 _

theorem newNum_zero (p : Pg) (F o : Nat) : newNum p F 0 o = if o = 0 then (p.threads.length : Int) else if o = 1 then p.mutexes else 0 := by
  unfold newNum
  by_cases h0 : o = 0
  · subst h0; simp [stNum_threads, St.new]
  · by_cases h1 : o = 1
    · subst h1; simp [stNum_mutexes, St.new]
    · rw [if_neg (by omega), if_neg h0, if_neg h1]

/-- The thread k is laid: its code, then its size, then its fuel. -/
theorem newNum_succ (p : Pg) (F k : Nat) (hk : k < p.threads.length) (h4 : p.threads.length ≤ 4) (h8 : p.threads[k].length ≤ 8) (f1 f2 : Nat → Int)
    (h1 : ∀ j, j < 156 → f1 j = if 2 + k * 37 ≤ j ∧ j < 2 + k * 37 + p.threads[k].length * 4 then insNum (p.threads[k].getD ((j - (2 + k * 37)) / 4) ins0) ((j - (2 + k * 37)) % 4) else newNum p F k j)
    (h2 : ∀ j, j < 156 → f2 j = if j = 2 + k * 37 + 32 then (p.threads[k].length : Int) else f1 j) :
    ∀ j, j < 156 → newNum p F (k + 1) j = if j = 2 + k * 37 + 34 then (F : Int) else f2 j := by
  intro j hj
  rw [h2 j hj, h1 j hj]
  unfold newNum
  by_cases a : j < 2 + k * 37
  · rw [if_pos (by omega), if_neg (by omega), if_neg (by omega), if_neg (by omega), if_pos (by omega)]
  · by_cases b : j < 2 + (k + 1) * 37
    · obtain ⟨d, rfl⟩ : ∃ d, j = 2 + k * 37 + d := ⟨j - (2 + k * 37), by omega⟩
      rw [if_pos (by omega), stNum_thr _ _ _ (by omega) (by omega), new_th p F k hk, new_code p F k hk]
      have ed : 2 + k * 37 + d - (2 + k * 37) = d := by omega
      rw [ed]
      unfold thrNum
      by_cases c1 : d < 32
      · rw [if_pos c1, if_neg (by omega), if_neg (by omega)]
        by_cases c2 : d < p.threads[k].length * 4
        · rw [if_pos (by omega)]
        · rw [if_neg (by omega), if_neg (by omega)]
          have e : p.threads[k].getD (d / 4) ins0 = ins0 := by
            rw [List.getD, List.getElem?_eq_none (by omega)]; rfl
          rw [e]
          unfold insNum ins0
          repeat' split
          all_goals rfl
      · rw [if_neg c1, if_neg (c := 2 + k * 37 ≤ 2 + k * 37 + d ∧ 2 + k * 37 + d < 2 + k * 37 + p.threads[k].length * 4) (by omega), if_neg (c := 2 + k * 37 + d < 2 + k * 37 ∧ 2 + k * 37 + d < 150) (by omega)]
        obtain rfl | rfl | rfl | rfl | rfl : d = 32 ∨ d = 33 ∨ d = 34 ∨ d = 35 ∨ d = 36 := by omega
        all_goals simp
    · rw [if_neg (by omega), if_neg (by omega), if_neg (by omega), if_neg (by omega), if_neg (by omega)]

theorem newNum_all (p : Pg) (F : Nat) : ∀ j, j < 156 → newNum p F p.threads.length j = newNum2 p F 0 j := by
  intro j hj
  unfold newNum newNum2
  by_cases a : j < 2 + p.threads.length * 37 ∧ j < 150
  · rw [if_pos a, if_pos (by omega)]
  · rw [if_neg a]
    by_cases b : j < 150
    · rw [if_pos (by omega)]
      obtain ⟨d, t, rfl, ht⟩ : ∃ d t, j = 2 + t * 37 + d ∧ d < 37 := ⟨(j - 2) % 37, (j - 2) / 37, by omega, by omega⟩
      rw [stNum_thr _ _ _ (by omega) ht, new_th_out _ _ _ (by omega), new_code_out _ _ _ (by omega), thrNum_out]
    · by_cases c : j < 154
      · rw [if_pos (by omega)]
        obtain ⟨d, rfl⟩ : ∃ d, j = 150 + d := ⟨j - 150, by omega⟩
        rw [stNum_var _ _ (by omega)]
        obtain rfl | rfl | rfl | rfl : d = 0 ∨ d = 1 ∨ d = 2 ∨ d = 3 := by omega
        all_goals rfl
      · rw [if_neg (by omega)]

theorem newNum2_succ (p : Pg) (F k : Nat) (hk : k < 2) : ∀ j, j < 156 → newNum2 p F (k + 1) j = if j = 154 + k then -1 else newNum2 p F k j := by
  intro j hj
  unfold newNum2
  by_cases a : j = 154 + k
  · rw [if_pos (by omega), if_pos a, a, stNum_who]
    obtain rfl | rfl : k = 0 ∨ k = 1 := by omega
    all_goals rfl
  · rw [if_neg a]
    by_cases b : j < 154 + k
    · rw [if_pos (by omega), if_pos b]
    · rw [if_neg (by omega), if_neg b]

theorem newNum2_all (p : Pg) (F : Nat) : ∀ j, j < 156 → newNum2 p F 2 j = stNum (St.new p F) j := by
  intro j hj
  unfold newNum2
  rw [if_pos (by omega)]

end Go.Proofs.YtnldkmcijmbhcaaGreat

/- What the walk of Explore asks of the worker at each time, plainly. -/
namespace Go.Proofs.YtnldkmcijmbhcaaGreat

theorem ch_make (x : Xp) (s : St) (z : Nat) : (makeX x s z).choices ≤ x.choices + 1 := by
  unfold makeX
  dsimp only
  repeat' split
  · show picked _ _ ≤ _
    unfold picked
    split <;> omega
  · exact Nat.le_succ _
  · exact Nat.le_succ _
theorem ch_go (x : Xp) : (goX x).choices ≤ x.choices + 2 := by
  have h := ch_make { x with choices := picked x.choices (lastX x).left, path := x.path.set (x.path.length - 1) { lastX x with gone := wt (lastX x).gone (pick x.order x.choices (lastX x).left) }, row := x.row ++ [((lastX x).st.step (pick x.order x.choices (lastX x).left)).2.1] } ((lastX x).st.step (pick x.order x.choices (lastX x).left)).2.2 (childN (lastX x).st.next (lastX x).z (lastX x).gone (pick x.order x.choices (lastX x).left))
  have h2 : picked x.choices (lastX x).left ≤ x.choices + 1 := by unfold picked; split <;> omega
  refine Nat.le_trans h ?_
  show picked _ _ + 1 ≤ _
  omega
theorem ord_make (x : Xp) (s : St) (z : Nat) : (makeX x s z).order = x.order := by
  unfold makeX
  dsimp only
  repeat' split
  all_goals rfl
theorem ord_go (x : Xp) : (goX x).order = x.order := ord_make _ _ _
theorem it_end {y : Xp} {n : Nat} (h : anyX y = false ∨ n = 0) : itX n y = backX y := by
  rcases h with h | rfl
  · cases n with
    | zero => rfl
    | succ n => unfold itX; rw [h]; rfl
  · rfl
theorem it_step {y : Xp} {b : Nat} (h : anyX y = true) (hb : y.nodes < b) : itX (b - y.nodes) y = itX (b - (goX (backX y)).nodes) (goX (backX y)) := by
  rw [go_nodes, (back_same y).1]
  obtain ⟨m, hm⟩ : ∃ m, b - y.nodes = m + 1 := ⟨b - y.nodes - 1, by omega⟩
  rw [hm, show b - (y.nodes + 1) = m by omega]
  show (if anyX y then _ else _) = _
  rw [h]
  rfl
section
variable {F : Nat} {s0' : St} {x : Xp} {T : List Nd} {M C : List Ev → Int → Prop}
theorem InvX.facts (ok0 : s0'.Ok F) (h : InvX s0' x T M C) : x.row.length ≤ 32 ∧ rightL x.row = true ∧ (∀ n ∈ x.path, n.st.Ok F) ∧ ∀ n ∈ x.path, n.z < 256 ∧ n.go < 256 ∧ n.gone < 256 := by
  have hf := fuel_le ok0
  obtain ⟨_, _, _, hx, _⟩ := h.last
  have hl := ex_len hx
  refine ⟨by omega, ex_right ok0 hx, fun n hn => ?_, fun n hn => ?_⟩
  · obtain ⟨i, hi, rfl⟩ := List.mem_iff_getElem.1 hn
    obtain ⟨_, _, _, hx, _⟩ := h.at_ i hi
    rw [getD_lt _ hi] at hx
    exact hx.ok ok0
  · obtain ⟨i, hi, rfl⟩ := List.mem_iff_getElem.1 hn
    obtain ⟨_, _, _, _, b1, b2, b3, _⟩ := h.at_ i hi
    rw [getD_lt _ hi] at b1 b2 b3
    exact ⟨b1, b2, b3⟩
theorem InvX.goes (ok0 : s0'.Ok F) (h : InvX s0' x T M C) (hl : (lastX x).left ≠ []) : ∃ e s1, (lastX x).st.step (pick x.order x.choices (lastX x).left) = (0, e, s1) ∧ rightL (x.row ++ [e]) = true := by
  obtain ⟨m, hm, hmr, hmx, _, _, _, _, _, hmM⟩ := h.last
  have ht := pick_mem x.order x.choices hl
  obtain ⟨t1, _, _⟩ := mem_left.1 ht
  have hmay := h.may m hm (lastX x).st _ (by rw [hmr]; exact hmx) (by rw [hmr]; exact (hmM _).2 t1)
  obtain ⟨e, he⟩ := may_next hmay
  obtain ⟨s1, hs⟩ := next_step he hmay
  exact ⟨e, s1, hs, ex_right ok0 (ex_snoc hmx hs)⟩
end
theorem InvX.bounds {p : Pg} {fuel : Int} {F : Nat} {x : Xp} {T : List Nd} {M C : List Ev → Int → Prop} (ok : (s0 p fuel).Ok F) (h : InvX (s0 p fuel) x T M C) : x.nodes ≤ preW p fuel ∧ x.runs ≤ preW p fuel ∧ x.blocked ≤ preW p fuel ∧ x.keys.length ≤ preW p fuel := by
  have h1 := tree_len ok h.ok
  have h2 := blk_ends (s0 p fuel) T
  have h3 := h.nodes
  have h4 := h.runs
  have h5 := h.blk
  have h6 : x.keys.length = (endsT (s0 p fuel) T).length := by rw [h.keys]; unfold keysT; rw [List.length_map]
  omega
theorem end_it (s : St) (order : List Int) (b : Int) : endX s order b = itX (b.toNat - (firstX s order).nodes) (firstX s order) := by rw [first_nodes]; rfl

end Go.Proofs.YtnldkmcijmbhcaaGreat

/- The library's sort and Compact of texts, laid at this dump. -/
namespace Go.Proofs
open Go.Shelf
def Tryz.sortStr_ren : Go.Shelf.Ren := ⟨fun | 54 => 24 | 64 => 48 | 65 => 47 | 78 => 85 | 79 => 86 | 80 => 76 | 81 => 77 | 82 => 78 | 83 => 79 | 84 => 80 | 85 => 81 | 61 => 82 | 86 => 83 | 87 => 84 | 93 => 106 | 89 => 107 | 90 => 108 | 94 => 109 | 95 => 110 | 69 => 111 | 97 => 131 | n => n, fun | 25 => 29 | 26 => 9 | 3 => 3 | 51 => 26 | 0 => 0 | 67 => 146 | 69 => 148 | 4 => 4 | 61 => 138 | 60 => 137 | 44 => 143 | 5 => 5 | 9 => 9 | 75 => 172 | 79 => 176 | 83 => 190 | 84 => 191 | n => n, fun | n => n⟩
theorem Tryz.sortStr : Go.Proofs.SlLaysN.n54 Tryz.prog Tryz.sortStr_ren := {
  mixed := by kernel_rfl
  f54 := ⟨Tryz.f24.name, by decide, Tryz.func24.trans (congrArg some (by kernel_rfl))⟩
  f61 := ⟨Tryz.f82.name, by decide, Tryz.func82.trans (congrArg some (by kernel_rfl))⟩
  f64 := Tryz.func48.trans (congrArg some (by kernel_rfl))
  f65 := ⟨Tryz.f47.name, by decide, Tryz.func47.trans (congrArg some (by kernel_rfl))⟩
  f69 := ⟨Tryz.f111.name, by decide, Tryz.func111.trans (congrArg some (by kernel_rfl))⟩
  f78 := Tryz.func85.trans (congrArg some (by kernel_rfl))
  f79 := Tryz.func86.trans (congrArg some (by kernel_rfl))
  f80 := ⟨Tryz.f76.name, by decide, Tryz.func76.trans (congrArg some (by kernel_rfl))⟩
  f81 := ⟨Tryz.f77.name, by decide, Tryz.func77.trans (congrArg some (by kernel_rfl))⟩
  f82 := ⟨Tryz.f78.name, by decide, Tryz.func78.trans (congrArg some (by kernel_rfl))⟩
  f83 := ⟨Tryz.f79.name, by decide, Tryz.func79.trans (congrArg some (by kernel_rfl))⟩
  f84 := ⟨Tryz.f80.name, by decide, Tryz.func80.trans (congrArg some (by kernel_rfl))⟩
  f85 := ⟨Tryz.f81.name, by decide, Tryz.func81.trans (congrArg some (by kernel_rfl))⟩
  f86 := ⟨Tryz.f83.name, by decide, Tryz.func83.trans (congrArg some (by kernel_rfl))⟩
  f87 := ⟨Tryz.f84.name, by decide, Tryz.func84.trans (congrArg some (by kernel_rfl))⟩
  f89 := Tryz.func107.trans (congrArg some (by kernel_rfl))
  f90 := Tryz.func108.trans (congrArg some (by kernel_rfl))
  f93 := ⟨Tryz.f106.name, by decide, Tryz.func106.trans (congrArg some (by kernel_rfl))⟩
  f94 := ⟨Tryz.f109.name, by decide, Tryz.func109.trans (congrArg some (by kernel_rfl))⟩
  f95 := ⟨Tryz.f110.name, by decide, Tryz.func110.trans (congrArg some (by kernel_rfl))⟩
  f97 := ⟨Tryz.f131.name, by decide, Tryz.func131.trans (congrArg some (by kernel_rfl))⟩
  t0 := Tryz.underlying0
  a0 := Tryz.isAgg0
  z0 := Tryz.sizeOf0
  v0 := Tryz.zeroValue0
  t3 := Tryz.underlying3
  a3 := Tryz.isAgg3
  z3 := Tryz.sizeOf3
  v3 := Tryz.zeroValue3
  t4 := Tryz.underlying4
  a4 := Tryz.isAgg4
  z4 := Tryz.sizeOf4
  v4 := Tryz.zeroValue4
  t5 := Tryz.underlying5
  a5 := Tryz.isAgg5
  z5 := Tryz.sizeOf5
  v5 := Tryz.zeroValue5
  t9 := Tryz.underlying9
  a9 := Tryz.isAgg9
  z9 := Tryz.sizeOf9
  v9 := Tryz.zeroValue9
  t25 := Tryz.underlying29
  a25 := Tryz.isAgg29
  z25 := Tryz.sizeOf29
  v25 := Tryz.zeroValue29
  t26 := Tryz.underlying9
  a26 := Tryz.isAgg9
  z26 := Tryz.sizeOf9
  v26 := Tryz.zeroValue9
  t44 := Tryz.underlying143
  a44 := Tryz.isAgg143
  z44 := Tryz.sizeOf143
  v44 := Tryz.zeroValue143
  t51 := Tryz.underlying26
  a51 := Tryz.isAgg26
  z51 := Tryz.sizeOf26
  v51 := Tryz.zeroValue26
  t60 := Tryz.underlying137
  a60 := Tryz.isAgg137
  z60 := Tryz.sizeOf137
  v60 := Tryz.zeroValue137
  t61 := Tryz.underlying138
  a61 := Tryz.isAgg138
  z61 := Tryz.sizeOf138
  v61 := Tryz.zeroValue138
  t67 := Tryz.underlying146
  a67 := Tryz.isAgg146
  z67 := Tryz.sizeOf146
  v67 := Tryz.zeroValue146
  t69 := Tryz.underlying148
  a69 := Tryz.isAgg148
  z69 := Tryz.sizeOf148
  v69 := Tryz.zeroValue148
  t75 := Tryz.underlying172
  a75 := Tryz.isAgg172
  z75 := Tryz.sizeOf172
  v75 := Tryz.zeroValue172
  t79 := Tryz.underlying176
  a79 := Tryz.isAgg176
  z79 := Tryz.sizeOf176
  v79 := Tryz.zeroValue176
  t83 := Tryz.underlying190
  a83 := Tryz.isAgg190
  z83 := Tryz.sizeOf190
  v83 := Tryz.zeroValue190
  t84 := Tryz.underlying191
  a84 := Tryz.isAgg191
  z84 := Tryz.sizeOf191
  v84 := Tryz.zeroValue191 }
def Tryz.compactStr_ren : Go.Shelf.Ren := ⟨fun | 44 => 25 | n => n, fun | 25 => 29 | 26 => 9 | 3 => 3 | 4 => 4 | 0 => 0 | n => n, fun | n => n⟩
theorem Tryz.compactStr : Go.Proofs.SlLaysN.n44 Tryz.prog Tryz.compactStr_ren := {
  mixed := by kernel_rfl
  f44 := ⟨Tryz.f25.name, by decide, Tryz.func25.trans (congrArg some (by kernel_rfl))⟩
  t0 := Tryz.underlying0
  a0 := Tryz.isAgg0
  z0 := Tryz.sizeOf0
  v0 := Tryz.zeroValue0
  t3 := Tryz.underlying3
  a3 := Tryz.isAgg3
  z3 := Tryz.sizeOf3
  v3 := Tryz.zeroValue3
  t4 := Tryz.underlying4
  a4 := Tryz.isAgg4
  z4 := Tryz.sizeOf4
  v4 := Tryz.zeroValue4
  t25 := Tryz.underlying29
  a25 := Tryz.isAgg29
  z25 := Tryz.sizeOf29
  v25 := Tryz.zeroValue29
  t26 := Tryz.underlying9
  a26 := Tryz.isAgg9
  z26 := Tryz.sizeOf9
  v26 := Tryz.zeroValue9
  i26 := by kernel_rfl }
end Go.Proofs

/- The library's sort and Compact of a row of keys of one's own. -/
namespace Go.Proofs.YtnldkmcijmbhcaaGreat
open Go.RowKit Go.Shelf Go.Sort Go.Lib

theorem str_enc (ks : List Key) : cellsL strCell ks = ks.map encStr := by
  induction ks with
  | nil => rfl
  | cons k ks ih =>
    show strCell k ++ cellsL strCell ks = _
    rw [ih]
    rfl
theorem keys_len {ks : List Key} : (ks.mergeSort fun x y => decide (x ≤ y)).length = ks.length := List.length_mergeSort _

theorem sort_own {w : World} {B : Nat} {a : Option Addr} {n cap : Nat} {ks : List Key} (h : OwnRow w B 9 1 strCell (.slice a n cap) ks) (hm : ks.length ≤ 1000000) :
    Calls Tryz.prog 24 #[.slice a n cap] w fun r w' => r = .returned (.tuple #[]) ∧ OwnRow w' B 9 1 strCell (.slice a n cap) (ks.mergeSort fun x y => decide (x ≤ y)) ∧ w.grownBy w' (Value.slice a n cap).ownBlock := by
  obtain ⟨h1, ⟨h2, h3⟩ | ⟨g, cap', cur, h2, h3, h4, h5, h6, h7, h8⟩⟩ := h
  · injection h2 with e1 e2 e3
    subst e1 e2 e3
    obtain rfl := List.length_eq_zero_iff.1 h3
    refine (AnyG.slices_Sort_string_none Tryz.sortStr none 0 w).mono ?_
    rintro r w' ⟨rfl, rfl⟩
    exact ⟨rfl, (by rw [List.mergeSort_nil]; exact ownRow_nil _ _ _ _ _), ⟨rfl, rfl, rfl, Nat.le_refl _, fun _ _ _ => rfl⟩⟩
  · injection h2 with e1 e2 e3
    subst e1 e2 e3
    rw [str_enc] at h8
    have hH := holds_of_block (ss := ks) h4 (by simpa using h8)
    refine (AnyG.slices_Sort_string Tryz.sortStr g 0 cap ks w hH (Array.getElem?_eq_some_iff.1 h4).1 (by omega)).mono ?_
    rintro r w' ⟨rfl, m, os, rfl⟩
    refine ⟨rfl, ?_, grownBy_sorted _⟩
    unfold OwnRow
    rw [str_enc, keys_len]
    exact ownsRow_sorted (ss := ks) keys_len h3 h4 h5 h6 h7

theorem compact_same {ks : List Key} (h : ks.Nodup) : Lib.compact ks = ks := by
  refine compact_all ks fun j hj => ?_
  unfold keeps
  rw [decide_eq_true_eq]
  by_cases h0 : j = 0
  · exact .inl h0
  · right
    intro e
    have h1 : ks.toArray[j]! = ks[j] := by simp [getElem!_pos, hj]
    have h2 : ks.toArray[j - 1]! = ks[j - 1]'(by omega) := by
      have : j - 1 < ks.length := by omega
      simp [getElem!_pos, this]
    rw [h1, h2] at e
    have h3 := (List.nodup_iff_pairwise_ne.1 h)
    rw [List.pairwise_iff_getElem] at h3
    exact h3 (j - 1) j (by omega) hj (by omega) e.symm
theorem compact_own {w : World} {B : Nat} {a : Option Addr} {n cap : Nat} {ks : List Key} (h : OwnRow w B 9 1 strCell (.slice a n cap) ks) (hm : ks.length ≤ 1000000) (hd : ks.Nodup) :
    Calls Tryz.prog 25 #[.slice a n cap] w fun r w' => r = .returned (.slice a n cap) ∧ OwnRow w' B 9 1 strCell (.slice a n cap) ks ∧ w.grownBy w' (Value.slice a n cap).ownBlock := by
  have h' := h
  obtain ⟨h1, ⟨h2, h3⟩ | ⟨g, cap', cur, h2, h3, h4, h5, h6, h7, h8⟩⟩ := h
  · injection h2 with e1 e2 e3
    subst e1 e2 e3
    refine (calls_of_every_depth fun D => AnySG.slices_Compact_string_empty_in Tryz.compactStr D none 0 w).mono ?_
    rintro r w' ⟨rfl, rfl⟩
    exact ⟨rfl, h', ⟨rfl, rfl, rfl, Nat.le_refl _, fun _ _ _ => rfl⟩⟩
  · injection h2 with e1 e2 e3
    subst e1 e2 e3
    rw [str_enc] at h8
    have hH := holds_of_block (ss := ks) h4 (by simpa using h8)
    refine (calls_of_every_depth fun D => AnySG.slices_Compact_string_in Tryz.compactStr D g 0 cap ks w hH (by omega) h5).mono ?_
    rintro r w' ⟨rfl, q, rfl⟩
    rw [compact_same hd, Nat.sub_self, List.replicate_zero, List.append_nil]
    have e : putRow encStr (Sort.ahead w q) g 0 ks.toArray = Sort.ahead w q := putRow_self encStr (Sort.ahead w q) g 0 ks.toArray (holds_ahead encStr w q g 0 ks.toArray hH)
    rw [e]
    exact ⟨rfl, h', ⟨rfl, rfl, rfl, Nat.le_refl _, fun _ _ _ => rfl⟩⟩

end Go.Proofs.YtnldkmcijmbhcaaGreat

/- The contract of rightCode. -/
namespace Go.Proofs.YtnldkmcijmbhcaaGreat
open Go.RowKit

set_option maxRecDepth 100000 in
set_option maxHeartbeats 1000000 in
theorem rightCode_any (V M : Int) (t : Value) (a : Option Addr) (cap : Nat) (l : List Ins) (w : World) (hl : CodeAt w a l) :
    Calls Tryz.prog 54 #[.agg #[.int .i64 V, .int .i64 M, t], .slice a l.length cap] w fun r w' => r = .returned (.bool (rightCode V M l)) ∧ Below w.heap.size w w' := by
  have hm := hl.1
  unfold maxLen at hm
  by_cases h8 : l.length ≤ 8
  · have H : Hid (rightCode V M l = l.all (rightIns V M l.length)) := by show _ = _; simp [rightCode, h8]
    have HL := Lib.hid hl
    have h9 : decide (8 < l.length) = false := by simp; omega
    clear hl
    go_enter Tryz.func54, Tryz.ntmps54
    go_wp2
    go_loopw [12] (fun i wr => ∃ k : Nat, k ≤ l.length ∧ i = .int .i64 k ∧ Hid ((l.take k).all (rightIns V M l.length) = true) ∧ Below (w.heap.size + 1) (w.alloc (.cells #[.int .i64 V, .int .i64 M, t] 24)) wr) (fun i _ => l.length - (intOf i).toNat)
    case atStart => exact ⟨0, Nat.zero_le _, rfl, rfl, Below.refl _ _⟩
    case round =>
      obtain ⟨k, hk, rfl, hall, hb⟩ := hrel
      by_cases hlt : k < l.length
      · obtain ⟨b, o, rfl, hc⟩ := HL.out.2 (by intro e; simp [e] at hlt)
        have hbw : Below w.heap.size w wr := ((Below.refl _ _).alloc (Nat.le_refl _) _).trans (hb.mono (by omega))
        obtain ⟨c0, c1, c2, c3⟩ := hc k hlt
        have d0 := cell_later hbw c0
        have d1 := cell_later hbw c1
        have d2 := cell_later hbw c2
        have d3 := cell_later hbw c3
        have p0 : wr.cell? ⟨w.heap.size, 0, none⟩ = some (.int .i64 V) := by rw [hb.cell (p := ⟨w.heap.size, 0, none⟩) (by simp)]; simp
        have p1 : wr.cell? ⟨w.heap.size, 1, none⟩ = some (.int .i64 M) := by rw [hb.cell (p := ⟨w.heap.size, 1, none⟩) (by simp)]; simp
        have p2 : wr.cell? ⟨w.heap.size, 2, none⟩ = some t := by rw [hb.cell (p := ⟨w.heap.size, 2, none⟩) (by simp)]; simp
        have hz : w.heap.size < wr.heap.size := by have := hb.size; simp at this; omega
        clear c0 c1 c2 c3 hc
        go_wp2_with fail
        refine (rightInstr_any V M l.length (by omega) (by omega) t l[k] _).mono ?_
        rintro r w1 ⟨rfl, hb1⟩
        have hb2 : Below (w.heap.size + 1) (w.alloc (.cells #[.int .i64 V, .int .i64 M, t] 24)) w1 := (hb.alloc (by omega) _).trans (hb1.mono (by simp; omega))
        have hb3 : Below w.heap.size w w1 := ((Below.refl _ _).alloc (Nat.le_refl _) _).trans (hb2.mono (by omega))
        have ht : (l.take (k + 1)) = l.take k ++ [l[k]] := List.take_succ_eq_append_getElem hlt
        cases hr : rightIns V M l.length l[k]
        · have HR : Hid (rightCode V M l = false) := by
            show _ = _
            rw [H.out, List.all_eq_false]; exact ⟨l[k], List.getElem_mem _, by simp [hr]⟩
          clear hr ht
          go_wp2
          go_ret
          exact ⟨ret_bool HR.out.symm, hb3⟩
        · have HR : Hid ((l.take (k + 1)).all (rightIns V M l.length) = true) := by
            show _ = _
            rw [ht, List.all_append, hall.out]; simp [hr]
          clear hr ht
          go_wp2
          go_roundw
          case rel => exact ⟨k + 1, by omega, by go_num, HR, hb2⟩
          case measure => simp [intOf]; omega
      · obtain rfl : k = l.length := by omega
        have HR : Hid (rightCode V M l = true) := by
          show _ = _
          rw [H.out, ← hall.out, List.take_length]
        have hbw : Below w.heap.size w wr := ((Below.refl _ _).alloc (Nat.le_refl _) _).trans (hb.mono (by omega))
        go_wp2
        go_ret
        exact ⟨ret_bool HR.out.symm, hbw⟩
  · have H : Hid (rightCode V M l = false) := by show _ = _; simp [rightCode]; omega
    have h9 : 8 < l.length := by omega
    clear hl
    go_enter Tryz.func54, Tryz.ntmps54
    go_wp2
    go_ret
    exact ⟨ret_bool H.out.symm, below_alloc1 _ _⟩
end Go.Proofs.YtnldkmcijmbhcaaGreat

/- The contract of Right. -/
namespace Go.Proofs.YtnldkmcijmbhcaaGreat
open Go.RowKit

set_option maxRecDepth 100000 in
set_option maxHeartbeats 1000000 in
theorem right_any (p : Pg) (a : Option Addr) (cap : Nat) (w : World) (hp : ThreadsAt w a p.threads) :
    Calls Tryz.prog 34 #[pgV p a cap] w fun r w' => r = .returned (.bool (rightPg p)) ∧ Below w.heap.size w w' := by
  obtain ⟨V, M, ts⟩ := p
  unfold pgV
  dsimp only at *
  have hm := hp.1
  unfold maxLen at hm
  cases hV : belowB V 5
  · have H : Hid (rightPg ⟨V, M, ts⟩ = false) := by
      show _ = _
      simp [belowB] at hV
      simp [rightPg]; omega
    have HL := Lib.hid hp
    clear hp
    go_enter Tryz.func34, Tryz.ntmps34
    go_wp2_with (go_at_call 53; refine (below_any _ _ _).mono ?_; rintro r w' ⟨rfl, rfl⟩)
    go_ret
    exact ⟨ret_bool H.out.symm, below_alloc1 _ _⟩
  cases hM : belowB M 3
  · have H : Hid (rightPg ⟨V, M, ts⟩ = false) := by
      show _ = _
      simp [belowB] at hM
      simp [rightPg]; omega
    have HL := Lib.hid hp
    clear hp
    go_enter Tryz.func34, Tryz.ntmps34
    go_wp2_with (go_at_call 53; refine (below_any _ _ _).mono ?_; rintro r w' ⟨rfl, rfl⟩)
    go_ret
    exact ⟨ret_bool H.out.symm, below_alloc1 _ _⟩
  by_cases h1 : ts.length < 1
  · have H : Hid (rightPg ⟨V, M, ts⟩ = false) := by
      show _ = _
      simp [rightPg]; omega
    have HL := Lib.hid hp
    clear hp
    go_enter Tryz.func34, Tryz.ntmps34
    go_wp2_with (go_at_call 53; refine (below_any _ _ _).mono ?_; rintro r w' ⟨rfl, rfl⟩)
    go_ret
    exact ⟨ret_bool H.out.symm, below_alloc1 _ _⟩
  by_cases h4 : 4 < ts.length
  · have H : Hid (rightPg ⟨V, M, ts⟩ = false) := by
      show _ = _
      simp [rightPg]; omega
    have HL := Lib.hid hp
    clear hp
    go_enter Tryz.func34, Tryz.ntmps34
    go_wp2_with (go_at_call 53; refine (below_any _ _ _).mono ?_; rintro r w' ⟨rfl, rfl⟩)
    go_ret
    exact ⟨ret_bool H.out.symm, below_alloc1 _ _⟩
  have H : Hid (rightPg ⟨V, M, ts⟩ = ts.all (rightCode V M)) := by
    show _ = _
    simp [belowB] at hV hM
    have : decide (0 ≤ V ∧ V ≤ 4 ∧ 0 ≤ M ∧ M ≤ 2 ∧ 1 ≤ ts.length ∧ ts.length ≤ 4) = true := by simp; omega
    unfold rightPg
    dsimp only
    rw [this, Bool.true_and]
  have HL := Lib.hid hp
  clear hp
  go_enter Tryz.func34, Tryz.ntmps34
  go_wp2_with (go_at_call 53; refine (below_any _ _ _).mono ?_; rintro r w' ⟨rfl, rfl⟩)
  go_loopw [28] (fun i wr => ∃ k : Nat, k ≤ ts.length ∧ i = .int .i64 k ∧ Hid ((ts.take k).all (rightCode V M) = true) ∧ Below (w.heap.size + 1) (w.alloc (.cells #[.int .i64 V, .int .i64 M, .slice a ts.length cap] 24)) wr) (fun i _ => ts.length - (intOf i).toNat)
  case atStart => exact ⟨0, Nat.zero_le _, rfl, rfl, Below.refl _ _⟩
  case round =>
    obtain ⟨k, hk, rfl, hall, hb⟩ := hrel
    by_cases hlt : k < ts.length
    · obtain ⟨b, o, rfl, hc⟩ := HL.out.2 (by intro e; simp [e] at hlt)
      have hbw : Below w.heap.size w wr := ((Below.refl _ _).alloc (Nat.le_refl _) _).trans (hb.mono (by omega))
      obtain ⟨c, ccap, c0, c1, _⟩ := hc k hlt
      have d0 := cell_later hbw c0
      have D1 := Lib.hid (c1.later hbw)
      have p0 : wr.cell? ⟨w.heap.size, 0, none⟩ = some (.int .i64 V) := by rw [hb.cell (p := ⟨w.heap.size, 0, none⟩) (by simp)]; simp
      have p1 : wr.cell? ⟨w.heap.size, 1, none⟩ = some (.int .i64 M) := by rw [hb.cell (p := ⟨w.heap.size, 1, none⟩) (by simp)]; simp
      have p2 : wr.cell? ⟨w.heap.size, 2, none⟩ = some (.slice (some ⟨b, o, none⟩) ts.length cap) := by rw [hb.cell (p := ⟨w.heap.size, 2, none⟩) (by simp)]; simp
      have hz : w.heap.size < wr.heap.size := by have := hb.size; simp at this; omega
      clear c0 c1 hc
      go_wp2_with fail
      refine (rightCode_any V M _ c ccap ts[k] _ D1.out).mono ?_
      rintro r w1 ⟨rfl, hb1⟩
      have hb2 : Below (w.heap.size + 1) (w.alloc (.cells #[.int .i64 V, .int .i64 M, .slice (some ⟨b, o, none⟩) ts.length cap] 24)) w1 := hb.trans (hb1.mono (by omega))
      have hb3 : Below w.heap.size w w1 := ((Below.refl _ _).alloc (Nat.le_refl _) _).trans (hb2.mono (by omega))
      have ht : (ts.take (k + 1)) = ts.take k ++ [ts[k]] := List.take_succ_eq_append_getElem hlt
      cases hr : rightCode V M ts[k]
      · have HR : Hid (rightPg ⟨V, M, ts⟩ = false) := by
          show _ = _
          rw [H.out, List.all_eq_false]; exact ⟨ts[k], List.getElem_mem _, by simp [hr]⟩
        clear hr ht
        go_wp2
        go_ret
        exact ⟨ret_bool HR.out.symm, hb3⟩
      · have HR : Hid ((ts.take (k + 1)).all (rightCode V M) = true) := by
          show _ = _
          rw [ht, List.all_append, hall.out]; simp [hr]
        clear hr ht
        go_wp2
        go_roundw
        case rel => exact ⟨k + 1, by omega, by go_num, HR, hb2⟩
        case measure => simp [intOf]; omega
    · obtain rfl : k = ts.length := by omega
      have HR : Hid (rightPg ⟨V, M, ts⟩ = true) := by
        show _ = _
        rw [H.out, ← hall.out, List.take_length]
      have hbw : Below w.heap.size w wr := ((Below.refl _ _).alloc (Nat.le_refl _) _).trans (hb.mono (by omega))
      go_wp2
      go_ret
      exact ⟨ret_bool HR.out.symm, hbw⟩
end Go.Proofs.YtnldkmcijmbhcaaGreat
