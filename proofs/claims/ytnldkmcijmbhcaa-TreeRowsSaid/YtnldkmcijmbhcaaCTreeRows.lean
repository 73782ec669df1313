/-
  TreeRows: where a node stands its prefix can be done, and all its beginnings have nodes, each gone into by the next thread: the law answers true, and its arguments read as they did.
  For every input, whatever its size and however its parts share memory; nothing is asked of it but what the statement's own form asks.
-/
import Derived.Deep.DeepCutAuto
import Derived.Deep.CutBlock
import Derived.WalkKit
import Derived.ProofKit
import Derived.OpenShut
import Derived.Test.YtnldkmcijmbhcaaRows
import Derived.Test.YtnldkmcijmbhcaaPk05
import Derived.Test.YtnldkmcijmbhcaaPk06

/- The law TreeRows, walked. -/
namespace Go.Proofs.Ytnldkmcijmbhcaa
open Go.RowKit

def itPos (w : World) (k : Nat) : Nat := match w.heap[k]? with
  | some (.stringIter _ p) => p
  | _ => 0
/-- What the law's loop leaves: a tree, and its prefixes in a row. -/
def RowsI (h : TrH) (w : World) (j : Nat) (v : Value) (wr : World) : Prop := ∃ gs l cl, l.length ≤ j ∧ 0 ≤ cl ∧ cl ≤ (j : Int) ∧ TrAt h wr gs l cl ∧ UpT l ∧ (∀ n ∈ l, n.pre.length ≤ 40) ∧ OwnRow wr h.wc.heap.size 9 1 pfxCell v (l.map TNd.pre) ∧ Below w.heap.size w wr
theorem makeT_cases (p : Pg) (fuel : Int) (l : List TNd) (k : Pfx) (asl : Nat) (own : Int) : ((makeT p fuel l k asl own).1 = 0 ∧ ∃ n, n.pre = k ∧ (makeT p fuel l k asl own).2 = l ++ [n]) ∨ ((makeT p fuel l k asl own).1 ≠ 0 ∧ (makeT p fuel l k asl own).2 = l) := by
  unfold makeT
  rcases hr : rep p fuel (rowK k) with ⟨e, es, _ | s⟩
  · exact .inr ⟨rep_none hr, rfl⟩
  · dsimp only
    split
    · exact .inr ⟨by simp, rfl⟩
    · split
      · exact .inr ⟨by simp, rfl⟩
      · exact .inl ⟨rfl, _, rfl, rfl⟩
theorem map_set_pre {l : List TNd} {i : Nat} (hi : i < l.length) {n : TNd} (e : n.pre = l[i].pre) : (l.set i n).map TNd.pre = l.map TNd.pre := by
  rw [List.map_set, e]
  apply List.ext_getElem
  · simp
  · intro j h1 h2
    rw [List.getElem_set]
    split
    · rename_i e2; subst e2; simp
    · rfl
theorem markT_len (l : List TNd) (k : Pfx) (set : Nat) : (markT l k set).2.map TNd.pre = l.map TNd.pre := by
  unfold markT
  cases hi : idxT l k with
  | none => rfl
  | some i =>
    obtain ⟨hil, _⟩ := idxT_some hi
    have e : l.getD i ⟨[], 0, 0, 0, 0, 0⟩ = l[i] := by simp [List.getD, hil]
    simp only [e]
    exact map_set_pre hil rfl
theorem claimT_len (p : Pg) (fuel : Int) (l : List TNd) (k : Pfx) (d : Int) : (claimT p fuel l k d).2.2.2.map TNd.pre = l.map TNd.pre := by
  unfold claimT
  cases hi : idxT l k with
  | none => rfl
  | some i =>
    obtain ⟨hil, _⟩ := idxT_some hi
    have e : l.getD i ⟨[], 0, 0, 0, 0, 0⟩ = l[i] := by simp [List.getD, hil]
    simp only [e]
    split
    · rfl
    · exact map_set_pre hil rfl
theorem map_len {l l' : List TNd} (h : l'.map TNd.pre = l.map TNd.pre) : l'.length = l.length := by
  have := congrArg List.length h
  simpa using this
theorem pre_of_map {l l' : List TNd} (h : l'.map TNd.pre = l.map TNd.pre) {Q : Pfx → Prop} (hq : ∀ n ∈ l, Q n.pre) : ∀ n ∈ l', Q n.pre := by
  intro n hn
  have h1 : n.pre ∈ l'.map TNd.pre := List.mem_map.2 ⟨n, hn, rfl⟩
  rw [h] at h1
  obtain ⟨m, hm, e⟩ := List.mem_map.1 h1
  rw [← e]
  exact hq m hm
section
variable {h : TrH} {w : World} {gs : List Nat} {l : List TNd} {cl : Int}
theorem once_of (t : TrAt h w gs l cl) {n : TNd} (hn : n ∈ l) {k : Pfx} (hk : n.pre = k) : ∃ i, idxT l k = some i ∧ ∃ hi : i < l.length, l[i] = n := by
  obtain ⟨i, hi, rfl⟩ := List.getElem_of_mem hn
  subst hk
  exact ⟨i, idxT_of t.ok.nodup hi, hi, rfl⟩
theorem make_once (t : TrAt h w gs l cl) {n : TNd} (hn : n ∈ l) {k : Pfx} (hk : n.pre = k) (hl : k.length ≤ 900) (hll : l.length ≤ 1000000) : Calls Try.prog 13 #[.pointer (some ⟨h.b, 0, none⟩), .string ⟨k.toArray⟩, .int .u8 0, .int .i64 0] w fun r w' => ∃ gs', r = .returned (.int .i64 7) ∧ TrAt h w' gs' l cl ∧ OnlyS (TrS h gs) w w' := by
  obtain ⟨i, hi, hil, e⟩ := once_of t hn hk
  obtain ⟨es, s, hr, _⟩ := t.ok.row n hn
  rw [hk] at hr
  have he : makeT h.p h.fuel l k 0 0 = (7, l) := by unfold makeT; rw [hr, hi]; rfl
  refine (make_any t hl (asl := 0) (by omega) 0 hll).mono fun r w' h => ?_
  obtain ⟨gs', h1, h2, h3, _⟩ := h
  rw [he] at h1 h2
  exact ⟨gs', h1, h2, h3⟩
theorem left_not (t : TrAt h w gs l cl) {n : TNd} (hn : n ∈ l) {k : Pfx} (hk : n.pre = k) (hl : k.length ≤ 900) {c : UInt8} (hg : hasB n.gone (c.toNat : Int) = true) : Calls Try.prog 27 #[.pointer (some ⟨h.b, 0, none⟩), .string ⟨k.toArray⟩] w fun r w' => ∃ (xs : List Int) (a : Option Addr) (cap : Nat), r = .returned (.slice a xs.length cap) ∧ NumsAt w' a xs ∧ (∀ q (hq : q < xs.length), (xs[q] == (c.toNat : Int)) = false) ∧ xs.length ≤ 8 ∧ Below w.heap.size w w' := by
  obtain ⟨i, hi, hil, e⟩ := once_of t hn hk
  refine (leftT_any t (by omega)).mono fun r w' h => ?_
  obtain ⟨v, h1, h2, h3⟩ := h
  have e2 : leftT l k = n.left := by unfold leftT; rw [hi]; simp [List.getD, hil, e]
  rw [e2] at h2
  obtain ⟨a, cap, rfl, h4, _⟩ := OwnN.form h2 (by rw [ints_len]; have := bitsL_len n.left; omega)
  refine ⟨_, a, cap, h1, h4, fun q hq => ?_, by rw [ints_len]; exact bitsL_len _, h3⟩
  have hm := List.getElem_mem hq
  obtain ⟨h5, _, _⟩ := (t.ok.ok n hn).left_gone hm
  rw [beq_eq_false_iff_ne]
  intro e3
  rw [e3, hg] at h5
  cases h5
/-- A tree's call that adds no node. -/
theorem rowsI_same {j : Nat} {v : Value} {w6 w7 : World} {gs' : List Nat} {l' : List TNd} {cl' : Int} (hwc : w.heap.size ≤ h.wc.heap.size) (t : TrAt h w6 gs l cl) (t' : TrAt h w7 gs' l' cl') (ho : OnlyS (TrS h gs) w6 w7) (e : l'.map TNd.pre = l.map TNd.pre) (hu : UpT l') (hl : l.length ≤ j) (hc : 0 ≤ cl' ∧ cl' ≤ (j + 1 : Nat)) (h40 : ∀ n ∈ l, n.pre.length ≤ 40)
    (hr : OwnRow w6 h.wc.heap.size 9 1 pfxCell v (l.map TNd.pre)) (hb : Below w.heap.size w w6) : RowsI h w (j + 1) v w7 :=
  ⟨gs', l', cl', by rw [map_len e]; omega, hc.1, hc.2, t', hu, pre_of_map (Q := fun k => k.length ≤ 40) e h40, by rw [e]; exact t.rowKept ho hr, hb.trans ((t.only ho).mono hwc)⟩
/-- A node more, and its prefix in the row. -/
theorem rowsI_more {j : Nat} {v v' : Value} {w6 w7 w8 : World} {gs' : List Nat} {n : TNd} (hwc : w.heap.size ≤ h.wc.heap.size) (t : TrAt h w6 gs l cl) (t' : TrAt h w7 gs' (l ++ [n]) cl) (ho : OnlyS (TrS h gs) w6 w7) (hu : UpT (l ++ [n])) (hl : l.length ≤ j) (hc : 0 ≤ cl ∧ cl ≤ (j : Int)) (h40 : ∀ n ∈ l, n.pre.length ≤ 40) (hn : n.pre.length ≤ 40)
    (hr : OwnRow w6 h.wc.heap.size 9 1 pfxCell v (l.map TNd.pre)) (hb : Below w.heap.size w w6) (o : Obj) (hr' : OwnRow w8 h.wc.heap.size 9 1 pfxCell v' (l.map TNd.pre ++ [n.pre])) (hg : (w7.alloc o).grownBy w8 v.ownBlock) (hb' : Below h.wc.heap.size (w7.alloc o) w8) : RowsI h w (j + 1) v' w8 := by
  have h7 := t.rowKept ho hr
  have t8 : TrAt h (w7.alloc o) gs' (l ++ [n]) cl := t'.later (below_alloc1 w7 o)
  have hb7 : Below w.heap.size w w7 := hb.trans ((t.only ho).mono hwc)
  refine ⟨gs', l ++ [n], cl, by simp; omega, hc.1, by have := hc.2; omega, t8.grown (h7.alloc o) hg (Nat.le_refl _), hu, ?_, by rw [List.map_append]; exact hr', (hb7.alloc hb7.size o).trans (hb'.mono hwc)⟩
  intro m hm
  rw [List.mem_append, List.mem_singleton] at hm
  rcases hm with hm | rfl
  · exact h40 m hm
  · exact hn
end

set_option maxRecDepth 100000 in
set_option maxHeartbeats 16000000 in
theorem treeRows_any (p : Pg) (a : Option Addr) (cap : Nat) (fuel : Int) (oa : Option Addr) (ol : List TOp) (oc : Nat) (w : World) (hp : ThreadsAt w a p.threads) (ha : a = none → cap = 0) (hord : RowAt w oa 4 opCell ol) (hset : ∀ o ∈ ol, o.set < 256 ∧ o.pre.length ≤ maxLen) :
    Calls Try.prog 6 #[.agg #[.int .i64 p.vars, .int .i64 p.mutexes, .slice a p.threads.length cap], .int .i64 fuel, .slice oa ol.length oc] w fun r w' => r = .returned (.bool true) ∧ Below w.heap.size w w' := by
  have HP := Lib.hid hp
  have HA := Lib.hid ha
  have HOP : Hid (∀ W, Below w.heap.size w W → RowAt W oa 4 opCell ol) := fun W hb => hord.later hb
  have HSET : Hid (∀ o ∈ ol, o.set < 256) := fun o ho => (hset o ho).1
  have HBX : Hid (∀ W, Below (w.alloc (.cells #[.int .i64 p.vars, .int .i64 p.mutexes, .slice a p.threads.length cap] 24)).heap.size (w.alloc (.cells #[.int .i64 p.vars, .int .i64 p.mutexes, .slice a p.threads.length cap] 24)) W → W.cell? ⟨w.heap.size, 0, none⟩ = some (.int .i64 p.vars) ∧ W.cell? ⟨w.heap.size, 1, none⟩ = some (.int .i64 p.mutexes) ∧ W.cell? ⟨w.heap.size, 2, none⟩ = some (.slice a p.threads.length cap)) := fun W hb => ⟨cell_later hb (by simp), cell_later hb (by simp), cell_later hb (by simp)⟩
  have hb1 : Below w.heap.size w (w.alloc (.cells #[.int .i64 p.vars, .int .i64 p.mutexes, .slice a p.threads.length cap] 24)) := below_alloc1 w _
  clear hp ha hord hset
  go_enter Try.func6, Try.ntmps6
  go_wp2_with fail
  generalize w.alloc (.cells #[.int .i64 p.vars, .int .i64 p.mutexes, .slice a p.threads.length cap] 24) = W1 at *
  refine (awake10_any W1).mono ?_
  rintro r W2 ⟨rfl, hb2⟩
  obtain ⟨c0, c1, c2⟩ := HBX.out W2 hb2
  have hb3 := hb1.trans (hb2.mono hb1.size)
  go_wp2_with fail
  refine (few_any p a cap W2 (HP.out.later hb3)).mono ?_
  rintro r W3 ⟨rfl, hb4⟩
  have hb5 := hb2.trans (hb4.mono hb2.size)
  have hb6 := hb3.trans (hb4.mono hb3.size)
  clear c0 c1 c2 hb2 hb3 hb4
  cases hf : fewPg p
  · clear hf
    go_wp2_with fail
    refine (awake10_any _).mono ?_
    rintro r w3 ⟨rfl, hb3⟩
    go_wp2
    go_ret
    exact ⟨rfl, hb6.trans (hb3.mono hb6.size)⟩
  clear hf
  go_wp2_with fail
  refine (few10_any oa oc ol W3 (HOP.out W3 hb6)).mono ?_
  rintro r W4 ⟨rfl, hb7⟩
  have hb8 := hb5.trans (hb7.mono hb5.size)
  have hb9 := hb6.trans (hb7.mono hb6.size)
  clear hb5 hb6 hb7
  cases hfw : fewB ol
  · clear hfw
    go_wp2_with fail
    refine (awake10_any _).mono ?_
    rintro r w3 ⟨rfl, hb3⟩
    go_wp2
    go_ret
    exact ⟨rfl, hb9.trans (hb3.mono hb9.size)⟩
  obtain ⟨hlen, hpre⟩ := fewB_yes hfw
  have HPRE := Lib.hid hpre
  clear hfw hpre
  obtain ⟨c0, c1, c2⟩ := HBX.out W4 hb8
  go_wp2_with fail
  refine (newT_any p a cap fuel W4 (HP.out.later hb9) HA.out).mono ?_
  rintro r W5 hr
  unfold NewTR at hr
  clear c0 c1 c2
  cases hg : goodPg p fuel
  · rw [hg, if_neg (by simp)] at hr
    obtain ⟨rfl, hb10⟩ := hr
    clear hg
    go_wp2
    go_ret
    exact ⟨rfl, hb9.trans (hb10.mono hb9.size)⟩
  rw [hg, if_pos rfl] at hr
  obtain ⟨h, rfl, hhp, hhf, hwc, ht, hb10⟩ := hr
  have HWC : Hid (w.heap.size ≤ h.wc.heap.size) := Nat.le_trans hb9.size hwc
  have HI0 : Hid (RowsI h w 0 (.slice none 0 0) W5) := ⟨[], [], 0, Nat.zero_le _, Int.le_refl _, by simp, ht, upT_nil, (fun n hn => by cases hn), ownRow_nil _ _ _ _ _, hb9.trans (hb10.mono hb9.size)⟩
  clear hg hhp hhf hwc ht hb10 hb8 hb9 HBX
  go_wp2
  go_loopw [9, 43] (fun v i wr => ∃ j : Nat, j ≤ ol.length ∧ i = .int .i64 j ∧ Hid (RowsI h w j v wr)) (fun _ i _ => ol.length - (intOf i).toNat)
  case atStart => exact ⟨0, Nat.zero_le _, rfl, HI0⟩
  case round =>
    clear HI0
    obtain ⟨j, hj, rfl, HI⟩ := hrel
    by_cases hlt : j < ol.length
    · obtain ⟨gs, l, cl, hlj, hc0, hcj, ht, hu, h40, hrow, hbw⟩ := HI.out
      obtain ⟨b, o, rfl, e0, e1, e2, e3⟩ := (HOP.out _ hbw).op hlt
      have hz := HSET.out _ (List.getElem_mem hlt)
      have hq40 := HPRE.out _ (List.getElem_mem hlt)
      generalize ol[j] = x at *
      obtain ⟨xk, xn, xp, xz⟩ := x
      dsimp only at e0 e1 e2 e3 hz hq40
      obtain ⟨ks, hks⟩ : ∃ ks, ks = l.map TNd.pre := ⟨_, rfl⟩
      have hkl : ks.length = l.length := by rw [hks, List.length_map]
      rw [← hks] at hrow
      have hk100 : ks.length ≤ 100 := by omega
      have HKS := Lib.hid hks
      have HKL := Lib.hid hkl
      have HT6 := Lib.hid (ht.later (below_alloc1 wr (.cells #[.int .i64 xk, .int .i64 xn, .string ⟨xp.toArray⟩, .int .u8 (xz : Nat)] 40)))
      have HR6 := Lib.hid (hrow.alloc (.cells #[.int .i64 xk, .int .i64 xn, .string ⟨xp.toArray⟩, .int .u8 (xz : Nat)] 40))
      have HB6 := Lib.hid (hbw.alloc hbw.size (.cells #[.int .i64 xk, .int .i64 xn, .string ⟨xp.toArray⟩, .int .u8 (xz : Nat)] 40))
      obtain ⟨va, vc, rfl, _⟩ := OwnRow.form hrow pfxCell_len (by omega)
      have HU := Lib.hid hu
      have H40 := Lib.hid h40
      have HBK : Hid ((wr.alloc (.cells #[.int .i64 xk, .int .i64 xn, .string ⟨xp.toArray⟩, .int .u8 (xz : Nat)] 40)).heap[wr.heap.size]? = some (.cells #[.int .i64 xk, .int .i64 xn, .string ⟨xp.toArray⟩, .int .u8 (xz : Nat)] 40 (0, 0))) := heap_alloc_new wr _
      have HNB : Hid (¬ TrS h gs wr.heap.size) := HT6.out.not_row HBK.out (by decide) (by decide)
      have hl101 : l.length ≤ 1000000 := by omega
      have hbs : wr.heap.size < (wr.alloc (.cells #[.int .i64 xk, .int .i64 xn, .string ⟨xp.toArray⟩, .int .u8 (xz : Nat)] 40)).heap.size := by rw [World.size_alloc]; omega
      clear ht hrow hu h40 hbw hks hkl
      go_upto_block 2 with (fail)
      generalize wr.alloc (.cells #[.int .i64 xk, .int .i64 xn, .string ⟨xp.toArray⟩, .int .u8 (xz : Nat)] 40) = W6 at *
      generalize wr.heap.size = G6 at *
      have hf6 : ∀ W : World, W.heap[G6]? = some (.cells #[.int .i64 xk, .int .i64 xn, .string ⟨xp.toArray⟩, .int .u8 (xz : Nat)] 40 (0, 0)) → W.cell? ⟨G6, 1, none⟩ = some (.int .i64 xn) ∧ W.cell? ⟨G6, 2, none⟩ = some (.string ⟨xp.toArray⟩) ∧ W.cell? ⟨G6, 3, none⟩ = some (.int .u8 (xz : Nat)) := fun W hW =>
        ⟨by rw [cell_of_row W _ 1 _ _ _ hW]; rfl, by rw [cell_of_row W _ 2 _ _ _ hW]; rfl, by rw [cell_of_row W _ 3 _ _ _ hW]; rfl⟩
      have HF6 := Lib.hid hf6
      clear hf6 e0 e1 e2 e3
      obtain ⟨f1, f2, f3⟩ := HF6.out W6 HBK.out
      go_cut [9] (fun s9 wx => RowsI h w (j + 1) s9 wx)
      case first =>
        by_cases k1 : xk = 1
        · subst k1
          go_wp2_with fail
          refine (make_any HT6.out (by omega) hz xn hl101).mono ?_
          rintro r W7 hm
          obtain ⟨gs', rfl, ht7, ho7, _⟩ := hm
          have hu7 := HU.out.make (p := h.p) (fuel := h.fuel) xp xz xn
          have hcs := makeT_cases h.p h.fuel l xp xz xn
          generalize makeT h.p h.fuel l xp xz xn = M at *
          obtain ⟨m1, m2⟩ := M
          dsimp only at ht7 hu7 hcs
          have hblk7 : W7.heap[G6]? = _ := (ho7.block _ hbs HNB.out).trans HBK.out
          have HO7 := Lib.hid ho7
          have HU7 := Lib.hid hu7
          rcases hcs with ⟨rfl, n, hn, rfl⟩ | ⟨he, rfl⟩
          · obtain ⟨f1', f2', f3'⟩ := HF6.out W7 hblk7
            have HT7 := Lib.hid ht7
            have HR7 := Lib.hid (HT6.out.rowKept ho7 HR6.out)
            have HNP := Lib.hid hn
            have hz7 : h.wc.heap.size ≤ (W7.alloc (.cells #[.string ⟨xp.toArray⟩] 9)).heap.size := by rw [World.size_alloc]; have := ht7.below.size; omega
            clear ho7 hu7 ht7 hn hblk7 f1 f2 f3
            go_wp2_with (at_builtin; refine wp_appendR (f := pfxCell) (n := 1) 76 9 16 (.string ByteArray.empty) Try.underlying76 infoPfx rfl (by omega) (by omega) pfxCell_len rfl _ _ rfl h.wc.heap.size _ ks rfl (HR7.out.alloc _) ⟨W7.heap.size, 0, none⟩ rfl xp (pfxCell_one _) (cells_new W7 (pfxCell xp) _ _ rfl) (by omega) hz7 ?_; intro v8 w8 hown8 hb8 hg8)
            go_meet
            refine rowsI_more HWC.out HT6.out HT7.out HO7.out HU7.out hlj ⟨hc0, hcj⟩ H40.out (by rw [HNP.out]; exact hq40) (by rw [← HKS.out]; exact HR6.out) HB6.out (.cells #[.string ⟨xp.toArray⟩] 9) ?_ hg8 hb8
            rw [← HKS.out, HNP.out]
            exact hown8
          · have hne : (m1 == 0) = false := by simpa using he
            have HT7 := Lib.hid ht7
            clear ho7 hu7 ht7 hblk7 f1 f2 f3 he
            go_wp2_with fail
            go_meet
            exact rowsI_same HWC.out HT6.out HT7.out HO7.out rfl HU.out hlj ⟨hc0, by omega⟩ H40.out (by rw [← HKS.out]; exact HR6.out) HB6.out
        · have q1 : (xk == 1) = false := by simpa using k1
          by_cases k2 : xk = 2
          · subst k2
            go_wp2_with fail
            refine (mark_any HT6.out (by omega) hz).mono ?_
            rintro r W7 ⟨rfl, ht7, ho7⟩
            have HT7 := Lib.hid ht7
            have HO7 := Lib.hid ho7
            clear ht7 ho7
            go_wp2_with fail
            go_meet
            exact rowsI_same HWC.out HT6.out HT7.out HO7.out (markT_len _ _ _) (HU.out.mark _ _) hlj ⟨hc0, by omega⟩ H40.out (by rw [← HKS.out]; exact HR6.out) HB6.out
          · have q2 : (xk == 2) = false := by simpa using k2
            by_cases k3 : xk = 3
            · subst k3
              go_wp2_with fail
              refine (claim_any HT6.out ⟨hc0, by omega⟩ (by omega) xn).mono ?_
              rintro r W7 ⟨rfl, ht7, ho7⟩
              have HT7 := Lib.hid ht7
              have HO7 := Lib.hid ho7
              clear ht7 ho7
              go_wp2_with fail
              go_meet
              exact rowsI_same HWC.out HT6.out HT7.out HO7.out (claimT_len _ _ _ _ _) (HU.out.claim _ _) hlj (by split <;> omega) H40.out (by rw [← HKS.out]; exact HR6.out) HB6.out
            · have q3 : (xk == 3) = false := by simpa using k3
              go_wp2_with fail
              go_meet
              exact rowsI_same HWC.out HT6.out HT6.out (OnlyS.refl _ _) rfl HU.out hlj ⟨hc0, by omega⟩ H40.out (by rw [← HKS.out]; exact HR6.out) HB6.out
      case rest =>
        clear HT6 HR6 HB6 HBK HNB HF6 HU H40 HKS HKL hk100 hl101 hbs f1 f2 f3 hlj hc0 hcj
        obtain ⟨gs2, l2, cl2, hlj, hc0, hcj, ht, hu, h40, hrow, hbw⟩ := hcut
        obtain ⟨ks2, hks⟩ : ∃ ks2, ks2 = l2.map TNd.pre := ⟨_, rfl⟩
        have hkl : ks2.length = l2.length := by rw [hks, List.length_map]
        rw [← hks] at hrow
        have hk100 : ks2.length ≤ 100 := by omega
        have HKS := Lib.hid hks
        have HU := Lib.hid hu
        have H40 := Lib.hid h40
        have HLJ := Lib.hid hlj
        have HCJ := Lib.hid (And.intro hc0 hcj)
        obtain ⟨va2, vc2, rfl, _⟩ := OwnRow.form hrow pfxCell_len (by omega)
        have HT := Lib.hid ht
        have HR := Lib.hid hrow
        have HB := Lib.hid hbw
        have HNOD := Lib.hid ht.ok
        clear ht hrow hu h40 hbw hks hkl hlj hc0 hcj
        go_wp2_with fail
        go_loopw [83] (fun i w2 => ∃ (m : Nat) (gs3 : List Nat), m ≤ ks2.length ∧ i = .int .i64 m ∧ Hid (TrAt h w2 gs3 l2 cl2) ∧ Hid (OwnRow w2 h.wc.heap.size 9 1 pfxCell (.slice va2 ks2.length vc2) ks2) ∧ Hid (Below w.heap.size w w2)) (fun i _ => ks2.length - (intOf i).toNat)
        case atStart => exact ⟨0, gs2, Nat.zero_le _, rfl, HT, HR, HB⟩
        case round =>
          clear HT HR HB
          obtain ⟨m, gs3, hm, rfl, HT, HR, HB⟩ := hrel
          by_cases hmt : m < ks2.length
          · obtain ⟨_, _, he, hrow, _⟩ := OwnRow.form HR.out pfxCell_len (by omega)
            injection he with he1 _ he2
            subst he1 he2
            obtain ⟨kb, ko, hva, d0⟩ := hrow.pfx hmt
            subst hva
            obtain ⟨n, hn, hpn⟩ : ∃ n ∈ l2, n.pre = ks2[m] := by
              have h1 := List.getElem_mem hmt
              simp only [HKS.out] at h1
              obtain ⟨n, hn, e⟩ := List.mem_map.1 h1
              exact ⟨n, hn, by rw [e]; simp only [HKS.out]⟩
            have hsm := HNOD.out.small hn
            obtain ⟨es, st, hrep, _⟩ := HNOD.out.row n hn
            have hup := fun i (hi : i < n.pre.length) => HU.out.take (n.pre.length - i - 1) n hn i hi (by omega)
            have hq40 := H40.out n hn
            rw [hpn] at hsm hrep hq40
            obtain ⟨s, hs⟩ : ∃ s, s = ks2[m] := ⟨_, rfl⟩
            rw [← hs] at hsm hrep hpn hq40 d0
            subst hpn
            have HSM := Lib.hid hsm
            have HUP := Lib.hid hup
            have HAT := Lib.hid (at_lit HT.out n.pre _ rfl (by omega) hrep n.pre.length (by rw [rep_count hrep, rowK_len]) (by omega))
            have HNM := Lib.hid hn
            have hsz : (⟨n.pre.toArray⟩ : ByteArray).size = n.pre.length := by simp [ByteArray.size]
            clear hs hsm hup hrep hn hrow
            generalize n.pre = s at *
            go_wp2_with fail
            refine HAT.out.mono ?_
            rintro r W7 ⟨sg, ea, ec, rfl, hb7⟩
            have HT7 := Lib.hid (HT.out.later hb7)
            have HR7 := Lib.hid (HR.out.later hb7)
            have HB7 := Lib.hid (HB.out.trans (hb7.mono HB.out.size))
            have hit : (W7.iter ⟨s.toArray⟩ 0).heap[W7.heap.size]? = some (.stringIter ⟨s.toArray⟩ 0) := World.iter_heap _ _ _
            have hbi : Below W7.heap.size W7 (W7.iter ⟨s.toArray⟩ 0) := below_alloc1 _ _
            have HI8 := Lib.hid hit
            have HT8 := Lib.hid (HT7.out.later hbi)
            have HR8 := Lib.hid (HR7.out.later hbi)
            have HB8 := Lib.hid (HB7.out.trans (hbi.mono HB7.out.size))
            have hlo8 : h.wc.heap.size ≤ W7.heap.size := HT7.out.below.size
            clear hit hbi hb7 HAT d0
            go_wp2_with fail
            generalize W7.iter ⟨s.toArray⟩ 0 = W8 at *
            generalize W7.heap.size = K at *
            go_loopw [17] (fun _ w3 => ∃ (pos : Nat) (gs4 : List Nat), pos ≤ s.length ∧ Hid (w3.heap[K]? = some (.stringIter ⟨s.toArray⟩ pos)) ∧ Hid (TrAt h w3 gs4 l2 cl2) ∧ Hid (OwnRow w3 h.wc.heap.size 9 1 pfxCell (.slice (some ⟨kb, ko, none⟩) ks2.length vc2) ks2) ∧ Hid (Below w.heap.size w w3)) (fun _ w3 => s.length - itPos w3 K)
            case atStart => exact ⟨0, gs3, Nat.zero_le _, HI8, HT8, HR8, HB8⟩
            case round =>
              clear HI8 HT8 HR8 HB8 HT7 HR7 HB7
              obtain ⟨pos, gs4, hpos, HI9, HT9, HR9, HB9⟩ := hrel
              have HP9 : Hid (itPos wr K = pos) := by show _ = _; unfold itPos; rw [HI9.out]
              have hkx : ¬ TrS h gs4 K := HT9.out.not_iter HI9.out
              have hkl : K < wr.heap.size := (Array.getElem?_eq_some_iff.1 HI9.out).1
              by_cases hpl : pos < s.length
              · have hps : pos < (⟨s.toArray⟩ : ByteArray).size := by rw [hsz]; exact hpl
                have hby : (⟨s.toArray⟩ : ByteArray)[pos]'hps = s[pos] := rfl
                have hb4 := HSM.out _ (List.getElem_mem hpl)
                have hrun : ∀ ty, (Instr.next (.pointer (some ⟨K, 0, none⟩)) true ty).run Try.prog wr = .ok (.tuple #[.bool true, .int .i64 pos, .int .i32 ((⟨s.toArray⟩ : ByteArray)[pos]'hps).toNat]) (wr.iterAt K ⟨s.toArray⟩ (pos + 1)) := fun ty => Lib.run_next_ascii_at wr K ⟨s.toArray⟩ pos ty HI9.out hps (by rw [hby]; omega)
                have hoth : ∀ x, x ≠ K → (wr.iterAt K ⟨s.toArray⟩ (pos + 1)).heap[x]? = wr.heap[x]? := fun x hx => Lib.iterAt_other wr K x _ _ hx
                have HI10 : Hid ((wr.iterAt K ⟨s.toArray⟩ (pos + 1)).heap[K]? = some (.stringIter ⟨s.toArray⟩ (pos + 1))) := Lib.iterAt_heap wr K _ pos (pos + 1) HI9.out
                have HO10 : Hid (OnlyS (fun x => x = K) wr (wr.iterAt K ⟨s.toArray⟩ (pos + 1))) := ⟨rfl, rfl, rfl, by rw [Lib.iterAt_size]; exact Nat.le_refl _, fun x _ hx => hoth x hx⟩
                have HT10 : Hid (TrAt h (wr.iterAt K ⟨s.toArray⟩ (pos + 1)) gs4 l2 cl2) := HT9.out.onlyS HO10.out (fun x hx e => hkx (e ▸ hx)) (fun x hx => by subst hx; exact hlo8)
                have HR10 : Hid (OwnRow (wr.iterAt K ⟨s.toArray⟩ (pos + 1)) h.wc.heap.size 9 1 pfxCell (.slice (some ⟨kb, ko, none⟩) ks2.length vc2) ks2) := HR9.out.onlyS HO10.out (fun g hg e => by
                  obtain ⟨_, c, hc⟩ := HR9.out.kind hg
                  subst e
                  rw [HI9.out] at hc
                  cases hc)
                have HB10 : Hid (Below w.heap.size w (wr.iterAt K ⟨s.toArray⟩ (pos + 1))) := Lib.below_iterAt HB9.out (Nat.le_trans HWC.out hlo8) _ _
                obtain ⟨m4, hm4, hp4, hg4⟩ := HUP.out pos hpl
                have HMK := Lib.hid (make_once HT10.out hm4 hp4 (by rw [List.length_take]; omega) (by have := HLJ.out; omega))
                have HLF := Lib.hid (fun (gs' : List Nat) (w' : World) (t' : TrAt h w' gs' l2 cl2) => left_not t' hm4 hp4 (by rw [List.length_take]; omega) hg4)
                have hx1 : (⟨s.toArray⟩ : ByteArray).extract 0 pos = ⟨(s.take pos).toArray⟩ := cut_pre s pos
                have hxb : ((⟨s.toArray⟩ : ByteArray)[pos]'hps).toNat = (s[pos]).toNat := rfl
                have hpi : (pos : Int) ≤ s.length := by omega
                have hpi2 : (pos : Int) < s.length := by omega
                have HXB := Lib.hid hby
                have vc : IntKind.i64.wrap ((s[pos]).toNat : Int) = (s[pos]).toNat := IntWalk.i64_in _ (by omega)
                clear hoth hm4 hp4 hg4 hkx hb4
                generalize hWX : wr.iterAt K ⟨s.toArray⟩ (pos + 1) = W10 at *
                clear hWX
                generalize s.take pos = s1 at *
                rw [hby] at hrun
                generalize s[pos] = c at *
                clear hxb
                go_wp2_with fail
                refine HMK.out.mono ?_
                rintro r W11 ⟨gs5, rfl, ht11, ho11⟩
                have HT11 := Lib.hid ht11
                have HR11 := Lib.hid (HT10.out.rowKept ho11 HR10.out)
                have HB11 := Lib.hid (HB10.out.trans ((HT10.out.only ho11).mono HWC.out))
                have HI11 : Hid (W11.heap[K]? = some (.stringIter ⟨s.toArray⟩ (pos + 1))) := (ho11.block K (Array.getElem?_eq_some_iff.1 HI10.out).1 (HT10.out.not_iter HI10.out)).trans HI10.out
                clear ht11 ho11 HMK HI9 HT9 HR9 HB9
                go_wp2_with fail
                refine (HLF.out gs5 W11 HT11.out).mono ?_
                rintro r W12 ⟨xs, xa, xc, rfl, hxn, hxs, hx8, hb12⟩
                have HT12 := Lib.hid (HT11.out.later hb12)
                have HR12 := Lib.hid (HR11.out.later hb12)
                have HB12 := Lib.hid (HB11.out.trans (hb12.mono HB11.out.size))
                have HI12 : Hid (W12.heap[K]? = some (.stringIter ⟨s.toArray⟩ (pos + 1))) := (hb12.block K (Array.getElem?_eq_some_iff.1 HI11.out).1).trans HI11.out
                have HXS := Lib.hid hxs
                have HXN := Lib.hid hxn
                have hm9 : itPos wr K = pos := HP9.out
                clear hxn hxs hb12 HT10 HR10 HB10 HI10 HT11 HR11 HB11 HI11 HLF hrun
                go_wp2_with fail
                obtain ⟨wo, hwo⟩ : ∃ x, x = wr := ⟨_, rfl⟩
                subst hwo
                go_loopw [120] (fun i w4 => ∃ q : Nat, q ≤ xs.length ∧ i = .int .i64 q ∧ Hid (Below W12.heap.size W12 w4)) (fun i _ => xs.length - (intOf i).toNat)
                case atStart => exact ⟨0, Nat.zero_le _, rfl, Below.refl _ _⟩
                case round =>
                  obtain ⟨q, hq, rfl, HQ⟩ := hrel
                  by_cases hql : q < xs.length
                  · obtain ⟨xb, xo, rfl, hcx⟩ := HXN.out.2 (by intro e; rw [e] at hql; exact absurd hql (Nat.not_lt_zero _))
                    have d1 := cell_later HQ.out (hcx q hql)
                    have hne := HXS.out q hql
                    clear hcx
                    generalize xs[q] = y at *
                    go_wp2
                    go_roundw
                    case rel => exact ⟨q + 1, by omega, by go_num, HQ.out⟩
                    case measure => simp [intOf]; omega
                  · obtain rfl : q = xs.length := by omega
                    have HT13 := Lib.hid (HT12.out.later HQ.out)
                    have HR13 := Lib.hid (HR12.out.later HQ.out)
                    have HB13 := Lib.hid (HB12.out.trans (HQ.out.mono HB12.out.size))
                    have HI13 : Hid (wr.heap[K]? = some (.stringIter ⟨s.toArray⟩ (pos + 1))) := (HQ.out.block K (Array.getElem?_eq_some_iff.1 HI12.out).1).trans HI12.out
                    have hm13 : itPos wr K = pos + 1 := by unfold itPos; rw [HI13.out]
                    go_wp2
                    go_roundw
                    case rel => exact ⟨pos + 1, gs5, by omega, HI13, HT13, HR13, HB13⟩
                    case measure => rw [hm13, hm9]; omega
              · have hrun : ∀ ty, (Instr.next (.pointer (some ⟨K, 0, none⟩)) true ty).run Try.prog wr = .ok (.tuple #[.bool false]) wr := fun ty => Lib.run_next_end_at wr K ⟨s.toArray⟩ pos ty HI9.out (by rw [hsz]; omega)
                go_wp2
                go_roundw
                case rel => exact ⟨m + 1, gs4, by omega, by go_num, HT9, HR9, HB9⟩
                case measure => simp [intOf]; omega
          · obtain rfl : m = ks2.length := by omega
            have HIN : Hid (RowsI h w (j + 1) (.slice va2 ks2.length vc2) wr) := ⟨gs3, l2, cl2, HLJ.out, HCJ.out.1, HCJ.out.2, HT.out, HU.out, H40.out, by rw [← HKS.out]; exact HR.out, HB.out⟩
            go_wp2
            go_roundw
            case rel => exact ⟨j + 1, by omega, by go_num, HIN⟩
            case measure => simp [intOf]; omega
    · obtain rfl : j = ol.length := by omega
      obtain ⟨gs, l, cl, hlj, _, _, ht, _, _, hrow, hbw⟩ := HI.out
      obtain ⟨ks, hks⟩ : ∃ ks, ks = l.map TNd.pre := ⟨_, rfl⟩
      have hkl : l.length = ks.length := by rw [hks, List.length_map]
      rw [← hks] at hrow
      obtain ⟨va, vc, rfl, _⟩ := OwnRow.form hrow pfxCell_len (by omega)
      have HL := Lib.hid (lenT_lit ht (ks.length : Int) (by rw [hkl]))
      have HB := Lib.hid hbw
      clear ht hrow hbw hks hkl hlj HI
      go_wp2_with fail
      refine HL.out.mono ?_
      rintro r w' ⟨rfl, rfl⟩
      go_wp2
      go_ret
      exact ⟨by simp, HB.out⟩

end Go.Proofs.Ytnldkmcijmbhcaa

/-
  TreeRows: where a node stands its prefix can be done, and all its beginnings have nodes, each gone into by the next thread: the law answers true, and its arguments read as they did.
  For every input, whatever its size and however its parts share memory; nothing is asked of it but what the statement's own form asks.
-/
namespace Go.Proofs.Ytnldkmcijmbhcaa.treeRows
open Go.ChangeShapes Go.WideShapes Go.ChangeAt Go.RowKit

theorem own : ownKnob Try.prog.godebug = none := by kernel_rfl
theorem laidOut : laidOutB Try.prog = true := by kernel_rfl

set_option maxRecDepth 100000 in
theorem lifted (os : Os) (started : os.Started) (H : Type) (enc : TypeId × Value → H) :
    ReturnsInHanded {} Try.checked os 6 .any (Rows.treeRowsSpec.pre6 enc Try.prog Try.f6 Rows.treeRowsRow.domain false) (Rows.treeRowsSpec.post enc Try.prog Try.f6 false true false false) := by
  refine returnsInHanded_of_change (C := Try.checked) own started (by kernel_rfl) Try.func6
    (ChangeSpec.witness6 (enc := enc) (C := Try.checked) false ⟨#[], #[.agg #[.int .i64 0, .int .i64 0, .slice none 0 0], .int .i64 0, .slice none 0 0], []⟩ 8 (by kernel_rfl) (by kernel_rfl) (by kernel_rfl) (by kernel_rfl)) ?_
  intro W base args ds gs before hval0 hW hcnd _
  have hval : ∀ (j : Nat) t v, Try.f6.params[j]? = some t → args[j]? = some v → Value.okWide Try.prog W .any base t v := hval0
  have hW' := hW
  obtain ⟨p, q, hA0, hV, rfl, hfz, hnd⟩ := hW
  have hA : DataW.TrodAll enc Try.prog W 0 (fun _ => true) true Try.f6.params.toList args.toList ds p := hA0
  rw [Try.params6] at hA hval
  obtain ⟨v0, vs0, d0, ds0, p0, q0, hargs, rfl, rfl, h0, r0⟩ := trodAll_cons hA
  obtain ⟨v1, vs1, d1, ds1, p1, q1, rfl, rfl, rfl, h1, r1⟩ := trodAll_cons r0
  obtain ⟨v2, vs2, d2, ds2, p2, q2, rfl, rfl, rfl, h2, r2⟩ := trodAll_cons r1
  obtain ⟨rfl, rfl, rfl⟩ := trodAll_nil r2
  obtain rfl : args = #[v0, v1, v2] := by cases args; simp_all
  obtain ⟨rfl, rfl⟩ := trodVars_none hV
  have k0 := h0
  have lt0 : ∀ x ∈ p0, x.block < W.heap.size := by obtain ⟨m, hm⟩ := k0; exact DataW.trod_lt m _ _ _ hm
  have k1 := h1
  have lt1 : ∀ x ∈ p1, x.block < W.heap.size := by obtain ⟨m, hm⟩ := k1; exact DataW.trod_lt m _ _ _ hm
  have k2 := h2
  have lt2 : ∀ x ∈ p2, x.block < W.heap.size := by obtain ⟨m, hm⟩ := k2; exact DataW.trod_lt m _ _ _ hm
  obtain ⟨pg0, a0, cap0, rfl, hx0, hn0⟩ := prog_of_trod (hval 0 24 v0 rfl rfl) h0
  obtain ⟨n1, rfl, hx1⟩ := int_of_trod (hval 1 3 v1 rfl rfl) h1
  obtain ⟨a2, l2, cap2, rfl, hx2, hr2⟩ := ops_of_trod (hval 2 25 v2 rfl rfl) h2
  clear hA0 hval0
  refine (treeRows_any pg0 a0 cap0 n1 a2 l2 cap2 W hx0 hn0 hx2 hr2).mono fun e W' ⟨he, bel⟩ => ?_
  subst he
  exact ⟨_, rfl, _, _, _, [], _, [], hW', trodAll_mk1 (shut_bool Try.underlying4 _), (trodAll_cons_mk (Below.trod laidOut (by kernel_rfl) (of_decide_eq_true (by kernel_rfl)) k0 bel lt0) (trodAll_cons_mk (Below.trod laidOut (by kernel_rfl) (of_decide_eq_true (by kernel_rfl)) k1 bel lt1) (trodAll_cons_mk (Below.trod laidOut (by kernel_rfl) (of_decide_eq_true (by kernel_rfl)) k2 bel lt2) trodAll_mk0))), rfl, bel.frame _, fun h => by cases h⟩

theorem over : Rows.treeRowsRow.holds Try.pinned (OpenSpec.ofChange Rows.treeRowsSpec) :=
  OpenClaim.holds_of_wide 6 Try.f6 rfl rfl rfl rfl rfl rfl rfl ⟨rfl, rfl, rfl, rfl, rfl⟩ rfl rfl rfl rfl rfl (by kernel_rfl) Try.func6 (by kernel_rfl)
    (of_decide_eq_true (by kernel_rfl)) (by unfold Func.isWrapper; first | (rw [if_pos (by decide +kernel)]; kernel_rfl) | (rw [if_neg (by decide +kernel)]; exact ⟨rfl, rfl⟩))
    (fun os started H enc _ => lifted os started H enc)

theorem proved : Rows.TreeRowsSaid := over
end Go.Proofs.Ytnldkmcijmbhcaa.treeRows
