/-
  SeqTurned: a program whose threads stand the other way round has as many runs, whatever the orders: the law answers true, and its arguments read as they did.
  For every input, whatever its size and however its parts share memory; nothing is asked of it but what the statement's own form asks.
-/
import Derived.OwnWalk
import Derived.Deep.RegionLaw
import Derived.Deep.DeepCutAuto
import Derived.IntWalk
import Derived.SizedLaws
import Derived.WalkKit
import Derived.ProofKit
import Derived.OpenShut
import Derived.Test.YtnldkmcijmbhcaaGreatRows
import Derived.Test.YtnldkmcijmbhcaaGreatPk01
import Derived.Test.YtnldkmcijmbhcaaGreatPk05
import Derived.Test.YtnldkmcijmbhcaaGreatPk22
import Derived.Test.YtnldkmcijmbhcaaGreatPk23

/- A program whose threads stand the other way round, in memory. -/
namespace Go.Proofs.YtnldkmcijmbhcaaGreat
open Go.RowKit

/-- A thread's slice, as it lies, and the code behind it. -/
def SlOf (w : World) (l : List Ins) (x : Sl) : Prop := x.n = l.length ∧ CodeAt w x.a l ∧ (x.a = none → x.c = 0)
theorem threads_sl {w : World} {a : Option Addr} {ts : List (List Ins)} (h : ThreadsAt w a ts) (hne : ts ≠ []) : ∃ b o, a = some ⟨b, o, none⟩ ∧ ∃ S : List Sl, S.length = ts.length ∧ ∀ i x, S[i]? = some x → ∃ hi : i < ts.length, w.cell? ⟨b, o + i, none⟩ = some (.slice x.a x.n x.c) ∧ SlOf w ts[i] x := by
  obtain ⟨b, o, rfl, hc⟩ := h.2 hne
  refine ⟨b, o, rfl, ?_⟩
  obtain ⟨S, h1, h2⟩ := exists_list ts.length (fun i (x : Sl) => ∃ hi : i < ts.length, w.cell? ⟨b, o + i, none⟩ = some (.slice x.a x.n x.c) ∧ SlOf w ts[i] x) (fun i hi => by
    obtain ⟨c, cap, g1, g2, g3⟩ := hc i hi
    exact ⟨⟨c, ts[i].length, cap⟩, hi, g1, rfl, g2, g3⟩)
  exact ⟨S, h1, h2⟩
theorem SlOf.later {w w' : World} {l : List Ins} {x : Sl} (h : SlOf w l x) (hb : Below w.heap.size w w') : SlOf w' l x := ⟨h.1, h.2.1.later hb, h.2.2⟩
theorem threads_rev {w : World} {a : Option Addr} {ts : List (List Ins)} {S : List Sl} (hm : ts.length ≤ 1000) (hl : S.length = ts.length) (hS : ∀ i x, S[i]? = some x → ∃ hi : i < ts.length, SlOf w ts[i] x) (hr : RowAt w a 1 slCell S.reverse) : ThreadsAt w a ts.reverse := by
  refine ⟨by rw [List.length_reverse]; unfold maxLen; omega, fun hne => ?_⟩
  obtain ⟨b, o, rfl, hc⟩ := hr.2 (by intro e; apply hne; rw [List.reverse_eq_nil_iff] at e ⊢; rw [e] at hl; exact List.length_eq_zero_iff.1 hl.symm)
  refine ⟨b, o, rfl, fun i hi => ?_⟩
  rw [List.length_reverse] at hi
  have hj : i < S.reverse.length := by rw [List.length_reverse]; omega
  have h1 := hc i hj 0 _ rfl
  rw [Nat.mul_one, Nat.add_zero] at h1
  have h2 : S[ts.length - 1 - i]? = some (S.reverse[i]) := by
    rw [List.getElem_reverse, List.getElem?_eq_getElem (by omega)]
    congr 2
    omega
  obtain ⟨hi2, g1, g2, g3⟩ := hS _ _ h2
  have e : ts.reverse[i]'(by rw [List.length_reverse]; exact hi) = ts[ts.length - 1 - i] := by rw [List.getElem_reverse]
  rw [e]
  exact ⟨S.reverse[i].a, S.reverse[i].c, by rw [h1, g1], g2, g3⟩
/-- The program that is built, in its block. -/
def QAt (w : World) (Q : Nat) (V M : Int) (tv : Value) : Prop := w.heap[Q]? = some (.cells #[.int .i64 V, .int .i64 M, tv] 24 (0, 0))
theorem QAt.later {w w' : World} {Q : Nat} {V M : Int} {tv : Value} (h : QAt w Q V M tv) (hb : Below w.heap.size w w') : QAt w' Q V M tv := (hb.block Q (Array.getElem?_eq_some_iff.1 h).1).trans h
theorem QAt.cells {w : World} {Q : Nat} {V M : Int} {tv : Value} (h : QAt w Q V M tv) : (w.cell? ⟨Q, 0, none⟩ = some (.int .i64 V) ∧ w.cell? ⟨Q, 1, none⟩ = some (.int .i64 M) ∧ w.cell? ⟨Q, 2, none⟩ = some tv) ∧ w.frozen? ⟨Q, 2, none⟩ = false ∧ Q < w.heap.size := by
  have hc : ∀ j, w.cell? ⟨Q, j, none⟩ = (#[.int .i64 V, .int .i64 M, tv] : Array Value)[j]? := fun j => by
    unfold World.cell?
    dsimp only
    rw [show w.heap[Q]? = _ from h]
    rfl
  refine ⟨⟨hc 0, hc 1, hc 2⟩, ?_, (Array.getElem?_eq_some_iff.1 h).1⟩
  unfold World.frozen?
  dsimp only
  rw [show w.heap[Q]? = _ from h]
  rfl
theorem QAt.kept {w w' : World} {Q B : Nat} {V M : Int} {tv : Value} (h : QAt w Q V M tv) (hb : Below B w w') (hQ : Q < B) : QAt w' Q V M tv := (hb.block Q hQ).trans h
theorem QAt.set {w : World} {Q : Nat} {V M : Int} {tv : Value} (h : QAt w Q V M tv) (v : Value) : QAt (w.setCell ⟨Q, 2, none⟩ v) Q V M v := by
  unfold QAt
  rw [heap_setCell_same w Q 2 _ _ _ h]
  rfl
theorem infoSlI : (Tryz.prog.info? 44).map (fun i => (i.zero, i.size, i.bytes)) = some (some (.slice none 0 0), 1, 24) := by kernel_rfl
/-- One thread more behind those that are turned. -/
theorem turn_step {w W w' : World} {Q B k : Nat} {V M : Int} {tv v : Value} {S : List Sl} {x : Sl} (hq : QAt W Q V M tv) (hQB : Q < B) (hB : B ≤ W.heap.size) (hbw : Below Q w W) (ho : OwnRow w' B 44 1 slCell v (S.reverse.take k ++ [x])) (hb : Below B W w') (hx : S.reverse[k]? = some x) :
    OwnRow (w'.setCell ⟨Q, 2, none⟩ v) B 44 1 slCell v (S.reverse.take (k + 1)) ∧ QAt (w'.setCell ⟨Q, 2, none⟩ v) Q V M v ∧ Below Q w (w'.setCell ⟨Q, 2, none⟩ v) ∧ B ≤ (w'.setCell ⟨Q, 2, none⟩ v).heap.size := by
  have hq' : QAt w' Q V M tv := (hb.block Q hQB).trans hq
  have e : S.reverse.take (k + 1) = S.reverse.take k ++ [x] := by
    obtain ⟨hk, hx'⟩ := List.getElem?_eq_some_iff.1 hx
    rw [List.take_succ_eq_append_getElem hk, hx']
  refine ⟨?_, hq'.set v, ?_, ?_⟩
  · rw [e]
    exact ownsRow_setCell_below (a := ⟨Q, 2, none⟩) ho hQB _
  · exact (hbw.trans (hb.mono (by omega))).setCell (p := ⟨Q, 2, none⟩) (Nat.le_refl _) _
  · have := hb.size
    simp [World.setCell]
    omega
end Go.Proofs.YtnldkmcijmbhcaaGreat

/- The law SeqTurned, walked. -/
namespace Go.Proofs.YtnldkmcijmbhcaaGreat
open Go.RowKit

theorem turned_facts (p : Pg) (fuel : Int) (o o' : List Int) (hok : okPg p fuel) (hle : preW p fuel ≤ 600) : (endX (s0 p fuel) o 600).runs = (endX (s0 (flipP p) fuel) o' 600).runs ∧ anyX (endX (s0 p fuel) o 600) = false ∧ anyX (endX (s0 (flipP p) fuel) o' 600) = false := end_turned hok (by omega) (by omega)

set_option maxRecDepth 100000 in
set_option maxHeartbeats 16000000 in
theorem seqTurned_any (p : Pg) (a : Option Addr) (cap : Nat) (fuel : Int) (oa : Option Addr) (ns : List Int) (oc : Nat) (ob : Option Addr) (ms : List Int) (od : Nat) (w : World) (hp : ThreadsAt w a p.threads) (hord : BytesAt w oa ns) (hon : oa = none → oc = 0 ∧ ns = []) (hbs : ∀ n ∈ ns, 0 ≤ n ∧ n < 256)
    (hord' : BytesAt w ob ms) (hon' : ob = none → od = 0 ∧ ms = []) (hbs' : ∀ n ∈ ms, 0 ≤ n ∧ n < 256) (hna : ns.length ≤ 140737488351232) (hnb : ms.length ≤ 140737488351232) :
    Calls Tryz.prog 5 #[.agg #[.int .i64 p.vars, .int .i64 p.mutexes, .slice a p.threads.length cap], .int .i64 fuel, .slice oa ns.length oc, .slice ob ms.length od] w fun r w' => r = .returned (.bool true) ∧ Below w.heap.size w w' := by
  have HP := Lib.hid hp
  have HBX : Hid (∀ W, Below (w.alloc (.cells #[.int .i64 p.vars, .int .i64 p.mutexes, .slice a p.threads.length cap] 24)).heap.size (w.alloc (.cells #[.int .i64 p.vars, .int .i64 p.mutexes, .slice a p.threads.length cap] 24)) W → W.cell? ⟨w.heap.size, 0, none⟩ = some (.int .i64 p.vars) ∧ W.cell? ⟨w.heap.size, 1, none⟩ = some (.int .i64 p.mutexes) ∧ W.cell? ⟨w.heap.size, 2, none⟩ = some (.slice a p.threads.length cap)) := fun W hb => ⟨cell_later hb (by simp), cell_later hb (by simp), cell_later hb (by simp)⟩
  have hb1 : Below w.heap.size w (w.alloc (.cells #[.int .i64 p.vars, .int .i64 p.mutexes, .slice a p.threads.length cap] 24)) := below_alloc1 w _
  have HORD := Lib.hid hord
  have HON := Lib.hid hon
  have HBS := Lib.hid hbs
  have HORD2 := Lib.hid hord'
  have HON2 := Lib.hid hon'
  have HBS2 := Lib.hid hbs'
  clear hp hord hon hbs hord' hon' hbs'
  have hsum : IntKind.i64.wrap ((ns.length : Int) + (ms.length : Int)) = (ns.length : Int) + (ms.length : Int) := IntWalk.i64_in _ (by omega)
  go_enter Tryz.func5, Tryz.ntmps5
  go_wp2_with fail
  generalize w.alloc (.cells #[.int .i64 p.vars, .int .i64 p.mutexes, .slice a p.threads.length cap] 24) = W1 at *
  refine (awake9_any W1).mono ?_
  rintro r W2 ⟨rfl, hb2⟩
  obtain ⟨c0, c1, c2⟩ := HBX.out W2 hb2
  have hb3 := hb1.trans (hb2.mono hb1.size)
  go_wp2_with fail
  refine (small_any p a cap fuel W2 (HP.out.later hb3)).mono ?_
  rintro r W3 ⟨rfl, hb4⟩
  have hb5 := hb2.trans (hb4.mono hb2.size)
  have hb6 := hb3.trans (hb4.mono hb3.size)
  clear c0 c1 c2 hb2 hb3 hb4
  cases hf : smallPg p fuel
  · clear hf
    go_wp2_with fail
    refine (awake9_any _).mono ?_
    rintro r w3 ⟨rfl, hb3⟩
    go_wp2
    go_ret
    exact ⟨rfl, hb6.trans (hb3.mono hb6.size)⟩
  obtain ⟨_, hok, hle⟩ := small_yes hf
  clear hf
  by_cases hl : 500 < ns.length + ms.length
  · have hli : (500 : Int) < (ns.length : Int) + (ms.length : Int) := by omega
    go_wp2_with fail
    refine (awake9_any _).mono ?_
    rintro r w3 ⟨rfl, hb3⟩
    go_wp2
    go_ret
    exact ⟨rfl, hb6.trans (hb3.mono hb6.size)⟩
  have hli : ¬ (500 : Int) < (ns.length : Int) + (ms.length : Int) := by omega
  have hlen : ns.length ≤ 500 := by omega
  have hlen' : ms.length ≤ 500 := by omega
  obtain ⟨tok, tpre, _, _, _⟩ := turned_all hok
  have hp4 : 1 ≤ p.threads.length ∧ p.threads.length ≤ 4 := by
    have h := hok.1
    unfold rightPg at h
    rw [Bool.and_eq_true, decide_eq_true_eq] at h
    omega
  obtain ⟨hp1, hp4⟩ := hp4
  have hfl : (flipP p).threads.length = p.threads.length := List.length_reverse
  have HFX : Hid ((endX (s0 p fuel) ns 600).runs = (endX (s0 (flipP p) fuel) ms 600).runs ∧ anyX (endX (s0 p fuel) ns 600) = false ∧ anyX (endX (s0 (flipP p) fuel) ms 600) = false) := turned_facts p fuel ns ms hok hle
  have hle2 : preW (flipP p) fuel ≤ 600 := by omega
  have HEX : Hid (∀ a9 cap9 av ac W, ThreadsAt W a9 p.threads.reverse → BytesAt W av ms → (∀ x, av = some x → x.block < W.heap.size) → Calls Tryz.prog 10 #[.agg #[.int .i64 p.vars, .int .i64 p.mutexes, .slice a9 p.threads.length cap9], .int .i64 fuel, .int .i64 600, .slice av ms.length ac] W fun r w' => ∃ ka kc, r = .returned (.tuple #[.agg #[.slice ka (endX (s0 (flipP p) fuel) ms 600).runs kc, .int .i64 ((endX (s0 (flipP p) fuel) ms 600).nodes : Nat), .int .i64 ((endX (s0 (flipP p) fuel) ms 600).runs : Nat), .int .i64 ((endX (s0 (flipP p) fuel) ms 600).blocked : Nat), .bool (!anyX (endX (s0 (flipP p) fuel) ms 600))], .int .i64 0]) ∧ OwnRow w' W.heap.size 9 1 strCell (.slice ka (endX (s0 (flipP p) fuel) ms 600).runs kc) (sortK (endX (s0 (flipP p) fuel) ms 600).keys) ∧ Below W.heap.size W w') := fun a9 cap9 av ac W h1 h2 h3 => by
    have h := explore_yes (flipP p) a9 cap9 fuel 600 av ac ms W h1 h2 h3 HBS2.out (by omega) tok hle2
    rw [hfl] at h
    exact h
  clear tpre hfl
  obtain ⟨b, o, rfl, S, hSl, hS⟩ := threads_sl HP.out (by intro e; rw [e] at hp1; simp at hp1)
  have HS := Lib.hid hS
  have HSL := Lib.hid hSl
  clear hS hSl
  obtain ⟨c0, c1, c2⟩ := HBX.out W3 hb5
  have hq0 : QAt (W3.alloc (.cells #[.int .i64 p.vars, .int .i64 p.mutexes, .slice none 0 0] 24)) W3.heap.size p.vars p.mutexes (.slice none 0 0) := heap_alloc_new _ _
  have HQ3 := Lib.hid hq0
  have HB3 : Hid (Below W3.heap.size W3 (W3.alloc (.cells #[.int .i64 p.vars, .int .i64 p.mutexes, .slice none 0 0] 24))) := below_alloc1 _ _
  have hz3 : (W3.alloc (.cells #[.int .i64 p.vars, .int .i64 p.mutexes, .slice none 0 0] 24)).heap.size = W3.heap.size + 1 := World.size_alloc _ _
  obtain ⟨d0, d1, d2⟩ := HBX.out _ (hb5.trans (HB3.out.mono hb5.size))
  have hsl2 : S.reverse.length = p.threads.length := by rw [List.length_reverse]; exact HSL.out
  have HSR := Lib.hid hsl2
  clear hq0 hsl2
  go_wp2_with fail
  generalize W3.alloc (.cells #[.int .i64 p.vars, .int .i64 p.mutexes, .slice none 0 0] 24) = W5 at *
  clear c0 c1 c2 d0 d1 d2
  go_loopw [40] (fun i wr => ∃ (k : Nat) (tv : Value), k ≤ p.threads.length ∧ i = .int .i64 k ∧ Hid (OwnRow wr (W3.heap.size + 1) 44 1 slCell tv (S.reverse.take k)) ∧ Hid (QAt wr W3.heap.size p.vars p.mutexes tv) ∧ Hid (Below W3.heap.size W3 wr) ∧ W3.heap.size + 1 ≤ wr.heap.size) (fun i _ => p.threads.length - (intOf i).toNat)
  case atStart => exact ⟨0, .slice none 0 0, Nat.zero_le _, rfl, ownRow_nil _ _ _ _ _, HQ3.out, HB3.out, by show _ ≤ W5.heap.size; omega⟩
  case round =>
    clear HQ3 HB3
    obtain ⟨k, tv, hk, rfl, HO, HQ, HB, hzr⟩ := hrel
    have hbw := hb6.trans (HB.out.mono hb6.size)
    obtain ⟨c0, c1, c2⟩ := HBX.out wr (hb5.trans (HB.out.mono hb5.size))
    obtain ⟨⟨q0, q1, q2⟩, qf, hql⟩ := HQ.out.cells
    by_cases hlt : k < p.threads.length
    · obtain ⟨x, hx⟩ : ∃ x, S.reverse[k]? = some x := ⟨_, List.getElem?_eq_getElem (by rw [HSR.out]; exact hlt)⟩
      have HX := Lib.hid hx
      obtain ⟨m, hm⟩ : ∃ m : Nat, m = p.threads.length - 1 - k := ⟨_, rfl⟩
      have hx2 : S[m]? = some x := by
        rw [List.getElem?_reverse (by rw [HSL.out]; exact hlt), HSL.out, ← hm] at hx
        exact hx
      obtain ⟨_, hcell, _⟩ := HS.out m x hx2
      have d0 := cell_later hbw hcell
      obtain ⟨xa, xn, xc⟩ := x
      dsimp only at d0
      have hm1 : (p.threads.length : Int) - 1 - (k : Int) = (m : Int) := by omega
      have hm2 : IntKind.i64.wrap ((p.threads.length : Int) - 1) = (p.threads.length : Int) - 1 := IntWalk.i64_in _ (by omega)
      have hm3 : IntKind.i64.wrap (m : Int) = m := IntWalk.i64_in _ (by omega)
      have hml : m < p.threads.length := by omega
      have HLK : Hid ((S.reverse.take k).length = k) := by show _ = _; rw [List.length_take, HSR.out]; omega
      have hba := below_alloc1 wr (.cells #[.slice xa xn xc] 44)
      have hc2a := cell_later hba c2
      have hq2a := cell_later hba q2
      have hd0a := cell_later hba d0
      have HQA : Hid (QAt (wr.alloc (.cells #[.slice xa xn xc] 44)).drew W3.heap.size p.vars p.mutexes tv) := HQ.out.later hba.drew
      have HBA : Hid (Below W3.heap.size W3 (wr.alloc (.cells #[.slice xa xn xc] 44)).drew) := (HB.out.alloc HB.out.size _).drew
      have hza : (wr.alloc (.cells #[.slice xa xn xc] 44)).heap.size = wr.heap.size + 1 := World.size_alloc _ _
      clear hx hx2 hcell hm c0 c1 q0 q1 qf
      go_wp2_with fail
      go_region_law ((refine step_appendAt (f := slCell) (n := 1) 22 44 24 (.slice none 0 0) Tryz.underlying22 infoSlI (by rfl) (by omega) (by omega) slCell_len (by rfl) _ _ (by rfl) (W3.heap.size + 1) _ (S.reverse.take k) (by rfl) (OwnRow.alloc HO.out _) ⟨wr.heap.size, 0, none⟩ (by rfl) ⟨xa, xn, xc⟩ (slCell_one _) (cells_new wr (slCell ⟨xa, xn, xc⟩) _ _ rfl) (by rw [HLK.out]; omega) (by simp; omega) ?_; intro v9 w9 hown9 hb9 _ _; obtain ⟨g9, cap9, hv9, _, _⟩ := OwnRow.block hown9 (by simp); rw [List.length_append, List.length_singleton, HLK.out] at hv9; subst hv9; have HT9 := Lib.hid (turn_step (W := (wr.alloc (.cells #[.slice xa xn xc] 44)).drew) HQA.out (Nat.lt_succ_self _) (by show _ ≤ (wr.alloc (.cells #[.slice xa xn xc] 44)).heap.size; omega) HBA.out hown9 hb9 HX.out); have hq9 : w9.cell? ⟨W3.heap.size, 2, none⟩ = some tv := (QAt.cells (HQA.out.kept hb9 (Nat.lt_succ_self _))).1.2.2; have hf9 : w9.frozen? ⟨W3.heap.size, 2, none⟩ = false := (QAt.cells (HQA.out.kept hb9 (Nat.lt_succ_self _))).2.1; clear hown9 hb9))
      all_goals go_wp2_with fail
      all_goals go_roundw
      all_goals first
        | exact ⟨k + 1, _, by omega, by go_num, HT9.out.1, HT9.out.2.1, HT9.out.2.2.1, HT9.out.2.2.2⟩
        | (simp [intOf]; omega)
    · obtain rfl : k = p.threads.length := by omega
      have hlk : S.reverse.take p.threads.length = S.reverse := by rw [← HSR.out, List.take_length]
      have ho := HO.out
      rw [hlk] at ho
      obtain ⟨a9, cap9, rfl, hrow, _⟩ := OwnRow.form ho slCell_len (by rw [HSR.out]; omega)
      have hRT : ThreadsAt wr a9 p.threads.reverse := threads_rev (by omega) HSL.out (fun i x h => by obtain ⟨hi, _, h2⟩ := HS.out i x h; exact ⟨hi, h2.later hbw⟩) hrow
      have HRT := Lib.hid hRT
      rw [HSR.out] at q2 HQ
      have hbx5 := hb5.trans (HB.out.mono hb5.size)
      have HC : Hid (∀ W, Below wr.heap.size wr W → W.cell? ⟨w.heap.size, 0, none⟩ = some (.int .i64 p.vars) ∧ W.cell? ⟨w.heap.size, 1, none⟩ = some (.int .i64 p.mutexes) ∧ W.cell? ⟨w.heap.size, 2, none⟩ = some (.slice (some ⟨b, o, none⟩) p.threads.length cap)) := fun W hb => HBX.out W (hbx5.trans (hb.mono hbx5.size))
      have HROW : Hid (∀ W, Below wr.heap.size wr W → RowAt W oa 1 byteCell ns) := fun W hb => bytes_row (HORD.out.later (hbw.trans (hb.mono hbw.size)))
      have HPW : Hid (∀ W, Below wr.heap.size wr W → ThreadsAt W (some ⟨b, o, none⟩) p.threads) := fun W hb => HP.out.later (hbw.trans (hb.mono hbw.size))
      clear hrow hRT ho hlk q0 q1 q2 qf c0 c1 c2
      go_upto_region 9 with (fail)
      go_cut [11, 12] (fun s9 s10 wx => ExpAt p fuel 600 ns wr s9 s10 wx)
      case first =>
        go_wp2_with fail
        go_region_held3 (fun W => W.cell? ⟨w.heap.size, 0, none⟩ = some (.int .i64 p.vars) ∧ W.cell? ⟨w.heap.size, 1, none⟩ = some (.int .i64 p.mutexes) ∧ W.cell? ⟨w.heap.size, 2, none⟩ = some (.slice (some ⟨b, o, none⟩) p.threads.length cap))
          (first | with_reducible exact HC.out _ hB8 | with_reducible exact HC.out _ hB7 | with_reducible exact HC.out _ (hB8.alloc hB8.size _) | with_reducible exact HC.out _ (hB7.alloc hB7.size _) | with_reducible exact HC.out _ (below_setR5 hB8 (by first | omega | exact Nat.le_refl _) _ _ _ _ _) | with_reducible exact HC.out _ (Below.refl _ _).drew | with_reducible exact HC.out _ (below_alloc1 wr _).drew | with_reducible exact HC.out _ (below_alloc2 wr _ _).drew)
          (first
            | ((first | with_reducible refine step_world ((wr.alloc (.cells #[] 5)).drew) ?_); refine step_copyR 25 5 1 (.int .u8 0) Tryz.underlying25 infoU8 (by rfl) (by omega) (by omega) byteCell_len byteCell_one (by rfl) (.tmp 62) (.tmp 63) (by rfl) wr.heap.size _ [] (by rfl) (lit_a wr) oa oc ns (by rfl) (HROW.out _ (below_alloc1 wr (.cells #[] 5)).drew) HON.out (by simp only [List.length_nil]; omega) (by simp <;> omega) ?_; intro v1 w6 hown hb hgr; obtain ⟨av, ac, hav, hby, hlt⟩ := own_bytes hown (by simp only [List.nil_append]; omega); rw [List.nil_append] at hav hby; subst hav; have HBY := Lib.hid (And.intro hby hlt); have hB7 : Below wr.heap.size wr w6 := Below.trans (below_alloc1 wr (.cells #[] 5)).drew hb; have hz7 := hB7.size; have HT6 : Hid True := trivial; clear hown hb hby hlt)
            | ((first | with_reducible refine step_world (((wr.alloc (.cells #[] 5)).alloc (.cells #[.slice none 0 0, .int .i64 0, .int .i64 0, .int .i64 0, .bool false] 35)).drew) ?_); refine step_copyR 25 5 1 (.int .u8 0) Tryz.underlying25 infoU8 (by rfl) (by omega) (by omega) byteCell_len byteCell_one (by rfl) (.tmp 62) (.tmp 63) (by rfl) wr.heap.size _ [] (by rfl) (lit_b wr) oa oc ns (by rfl) (HROW.out _ (below_alloc2 wr (.cells #[] 5) (.cells #[.slice none 0 0, .int .i64 0, .int .i64 0, .int .i64 0, .bool false] 35)).drew) HON.out (by simp only [List.length_nil]; omega) (by simp <;> omega) ?_; intro v1 w6 hown hb hgr; obtain ⟨av, ac, hav, hby, hlt⟩ := own_bytes hown (by simp only [List.nil_append]; omega); rw [List.nil_append] at hav hby; subst hav; have HBY := Lib.hid (And.intro hby hlt); have hB7 : Below wr.heap.size wr w6 := Below.trans (below_alloc2 wr (.cells #[] 5) (.cells #[.slice none 0 0, .int .i64 0, .int .i64 0, .int .i64 0, .bool false] 35)).drew hb; have hz7 := hB7.size; have HT6 := Lib.hid (rep_b6 hgr); clear hown hb hby hlt)
            | ((first | with_reducible refine step_world (((wr.alloc (.cells #[.slice none 0 0, .int .i64 0, .int .i64 0, .int .i64 0, .bool false] 35)).alloc (.cells #[] 5)).drew) ?_); refine step_copyR 25 5 1 (.int .u8 0) Tryz.underlying25 infoU8 (by rfl) (by omega) (by omega) byteCell_len byteCell_one (by rfl) (.tmp 62) (.tmp 63) (by rfl) wr.heap.size _ [] (by rfl) (lit_c wr) oa oc ns (by rfl) (HROW.out _ (below_alloc2 wr (.cells #[.slice none 0 0, .int .i64 0, .int .i64 0, .int .i64 0, .bool false] 35) (.cells #[] 5)).drew) HON.out (by simp only [List.length_nil]; omega) (by simp <;> omega) ?_; intro v1 w6 hown hb hgr; obtain ⟨av, ac, hav, hby, hlt⟩ := own_bytes hown (by simp only [List.nil_append]; omega); rw [List.nil_append] at hav hby; subst hav; have HBY := Lib.hid (And.intro hby hlt); have hB7 : Below wr.heap.size wr w6 := Below.trans (below_alloc2 wr (.cells #[.slice none 0 0, .int .i64 0, .int .i64 0, .int .i64 0, .bool false] 35) (.cells #[] 5)).drew hb; have hz7 := hB7.size; have HT6 := Lib.hid (rep_c6 hgr); clear hown hb hby hlt)
            | (go_at_call 10; ((with_reducible refine (explore_yes p (some ⟨b, o, none⟩) cap fuel 600 av ac ns w6 (HPW.out _ hB7) HBY.out.1 HBY.out.2 HBS.out (by omega) hok hle).mono ?_); rintro r w7 ⟨ka, kc, rfl, hrow, hb⟩; have HR7 := Lib.hid hrow; have hB8 := hB7.trans (hb.mono hB7.size); (first | (have HT7 := Lib.hid (HT6.out.later hb); obtain ⟨⟨x0, x1, x2, x3, x4⟩, f⟩ := HT7.out.five; have f0 := f 0 (by omega); have f1 := f 1 (by omega); have f2 := f 2 (by omega); have f3 := f 3 (by omega); have f4 := f 4 (by omega); clear f) | skip); clear hrow hb))
            | (go_at_call 10; ((with_reducible refine (explore_yes p (some ⟨b, o, none⟩) cap fuel 600 av ac ns (w6.alloc (.cells #[.slice none 0 0, .int .i64 0, .int .i64 0, .int .i64 0, .bool false] 35)) (HPW.out _ (hB7.alloc hB7.size (.cells #[.slice none 0 0, .int .i64 0, .int .i64 0, .int .i64 0, .bool false] 35))) (HBY.out.1.later (below_alloc1 w6 _)) (fun x hx => Nat.lt_of_lt_of_le (HBY.out.2 x hx) (below_alloc1 w6 (.cells #[.slice none 0 0, .int .i64 0, .int .i64 0, .int .i64 0, .bool false] 35)).size) HBS.out (by omega) hok hle).mono ?_); rintro r w7 ⟨ka, kc, rfl, hrow, hb⟩; have HR7 := Lib.hid hrow; have hB8 := (hB7.alloc hB7.size (.cells #[.slice none 0 0, .int .i64 0, .int .i64 0, .int .i64 0, .bool false] 35)).trans (hb.mono (hB7.alloc hB7.size (.cells #[.slice none 0 0, .int .i64 0, .int .i64 0, .int .i64 0, .bool false] 35)).size); (first | (have HT7 := Lib.hid ((show RepAt (w6.alloc (.cells #[.slice none 0 0, .int .i64 0, .int .i64 0, .int .i64 0, .bool false] 35)) w6.heap.size #[.slice none 0 0, .int .i64 0, .int .i64 0, .int .i64 0, .bool false] from heap_alloc_new w6 _).later hb); obtain ⟨⟨x0, x1, x2, x3, x4⟩, f⟩ := HT7.out.five; have f0 := f 0 (by omega); have f1 := f 1 (by omega); have f2 := f 2 (by omega); have f3 := f 3 (by omega); have f4 := f 4 (by omega); clear f) | skip); clear hrow hb)))
        all_goals go_wp2_with fail
        all_goals go_meet
        all_goals first
          | with_reducible exact exp_new hok hle HR7.out hB8
          | with_reducible refine exp_set hok hle HT7.out HR7.out ?_ ?_ hB8
        all_goals first
          | omega
          | exact HT6.out.lt
          | (rw [World.size_alloc]; omega)
      case rest =>
        obtain ⟨g, ka, xc, rfl, rfl, hrep, hrow, hb12⟩ := hcut
        have HREP := Lib.hid hrep
        have HB12 := Lib.hid hb12
        obtain ⟨Wm, hWm⟩ : ∃ x, x = wc := ⟨_, rfl⟩
        subst hWm
        have HQM := Lib.hid (HQ.out.later hb12)
        have HC2 : Hid (∀ W, Below Wm.heap.size Wm W → W.cell? ⟨W3.heap.size, 0, none⟩ = some (.int .i64 p.vars) ∧ W.cell? ⟨W3.heap.size, 1, none⟩ = some (.int .i64 p.mutexes) ∧ W.cell? ⟨W3.heap.size, 2, none⟩ = some (.slice a9 p.threads.length cap9)) := fun W hb => (HQM.out.later hb).cells.1
        have hbwm := hbw.trans (hb12.mono hbw.size)
        have HROW2 : Hid (∀ W, Below Wm.heap.size Wm W → RowAt W ob 1 byteCell ms) := fun W hb => bytes_row (HORD2.out.later (hbwm.trans (hb.mono hbwm.size)))
        have HPW2 : Hid (∀ W, Below Wm.heap.size Wm W → ThreadsAt W a9 p.threads.reverse) := fun W hb => (HRT.out.later hb12).later hb
        have HEX2 : Hid (∀ av ac W, ThreadsAt W a9 p.threads.reverse → BytesAt W av ms → (∀ x, av = some x → x.block < W.heap.size) → Calls Tryz.prog 10 #[.agg #[.int .i64 p.vars, .int .i64 p.mutexes, .slice a9 p.threads.length cap9], .int .i64 fuel, .int .i64 600, .slice av ms.length ac] W fun r w' => ∃ ka kc, r = .returned (.tuple #[.agg #[.slice ka (endX (s0 (flipP p) fuel) ms 600).runs kc, .int .i64 ((endX (s0 (flipP p) fuel) ms 600).nodes : Nat), .int .i64 ((endX (s0 (flipP p) fuel) ms 600).runs : Nat), .int .i64 ((endX (s0 (flipP p) fuel) ms 600).blocked : Nat), .bool (!anyX (endX (s0 (flipP p) fuel) ms 600))], .int .i64 0]) ∧ OwnRow w' W.heap.size 9 1 strCell (.slice ka (endX (s0 (flipP p) fuel) ms 600).runs kc) (sortK (endX (s0 (flipP p) fuel) ms 600).keys) ∧ Below W.heap.size W w') := fun av ac W h1 h2 h3 => HEX.out a9 cap9 av ac W h1 h2 h3
        clear hrep hrow hb12 HC HROW HPW
        go_upto_region 10 with (fail)
        go_cut [13, 14] (fun s9 s10 wx => ExpAt (flipP p) fuel 600 ms Wm s9 s10 wx)
        case first =>
          go_wp2_with fail
          go_region_held3 (fun W => W.cell? ⟨W3.heap.size, 0, none⟩ = some (.int .i64 p.vars) ∧ W.cell? ⟨W3.heap.size, 1, none⟩ = some (.int .i64 p.mutexes) ∧ W.cell? ⟨W3.heap.size, 2, none⟩ = some (.slice a9 p.threads.length cap9))
            (first | with_reducible exact HC2.out _ hB8 | with_reducible exact HC2.out _ hB7 | with_reducible exact HC2.out _ (hB8.alloc hB8.size _) | with_reducible exact HC2.out _ (hB7.alloc hB7.size _) | with_reducible exact HC2.out _ (below_setR5 hB8 (by first | omega | exact Nat.le_refl _) _ _ _ _ _) | with_reducible exact HC2.out _ (Below.refl _ _).drew | with_reducible exact HC2.out _ (below_alloc1 Wm _).drew | with_reducible exact HC2.out _ (below_alloc2 Wm _ _).drew)
            (first
              | ((first | with_reducible refine step_world ((Wm.alloc (.cells #[] 5)).drew) ?_); refine step_copyR 25 5 1 (.int .u8 0) Tryz.underlying25 infoU8 (by rfl) (by omega) (by omega) byteCell_len byteCell_one (by rfl) (.tmp 71) (.tmp 72) (by rfl) Wm.heap.size _ [] (by rfl) (lit_a Wm) ob od ms (by rfl) (HROW2.out _ (below_alloc1 Wm (.cells #[] 5)).drew) HON2.out (by simp only [List.length_nil]; omega) (by simp <;> omega) ?_; intro v1 w6 hown hb hgr; obtain ⟨av, ac, hav, hby, hlt⟩ := own_bytes hown (by simp only [List.nil_append]; omega); rw [List.nil_append] at hav hby; subst hav; have HBY := Lib.hid (And.intro hby hlt); have hB7 : Below Wm.heap.size Wm w6 := Below.trans (below_alloc1 Wm (.cells #[] 5)).drew hb; have hz7 := hB7.size; have HT6 : Hid True := trivial; clear hown hb hby hlt)
              | ((first | with_reducible refine step_world (((Wm.alloc (.cells #[] 5)).alloc (.cells #[.slice none 0 0, .int .i64 0, .int .i64 0, .int .i64 0, .bool false] 35)).drew) ?_); refine step_copyR 25 5 1 (.int .u8 0) Tryz.underlying25 infoU8 (by rfl) (by omega) (by omega) byteCell_len byteCell_one (by rfl) (.tmp 71) (.tmp 72) (by rfl) Wm.heap.size _ [] (by rfl) (lit_b Wm) ob od ms (by rfl) (HROW2.out _ (below_alloc2 Wm (.cells #[] 5) (.cells #[.slice none 0 0, .int .i64 0, .int .i64 0, .int .i64 0, .bool false] 35)).drew) HON2.out (by simp only [List.length_nil]; omega) (by simp <;> omega) ?_; intro v1 w6 hown hb hgr; obtain ⟨av, ac, hav, hby, hlt⟩ := own_bytes hown (by simp only [List.nil_append]; omega); rw [List.nil_append] at hav hby; subst hav; have HBY := Lib.hid (And.intro hby hlt); have hB7 : Below Wm.heap.size Wm w6 := Below.trans (below_alloc2 Wm (.cells #[] 5) (.cells #[.slice none 0 0, .int .i64 0, .int .i64 0, .int .i64 0, .bool false] 35)).drew hb; have hz7 := hB7.size; have HT6 := Lib.hid (rep_b6 hgr); clear hown hb hby hlt)
              | ((first | with_reducible refine step_world (((Wm.alloc (.cells #[.slice none 0 0, .int .i64 0, .int .i64 0, .int .i64 0, .bool false] 35)).alloc (.cells #[] 5)).drew) ?_); refine step_copyR 25 5 1 (.int .u8 0) Tryz.underlying25 infoU8 (by rfl) (by omega) (by omega) byteCell_len byteCell_one (by rfl) (.tmp 71) (.tmp 72) (by rfl) Wm.heap.size _ [] (by rfl) (lit_c Wm) ob od ms (by rfl) (HROW2.out _ (below_alloc2 Wm (.cells #[.slice none 0 0, .int .i64 0, .int .i64 0, .int .i64 0, .bool false] 35) (.cells #[] 5)).drew) HON2.out (by simp only [List.length_nil]; omega) (by simp <;> omega) ?_; intro v1 w6 hown hb hgr; obtain ⟨av, ac, hav, hby, hlt⟩ := own_bytes hown (by simp only [List.nil_append]; omega); rw [List.nil_append] at hav hby; subst hav; have HBY := Lib.hid (And.intro hby hlt); have hB7 : Below Wm.heap.size Wm w6 := Below.trans (below_alloc2 Wm (.cells #[.slice none 0 0, .int .i64 0, .int .i64 0, .int .i64 0, .bool false] 35) (.cells #[] 5)).drew hb; have hz7 := hB7.size; have HT6 := Lib.hid (rep_c6 hgr); clear hown hb hby hlt)
              | (go_at_call 10; ((with_reducible refine (HEX2.out av ac w6 (HPW2.out _ hB7) HBY.out.1 HBY.out.2).mono ?_); rintro r w7 ⟨ka, kc, rfl, hrow, hb⟩; have HR7 := Lib.hid hrow; have hB8 := hB7.trans (hb.mono hB7.size); (first | (have HT7 := Lib.hid (HT6.out.later hb); obtain ⟨⟨x0, x1, x2, x3, x4⟩, f⟩ := HT7.out.five; have f0 := f 0 (by omega); have f1 := f 1 (by omega); have f2 := f 2 (by omega); have f3 := f 3 (by omega); have f4 := f 4 (by omega); clear f) | skip); clear hrow hb))
              | (go_at_call 10; ((with_reducible refine (HEX2.out av ac (w6.alloc (.cells #[.slice none 0 0, .int .i64 0, .int .i64 0, .int .i64 0, .bool false] 35)) (HPW2.out _ (hB7.alloc hB7.size (.cells #[.slice none 0 0, .int .i64 0, .int .i64 0, .int .i64 0, .bool false] 35))) (HBY.out.1.later (below_alloc1 w6 _)) (fun x hx => Nat.lt_of_lt_of_le (HBY.out.2 x hx) (below_alloc1 w6 (.cells #[.slice none 0 0, .int .i64 0, .int .i64 0, .int .i64 0, .bool false] 35)).size)).mono ?_); rintro r w7 ⟨ka, kc, rfl, hrow, hb⟩; have HR7 := Lib.hid hrow; have hB8 := (hB7.alloc hB7.size (.cells #[.slice none 0 0, .int .i64 0, .int .i64 0, .int .i64 0, .bool false] 35)).trans (hb.mono (hB7.alloc hB7.size (.cells #[.slice none 0 0, .int .i64 0, .int .i64 0, .int .i64 0, .bool false] 35)).size); (first | (have HT7 := Lib.hid ((show RepAt (w6.alloc (.cells #[.slice none 0 0, .int .i64 0, .int .i64 0, .int .i64 0, .bool false] 35)) w6.heap.size #[.slice none 0 0, .int .i64 0, .int .i64 0, .int .i64 0, .bool false] from heap_alloc_new w6 _).later hb); obtain ⟨⟨x0, x1, x2, x3, x4⟩, f⟩ := HT7.out.five; have f0 := f 0 (by omega); have f1 := f 1 (by omega); have f2 := f 2 (by omega); have f3 := f 3 (by omega); have f4 := f 4 (by omega); clear f) | skip); clear hrow hb)))
          all_goals go_wp2_with fail
          all_goals go_meet
          all_goals first
            | with_reducible exact exp_new tok hle2 HR7.out hB8
            | with_reducible refine exp_set tok hle2 HT7.out HR7.out ?_ ?_ hB8
          all_goals first
            | omega
            | exact HT6.out.lt
            | (rw [World.size_alloc]; omega)
        case rest =>
          obtain ⟨g2, ka2, xc2, rfl, rfl, hrep2, hrow2, hb14⟩ := hcut
          have hREP1 := HREP.out.later hb14
          obtain ⟨f1, f2, f3⟩ := HFX.out
          rw [f2] at hREP1
          rw [f3, ← f1] at hrep2
          have HFIN := Lib.hid (hbwm.trans (hb14.mono hbwm.size))
          have HREP1 := Lib.hid hREP1
          have HREP2 := Lib.hid hrep2
          clear hREP1 hrep2 f1 f2 f3 hrow2 hb14 HREP HEX HEX2 HFX HC2 HROW2 HPW2
          generalize (endX (s0 p fuel) ns 600).runs = RN at *
          generalize (endX (s0 p fuel) ns 600).nodes = ND at *
          generalize (endX (s0 p fuel) ns 600).blocked = BL at *
          generalize (endX (s0 (flipP p) fuel) ms 600).nodes = ND2 at *
          generalize (endX (s0 (flipP p) fuel) ms 600).blocked = BL2 at *
          obtain ⟨⟨x0, x1, x2, x3, x4⟩, _⟩ := HREP1.out.five
          obtain ⟨⟨y0, y1, y2, y3, y4⟩, _⟩ := HREP2.out.five
          go_wp2
          go_ret
          exact ⟨by first | rfl | simp, HFIN.out⟩

end Go.Proofs.YtnldkmcijmbhcaaGreat

/- Bytes that came in, and how many the form lets there be. -/
namespace Go.Proofs.YtnldkmcijmbhcaaGreat
open Go.RowKit
open Go.Deep Go.Joins Go.WideShapes Go.ChangeShapes

theorem bytesU8 : Tryz.prog.bytesOf 5 = 1 := by kernel_rfl
section
variable {H : Type} {enc : TypeId × Value → H} {W : World} {base : Nat} {spare : Nat → Bool} {held : Bool}
set_option maxRecDepth 100000 in
theorem bytes3_of_trod {r : Reach} {b0 : Nat} {v : Value} {d : DataW H} {p : List MemPlace} (hv : Value.okWide Tryz.prog W r b0 25 v) (h : DataW.Trod enc Tryz.prog W base spare held 25 v d p) :
    ∃ (a : Option Addr) (ns : List Int) (cap : Nat), v = .slice a ns.length cap ∧ BytesAt W a ns ∧ (∀ n ∈ ns, 0 ≤ n ∧ n < 256) ∧ (a = none → cap = 0) ∧ (∀ B : Nat, (∀ el sp, d = .slice el sp → el.length + sp.length ≤ B) → ns.length ≤ B) := by
  obtain ⟨a, ns, cap, rfl, h1, h2, h3⟩ := bytes2_of_trod hv h
  refine ⟨a, ns, cap, rfl, h1, h2, h3, fun B hB => ?_⟩
  obtain ⟨fuel, hf⟩ := h
  rcases open_ints Tryz.underlying25 Tryz.underlying5 (by kernel_rfl) hf with ⟨e, _⟩ | ⟨a', len', cap', zs, e, _, hl, _, hz, hx, _, _⟩
  · simp [Value.cells] at e
    rw [e.2.1]
    exact Nat.zero_le _
  · simp [Value.cells] at e
    injection hx with hx _
    have h5 := hB _ _ hx
    have h6 : len' ≤ zs.length := by rw [hz]; split <;> omega
    simp [lits] at h5
    omega
end
end Go.Proofs.YtnldkmcijmbhcaaGreat

/-
  SeqTurned: a program whose threads stand the other way round has as many runs, whatever the orders: the law answers true, and its arguments read as they did.
  For every input, whatever its size and however its parts share memory; nothing is asked of it but what the statement's own form asks.
-/
namespace Go.Proofs.YtnldkmcijmbhcaaGreat.seqTurned
open Go.ChangeShapes Go.WideShapes Go.ChangeAt Go.RowKit

theorem own : ownKnob Tryz.prog.godebug = none := by kernel_rfl
theorem laidOut : laidOutB Tryz.prog = true := by kernel_rfl

set_option maxRecDepth 100000 in
theorem lifted (os : Os) (started : os.Started) (H : Type) (enc : TypeId × Value → H) :
    ReturnsInHanded {} Tryz.checked os 5 .any (Rows.seqTurnedSpec.pre6 enc Tryz.prog Tryz.f5 Rows.seqTurnedRow.domain false) (Rows.seqTurnedSpec.post enc Tryz.prog Tryz.f5 false true false false) := by
  refine returnsInHanded_of_change_sized (C := Tryz.checked) own started (by kernel_rfl) Tryz.func5
    (ChangeSpec.witness6 (enc := enc) (C := Tryz.checked) false ⟨#[], #[.agg #[.int .i64 0, .int .i64 0, .slice none 0 0], .int .i64 0, .slice none 0 0, .slice none 0 0], []⟩ 8 (by kernel_rfl) (by kernel_rfl) (by kernel_rfl) (by kernel_rfl)) ?_
  intro W base args ds gs before hval0 hW hcnd hsz0 _
  have hval : ∀ (j : Nat) t v, Tryz.f5.params[j]? = some t → args[j]? = some v → Value.okWide Tryz.prog W .any base t v := hval0
  have hsz : (DataW.weightsEach Tryz.prog (Tryz.f5.params.toList ++ Rows.seqTurnedSpec.plain.varTypes Tryz.prog) (ds ++ gs)).all (· ≤ reachBytes) = true := hsz0
  have hW' := hW
  obtain ⟨p, q, hA0, hV, rfl, hfz, hnd⟩ := hW
  have hA : DataW.TrodAll enc Tryz.prog W 0 (fun _ => true) true Tryz.f5.params.toList args.toList ds p := hA0
  rw [Tryz.params5] at hA hval hsz
  obtain ⟨v0, vs0, d0, ds0, p0, q0, hargs, rfl, rfl, h0, r0⟩ := trodAll_cons hA
  obtain ⟨v1, vs1, d1, ds1, p1, q1, rfl, rfl, rfl, h1, r1⟩ := trodAll_cons r0
  obtain ⟨v2, vs2, d2, ds2, p2, q2, rfl, rfl, rfl, h2, r2⟩ := trodAll_cons r1
  obtain ⟨v3, vs3, d3, ds3, p3, q3, rfl, rfl, rfl, h3, r3⟩ := trodAll_cons r2
  obtain ⟨rfl, rfl, rfl⟩ := trodAll_nil r3
  obtain rfl : args = #[v0, v1, v2, v3] := by cases args; simp_all
  obtain ⟨rfl, rfl⟩ := trodVars_none hV
  have k0 := h0
  have lt0 : ∀ x ∈ p0, x.block < W.heap.size := by obtain ⟨m, hm⟩ := k0; exact DataW.trod_lt m _ _ _ hm
  have k1 := h1
  have lt1 : ∀ x ∈ p1, x.block < W.heap.size := by obtain ⟨m, hm⟩ := k1; exact DataW.trod_lt m _ _ _ hm
  have k2 := h2
  have lt2 : ∀ x ∈ p2, x.block < W.heap.size := by obtain ⟨m, hm⟩ := k2; exact DataW.trod_lt m _ _ _ hm
  have k3 := h3
  have lt3 : ∀ x ∈ p3, x.block < W.heap.size := by obtain ⟨m, hm⟩ := k3; exact DataW.trod_lt m _ _ _ hm
  obtain ⟨pg0, a0, cap0, rfl, hx0, _⟩ := prog_of_trod (hval 0 24 v0 rfl rfl) h0
  obtain ⟨n1, rfl, hx1⟩ := int_of_trod (hval 1 3 v1 rfl rfl) h1
  obtain ⟨a2, ns2, cap2, rfl, hx2, hr2, hn2, hb2⟩ := bytes3_of_trod (hval 2 25 v2 rfl rfl) h2
  obtain ⟨a3, ns3, cap3, rfl, hx3, hr3, hn3, hb3⟩ := bytes3_of_trod (hval 3 25 v3 rfl rfl) h3
  have hs2 : ns2.length ≤ 140737488351232 := hb2 140737488351232 fun el sp e => by
    subst e
    have h := sized_slice hsz (j := 2) (t := 25) (e := 5) rfl rfl Tryz.underlying25
    rw [bytesU8] at h
    simp only [reachBytes] at h
    omega
  have hs3 : ns3.length ≤ 140737488351232 := hb3 140737488351232 fun el sp e => by
    subst e
    have h := sized_slice hsz (j := 3) (t := 25) (e := 5) rfl rfl Tryz.underlying25
    rw [bytesU8] at h
    simp only [reachBytes] at h
    omega
  clear hA0 hval0
  refine (seqTurned_any pg0 a0 cap0 n1 a2 ns2 cap2 a3 ns3 cap3 W hx0 hx2 (bytes_none hx2 hn2) hr2 hx3 (bytes_none hx3 hn3) hr3 hs2 hs3).mono fun e W' ⟨he, bel⟩ => ?_
  subst he
  exact ⟨_, rfl, _, _, _, [], _, [], hW', trodAll_mk1 (shut_bool Tryz.underlying4 _), (trodAll_cons_mk (Below.trod laidOut (by kernel_rfl) (of_decide_eq_true (by kernel_rfl)) k0 bel lt0) (trodAll_cons_mk (Below.trod laidOut (by kernel_rfl) (of_decide_eq_true (by kernel_rfl)) k1 bel lt1) (trodAll_cons_mk (Below.trod laidOut (by kernel_rfl) (of_decide_eq_true (by kernel_rfl)) k2 bel lt2) (trodAll_cons_mk (Below.trod laidOut (by kernel_rfl) (of_decide_eq_true (by kernel_rfl)) k3 bel lt3) trodAll_mk0)))), rfl, bel.frame _, fun h => by cases h⟩

theorem over : Rows.seqTurnedRow.holds Tryz.pinned (OpenSpec.ofChange Rows.seqTurnedSpec) :=
  OpenClaim.holds_of_wide 5 Tryz.f5 rfl rfl rfl rfl rfl rfl rfl ⟨rfl, rfl, rfl, rfl, rfl⟩ rfl rfl rfl rfl rfl (by kernel_rfl) Tryz.func5 (by kernel_rfl)
    (of_decide_eq_true (by kernel_rfl)) (by unfold Func.isWrapper; first | (rw [if_pos (by decide +kernel)]; kernel_rfl) | (rw [if_neg (by decide +kernel)]; exact ⟨rfl, rfl⟩))
    (fun os started H enc _ => lifted os started H enc)

theorem proved : Rows.SeqTurnedSaid := over
end Go.Proofs.YtnldkmcijmbhcaaGreat.seqTurned
