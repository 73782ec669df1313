/-
  SeqPlain: of a program whose threads share nothing there is one run, and nobody is kept back: the law answers true, and its arguments read as they did.
  For every input, whatever its size and however its parts share memory; nothing is asked of it but what the statement's own form asks.
-/
import Derived.OwnWalk
import Derived.Deep.RegionHeld3
import Derived.Lib.Hide
import Derived.WalkKit
import Derived.ProofKit
import Derived.OpenShut
import Derived.Test.YtnldkmcijmbhcaaGreatRows
import Derived.Test.YtnldkmcijmbhcaaGreatPk04
import Derived.Test.YtnldkmcijmbhcaaGreatPk08
import Derived.Test.YtnldkmcijmbhcaaGreatPk22
import Derived.Test.YtnldkmcijmbhcaaGreatPk23

/- The law SeqPlain, walked, but for what the document's Plain answers. -/
namespace Go.Proofs.YtnldkmcijmbhcaaGreat
open Go.RowKit

theorem plain_facts (p : Pg) (fuel : Int) (order : List Int) (hok : okPg p fuel) (hle : preW p fuel ≤ 600) (hs : ShareNo p) : (endX (s0 p fuel) order 600).runs = 1 ∧ (endX (s0 p fuel) order 600).blocked = 0 ∧ anyX (endX (s0 p fuel) order 600) = false := by
  have ok : (s0 p fuel).Ok fuel.toNat := new_ok hok.1 fuel.toNat (by have := hok.2; omega)
  obtain ⟨e1, e2⟩ := end_share (order := order) (b := 600) ok hs (by omega)
  exact ⟨e1, e2, end_exact (order := order) ok (b := 600) (by omega)⟩

set_option maxRecDepth 100000 in
set_option maxHeartbeats 8000000 in
theorem seqPlain_of (HPL : Hid (∀ (q : Pg) (x : Option Addr) (y : Nat) (W : World), ThreadsAt W x q.threads → Calls Tryz.prog 14 #[.agg #[.int .i64 q.vars, .int .i64 q.mutexes, .slice x q.threads.length y]] W fun r w' => ∃ c, r = .returned (.bool c) ∧ (c = true → ShareNo q) ∧ Below W.heap.size W w')) (p : Pg) (a : Option Addr) (cap : Nat) (fuel : Int) (oa : Option Addr) (ns : List Int) (oc : Nat) (w : World) (hp : ThreadsAt w a p.threads) (hord : BytesAt w oa ns) (hon : oa = none → oc = 0 ∧ ns = []) (hbs : ∀ n ∈ ns, 0 ≤ n ∧ n < 256) :
    Calls Tryz.prog 4 #[.agg #[.int .i64 p.vars, .int .i64 p.mutexes, .slice a p.threads.length cap], .int .i64 fuel, .slice oa ns.length oc] w fun r w' => r = .returned (.bool true) ∧ Below w.heap.size w w' := by
  have HP := Lib.hid hp
  have HBX : Hid (∀ W, Below (w.alloc (.cells #[.int .i64 p.vars, .int .i64 p.mutexes, .slice a p.threads.length cap] 24)).heap.size (w.alloc (.cells #[.int .i64 p.vars, .int .i64 p.mutexes, .slice a p.threads.length cap] 24)) W → W.cell? ⟨w.heap.size, 0, none⟩ = some (.int .i64 p.vars) ∧ W.cell? ⟨w.heap.size, 1, none⟩ = some (.int .i64 p.mutexes) ∧ W.cell? ⟨w.heap.size, 2, none⟩ = some (.slice a p.threads.length cap)) := fun W hb => ⟨cell_later hb (by simp), cell_later hb (by simp), cell_later hb (by simp)⟩
  have hb1 : Below w.heap.size w (w.alloc (.cells #[.int .i64 p.vars, .int .i64 p.mutexes, .slice a p.threads.length cap] 24)) := below_alloc1 w _
  have HORD := Lib.hid hord
  have HON := Lib.hid hon
  have HBS := Lib.hid hbs
  have hm := hord.1
  unfold maxLen at hm
  clear hp hord hon hbs
  go_enter Tryz.func4, Tryz.ntmps4
  go_wp2_with fail
  generalize w.alloc (.cells #[.int .i64 p.vars, .int .i64 p.mutexes, .slice a p.threads.length cap] 24) = W1 at *
  refine (awake9_any W1).mono ?_
  rintro r W2 ⟨rfl, hb2⟩
  obtain ⟨c0, c1, c2⟩ := HBX.out W2 hb2
  have hb3 := hb1.trans (hb2.mono hb1.size)
  go_wp2_with fail
  refine (small_any p a cap fuel W2 (HP.out.later hb3)).mono ?_
  rintro r W3 ⟨rfl, hb4⟩
  have hb5 := hb2.trans (hb4.mono hb2.size)
  have hb6 := hb3.trans (hb4.mono hb3.size)
  clear c0 c1 c2 hb2 hb3 hb4
  cases hf : smallPg p fuel
  · clear hf
    go_wp2_with fail
    refine (awake9_any _).mono ?_
    rintro r w3 ⟨rfl, hb3⟩
    go_wp2
    go_ret
    exact ⟨rfl, hb6.trans (hb3.mono hb6.size)⟩
  obtain ⟨_, hok, hle⟩ := small_yes hf
  clear hf
  by_cases hl : 500 < ns.length
  · go_wp2_with fail
    refine (awake9_any _).mono ?_
    rintro r w3 ⟨rfl, hb3⟩
    go_wp2
    go_ret
    exact ⟨rfl, hb6.trans (hb3.mono hb6.size)⟩
  obtain ⟨c0, c1, c2⟩ := HBX.out W3 hb5
  go_wp2_with fail
  refine (HPL.out p a cap W3 (HP.out.later hb6)).mono ?_
  rintro r W4 ⟨c, rfl, hc, hb7⟩
  have hb8 := hb5.trans (hb7.mono hb5.size)
  have hb9 := hb6.trans (hb7.mono hb6.size)
  clear c0 c1 c2 hb5 hb6 hb7
  cases c
  · go_wp2_with fail
    refine (awake9_any _).mono ?_
    rintro r w3 ⟨rfl, hb3⟩
    go_wp2
    go_ret
    exact ⟨rfl, hb9.trans (hb3.mono hb9.size)⟩
  have HSH := Lib.hid (hc rfl)
  clear hc
  go_upto_region 3 with (fail)
  have HC : Hid (∀ W, Below W4.heap.size W4 W → W.cell? ⟨w.heap.size, 0, none⟩ = some (.int .i64 p.vars) ∧ W.cell? ⟨w.heap.size, 1, none⟩ = some (.int .i64 p.mutexes) ∧ W.cell? ⟨w.heap.size, 2, none⟩ = some (.slice a p.threads.length cap)) := fun W hb => HBX.out W (hb8.trans (hb.mono hb8.size))
  have HROW : Hid (∀ W, Below W4.heap.size W4 W → RowAt W oa 1 byteCell ns) := fun W hb => bytes_row (HORD.out.later (hb9.trans (hb.mono hb9.size)))
  have HPW : Hid (∀ W, Below W4.heap.size W4 W → ThreadsAt W a p.threads) := fun W hb => HP.out.later (hb9.trans (hb.mono hb9.size))
  have hlen : ns.length ≤ 500 := by omega
  clear hl
  go_cut [7, 8] (fun s7 s8 wx => ExpAt p fuel 600 ns W4 s7 s8 wx)
  case first =>
    go_wp2_with fail
    go_region_held3 (fun W => W.cell? ⟨w.heap.size, 0, none⟩ = some (.int .i64 p.vars) ∧ W.cell? ⟨w.heap.size, 1, none⟩ = some (.int .i64 p.mutexes) ∧ W.cell? ⟨w.heap.size, 2, none⟩ = some (.slice a p.threads.length cap))
      (first | with_reducible exact HC.out _ hB8 | with_reducible exact HC.out _ hB7 | with_reducible exact HC.out _ (hB8.alloc hB8.size _) | with_reducible exact HC.out _ (hB7.alloc hB7.size _) | with_reducible exact HC.out _ (below_setR5 hB8 (by first | omega | exact Nat.le_refl _) _ _ _ _ _) | with_reducible exact HC.out _ (Below.refl _ _).drew | with_reducible exact HC.out _ (below_alloc1 W4 _).drew | with_reducible exact HC.out _ (below_alloc2 W4 _ _).drew)
      (first
        | ((first | with_reducible refine step_world ((W4.alloc (.cells #[] 5)).drew) ?_); refine step_copyR 25 5 1 (.int .u8 0) Tryz.underlying25 infoU8 (by rfl) (by omega) (by omega) byteCell_len byteCell_one (by rfl) (.tmp 31) (.tmp 32) (by rfl) W4.heap.size _ [] (by rfl) (lit_a W4) oa oc ns (by rfl) (HROW.out _ (below_alloc1 W4 (.cells #[] 5)).drew) HON.out (by simp only [List.length_nil]; omega) (by simp <;> omega) ?_; intro v1 w6 hown hb hgr; obtain ⟨av, ac, hav, hby, hlt⟩ := own_bytes hown (by simp only [List.nil_append]; omega); rw [List.nil_append] at hav hby; subst hav; have HBY := Lib.hid (And.intro hby hlt); have hB7 : Below W4.heap.size W4 w6 := Below.trans (below_alloc1 W4 (.cells #[] 5)).drew hb; have hz7 := hB7.size; have HT6 : Hid True := trivial; clear hown hb hby hlt)
        | ((first | with_reducible refine step_world (((W4.alloc (.cells #[] 5)).alloc (.cells #[.slice none 0 0, .int .i64 0, .int .i64 0, .int .i64 0, .bool false] 35)).drew) ?_); refine step_copyR 25 5 1 (.int .u8 0) Tryz.underlying25 infoU8 (by rfl) (by omega) (by omega) byteCell_len byteCell_one (by rfl) (.tmp 31) (.tmp 32) (by rfl) W4.heap.size _ [] (by rfl) (lit_b W4) oa oc ns (by rfl) (HROW.out _ (below_alloc2 W4 (.cells #[] 5) (.cells #[.slice none 0 0, .int .i64 0, .int .i64 0, .int .i64 0, .bool false] 35)).drew) HON.out (by simp only [List.length_nil]; omega) (by simp <;> omega) ?_; intro v1 w6 hown hb hgr; obtain ⟨av, ac, hav, hby, hlt⟩ := own_bytes hown (by simp only [List.nil_append]; omega); rw [List.nil_append] at hav hby; subst hav; have HBY := Lib.hid (And.intro hby hlt); have hB7 : Below W4.heap.size W4 w6 := Below.trans (below_alloc2 W4 (.cells #[] 5) (.cells #[.slice none 0 0, .int .i64 0, .int .i64 0, .int .i64 0, .bool false] 35)).drew hb; have hz7 := hB7.size; have HT6 := Lib.hid (rep_b6 hgr); clear hown hb hby hlt)
        | ((first | with_reducible refine step_world (((W4.alloc (.cells #[.slice none 0 0, .int .i64 0, .int .i64 0, .int .i64 0, .bool false] 35)).alloc (.cells #[] 5)).drew) ?_); refine step_copyR 25 5 1 (.int .u8 0) Tryz.underlying25 infoU8 (by rfl) (by omega) (by omega) byteCell_len byteCell_one (by rfl) (.tmp 31) (.tmp 32) (by rfl) W4.heap.size _ [] (by rfl) (lit_c W4) oa oc ns (by rfl) (HROW.out _ (below_alloc2 W4 (.cells #[.slice none 0 0, .int .i64 0, .int .i64 0, .int .i64 0, .bool false] 35) (.cells #[] 5)).drew) HON.out (by simp only [List.length_nil]; omega) (by simp <;> omega) ?_; intro v1 w6 hown hb hgr; obtain ⟨av, ac, hav, hby, hlt⟩ := own_bytes hown (by simp only [List.nil_append]; omega); rw [List.nil_append] at hav hby; subst hav; have HBY := Lib.hid (And.intro hby hlt); have hB7 : Below W4.heap.size W4 w6 := Below.trans (below_alloc2 W4 (.cells #[.slice none 0 0, .int .i64 0, .int .i64 0, .int .i64 0, .bool false] 35) (.cells #[] 5)).drew hb; have hz7 := hB7.size; have HT6 := Lib.hid (rep_c6 hgr); clear hown hb hby hlt)
        | (go_at_call 10; ((with_reducible refine (explore_yes p a cap fuel 600 av ac ns w6 (HPW.out _ hB7) HBY.out.1 HBY.out.2 HBS.out (by omega) hok hle).mono ?_); rintro r w7 ⟨ka, kc, rfl, hrow, hb⟩; have HR7 := Lib.hid hrow; have hB8 := hB7.trans (hb.mono hB7.size); (first | (have HT7 := Lib.hid (HT6.out.later hb); obtain ⟨⟨x0, x1, x2, x3, x4⟩, f⟩ := HT7.out.five; have f0 := f 0 (by omega); have f1 := f 1 (by omega); have f2 := f 2 (by omega); have f3 := f 3 (by omega); have f4 := f 4 (by omega); clear f) | skip); clear hrow hb))
        | (go_at_call 10; ((with_reducible refine (explore_yes p a cap fuel 600 av ac ns (w6.alloc (.cells #[.slice none 0 0, .int .i64 0, .int .i64 0, .int .i64 0, .bool false] 35)) (HPW.out _ (hB7.alloc hB7.size (.cells #[.slice none 0 0, .int .i64 0, .int .i64 0, .int .i64 0, .bool false] 35))) (HBY.out.1.later (below_alloc1 w6 _)) (fun x hx => Nat.lt_of_lt_of_le (HBY.out.2 x hx) (below_alloc1 w6 (.cells #[.slice none 0 0, .int .i64 0, .int .i64 0, .int .i64 0, .bool false] 35)).size) HBS.out (by omega) hok hle).mono ?_); rintro r w7 ⟨ka, kc, rfl, hrow, hb⟩; have HR7 := Lib.hid hrow; have hB8 := (hB7.alloc hB7.size (.cells #[.slice none 0 0, .int .i64 0, .int .i64 0, .int .i64 0, .bool false] 35)).trans (hb.mono (hB7.alloc hB7.size (.cells #[.slice none 0 0, .int .i64 0, .int .i64 0, .int .i64 0, .bool false] 35)).size); (first | (have HT7 := Lib.hid ((show RepAt (w6.alloc (.cells #[.slice none 0 0, .int .i64 0, .int .i64 0, .int .i64 0, .bool false] 35)) w6.heap.size #[.slice none 0 0, .int .i64 0, .int .i64 0, .int .i64 0, .bool false] from heap_alloc_new w6 _).later hb); obtain ⟨⟨x0, x1, x2, x3, x4⟩, f⟩ := HT7.out.five; have f0 := f 0 (by omega); have f1 := f 1 (by omega); have f2 := f 2 (by omega); have f3 := f 3 (by omega); have f4 := f 4 (by omega); clear f) | skip); clear hrow hb)))
    all_goals go_wp2_with fail
    all_goals go_meet
    all_goals first
      | with_reducible exact exp_new hok hle HR7.out hB8
      | with_reducible refine exp_set hok hle HT7.out HR7.out ?_ ?_ hB8
    all_goals first
      | omega
      | exact HT6.out.lt
      | (rw [World.size_alloc]; omega)
  case rest =>
    obtain ⟨g, ka, xc, rfl, rfl, hrep, hrow, hb12⟩ := hcut
    obtain ⟨e1, e2, e3⟩ := plain_facts p fuel ns hok hle HSH.out
    rw [e1, e2, e3] at hrep
    have HREP := Lib.hid hrep
    have hb13 := hb9.trans (hb12.mono hb9.size)
    clear e1 e2 e3 hrep hrow hb8 hb9 hb12 HC HROW HPW HP HBX
    obtain ⟨⟨x0, x1, x2, x3, x4⟩, _⟩ := HREP.out.five
    go_wp2_with fail
    all_goals go_ret
    all_goals exact ⟨by simp <;> omega, hb13⟩

end Go.Proofs.YtnldkmcijmbhcaaGreat

/- The contract of the document's Plain. -/
namespace Go.Proofs.YtnldkmcijmbhcaaGreat
open Go.RowKit

def badI (x y : Ins) : Prop := x.x = y.x ∧ ((x.kind ≤ 2 ∧ y.kind ≤ 2 ∧ (x.kind = 2 ∨ y.kind = 2)) ∨ (x.kind = 5 ∧ y.kind = 5))
def okTU (ts : List (List Ins)) (t u : Nat) : Prop := t ≠ u → ∀ a ∈ ts.getD t [], ∀ b ∈ ts.getD u [], ¬ badI a b
def InsBox (w : World) (g : Nat) (x : Ins) : Prop := w.heap[g]? = some (.cells #[.int .i64 x.kind, .int .i64 x.r, .int .i64 x.x, .int .i64 x.n] 48 (0, 0))

theorem box2 (w : World) (x y : Ins) : InsBox ((w.alloc (.cells #[.int .i64 x.kind, .int .i64 x.r, .int .i64 x.x, .int .i64 x.n] 48)).alloc (.cells #[.int .i64 y.kind, .int .i64 y.r, .int .i64 y.x, .int .i64 y.n] 48)).drew w.heap.size x ∧ InsBox ((w.alloc (.cells #[.int .i64 x.kind, .int .i64 x.r, .int .i64 x.x, .int .i64 x.n] 48)).alloc (.cells #[.int .i64 y.kind, .int .i64 y.r, .int .i64 y.x, .int .i64 y.n] 48)).drew (w.heap.size + 1) y := by
  refine ⟨((below_alloc1 (w.alloc (.cells #[.int .i64 x.kind, .int .i64 x.r, .int .i64 x.x, .int .i64 x.n] 48)) (.cells #[.int .i64 y.kind, .int .i64 y.r, .int .i64 y.x, .int .i64 y.n] 48)).block w.heap.size (by simp)).trans (heap_alloc_new w _), ?_⟩
  have := heap_alloc_new (w.alloc (.cells #[.int .i64 x.kind, .int .i64 x.r, .int .i64 x.x, .int .i64 x.n] 48)) (.cells #[.int .i64 y.kind, .int .i64 y.r, .int .i64 y.x, .int .i64 y.n] 48)
  rw [World.size_alloc] at this
  exact this
theorem InsBox.cells {w : World} {g : Nat} {x : Ins} (h : InsBox w g x) : w.cell? ⟨g, 0, none⟩ = some (.int .i64 x.kind) ∧ w.cell? ⟨g, 2, none⟩ = some (.int .i64 x.x) :=
  ⟨by rw [cell_of_row w g 0 _ _ _ h]; rfl, by rw [cell_of_row w g 2 _ _ _ h]; rfl⟩

/-- What Plain answers. -/
def PlainR (p : Pg) (w : World) (r : Ending) (w' : World) : Prop := ∃ c, r = .returned (.bool c) ∧ (c = true → ShareNo p) ∧ Below w.heap.size w w'
set_option maxRecDepth 100000 in
set_option maxHeartbeats 8000000 in
theorem plain9_any (p : Pg) (a : Option Addr) (cap : Nat) (w : World) (hp : ThreadsAt w a p.threads) :
    Calls Tryz.prog 14 #[.agg #[.int .i64 p.vars, .int .i64 p.mutexes, .slice a p.threads.length cap]] w (PlainR p w) := by
  obtain ⟨V, M, ts⟩ := p
  dsimp only at *
  have hm := hp.1
  unfold maxLen at hm
  have HL := Lib.hid hp
  have HBX : Hid (∀ W, Below (w.alloc (.cells #[.int .i64 V, .int .i64 M, .slice a ts.length cap] 24)).heap.size (w.alloc (.cells #[.int .i64 V, .int .i64 M, .slice a ts.length cap] 24)) W → W.cell? ⟨w.heap.size, 2, none⟩ = some (.slice a ts.length cap)) := fun W hb => cell_later hb (by simp)
  have hb1 : Below w.heap.size w (w.alloc (.cells #[.int .i64 V, .int .i64 M, .slice a ts.length cap] 24)) := below_alloc1 w _
  clear hp
  go_enter Tryz.func14, Tryz.ntmps14
  go_wp2_with fail
  generalize w.alloc (.cells #[.int .i64 V, .int .i64 M, .slice a ts.length cap] 24) = W1 at *
  go_loopw [3] (fun i wr => ∃ k : Nat, k ≤ ts.length ∧ i = .int .i64 k ∧ Hid (∀ t, t < k → ∀ u, u < ts.length → okTU ts t u) ∧ Hid (Below W1.heap.size W1 wr)) (fun i _ => ts.length - (intOf i).toNat)
  case atStart => exact ⟨0, Nat.zero_le _, rfl, (fun t ht => absurd ht (Nat.not_lt_zero _)), Below.refl _ _⟩
  case round =>
    obtain ⟨k, hk, rfl, HA, HB⟩ := hrel
    have c2 := HBX.out wr HB.out
    by_cases hlt : k < ts.length
    · obtain ⟨b, o, rfl, hc⟩ := HL.out.2 (by intro e; simp [e] at hlt)
      have HCC := Lib.hid hc
      clear hc
      go_wp2_with fail
      clear c2
      obtain ⟨wo, hwo⟩ : ∃ x, x = wr := ⟨_, rfl⟩
      subst hwo
      go_loopw [4] (fun i w2 => ∃ m : Nat, m ≤ ts.length ∧ i = .int .i64 m ∧ Hid (∀ u, u < m → okTU ts k u) ∧ Hid (Below W1.heap.size W1 w2)) (fun i _ => ts.length - (intOf i).toNat)
      case atStart => exact ⟨0, Nat.zero_le _, rfl, (fun t ht => absurd ht (Nat.not_lt_zero _)), HB.out⟩
      case round =>
        obtain ⟨m, hmk, rfl, HA2, HB2⟩ := hrel
        have c2 := HBX.out wr HB2.out
        by_cases hlm : m < ts.length
        · go_wp2_with fail
          clear c2
          obtain ⟨wp, hwp⟩ : ∃ x, x = wr := ⟨_, rfl⟩
          subst hwp
          go_loopw [5] (fun i w2 => ∃ j : Nat, j ≤ ts[k].length ∧ i = .int .i64 j ∧ Hid (k ≠ m → ∀ x ∈ ts[k].take j, ∀ y ∈ ts[m], ¬ badI x y) ∧ Hid (Below W1.heap.size W1 w2)) (fun i _ => ts[k].length - (intOf i).toNat)
          case atStart => exact ⟨0, Nat.zero_le _, rfl, (fun _ x hx => by simp at hx), HB2.out⟩
          case round =>
            obtain ⟨j, hj, rfl, HA3, HB3⟩ := hrel
            have c2 := HBX.out wr HB3.out
            have hbw := hb1.trans (HB3.out.mono hb1.size)
            obtain ⟨ca, cc, d0, d1, _⟩ := HCC.out k hlt
            have e0 := cell_later hbw d0
            have HE0 := Lib.hid d0
            have HD := Lib.hid (d1.later hbw)
            have hkm := d1.1
            unfold maxLen at hkm
            clear d0 d1
            by_cases hjl : j < ts[k].length
            · go_wp2_with fail
              clear c2 e0
              obtain ⟨wq, hwq⟩ : ∃ x, x = wr := ⟨_, rfl⟩
              subst hwq
              obtain ⟨xb, xo, rfl, hx⟩ := HD.out.2 (by intro e; simp [e] at hjl)
              obtain ⟨x0, x1, x2, x3⟩ := hx j hjl
              have HXC := Lib.hid (And.intro x0 (And.intro x1 (And.intro x2 x3)))
              clear x0 x1 x2 x3 hx
              go_loopw [6] (fun i w2 => ∃ l : Nat, l ≤ ts[m].length ∧ i = .int .i64 l ∧ Hid (k ≠ m → ∀ y ∈ ts[m].take l, ¬ badI ts[k][j] y) ∧ Hid (Below wq.heap.size wq w2)) (fun i _ => ts[m].length - (intOf i).toNat)
              case atStart => exact ⟨0, Nat.zero_le _, rfl, (fun _ x hx => by simp at hx), Below.refl _ _⟩
              case round =>
                obtain ⟨l, hl, rfl, HA4, HB4⟩ := hrel
                have hbv := HB3.out.trans (HB4.out.mono HB3.out.size)
                have c2 := HBX.out wr hbv
                have hbw4 := hb1.trans (hbv.mono hb1.size)
                obtain ⟨ma, mc, d0, d1, _⟩ := HCC.out m hlm
                have e1 := cell_later hbw4 d0
                have e2 := cell_later hbw4 HE0.out
                have HDM := Lib.hid (d1.later hbw4)
                have hmm := d1.1
                unfold maxLen at hmm
                clear d0 d1
                by_cases hll : l < ts[m].length
                · obtain ⟨yb, yo, rfl, hy⟩ := HDM.out.2 (by intro e; simp [e] at hll)
                  obtain ⟨y0, y1, y2, y3⟩ := hy l hll
                  obtain ⟨x0, x1, x2, x3⟩ := HXC.out
                  have z0 := cell_later HB4.out x0
                  have z1 := cell_later HB4.out x1
                  have z2 := cell_later HB4.out x2
                  have z3 := cell_later HB4.out x3
                  clear x0 x1 x2 x3 hy
                  have HSS : Hid (∀ W, Below wr.heap.size wr W → W.cell? ⟨w.heap.size, 2, none⟩ = some (.slice (some ⟨b, o, none⟩) ts.length cap) ∧ W.cell? ⟨b, o + k, none⟩ = some (.slice (some ⟨xb, xo, none⟩) ts[k].length cc) ∧ W.cell? ⟨b, o + m, none⟩ = some (.slice (some ⟨yb, yo, none⟩) ts[m].length mc) ∧ (W.cell? ⟨xb, xo + j * 4, none⟩ = some (.int .i64 ts[k][j].kind) ∧ W.cell? ⟨xb, xo + j * 4 + 1, none⟩ = some (.int .i64 ts[k][j].r) ∧ W.cell? ⟨xb, xo + j * 4 + 2, none⟩ = some (.int .i64 ts[k][j].x) ∧ W.cell? ⟨xb, xo + j * 4 + 3, none⟩ = some (.int .i64 ts[k][j].n)) ∧ W.cell? ⟨yb, yo + l * 4, none⟩ = some (.int .i64 ts[m][l].kind) ∧ W.cell? ⟨yb, yo + l * 4 + 1, none⟩ = some (.int .i64 ts[m][l].r) ∧ W.cell? ⟨yb, yo + l * 4 + 2, none⟩ = some (.int .i64 ts[m][l].x) ∧ W.cell? ⟨yb, yo + l * 4 + 3, none⟩ = some (.int .i64 ts[m][l].n)) := fun W hb => ⟨cell_later hb c2, cell_later hb e2, cell_later hb e1, ⟨cell_later hb z0, cell_later hb z1, cell_later hb z2, cell_later hb z3⟩, cell_later hb y0, cell_later hb y1, cell_later hb y2, cell_later hb y3⟩
                  go_wp2_with fail
                  clear c2 e1 e2 z0 z1 z2 z3 y0 y1 y2 y3
                  go_region_held3 (fun W => W.cell? ⟨w.heap.size, 2, none⟩ = some (.slice (some ⟨b, o, none⟩) ts.length cap) ∧ W.cell? ⟨b, o + k, none⟩ = some (.slice (some ⟨xb, xo, none⟩) ts[k].length cc) ∧ W.cell? ⟨b, o + m, none⟩ = some (.slice (some ⟨yb, yo, none⟩) ts[m].length mc) ∧ (W.cell? ⟨xb, xo + j * 4, none⟩ = some (.int .i64 ts[k][j].kind) ∧ W.cell? ⟨xb, xo + j * 4 + 1, none⟩ = some (.int .i64 ts[k][j].r) ∧ W.cell? ⟨xb, xo + j * 4 + 2, none⟩ = some (.int .i64 ts[k][j].x) ∧ W.cell? ⟨xb, xo + j * 4 + 3, none⟩ = some (.int .i64 ts[k][j].n)) ∧ W.cell? ⟨yb, yo + l * 4, none⟩ = some (.int .i64 ts[m][l].kind) ∧ W.cell? ⟨yb, yo + l * 4 + 1, none⟩ = some (.int .i64 ts[m][l].r) ∧ W.cell? ⟨yb, yo + l * 4 + 2, none⟩ = some (.int .i64 ts[m][l].x) ∧ W.cell? ⟨yb, yo + l * 4 + 3, none⟩ = some (.int .i64 ts[m][l].n))
                    ((refine HSS.out _ ?_; repeat (first | with_reducible exact Below.refl _ _ | with_reducible refine Below.drew ?_ | with_reducible refine Below.alloc ?_ (by simp) _ | with_reducible refine Below.setCell ?_ (by simp) _)))
                    (fail)
                  all_goals clear HSS HDM HXC HE0 HD HCC
                  all_goals (have HRR : Hid ((k ≠ m → ¬ badI ts[k][j] ts[m][l]) → (k ≠ m → ∀ y ∈ ts[m].take (l + 1), ¬ badI ts[k][j] y)) := (by
                    intro h hne y hy
                    rw [List.take_succ_eq_append_getElem hll, List.mem_append, List.mem_singleton] at hy
                    rcases hy with hy | rfl
                    · exact HA4.out hne y hy
                    · exact h hne))
                  · have hb9 : Below wq.heap.size wq ((wr.alloc (.cells #[.int .i64 ts[k][j].kind, .int .i64 ts[k][j].r, .int .i64 ts[k][j].x, .int .i64 ts[k][j].n] 48)).alloc (.cells #[.int .i64 ts[m][l].kind, .int .i64 ts[m][l].r, .int .i64 ts[m][l].x, .int .i64 ts[m][l].n] 48)).drew := HB4.out.trans ((below_alloc2 wr (.cells #[.int .i64 ts[k][j].kind, .int .i64 ts[k][j].r, .int .i64 ts[k][j].x, .int .i64 ts[k][j].n] 48) (.cells #[.int .i64 ts[m][l].kind, .int .i64 ts[m][l].r, .int .i64 ts[m][l].x, .int .i64 ts[m][l].n] 48)).drew.mono HB4.out.size)
                    obtain ⟨g1, g2⟩ := box2 wr ts[k][j] ts[m][l]
                    obtain ⟨y0, y2⟩ := g1.cells
                    obtain ⟨z0, z2⟩ := g2.cells
                    clear g1 g2
                    have hbF := hb1.trans ((HB3.out.trans (hb9.mono HB3.out.size)).mono hb1.size)
                    have HB9 := Lib.hid hb9
                    have HBF := Lib.hid hbF
                    clear hb9 hbF hbw hbw4 hbv hb1
                    generalize ((wr.alloc (.cells #[.int .i64 ts[k][j].kind, .int .i64 ts[k][j].r, .int .i64 ts[k][j].x, .int .i64 ts[k][j].n] 48)).alloc (.cells #[.int .i64 ts[m][l].kind, .int .i64 ts[m][l].r, .int .i64 ts[m][l].x, .int .i64 ts[m][l].n] 48)).drew = w9 at *
                    obtain ⟨X, hX⟩ : ∃ X, X = ts[k][j] := ⟨_, rfl⟩
                    obtain ⟨Y, hY⟩ : ∃ Y, Y = ts[m][l] := ⟨_, rfl⟩
                    rw [← hX] at y0 y2
                    rw [← hY] at z0 z2
                    have HXE := Lib.hid hX
                    have HYE := Lib.hid hY
                    clear hX hY
                    obtain ⟨xk, xr, xx, xn⟩ := X
                    obtain ⟨yk, yr, yx, yn⟩ := Y
                    dsimp only at y0 y2 z0 z2
                    by_cases hA : xk ≤ 2
                    · by_cases hB : yk ≤ 2
                      · by_cases hC : xk = 2
                        · have HTT : Hid True := trivial
                          have g1 : (xk == (2 : Int)) = true := (by first | (rw [beq_iff_eq]; omega) | (rw [beq_eq_false_iff_ne]; omega))
                          by_cases hkm : k = m
                          · subst hkm
                            have HR9 : Hid (k ≠ k → ∀ y ∈ ts[k].take (l + 1), ¬ badI ts[k][j] y) := fun hne => absurd rfl hne
                            clear HRR
                            go_wp2
                            go_roundw
                            case rel => exact ⟨l + 1, by omega, by go_num, HR9.out, HB9.out⟩
                            case measure => simp [intOf]; omega
                          have hk1 : ((k : Int) == (m : Int)) = false := (by rw [beq_eq_false_iff_ne]; omega)
                          have hk2 : ((k : Int) != (m : Int)) = true := (by simp [hk1, bne])
                          have hk3 : (k == m) = false := (by rw [beq_eq_false_iff_ne]; omega)
                          by_cases hxx : xx = yx
                          · subst hxx
                            go_wp2
                            go_ret
                            unfold PlainR
                            exact ⟨false, rfl, (fun h => by cases h), HBF.out⟩
                          have hx1 : (xx == yx) = false := (by rw [beq_eq_false_iff_ne]; omega)
                          have HNB : Hid (k ≠ m → ¬ badI ⟨xk, xr, xx, xn⟩ ⟨yk, yr, yx, yn⟩) := (by intro hne hb; simp only [badI] at hb; omega)
                          have HR9 := Lib.hid (HRR.out (by rw [← HXE.out, ← HYE.out]; exact HNB.out))
                          clear HNB HRR
                          go_wp2
                          go_roundw
                          case rel => exact ⟨l + 1, by omega, by go_num, HR9.out, HB9.out⟩
                          case measure => simp [intOf]; omega
                        · by_cases hD : yk = 2
                          · have HTT : Hid True := trivial
                            have g1 : (xk == (2 : Int)) = false := (by first | (rw [beq_iff_eq]; omega) | (rw [beq_eq_false_iff_ne]; omega))
                            have g2 : (yk == (2 : Int)) = true := (by first | (rw [beq_iff_eq]; omega) | (rw [beq_eq_false_iff_ne]; omega))
                            by_cases hkm : k = m
                            · subst hkm
                              have HR9 : Hid (k ≠ k → ∀ y ∈ ts[k].take (l + 1), ¬ badI ts[k][j] y) := fun hne => absurd rfl hne
                              clear HRR
                              go_wp2
                              go_roundw
                              case rel => exact ⟨l + 1, by omega, by go_num, HR9.out, HB9.out⟩
                              case measure => simp [intOf]; omega
                            have hk1 : ((k : Int) == (m : Int)) = false := (by rw [beq_eq_false_iff_ne]; omega)
                            have hk2 : ((k : Int) != (m : Int)) = true := (by simp [hk1, bne])
                            have hk3 : (k == m) = false := (by rw [beq_eq_false_iff_ne]; omega)
                            by_cases hxx : xx = yx
                            · subst hxx
                              go_wp2
                              go_ret
                              unfold PlainR
                              exact ⟨false, rfl, (fun h => by cases h), HBF.out⟩
                            have hx1 : (xx == yx) = false := (by rw [beq_eq_false_iff_ne]; omega)
                            have HNB : Hid (k ≠ m → ¬ badI ⟨xk, xr, xx, xn⟩ ⟨yk, yr, yx, yn⟩) := (by intro hne hb; simp only [badI] at hb; omega)
                            have HR9 := Lib.hid (HRR.out (by rw [← HXE.out, ← HYE.out]; exact HNB.out))
                            clear HNB HRR
                            go_wp2
                            go_roundw
                            case rel => exact ⟨l + 1, by omega, by go_num, HR9.out, HB9.out⟩
                            case measure => simp [intOf]; omega
                          · have HTT : Hid True := trivial
                            have g1 : (xk == (2 : Int)) = false := (by first | (rw [beq_iff_eq]; omega) | (rw [beq_eq_false_iff_ne]; omega))
                            have g2 : (yk == (2 : Int)) = false := (by first | (rw [beq_iff_eq]; omega) | (rw [beq_eq_false_iff_ne]; omega))
                            by_cases hkm : k = m
                            · subst hkm
                              have HR9 : Hid (k ≠ k → ∀ y ∈ ts[k].take (l + 1), ¬ badI ts[k][j] y) := fun hne => absurd rfl hne
                              clear HRR
                              go_wp2
                              go_roundw
                              case rel => exact ⟨l + 1, by omega, by go_num, HR9.out, HB9.out⟩
                              case measure => simp [intOf]; omega
                            have hk1 : ((k : Int) == (m : Int)) = false := (by rw [beq_eq_false_iff_ne]; omega)
                            have hk2 : ((k : Int) != (m : Int)) = true := (by simp [hk1, bne])
                            have hk3 : (k == m) = false := (by rw [beq_eq_false_iff_ne]; omega)
                            by_cases hxx : xx = yx
                            · subst hxx
                              have g5 : (xk == (5 : Int)) = false := (by first | (rw [beq_iff_eq]; omega) | (rw [beq_eq_false_iff_ne]; omega))
                              have HNB : Hid (k ≠ m → ¬ badI ⟨xk, xr, xx, xn⟩ ⟨yk, yr, xx, yn⟩) := (by intro hne hb; simp only [badI] at hb; omega)
                              have HR9 := Lib.hid (HRR.out (by rw [← HXE.out, ← HYE.out]; exact HNB.out))
                              clear HNB HRR
                              go_wp2
                              go_roundw
                              case rel => exact ⟨l + 1, by omega, by go_num, HR9.out, HB9.out⟩
                              case measure => simp [intOf]; omega
                            have hx1 : (xx == yx) = false := (by rw [beq_eq_false_iff_ne]; omega)
                            have HNB : Hid (k ≠ m → ¬ badI ⟨xk, xr, xx, xn⟩ ⟨yk, yr, yx, yn⟩) := (by intro hne hb; simp only [badI] at hb; omega)
                            have HR9 := Lib.hid (HRR.out (by rw [← HXE.out, ← HYE.out]; exact HNB.out))
                            clear HNB HRR
                            go_wp2
                            go_roundw
                            case rel => exact ⟨l + 1, by omega, by go_num, HR9.out, HB9.out⟩
                            case measure => simp [intOf]; omega
                      · have HTT : Hid True := trivial
                        by_cases hkm : k = m
                        · subst hkm
                          have HR9 : Hid (k ≠ k → ∀ y ∈ ts[k].take (l + 1), ¬ badI ts[k][j] y) := fun hne => absurd rfl hne
                          clear HRR
                          go_wp2
                          go_roundw
                          case rel => exact ⟨l + 1, by omega, by go_num, HR9.out, HB9.out⟩
                          case measure => simp [intOf]; omega
                        have hk1 : ((k : Int) == (m : Int)) = false := (by rw [beq_eq_false_iff_ne]; omega)
                        have hk2 : ((k : Int) != (m : Int)) = true := (by simp [hk1, bne])
                        have hk3 : (k == m) = false := (by rw [beq_eq_false_iff_ne]; omega)
                        by_cases hxx : xx = yx
                        · subst hxx
                          have g5 : (xk == (5 : Int)) = false := (by first | (rw [beq_iff_eq]; omega) | (rw [beq_eq_false_iff_ne]; omega))
                          have HNB : Hid (k ≠ m → ¬ badI ⟨xk, xr, xx, xn⟩ ⟨yk, yr, xx, yn⟩) := (by intro hne hb; simp only [badI] at hb; omega)
                          have HR9 := Lib.hid (HRR.out (by rw [← HXE.out, ← HYE.out]; exact HNB.out))
                          clear HNB HRR
                          go_wp2
                          go_roundw
                          case rel => exact ⟨l + 1, by omega, by go_num, HR9.out, HB9.out⟩
                          case measure => simp [intOf]; omega
                        have hx1 : (xx == yx) = false := (by rw [beq_eq_false_iff_ne]; omega)
                        have HNB : Hid (k ≠ m → ¬ badI ⟨xk, xr, xx, xn⟩ ⟨yk, yr, yx, yn⟩) := (by intro hne hb; simp only [badI] at hb; omega)
                        have HR9 := Lib.hid (HRR.out (by rw [← HXE.out, ← HYE.out]; exact HNB.out))
                        clear HNB HRR
                        go_wp2
                        go_roundw
                        case rel => exact ⟨l + 1, by omega, by go_num, HR9.out, HB9.out⟩
                        case measure => simp [intOf]; omega
                    · have HTT : Hid True := trivial
                      by_cases hkm : k = m
                      · subst hkm
                        have HR9 : Hid (k ≠ k → ∀ y ∈ ts[k].take (l + 1), ¬ badI ts[k][j] y) := fun hne => absurd rfl hne
                        clear HRR
                        go_wp2
                        go_roundw
                        case rel => exact ⟨l + 1, by omega, by go_num, HR9.out, HB9.out⟩
                        case measure => simp [intOf]; omega
                      have hk1 : ((k : Int) == (m : Int)) = false := (by rw [beq_eq_false_iff_ne]; omega)
                      have hk2 : ((k : Int) != (m : Int)) = true := (by simp [hk1, bne])
                      have hk3 : (k == m) = false := (by rw [beq_eq_false_iff_ne]; omega)
                      by_cases hxx : xx = yx
                      · subst hxx
                        by_cases h5 : xk = 5
                        · by_cases h6 : yk = 5
                          · have HTT : Hid True := trivial
                            have g5 : (xk == (5 : Int)) = true := (by first | (rw [beq_iff_eq]; omega) | (rw [beq_eq_false_iff_ne]; omega))
                            have g6 : (yk == (5 : Int)) = true := (by first | (rw [beq_iff_eq]; omega) | (rw [beq_eq_false_iff_ne]; omega))
                            go_wp2
                            go_ret
                            unfold PlainR
                            exact ⟨false, rfl, (fun h => by cases h), HBF.out⟩
                          · have HTT : Hid True := trivial
                            have g5 : (xk == (5 : Int)) = true := (by first | (rw [beq_iff_eq]; omega) | (rw [beq_eq_false_iff_ne]; omega))
                            have g6 : (yk == (5 : Int)) = false := (by first | (rw [beq_iff_eq]; omega) | (rw [beq_eq_false_iff_ne]; omega))
                            have HNB : Hid (k ≠ m → ¬ badI ⟨xk, xr, xx, xn⟩ ⟨yk, yr, xx, yn⟩) := (by intro hne hb; simp only [badI] at hb; omega)
                            have HR9 := Lib.hid (HRR.out (by rw [← HXE.out, ← HYE.out]; exact HNB.out))
                            clear HNB HRR
                            go_wp2
                            go_roundw
                            case rel => exact ⟨l + 1, by omega, by go_num, HR9.out, HB9.out⟩
                            case measure => simp [intOf]; omega
                        · have HTT : Hid True := trivial
                          have g5 : (xk == (5 : Int)) = false := (by first | (rw [beq_iff_eq]; omega) | (rw [beq_eq_false_iff_ne]; omega))
                          have HNB : Hid (k ≠ m → ¬ badI ⟨xk, xr, xx, xn⟩ ⟨yk, yr, xx, yn⟩) := (by intro hne hb; simp only [badI] at hb; omega)
                          have HR9 := Lib.hid (HRR.out (by rw [← HXE.out, ← HYE.out]; exact HNB.out))
                          clear HNB HRR
                          go_wp2
                          go_roundw
                          case rel => exact ⟨l + 1, by omega, by go_num, HR9.out, HB9.out⟩
                          case measure => simp [intOf]; omega
                      have hx1 : (xx == yx) = false := (by rw [beq_eq_false_iff_ne]; omega)
                      have HNB : Hid (k ≠ m → ¬ badI ⟨xk, xr, xx, xn⟩ ⟨yk, yr, yx, yn⟩) := (by intro hne hb; simp only [badI] at hb; omega)
                      have HR9 := Lib.hid (HRR.out (by rw [← HXE.out, ← HYE.out]; exact HNB.out))
                      clear HNB HRR
                      go_wp2
                      go_roundw
                      case rel => exact ⟨l + 1, by omega, by go_num, HR9.out, HB9.out⟩
                      case measure => simp [intOf]; omega
                  · have hb9 : Below wq.heap.size wq ((wr.alloc (.cells #[.int .i64 ts[m][l].kind, .int .i64 ts[m][l].r, .int .i64 ts[m][l].x, .int .i64 ts[m][l].n] 48)).alloc (.cells #[.int .i64 ts[k][j].kind, .int .i64 ts[k][j].r, .int .i64 ts[k][j].x, .int .i64 ts[k][j].n] 48)).drew := HB4.out.trans ((below_alloc2 wr (.cells #[.int .i64 ts[m][l].kind, .int .i64 ts[m][l].r, .int .i64 ts[m][l].x, .int .i64 ts[m][l].n] 48) (.cells #[.int .i64 ts[k][j].kind, .int .i64 ts[k][j].r, .int .i64 ts[k][j].x, .int .i64 ts[k][j].n] 48)).drew.mono HB4.out.size)
                    obtain ⟨g1, g2⟩ := box2 wr ts[m][l] ts[k][j]
                    obtain ⟨y0, y2⟩ := g1.cells
                    obtain ⟨z0, z2⟩ := g2.cells
                    clear g1 g2
                    have hbF := hb1.trans ((HB3.out.trans (hb9.mono HB3.out.size)).mono hb1.size)
                    have HB9 := Lib.hid hb9
                    have HBF := Lib.hid hbF
                    clear hb9 hbF hbw hbw4 hbv hb1
                    generalize ((wr.alloc (.cells #[.int .i64 ts[m][l].kind, .int .i64 ts[m][l].r, .int .i64 ts[m][l].x, .int .i64 ts[m][l].n] 48)).alloc (.cells #[.int .i64 ts[k][j].kind, .int .i64 ts[k][j].r, .int .i64 ts[k][j].x, .int .i64 ts[k][j].n] 48)).drew = w9 at *
                    obtain ⟨X, hX⟩ : ∃ X, X = ts[k][j] := ⟨_, rfl⟩
                    obtain ⟨Y, hY⟩ : ∃ Y, Y = ts[m][l] := ⟨_, rfl⟩
                    rw [← hY] at y0 y2
                    rw [← hX] at z0 z2
                    have HXE := Lib.hid hX
                    have HYE := Lib.hid hY
                    clear hX hY
                    obtain ⟨xk, xr, xx, xn⟩ := X
                    obtain ⟨yk, yr, yx, yn⟩ := Y
                    dsimp only at y0 y2 z0 z2
                    by_cases hA : xk ≤ 2
                    · by_cases hB : yk ≤ 2
                      · by_cases hC : xk = 2
                        · have HTT : Hid True := trivial
                          have g1 : (xk == (2 : Int)) = true := (by first | (rw [beq_iff_eq]; omega) | (rw [beq_eq_false_iff_ne]; omega))
                          by_cases hkm : k = m
                          · subst hkm
                            have HR9 : Hid (k ≠ k → ∀ y ∈ ts[k].take (l + 1), ¬ badI ts[k][j] y) := fun hne => absurd rfl hne
                            clear HRR
                            go_wp2
                            go_roundw
                            case rel => exact ⟨l + 1, by omega, by go_num, HR9.out, HB9.out⟩
                            case measure => simp [intOf]; omega
                          have hk1 : ((k : Int) == (m : Int)) = false := (by rw [beq_eq_false_iff_ne]; omega)
                          have hk2 : ((k : Int) != (m : Int)) = true := (by simp [hk1, bne])
                          have hk3 : (k == m) = false := (by rw [beq_eq_false_iff_ne]; omega)
                          by_cases hxx : xx = yx
                          · subst hxx
                            go_wp2
                            go_ret
                            unfold PlainR
                            exact ⟨false, rfl, (fun h => by cases h), HBF.out⟩
                          have hx1 : (xx == yx) = false := (by rw [beq_eq_false_iff_ne]; omega)
                          have HNB : Hid (k ≠ m → ¬ badI ⟨xk, xr, xx, xn⟩ ⟨yk, yr, yx, yn⟩) := (by intro hne hb; simp only [badI] at hb; omega)
                          have HR9 := Lib.hid (HRR.out (by rw [← HXE.out, ← HYE.out]; exact HNB.out))
                          clear HNB HRR
                          go_wp2
                          go_roundw
                          case rel => exact ⟨l + 1, by omega, by go_num, HR9.out, HB9.out⟩
                          case measure => simp [intOf]; omega
                        · by_cases hD : yk = 2
                          · have HTT : Hid True := trivial
                            have g1 : (xk == (2 : Int)) = false := (by first | (rw [beq_iff_eq]; omega) | (rw [beq_eq_false_iff_ne]; omega))
                            have g2 : (yk == (2 : Int)) = true := (by first | (rw [beq_iff_eq]; omega) | (rw [beq_eq_false_iff_ne]; omega))
                            by_cases hkm : k = m
                            · subst hkm
                              have HR9 : Hid (k ≠ k → ∀ y ∈ ts[k].take (l + 1), ¬ badI ts[k][j] y) := fun hne => absurd rfl hne
                              clear HRR
                              go_wp2
                              go_roundw
                              case rel => exact ⟨l + 1, by omega, by go_num, HR9.out, HB9.out⟩
                              case measure => simp [intOf]; omega
                            have hk1 : ((k : Int) == (m : Int)) = false := (by rw [beq_eq_false_iff_ne]; omega)
                            have hk2 : ((k : Int) != (m : Int)) = true := (by simp [hk1, bne])
                            have hk3 : (k == m) = false := (by rw [beq_eq_false_iff_ne]; omega)
                            by_cases hxx : xx = yx
                            · subst hxx
                              go_wp2
                              go_ret
                              unfold PlainR
                              exact ⟨false, rfl, (fun h => by cases h), HBF.out⟩
                            have hx1 : (xx == yx) = false := (by rw [beq_eq_false_iff_ne]; omega)
                            have HNB : Hid (k ≠ m → ¬ badI ⟨xk, xr, xx, xn⟩ ⟨yk, yr, yx, yn⟩) := (by intro hne hb; simp only [badI] at hb; omega)
                            have HR9 := Lib.hid (HRR.out (by rw [← HXE.out, ← HYE.out]; exact HNB.out))
                            clear HNB HRR
                            go_wp2
                            go_roundw
                            case rel => exact ⟨l + 1, by omega, by go_num, HR9.out, HB9.out⟩
                            case measure => simp [intOf]; omega
                          · have HTT : Hid True := trivial
                            have g1 : (xk == (2 : Int)) = false := (by first | (rw [beq_iff_eq]; omega) | (rw [beq_eq_false_iff_ne]; omega))
                            have g2 : (yk == (2 : Int)) = false := (by first | (rw [beq_iff_eq]; omega) | (rw [beq_eq_false_iff_ne]; omega))
                            by_cases hkm : k = m
                            · subst hkm
                              have HR9 : Hid (k ≠ k → ∀ y ∈ ts[k].take (l + 1), ¬ badI ts[k][j] y) := fun hne => absurd rfl hne
                              clear HRR
                              go_wp2
                              go_roundw
                              case rel => exact ⟨l + 1, by omega, by go_num, HR9.out, HB9.out⟩
                              case measure => simp [intOf]; omega
                            have hk1 : ((k : Int) == (m : Int)) = false := (by rw [beq_eq_false_iff_ne]; omega)
                            have hk2 : ((k : Int) != (m : Int)) = true := (by simp [hk1, bne])
                            have hk3 : (k == m) = false := (by rw [beq_eq_false_iff_ne]; omega)
                            by_cases hxx : xx = yx
                            · subst hxx
                              have g5 : (xk == (5 : Int)) = false := (by first | (rw [beq_iff_eq]; omega) | (rw [beq_eq_false_iff_ne]; omega))
                              have HNB : Hid (k ≠ m → ¬ badI ⟨xk, xr, xx, xn⟩ ⟨yk, yr, xx, yn⟩) := (by intro hne hb; simp only [badI] at hb; omega)
                              have HR9 := Lib.hid (HRR.out (by rw [← HXE.out, ← HYE.out]; exact HNB.out))
                              clear HNB HRR
                              go_wp2
                              go_roundw
                              case rel => exact ⟨l + 1, by omega, by go_num, HR9.out, HB9.out⟩
                              case measure => simp [intOf]; omega
                            have hx1 : (xx == yx) = false := (by rw [beq_eq_false_iff_ne]; omega)
                            have HNB : Hid (k ≠ m → ¬ badI ⟨xk, xr, xx, xn⟩ ⟨yk, yr, yx, yn⟩) := (by intro hne hb; simp only [badI] at hb; omega)
                            have HR9 := Lib.hid (HRR.out (by rw [← HXE.out, ← HYE.out]; exact HNB.out))
                            clear HNB HRR
                            go_wp2
                            go_roundw
                            case rel => exact ⟨l + 1, by omega, by go_num, HR9.out, HB9.out⟩
                            case measure => simp [intOf]; omega
                      · have HTT : Hid True := trivial
                        by_cases hkm : k = m
                        · subst hkm
                          have HR9 : Hid (k ≠ k → ∀ y ∈ ts[k].take (l + 1), ¬ badI ts[k][j] y) := fun hne => absurd rfl hne
                          clear HRR
                          go_wp2
                          go_roundw
                          case rel => exact ⟨l + 1, by omega, by go_num, HR9.out, HB9.out⟩
                          case measure => simp [intOf]; omega
                        have hk1 : ((k : Int) == (m : Int)) = false := (by rw [beq_eq_false_iff_ne]; omega)
                        have hk2 : ((k : Int) != (m : Int)) = true := (by simp [hk1, bne])
                        have hk3 : (k == m) = false := (by rw [beq_eq_false_iff_ne]; omega)
                        by_cases hxx : xx = yx
                        · subst hxx
                          have g5 : (xk == (5 : Int)) = false := (by first | (rw [beq_iff_eq]; omega) | (rw [beq_eq_false_iff_ne]; omega))
                          have HNB : Hid (k ≠ m → ¬ badI ⟨xk, xr, xx, xn⟩ ⟨yk, yr, xx, yn⟩) := (by intro hne hb; simp only [badI] at hb; omega)
                          have HR9 := Lib.hid (HRR.out (by rw [← HXE.out, ← HYE.out]; exact HNB.out))
                          clear HNB HRR
                          go_wp2
                          go_roundw
                          case rel => exact ⟨l + 1, by omega, by go_num, HR9.out, HB9.out⟩
                          case measure => simp [intOf]; omega
                        have hx1 : (xx == yx) = false := (by rw [beq_eq_false_iff_ne]; omega)
                        have HNB : Hid (k ≠ m → ¬ badI ⟨xk, xr, xx, xn⟩ ⟨yk, yr, yx, yn⟩) := (by intro hne hb; simp only [badI] at hb; omega)
                        have HR9 := Lib.hid (HRR.out (by rw [← HXE.out, ← HYE.out]; exact HNB.out))
                        clear HNB HRR
                        go_wp2
                        go_roundw
                        case rel => exact ⟨l + 1, by omega, by go_num, HR9.out, HB9.out⟩
                        case measure => simp [intOf]; omega
                    · have HTT : Hid True := trivial
                      by_cases hkm : k = m
                      · subst hkm
                        have HR9 : Hid (k ≠ k → ∀ y ∈ ts[k].take (l + 1), ¬ badI ts[k][j] y) := fun hne => absurd rfl hne
                        clear HRR
                        go_wp2
                        go_roundw
                        case rel => exact ⟨l + 1, by omega, by go_num, HR9.out, HB9.out⟩
                        case measure => simp [intOf]; omega
                      have hk1 : ((k : Int) == (m : Int)) = false := (by rw [beq_eq_false_iff_ne]; omega)
                      have hk2 : ((k : Int) != (m : Int)) = true := (by simp [hk1, bne])
                      have hk3 : (k == m) = false := (by rw [beq_eq_false_iff_ne]; omega)
                      by_cases hxx : xx = yx
                      · subst hxx
                        by_cases h5 : xk = 5
                        · by_cases h6 : yk = 5
                          · have HTT : Hid True := trivial
                            have g5 : (xk == (5 : Int)) = true := (by first | (rw [beq_iff_eq]; omega) | (rw [beq_eq_false_iff_ne]; omega))
                            have g6 : (yk == (5 : Int)) = true := (by first | (rw [beq_iff_eq]; omega) | (rw [beq_eq_false_iff_ne]; omega))
                            go_wp2
                            go_ret
                            unfold PlainR
                            exact ⟨false, rfl, (fun h => by cases h), HBF.out⟩
                          · have HTT : Hid True := trivial
                            have g5 : (xk == (5 : Int)) = true := (by first | (rw [beq_iff_eq]; omega) | (rw [beq_eq_false_iff_ne]; omega))
                            have g6 : (yk == (5 : Int)) = false := (by first | (rw [beq_iff_eq]; omega) | (rw [beq_eq_false_iff_ne]; omega))
                            have HNB : Hid (k ≠ m → ¬ badI ⟨xk, xr, xx, xn⟩ ⟨yk, yr, xx, yn⟩) := (by intro hne hb; simp only [badI] at hb; omega)
                            have HR9 := Lib.hid (HRR.out (by rw [← HXE.out, ← HYE.out]; exact HNB.out))
                            clear HNB HRR
                            go_wp2
                            go_roundw
                            case rel => exact ⟨l + 1, by omega, by go_num, HR9.out, HB9.out⟩
                            case measure => simp [intOf]; omega
                        · have HTT : Hid True := trivial
                          have g5 : (xk == (5 : Int)) = false := (by first | (rw [beq_iff_eq]; omega) | (rw [beq_eq_false_iff_ne]; omega))
                          have HNB : Hid (k ≠ m → ¬ badI ⟨xk, xr, xx, xn⟩ ⟨yk, yr, xx, yn⟩) := (by intro hne hb; simp only [badI] at hb; omega)
                          have HR9 := Lib.hid (HRR.out (by rw [← HXE.out, ← HYE.out]; exact HNB.out))
                          clear HNB HRR
                          go_wp2
                          go_roundw
                          case rel => exact ⟨l + 1, by omega, by go_num, HR9.out, HB9.out⟩
                          case measure => simp [intOf]; omega
                      have hx1 : (xx == yx) = false := (by rw [beq_eq_false_iff_ne]; omega)
                      have HNB : Hid (k ≠ m → ¬ badI ⟨xk, xr, xx, xn⟩ ⟨yk, yr, yx, yn⟩) := (by intro hne hb; simp only [badI] at hb; omega)
                      have HR9 := Lib.hid (HRR.out (by rw [← HXE.out, ← HYE.out]; exact HNB.out))
                      clear HNB HRR
                      go_wp2
                      go_roundw
                      case rel => exact ⟨l + 1, by omega, by go_num, HR9.out, HB9.out⟩
                      case measure => simp [intOf]; omega
                · obtain rfl : l = ts[m].length := by omega
                  have HR : Hid (k ≠ m → ∀ x ∈ ts[k].take (j + 1), ∀ y ∈ ts[m], ¬ badI x y) := by
                    intro hne x hx y hy
                    rw [List.take_succ_eq_append_getElem hjl, List.mem_append, List.mem_singleton] at hx
                    rcases hx with hx | rfl
                    · exact HA3.out hne x hx y hy
                    · exact HA4.out hne y (by rw [List.take_length]; exact hy)
                  go_wp2_with fail
                  go_roundw
                  case rel => exact ⟨j + 1, by omega, by go_num, HR, hbv⟩
                  case measure => simp [intOf]; omega
            · obtain rfl : j = ts[k].length := by omega
              have HR : Hid (∀ u, u < m + 1 → okTU ts k u) := by
                intro u hu hne x hx y hy
                by_cases hum : u = m
                · subst hum
                  refine HA3.out hne x ?_ y ?_
                  · rw [List.take_length]; simpa [List.getD, hlt] using hx
                  · simpa [List.getD, hlm] using hy
                · exact HA2.out u (by omega) hne x hx y hy
              go_wp2_with fail
              go_roundw
              case rel => exact ⟨m + 1, by omega, by go_num, HR, HB3.out⟩
              case measure => simp [intOf]; omega
        · obtain rfl : m = ts.length := by omega
          have HR : Hid (∀ t, t < k + 1 → ∀ u, u < ts.length → okTU ts t u) := by
            intro t ht u hu
            by_cases htk : t = k
            · subst htk; exact HA2.out u hu
            · exact HA.out t (by omega) u hu
          go_wp2_with fail
          go_roundw
          case rel => exact ⟨k + 1, by omega, by go_num, HR, HB2.out⟩
          case measure => simp [intOf]; omega
    · obtain rfl : k = ts.length := by omega
      have hbw := hb1.trans (HB.out.mono hb1.size)
      have HR : Hid (ShareNo ⟨V, M, ts⟩) := fun t u ht hu hne x hx y hy => HA.out t ht u hu hne x hx y hy
      go_wp2_with fail
      go_ret
      unfold PlainR
      exact ⟨true, rfl, fun _ => HR.out, hbw⟩

end Go.Proofs.YtnldkmcijmbhcaaGreat

/- The law SeqPlain, walked. -/
namespace Go.Proofs.YtnldkmcijmbhcaaGreat
open Go.RowKit

theorem seqPlain_any (p : Pg) (a : Option Addr) (cap : Nat) (fuel : Int) (oa : Option Addr) (ns : List Int) (oc : Nat) (w : World) (hp : ThreadsAt w a p.threads) (hord : BytesAt w oa ns) (hon : oa = none → oc = 0 ∧ ns = []) (hbs : ∀ n ∈ ns, 0 ≤ n ∧ n < 256) :
    Calls Tryz.prog 4 #[.agg #[.int .i64 p.vars, .int .i64 p.mutexes, .slice a p.threads.length cap], .int .i64 fuel, .slice oa ns.length oc] w fun r w' => r = .returned (.bool true) ∧ Below w.heap.size w w' :=
  seqPlain_of (Lib.hid fun q x y W h => plain9_any q x y W h) p a cap fuel oa ns oc w hp hord hon hbs

end Go.Proofs.YtnldkmcijmbhcaaGreat

/-
  SeqPlain: of a program whose threads share nothing there is one run, and nobody is kept back: the law answers true, and its arguments read as they did.
  For every input, whatever its size and however its parts share memory; nothing is asked of it but what the statement's own form asks.
-/
namespace Go.Proofs.YtnldkmcijmbhcaaGreat.seqPlain
open Go.ChangeShapes Go.WideShapes Go.ChangeAt Go.RowKit

theorem own : ownKnob Tryz.prog.godebug = none := by kernel_rfl
theorem laidOut : laidOutB Tryz.prog = true := by kernel_rfl

set_option maxRecDepth 100000 in
theorem lifted (os : Os) (started : os.Started) (H : Type) (enc : TypeId × Value → H) :
    ReturnsInHanded {} Tryz.checked os 4 .any (Rows.seqPlainSpec.pre6 enc Tryz.prog Tryz.f4 Rows.seqPlainRow.domain false) (Rows.seqPlainSpec.post enc Tryz.prog Tryz.f4 false true false false) := by
  refine returnsInHanded_of_change (C := Tryz.checked) own started (by kernel_rfl) Tryz.func4
    (ChangeSpec.witness6 (enc := enc) (C := Tryz.checked) false ⟨#[], #[.agg #[.int .i64 0, .int .i64 0, .slice none 0 0], .int .i64 0, .slice none 0 0], []⟩ 8 (by kernel_rfl) (by kernel_rfl) (by kernel_rfl) (by kernel_rfl)) ?_
  intro W base args ds gs before hval0 hW hcnd _
  have hval : ∀ (j : Nat) t v, Tryz.f4.params[j]? = some t → args[j]? = some v → Value.okWide Tryz.prog W .any base t v := hval0
  have hW' := hW
  obtain ⟨p, q, hA0, hV, rfl, hfz, hnd⟩ := hW
  have hA : DataW.TrodAll enc Tryz.prog W 0 (fun _ => true) true Tryz.f4.params.toList args.toList ds p := hA0
  rw [Tryz.params4] at hA hval
  obtain ⟨v0, vs0, d0, ds0, p0, q0, hargs, rfl, rfl, h0, r0⟩ := trodAll_cons hA
  obtain ⟨v1, vs1, d1, ds1, p1, q1, rfl, rfl, rfl, h1, r1⟩ := trodAll_cons r0
  obtain ⟨v2, vs2, d2, ds2, p2, q2, rfl, rfl, rfl, h2, r2⟩ := trodAll_cons r1
  obtain ⟨rfl, rfl, rfl⟩ := trodAll_nil r2
  obtain rfl : args = #[v0, v1, v2] := by cases args; simp_all
  obtain ⟨rfl, rfl⟩ := trodVars_none hV
  have k0 := h0
  have lt0 : ∀ x ∈ p0, x.block < W.heap.size := by obtain ⟨m, hm⟩ := k0; exact DataW.trod_lt m _ _ _ hm
  have k1 := h1
  have lt1 : ∀ x ∈ p1, x.block < W.heap.size := by obtain ⟨m, hm⟩ := k1; exact DataW.trod_lt m _ _ _ hm
  have k2 := h2
  have lt2 : ∀ x ∈ p2, x.block < W.heap.size := by obtain ⟨m, hm⟩ := k2; exact DataW.trod_lt m _ _ _ hm
  obtain ⟨pg0, a0, cap0, rfl, hx0, _⟩ := prog_of_trod (hval 0 24 v0 rfl rfl) h0
  obtain ⟨n1, rfl, hx1⟩ := int_of_trod (hval 1 3 v1 rfl rfl) h1
  obtain ⟨a2, ns2, cap2, rfl, hx2, hr2, hn2⟩ := bytes2_of_trod (hval 2 25 v2 rfl rfl) h2
  clear hA0 hval0
  refine (seqPlain_any pg0 a0 cap0 n1 a2 ns2 cap2 W hx0 hx2 (bytes_none hx2 hn2) hr2).mono fun e W' ⟨he, bel⟩ => ?_
  subst he
  exact ⟨_, rfl, _, _, _, [], _, [], hW', trodAll_mk1 (shut_bool Tryz.underlying4 _), (trodAll_cons_mk (Below.trod laidOut (by kernel_rfl) (of_decide_eq_true (by kernel_rfl)) k0 bel lt0) (trodAll_cons_mk (Below.trod laidOut (by kernel_rfl) (of_decide_eq_true (by kernel_rfl)) k1 bel lt1) (trodAll_cons_mk (Below.trod laidOut (by kernel_rfl) (of_decide_eq_true (by kernel_rfl)) k2 bel lt2) trodAll_mk0))), rfl, bel.frame _, fun h => by cases h⟩

theorem over : Rows.seqPlainRow.holds Tryz.pinned (OpenSpec.ofChange Rows.seqPlainSpec) :=
  OpenClaim.holds_of_wide 4 Tryz.f4 rfl rfl rfl rfl rfl rfl rfl ⟨rfl, rfl, rfl, rfl, rfl⟩ rfl rfl rfl rfl rfl (by kernel_rfl) Tryz.func4 (by kernel_rfl)
    (of_decide_eq_true (by kernel_rfl)) (by unfold Func.isWrapper; first | (rw [if_pos (by decide +kernel)]; kernel_rfl) | (rw [if_neg (by decide +kernel)]; exact ⟨rfl, rfl⟩))
    (fun os started H enc _ => lifted os started H enc)

theorem proved : Rows.SeqPlainSaid := over
end Go.Proofs.YtnldkmcijmbhcaaGreat.seqPlain
