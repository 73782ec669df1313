/-
  SeqGrows: by the same order a greater budget tells no key less and makes no node less, and two explorations by one order are the same: the law answers true, and its arguments read as they did.
  For every input, whatever its size and however its parts share memory; nothing is asked of it but what the statement's own form asks.
-/
import Derived.Maps.OwnOps
import Derived.Maps.OwnSet
import Derived.Maps.Views
import Derived.Sort.Walk0
import Derived.OwnWalk
import Derived.IntWalk
import Derived.BigGuard
import Derived.WalkKit
import Derived.ProofKit
import Derived.OpenShut
import Derived.Test.YtnldkmcijmbhcaaGreatRows
import Derived.Test.YtnldkmcijmbhcaaGreatPk01
import Derived.Test.YtnldkmcijmbhcaaGreatPk06
import Derived.Test.YtnldkmcijmbhcaaGreatPk18
import Derived.Test.YtnldkmcijmbhcaaGreatPk22
import Derived.Test.YtnldkmcijmbhcaaGreatPk23

/- The contracts of the law's in, of rising keys that all lie among others, and of Fits. -/
namespace Go.Proofs.YtnldkmcijmbhcaaGreat
open Go.RowKit Go.Maps Go.Sort

theorem inLaw : Keyed Tryz.prog 9 := string_keyed Tryz.underlying9
theorem inZero (w : World) : (zeroValue 4).run Tryz.prog w = .ok (.bool false) w := by kernel_rfl
theorem inElem (x : Bool) : plainElem (H := Unit) Tryz.prog 4 (.bool x) = some (.lit (.bool x), []) := plainElem_bool Tryz.underlying4 x
set_option maxRecDepth 100000 in
theorem inElem_inv {v : Value} {b : Bool} {ps : List MemPlace} (h : plainElem (H := Unit) Tryz.prog 4 v = some (.lit (.bool b), ps)) : v = .bool b := by
  unfold plainElem at h
  simp only [Tryz.underlying4] at h
  cases v <;> simp at h
  rw [h.1]
theorem inKey {k : Key} (h : k.length ≤ maxLen) : keyOf Tryz.prog 9 (.string ⟨k.toArray⟩) = some (.string k) := by
  have := WideMaps.keyOf_string_mk (P := Tryz.prog) Tryz.underlying9 (s := ⟨k.toArray⟩) (by simpa [ByteArray.size] using h)
  simpa using this
theorem in_block {k : TypeId} {R : Value → Option (DataW Unit × List MemPlace)} {b n : Nat} {D : DataW Unit} {w w' : World} (h : w.ownsMap Tryz.prog k R b n D) (e : w'.heap[b]? = w.heap[b]?) : w'.ownsMap Tryz.prog k R b n D := by
  obtain ⟨es, c, h1, h2⟩ := h
  exact ⟨es, c, e.trans h1, h2⟩
/-- The map has the first j keys. -/
def InD (D : DataW Unit) (ks : List Key) (j : Nat) : Prop := ∀ k ∈ ks.take j, D.atKey (.string k) (.lit (.bool false)) = .lit (.bool true)
theorem InD.put {D : DataW Unit} {ks : List Key} {j : Nat} (h : InD D ks j) (hD : IsMap D) (hj : j < ks.length) : InD (D.put (.string ks[j]) (.lit (.bool true))) ks (j + 1) := by
  intro k hk
  by_cases e : k = ks[j]
  · subst e
    rw [atKey_put_same hD (by simp [WideAt.IsKeyLit])]
  · rw [atKey_put_other (by intro e2; injection e2 with e2; exact e e2)]
    rw [List.take_succ_eq_append_getElem hj, List.mem_append, List.mem_singleton] at hk
    exact h k (hk.resolve_right e)

set_option maxRecDepth 100000 in
set_option maxHeartbeats 2000000 in
theorem in_any (a b : Option Addr) (ac bc : Nat) (ks ls : List Key) (w : World) (hka : RowAt w a 1 strCell ks) (hlb : RowAt w b 1 strCell ls) (hk : ks.length ≤ 1000000) (hl : ls.length ≤ 1000000) (hlen : ∀ k ∈ ls, k.length ≤ maxLen) (hsub : ∀ k ∈ ks, k ∈ ls) (hris : ∀ i (h : i + 1 < ks.length), ks[i] < ks[i + 1]) :
    Calls Tryz.prog 11 #[.slice a ks.length ac, .slice b ls.length bc] w fun r w' => r = .returned (.bool true) ∧ Below w.heap.size w w' := by
  have HKA := Lib.hid hka
  have HLB := Lib.hid hlb
  have HLEN := Lib.hid hlen
  have HSUB := Lib.hid hsub
  have HRIS := Lib.hid hris
  clear hka hlb hlen hsub hris
  have hmm := @run_makeMap Tryz.prog
  have HM0 : Hid ((w.alloc (.map #[] 0)).ownsMap (H := Unit) Tryz.prog 9 (plainElem Tryz.prog 4) w.heap.size 0 (.map [])) := World.ownsMap_made _ _ _ _
  have HB0 : Hid (Below w.heap.size w (w.alloc (.map #[] 0))) := below_alloc1 _ _
  go_enter Tryz.func11, Tryz.ntmps11
  go_wp2
  clear hmm
  go_loopw [13] (fun i wr => ∃ (j : Nat) (D : DataW Unit), j ≤ ls.length ∧ i = .int .i64 j ∧ Hid (wr.ownsMap Tryz.prog 9 (plainElem Tryz.prog 4) w.heap.size j D) ∧ Hid (InD D ls j) ∧ Hid (Below w.heap.size w wr)) (fun i _ => ls.length - (intOf i).toNat)
  case atStart => exact ⟨0, .map [], Nat.zero_le _, rfl, HM0, (fun k hk => by simp at hk), HB0⟩
  case round =>
    clear HM0 HB0
    obtain ⟨j, D, hj, rfl, HM, HD, HB⟩ := hrel
    by_cases hlt : j < ls.length
    · obtain ⟨lb, lo, rfl, c0⟩ := HLB.out.str hlt
      have c1 := cell_later HB.out c0
      have HI := Lib.hid (HD.out.put HM.out.isMap hlt)
      have HKEY := Lib.hid (inKey (HLEN.out _ (List.getElem_mem hlt)))
      have hown := HM.out
      clear c0
      generalize ls[j] = x at *
      go_wp2_with (at_mapUpdate; refine wpList_mapUpdate_own _ rfl _ _ _ 65 rfl 9 4 inLaw Tryz.underlying65 _ w.heap.size j D rfl hown (by unfold maxLen; omega) _ _ _ rfl rfl HKEY.out _ [] (inElem true) ?_; intro w6 hown6 hgrow6)
      have HM6 := Lib.hid hown6
      have HB6 : Hid (Below w.heap.size w w6) := HB.out.grown hgrow6 HB.out.size (fun k hk => by injection hk with hk; omega)
      go_roundw
      case rel => exact ⟨j + 1, _, by omega, by go_num, HM6, HI, HB6⟩
      case measure => simp [intOf]; omega
    · obtain rfl : j = ls.length := by omega
      have HD2 : Hid (∀ k ∈ ks, D.atKey (.string k) (.lit (.bool false)) = .lit (.bool true)) := fun k hk => HD.out k (by rw [List.take_length]; exact HSUB.out k hk)
      go_wp2
      obtain ⟨wo, hwo⟩ : ∃ x, x = wr := ⟨_, rfl⟩
      subst hwo
      go_loopw [22] (fun i w2 => ∃ m : Nat, m ≤ ks.length ∧ i = .int .i64 m ∧ Hid (Below wo.heap.size wo w2)) (fun i _ => ks.length - (intOf i).toNat)
      case atStart => exact ⟨0, Nat.zero_le _, rfl, Below.refl _ _⟩
      case round =>
        obtain ⟨m, hm, rfl, HQ⟩ := hrel
        have HBQ := Lib.hid (HB.out.trans (HQ.out.mono HB.out.size))
        have HMQ := Lib.hid (in_block HM.out (HQ.out.block _ HM.out.lt))
        by_cases hmt : m < ks.length
        · obtain ⟨kb, ko, rfl, c0⟩ := HKA.out.str hmt
          have c1 := cell_later HBQ.out c0
          have HKEY := Lib.hid (inKey (HLEN.out _ (HSUB.out _ (List.getElem_mem hmt))))
          obtain ⟨v, ps, hrun, hv⟩ := HMQ.out.lookup inLaw Tryz.underlying65 (inZero wr) (inElem false) HKEY.out
          rw [HD2.out _ (List.getElem_mem hmt)] at hv
          rw [inElem_inv hv] at hrun
          clear hv c0
          by_cases hm0 : m = 0
          · subst hm0
            simp only [Nat.add_zero] at c1
            have hz : decide ((0 : Int) < ((0 : Nat) : Int)) = false := by simp
            generalize ks[0] = x at *
            go_wp2
            go_roundw
            case rel => exact ⟨1, by omega, by go_num, HQ.out⟩
            case measure => simp [intOf]; omega
          · obtain ⟨i, rfl⟩ : ∃ i, m = i + 1 := ⟨m - 1, by omega⟩
            have hi : i < ks.length := by omega
            obtain ⟨kb2, ko2, he, d0⟩ := HKA.out.str hi
            obtain ⟨rfl, rfl⟩ : kb2 = kb ∧ ko2 = ko := by injection he with he; injection he with h1 h2; exact ⟨h1.symm, h2.symm⟩
            have d1 := cell_later HBQ.out d0
            have hls : Op.bytesLess ks[i] ks[i + 1] = true := by rw [bytesLess_eq]; simp [HRIS.out i hmt]
            clear d0 he
            generalize ks[i] = y at *
            generalize ks[i + 1] = x at *
            have hpos : (0 : Int) < ((i + 1 : Nat) : Int) := by omega
            go_wp2
            go_roundw
            case rel => exact ⟨i + 1 + 1, by omega, by go_num, HQ.out⟩
            case measure => simp [intOf]; omega
        · obtain rfl : m = ks.length := by omega
          go_wp2
          go_ret
          exact ⟨rfl, HBQ.out⟩

set_option maxRecDepth 100000 in
theorem fits_any (m : Nat) (b : Int) (w : World) : Calls Tryz.prog 13 #[.int .i64 (m : Int), .int .i64 b] w fun r w' => r = .returned (.bool (decide ((m : Int) ≤ b))) ∧ w = w' := by
  go_enter Tryz.func13, Tryz.ntmps13
  go_wp2
  go_ret
  exact ⟨by simp, rfl⟩

end Go.Proofs.YtnldkmcijmbhcaaGreat

/- Conversions to uint, and remainders. -/
namespace Go.Proofs.YtnldkmcijmbhcaaGreat
open Go.RowKit

theorem wrap_u (n : Int) : ∃ m : Int, IntKind.u64.wrap n = m ∧ 0 ≤ m := by
  refine ⟨_, rfl, ?_⟩
  unfold IntKind.wrap
  simp [IntKind.signed, IntKind.bits]
  omega
theorem wrap_u_small (n : Int) (h0 : 0 ≤ n) (h1 : n ≤ 1000000) : IntKind.u64.wrap n = n := by
  unfold IntKind.wrap
  simp [IntKind.signed, IntKind.bits]
  omega
theorem tmod_nat (m : Int) (h0 : 0 ≤ m) (n : Nat) (h1 : 1 ≤ n) : ∃ k : Nat, m.tmod (n : Int) = k ∧ k < n := by
  rw [Int.tmod_eq_emod_of_nonneg h0]
  have a := Int.emod_nonneg m (b := (n : Int)) (by omega)
  have b := Int.emod_lt_of_pos m (b := (n : Int)) (by omega)
  exact ⟨(m % (n : Int)).toNat, by omega, by omega⟩

end Go.Proofs.YtnldkmcijmbhcaaGreat

/- The law SeqGrows, walked. -/
namespace Go.Proofs.YtnldkmcijmbhcaaGreat
open Go.RowKit

def Rise (l : List Key) : Prop := ∀ i (h : i + 1 < l.length), l[i] < l[i + 1]
theorem sortK_less (ks : List Key) : Rise (sortK ks) := by
  have h := (putAll ks [] List.Pairwise.nil).1
  rw [putAll_sortK] at h
  intro i hi
  exact List.pairwise_iff_getElem.1 h i (i + 1) (by omega) hi (by omega)
theorem part_facts (p : Pg) (fuel : Int) (order : List Int) (b : Nat) (hok : okPg p fuel) (hle : preW p fuel ≤ 600) : (endX (s0 p fuel) order b).nodes ≤ max b 1 ∧ (endX (s0 p fuel) order b).nodes ≤ 600 ∧ (sortK (endX (s0 p fuel) order b).keys).length = (endX (s0 p fuel) order b).runs ∧ (endX (s0 p fuel) order b).runs ≤ 600 ∧ (endX (s0 p fuel) order b).blocked ≤ 600 ∧
    (∀ k ∈ sortK (endX (s0 p fuel) order b).keys, k ∈ sortK (keysOf (runsW p fuel))) ∧ (endX (s0 p fuel) order b).runs + (endX (s0 p fuel) order b).blocked ≤ (endX (s0 p fuel) order b).nodes ∧
    (anyX (endX (s0 p fuel) order b) = false → sortK (endX (s0 p fuel) order b).keys = sortK (keysOf (runsW p fuel))) ∧ (anyX (endX (s0 p fuel) order b) = true → (b : Int) < (preW p fuel : Nat)) := by
  have ok : (s0 p fuel).Ok fuel.toNat := new_ok hok.1 fuel.toNat (by have := hok.2; omega)
  obtain ⟨e1, e2, e3, e4, e5, e6, _⟩ := end_part (order := order) (b := (b : Int)) ok
  have h1 := end_nodes (s0 p fuel) order b
  obtain ⟨x1, x2, x3, x4⟩ := exp_len p fuel b order hok hle
  refine ⟨by omega, x1, x4, x2, x3, fun k hk => ?_, e5, fun h => (e6 h).1, fun h => ?_⟩
  · rw [mem_sortK] at hk ⊢
    exact e4 k hk
  · by_cases h2 : ((preW p fuel : Nat) : Int) ≤ b
    · rw [end_exact (order := order) ok h2] at h
      cases h
    · omega
theorem keyB_len9 (l : List Ev) : (keyB l).length ≤ 1000 := by
  unfold keyB
  rw [u8s_length]
  unfold keyF
  split
  · rename_i h
    unfold rightF at h
    simp only [Bool.and_eq_true, decide_eq_true_eq] at h
    unfold spellB
    have h1 := lvB_len (lvls l) (lvls l).length
    rw [List.take_length] at h1
    have := lvls_count l
    have := lv_count l
    rw [List.length_append, List.length_singleton]
    omega
  · simp
theorem keys_maxLen (p : Pg) (fuel : Int) : ∀ k ∈ sortK (keysOf (runsW p fuel)), k.length ≤ maxLen := by
  intro k hk
  rw [mem_sortK] at hk
  unfold keysOf at hk
  obtain ⟨x, _, rfl⟩ := List.mem_map.1 hk
  have := keyB_len9 x.2
  unfold maxLen
  omega
theorem mod_lit (z : Int) (n : Nat) (hn : 0 < n) (_ : n ≤ 1000) : ∃ (m : Int) (b : Nat), IntKind.u64.wrap z = m ∧ 0 ≤ m ∧ b < n ∧ m % (n : Int) = b ∧ m.tmod (n : Int) = b := by
  obtain ⟨m, hm, h0⟩ := wrap_u z
  obtain ⟨b, hb, hl⟩ := tmod_nat m h0 n hn
  exact ⟨m, b, hm, h0, hl, by rw [← Int.tmod_eq_emod_of_nonneg h0]; exact hb, hb⟩

theorem grow_facts (p : Pg) (fuel : Int) (order : List Int) (B D : Nat) (hok : okPg p fuel) (hle : preW p fuel ≤ 600) (h : B ≤ D) : (endX (s0 p fuel) order B).nodes ≤ (endX (s0 p fuel) order D).nodes ∧ (endX (s0 p fuel) order B).runs ≤ (endX (s0 p fuel) order D).runs ∧ (∀ k ∈ sortK (endX (s0 p fuel) order B).keys, k ∈ sortK (endX (s0 p fuel) order D).keys) ∧
    (∀ k ∈ sortK (endX (s0 p fuel) order D).keys, k.length ≤ maxLen) ∧ (sortK (endX (s0 p fuel) order B).keys).length = (endX (s0 p fuel) order B).runs ∧ (sortK (endX (s0 p fuel) order D).keys).length = (endX (s0 p fuel) order D).runs ∧ (endX (s0 p fuel) order B).runs ≤ 600 ∧ (endX (s0 p fuel) order D).runs ≤ 600 ∧
    (anyX (endX (s0 p fuel) order B) = false → anyX (endX (s0 p fuel) order D) = false ∧ (endX (s0 p fuel) order D).nodes = (endX (s0 p fuel) order B).nodes) := by
  obtain ⟨⟨g1, g2, g3⟩, g4⟩ := end_grow (s0 p fuel) order (b := (B : Int)) (c := (D : Int)) (by omega)
  obtain ⟨_, _, x4, x2, _, _⟩ := part_facts p fuel order B hok hle
  obtain ⟨_, _, y4, y2, _, y5, _⟩ := part_facts p fuel order D hok hle
  refine ⟨g1, g2, fun k hk => ?_, fun k hk => keys_maxLen p fuel k (y5 k hk), x4, y4, x2, y2, fun h => ?_⟩
  · rw [mem_sortK] at hk ⊢
    exact g3.subset hk
  · rw [g4 h]
    exact ⟨h, rfl⟩

set_option maxRecDepth 100000 in
set_option maxHeartbeats 8000000 in
theorem seqGrows_any (p : Pg) (a : Option Addr) (cap : Nat) (fuel z y : Int) (oa : Option Addr) (ns : List Int) (oc : Nat) (w : World) (hp : ThreadsAt w a p.threads) (hord : BytesAt w oa ns) (hon : oa = none → oc = 0 ∧ ns = []) (hbs : ∀ n ∈ ns, 0 ≤ n ∧ n < 256) :
    Calls Tryz.prog 6 #[.agg #[.int .i64 p.vars, .int .i64 p.mutexes, .slice a p.threads.length cap], .int .i64 fuel, .int .i64 z, .int .i64 y, .slice oa ns.length oc] w fun r w' => r = .returned (.bool true) ∧ Below w.heap.size w w' := by
  have HP := Lib.hid hp
  have HBX : Hid (∀ W, Below (w.alloc (.cells #[.int .i64 p.vars, .int .i64 p.mutexes, .slice a p.threads.length cap] 24)).heap.size (w.alloc (.cells #[.int .i64 p.vars, .int .i64 p.mutexes, .slice a p.threads.length cap] 24)) W → W.cell? ⟨w.heap.size, 0, none⟩ = some (.int .i64 p.vars) ∧ W.cell? ⟨w.heap.size, 1, none⟩ = some (.int .i64 p.mutexes) ∧ W.cell? ⟨w.heap.size, 2, none⟩ = some (.slice a p.threads.length cap)) := fun W hb => ⟨cell_later hb (by simp), cell_later hb (by simp), cell_later hb (by simp)⟩
  have hb1 : Below w.heap.size w (w.alloc (.cells #[.int .i64 p.vars, .int .i64 p.mutexes, .slice a p.threads.length cap] 24)) := below_alloc1 w _
  have HORD := Lib.hid hord
  have HON := Lib.hid hon
  have HBS := Lib.hid hbs
  have hm := hord.1
  unfold maxLen at hm
  clear hp hord hon hbs
  obtain ⟨mz, b, hz1, hz0, hb300, hz2, hz3⟩ := mod_lit z 300 (by omega) (by omega)
  have hz2 : mz % 300 = (b : Int) := hz2
  have hz3 : mz.tmod 300 = (b : Int) := hz3
  have hzb : IntKind.i64.wrap (b : Int) = b := IntWalk.i64_in _ (by omega)
  obtain ⟨B, hB⟩ : ∃ B : Nat, B = 1 + b := ⟨_, rfl⟩
  obtain ⟨my, c, hy1, hy0, hc300, hy2, hy3⟩ := mod_lit y 300 (by omega) (by omega)
  have hy2 : my % 300 = (c : Int) := hy2
  have hy3 : my.tmod 300 = (c : Int) := hy3
  have hyc : IntKind.i64.wrap (c : Int) = c := IntWalk.i64_in _ (by omega)
  obtain ⟨D, hD⟩ : ∃ D : Nat, D = B + c := ⟨_, rfl⟩
  have hBle : B ≤ D := by omega
  go_enter Tryz.func6, Tryz.ntmps6
  go_wp2_with fail
  generalize w.alloc (.cells #[.int .i64 p.vars, .int .i64 p.mutexes, .slice a p.threads.length cap] 24) = W1 at *
  refine (awake9_any W1).mono ?_
  rintro r W2 ⟨rfl, hb2⟩
  obtain ⟨c0, c1, c2⟩ := HBX.out W2 hb2
  have hb3 := hb1.trans (hb2.mono hb1.size)
  go_wp2_with fail
  refine (small_any p a cap fuel W2 (HP.out.later hb3)).mono ?_
  rintro r W3 ⟨rfl, hb4⟩
  have hb5 := hb2.trans (hb4.mono hb2.size)
  have hb6 := hb3.trans (hb4.mono hb3.size)
  clear c0 c1 c2 hb2 hb3 hb4
  clear hz1 hz0 hz2 hz3 hzb hy1 hy0 hy2 hy3 hyc
  cases hf : smallPg p fuel
  · clear hf
    go_wp2_with fail
    refine (awake9_any _).mono ?_
    rintro r w3 ⟨rfl, hb3⟩
    go_wp2
    go_ret
    exact ⟨rfl, hb6.trans (hb3.mono hb6.size)⟩
  obtain ⟨_, hok, hle⟩ := small_yes hf
  clear hf
  by_cases hl : 500 < ns.length
  · go_wp2_with fail
    refine (awake9_any _).mono ?_
    rintro r w3 ⟨rfl, hb3⟩
    go_wp2
    go_ret
    exact ⟨rfl, hb6.trans (hb3.mono hb6.size)⟩
  have hlen : ns.length ≤ 500 := by omega
  clear hl
  have HC1 : Hid (∀ W, Below W3.heap.size W3 W → W.cell? ⟨w.heap.size, 0, none⟩ = some (.int .i64 p.vars) ∧ W.cell? ⟨w.heap.size, 1, none⟩ = some (.int .i64 p.mutexes) ∧ W.cell? ⟨w.heap.size, 2, none⟩ = some (.slice a p.threads.length cap)) := fun W hb => HBX.out W (hb5.trans (hb.mono hb5.size))
  have HROW1 : Hid (∀ W, Below W3.heap.size W3 W → RowAt W oa 1 byteCell ns) := fun W hb => bytes_row (HORD.out.later (hb6.trans (hb.mono hb6.size)))
  have HPW1 : Hid (∀ W, Below W3.heap.size W3 W → ThreadsAt W a p.threads) := fun W hb => HP.out.later (hb6.trans (hb.mono hb6.size))
  go_upto_region 4 with (fail)
  go_cut [11, 12] (fun s9 s10 wx => ExpAt p fuel (1 + (b : Int)) ns W3 s9 s10 wx)
  case first =>
    go_wp2_with fail
    go_region_held3 (fun W => W.cell? ⟨w.heap.size, 0, none⟩ = some (.int .i64 p.vars) ∧ W.cell? ⟨w.heap.size, 1, none⟩ = some (.int .i64 p.mutexes) ∧ W.cell? ⟨w.heap.size, 2, none⟩ = some (.slice a p.threads.length cap))
      (first | with_reducible exact HC1.out _ hB8 | with_reducible exact HC1.out _ hB7 | with_reducible exact HC1.out _ (hB8.alloc hB8.size _) | with_reducible exact HC1.out _ (hB7.alloc hB7.size _) | with_reducible exact HC1.out _ (below_setR5 hB8 (by first | omega | exact Nat.le_refl _) _ _ _ _ _) | with_reducible exact HC1.out _ (Below.refl _ _).drew | with_reducible exact HC1.out _ (below_alloc1 W3 _).drew | with_reducible exact HC1.out _ (below_alloc2 W3 _ _).drew)
      (first
        | ((first | with_reducible refine step_world ((W3.alloc (.cells #[] 5)).drew) ?_); refine step_copyR 25 5 1 (.int .u8 0) Tryz.underlying25 infoU8 (by rfl) (by omega) (by omega) byteCell_len byteCell_one (by rfl) (.tmp 44) (.tmp 45) (by rfl) W3.heap.size _ [] (by rfl) (lit_a W3) oa oc ns (by rfl) (HROW1.out _ (below_alloc1 W3 (.cells #[] 5)).drew) HON.out (by simp only [List.length_nil]; omega) (by simp <;> omega) ?_; intro v1 w6 hown hb hgr; obtain ⟨av, ac, hav, hby, hlt⟩ := own_bytes hown (by simp only [List.nil_append]; omega); rw [List.nil_append] at hav hby; subst hav; have HBY := Lib.hid (And.intro hby hlt); have hB7 : Below W3.heap.size W3 w6 := Below.trans (below_alloc1 W3 (.cells #[] 5)).drew hb; have hz7 := hB7.size; have HT6 : Hid True := trivial; clear hown hb hby hlt)
        | ((first | with_reducible refine step_world (((W3.alloc (.cells #[] 5)).alloc (.cells #[.slice none 0 0, .int .i64 0, .int .i64 0, .int .i64 0, .bool false] 35)).drew) ?_); refine step_copyR 25 5 1 (.int .u8 0) Tryz.underlying25 infoU8 (by rfl) (by omega) (by omega) byteCell_len byteCell_one (by rfl) (.tmp 44) (.tmp 45) (by rfl) W3.heap.size _ [] (by rfl) (lit_b W3) oa oc ns (by rfl) (HROW1.out _ (below_alloc2 W3 (.cells #[] 5) (.cells #[.slice none 0 0, .int .i64 0, .int .i64 0, .int .i64 0, .bool false] 35)).drew) HON.out (by simp only [List.length_nil]; omega) (by simp <;> omega) ?_; intro v1 w6 hown hb hgr; obtain ⟨av, ac, hav, hby, hlt⟩ := own_bytes hown (by simp only [List.nil_append]; omega); rw [List.nil_append] at hav hby; subst hav; have HBY := Lib.hid (And.intro hby hlt); have hB7 : Below W3.heap.size W3 w6 := Below.trans (below_alloc2 W3 (.cells #[] 5) (.cells #[.slice none 0 0, .int .i64 0, .int .i64 0, .int .i64 0, .bool false] 35)).drew hb; have hz7 := hB7.size; have HT6 := Lib.hid (rep_b6 hgr); clear hown hb hby hlt)
        | ((first | with_reducible refine step_world (((W3.alloc (.cells #[.slice none 0 0, .int .i64 0, .int .i64 0, .int .i64 0, .bool false] 35)).alloc (.cells #[] 5)).drew) ?_); refine step_copyR 25 5 1 (.int .u8 0) Tryz.underlying25 infoU8 (by rfl) (by omega) (by omega) byteCell_len byteCell_one (by rfl) (.tmp 44) (.tmp 45) (by rfl) W3.heap.size _ [] (by rfl) (lit_c W3) oa oc ns (by rfl) (HROW1.out _ (below_alloc2 W3 (.cells #[.slice none 0 0, .int .i64 0, .int .i64 0, .int .i64 0, .bool false] 35) (.cells #[] 5)).drew) HON.out (by simp only [List.length_nil]; omega) (by simp <;> omega) ?_; intro v1 w6 hown hb hgr; obtain ⟨av, ac, hav, hby, hlt⟩ := own_bytes hown (by simp only [List.nil_append]; omega); rw [List.nil_append] at hav hby; subst hav; have HBY := Lib.hid (And.intro hby hlt); have hB7 : Below W3.heap.size W3 w6 := Below.trans (below_alloc2 W3 (.cells #[.slice none 0 0, .int .i64 0, .int .i64 0, .int .i64 0, .bool false] 35) (.cells #[] 5)).drew hb; have hz7 := hB7.size; have HT6 := Lib.hid (rep_c6 hgr); clear hown hb hby hlt)
        | (go_at_call 10; ((with_reducible refine (explore_yes p a cap fuel (1 + (b : Int)) av ac ns w6 (HPW1.out _ hB7) HBY.out.1 HBY.out.2 HBS.out (by omega) hok hle).mono ?_); rintro r w7 ⟨ka, kc, rfl, hrow, hb⟩; have HR7 := Lib.hid hrow; have hB8 := hB7.trans (hb.mono hB7.size); (first | (have HT7 := Lib.hid (HT6.out.later hb); obtain ⟨⟨x0, x1, x2, x3, x4⟩, f⟩ := HT7.out.five; have f0 := f 0 (by omega); have f1 := f 1 (by omega); have f2 := f 2 (by omega); have f3 := f 3 (by omega); have f4 := f 4 (by omega); clear f) | skip); clear hrow hb))
        | (go_at_call 10; ((with_reducible refine (explore_yes p a cap fuel (1 + (b : Int)) av ac ns (w6.alloc (.cells #[.slice none 0 0, .int .i64 0, .int .i64 0, .int .i64 0, .bool false] 35)) (HPW1.out _ (hB7.alloc hB7.size (.cells #[.slice none 0 0, .int .i64 0, .int .i64 0, .int .i64 0, .bool false] 35))) (HBY.out.1.later (below_alloc1 w6 _)) (fun x hx => Nat.lt_of_lt_of_le (HBY.out.2 x hx) (below_alloc1 w6 (.cells #[.slice none 0 0, .int .i64 0, .int .i64 0, .int .i64 0, .bool false] 35)).size) HBS.out (by omega) hok hle).mono ?_); rintro r w7 ⟨ka, kc, rfl, hrow, hb⟩; have HR7 := Lib.hid hrow; have hB8 := (hB7.alloc hB7.size (.cells #[.slice none 0 0, .int .i64 0, .int .i64 0, .int .i64 0, .bool false] 35)).trans (hb.mono (hB7.alloc hB7.size (.cells #[.slice none 0 0, .int .i64 0, .int .i64 0, .int .i64 0, .bool false] 35)).size); (first | (have HT7 := Lib.hid ((show RepAt (w6.alloc (.cells #[.slice none 0 0, .int .i64 0, .int .i64 0, .int .i64 0, .bool false] 35)) w6.heap.size #[.slice none 0 0, .int .i64 0, .int .i64 0, .int .i64 0, .bool false] from heap_alloc_new w6 _).later hb); obtain ⟨⟨x0, x1, x2, x3, x4⟩, f⟩ := HT7.out.five; have f0 := f 0 (by omega); have f1 := f 1 (by omega); have f2 := f 2 (by omega); have f3 := f 3 (by omega); have f4 := f 4 (by omega); clear f) | skip); clear hrow hb)))
    all_goals go_wp2_with fail
    all_goals go_meet
    all_goals first
      | with_reducible exact exp_new hok hle HR7.out hB8
      | with_reducible refine exp_set hok hle HT7.out HR7.out ?_ ?_ hB8
    all_goals first
      | omega
      | exact HT6.out.lt
      | (rw [World.size_alloc]; omega)
  case rest =>
    obtain ⟨g1, ka1, xc1, rfl, rfl, hrep1, hrow1, hb7⟩ := hcut
    rw [show (1 + (b : Int)) = (B : Int) from by omega] at hrep1 hrow1
    obtain ⟨Wa, hWa⟩ : ∃ x, x = wc := ⟨_, rfl⟩
    subst hWa
    have HREP1 := Lib.hid hrep1
    have HKS1 := Lib.hid hrow1
    have hb8 := hb5.trans (hb7.mono hb5.size)
    have hb9 := hb6.trans (hb7.mono hb6.size)
    clear hrep1 hrow1 hb5 hb6 hb7 HC1 HROW1 HPW1
    have HC2 : Hid (∀ W, Below Wa.heap.size Wa W → W.cell? ⟨w.heap.size, 0, none⟩ = some (.int .i64 p.vars) ∧ W.cell? ⟨w.heap.size, 1, none⟩ = some (.int .i64 p.mutexes) ∧ W.cell? ⟨w.heap.size, 2, none⟩ = some (.slice a p.threads.length cap)) := fun W hb => HBX.out W (hb8.trans (hb.mono hb8.size))
    have HROW2 : Hid (∀ W, Below Wa.heap.size Wa W → RowAt W oa 1 byteCell ns) := fun W hb => bytes_row (HORD.out.later (hb9.trans (hb.mono hb9.size)))
    have HPW2 : Hid (∀ W, Below Wa.heap.size Wa W → ThreadsAt W a p.threads) := fun W hb => HP.out.later (hb9.trans (hb.mono hb9.size))
    go_upto_region 5 with (fail)
    go_cut [13, 14] (fun s9 s10 wx => ExpAt p fuel (IntKind.i64.wrap (1 + (b : Int) + (c : Int))) ns Wa s9 s10 wx)
    case first =>
      go_wp2_with fail
      go_region_held3 (fun W => W.cell? ⟨w.heap.size, 0, none⟩ = some (.int .i64 p.vars) ∧ W.cell? ⟨w.heap.size, 1, none⟩ = some (.int .i64 p.mutexes) ∧ W.cell? ⟨w.heap.size, 2, none⟩ = some (.slice a p.threads.length cap))
        (first | with_reducible exact HC2.out _ hB8 | with_reducible exact HC2.out _ hB7 | with_reducible exact HC2.out _ (hB8.alloc hB8.size _) | with_reducible exact HC2.out _ (hB7.alloc hB7.size _) | with_reducible exact HC2.out _ (below_setR5 hB8 (by first | omega | exact Nat.le_refl _) _ _ _ _ _) | with_reducible exact HC2.out _ (Below.refl _ _).drew | with_reducible exact HC2.out _ (below_alloc1 Wa _).drew | with_reducible exact HC2.out _ (below_alloc2 Wa _ _).drew)
        (first
          | ((first | with_reducible refine step_world ((Wa.alloc (.cells #[] 5)).drew) ?_); refine step_copyR 25 5 1 (.int .u8 0) Tryz.underlying25 infoU8 (by rfl) (by omega) (by omega) byteCell_len byteCell_one (by rfl) (.tmp 56) (.tmp 57) (by rfl) Wa.heap.size _ [] (by rfl) (lit_a Wa) oa oc ns (by rfl) (HROW2.out _ (below_alloc1 Wa (.cells #[] 5)).drew) HON.out (by simp only [List.length_nil]; omega) (by simp <;> omega) ?_; intro v1 w6 hown hb hgr; obtain ⟨av, ac, hav, hby, hlt⟩ := own_bytes hown (by simp only [List.nil_append]; omega); rw [List.nil_append] at hav hby; subst hav; have HBY := Lib.hid (And.intro hby hlt); have hB7 : Below Wa.heap.size Wa w6 := Below.trans (below_alloc1 Wa (.cells #[] 5)).drew hb; have hz7 := hB7.size; have HT6 : Hid True := trivial; clear hown hb hby hlt)
          | ((first | with_reducible refine step_world (((Wa.alloc (.cells #[] 5)).alloc (.cells #[.slice none 0 0, .int .i64 0, .int .i64 0, .int .i64 0, .bool false] 35)).drew) ?_); refine step_copyR 25 5 1 (.int .u8 0) Tryz.underlying25 infoU8 (by rfl) (by omega) (by omega) byteCell_len byteCell_one (by rfl) (.tmp 56) (.tmp 57) (by rfl) Wa.heap.size _ [] (by rfl) (lit_b Wa) oa oc ns (by rfl) (HROW2.out _ (below_alloc2 Wa (.cells #[] 5) (.cells #[.slice none 0 0, .int .i64 0, .int .i64 0, .int .i64 0, .bool false] 35)).drew) HON.out (by simp only [List.length_nil]; omega) (by simp <;> omega) ?_; intro v1 w6 hown hb hgr; obtain ⟨av, ac, hav, hby, hlt⟩ := own_bytes hown (by simp only [List.nil_append]; omega); rw [List.nil_append] at hav hby; subst hav; have HBY := Lib.hid (And.intro hby hlt); have hB7 : Below Wa.heap.size Wa w6 := Below.trans (below_alloc2 Wa (.cells #[] 5) (.cells #[.slice none 0 0, .int .i64 0, .int .i64 0, .int .i64 0, .bool false] 35)).drew hb; have hz7 := hB7.size; have HT6 := Lib.hid (rep_b6 hgr); clear hown hb hby hlt)
          | ((first | with_reducible refine step_world (((Wa.alloc (.cells #[.slice none 0 0, .int .i64 0, .int .i64 0, .int .i64 0, .bool false] 35)).alloc (.cells #[] 5)).drew) ?_); refine step_copyR 25 5 1 (.int .u8 0) Tryz.underlying25 infoU8 (by rfl) (by omega) (by omega) byteCell_len byteCell_one (by rfl) (.tmp 56) (.tmp 57) (by rfl) Wa.heap.size _ [] (by rfl) (lit_c Wa) oa oc ns (by rfl) (HROW2.out _ (below_alloc2 Wa (.cells #[.slice none 0 0, .int .i64 0, .int .i64 0, .int .i64 0, .bool false] 35) (.cells #[] 5)).drew) HON.out (by simp only [List.length_nil]; omega) (by simp <;> omega) ?_; intro v1 w6 hown hb hgr; obtain ⟨av, ac, hav, hby, hlt⟩ := own_bytes hown (by simp only [List.nil_append]; omega); rw [List.nil_append] at hav hby; subst hav; have HBY := Lib.hid (And.intro hby hlt); have hB7 : Below Wa.heap.size Wa w6 := Below.trans (below_alloc2 Wa (.cells #[.slice none 0 0, .int .i64 0, .int .i64 0, .int .i64 0, .bool false] 35) (.cells #[] 5)).drew hb; have hz7 := hB7.size; have HT6 := Lib.hid (rep_c6 hgr); clear hown hb hby hlt)
          | (go_at_call 10; ((with_reducible refine (explore_yes p a cap fuel (IntKind.i64.wrap (1 + (b : Int) + (c : Int))) av ac ns w6 (HPW2.out _ hB7) HBY.out.1 HBY.out.2 HBS.out (by omega) hok hle).mono ?_); rintro r w7 ⟨ka, kc, rfl, hrow, hb⟩; have HR7 := Lib.hid hrow; have hB8 := hB7.trans (hb.mono hB7.size); (first | (have HT7 := Lib.hid (HT6.out.later hb); obtain ⟨⟨x0, x1, x2, x3, x4⟩, f⟩ := HT7.out.five; have f0 := f 0 (by omega); have f1 := f 1 (by omega); have f2 := f 2 (by omega); have f3 := f 3 (by omega); have f4 := f 4 (by omega); clear f) | skip); clear hrow hb))
          | (go_at_call 10; ((with_reducible refine (explore_yes p a cap fuel (IntKind.i64.wrap (1 + (b : Int) + (c : Int))) av ac ns (w6.alloc (.cells #[.slice none 0 0, .int .i64 0, .int .i64 0, .int .i64 0, .bool false] 35)) (HPW2.out _ (hB7.alloc hB7.size (.cells #[.slice none 0 0, .int .i64 0, .int .i64 0, .int .i64 0, .bool false] 35))) (HBY.out.1.later (below_alloc1 w6 _)) (fun x hx => Nat.lt_of_lt_of_le (HBY.out.2 x hx) (below_alloc1 w6 (.cells #[.slice none 0 0, .int .i64 0, .int .i64 0, .int .i64 0, .bool false] 35)).size) HBS.out (by omega) hok hle).mono ?_); rintro r w7 ⟨ka, kc, rfl, hrow, hb⟩; have HR7 := Lib.hid hrow; have hB8 := (hB7.alloc hB7.size (.cells #[.slice none 0 0, .int .i64 0, .int .i64 0, .int .i64 0, .bool false] 35)).trans (hb.mono (hB7.alloc hB7.size (.cells #[.slice none 0 0, .int .i64 0, .int .i64 0, .int .i64 0, .bool false] 35)).size); (first | (have HT7 := Lib.hid ((show RepAt (w6.alloc (.cells #[.slice none 0 0, .int .i64 0, .int .i64 0, .int .i64 0, .bool false] 35)) w6.heap.size #[.slice none 0 0, .int .i64 0, .int .i64 0, .int .i64 0, .bool false] from heap_alloc_new w6 _).later hb); obtain ⟨⟨x0, x1, x2, x3, x4⟩, f⟩ := HT7.out.five; have f0 := f 0 (by omega); have f1 := f 1 (by omega); have f2 := f 2 (by omega); have f3 := f 3 (by omega); have f4 := f 4 (by omega); clear f) | skip); clear hrow hb)))
      all_goals go_wp2_with fail
      all_goals go_meet
      all_goals first
        | with_reducible exact exp_new hok hle HR7.out hB8
        | with_reducible refine exp_set hok hle HT7.out HR7.out ?_ ?_ hB8
      all_goals first
        | omega
        | exact HT6.out.lt
        | (rw [World.size_alloc]; omega)
    case rest =>
      obtain ⟨g2, ka2, xc2, rfl, rfl, hrep2, hrow2, hb10⟩ := hcut
      rw [show IntKind.i64.wrap (1 + (b : Int) + (c : Int)) = (D : Int) from by rw [IntWalk.i64_in _ (by omega)]; omega] at hrep2 hrow2
      obtain ⟨Wb, hWb⟩ : ∃ x, x = wc := ⟨_, rfl⟩
      subst hWb
      have HREP2 := Lib.hid hrep2
      have HKS2 := Lib.hid hrow2
      have HREPX := Lib.hid (HREP1.out.later hb10)
      have HKSX := Lib.hid (HKS1.out.later hb10)
      have hb11 := hb8.trans (hb10.mono hb8.size)
      have hb12 := hb9.trans (hb10.mono hb9.size)
      clear hrep2 hrow2 hb8 hb9 hb10 HC2 HROW2 HPW2 HREP1 HKS1
      have HC3 : Hid (∀ W, Below Wb.heap.size Wb W → W.cell? ⟨w.heap.size, 0, none⟩ = some (.int .i64 p.vars) ∧ W.cell? ⟨w.heap.size, 1, none⟩ = some (.int .i64 p.mutexes) ∧ W.cell? ⟨w.heap.size, 2, none⟩ = some (.slice a p.threads.length cap)) := fun W hb => HBX.out W (hb11.trans (hb.mono hb11.size))
      have HROW3 : Hid (∀ W, Below Wb.heap.size Wb W → RowAt W oa 1 byteCell ns) := fun W hb => bytes_row (HORD.out.later (hb12.trans (hb.mono hb12.size)))
      have HPW3 : Hid (∀ W, Below Wb.heap.size Wb W → ThreadsAt W a p.threads) := fun W hb => HP.out.later (hb12.trans (hb.mono hb12.size))
      go_upto_region 6 with (fail)
      go_cut [15, 16] (fun s9 s10 wx => ExpAt p fuel (1 + (b : Int)) ns Wb s9 s10 wx)
      case first =>
        go_wp2_with fail
        go_region_held3 (fun W => W.cell? ⟨w.heap.size, 0, none⟩ = some (.int .i64 p.vars) ∧ W.cell? ⟨w.heap.size, 1, none⟩ = some (.int .i64 p.mutexes) ∧ W.cell? ⟨w.heap.size, 2, none⟩ = some (.slice a p.threads.length cap))
          (first | with_reducible exact HC3.out _ hB8 | with_reducible exact HC3.out _ hB7 | with_reducible exact HC3.out _ (hB8.alloc hB8.size _) | with_reducible exact HC3.out _ (hB7.alloc hB7.size _) | with_reducible exact HC3.out _ (below_setR5 hB8 (by first | omega | exact Nat.le_refl _) _ _ _ _ _) | with_reducible exact HC3.out _ (Below.refl _ _).drew | with_reducible exact HC3.out _ (below_alloc1 Wb _).drew | with_reducible exact HC3.out _ (below_alloc2 Wb _ _).drew)
          (first
            | ((first | with_reducible refine step_world ((Wb.alloc (.cells #[] 5)).drew) ?_); refine step_copyR 25 5 1 (.int .u8 0) Tryz.underlying25 infoU8 (by rfl) (by omega) (by omega) byteCell_len byteCell_one (by rfl) (.tmp 66) (.tmp 67) (by rfl) Wb.heap.size _ [] (by rfl) (lit_a Wb) oa oc ns (by rfl) (HROW3.out _ (below_alloc1 Wb (.cells #[] 5)).drew) HON.out (by simp only [List.length_nil]; omega) (by simp <;> omega) ?_; intro v1 w6 hown hb hgr; obtain ⟨av, ac, hav, hby, hlt⟩ := own_bytes hown (by simp only [List.nil_append]; omega); rw [List.nil_append] at hav hby; subst hav; have HBY := Lib.hid (And.intro hby hlt); have hB7 : Below Wb.heap.size Wb w6 := Below.trans (below_alloc1 Wb (.cells #[] 5)).drew hb; have hz7 := hB7.size; have HT6 : Hid True := trivial; clear hown hb hby hlt)
            | ((first | with_reducible refine step_world (((Wb.alloc (.cells #[] 5)).alloc (.cells #[.slice none 0 0, .int .i64 0, .int .i64 0, .int .i64 0, .bool false] 35)).drew) ?_); refine step_copyR 25 5 1 (.int .u8 0) Tryz.underlying25 infoU8 (by rfl) (by omega) (by omega) byteCell_len byteCell_one (by rfl) (.tmp 66) (.tmp 67) (by rfl) Wb.heap.size _ [] (by rfl) (lit_b Wb) oa oc ns (by rfl) (HROW3.out _ (below_alloc2 Wb (.cells #[] 5) (.cells #[.slice none 0 0, .int .i64 0, .int .i64 0, .int .i64 0, .bool false] 35)).drew) HON.out (by simp only [List.length_nil]; omega) (by simp <;> omega) ?_; intro v1 w6 hown hb hgr; obtain ⟨av, ac, hav, hby, hlt⟩ := own_bytes hown (by simp only [List.nil_append]; omega); rw [List.nil_append] at hav hby; subst hav; have HBY := Lib.hid (And.intro hby hlt); have hB7 : Below Wb.heap.size Wb w6 := Below.trans (below_alloc2 Wb (.cells #[] 5) (.cells #[.slice none 0 0, .int .i64 0, .int .i64 0, .int .i64 0, .bool false] 35)).drew hb; have hz7 := hB7.size; have HT6 := Lib.hid (rep_b6 hgr); clear hown hb hby hlt)
            | ((first | with_reducible refine step_world (((Wb.alloc (.cells #[.slice none 0 0, .int .i64 0, .int .i64 0, .int .i64 0, .bool false] 35)).alloc (.cells #[] 5)).drew) ?_); refine step_copyR 25 5 1 (.int .u8 0) Tryz.underlying25 infoU8 (by rfl) (by omega) (by omega) byteCell_len byteCell_one (by rfl) (.tmp 66) (.tmp 67) (by rfl) Wb.heap.size _ [] (by rfl) (lit_c Wb) oa oc ns (by rfl) (HROW3.out _ (below_alloc2 Wb (.cells #[.slice none 0 0, .int .i64 0, .int .i64 0, .int .i64 0, .bool false] 35) (.cells #[] 5)).drew) HON.out (by simp only [List.length_nil]; omega) (by simp <;> omega) ?_; intro v1 w6 hown hb hgr; obtain ⟨av, ac, hav, hby, hlt⟩ := own_bytes hown (by simp only [List.nil_append]; omega); rw [List.nil_append] at hav hby; subst hav; have HBY := Lib.hid (And.intro hby hlt); have hB7 : Below Wb.heap.size Wb w6 := Below.trans (below_alloc2 Wb (.cells #[.slice none 0 0, .int .i64 0, .int .i64 0, .int .i64 0, .bool false] 35) (.cells #[] 5)).drew hb; have hz7 := hB7.size; have HT6 := Lib.hid (rep_c6 hgr); clear hown hb hby hlt)
            | (go_at_call 10; ((with_reducible refine (explore_yes p a cap fuel (1 + (b : Int)) av ac ns w6 (HPW3.out _ hB7) HBY.out.1 HBY.out.2 HBS.out (by omega) hok hle).mono ?_); rintro r w7 ⟨ka, kc, rfl, hrow, hb⟩; have HR7 := Lib.hid hrow; have hB8 := hB7.trans (hb.mono hB7.size); (first | (have HT7 := Lib.hid (HT6.out.later hb); obtain ⟨⟨x0, x1, x2, x3, x4⟩, f⟩ := HT7.out.five; have f0 := f 0 (by omega); have f1 := f 1 (by omega); have f2 := f 2 (by omega); have f3 := f 3 (by omega); have f4 := f 4 (by omega); clear f) | skip); clear hrow hb))
            | (go_at_call 10; ((with_reducible refine (explore_yes p a cap fuel (1 + (b : Int)) av ac ns (w6.alloc (.cells #[.slice none 0 0, .int .i64 0, .int .i64 0, .int .i64 0, .bool false] 35)) (HPW3.out _ (hB7.alloc hB7.size (.cells #[.slice none 0 0, .int .i64 0, .int .i64 0, .int .i64 0, .bool false] 35))) (HBY.out.1.later (below_alloc1 w6 _)) (fun x hx => Nat.lt_of_lt_of_le (HBY.out.2 x hx) (below_alloc1 w6 (.cells #[.slice none 0 0, .int .i64 0, .int .i64 0, .int .i64 0, .bool false] 35)).size) HBS.out (by omega) hok hle).mono ?_); rintro r w7 ⟨ka, kc, rfl, hrow, hb⟩; have HR7 := Lib.hid hrow; have hB8 := (hB7.alloc hB7.size (.cells #[.slice none 0 0, .int .i64 0, .int .i64 0, .int .i64 0, .bool false] 35)).trans (hb.mono (hB7.alloc hB7.size (.cells #[.slice none 0 0, .int .i64 0, .int .i64 0, .int .i64 0, .bool false] 35)).size); (first | (have HT7 := Lib.hid ((show RepAt (w6.alloc (.cells #[.slice none 0 0, .int .i64 0, .int .i64 0, .int .i64 0, .bool false] 35)) w6.heap.size #[.slice none 0 0, .int .i64 0, .int .i64 0, .int .i64 0, .bool false] from heap_alloc_new w6 _).later hb); obtain ⟨⟨x0, x1, x2, x3, x4⟩, f⟩ := HT7.out.five; have f0 := f 0 (by omega); have f1 := f 1 (by omega); have f2 := f 2 (by omega); have f3 := f 3 (by omega); have f4 := f 4 (by omega); clear f) | skip); clear hrow hb)))
        all_goals go_wp2_with fail
        all_goals go_meet
        all_goals first
          | with_reducible exact exp_new hok hle HR7.out hB8
          | with_reducible refine exp_set hok hle HT7.out HR7.out ?_ ?_ hB8
        all_goals first
          | omega
          | exact HT6.out.lt
          | (rw [World.size_alloc]; omega)
      case rest =>
        obtain ⟨g3, ka3, xc3, rfl, rfl, hrep3, hrow3, hb13⟩ := hcut
        rw [show (1 + (b : Int)) = (B : Int) from by omega] at hrep3 hrow3
        obtain ⟨e1, e2, e3, e4, e5, e6, e7, e8, e9⟩ := grow_facts p fuel ns B D hok hle hBle
        have HREPZ := Lib.hid hrep3
        have HKSZ := Lib.hid hrow3
        have HREPX := Lib.hid (HREPX.out.later hb13)
        have HKSX := Lib.hid (HKSX.out.later hb13)
        have HREPY := Lib.hid (HREP2.out.later hb13)
        have HKSY := Lib.hid (HKS2.out.later hb13)
        have hb14 := hb12.trans (hb13.mono hb12.size)
        have HLS := Lib.hid (sortK_less (endX (s0 p fuel) ns (B : Nat)).keys)
        have E3 := Lib.hid e3
        have E4 := Lib.hid e4
        have E5 := Lib.hid e5
        have E6 := Lib.hid e6
        have E9 := Lib.hid e9
        clear hrep3 hrow3 hb11 hb12 hb13 HC3 HROW3 HPW3 HP HBX HORD HON HBS HREP2 HKS2 e3 e4 e5 e6 e9
        generalize sortK (endX (s0 p fuel) ns (B : Nat)).keys = KS at *
        generalize (endX (s0 p fuel) ns (B : Nat)).nodes = ND at *
        generalize (endX (s0 p fuel) ns (B : Nat)).runs = RN at *
        generalize (endX (s0 p fuel) ns (B : Nat)).blocked = BL at *
        generalize anyX (endX (s0 p fuel) ns (B : Nat)) = AX at *
        generalize sortK (endX (s0 p fuel) ns (D : Nat)).keys = LS at *
        generalize (endX (s0 p fuel) ns (D : Nat)).nodes = ND2 at *
        generalize (endX (s0 p fuel) ns (D : Nat)).runs = RN2 at *
        generalize (endX (s0 p fuel) ns (D : Nat)).blocked = BL2 at *
        generalize anyX (endX (s0 p fuel) ns (D : Nat)) = AY at *
        obtain rfl : KS.length = RN := E5.out
        obtain rfl : LS.length = RN2 := E6.out
        have HIN : Hid (∀ W, Below wc.heap.size wc W → Calls Tryz.prog 11 #[.slice ka1 KS.length xc1, .slice ka2 LS.length xc2] W fun r w' => r = .returned (.bool true) ∧ Below W.heap.size W w') := fun W hb => in_any ka1 ka2 xc1 xc2 KS LS W (HKSX.out.later hb) (HKSY.out.later hb) (by omega) (by omega) E4.out E3.out HLS.out
        have hn : (ND : Int) ≤ (ND2 : Int) := by omega
        have hr : (KS.length : Int) ≤ (LS.length : Int) := by omega
        have hn2 : ¬ (ND2 : Int) < (ND : Int) := by omega
        have hr2 : ¬ (LS.length : Int) < (KS.length : Int) := by omega
        obtain ⟨⟨x0, x1, x2, x3, x4⟩, _⟩ := HREPX.out.five
        obtain ⟨⟨y0, y1, y2, y3, y4⟩, _⟩ := HREPY.out.five
        go_upto_region 7 with (fail)
        dsimp only [List.append]
        go_wp2_with fail
        refine (HIN.out wc (Below.refl _ _)).mono ?_
        rintro r w9 ⟨rfl, hb15⟩
        have hb16 := hb14.trans (hb15.mono hb14.size)
        have HSK := Lib.hid (sameK_any ka1 ka3 xc1 xc3 KS KS w9 (HKSX.out.later hb15) (HKSZ.out.later hb15) (by omega) (by omega))
        have HDE : Hid (decide (KS = KS) = true) := decide_eq_true rfl
        clear x0 x1 x2 x3 x4 y0 y1 y2 y3 y4 hb14
        obtain ⟨⟨x0, x1, x2, x3, x4⟩, _⟩ := (HREPX.out.later hb15).five
        obtain ⟨⟨y0, y1, y2, y3, y4⟩, _⟩ := (HREPY.out.later hb15).five
        obtain ⟨⟨z0, z1, z2, z3, z4⟩, _⟩ := (HREPZ.out.later hb15).five
        cases AX
        · obtain ⟨rfl, rfl⟩ := E9.out rfl
          go_wp2_with fail
          refine HSK.out.mono ?_
          rw [HDE.out]
          rintro r w10 ⟨rfl, hb17⟩
          clear x0 x1 x2 x3 x4 y0 y1 y2 y3 y4 z0 z1 z2 z3 z4
          obtain ⟨⟨x0, x1, x2, x3, x4⟩, _⟩ := ((HREPX.out.later hb15).later hb17).five
          obtain ⟨⟨z0, z1, z2, z3, z4⟩, _⟩ := ((HREPZ.out.later hb15).later hb17).five
          go_wp2
          go_ret
          exact ⟨by first | rfl | simp, hb16.trans (hb17.mono hb16.size)⟩
        · go_wp2_with fail
          refine HSK.out.mono ?_
          rw [HDE.out]
          rintro r w10 ⟨rfl, hb17⟩
          clear x0 x1 x2 x3 x4 y0 y1 y2 y3 y4 z0 z1 z2 z3 z4
          obtain ⟨⟨x0, x1, x2, x3, x4⟩, _⟩ := ((HREPX.out.later hb15).later hb17).five
          obtain ⟨⟨z0, z1, z2, z3, z4⟩, _⟩ := ((HREPZ.out.later hb15).later hb17).five
          go_wp2
          go_ret
          exact ⟨by first | rfl | simp, hb16.trans (hb17.mono hb16.size)⟩

end Go.Proofs.YtnldkmcijmbhcaaGreat

/-
  SeqGrows: by the same order a greater budget tells no key less and makes no node less, and two explorations by one order are the same: the law answers true, and its arguments read as they did.
  For every input, whatever its size and however its parts share memory; nothing is asked of it but what the statement's own form asks.
-/
namespace Go.Proofs.YtnldkmcijmbhcaaGreat.seqGrows
open Go.ChangeShapes Go.WideShapes Go.ChangeAt Go.RowKit

theorem own : ownKnob Tryz.prog.godebug = none := by kernel_rfl
theorem laidOut : laidOutB Tryz.prog = true := by kernel_rfl

set_option maxRecDepth 100000 in
theorem lifted (os : Os) (started : os.Started) (H : Type) (enc : TypeId × Value → H) :
    ReturnsInHanded {} Tryz.checked os 6 .any (Rows.seqGrowsSpec.pre6 enc Tryz.prog Tryz.f6 Rows.seqGrowsRow.domain false) (Rows.seqGrowsSpec.post enc Tryz.prog Tryz.f6 false true false false) := by
  refine returnsInHanded_of_change (C := Tryz.checked) own started (by kernel_rfl) Tryz.func6
    (ChangeSpec.witness6 (enc := enc) (C := Tryz.checked) false ⟨#[], #[.agg #[.int .i64 0, .int .i64 0, .slice none 0 0], .int .i64 0, .int .i64 0, .int .i64 0, .slice none 0 0], []⟩ 8 (by kernel_rfl) (by kernel_rfl) (by kernel_rfl) (by kernel_rfl)) ?_
  intro W base args ds gs before hval0 hW hcnd _
  have hval : ∀ (j : Nat) t v, Tryz.f6.params[j]? = some t → args[j]? = some v → Value.okWide Tryz.prog W .any base t v := hval0
  have hW' := hW
  obtain ⟨p, q, hA0, hV, rfl, hfz, hnd⟩ := hW
  have hA : DataW.TrodAll enc Tryz.prog W 0 (fun _ => true) true Tryz.f6.params.toList args.toList ds p := hA0
  rw [Tryz.params6] at hA hval
  obtain ⟨v0, vs0, d0, ds0, p0, q0, hargs, rfl, rfl, h0, r0⟩ := trodAll_cons hA
  obtain ⟨v1, vs1, d1, ds1, p1, q1, rfl, rfl, rfl, h1, r1⟩ := trodAll_cons r0
  obtain ⟨v2, vs2, d2, ds2, p2, q2, rfl, rfl, rfl, h2, r2⟩ := trodAll_cons r1
  obtain ⟨v3, vs3, d3, ds3, p3, q3, rfl, rfl, rfl, h3, r3⟩ := trodAll_cons r2
  obtain ⟨v4, vs4, d4, ds4, p4, q4, rfl, rfl, rfl, h4, r4⟩ := trodAll_cons r3
  obtain ⟨rfl, rfl, rfl⟩ := trodAll_nil r4
  obtain rfl : args = #[v0, v1, v2, v3, v4] := by cases args; simp_all
  obtain ⟨rfl, rfl⟩ := trodVars_none hV
  have k0 := h0
  have lt0 : ∀ x ∈ p0, x.block < W.heap.size := by obtain ⟨m, hm⟩ := k0; exact DataW.trod_lt m _ _ _ hm
  have k1 := h1
  have lt1 : ∀ x ∈ p1, x.block < W.heap.size := by obtain ⟨m, hm⟩ := k1; exact DataW.trod_lt m _ _ _ hm
  have k2 := h2
  have lt2 : ∀ x ∈ p2, x.block < W.heap.size := by obtain ⟨m, hm⟩ := k2; exact DataW.trod_lt m _ _ _ hm
  have k3 := h3
  have lt3 : ∀ x ∈ p3, x.block < W.heap.size := by obtain ⟨m, hm⟩ := k3; exact DataW.trod_lt m _ _ _ hm
  have k4 := h4
  have lt4 : ∀ x ∈ p4, x.block < W.heap.size := by obtain ⟨m, hm⟩ := k4; exact DataW.trod_lt m _ _ _ hm
  obtain ⟨pg0, a0, cap0, rfl, hx0, _⟩ := prog_of_trod (hval 0 24 v0 rfl rfl) h0
  obtain ⟨n1, rfl, hx1⟩ := int_of_trod (hval 1 3 v1 rfl rfl) h1
  obtain ⟨n2, rfl, hx2⟩ := int_of_trod (hval 2 3 v2 rfl rfl) h2
  obtain ⟨n3, rfl, hx3⟩ := int_of_trod (hval 3 3 v3 rfl rfl) h3
  obtain ⟨a4, ns4, cap4, rfl, hx4, hr4, hn4⟩ := bytes2_of_trod (hval 4 25 v4 rfl rfl) h4
  clear hA0 hval0
  refine (seqGrows_any pg0 a0 cap0 n1 n2 n3 a4 ns4 cap4 W hx0 hx4 (bytes_none hx4 hn4) hr4).mono fun e W' ⟨he, bel⟩ => ?_
  subst he
  exact ⟨_, rfl, _, _, _, [], _, [], hW', trodAll_mk1 (shut_bool Tryz.underlying4 _), (trodAll_cons_mk (Below.trod laidOut (by kernel_rfl) (of_decide_eq_true (by kernel_rfl)) k0 bel lt0) (trodAll_cons_mk (Below.trod laidOut (by kernel_rfl) (of_decide_eq_true (by kernel_rfl)) k1 bel lt1) (trodAll_cons_mk (Below.trod laidOut (by kernel_rfl) (of_decide_eq_true (by kernel_rfl)) k2 bel lt2) (trodAll_cons_mk (Below.trod laidOut (by kernel_rfl) (of_decide_eq_true (by kernel_rfl)) k3 bel lt3) (trodAll_cons_mk (Below.trod laidOut (by kernel_rfl) (of_decide_eq_true (by kernel_rfl)) k4 bel lt4) trodAll_mk0))))), rfl, bel.frame _, fun h => by cases h⟩

theorem over : Rows.seqGrowsRow.holds Tryz.pinned (OpenSpec.ofChange Rows.seqGrowsSpec) :=
  OpenClaim.holds_of_wide 6 Tryz.f6 rfl rfl rfl rfl rfl rfl rfl ⟨rfl, rfl, rfl, rfl, rfl⟩ rfl rfl rfl rfl rfl (by kernel_rfl) Tryz.func6 (by kernel_rfl)
    (of_decide_eq_true (by kernel_rfl)) (by unfold Func.isWrapper; first | (rw [if_pos (by decide +kernel)]; kernel_rfl) | (rw [if_neg (by decide +kernel)]; exact ⟨rfl, rfl⟩))
    (fun os started H enc _ => lifted os started H enc)

theorem proved : Rows.SeqGrowsSaid := over
end Go.Proofs.YtnldkmcijmbhcaaGreat.seqGrows
