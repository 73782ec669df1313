import Derived.Laws.Shifts
import Derived.Deep.RegionHeld
import Derived.OrdersHeld
import Derived.BigQuiet
import Derived.Deep.RegionHeld3
import Derived.Deep.RegionLaw
import Derived.Test.YtnldkmcijmbhcaaGreatPk01
import Derived.Test.YtnldkmcijmbhcaaGreatPk03
import Derived.Test.YtnldkmcijmbhcaaGreatPk06
import Derived.Test.YtnldkmcijmbhcaaGreatPk09
import Derived.Test.YtnldkmcijmbhcaaGreatPk13

/- The contract of Races, of a state. -/
namespace Go.Proofs.YtnldkmcijmbhcaaGreat
open Go.RowKit

theorem races_st {F : Nat} {s : St} {b : Nat} {w : World} (h : StAt w b s) (ok : s.Ok F) (h4 : s.ts.length ≤ 4) (a : Option Addr) (cap : Nat) (l : List Ev) (hl : EvsAt w a l) (hm : l.length ≤ 200) :
    Calls Tryz.prog 36 #[.pointer (some ⟨b, 0, none⟩), .slice a l.length cap] w (RacesR s.next s.ts.length l w) :=
  races_gen _ s.ts.length s.next (fun _ _ h => next_thread h) h4 a cap l w hl hm (fun _ hb => threads_any (h.later hb)) (fun _ t _ hb => next_any (h.later hb) ok t)

end Go.Proofs.YtnldkmcijmbhcaaGreat

/- The contracts of the document's In and Bits, and of two rows of numbers held against one another. -/
namespace Go.Proofs.YtnldkmcijmbhcaaGreat
open Go.RowKit

/-- A row of numbers has its cells. -/
theorem num_at {w : World} {a : Option Addr} {l : List Int} (h : NumsAt w a l) {k : Nat} (hk : k < l.length) : ∃ b o, a = some ⟨b, o, none⟩ ∧ w.cell? ⟨b, o + k, none⟩ = some (.int .i64 l[k]) := by
  obtain ⟨b, o, rfl, hc⟩ := h.2 (by intro e; rw [e] at hk; simp at hk)
  exact ⟨b, o, rfl, hc k hk⟩

end Go.Proofs.YtnldkmcijmbhcaaGreat

/- Of a state that is none: how many threads, what one does next, who may. -/
namespace Go.Proofs.YtnldkmcijmbhcaaGreat
open Go.RowKit

end Go.Proofs.YtnldkmcijmbhcaaGreat

/- The contracts of Child and Blocked. -/
namespace Go.Proofs.YtnldkmcijmbhcaaGreat
open Go.RowKit

theorem childS_yes {nx : Int → Option Ev} {e : Ev} {l : List Nat} {k : Nat} (hk : k < l.length) (h : apart nx e l[k] = true) : ofN (ints ((l.take (k + 1)).filter (apart nx e))) = wt (ofN (ints ((l.take k).filter (apart nx e)))) (l[k] : Int) := by
  rw [List.take_succ_eq_append_getElem hk, List.filter_append, ints_app]
  simp only [List.filter_cons, h, if_true, List.filter_nil]
  exact ofN_snoc _ _
theorem childS_no {nx : Int → Option Ev} {e : Ev} {l : List Nat} {k : Nat} (hk : k < l.length) (h : apart nx e l[k] = false) : ofN (ints ((l.take (k + 1)).filter (apart nx e))) = ofN (ints ((l.take k).filter (apart nx e))) := by
  rw [List.take_succ_eq_append_getElem hk, List.filter_append]
  simp [h]

set_option maxRecDepth 100000 in
set_option maxHeartbeats 4000000 in
theorem child_gen (o : Option Addr) (nx : Int → Option Ev) {asl ear : Nat} (ha : asl < 256) (he : ear < 256) (t : Int) (w : World)
    (hn : ∀ W, Below w.heap.size w W → ∀ t, Calls Tryz.prog 58 #[.pointer o, .int .i64 t] W fun r w' => r = .returned (evR (nx t)) ∧ Below W.heap.size W w') :
    Calls Tryz.prog 44 #[.pointer o, .int .u8 asl, .int .u8 ear, .int .i64 t] w fun r w' => r = .returned (.int .u8 (childN nx asl ear t : Nat)) ∧ Below w.heap.size w w' := by
  have HN := Lib.hid hn
  clear hn
  cases h : nx t with
  | none =>
    have HC : Hid (childN nx asl ear t = 0) := by
      show _ = _
      unfold childN
      rw [child_none h]; rfl
    have H := Lib.hid h
    clear h
    go_enter Tryz.func44, Tryz.ntmps44
    go_wp2_with fail
    refine (HN.out w (Below.refl _ _) t).mono ?_
    rw [H.out, evR_none]
    rintro r w1 ⟨rfl, hb1⟩
    have hz := hb1.size
    go_wp2
    go_ret
    exact ⟨by rw [HC.out]; rfl, hb1.alloc hz _⟩
  | some e =>
    have HC := Lib.hid (child_all h ha he)
    have H := Lib.hid h
    have HL8 := bitsL_len (wl (asl ||| ear) t)
    clear h
    go_enter Tryz.func44, Tryz.ntmps44
    go_wp2_with fail
    refine (HN.out w (Below.refl _ _) t).mono ?_
    rw [H.out, evR_some]
    rintro r w1 ⟨rfl, hb1⟩
    have hz1 := hb1.size
    have HX : Hid (EvBox (w1.alloc (.cells #[.int .i64 e.thread, .int .i64 e.kind, .int .i64 e.obj, .bool e.fail] 81)) w1.heap.size e) := EvBox.new w1 e
    have HB2 := Lib.hid (hb1.alloc hz1 (.cells #[.int .i64 e.thread, .int .i64 e.kind, .int .i64 e.obj, .bool e.fail] 81))
    clear hb1
    go_wp2_with fail
    refine (union_any ha he _).mono ?_
    rintro r w' ⟨rfl, rfl⟩
    go_wp2_with fail
    refine (without_any (or_lt8 ha he) t _).mono ?_
    rintro r w' ⟨rfl, rfl⟩
    go_wp2_with fail
    refine (setAll_any (wl_lt (or_lt8 ha he) t) _).mono ?_
    rintro r w3 ⟨v, rfl, hv, hb3⟩
    obtain ⟨a3, c3, rfl, hr3, _⟩ := hv.form (by rw [ints_len]; omega)
    have HR := Lib.hid hr3
    have HX3 := Lib.hid (HX.out.later hb3)
    have HB3 := Lib.hid (HB2.out.trans (hb3.mono HB2.out.size))
    clear hv hr3 hb3 HX HB2
    generalize bitsL (wl (asl ||| ear) t) = l at *
    rw [ints_len] at *
    go_wp2_with fail
    go_loopw [11, 31] (fun z i wr => ∃ k : Nat, k ≤ l.length ∧ i = .int .i64 k ∧ z = .int .u8 (ofN (ints ((l.take k).filter (apart nx e))) : Nat) ∧ Hid (Below w3.heap.size w3 wr)) (fun _ i _ => l.length - (intOf i).toNat)
    case atStart => exact ⟨0, Nat.zero_le _, rfl, rfl, Below.refl _ _⟩
    case round =>
      obtain ⟨k, hk, rfl, rfl, HW⟩ := hrel
      have hzw := HW.out.size
      by_cases hlt : k < l.length
      · obtain ⟨b, o3, rfl, hck⟩ := num_at (HR.out.later HW.out) (k := k) (by rw [ints_len]; exact hlt)
        rw [ints_get hlt] at hck
        have HY := Lib.hid (childS_yes (nx := nx) (e := e) hlt)
        have HNO := Lib.hid (childS_no (nx := nx) (e := e) hlt)
        have HBW := Lib.hid (HB3.out.trans (HW.out.mono HB3.out.size))
        cases h2 : nx (l[k] : Int) with
        | none =>
          have HS := Lib.hid (HNO.out (apart_none h2))
          have H2 := Lib.hid h2
          clear h2
          go_wp2_with fail
          refine (HN.out wr HBW.out _).mono ?_
          rw [H2.out, evR_none]
          rintro r w4 ⟨rfl, hb4⟩
          have hb5 := (HW.out.trans (hb4.mono HW.out.size)).alloc (by have := hb4.size; omega) (.cells #[.int .i64 0, .int .i64 0, .int .i64 0, .bool false] 81)
          have HW5 := Lib.hid hb5
          clear hb4 hb5
          go_wp2
          go_roundw
          case rel => exact ⟨k + 1, by omega, by go_num, by rw [HS.out], HW5.out⟩
          case measure => simp [intOf]; omega
        | some x =>
          have HD := Lib.hid (apart_some (e := e) h2)
          have H2 := Lib.hid h2
          clear h2
          go_wp2_with fail
          refine (HN.out wr HBW.out _).mono ?_
          rw [H2.out, evR_some]
          rintro r w4 ⟨rfl, hb4⟩
          have hz4 := hb4.size
          have hb5 := (HW.out.trans (hb4.mono HW.out.size)).alloc (by have := hb4.size; omega) (.cells #[.int .i64 x.thread, .int .i64 x.kind, .int .i64 x.obj, .bool x.fail] 81)
          have HW5 := Lib.hid hb5
          obtain ⟨e0, e1, e2, e3⟩ := (HX3.out.later hb5).cells
          obtain ⟨x0, x1, x2, x3⟩ := (EvBox.new w4 x).cells
          clear hb4 hb5
          go_wp2_with fail
          refine (depends_any e x _).mono ?_
          rintro r w6 ⟨rfl, hb6⟩
          have HW6 := Lib.hid (HW5.out.trans (hb6.mono HW5.out.size))
          clear hb6 e0 e1 e2 e3 x0 x1 x2 x3
          cases hd : dep e x
          · have HS := Lib.hid (HY.out (by rw [HD.out, hd]; rfl))
            clear hd
            go_wp2_with fail
            refine (with_any (ofN_lt _) _ _).mono ?_
            rintro r w' ⟨rfl, rfl⟩
            go_wp2
            go_roundw
            case rel => exact ⟨k + 1, by omega, by go_num, by rw [HS.out], HW6.out⟩
            case measure => simp [intOf]; omega
          · have HS := Lib.hid (HNO.out (by rw [HD.out, hd]; rfl))
            clear hd
            go_wp2
            go_roundw
            case rel => exact ⟨k + 1, by omega, by go_num, by rw [HS.out], HW6.out⟩
            case measure => simp [intOf]; omega
      · obtain rfl : k = l.length := by omega
        have HBW := Lib.hid (HB3.out.trans (HW.out.mono HB3.out.size))
        have HF : Hid (ofN (ints ((l.take l.length).filter (apart nx e))) = childN nx asl ear t) := by
          show _ = _
          rw [List.take_length, HC.out]; rfl
        go_wp2
        go_ret
        exact ⟨by rw [← HF.out]; rfl, HBW.out⟩

set_option maxRecDepth 100000 in
set_option maxHeartbeats 1000000 in
theorem blocked_gen (o : Option Addr) (all : List Int) (hs : ∀ x ∈ all, 0 ≤ x ∧ x < 8) (hm : all.length ≤ 1000) {asl : Nat} (ha : asl < 256) (w : World)
    (hn : Calls Tryz.prog 37 #[.pointer o] w fun r w' => ∃ v, r = .returned v ∧ OwnN w' w.heap.size v all ∧ Below w.heap.size w w') :
    Calls Tryz.prog 40 #[.pointer o, .int .u8 asl] w fun r w' => r = .returned (.bool (blockedB all asl)) ∧ Below w.heap.size w w' := by
  have HN := Lib.hid hn
  clear hn
  have HQ : Hid (bits .andNot .u8 (ofN all : Int) (asl : Int) = ((wo (ofN all) asl : Nat) : Int)) := bits_andNot_u8 (ofN all) asl (ofN_lt _) ha
  have h1 := of_zero hs
  have h2 := wo_zero ha hs
  go_enter Tryz.func40, Tryz.ntmps40
  go_wp2_with fail
  refine HN.out.mono ?_
  rintro r w1 ⟨v, rfl, hv, hb1⟩
  obtain ⟨a3, c3, rfl, hr3, _⟩ := hv.form (by omega)
  go_wp2_with fail
  refine (of_any a3 c3 all w1 hr3 hm).mono ?_
  rintro r w' ⟨rfl, rfl⟩
  by_cases hz : ofN all = 0
  · have hq : (((ofN all : Nat) : Int) != 0) = false := by simp [hz]
    have HB : Hid (blockedB all asl = false) := by
      show _ = _
      rw [h1.1 hz]; rfl
    clear h1 h2 hz
    go_wp2
    go_ret
    exact ⟨by rw [HB.out]; rfl, hb1⟩
  · have hq : (((ofN all : Nat) : Int) != 0) = true := by simp; omega
    have hne : all.isEmpty = false := by
      cases hall : all with
      | nil => exact absurd (h1.2 hall) hz
      | cons => rfl
    have HB : Hid (((((wo (ofN all) asl : Nat) : Int)) == 0) = blockedB all asl) := by
      show _ = _
      unfold blockedB
      rw [hne]
      cases hb : all.all (hasB asl)
      · have : wo (ofN all) asl ≠ 0 := fun h => by rw [h2.1 h] at hb; cases hb
        simp; omega
      · simp [h2.2 hb]
    clear h1 h2 hz hne
    go_wp2
    go_ret
    exact ⟨by rw [← HB.out, ← HQ.out]; rfl, hb1⟩

end Go.Proofs.YtnldkmcijmbhcaaGreat

/- A region whose order is drawn, and whose last operation may change what the others read. -/
namespace Go.Proofs.YtnldkmcijmbhcaaGreat

section
variable {P : Program} {ops : Array Oper} {Q : Exit → Act → World → Prop} {md : Region.Mode} {S : World → Prop} {k : Nat}

/-- Whatever order comes, S holds behind each operation but number k. -/
def wpAnyK (P : Program) (md : Region.Mode) (ops : Array Oper) (Q : Exit → Act → World → Prop) (S : World → Prop) (k : Nat) : Nat → Array Bool → Act → World → Prop
  | 0, listed, a, w => Region.ready md ops listed = [] ∧ Q .normal a w
  | fuel + 1, listed, a, w =>
    (Region.ready md ops listed = [] → Q .normal a w) ∧
    ∀ i ∈ Region.ready md ops listed, wpOp P ops Q i (fun a' w' => (i ≠ k → S w') ∧ wpAnyK P md ops Q S k fuel (listed.setIfInBounds i true) a' w') a w
theorem wpAny_of_k : ∀ (fuel : Nat) (listed : Array Bool) (a : Act) (w : World), wpAnyK P md ops Q S k fuel listed a w → wpAny P md ops Q fuel listed a w
  | 0, _, _, _, h => h
  | fuel + 1, _, _, _, h => ⟨h.1, fun i hi => wpOp_mono (fun a' w' h' => wpAny_of_k fuel _ a' w' h'.2) (h.2 i hi)⟩
/-- One that number k waits for, if by others, may be taken first. -/
theorem wpAnyK_first {i : Nat} {oi : Oper} {v : Value} {bar : List Nat} (hi : ops[i]? = some oi) (hsel : ∀ (j : Nat) (o : Oper) cs b, ops[j]? = some o → o.op ≠ .select cs b)
    (hQ : ∀ c a w, Q (.panic c) (a.put oi.dst v) w → Q (.panic c) a w) (hk : k ∈ bar) (hbar : ∀ b ∈ bar, ∀ ob, ops[b]? = some ob → ∃ e ∈ ob.after, Region.binds md e = true ∧ (e.on = i ∨ e.on ∈ bar)) :
    ∀ (fuel : Nat) (listed : Array Bool) (a : Act) (w : World),
      (∀ j oj, ops[j]? = some oj → j ≠ i → listed.getD j true = false → (∀ e ∈ oj.after, Region.binds md e = true → e.on ≠ i) → oi.apart ops oj = true) →
      (∀ b ∈ bar, listed.getD b true = false) → i ∈ Region.ready md ops listed → YieldsIf P ops S oi v a → S w →
      wpAnyK P md ops Q S k fuel (listed.setIfInBounds i true) (a.put oi.dst v) w → wpAnyK P md ops Q S k (fuel + 1) listed a w := by
  intro fuel
  induction fuel with
  | zero =>
    intro listed a w _ _ hr hy hS H
    refine ⟨fun h => (by rw [h] at hr; cases hr), fun j hj => ?_⟩
    by_cases hji : j = i
    · subst hji; exact hy.wpOp hi hS ⟨fun _ => hS, H⟩
    · have := ready_mono hj hji
      rw [H.1] at this
      cases this
  | succ fuel ih =>
    intro listed a w hfree hun hr hy hS H
    refine ⟨fun h => (by rw [h] at hr; cases hr), fun j hj => ?_⟩
    by_cases hji : j = i
    · subst hji; exact hy.wpOp hi hS ⟨fun _ => hS, H⟩
    · have h1 := H.2 j (ready_mono hj hji)
      obtain ⟨hjun, oj, hoj, hall⟩ := mem_ready.1 hj
      have hno : ∀ m, listed.getD m true = false → ∀ e ∈ oj.after, Region.binds md e = true → e.on ≠ m := fun m h0 e he hb heq => by
        have h1 := hall e he hb
        rw [heq] at h1
        rcases Nat.lt_or_ge m listed.size with h' | h'
        · simp [h'] at h0 h1; rw [h0] at h1; cases h1
        · simp [Array.getElem?_eq_none h'] at h1
      have hnot := hno i (mem_ready.1 hr).1
      have hjb : j ∉ bar := fun hjb => by
        obtain ⟨e, he, hb, heq | heq⟩ := hbar j hjb oj hoj
        · exact hnot e he hb heq
        · exact hno e.on (hun _ heq) e he hb rfl
      have hjk : j ≠ k := fun e => hjb (e ▸ hk)
      have h2 := wpOp_putIf hoj (hfree j oj hoj hji hjun hnot) (fun cs b => hsel i oi cs b hi) (fun cs b => hsel j oj cs b hoj) hQ hy h1
      have hfree' : ∀ m om, ops[m]? = some om → m ≠ i → (listed.setIfInBounds j true).getD m true = false →
          (∀ e ∈ om.after, Region.binds md e = true → e.on ≠ i) → oi.apart ops om = true := fun m om hm hmi hun hno => by
        refine hfree m om hm hmi ?_ hno
        by_cases hjm : j = m
        · subst hjm; exact hjun
        · rw [getD_set_ne true hjm] at hun; exact hun
      have hun' : ∀ b ∈ bar, (listed.setIfInBounds j true).getD b true = false := fun b hb => by
        have hjb2 : j ≠ b := fun e => hjb (by rw [e]; exact hb)
        rw [getD_set_ne true hjb2]
        exact hun b hb
      refine wpOp_mono (fun a' w' h3 => ⟨h3.2.1, ih (listed.setIfInBounds j true) a' w' hfree' hun' (ready_mono hr (Ne.symm hji)) h3.1 (h3.2.1 hjk) ?_⟩) h2
      rw [Array.setIfInBounds_comm _ _ hji]
      exact h3.2.2
/-- Does each of these wait for number i, or for another one of them? -/
def waitsK (md : Region.Mode) (ops : Array Oper) (listed : Array Bool) (bar : List Nat) (i : Nat) : Bool := bar.all fun b => !listed.getD b true && match ops[b]? with
  | none => true
  | some ob => ob.after.any fun e => Region.binds md e && (decide (e.on = i) || bar.contains e.on)
theorem waitsK_spec {listed : Array Bool} {bar : List Nat} {i : Nat} (h : waitsK md ops listed bar i = true) : (∀ b ∈ bar, listed.getD b true = false) ∧ ∀ b ∈ bar, ∀ ob, ops[b]? = some ob → ∃ e ∈ ob.after, Region.binds md e = true ∧ (e.on = i ∨ e.on ∈ bar) := by
  unfold waitsK at h
  rw [List.all_eq_true] at h
  refine ⟨fun b hb => ?_, fun b hb ob hob => ?_⟩
  · have h1 := h b hb
    rw [Bool.and_eq_true, Bool.not_eq_true'] at h1
    exact h1.1
  · have h1 := h b hb
    rw [Bool.and_eq_true, hob] at h1
    have h2 := h1.2
    dsimp only at h2
    rw [Array.any_eq_true'] at h2
    obtain ⟨e, he, h2⟩ := h2
    rw [Bool.and_eq_true, Bool.or_eq_true, decide_eq_true_eq] at h2
    exact ⟨e, he, h2.1, h2.2.imp id fun h => by simpa using h⟩
theorem wpAnyK_take {i : Nat} {oi : Oper} {v : Value} {fuel : Nat} {listed : Array Bool} {a : Act} {w : World} (bar : List Nat) (hi : ops[i]? = some oi)
    (hs : Region.noSelect ops = true) (hf : Region.free md ops listed i = true) (hr : (Region.ready md ops listed).contains i = true) (hk : bar.contains k = true) (hw : waitsK md ops listed bar i = true)
    (hQ : ∀ c a w, Q (.panic c) (a.put oi.dst v) w → Q (.panic c) a w) (hy : YieldsIf P ops S oi v a) (hS : S w)
    (h : wpAnyK P md ops Q S k fuel (listed.setIfInBounds i true) (a.put oi.dst v) w) : wpAnyK P md ops Q S k (fuel + 1) listed a w :=
  wpAnyK_first hi (Region.noSelect_spec hs) hQ (by simpa using hk) (waitsK_spec hw).2 fuel listed a w (Region.free_spec hi hf) (waitsK_spec hw).1 (by simpa using hr) hy hS h
/-- One alone may come up. -/
theorem wpAnyK_one {i : Nat} {o : Oper} {fuel : Nat} {listed : Array Bool} {a : Act} {w : World} (hr : Region.ready md ops listed = [i]) (ho : ops[i]? = some o)
    (h : ∀ K' : Act → World → Prop, Shut (∀ a w, (i ≠ k → S w) → wpAnyK P md ops Q S k fuel (listed.setIfInBounds i true) a w → K' a w) → if Region.wanted o (yielded ops a.tmps) = true then Oper.wp P o a w K' Q else K' (a.put o.dst undef) w) : wpAnyK P md ops Q S k (fuel + 1) listed a w := by
  refine ⟨fun h0 => (by rw [hr] at h0; cases h0), fun j hj => ?_⟩
  rw [hr] at hj
  obtain rfl := List.mem_singleton.1 hj
  exact wpOp_step ho fun K' hK => h K' fun a w h1 h2 => hK a w ⟨h1, h2⟩
theorem wpAnyK_done {listed : Array Bool} {a : Act} {w : World} (hr : Region.ready md ops listed = []) (h : Q .normal a w) : ∀ fuel, wpAnyK P md ops Q S k fuel listed a w
  | 0 => ⟨hr, h⟩
  | _ + 1 => ⟨fun _ => h, by rw [hr]; simp⟩
theorem wp_region_k {id : Nat} {a : Act} {w : World} (hm : P.follows .mixedOrders = true)
    (h : wpAnyK P .any ops Q S k ops.size (Array.replicate ops.size false) a w.drew) : (Code.region id ops true).wp P Q a w :=
  wp_region_any hm (wpAny_of_k _ _ _ _ h)
end

end Go.Proofs.YtnldkmcijmbhcaaGreat

/- The contract of makeNode. -/
namespace Go.Proofs.YtnldkmcijmbhcaaGreat
open Go.RowKit

theorem own_cell2 {w : World} {B N cap : Nat} {a : Option Addr} {rs : List (Nat × Int)} {t : TypeId} (h : OwnRow w B t 2 rcCell (.slice a N cap) rs) {k : Nat} (hk : k < rs.length) : ∃ g, a = some ⟨g, 0, none⟩ ∧ w.cell? ⟨g, k * 2, none⟩ = some (.int .i64 (rs[k].1 : Nat)) ∧ w.cell? ⟨g, k * 2 + 1, none⟩ = some (.int .i64 rs[k].2) := by
  obtain ⟨k1, ⟨_, h2⟩ | ⟨g, cap', cur, h1, k3, k4, k5, k6, k7, k8⟩⟩ := h
  · omega
  · injection h1 with e1 e2 e3
    have hc : ∀ j, j < 2 → w.cell? ⟨g, k * 2 + j, none⟩ = (rcCell rs[k])[j]? := by
      intro j hj
      have h2 := cellsL_get rcCell_len rs k j hk hj
      rw [← k8, List.getElem?_take_of_lt (by omega)] at h2
      rw [← h2]
      simp [World.cell?, k4]
    exact ⟨g, e1, hc 0 (by omega), hc 1 (by omega)⟩
theorem tyPnRc : 101 ≠ 98 := by decide

theorem markAll_st {rs : List (Nat × Int)} {p : List PN} {i : Nat} (hi : i < p.length) (hr : ∀ r ∈ rs, r.1 < p.length) : ((markAll p rs).getD i pn0).st = (p.getD i pn0).st := by
  rw [markAll_at rs p i hi hr]
  split <;> rfl
theorem map_getD {ps : List (Nat × PN)} {i : Nat} (hi : i < ps.length) : (ps.map Prod.snd).getD i pn0 = ps[i].2 := by
  rw [List.getD_eq_getElem?_getD, List.getElem?_map, List.getElem?_eq_getElem hi]
  rfl

set_option maxRecDepth 100000 in
set_option maxHeartbeats 16000000 in
theorem makeNode_any {w : World} {B xb oc F sb z : Nat} {pv rv kv : Value} {oa : Option Addr} {ps : List (Nat × PN)} {x : Xp} {s : St} (h : XM w B xb pv rv kv oa oc ps x) (hB : B ≤ w.heap.size) (hs : StAt w sb s) (ok : s.Ok F) (hz : z < 256)
    (hlen : x.path.length = x.row.length) (hrow : x.row.length ≤ 100) (hright : rightL x.row = true) (hoks : ∀ n ∈ x.path, n.st.Ok F) (hc : x.choices ≤ 100000) (hnd : x.nodes ≤ 100000) (hru : x.runs ≤ 100000) (hbl : x.blocked ≤ 100000) (hks : x.keys.length ≤ 100000) (ho : x.order.length ≤ 1000) (hbs : ∀ n ∈ x.order, 0 ≤ n ∧ n < 256) :
    Calls Tryz.prog 20 #[.pointer (some ⟨xb, 0, none⟩), .pointer (some ⟨sb, 0, none⟩), .int .u8 (z : Nat)] w fun r w' => r = .returned (.tuple #[]) ∧ ExR B xb oa oc (makeX x s z) w' ∧ Below B w w' := by
  have hpl : ps.length = x.path.length := by rw [← h.eq, List.length_map]
  obtain ⟨pa, pc, rfl, _, _⟩ := OwnRow.form2 h.path pnCell_len (by omega)
  obtain ⟨ra, rc, rfl, _, _⟩ := h.row.form2 (by omega)
  obtain ⟨ka, kc, rfl, _, _⟩ := OwnRow.form2 h.keys strCell_len (by omega)
  rw [hpl] at h
  obtain ⟨_, _, _, _, _, x5, _⟩ := h.cells
  have f5 := h.frozen 5
  have hxs := h.ne_st hs
  have HX1 : Hid (XM (w.setCell ⟨xb, 5, none⟩ (.int .i64 ((x.nodes : Int) + 1))) B xb (.slice pa x.path.length pc) (.slice ra x.row.length rc) (.slice ka x.keys.length kc) oa oc ps { x with nodes := x.nodes + 1 }) := h.setNodes hB (x.nodes + 1)
  have HS1 : Hid (StAt (w.setCell ⟨xb, 5, none⟩ (.int .i64 ((x.nodes : Int) + 1))) sb s) := hs.onlyX ((Only.refl xb w).setCell 5 _) hxs
  have HB1 : Hid (Below B w (w.setCell ⟨xb, 5, none⟩ (.int .i64 ((x.nodes : Int) + 1)))) := (Below.refl B w).setCell (p := ⟨xb, 5, none⟩) h.low _
  obtain ⟨_, y1, _⟩ := HX1.out.cells
  have HRC := Lib.hid (races_st HS1.out ok ok.len4 ra rc x.row (HX1.out.row.at_ (by show x.row.length ≤ _; omega)) (by omega))
  have HRS : Hid (racesN s.next (okL x.row) s.ts.length = racesX x s) := by
    show _ = _
    unfold okL racesX
    rw [if_pos hright]
  have hrl : (racesX x s).length ≤ 400 := by
    have h1 := racesN_len s.next x.row s.ts.length
    have h2 := ok.len4
    have h3 : s.ts.length * x.row.length ≤ 4 * 100 := Nat.mul_le_mul h2 hrow
    unfold racesX
    omega
  have HRL : Hid (∀ r ∈ racesX x s, r.1 < x.path.length) := fun r hr => by rw [hlen]; exact racesX_lt r hr
  have HOK := Lib.hid hoks
  have HOKS := Lib.hid ok
  have HBS := Lib.hid hbs
  have HXS := Lib.hid hxs
  have hlo := h.low
  have HPA : Hid (x.path.length ≠ 0 → ∃ g, pa = some ⟨g, 0, none⟩) := fun hn => by
    obtain ⟨g, cap, e, _⟩ := h.path.block (by intro e; rw [e] at hpl; simp at hpl; omega)
    injection e with e
    exact ⟨g, e⟩
  have hxb := HX1.out.lt
  unfold RacesR at HRC
  rw [HRS.out] at HRC
  clear h hs ok hright hoks hbs HRS hxs
  generalize hW1 : w.setCell ⟨xb, 5, none⟩ (.int .i64 ((x.nodes : Int) + 1)) = W1 at *
  have hs1 : w.heap.size ≤ W1.heap.size := by rw [← hW1]; simp [World.setCell]
  have hlen1 : x.path.length ≤ x.row.length := by omega
  have hlen2 : x.row.length ≤ x.path.length := by omega
  have hpl1 : ps.length ≤ x.path.length := by omega
  clear hlen hpl
  go_enter Tryz.func20, Tryz.ntmps20
  go_wp2_with fail
  refine HRC.out.mono ?_
  rintro r W2 ⟨rv2, rfl, hrs, hb2⟩
  obtain ⟨a2, c2, rfl, _, hc2, _⟩ := OwnRow.form2 hrs rcCell_len (by omega)
  have HRS2 : Hid (OwnRow W2 B 98 2 rcCell (.slice a2 (racesX x s).length c2) (racesX x s)) := by
    obtain ⟨k1, k2 | ⟨g, cap, cur, k2, k3, k4⟩⟩ := hrs
    · exact ⟨k1, .inl k2⟩
    · exact ⟨k1, .inr ⟨g, cap, cur, k2, by omega, k4⟩⟩
  have HX2 : Hid (XM W2 B xb (.slice pa x.path.length pc) (.slice ra x.row.length rc) (.slice ka x.keys.length kc) oa oc ps { x with nodes := x.nodes + 1, path := markAll x.path ((racesX x s).take 0) }) := HX1.out.later hb2
  have HS2 := Lib.hid (HS1.out.later hb2)
  have HB2 : Hid (Below B w W2) := HB1.out.trans (hb2.mono (by omega))
  clear hrs hb2 HX1 HS1 HB1 HRC y1 hW1
  have hB2 : B ≤ W2.heap.size := Nat.le_trans hB HB2.out.size
  go_wp2_with fail
  go_loopw [27] (fun i wr => ∃ k : Nat, k ≤ (racesX x s).length ∧ i = .int .i64 k ∧ Hid (∃ psk, XM wr B xb (.slice pa x.path.length pc) (.slice ra x.row.length rc) (.slice ka x.keys.length kc) oa oc psk { x with nodes := x.nodes + 1, path := markAll x.path ((racesX x s).take k) }) ∧
    Hid (OwnRow wr B 98 2 rcCell (.slice a2 (racesX x s).length c2) (racesX x s)) ∧ Hid (StAt wr sb s) ∧ Hid (Below B w wr)) (fun i _ => (racesX x s).length - (intOf i).toNat)
  case atStart => exact ⟨0, Nat.zero_le _, rfl, ⟨ps, HX2.out⟩, HRS2.out, HS2.out, HB2.out⟩
  case round =>
    obtain ⟨k, hk, rfl, HXE, HRS, HS, HB⟩ := hrel
    obtain ⟨psk, hX⟩ := HXE.out
    have HX := Lib.hid hX
    have hBr : B ≤ wr.heap.size := Nat.le_trans hB HB.out.size
    clear hX HXE
    by_cases hlt : k < (racesX x s).length
    · obtain ⟨g2, rfl, hcat, _⟩ := own_cell2 HRS.out hlt
      have hat := HRL.out _ (List.getElem_mem hlt)
      obtain ⟨g, rfl⟩ := HPA.out (by omega)
      have htk : Hid (markAll x.path ((racesX x s).take (k + 1)) = markOne (markAll x.path ((racesX x s).take k)) (racesX x s)[k].1) := by
        show _ = _
        rw [List.take_succ_eq_append_getElem hlt, markAll_snoc]
      have hpk : psk.length = x.path.length := by
        have := congrArg List.length HX.out.eq
        rw [List.length_map] at this
        rw [this]
        exact markAll_len _ _
      have hst := markAll_st (rs := (racesX x s).take k) hat (fun r hr => HRL.out r (List.mem_of_mem_take hr))
      have hoka := HOK.out _ (by rw [getD_lt pn0 hat]; exact List.getElem_mem hat : x.path.getD (racesX x s)[k].1 pn0 ∈ x.path)
      rw [← hst] at hoka
      have hAp : (racesX x s)[k].1 < psk.length := by omega
      have hq2 : (markAll x.path ((racesX x s).take k)).getD (racesX x s)[k].1 pn0 = psk[(racesX x s)[k].1].2 := by
        rw [← map_getD hAp, HX.out.eq]
      generalize (racesX x s)[k].1 = A at *
      generalize (racesX x s)[k].2 = T at *
      generalize markAll x.path ((racesX x s).take k) = MP at *
      generalize hMP1 : markAll x.path ((racesX x s).take (k + 1)) = MP1 at *
      have HMP := Lib.hid hMP1
      clear hMP1
      obtain ⟨hnd1, hfz1⟩ := HX.out.node hAp
      rw [← hq2] at hnd1
      have hsA := HX.out.sts _ (List.getElem_mem hAp)
      rw [← hq2] at hsA
      obtain ⟨SB, hSB⟩ : ∃ SB, SB = psk[A].1 := ⟨_, rfl⟩
      have hnd2 := hnd1
      have hsA2 := hsA
      rw [← hSB] at hnd2 hsA2
      have hcn := (HX.out.cells).1
      have h4 := all_len8 hoka
      have hba := below_alloc1 wr (.cells #[.int .i64 (A : Nat), .int .i64 T] 98)
      have d0 := cell_later hba hcn
      have d1 : (wr.alloc (.cells #[.int .i64 (A : Nat), .int .i64 T] 98)).cell? ⟨wr.heap.size, 0, none⟩ = some (.int .i64 (A : Nat)) := by rw [World.cell?_alloc_new]; rfl
      have d2 := (hnd2.later hba).c0
      have HAL : Hid (∀ q, Calls Tryz.prog 37 #[.pointer (some ⟨SB, 0, none⟩)] ((wr.alloc (.cells #[.int .i64 (A : Nat), .int .i64 T] 98)).drewN q) fun r w' => ∃ v, r = .returned v ∧ OwnN w' ((wr.alloc (.cells #[.int .i64 (A : Nat), .int .i64 T] 98)).drewN q).heap.size v (MP.getD A pn0).st.all ∧ Below ((wr.alloc (.cells #[.int .i64 (A : Nat), .int .i64 T] 98)).drewN q).heap.size ((wr.alloc (.cells #[.int .i64 (A : Nat), .int .i64 T] 98)).drewN q) w') := fun q => all_any (show StAt ((wr.alloc (.cells #[.int .i64 (A : Nat), .int .i64 T] 98)).drewN q) SB (MP.getD A pn0).st from hsA2.later hba.drewN) hoka
      have hbq : ∀ q, Below wr.heap.size wr ((wr.alloc (.cells #[.int .i64 (A : Nat), .int .i64 T] 98)).drewN q) := fun q => hba.drewN
      have HBQ := Lib.hid hbq
      have hai : (A : Int) < x.path.length := by omega
      obtain ⟨G, hG⟩ : ∃ G, G = ofN (MP.getD A pn0).st.all := ⟨_, rfl⟩
      have HXP : Hid (∀ W, Below wr.heap.size wr W → (∃ ps2, XM (W.setCell ⟨g, A * 4 + 2, none⟩ (.int .u8 (G : Nat))) B xb (.slice (some ⟨g, 0, none⟩) x.path.length pc) (.slice ra x.row.length rc) (.slice ka x.keys.length kc) oa oc ps2 { x with nodes := x.nodes + 1, path := MP1 }) ∧ W.frozen? ⟨g, A * 4 + 2, none⟩ = false ∧ (W.cell? ⟨g, A * 4 + 2, none⟩).isSome = true ∧ OwnRow (W.setCell ⟨g, A * 4 + 2, none⟩ (.int .u8 (G : Nat))) B 98 2 rcCell (.slice (some ⟨g2, 0, none⟩) (racesX x s).length c2) (racesX x s) ∧ StAt (W.setCell ⟨g, A * 4 + 2, none⟩ (.int .u8 (G : Nat))) sb s ∧ Below B w (W.setCell ⟨g, A * 4 + 2, none⟩ (.int .u8 (G : Nat)))) := by
        intro W hb
        have h1 := HX.out.later hb
        have ht := own_ty h1.path
        have hg2 := grown_set W g (A * 4 + 2) (.int .u8 (G : Nat))
        have hBW : B ≤ W.heap.size := Nat.le_trans hBr hb.size
        have hgB : B ≤ g := (ht g rfl).1
        refine ⟨⟨psk.set A (psk[A].1, { psk[A].2 with go := G }), ?_⟩, (h1.node hAp).2 2 (by omega), ?_, own_keptT (HRS.out.later hb) hg2 ht (Ne.symm tyPnRc), st_keptT (HS.out.later hb) hg2 ht tyPnSS, (HB.out.trans (hb.mono (Nat.le_trans hB HB.out.size))).setCell (p := ⟨g, A * 4 + 2, none⟩) hgB _⟩
        · have h2 := h1.put hBW hAp 2 (.int .u8 (G : Nat)) (q := { psk[A].2 with go := G }) rfl (by omega) rfl
          have e : MP.set A { psk[A].2 with go := G } = MP1 := by
            rw [htk.out]
            unfold markOne
            rw [hG, hq2]
          rw [← e]
          exact h2
        · rw [((h1.node hAp).1).c2]; rfl
      clear htk hpk hst hq2 hnd1 hfz1 hsA hsA2 hnd2 hcn hba hbq hoka hSB HX hAp
      go_wp2_with fail
      go_quiet (fail)
      go_wp2_with fail
      refine (HAL.out nq).mono ?_
      rintro r w3 ⟨v3, rfl, hv3, hb3⟩
      obtain ⟨a3, c3, rfl, hn3, _⟩ := hv3.form (by omega)
      have HOF : Hid (Calls Tryz.prog 21 #[.slice a3 (MP.getD A pn0).st.all.length c3] w3 fun r w' => r = .returned (.int .u8 (G : Nat)) ∧ w3 = w') := by
        rw [hG]
        exact of_any a3 c3 _ w3 hn3 (by omega)
      have hb4 : Below wr.heap.size wr w3 := (HBQ.out nq).trans (hb3.mono (HBQ.out nq).size)
      obtain ⟨⟨ps2, hX2⟩, g0, g1, HR5, HS5, HB5⟩ := HXP.out w3 hb4
      obtain ⟨old, gold⟩ := Option.isSome_iff_exists.1 g1
      have HX5 := Lib.hid hX2
      have HR5 := Lib.hid HR5
      have HS5 := Lib.hid HS5
      have HB5 := Lib.hid HB5
      clear hX2 hv3 hb3 hn3 HAL HXP hG g1 hb4
      generalize (MP.getD A pn0).st.all = AL at *
      go_wp2_with fail
      refine HOF.out.mono ?_
      rintro r w' ⟨rfl, rfl⟩
      go_wp2
      go_roundw
      case rel => exact ⟨k + 1, by omega, by go_num, ⟨ps2, by rw [HMP.out]; exact HX5.out⟩, HR5, HS5, HB5⟩
      case measure => simp [intOf]; omega
    · obtain rfl : k = (racesX x s).length := by omega
      have HXM : Hid (XM wr B xb (.slice pa x.path.length pc) (.slice ra x.row.length rc) (.slice ka x.keys.length kc) oa oc psk (markX x s)) := by
        have h1 := HX.out
        rw [List.take_length] at h1
        exact h1
      have hnb : ∀ k, (Value.slice pa x.path.length pc).ownBlock = some k → k < wr.heap.size := HXM.out.own_lt
      have hba := below_alloc1 wr (.cells #[.pointer (some ⟨sb, 0, none⟩), .int .u8 (z : Nat), .int .u8 0, .int .u8 0] 101)
      have HX7 := Lib.hid (HXM.out.later hba)
      have HS7 := Lib.hid (HS.out.later hba)
      have HBX7 : Hid (BoxAt (wr.alloc (.cells #[.pointer (some ⟨sb, 0, none⟩), .int .u8 (z : Nat), .int .u8 0, .int .u8 0] 101)) wr.heap.size sb ⟨s, z, 0, 0⟩) := BoxAt.new wr sb ⟨s, z, 0, 0⟩
      have HB7 : Hid (Below B w (wr.alloc (.cells #[.pointer (some ⟨sb, 0, none⟩), .int .u8 (z : Nat), .int .u8 0, .int .u8 0] 101))) := HB.out.trans (hba.mono (Nat.le_trans hB HB.out.size))
      have HAW := Lib.hid (awake_any HBX7.out.node HS7.out HOKS.out hz)
      have hAl : (PN.awake ⟨s, z, 0, 0⟩).length ≤ 8 := by
        have := all_len8 HOKS.out
        unfold PN.awake
        exact Nat.le_trans (List.length_filter_le _ _) (by show s.all.length ≤ 8; omega)
      have hBw : B ≤ wr.heap.size := Nat.le_trans hB HB.out.size
      clear HX HXM HRS HS hba
      go_wp2_with fail
      refine HAW.out.mono ?_
      rintro r W8 ⟨v8, rfl, hv8, hb8⟩
      obtain ⟨a8, c8, rfl, _, _⟩ := hv8.form (by omega)
      have HX8 := Lib.hid (HX7.out.later hb8)
      have HS8 := Lib.hid (HS7.out.later hb8)
      have HBX8 := Lib.hid (HBX7.out.later hb8)
      have HB8 : Hid (Below B w W8) := HB7.out.trans (hb8.mono (Nat.le_trans hB HB7.out.size))
      have HV8 := Lib.hid hv8
      have hB8 : B ≤ W8.heap.size := Nat.le_trans hB HB8.out.size
      have hnx : wr.heap.size ≠ xb := by have := HX8.out.lt; intro e; have h1 := HX7.out.blk; rw [← e, show (wr.alloc (.cells #[.pointer (some ⟨sb, 0, none⟩), .int .u8 (z : Nat), .int .u8 0, .int .u8 0] 101)).heap[wr.heap.size]? = _ from HBX7.out] at h1; injection h1 with h1; injection h1 with _ h2; exact tyPnEx h2
      have hpn : (Value.slice pa x.path.length pc).ownBlock ≠ some wr.heap.size := fun e => by have := hnb _ e; omega
      obtain ⟨nb, hnbe⟩ : ∃ nb, nb = wr.heap.size := ⟨_, rfl⟩
      have hnbB : B ≤ nb := by rw [hnbe]; exact hBw
      rw [← hnbe] at hnx hpn ⊢
      have HBX8 : Hid (BoxAt W8 nb sb ⟨s, z, 0, 0⟩) := by rw [hnbe]; exact HBX8.out
      clear HX7 HS7 HBX7 HB7 hv8 hb8 HAW hnb hnbe HB
      generalize hAWE : PN.awake ⟨s, z, 0, 0⟩ = AW at *
      have HAWE : Hid (AW = PN.awake ⟨s, z, 0, 0⟩) := hAWE.symm
      clear hAWE
      go_upto_if 54 with (fail)
      go_cut [54] (fun s54 wx => (∃ ps' kv', XM wx B xb (.slice pa x.path.length pc) (.slice ra x.row.length rc) kv' oa oc ps' (halfX x s z)) ∧ Hid (BoxAt wx nb sb (newN x s z)) ∧ Hid (StAt wx sb s) ∧ Hid (Below B w wx))
      case first =>
        have HIN : Hid (∀ y, y ∈ x.order → 0 ≤ y ∧ y < 256) := HBS
        by_cases hA : AW = []
        · have hA' : (PN.awake ⟨s, z, 0, 0⟩) = [] := HAWE.out.symm.trans hA
          have HBK : Hid (Calls Tryz.prog 40 #[.pointer (some ⟨sb, 0, none⟩), .int .u8 z] W8 fun r w' => r = .returned (.bool (blockedB s.all z)) ∧ Below W8.heap.size W8 w') :=
            blocked_gen (some ⟨sb, 0, none⟩) s.all (all_small HOKS.out) (by have := all_len8 HOKS.out; omega) hz W8 (all_any HS8.out HOKS.out)
          clear HAWE HV8
          subst hA
          cases hb : blockedB s.all z
          · obtain ⟨e1, e2⟩ := half_end (x := x) hA' hb
            have HE1 := Lib.hid e1
            have HE2 := Lib.hid e2
            rw [hb] at HBK
            clear e1 e2 hA' hb
            go_wp2_with fail
            refine HBK.out.mono ?_
            rintro r W9 ⟨rfl, hb9⟩
            have HX9 := Lib.hid (HX8.out.later hb9)
            have HS9 := Lib.hid (HS8.out.later hb9)
            have HBX9 := Lib.hid (HBX8.out.later hb9)
            have HB9 : Hid (Below B w W9) := HB8.out.trans (hb9.mono hB8)
            have hB9 : B ≤ W9.heap.size := Nat.le_trans hB HB9.out.size
            have q6 : W9.cell? ⟨xb, 6, none⟩ = some (.int .i64 (x.runs : Nat)) := HX9.out.cells.2.2.2.2.2.2.1
            have g6 := HX9.out.frozen 6
            have HX10 : Hid (XM (W9.setCell ⟨xb, 6, none⟩ (.int .i64 ((x.runs : Int) + 1))) B xb (.slice pa x.path.length pc) (.slice ra x.row.length rc) (.slice ka x.keys.length kc) oa oc psk { markX x s with runs := x.runs + 1 }) := HX9.out.setRuns hB9 (x.runs + 1)
            have HO10 : Hid (Only xb W9 (W9.setCell ⟨xb, 6, none⟩ (.int .i64 ((x.runs : Int) + 1)))) := (Only.refl xb W9).setCell 6 _
            have HS10 := Lib.hid (HS9.out.onlyX HO10.out (HX9.out.ne_st HS9.out))
            have HBX10 := Lib.hid (HBX9.out.only HO10.out hnx)
            have HB10 : Hid (Below B w (W9.setCell ⟨xb, 6, none⟩ (.int .i64 ((x.runs : Int) + 1)))) := HB9.out.setCell (p := ⟨xb, 6, none⟩) hlo _
            clear HX9 HS9 HBX9 HB9 hb9 HX8 HS8 HBX8 HB8 HBK HO10
            generalize hW10 : W9.setCell ⟨xb, 6, none⟩ (.int .i64 ((x.runs : Int) + 1)) = W10 at *
            go_wp2_with fail
            clear hW10 q6 g6
            have hB10 : B ≤ W10.heap.size := Nat.le_trans hB HB10.out.size
            have hB19 : Below W10.heap.size W10 W10.drew := (Below.refl _ _).drew
            have HCE : Hid (∀ W, Below W10.heap.size W10 W → W.cell? ⟨xb, 4, none⟩ = some (.slice ka x.keys.length kc) ∧ W.cell? ⟨xb, 1, none⟩ = some (.slice ra x.row.length rc)) := fun W hb => ⟨cell_later hb HX10.out.cells.2.2.2.2.1, cell_later hb HX10.out.cells.2.1⟩
            have HKY : Hid (∀ W, Below W10.heap.size W10 W → Calls Tryz.prog 41 #[.slice ra x.row.length rc] W fun r w' => r = .returned (.string ⟨(keyB x.row).toArray⟩) ∧ Below W.heap.size W w') := fun W hb => key_any ra rc x.row W ((HX10.out.row.at_ (by show x.row.length ≤ _; omega)).later hb)
            have HKE : Hid (strCell (keyB x.row) = [.string ⟨(keyB x.row).toArray⟩]) := rfl
            generalize keyB x.row = K0 at *
            have HFIN : Hid (∀ W v6 w6, Below W10.heap.size W10 W → OwnRow w6 B 9 1 strCell v6 (x.keys ++ [K0]) → W.grownBy w6 (Value.slice ka x.keys.length kc).ownBlock → (∃ ps' kv', XM (w6.setCell ⟨xb, 4, none⟩ v6) B xb (.slice pa x.path.length pc) (.slice ra x.row.length rc) kv' oa oc ps' (halfX x s z)) ∧ BoxAt (w6.setCell ⟨xb, 4, none⟩ v6) nb sb ⟨s, z, 0, 0⟩ ∧ StAt (w6.setCell ⟨xb, 4, none⟩ v6) sb s ∧ Below B w (w6.setCell ⟨xb, 4, none⟩ v6) ∧ w6.cell? ⟨xb, 4, none⟩ = some (.slice ka x.keys.length kc) ∧ w6.cell? ⟨xb, 1, none⟩ = some (.slice ra x.row.length rc) ∧ w6.frozen? ⟨xb, 4, none⟩ = false) := by
              intro W v6 w6 hb ho6 hg6
              have h1 := HX10.out.later hb
              have hBW : B ≤ W.heap.size := Nat.le_trans hB10 hb.size
              have ht := own_ty h1.keys
              have h2 := h1.moreKeys hBW ho6 hg6
              have hbx : w6.heap[xb]? = W.heap[xb]? := hg6.block xb h1.lt fun e => by
                obtain ⟨_, cs, hcs⟩ := ht xb e.symm
                rw [h1.blk] at hcs
                injection hcs with hcs
                injection hcs with _ h2
                exact tyExSt h2
              have hbox : BoxAt w6 nb sb ⟨s, z, 0, 0⟩ := by
                refine (hg6.block nb (HBX10.out.later hb).lt fun e => ?_).trans (HBX10.out.later hb)
                obtain ⟨_, cs, hcs⟩ := ht nb e.symm
                rw [show W.heap[nb]? = _ from HBX10.out.later hb] at hcs
                injection hcs with hcs
                injection hcs with _ h2
                exact tyPnSt h2
              have hst : StAt w6 sb s := st_keptT (HS10.out.later hb) hg6 ht tyStSS
              have hxs2 : sb ≠ xb := h1.ne_st (HS10.out.later hb)
              refine ⟨⟨psk, _, by rw [HE1.out]; exact h2⟩, hbox.setX hnx 4 _, hst.onlyX ((Only.refl xb w6).setCell 4 _) hxs2, ((HB10.out.trans (hb.mono hB10)).trans (below_keptT hg6 ht hBW)).setCell (p := ⟨xb, 4, none⟩) hlo _, ?_, ?_, ?_⟩
              · rw [World.cell?_of_block (w := W) (a := ⟨xb, 4, none⟩) hbx]; exact h1.cells.2.2.2.2.1
              · rw [World.cell?_of_block (w := W) (a := ⟨xb, 1, none⟩) hbx]; exact h1.cells.2.1
              · rw [World.frozen?_of_block (w := W) (a := ⟨xb, 4, none⟩) hbx]; exact h1.frozen 4
            have HOK10 : Hid (∀ W, Below W10.heap.size W10 W → OwnRow W B 9 1 strCell (.slice ka x.keys.length kc) x.keys) := fun W hb => (HX10.out.later hb).keys
            clear HX10 HBX10 HS10
            have hHeld := HCE.out W10.drew hB19
            refine wp_region_k (S := fun W => W.cell? ⟨xb, 4, none⟩ = some (.slice ka x.keys.length kc) ∧ W.cell? ⟨xb, 1, none⟩ = some (.slice ra x.row.length rc)) (k := 16) (by kernel_rfl) ?_
            refine wpAnyK_take (i := 0) (v := ?_) [16] rfl (by kernel_rfl) (by kernel_rfl) (by kernel_rfl) (by kernel_rfl) (by kernel_rfl) (fun _ _ _ h => h) (Or.inl ⟨by kernel_rfl, ?_⟩) hHeld ?_
            rotate_left
            · intro w hSw
              try dsimp only at hSw
              go_simp
              with_reducible rfl
            try simp only [Act.put, List.setIfInBounds_toArray]
            refine wpAnyK_take (i := 1) (v := ?_) [16] rfl (by kernel_rfl) (by kernel_rfl) (by kernel_rfl) (by kernel_rfl) (by kernel_rfl) (fun _ _ _ h => h) (Or.inl ⟨by kernel_rfl, ?_⟩) hHeld ?_
            rotate_left
            · intro w hSw
              try dsimp only at hSw
              go_simp
              with_reducible rfl
            try simp only [Act.put]
            refine wpAnyK_take (i := 2) (v := ?_) [16] rfl (by kernel_rfl) (by kernel_rfl) (by kernel_rfl) (by kernel_rfl) (by kernel_rfl) (fun _ _ _ h => h) (Or.inl ⟨by kernel_rfl, ?_⟩) hHeld ?_
            rotate_left
            · intro w hSw
              try dsimp only at hSw
              go_simp
              with_reducible rfl
            try simp only [Act.put]
            refine wpAnyK_take (i := 3) (v := ?_) [16] rfl (by kernel_rfl) (by kernel_rfl) (by kernel_rfl) (by kernel_rfl) (by kernel_rfl) (fun _ _ _ h => h) (Or.inl ⟨by kernel_rfl, ?_⟩) hHeld ?_
            rotate_left
            · intro w hSw
              try dsimp only at hSw
              go_simp
              with_reducible rfl
            try simp only [Act.put]
            refine wpAnyK_take (i := 4) (v := ?_) [16] rfl (by kernel_rfl) (by kernel_rfl) (by kernel_rfl) (by kernel_rfl) (by kernel_rfl) (fun _ _ _ h => h) (Or.inl ⟨by kernel_rfl, ?_⟩) hHeld ?_
            rotate_left
            · intro w hSw
              try dsimp only at hSw
              go_simp
              with_reducible rfl
            try simp only [Act.put]
            refine wpAnyK_take (i := 5) (v := ?_) [16] rfl (by kernel_rfl) (by kernel_rfl) (by kernel_rfl) (by kernel_rfl) (by kernel_rfl) (fun _ _ _ h => h) (Or.inl ⟨by kernel_rfl, ?_⟩) hHeld ?_
            rotate_left
            · intro w hSw
              try dsimp only at hSw
              go_simp
              with_reducible rfl
            try simp only [Act.put]
            refine wpAnyK_take (i := 6) (v := ?_) [16] rfl (by kernel_rfl) (by kernel_rfl) (by kernel_rfl) (by kernel_rfl) (by kernel_rfl) (fun _ _ _ h => h) (Or.inl ⟨by kernel_rfl, ?_⟩) hHeld ?_
            rotate_left
            · intro w hSw
              try dsimp only at hSw
              go_simp
              with_reducible rfl
            try simp only [Act.put]
            refine wpAnyK_take (i := 7) (v := ?_) [16] rfl (by kernel_rfl) (by kernel_rfl) (by kernel_rfl) (by kernel_rfl) (by kernel_rfl) (fun _ _ _ h => h) (Or.inl ⟨by kernel_rfl, ?_⟩) hHeld ?_
            rotate_left
            · intro w hSw
              try dsimp only at hSw
              go_simp
              with_reducible rfl
            try simp only [Act.put]
            refine wpAnyK_take (i := 8) (v := ?_) [16] rfl (by kernel_rfl) (by kernel_rfl) (by kernel_rfl) (by kernel_rfl) (by kernel_rfl) (fun _ _ _ h => h) (Or.inl ⟨by kernel_rfl, ?_⟩) hHeld ?_
            rotate_left
            · intro w hSw
              try dsimp only at hSw
              go_simp
              with_reducible rfl
            try simp only [Act.put]
            refine wpAnyK_take (i := 9) (v := ?_) [16] rfl (by kernel_rfl) (by kernel_rfl) (by kernel_rfl) (by kernel_rfl) (by kernel_rfl) (fun _ _ _ h => h) (Or.inl ⟨by kernel_rfl, ?_⟩) hHeld ?_
            rotate_left
            · intro w hSw
              try dsimp only at hSw
              go_simp
              with_reducible rfl
            try simp only [Act.put]
            refine wpAnyK_one (i := 10) (by kernel_rfl) rfl (fun K hK => ?_)
            go_simp
            refine (HKY.out _ hB19).mono ?_
            rintro r w10 ⟨rfl, hb10⟩
            have hB20 := hB19.trans (hb10.mono hB19.size)
            have hBA := hB20.trans ((below_alloc1 w10 (.cells #[.string ⟨K0.toArray⟩] 9)).mono hB20.size)
            refine hK.out _ _ (fun _ => HCE.out _ hB20) ?_
            clear hK K
            try simp only [Act.put, List.setIfInBounds_toArray, List.set_cons_zero, List.set_cons_succ]
            refine wpAnyK_one (i := 11) (by kernel_rfl) rfl (fun K hK => ?_)
            go_simp
            refine hK.out _ _ (fun _ => HCE.out _ hBA) ?_
            clear hK K
            try simp only [Act.put, List.setIfInBounds_toArray, List.set_cons_zero, List.set_cons_succ]
            refine wpAnyK_one (i := 12) (by kernel_rfl) rfl (fun K hK => ?_)
            refine step_appendAt (f := strCell) (n := 1) 29 9 16 (.string ByteArray.empty) Tryz.underlying29 infoStr (by rfl) (by omega) (by omega) strCell_len (by rfl) _ _ (by rfl) B _ x.keys (by rfl) (HOK10.out _ hBA) ⟨w10.heap.size, 0, none⟩ (by rfl) K0 (strCell_one _) (cells_new w10 (strCell K0) _ _ rfl) (by omega) (Nat.le_trans hB10 hBA.size) ?_
            intro v6 w6 h6 hb6 hg6 hw6
            obtain ⟨g6, cap6, hv6, _, _⟩ := OwnRow.block h6 (by simp)
            rw [List.length_append, List.length_singleton] at hv6
            subst hv6
            have HF6 := Lib.hid (HFIN.out _ _ _ hBA h6 hg6)
            have hf6 := HF6.out.2.2.2.2.2.2
            have hc6 := HF6.out.2.2.2.2.1
            refine hK.out _ _ (fun _ => ⟨HF6.out.2.2.2.2.1, HF6.out.2.2.2.2.2.1⟩) ?_
            clear hK K
            try simp only [Act.put, List.setIfInBounds_toArray]
            refine wpAnyK_one (i := 13) (by kernel_rfl) rfl (fun K hK => ?_)
            go_simp
            refine hK.out _ _ (fun _ => ⟨HF6.out.2.2.2.2.1, HF6.out.2.2.2.2.2.1⟩) ?_
            clear hK K
            try simp only [Act.put, List.setIfInBounds_toArray, List.set_cons_zero, List.set_cons_succ]
            refine wpAnyK_one (i := 14) (by kernel_rfl) rfl (fun K hK => ?_)
            go_simp
            refine hK.out _ _ (fun _ => ⟨HF6.out.2.2.2.2.1, HF6.out.2.2.2.2.2.1⟩) ?_
            clear hK K
            try simp only [Act.put, List.setIfInBounds_toArray, List.set_cons_zero, List.set_cons_succ]
            refine wpAnyK_one (i := 15) (by kernel_rfl) rfl (fun K hK => ?_)
            go_simp
            refine hK.out _ _ (fun _ => ⟨HF6.out.2.2.2.2.1, HF6.out.2.2.2.2.2.1⟩) ?_
            clear hK K
            try simp only [Act.put, List.setIfInBounds_toArray, List.set_cons_zero, List.set_cons_succ]
            refine wpAnyK_one (i := 16) (by kernel_rfl) rfl (fun K hK => ?_)
            go_simp
            refine hK.out _ _ (fun h => absurd rfl h) ?_
            clear hK K
            try simp only [Act.put, List.setIfInBounds_toArray, List.set_cons_zero, List.set_cons_succ]
            refine wpAnyK_done (by kernel_rfl) ?_ _
            clear hHeld hc6 hf6
            go_wp2
            go_meet
            exact ⟨HF6.out.1, by rw [HE2.out]; exact HF6.out.2.1, HF6.out.2.2.1, HF6.out.2.2.2.1⟩
          · obtain ⟨e1, e2⟩ := half_blocked (x := x) hA' hb
            have HE1 := Lib.hid e1
            have HE2 := Lib.hid e2
            rw [hb] at HBK
            clear e1 e2 hA' hb
            go_wp2_with fail
            refine HBK.out.mono ?_
            rintro r W9 ⟨rfl, hb9⟩
            have HX9 := Lib.hid (HX8.out.later hb9)
            have HS9 := Lib.hid (HS8.out.later hb9)
            have HBX9 := Lib.hid (HBX8.out.later hb9)
            have HB9 : Hid (Below B w W9) := HB8.out.trans (hb9.mono hB8)
            have hB9 : B ≤ W9.heap.size := Nat.le_trans hB HB9.out.size
            have q7 : W9.cell? ⟨xb, 7, none⟩ = some (.int .i64 (x.blocked : Nat)) := HX9.out.cells.2.2.2.2.2.2.2.1
            have g7 := HX9.out.frozen 7
            have HX10 : Hid (XM (W9.setCell ⟨xb, 7, none⟩ (.int .i64 ((x.blocked : Int) + 1))) B xb (.slice pa x.path.length pc) (.slice ra x.row.length rc) (.slice ka x.keys.length kc) oa oc psk { markX x s with blocked := x.blocked + 1 }) := HX9.out.setBlocked hB9 (x.blocked + 1)
            have HO10 : Hid (Only xb W9 (W9.setCell ⟨xb, 7, none⟩ (.int .i64 ((x.blocked : Int) + 1)))) := (Only.refl xb W9).setCell 7 _
            have HS10 := Lib.hid (HS9.out.onlyX HO10.out (HX9.out.ne_st HS9.out))
            have HBX10 := Lib.hid (HBX9.out.only HO10.out hnx)
            have HB10 : Hid (Below B w (W9.setCell ⟨xb, 7, none⟩ (.int .i64 ((x.blocked : Int) + 1)))) := HB9.out.setCell (p := ⟨xb, 7, none⟩) hlo _
            clear HX9 HS9 HBX9 HB9 hb9 HX8 HS8 HBX8 HB8 HBK HO10
            go_wp2_with fail
            go_meet
            exact ⟨⟨psk, _, by rw [HE1.out]; exact HX10.out⟩, by rw [HE2.out]; exact HBX10, HS10, HB10⟩
        · obtain ⟨e1, e2⟩ := half_awake (x := x) (s := s) (z := z) (by rw [← HAWE.out]; exact hA)
          rw [← HAWE.out] at e1 e2
          have HE1 := Lib.hid e1
          have HE2 := Lib.hid e2
          have hpos : 0 < AW.length := List.length_pos_iff.2 hA
          have HCH := Lib.hid (choose_any HX8.out hB8 HV8.out hA (by omega) (show x.choices ≤ 1000000 by omega) ho HIN.out)
          generalize hP : pick x.order x.choices AW = P at *
          have HCH2 : Hid (Calls Tryz.prog 39 #[.pointer (some ⟨xb, 0, none⟩), .slice a8 AW.length c8] W8 fun r w' => r = .returned (.int .i64 P) ∧ XM w' B xb (.slice pa x.path.length pc) (.slice ra x.row.length rc) (.slice ka x.keys.length kc) oa oc psk { markX x s with choices := picked x.choices AW } ∧ Only xb W8 w') := by
            have h1 := HCH.out
            rw [show (markX x s).order = x.order from rfl, show (markX x s).choices = x.choices from rfl, hP] at h1
            exact h1
          clear e1 e2 hA HCH hP HAWE
          go_wp2_with fail
          refine HCH2.out.mono ?_
          rintro r W9 ⟨rfl, hx9, ho9⟩
          have HX9 := Lib.hid hx9
          have hb9 : Below B W8 W9 := ho9.below hlo hB8
          have HB9 : Hid (Below B w W9) := HB8.out.trans hb9
          have hB9 : B ≤ W9.heap.size := Nat.le_trans hB HB9.out.size
          have HS9 := Lib.hid (HS8.out.onlyX ho9 (HX8.out.ne_st HS8.out))
          have HBX9 := Lib.hid (HBX8.out.only ho9 hnx)
          have hba := below_alloc1 W9 (.cells #[.int .i64 P] 3)
          have HX10 := Lib.hid (HX9.out.later hba)
          have HS10 := Lib.hid (HS9.out.later hba)
          have HBX10 := Lib.hid (HBX9.out.later hba)
          have HB10 : Hid (Below B w (W9.alloc (.cells #[.int .i64 P] 3))) := HB9.out.trans (hba.mono hB9)
          have hB10 : B ≤ (W9.alloc (.cells #[.int .i64 P] 3)).heap.size := Nat.le_trans hB HB10.out.size
          have hn10 : NumsAt (W9.alloc (.cells #[.int .i64 P] 3)) (some ⟨W9.heap.size, 0, none⟩) [P] := ⟨by simp [maxLen], fun _ => ⟨W9.heap.size, 0, rfl, fun i hi => by
            obtain rfl : i = 0 := by simpa using hi
            rw [World.cell?_alloc_new]; rfl⟩⟩
          have HOF : Hid (Calls Tryz.prog 21 #[.slice (some ⟨W9.heap.size, 0, none⟩) 1 1] (W9.alloc (.cells #[.int .i64 P] 3)) fun r w' => r = .returned (.int .u8 (ofN [P] : Nat)) ∧ (W9.alloc (.cells #[.int .i64 P] 3)) = w') := of_any (some ⟨W9.heap.size, 0, none⟩) 1 [P] _ hn10 (by simp)
          have HX11 := Lib.hid (HX10.out.box hB10 HBX10.out hnbB hpn 2 (.int .u8 (ofN [P] : Nat)))
          have HBX11 := Lib.hid (HBX10.out.setGo (ofN [P]))
          have hbx2 := HBX10.out.cells.2.2.1
          have hbf2 := HBX10.out.frozen 2
          have HS11 : Hid (StAt ((W9.alloc (.cells #[.int .i64 P] 3)).setCell ⟨nb, 2, none⟩ (.int .u8 (ofN [P] : Nat))) sb s) := HS10.out.onlyX ((Only.refl nb _).setCell 2 _) (HBX10.out.ne_st HS10.out)
          have HB11 : Hid (Below B w ((W9.alloc (.cells #[.int .i64 P] 3)).setCell ⟨nb, 2, none⟩ (.int .u8 (ofN [P] : Nat)))) := HB10.out.setCell (p := ⟨nb, 2, none⟩) hnbB _
          clear HX8 HS8 HBX8 HB8 HX9 HB9 HS9 HBX9 hba HX10 HS10 HBX10 HB10 hn10 hx9 ho9 hb9 HCH2
          generalize ofN [P] = OP at *
          go_wp2_with fail
          refine HOF.out.mono ?_
          rintro r w' ⟨rfl, rfl⟩
          go_wp2_with fail
          go_meet
          exact ⟨⟨psk, _, by rw [HE1.out]; exact HX11.out⟩, by rw [HE2.out]; exact HBX11, HS11, HB11⟩
      case rest =>
        obtain ⟨⟨psc, kvc, hxc⟩, HBXc, HSc, HBc⟩ := hcut
        have HXD : Hid (XM wc.drew B xb (.slice pa x.path.length pc) (.slice ra x.row.length rc) kvc oa oc psc (halfX x s z)) := hxc.drew
        have HSD : Hid (StAt wc.drew sb s) := HSc
        have HBXD : Hid (BoxAt wc.drew nb sb (newN x s z)) := HBXc
        have HBD : Hid (Below B w wc.drew) := HBc.out.drew
        have HNS : Hid ((newN x s z).st = s) := by
          show _ = _
          unfold newN
          split <;> rfl
        have HMK := Lib.hid (make_half x s z)
        have hcl : psc.length ≤ x.path.length := by
          have h1 := congrArg List.length hxc.eq
          rw [List.length_map] at h1
          rw [h1]
          exact Nat.le_of_eq (markAll_len _ _)
        clear HX8 HS8 HBX8 HB8 HV8 hxc HSc HBXc HBc HAWE
        go_wp2_with fail
        refine wp_region_k (S := fun W => W.cell? ⟨xb, 0, none⟩ = some (.slice pa x.path.length pc) ∧ W.cell? ⟨nb, 0, none⟩ = some (.pointer (some ⟨sb, 0, none⟩)) ∧ W.cell? ⟨nb, 1, none⟩ = some (.int .u8 ((newN x s z).z : Nat)) ∧ W.cell? ⟨nb, 2, none⟩ = some (.int .u8 ((newN x s z).go : Nat)) ∧ W.cell? ⟨nb, 3, none⟩ = some (.int .u8 ((newN x s z).gone : Nat))) (k := 10) (by kernel_rfl) ?_
        generalize wc.drew = wd at *
        have hBd : B ≤ wd.heap.size := Nat.le_trans hB HBD.out.size
        have HCE : Hid (∀ W, Below wd.heap.size wd W → W.cell? ⟨xb, 0, none⟩ = some (.slice pa x.path.length pc) ∧ W.cell? ⟨nb, 0, none⟩ = some (.pointer (some ⟨sb, 0, none⟩)) ∧ W.cell? ⟨nb, 1, none⟩ = some (.int .u8 ((newN x s z).z : Nat)) ∧ W.cell? ⟨nb, 2, none⟩ = some (.int .u8 ((newN x s z).go : Nat)) ∧ W.cell? ⟨nb, 3, none⟩ = some (.int .u8 ((newN x s z).gone : Nat))) := fun W hb => ⟨cell_later hb HXD.out.cells.1, (HBXD.out.later hb).cells⟩
        have HFIN : Hid (∀ W v6 w6, Below wd.heap.size wd W → OwnRow w6 B 101 4 pnCell v6 (psc ++ [(sb, newN x s z)]) → W.grownBy w6 (Value.slice pa x.path.length pc).ownBlock → ExR B xb oa oc (makeX x s z) (w6.setCell ⟨xb, 0, none⟩ v6) ∧ Below B w (w6.setCell ⟨xb, 0, none⟩ v6) ∧ (w6.cell? ⟨xb, 0, none⟩ = some (.slice pa x.path.length pc) ∧ w6.frozen? ⟨xb, 0, none⟩ = false) ∧ (w6.heap[nb]? = W.heap[nb]? ∨ True)) := by
          intro W v6 w6 hb ho6 hg6
          have h1 := HXD.out.later hb
          have hBW : B ≤ W.heap.size := Nat.le_trans hBd hb.size
          have ht := own_ty h1.path
          have h2 := h1.morePath hBW ho6 hg6 (by show StAt W sb (newN x s z).st; rw [HNS.out]; exact HSD.out.later hb)
          have hbx : w6.heap[xb]? = W.heap[xb]? := hg6.block xb h1.lt fun e => by
            obtain ⟨_, cs, hcs⟩ := ht xb e.symm
            rw [h1.blk] at hcs
            injection hcs with hcs
            injection hcs with _ h2
            exact tyPnEx h2.symm
          refine ⟨⟨_, _, _, _, by rw [HMK.out]; exact h2⟩, ((HBD.out.trans (hb.mono hBd)).trans (below_keptT hg6 ht hBW)).setCell (p := ⟨xb, 0, none⟩) hlo _, ⟨?_, ?_⟩, .inr trivial⟩
          · rw [World.cell?_of_block (w := W) (a := ⟨xb, 0, none⟩) hbx]; exact h1.cells.1
          · rw [World.frozen?_of_block (w := W) (a := ⟨xb, 0, none⟩) hbx]; exact h1.frozen 0
        have HSB : Hid (∀ W v6 w6, Below wd.heap.size wd W → OwnRow w6 B 101 4 pnCell v6 (psc ++ [(sb, newN x s z)]) → W.grownBy w6 (Value.slice pa x.path.length pc).ownBlock → w6.cell? ⟨nb, 0, none⟩ = some (.pointer (some ⟨sb, 0, none⟩)) ∧ w6.cell? ⟨nb, 1, none⟩ = some (.int .u8 ((newN x s z).z : Nat)) ∧ w6.cell? ⟨nb, 2, none⟩ = some (.int .u8 ((newN x s z).go : Nat)) ∧ w6.cell? ⟨nb, 3, none⟩ = some (.int .u8 ((newN x s z).gone : Nat))) := by
          intro W v6 w6 hb ho6 hg6
          have hbn : BoxAt w6 nb sb (newN x s z) := (hg6.block nb (HBXD.out.later hb).lt (fun e => hpn e.symm)).trans (HBXD.out.later hb)
          exact hbn.cells
        have HOD : Hid (∀ W, Below wd.heap.size wd W → OwnRow W B 101 4 pnCell (.slice pa x.path.length pc) psc) := fun W hb => (HXD.out.later hb).path
        have HPC : Hid (∀ W : World, (∀ j u, (pnCell (sb, newN x s z))[j]? = some u → (W.alloc (.cells (pnCell (sb, newN x s z)).toArray 101)).cell? (Addr.add ⟨W.heap.size, 0, none⟩ j) = some u)) := fun W => cells_new W (pnCell (sb, newN x s z)) _ _ rfl
        have hHeld := HCE.out wd (Below.refl _ _)
        have hBA := below_alloc1 wd (.cells (pnCell (sb, newN x s z)).toArray 101)
        clear HXD HSD HBXD HBD HNS HMK
        refine wpAnyK_take (i := 0) (v := ?_) [10] rfl (by kernel_rfl) (by kernel_rfl) (by kernel_rfl) (by kernel_rfl) (by kernel_rfl) (fun _ _ _ h => h) (Or.inl ⟨by kernel_rfl, ?_⟩) hHeld ?_
        rotate_left
        · intro w hSw
          try dsimp only at hSw
          go_simp
          with_reducible rfl
        try simp only [Act.put, List.setIfInBounds_toArray]
        refine wpAnyK_take (i := 1) (v := ?_) [10] rfl (by kernel_rfl) (by kernel_rfl) (by kernel_rfl) (by kernel_rfl) (by kernel_rfl) (fun _ _ _ h => h) (Or.inl ⟨by kernel_rfl, ?_⟩) hHeld ?_
        rotate_left
        · intro w hSw
          try dsimp only at hSw
          go_simp
          with_reducible rfl
        try simp only [Act.put]
        refine wpAnyK_take (i := 2) (v := ?_) [10] rfl (by kernel_rfl) (by kernel_rfl) (by kernel_rfl) (by kernel_rfl) (by kernel_rfl) (fun _ _ _ h => h) (Or.inl ⟨by kernel_rfl, ?_⟩) hHeld ?_
        rotate_left
        · intro w hSw
          try dsimp only at hSw
          go_simp
          with_reducible rfl
        try simp only [Act.put]
        refine wpAnyK_take (i := 3) (v := ?_) [10] rfl (by kernel_rfl) (by kernel_rfl) (by kernel_rfl) (by kernel_rfl) (by kernel_rfl) (fun _ _ _ h => h) (Or.inl ⟨by kernel_rfl, ?_⟩) hHeld ?_
        rotate_left
        · intro w hSw
          try dsimp only at hSw
          go_simp
          with_reducible rfl
        try simp only [Act.put]
        refine wpAnyK_take (i := 4) (v := ?_) [10] rfl (by kernel_rfl) (by kernel_rfl) (by kernel_rfl) (by kernel_rfl) (by kernel_rfl) (fun _ _ _ h => h) (Or.inl ⟨by kernel_rfl, ?_⟩) hHeld ?_
        rotate_left
        · intro w hSw
          try dsimp only at hSw
          go_simp
          with_reducible rfl
        try simp only [Act.put]
        refine wpAnyK_take (i := 5) (v := ?_) [10] rfl (by kernel_rfl) (by kernel_rfl) (by kernel_rfl) (by kernel_rfl) (by kernel_rfl) (fun _ _ _ h => h) (Or.inl ⟨by kernel_rfl, ?_⟩) hHeld ?_
        rotate_left
        · intro w hSw
          try dsimp only at hSw
          go_simp
          with_reducible rfl
        try simp only [Act.put]
        refine wpAnyK_one (i := 6) (by kernel_rfl) rfl (fun K hK => ?_)
        go_simp
        refine hK.out _ _ (fun _ => HCE.out _ hBA) ?_
        clear hK K
        try simp only [Act.put, List.setIfInBounds_toArray, List.set_cons_zero, List.set_cons_succ]
        refine wpAnyK_one (i := 7) (by kernel_rfl) rfl (fun K hK => ?_)
        refine step_appendAt (f := pnCell) (n := 4) 56 101 16 (.agg #[.pointer none, .int .u8 0, .int .u8 0, .int .u8 0]) Tryz.underlying56 infoPn (by rfl) (by omega) (by omega) pnCell_len (by rfl) _ _ (by rfl) B _ psc (by rfl) (HOD.out _ hBA) ⟨wd.heap.size, 0, none⟩ (by rfl) (sb, newN x s z) (pnCell_one _) (HPC.out wd) (by omega) (Nat.le_trans hBd hBA.size) ?_
        intro v6 w6 h6 hb6 hg6 hw6
        have HF6 := Lib.hid (HFIN.out _ _ _ hBA h6 hg6)
        have HF7 := Lib.hid (HSB.out _ _ _ hBA h6 hg6)
        obtain ⟨g6, cap6, hv6, _, _⟩ := OwnRow.block h6 (by simp)
        rw [List.length_append, List.length_singleton] at hv6
        subst hv6
        have hf6 := HF6.out.2.2.1.2
        have hc6 := HF6.out.2.2.1.1
        have hS6 := And.intro hc6 HF7.out
        refine hK.out _ _ (fun _ => hS6) ?_
        clear hK K
        try simp only [Act.put, List.setIfInBounds_toArray]
        refine wpAnyK_one (i := 8) (by kernel_rfl) rfl (fun K hK => ?_)
        go_simp
        refine hK.out _ _ (fun _ => hS6) ?_
        clear hK K
        try simp only [Act.put, List.setIfInBounds_toArray, List.set_cons_zero, List.set_cons_succ]
        refine wpAnyK_one (i := 9) (by kernel_rfl) rfl (fun K hK => ?_)
        go_simp
        refine hK.out _ _ (fun _ => hS6) ?_
        clear hK K
        try simp only [Act.put, List.setIfInBounds_toArray, List.set_cons_zero, List.set_cons_succ]
        refine wpAnyK_one (i := 10) (by kernel_rfl) rfl (fun K hK => ?_)
        go_simp
        refine hK.out _ _ (fun h => absurd rfl h) ?_
        clear hK K
        try simp only [Act.put, List.setIfInBounds_toArray, List.set_cons_zero, List.set_cons_succ]
        refine wpAnyK_done (by kernel_rfl) ?_ _
        clear hHeld hc6 hf6 hS6
        go_wp2
        go_end0
        exact ⟨rfl, HF6.out.1, HF6.out.2.1⟩

end Go.Proofs.YtnldkmcijmbhcaaGreat
