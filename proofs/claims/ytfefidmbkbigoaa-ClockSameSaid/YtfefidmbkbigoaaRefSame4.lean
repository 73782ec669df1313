/- The contract of the document's Same. -/
import Derived.Test.YtfefidmbkbigoaaRefCkMem
import Derived.Test.YtfefidmbkbigoaaSameDef
import Derived.Test.YtfefidmbkbigoaaPlace
namespace Go.Proofs.Ytfefidmbkbigoaa
open Go.RowKit

/-- Where the first n events of a stand in b. -/
def ToOk (a b : List Ev) (n : Nat) (ts : List Int) : Prop := ts.length = n ∧ ∀ i, i < n → ∃ k : Nat, ts[i]? = some (k : Int) ∧ At b (evI a i).thread (cnt (isT a (evI a i).thread) i) k ∧ evI b k = evI a i
theorem ToOk.push {a b : List Ev} {n k : Nat} {ts : List Int} (h : ToOk a b n ts) (h1 : At b (evI a n).thread (cnt (isT a (evI a n).thread) n) k) (h2 : evI b k = evI a n) : ToOk a b (n + 1) (ts ++ [(k : Int)]) := by
  refine ⟨by simp [h.1], fun i hi => ?_⟩
  by_cases e : i < n
  · obtain ⟨j, hj, h3⟩ := h.2 i e
    exact ⟨j, by rw [List.getElem?_append_left (by rw [h.1]; exact e), hj], h3⟩
  · obtain rfl : i = n := by omega
    exact ⟨k, by rw [List.getElem?_append_right (by rw [h.1]; omega), h.1]; simp, h1, h2⟩
theorem not_same_none {a b : List Ev} {i : Nat} (hi : i < a.length) (h : cnt (isT b (evI a i).thread) b.length ≤ cnt (isT a (evI a i).thread) i) : ¬ SameO a b := by
  rintro ⟨_, _, hs⟩
  obtain ⟨k, hk, _⟩ := hs.at hi
  have := hk.lt
  omega
theorem not_same_other {a b : List Ev} {i k : Nat} (hi : i < a.length) (hk : At b (evI a i).thread (cnt (isT a (evI a i).thread) i) k) (h : evI b k ≠ evI a i) : ¬ SameO a b := by
  rintro ⟨_, _, hs⟩
  obtain ⟨k', hk', he, _⟩ := hs.at hi
  rw [hk.uniq hk'] at h
  exact h he
theorem not_same_order {a b : List Ev} {ts : List Int} (ht : ToOk a b a.length ts) {i k x y : Nat} (hi : i < a.length) (hk : k < a.length) (hx : ts[i]? = some (x : Int)) (hy : ts[k]? = some (y : Int)) (h : hb a k i ≠ hb b y x) : ¬ SameO a b := by
  rintro ⟨h1, h2, hs⟩
  obtain ⟨_, to, h3, h4⟩ := sameD_of_sim hs (in4_of_right h1) (in4_of_right h2)
  obtain ⟨x', hx', ax, _⟩ := ht.2 i hi
  obtain ⟨y', hy', ay, _⟩ := ht.2 k hk
  rw [hx] at hx'
  rw [hy] at hy'
  have ex : x = x' := by simp at hx'; omega
  have ey : y = y' := by simp at hy'; omega
  subst ex ey
  have e1 := ax.uniq (h3 i hi).1
  have e2 := ay.uniq (h3 k hk).1
  rw [e1, e2] at h
  exact h (h4 i k hi hk)
theorem same_all {a b : List Ev} {ts : List Int} (hl : a.length = b.length) (h1 : rightL a = true) (h2 : rightL b = true) (ht : ToOk a b a.length ts)
    (h : ∀ i k x y : Nat, i < a.length → k < a.length → ts[i]? = some (x : Int) → ts[k]? = some (y : Int) → hb a k i = hb b y x) : SameO a b := by
  refine ⟨h1, h2, sim_of_sameD ⟨hl, fun i => (ts.getD i 0).toNat, fun i hi => ?_, fun i k hi hk => ?_⟩ (in4_of_right h1) (in4_of_right h2)⟩
  · obtain ⟨k, hk, h3, h4⟩ := ht.2 i hi
    simp only [List.getD, hk, Option.getD_some, Int.toNat_natCast]
    exact ⟨h3, h4⟩
  · obtain ⟨x, hx, _⟩ := ht.2 i hi
    obtain ⟨y, hy, _⟩ := ht.2 k hk
    simp only [List.getD, hx, hy, Option.getD_some, Int.toNat_natCast]
    exact h i k x y hi hk hx hy
theorem OwnN.cell {w : World} {B g len cap : Nat} {ns : List Int} (h : OwnN w B (.slice (some ⟨g, 0, none⟩) len cap) ns) {i : Nat} {u : Int} (hu : ns[i]? = some u) : w.cell? ⟨g, i, none⟩ = some (.int .i64 u) := by
  have hi : i < ns.length := (List.getElem?_eq_some_iff.1 hu).1
  obtain ⟨h1, ⟨h2, h3⟩ | ⟨g', cap', cur, h2, h3, h4, h5, h6, h7, h8⟩⟩ := h
  · simp at h2
  · simp at h2
    obtain ⟨rfl, rfl, _⟩ := h2
    have hj : (ns.map (Value.int .i64))[i]? = some (.int .i64 u) := by simp [hu]
    rw [← h8, List.getElem?_take_of_lt (by omega)] at hj
    simp [World.cell?, h4]
    simpa using hj
theorem OwnN.block {w : World} {B : Nat} {v : Value} {ns : List Int} (h : OwnN w B v ns) (hn : 0 < ns.length) : ∃ g cap, v = .slice (some ⟨g, 0, none⟩) ns.length cap := by
  obtain ⟨h1, ⟨h2, h3⟩ | ⟨g, cap, cur, h2, h3, h4, h5, h6, h7, h8⟩⟩ := h
  · omega
  · exact ⟨g, cap, h2⟩

/-- A pair of events that stand in one order in both. -/
def Good (a b : List Ev) (ts : List Int) (i k : Nat) : Prop := ∀ x y : Nat, ts[i]? = some (x : Int) → ts[k]? = some (y : Int) → hb a k i = hb b y x

/-- An order in memory, to be read. -/
def OrdS (w : World) (a : Option Addr) (l : List Ev) : Prop := ∃ rows, RowAt w a 1 one rows ∧ OrdAt w l rows l.length w.heap.size
theorem OrdS.later {w w' : World} {a : Option Addr} {l : List Ev} (h : OrdS w a l) (hb : Below w.heap.size w w') : OrdS w' a l := by
  obtain ⟨rows, h1, h2, h3⟩ := h
  refine ⟨rows, h1.later hb, h2, fun i hi => ?_⟩
  obtain ⟨g, g1, g2, g3⟩ := h3 i hi
  exact ⟨g, g1, g2.later hb, by have := hb.size; omega⟩
theorem OrdS.get {w : World} {a : Option Addr} {l : List Ev} (h : OrdS w a l) {k : Nat} (hk : k < l.length) : ∃ b o g, a = some ⟨b, o, none⟩ ∧ w.cell? ⟨b, o + k, none⟩ = some (.slice (some ⟨g, 0, none⟩) l.length l.length) ∧ ∀ j, j < l.length → w.cell? ⟨g, j, none⟩ = some (.bool (hb l j k)) := by
  obtain ⟨rows, hrow, hord⟩ := h
  obtain ⟨g, hrk, hck, _⟩ := hord.get hk
  have hkr : k < rows.length := (List.getElem?_eq_some_iff.1 hrk).1
  obtain ⟨b0, o0, rfl, hrc⟩ := hrow.2 (by intro e; simp [e] at hkr)
  have hc1 := hrc k hkr 0 (.slice (some ⟨g, 0, none⟩) l.length l.length) (by rw [← (List.getElem?_eq_some_iff.1 hrk).2]; rfl)
  rw [Nat.mul_one, Nat.add_zero] at hc1
  exact ⟨b0, o0, g, rfl, hc1, hck⟩

set_option maxRecDepth 100000 in
set_option maxHeartbeats 4000000 in
theorem refSame_any (aa ab : Option Addr) (ca cb : Nat) (a b : List Ev) (w : World) (hl : EvsAt w aa a) (hl' : EvsAt w ab b) (hm : a.length ≤ 1000) (hm' : b.length ≤ 1000) :
    Calls Try.prog 14 #[.slice aa a.length ca, .slice ab b.length cb] w (SameR a b w) := by
  have HL := Lib.hid hl
  have HL' := Lib.hid hl'
  have HCa := Lib.hid (rows_any aa ca a w hl)
  clear hl hl'
  by_cases hne : a.length = b.length
  case neg =>
    have HE : Hid (¬ SameO a b) := fun h => hne h.len
    have hq : ((a.length : Int) != b.length) = true := by simp; omega
    clear hne HCa
    go_enter Try.func14, Try.ntmps14
    go_wp2
    go_ret
    exact ⟨false, rfl, by simp [HE.out], Below.refl _ _⟩
  have hq : ((a.length : Int) != b.length) = false := by simp [hne]
  have HE := Lib.hid hne
  have hab1 : a.length ≤ b.length := by omega
  have hab2 : b.length ≤ a.length := by omega
  clear hne
  cases hra : rightL a
  · have HN : Hid (¬ SameO a b) := fun h => by rw [h.1] at hra; cases hra
    rw [hra] at HCa
    clear hra
    go_enter Try.func14, Try.ntmps14
    go_wp2_with fail
    refine HCa.out.mono ?_
    rintro r w1 ⟨rfl, hbw⟩
    clear HCa
    go_wp2
    go_ret
    exact ⟨false, rfl, by simp [HN.out], hbw⟩
  rw [hra] at HCa
  have HRA := Lib.hid hra
  cases hrb : rightL b
  · have HN : Hid (¬ SameO a b) := fun h => by rw [h.2.1] at hrb; cases hrb
    have HRB := Lib.hid hrb
    clear hra hrb
    go_enter Try.func14, Try.ntmps14
    go_wp2_with fail
    refine HCa.out.mono ?_
    rintro r w1 ⟨rfl, hbw⟩
    clear HCa
    go_wp2_with fail
    refine (rows_any ab cb b w1 (HL'.out.later hbw)).mono ?_
    rintro r w2 ⟨rfl, hbw2⟩
    rw [HRB.out]
    have hb3 := hbw.trans (hbw2.mono hbw.size)
    clear HRB hbw hbw2
    go_wp2
    go_ret
    exact ⟨false, rfl, by simp [HN.out], hb3⟩
  have HRB := Lib.hid hrb
  clear hra hrb
  go_enter Try.func14, Try.ntmps14
  go_wp2_with fail
  refine HCa.out.mono ?_
  rintro r w1 ⟨rfl, hbw⟩
  clear HCa
  go_wp2_with fail
  refine (rows_any ab cb b w1 (HL'.out.later hbw)).mono ?_
  rintro r w2 ⟨rfl, hbw2⟩
  rw [HRB.out]
  have hb3 := hbw.trans (hbw2.mono hbw.size)
  clear hbw hbw2
  go_wp2_with fail
  refine (order_any aa ca a w2 (HL.out.later hb3) hm).mono ?_
  rintro r w3 ⟨oa, coa, rowa, rfl, hrowa, horda, hb4⟩
  have HOA : Hid (OrdS w3 oa a) := ⟨rowa, hrowa, horda⟩
  have hb5 := hb3.trans (hb4.mono hb3.size)
  clear hrowa horda hb4 hb3
  go_wp2_with fail
  refine (order_any ab cb b w3 (HL'.out.later hb5) hm').mono ?_
  rintro r W1 ⟨ob, cob, rowb, rfl, hrowb, hordb, hb6⟩
  have HOB : Hid (OrdS W1 ob b) := ⟨rowb, hrowb, hordb⟩
  have HOA1 := Lib.hid (HOA.out.later hb6)
  have hb7 := hb5.trans (hb6.mono hb5.size)
  clear hrowb hordb hb6 hb5 HOA
  have HLA := Lib.hid (HL.out.later hb7)
  have HLB := Lib.hid (HL'.out.later hb7)
  clear HL HL'
  go_wp2_with fail
  go_loopw [7, 8] (fun v i wr => ∃ (n : Nat) (ts : List Int), n ≤ a.length ∧ i = .int .i64 n ∧ Hid (ToOk a b n ts ∧ OwnN wr W1.heap.size v ts ∧ Below W1.heap.size W1 wr)) (fun _ i _ => a.length - (intOf i).toNat)
  case atStart => exact ⟨0, [], Nat.zero_le _, rfl, ⟨rfl, fun i hi => absurd hi (by omega)⟩, ownN_nil _ _, Below.refl _ _⟩
  case round =>
    obtain ⟨n, ts, hn, rfl, HT⟩ := hrel
    by_cases hlt : n < a.length
    · obtain ⟨ba, oa', rfl, t0, t1, t2, t3⟩ := HLA.out.one hlt
      have hbw := HT.out.2.2
      have hnum := numO_at HRA.out hlt
      rw [cnt_isT, if_pos rfl] at hnum
      have hcl := cnt_le_k (isT a (evI a n).thread) n
      have HQ : Hid (∀ w', Below wr.heap.size wr w' → w'.cell? ⟨ba, oa' + n * 4, none⟩ = some (.int .i64 (evI a n).thread) ∧ EvsAt w' (some ⟨ba, oa', none⟩) a ∧ EvsAt w' ab b ∧ Below wr.heap.size wr w') := by
        intro w' h
        have h9 := hbw.trans (h.mono hbw.size)
        exact ⟨cell_later h9 t0, HLA.out.later h9, HLB.out.later h9, h⟩
      have hB9 : Below wr.heap.size wr wr.drew := (Below.refl _ _).drew
      have HN1 : Hid (∀ w', EvsAt w' (some ⟨ba, oa', none⟩) a → Calls Try.prog 39 #[.slice (some ⟨ba, oa', none⟩) a.length ca, .int .i64 n] w' fun r w'' => r = .returned (.int .i64 (numO a n)) ∧ Below w'.heap.size w' w'') := fun w' h => refNumber_any _ ca a n w' h hm
      have HP1 : Hid (∀ w', EvsAt w' ab b → Calls Try.prog 38 #[.slice ab b.length cb, .int .i64 (evI a n).thread, .int .i64 (numO a n)] w' (PlaceR b (evI a n).thread (cnt (isT a (evI a n).thread) n) w')) := fun w' h => place_any ab cb b _ _ _ hnum w' h hm' (by omega)
      clear t0 t1 t2 t3 hnum hcl
      go_wp2_with fail
      go_region_held3 (fun w' => w'.cell? ⟨ba, oa' + n * 4, none⟩ = some (.int .i64 (evI a n).thread) ∧ EvsAt w' (some ⟨ba, oa', none⟩) a ∧ EvsAt w' ab b ∧ Below wr.heap.size wr w') (first | exact HQ.out _ hB9 | exact HQ.out _ hB10)
        (first
          | (go_at_call 39; ((with_reducible refine (HN1.out _ (HQ.out _ hB9).2.1).mono ?_); rintro r w10 ⟨rfl, hb10⟩; have hB10 := below_step2 hB9 hb10; clear hB9))
          | (go_at_call 38; ((with_reducible refine (HP1.out _ (HQ.out _ hB10).2.2.1).mono ?_); rintro r w11 ⟨p, rfl, HPI, rfl⟩; have HPP := Lib.hid HPI; clear HPI)))
      have HT2 : Hid (ToOk a b n ts ∧ OwnN w10 W1.heap.size u7 ts ∧ Below W1.heap.size W1 w10) := ⟨HT.out.1, HT.out.2.1.later hB10, hbw.trans (hB10.mono hbw.size)⟩
      have hb10' := hbw.trans (hB10.mono hbw.size)
      clear HT HQ HN1 HP1 hB10 hb10 hbw
      rcases HPP.out with ⟨k, rfl, hat⟩ | ⟨rfl, hnone⟩
      · have hq3 : decide ((k : Int) < 0) = false := by simp
        have hkl := hat.1
        have HAT := Lib.hid hat
        have heq := run_equal_ev (evI b k) (evI a n)
        obtain ⟨bb, obb, rfl, s0, s1, s2, s3⟩ := HLB.out.one hkl
        obtain ⟨ba2, oa2, e, t0, t1, t2, t3⟩ := HLA.out.one hlt
        cases e
        have x0 := cell_later hb10' s0
        have x1 := cell_later hb10' s1
        have x2 := cell_later hb10' s2
        have x3 := cell_later hb10' s3
        have y0 := cell_later hb10' t0
        have y1 := cell_later hb10' t1
        have y2 := cell_later hb10' t2
        have y3 := cell_later hb10' t3
        clear s0 s1 s2 s3 t0 t1 t2 t3 HPP hat
        by_cases he : evI b k = evI a n
        · have hq4 : decide (evI b k = evI a n) = true := by simp [he]
          rw [hq4] at heq
          have HTK := Lib.hid (HT2.out.1.push HAT.out he)
          have htl := Nat.le_of_eq HT2.out.1.1
          clear he hq4 HAT
          have hz := hb10'.size
          go_wp2
          go_quiet (fail)
          go_wp2_with (at_builtin; refine wp_appendN rfl (.tmp 60) (.tmp 62) rfl W1.heap.size _ ts rfl (HT2.out.2.1.alloc _) ⟨w10.heap.size, 0, none⟩ 1 1 rfl [(k : Int)] rfl (nums_new w10 [(k : Int)] _ _ rfl) (by omega) (by simp; omega) ?_; intro v1 w2 hown2 hb3 _)
          have hb8 := ((hb10'.drewN (n := nq)).alloc (by simpa using hz) (.cells #[.int .i64 (k : Int)] 3)).trans hb3
          go_roundw
          case rel => exact ⟨n + 1, _, by omega, by go_num, HTK.out, hown2, hb8⟩
          case measure => simp [intOf]; omega
        · have hq4 : decide (evI b k = evI a n) = false := by simpa using he
          rw [hq4] at heq
          have HNS := Lib.hid (not_same_other hlt HAT.out he)
          clear he hq4 HAT
          go_wp2
          go_quiet (fail)
          go_wp2
          go_ret
          exact ⟨false, rfl, by simp [HNS.out], (hb7.trans (hb10'.mono hb7.size)).drewN⟩
      · have HNS := Lib.hid (not_same_none hlt hnone)
        clear hnone HPP
        have hq3 : decide ((-1 : Int) < 0) = true := by simp
        go_wp2
        go_quiet (fail)
        go_wp2
        go_ret
        exact ⟨false, rfl, by simp [HNS.out], (hb7.trans (hb10'.mono hb7.size)).drewN⟩
    · obtain rfl : n = a.length := by omega
      have HTO := Lib.hid HT.out.1
      have HOW := Lib.hid HT.out.2.1
      have hbw := HT.out.2.2
      have HOA2 := Lib.hid ((HOA1.out.later hbw))
      have HOB2 := Lib.hid ((HOB.out.later hbw))
      have hb8 := hb7.trans (hbw.mono hb7.size)
      clear HT HOA1 HOB hb7
      generalize wr = W2 at *
      go_wp2
      go_loopw [10] (fun i wr => ∃ x : Nat, x ≤ a.length ∧ i = .int .i64 x ∧ Hid (∀ i, i < x → ∀ k, k < a.length → Good a b ts i k) ∧ Below W2.heap.size W2 wr) (fun i _ => a.length - (intOf i).toNat)
      case atStart => exact ⟨0, Nat.zero_le _, rfl, (fun i h => absurd h (by omega)), Below.refl _ _⟩
      case round =>
        obtain ⟨x, hx, rfl, HG, hb9⟩ := hrel
        by_cases hxl : x < a.length
        · go_wp2
          go_loopw [11] (fun i wr => ∃ z : Nat, z ≤ a.length ∧ i = .int .i64 z ∧ Hid (∀ k, k < z → Good a b ts x k) ∧ Below W2.heap.size W2 wr) (fun i _ => a.length - (intOf i).toNat)
          case atStart => exact ⟨0, Nat.zero_le _, rfl, (fun i h => absurd h (by omega)), hb9⟩
          case round =>
            clear hb9
            obtain ⟨z, hz, rfl, HG2, hb9⟩ := hrel
            by_cases hzl : z < a.length
            · obtain ⟨tx, htx, atx, _⟩ := HTO.out.2 x hxl
              obtain ⟨tz, htz, atz, _⟩ := HTO.out.2 z hzl
              have htxl := atx.1
              have htzl := atz.1
              obtain ⟨gt, capt, rfl⟩ := HOW.out.block (by rw [HTO.out.1]; omega)
              have c1 := cell_later hb9 (HOW.out.cell htx)
              have c2 := cell_later hb9 (HOW.out.cell htz)
              obtain ⟨bo, oo, g1, rfl, c3, c4⟩ := HOA2.out.get hxl
              obtain ⟨bp, op, g2, rfl, c5, c6⟩ := HOB2.out.get htxl
              have d3 := cell_later hb9 c3
              have d4 := cell_later hb9 (c4 z hzl)
              have d5 := cell_later hb9 c5
              have d6 := cell_later hb9 (c6 tz htzl)
              have htl : a.length ≤ ts.length := by rw [HTO.out.1]; exact Nat.le_refl _
              have HG3 : Hid (hb a z x = hb b tz tx → ∀ k, k < z + 1 → Good a b ts x k) := by
                intro h k hk
                by_cases e : k = z
                · subst e
                  intro x' y' hx' hy'
                  rw [htx] at hx'
                  rw [htz] at hy'
                  have e1 : tx = x' := by simp at hx'; omega
                  have e2 : tz = y' := by simp at hy'; omega
                  rw [← e1, ← e2]
                  exact h
                · exact HG2.out k (by omega)
              have HNS : Hid (hb a z x ≠ hb b tz tx → ¬ SameO a b) := fun h => not_same_order HTO.out hxl hzl htx htz h
              have htl2 : x < ts.length := by omega
              have htl3 : z < ts.length := by omega
              clear c3 c4 c5 c6 atx atz htx htz HG2
              generalize hb a z x = V1 at *
              generalize hb b tz tx = V2 at *
              cases V1 <;> cases V2
              · have HG4 := Lib.hid (HG3.out rfl)
                clear HG3 HNS
                go_wp2
                go_quiet (fail)
                go_wp2
                go_roundw
                case rel => exact ⟨z + 1, by omega, by go_num, HG4, hb9.drewN⟩
                case measure => simp [intOf]; omega
              · have HN := Lib.hid (HNS.out (by simp))
                clear HG3 HNS
                go_wp2
                go_quiet (fail)
                go_wp2
                go_ret
                exact ⟨false, rfl, by simp [HN.out], (hb8.trans (hb9.mono hb8.size)).drewN⟩
              · have HN := Lib.hid (HNS.out (by simp))
                clear HG3 HNS
                go_wp2
                go_quiet (fail)
                go_wp2
                go_ret
                exact ⟨false, rfl, by simp [HN.out], (hb8.trans (hb9.mono hb8.size)).drewN⟩
              · have HG4 := Lib.hid (HG3.out rfl)
                clear HG3 HNS
                go_wp2
                go_quiet (fail)
                go_wp2
                go_roundw
                case rel => exact ⟨z + 1, by omega, by go_num, HG4, hb9.drewN⟩
                case measure => simp [intOf]; omega
            · obtain rfl : z = a.length := by omega
              have HG3 : Hid (∀ i, i < x + 1 → ∀ k, k < a.length → Good a b ts i k) := by
                intro i hi k hk
                by_cases e : i = x
                · subst e; exact HG2.out k hk
                · exact HG.out i (by omega) k hk
              clear HG HG2
              go_wp2
              go_roundw
              case rel => exact ⟨x + 1, by omega, by go_num, HG3, hb9⟩
              case measure => simp [intOf]; omega
        · obtain rfl : x = a.length := by omega
          have HS := Lib.hid (same_all HE.out HRA.out HRB.out HTO.out (fun i k x y hi hk h1 h2 => HG.out i hi k hk x y h1 h2))
          clear HG
          go_wp2
          go_ret
          exact ⟨true, rfl, by simp [HS.out], hb8.trans (hb9.mono hb8.size)⟩

end Go.Proofs.Ytfefidmbkbigoaa
