/- The contract of the document's Read: the walk. -/
import Derived.Test.YtjkfocmfgcmegaaRefRead
import Derived.Deep.RegionLaw
namespace Go.Proofs.Ytjkfocmfgcmegaa
open Go.RowKit

/-- What the document's Read answers. -/
def RefReads (R : Int × Pg) (w : World) (r : Ending) (w' : World) : Prop :=
  ∃ a cap, r = .returned (.tuple #[pgV R.2 a cap, .int .i64 R.1]) ∧ ThreadsAt w' a R.2.threads ∧ Below w.heap.size w w'

theorem refZero {w w' : World} {e : Int} (R : Int × Pg) (hR : R = (e, zeroPg)) (hb : Below w.heap.size w w') : RefReads R w (.returned (.tuple #[zeroV, .int .i64 e])) w' := by
  subst hR
  exact ⟨none, 0, rfl, ⟨by simp [zeroPg, maxLen], fun h => absurd rfl h⟩, hb⟩

theorem rdPg_err {x y z : UInt8} {l : List UInt8} (hz : z.toNat ≤ 4) {e : Int} (he : (e != 0) = true) (h : (rdT z.toNat l).1 = e) : rdPg (x :: y :: z :: l) = (e, zeroPg) := by
  have he' : ¬ e = 0 := by simpa using he
  unfold rdPg
  rw [rdP, if_neg (by omega)]
  simp only []
  rw [if_neg (by rw [h]; exact he'), h]
  simp [finP, he']

theorem rdPg_ok {x y z : UInt8} {l : List UInt8} (hz : z.toNat ≤ 4) {ts : List (List Ins)} {m : List UInt8} (h : rdT z.toNat l = (0, ts, m)) : rdPg (x :: y :: z :: l) = if m = [] ∧ rightPg ⟨x.toNat, y.toNat, ts⟩ = true then (0, ⟨x.toNat, y.toNat, ts⟩) else (3, zeroPg) := by
  unfold rdPg
  rw [rdP, if_neg (by omega), h]
  simp [finP]

set_option maxRecDepth 100000 in
set_option maxHeartbeats 1500000 in
theorem refRead_short (l : List UInt8) (w : World) (hl : l.length < 3) :
    Calls Try.prog 19 #[.string ⟨l.toArray⟩] w fun r w' => r = .returned (.tuple #[zeroV, .int .i64 4]) ∧ Below w.heap.size w w' := by
  go_enter Try.func19, Try.ntmps19
  go_wp2
  exact bodyPost_ret (v := .tuple #[zeroV, .int .i64 4]) (by simp [results, Try.results19, go_sem, zeroV]) rfl ⟨rfl, below_alloc1 _ _⟩

set_option maxRecDepth 100000 in
set_option maxHeartbeats 1500000 in
theorem refRead_many (x y z : UInt8) (l : List UInt8) (w : World) (hz : 4 < z.toNat) :
    Calls Try.prog 19 #[.string ⟨(x :: y :: z :: l).toArray⟩] w fun r w' => r = .returned (.tuple #[zeroV, .int .i64 3]) ∧ Below w.heap.size w w' := by
  have bx := UInt8.toNat_lt x
  have by_ := UInt8.toNat_lt y
  have v0 : IntKind.i64.wrap (x.toNat : Int) = x.toNat := IntWalk.i64_in _ (by omega)
  have v1 : IntKind.i64.wrap (y.toNat : Int) = y.toNat := IntWalk.i64_in _ (by omega)
  have a0 := at0 x y z l
  have a1 := at1 x y z l
  have a2 := at2 x y z l
  go_enter Try.func19, Try.ntmps19
  go_wp2
  go_region
  go_wp2
  exact bodyPost_ret (v := .tuple #[zeroV, .int .i64 3]) (by simp [results, Try.results19, go_sem, zeroV]) rfl ⟨rfl, (below_alloc2 _ _ _).drew⟩

set_option maxRecDepth 100000 in
set_option maxHeartbeats 1500000 in
theorem refRead_ok (x y z : UInt8) (L0 : List UInt8) (w : World) (hz : z.toNat ≤ 4) (hm : L0.length ≤ 100000) :
    Calls Try.prog 19 #[.string ⟨(x :: y :: z :: L0).toArray⟩] w (RefReads (rdPg (x :: y :: z :: L0)) w) := by
  have bx := UInt8.toNat_lt x
  have by_ := UInt8.toNat_lt y
  have v0 : IntKind.i64.wrap (x.toNat : Int) = x.toNat := IntWalk.i64_in _ (by omega)
  have v1 : IntKind.i64.wrap (y.toNat : Int) = y.toNat := IntWalk.i64_in _ (by omega)
  have v2 : IntKind.i64.wrap (z.toNat : Int) = z.toNat := IntWalk.i64_in _ (by omega)
  have a0 := at0 x y z L0
  have a1 := at1 x y z L0
  have a2 := at2 x y z L0
  obtain ⟨R, hR⟩ : ∃ R, rdPg (x :: y :: z :: L0) = R := ⟨_, rfl⟩
  have HErr : Hid (∀ e : Int, (e != 0) = true → (rdT z.toNat L0).1 = e → R = (e, zeroPg)) := fun e he h => by rw [← hR]; exact rdPg_err hz he h
  have HOk : Hid (∀ ts m, rdT z.toNat L0 = (0, ts, m) → R = if m = [] ∧ rightPg ⟨x.toNat, y.toNat, ts⟩ = true then (0, ⟨x.toNat, y.toNat, ts⟩) else (3, zeroPg)) := fun ts m h => by rw [← hR]; exact rdPg_ok hz h
  rw [hR]
  clear hR
  have hl3 : (x :: y :: z :: L0).length = L0.length + 3 := by simp
  have hd3 : (x :: y :: z :: L0).drop 3 = L0 := rfl
  have HST := Lib.hid (RR.start w x.toNat y.toNat)
  go_enter Try.func19, Try.ntmps19
  go_wp2
  go_region
  clear v0 v1 a0 a1
  have HD3 := Lib.hid hd3
  have HL3 := Lib.hid hl3
  clear hd3 hl3
  go_wp2
  go_loopw [5, 6] (fun at_ t wr => ∃ (k A : Nat) (ts : List (List Ins)), k ≤ z.toNat ∧ t = .int .i64 k ∧ at_ = .int .i64 A ∧ 3 ≤ A ∧ A ≤ L0.length + 3 ∧ Hid (ts.length = k) ∧ Hid (rdT z.toNat L0 = comb ts (rdT (z.toNat - k) ((x :: y :: z :: L0).drop A))) ∧ Hid (∀ l ∈ ts, l.length ≤ 8) ∧ RR w x.toNat y.toNat ts wr) (fun _ t _ => z.toNat - (intOf t).toNat)
  case atStart => exact ⟨0, 3, [], Nat.zero_le _, rfl, rfl, Nat.le_refl _, by omega, rfl, by show _ = _; rw [HD3.out]; rfl, (fun _ h => by simp at h), HST.out.drew⟩
  case round =>
    obtain ⟨k, A, ts, hk, rfl, rfl, hA3, hAl, HTL, HRD, H8, hR⟩ := hrel
    by_cases hlt : k < z.toNat
    · obtain ⟨m, hm1⟩ : ∃ m, z.toNat - k = m + 1 := ⟨z.toNat - k - 1, by omega⟩
      have HM := Lib.hid hm1
      clear hm1
      cases hL : (x :: y :: z :: L0).drop A with
      | nil =>
        have hAe : L0.length + 3 ≤ A := by
          have := List.drop_eq_nil_iff.1 hL
          rw [HL3.out] at this
          exact this
        obtain ⟨z0, z1, z2, f0, f1, f2⟩ := res_cells hR.1
        have hbw : Below w.heap.size w wr := (below_alloc1 w _).trans (hR.1.mono (by omega))
        have HE := Lib.hid (HErr.out 4 rfl (by rw [HRD.out, HM.out, hL, rdT]; rfl))
        have hlt2 : ((k : Int) < z.toNat) := by omega
        clear hR hL
        go_wp2
        have hbf := ((hbw.setCell (p := ⟨w.heap.size, 0, none⟩) (Nat.le_refl _) (.int .i64 0)).setCell (p := ⟨w.heap.size, 1, none⟩) (Nat.le_refl _) (.int .i64 0)).setCell (p := ⟨w.heap.size, 2, none⟩) (Nat.le_refl _) (.slice none 0 0)
        exact bodyPost_ret (v := .tuple #[zeroV, .int .i64 4]) (by simp [results, Try.results19, go_sem, zeroV, z0, z1, z2]) rfl (refZero _ HE.out hbf)
      | cons c L1 =>
        have hAlt : A < L0.length + 3 := by
          have := congrArg List.length hL
          rw [List.length_drop, HL3.out] at this
          simp at this
          omega
        have hL1 : L1.length + A + 1 = L0.length + 3 := by
          have := congrArg List.length hL
          rw [List.length_drop, HL3.out] at this
          simp at this
          omega
        have hix := byte_at _ A c L1 hL
        have bc := UInt8.toNat_lt c
        have vc : IntKind.i64.wrap (c.toNat : Int) = c.toNat := IntWalk.i64_in _ (by omega)
        by_cases h8 : 8 < c.toNat
        · have HL1 := Lib.hid hL1
          clear hL1
          obtain ⟨z0, z1, z2, f0, f1, f2⟩ := res_cells hR.1
          have hbw : Below w.heap.size w wr := (below_alloc1 w _).trans (hR.1.mono (by omega))
          have HE := Lib.hid (HErr.out 3 rfl (by rw [HRD.out, HM.out, hL, rdT]; rw [if_pos h8]; rfl))
          have hlt2 : ((k : Int) < z.toNat) := by omega
          clear hR hL
          go_wp2
          have hbf := ((hbw.setCell (p := ⟨w.heap.size, 0, none⟩) (Nat.le_refl _) (.int .i64 0)).setCell (p := ⟨w.heap.size, 1, none⟩) (Nat.le_refl _) (.int .i64 0)).setCell (p := ⟨w.heap.size, 2, none⟩) (Nat.le_refl _) (.slice none 0 0)
          exact bodyPost_ret (v := .tuple #[zeroV, .int .i64 3]) (by simp [results, Try.results19, go_sem, zeroV, z0, z1, z2]) rfl (refZero _ HE.out hbf)
        by_cases hsh : L1.length < c.toNat * 4
        · have hsh2 : L0.length + 3 < A + 1 + 4 * c.toNat := by omega
          have HL1 := Lib.hid hL1
          clear hL1
          obtain ⟨z0, z1, z2, f0, f1, f2⟩ := res_cells hR.1
          have hbw : Below w.heap.size w wr := (below_alloc1 w _).trans (hR.1.mono (by omega))
          have HE := Lib.hid (HErr.out 4 rfl (by rw [HRD.out, HM.out, hL, rdT]; rw [if_neg h8, if_pos hsh]; rfl))
          have hlt2 : ((k : Int) < z.toNat) := by omega
          clear hR hL
          go_wp2
          have hbf := ((hbw.setCell (p := ⟨w.heap.size, 0, none⟩) (Nat.le_refl _) (.int .i64 0)).setCell (p := ⟨w.heap.size, 1, none⟩) (Nat.le_refl _) (.int .i64 0)).setCell (p := ⟨w.heap.size, 2, none⟩) (Nat.le_refl _) (.slice none 0 0)
          exact bodyPost_ret (v := .tuple #[zeroV, .int .i64 4]) (by simp [results, Try.results19, go_sem, zeroV, z0, z1, z2]) rfl (refZero _ HE.out hbf)
        · have hsh2 : A + 1 + 4 * c.toNat ≤ L0.length + 3 := by omega
          have HRD2 : Hid (rdT z.toNat L0 = comb (ts ++ [codeOf c.toNat L1]) (rdT m (L1.drop (4 * c.toNat)))) := by
            show _ = _
            rw [HRD.out, HM.out, hL, rdT, if_neg h8, if_neg hsh, ← comb_comb]
            rfl
          have HL1 := Lib.hid hL1
          have HLL := Lib.hid hL
          have hlt2 : ((k : Int) < z.toNat) := by omega
          have HR := Lib.hid hR
          have hz1 : w.heap.size + 1 + 1 ≤ wr.heap.size := by
            obtain ⟨_, tv, vs, h2, _⟩ := hR
            have := (Array.getElem?_eq_some_iff.1 h2).1
            omega
          clear hL1 hL hR
          go_wp2
          obtain ⟨wo, hwo⟩ : ∃ q, q = wr := ⟨_, rfl⟩
          subst hwo
          go_loopw [5, 8, 9] (fun at_ lv i wq => ∃ (j P : Nat), j ≤ c.toNat ∧ i = .int .i64 j ∧ at_ = .int .i64 P ∧ Hid (P = A + 1 + 4 * j) ∧ P ≤ L0.length + 3 ∧ OwnI wq wo.heap.size lv (codeOf j L1) ∧ Below wo.heap.size wo wq) (fun _ _ i _ => c.toNat - (intOf i).toNat)
          case atStart => exact ⟨0, A + 1, Nat.zero_le _, rfl, by go_num, rfl, by omega, ownI_nil _ _, Below.refl _ _⟩
          case round =>
            obtain ⟨j, P, hj, rfl, rfl, HPA, hPl, hown, hbq⟩ := hrel
            by_cases hjl : j < c.toNat
            · obtain ⟨b0, b1, b2, b3, L2, hdr⟩ : ∃ b0 b1 b2 b3 L2, (x :: y :: z :: L0).drop P = b0 :: b1 :: b2 :: b3 :: L2 := by
                have hlen : 4 ≤ ((x :: y :: z :: L0).drop P).length := by
                  rw [List.length_drop, HL3.out, HPA.out]
                  omega
                match (x :: y :: z :: L0).drop P, hlen with
                | b0 :: b1 :: b2 :: b3 :: L2, _ => exact ⟨b0, b1, b2, b3, L2, rfl⟩
              have e1 : (x :: y :: z :: L0).drop (P + 1) = b1 :: b2 :: b3 :: L2 := by rw [← List.drop_drop, hdr]; rfl
              have e2 : (x :: y :: z :: L0).drop (P + 2) = b2 :: b3 :: L2 := by rw [← List.drop_drop, hdr]; rfl
              have e3 : (x :: y :: z :: L0).drop (P + 3) = b3 :: L2 := by rw [← List.drop_drop, hdr]; rfl
              have i0 := byte_at _ P b0 _ hdr
              have i1 := byte_at _ (P + 1) b1 _ e1
              have i2 := byte_at _ (P + 2) b2 _ e2
              have i3 := byte_at _ (P + 3) b3 _ e3
              have hP4 : P + 4 ≤ L0.length + 3 := by have := HPA.out; omega
              have HIN : Hid (∀ n : Int, n = (if b3.toNat < 128 then (b3.toNat : Int) else (b3.toNat : Int) - 256) → codeOf (j + 1) L1 = codeOf j L1 ++ [⟨b0.toNat, b1.toNat, b2.toNat, n⟩]) := by
                intro n hn
                rw [codeOf_succ]
                have e4 : L1.drop (4 * j) = b0 :: b1 :: b2 :: b3 :: L2 := by
                  have e5 : L1 = (x :: y :: z :: L0).drop (A + 1) := by rw [← List.drop_drop, HLL.out]; rfl
                  rw [e5, List.drop_drop, ← HPA.out, hdr]
                rw [e4, hn]
                rfl
              clear hdr e1 e2 e3
              have w0 := UInt8.toNat_lt b0
              have w1 := UInt8.toNat_lt b1
              have w2 := UInt8.toNat_lt b2
              have w3 := UInt8.toNat_lt b3
              have u0 : IntKind.i64.wrap (b0.toNat : Int) = b0.toNat := IntWalk.i64_in _ (by omega)
              have u1 : IntKind.i64.wrap (b1.toNat : Int) = b1.toNat := IntWalk.i64_in _ (by omega)
              have u2 : IntKind.i64.wrap (b2.toNat : Int) = b2.toNat := IntWalk.i64_in _ (by omega)
              have u3 : IntKind.i64.wrap (b3.toNat : Int) = b3.toNat := IntWalk.i64_in _ (by omega)
              have hjl2 : (j : Int) < c.toNat := by omega
              have hzq := hbq.size
              have hjlen : (codeOf j L1).length ≤ 1000 := by rw [codeOf_length]; omega
              obtain ⟨n, hn⟩ : ∃ n : Int, n = (if b3.toNat < 128 then (b3.toNat : Int) else (b3.toNat : Int) - 256) := ⟨_, rfl⟩
              have HCS := Lib.hid (HIN.out n hn)
              have HN := Lib.hid hn
              clear hn
              have t0 : (P : Int) + 3 < (L0.length : Int) + 1 + 1 + 1 := by omega
              go_upto_if 66 with (fail)
              go_cut [10] (fun s10 wx => s10 = .int .i64 n ∧ wx = wr)
              case first =>
                by_cases hb3 : 127 < b3.toNat
                · go_wp2_with fail
                  go_meet
                  exact ⟨by congr 1; rw [HN.out, if_neg (by omega)], rfl⟩
                · go_wp2_with fail
                  go_meet
                  exact ⟨by congr 1; rw [HN.out, if_pos (by omega)], rfl⟩
              case rest =>
                obtain ⟨rfl, rfl⟩ := hcut
                go_wp2
                have HBA : Hid (∀ X, Below wo.heap.size wo (wc.alloc X).drew) := fun X => (hbq.alloc hzq _).drew
                have t1 : IntKind.i64.wrap ((P : Int) + 1) = (P : Int) + 1 := IntWalk.i64_in _ (by omega)
                have t2 : IntKind.i64.wrap ((P : Int) + 2) = (P : Int) + 2 := IntWalk.i64_in _ (by omega)
                have t3 : (0 : Int) ≤ (P : Int) + 1 := by omega
                have t4 : (0 : Int) ≤ (P : Int) + 2 := by omega
                have t5 : ((P : Int) + 1).toNat = P + 1 := by omega
                have t6 : ((P : Int) + 2).toNat = P + 2 := by omega
                have t7 : (0 : Int) ≤ P := by omega
                have t8 : (P : Int) + 1 < (L0.length : Int) + 1 + 1 + 1 := by omega
                have t9 : (P : Int) + 2 < (L0.length : Int) + 1 + 1 + 1 := by omega
                have t10 : (P : Int) < (L0.length : Int) + 1 + 1 + 1 := by omega
                go_region_law ((refine step_appendI (by rfl) _ _ (by rfl) wo.heap.size _ (codeOf j L1) (by rfl) (OwnI.drew (hown.alloc _)) ⟨wc.heap.size, 0, none⟩ (by rfl) ⟨b0.toNat, b1.toNat, b2.toNat, n⟩ (ins_new wc ⟨b0.toNat, b1.toNat, b2.toNat, n⟩ _ _ rfl) (by omega) (by simp; omega) ?_; intro v3 w4 hown4 hb5; have hB11 : Below wo.heap.size wo w4 := (HBA.out _).trans hb5))
                all_goals clear t1 t2 t5 t6
                all_goals go_wp2
                all_goals exact ⟨⟨j + 1, P + 4, by omega, by go_num, by go_num, by show _ = _; have := HPA.out; omega, by omega, by rw [HCS.out]; exact hown4, hB11⟩, by simp [intOf]; omega⟩
            · obtain rfl : j = c.toNat := by omega
              obtain ⟨cc, ccap, elv, hcc, hoc⟩ := hown.code
              rw [codeOf_length] at elv
              subst elv
              obtain ⟨h1, tv, vs, h2, h3, h4⟩ := HR.out.later hbq
              have b2 : wr.cell? ⟨w.heap.size + 1, 2, none⟩ = some tv := by simp [World.cell?, h2]
              have HH := Lib.hid (And.intro h1 (And.intro h2 (And.intro h3 h4)))
              have HOC := Lib.hid (hoc.keep (w' := wr) hz1 (fun _ _ _ _ => rfl))
              have hzq : w.heap.size + 1 + 1 ≤ wr.heap.size := by have := hbq.size; omega
              have htl : ts.length ≤ 4 := by have := HTL.out; omega
              have HP8 : Hid (∀ l ∈ ts ++ [codeOf c.toNat L1], l.length ≤ 8) := by
                intro l hl
                rcases List.mem_append.1 hl with h | h
                · exact H8.out l h
                · have : l = codeOf c.toNat L1 := by simpa using h
                  rw [this, codeOf_length]; omega
              have HDR : Hid ((x :: y :: z :: L0).drop P = L1.drop (4 * c.toNat)) := by
                show _ = _
                have e5 : L1 = (x :: y :: z :: L0).drop (A + 1) := by rw [← List.drop_drop, HLL.out]; rfl
                rw [e5, List.drop_drop, ← HPA.out]
              clear h1 h2 h3 h4 hoc hown
              go_wp2_with (at_builtin; refine wp_appendT rfl (.tmp 91) (.tmp 93) rfl (w.heap.size + 1 + 1) _ ts.length vs rfl (HH.out.2.2.1.alloc _) ⟨wr.heap.size, 0, none⟩ (.slice cc c.toNat ccap) rfl rfl (one_new wr _ _ _ rfl) (by omega) (by simp; omega) ?_; intro v6 w6 ho6 hg6; obtain ⟨g6, cap6, rfl, x0, x1, x2, xf, HRn⟩ := RR.mid HH.out.1 HH.out.2.1 HH.out.2.2.1 HH.out.2.2.2 (codeOf c.toNat L1) cc c.toNat ccap (codeOf_length c.toNat L1).symm hcc HOC.out _ v6 ho6 hg6; clear ho6 hg6)
              go_roundw
              case rel =>
                refine ⟨k + 1, P, ts ++ [codeOf c.toNat L1], by omega, by go_num, rfl, by have := HPA.out; omega, by omega, ?_, ?_, HP8, HRn.out⟩
                · show _ = _
                  simp [HTL.out]
                · show _ = _
                  have e : z.toNat - (k + 1) = m := by have := HM.out; omega
                  rw [HRD2.out, HDR.out, e]
              case measure => simp [intOf]; omega
    · obtain rfl : k = z.toNat := by omega
      have htl : ts.length ≤ 4 := by have := HTL.out; omega
      obtain ⟨a, cap, hbox, hcap, hth, hkeep⟩ := hR.threads (by omega) (fun l hl => by have := H8.out l hl; omega)
      obtain ⟨z0, z1, z2, f0, f1, f2⟩ := res_cells hR.1
      have hbw : Below w.heap.size w wr := (below_alloc1 w _).trans (hR.1.mono (by omega))
      have hb1 := hR.1
      have HB := Lib.hid hbox
      have hzr := (Array.getElem?_eq_some_iff.1 hbox).1
      have q0 : wr.cell? ⟨w.heap.size + 1, 0, none⟩ = some (.int .i64 x.toNat) := by simp [World.cell?, hbox]
      have q1 : wr.cell? ⟨w.heap.size + 1, 1, none⟩ = some (.int .i64 y.toNat) := by simp [World.cell?, hbox]
      have q2 : wr.cell? ⟨w.heap.size + 1, 2, none⟩ = some (.slice a ts.length cap) := by simp [World.cell?, hbox]
      have HR2 : Hid (R = if (x :: y :: z :: L0).drop A = [] ∧ rightPg ⟨x.toNat, y.toNat, ts⟩ = true then (0, ⟨x.toNat, y.toNat, ts⟩) else (3, zeroPg)) := by
        refine HOk.out ts _ ?_
        rw [HRD.out, Nat.sub_self]
        simp [rdT, comb]
      have HTH := Lib.hid hth
      have HKP := Lib.hid hkeep
      clear hbox hth hkeep hR
      by_cases hAe : A = L0.length + 3
      · subst hAe
        have HDN : Hid ((x :: y :: z :: L0).drop (L0.length + 3) = []) := List.drop_eq_nil_iff.2 (by rw [HL3.out]; exact Nat.le_refl _)
        have hne : (((L0.length + 3 : Nat) : Int) != (L0.length : Int) + 1 + 1 + 1) = false := by simp; omega
        go_wp2_with fail
        refine (refRight_any ⟨x.toNat, y.toNat, ts⟩ a cap _ HTH.out).mono ?_
        rintro r w2 ⟨rfl, hb2⟩
        have hb12 := hb1.trans (hb2.mono (by omega))
        obtain ⟨z0, z1, z2, f0, f1, f2⟩ := res_cells hb12
        have hbw : Below w.heap.size w w2 := (below_alloc1 w _).trans (hb12.mono (by omega))
        cases hrg : rightPg ⟨x.toNat, y.toNat, ts⟩
        · have HE : Hid (R = (3, zeroPg)) := by
            show _ = _
            rw [HR2.out, if_neg (by rw [hrg]; simp)]
          clear q0 q1 q2
          go_wp2
          have hbf := ((hbw.setCell (p := ⟨w.heap.size, 0, none⟩) (Nat.le_refl _) (.int .i64 0)).setCell (p := ⟨w.heap.size, 1, none⟩) (Nat.le_refl _) (.int .i64 0)).setCell (p := ⟨w.heap.size, 2, none⟩) (Nat.le_refl _) (.slice none 0 0)
          exact bodyPost_ret (v := .tuple #[zeroV, .int .i64 3]) (by simp [results, Try.results19, go_sem, zeroV, z0, z1, z2]) rfl (refZero _ HE.out hbf)
        · have HE : Hid (R = (0, ⟨x.toNat, y.toNat, ts⟩)) := by
            show _ = _
            rw [HR2.out, if_pos ⟨HDN.out, hrg⟩]
          have q0' := cell_later hb2 q0
          have q1' := cell_later hb2 q1
          have q2' := cell_later hb2 q2
          clear q0 q1 q2
          go_wp2
          have hbf := ((hbw.setCell (p := ⟨w.heap.size, 0, none⟩) (Nat.le_refl _) (.int .i64 x.toNat)).setCell (p := ⟨w.heap.size, 1, none⟩) (Nat.le_refl _) (.int .i64 y.toNat)).setCell (p := ⟨w.heap.size, 2, none⟩) (Nat.le_refl _) (.slice a ts.length cap)
          refine bodyPost_ret (v := .tuple #[pgV ⟨x.toNat, y.toNat, ts⟩ a cap, .int .i64 0]) (by simp [results, Try.results19, go_sem, pgV, z0, z1, z2]) rfl ⟨a, cap, by rw [HE.out], by
            rw [HE.out]
            refine HKP.out _ (fun k h1 h2 => ?_)
            rw [Below.heap_setCell _ _ _ _ (by show k ≠ w.heap.size; omega), Below.heap_setCell _ _ _ _ (by show k ≠ w.heap.size; omega), Below.heap_setCell _ _ _ _ (by show k ≠ w.heap.size; omega)]
            exact hb2.block k h2, hbf⟩
      · have hne : ((A : Int) != (L0.length : Int) + 1 + 1 + 1) = true := by simp; omega
        have HE : Hid (R = (3, zeroPg)) := by
          show _ = _
          rw [HR2.out, if_neg (fun h => by
            have := List.drop_eq_nil_iff.1 h.1
            rw [HL3.out] at this
            omega)]
        clear q0 q1 q2
        go_wp2
        have hbf := ((hbw.setCell (p := ⟨w.heap.size, 0, none⟩) (Nat.le_refl _) (.int .i64 0)).setCell (p := ⟨w.heap.size, 1, none⟩) (Nat.le_refl _) (.int .i64 0)).setCell (p := ⟨w.heap.size, 2, none⟩) (Nat.le_refl _) (.slice none 0 0)
        exact bodyPost_ret (v := .tuple #[zeroV, .int .i64 3]) (by simp [results, Try.results19, go_sem, zeroV, z0, z1, z2]) rfl (refZero _ HE.out hbf)
end Go.Proofs.Ytjkfocmfgcmegaa
