/- The contract of readProg. -/
import Derived.Test.YtjkfocmfgcmegaaReadCode
import Derived.Deep.RegionHeld3
import Derived.Deep.DeepCutAuto
import Derived.Deep.RegionWith
namespace Go.Proofs.Ytjkfocmfgcmegaa
open Go.RowKit

/-- n threads off a text: an error, the threads, what is left. -/
def rdT : Nat → List UInt8 → Int × List (List Ins) × List UInt8
  | 0, l => (0, [], l)
  | _ + 1, [] => (4, [], [])
  | n + 1, c :: l =>
    if 8 < c.toNat then (3, [], [])
    else if l.length < c.toNat * 4 then (4, [], [])
    else
      let r := rdT n (l.drop (4 * c.toNat))
      (r.1, codeOf c.toNat l :: r.2.1, r.2.2)

theorem at0 (x y z : UInt8) (l : List UInt8) (h : 0 < (⟨(x :: y :: z :: l).toArray⟩ : ByteArray).size) : (⟨(x :: y :: z :: l).toArray⟩ : ByteArray)[0] = x := rfl
theorem at1 (x y z : UInt8) (l : List UInt8) (h : 1 < (⟨(x :: y :: z :: l).toArray⟩ : ByteArray).size) : (⟨(x :: y :: z :: l).toArray⟩ : ByteArray)[1] = y := rfl
theorem at2 (x y z : UInt8) (l : List UInt8) (h : 2 < (⟨(x :: y :: z :: l).toArray⟩ : ByteArray).size) : (⟨(x :: y :: z :: l).toArray⟩ : ByteArray)[2] = z := rfl

/-- The program that is none. -/
def zeroV : Value := .agg #[.int .i64 0, .int .i64 0, .slice none 0 0]

set_option maxRecDepth 100000 in
set_option maxHeartbeats 1000000 in
theorem readProg_short (l : List UInt8) (w : World) (hl : l.length < 3) :
    Calls Try.prog 27 #[.string ⟨l.toArray⟩] w fun r w' => r = .returned (.tuple #[zeroV, .string ⟨#[]⟩, .int .i64 4]) ∧ Below w.heap.size w w' := by
  go_enter Try.func27, Try.ntmps27
  go_wp2
  exact bodyPost_ret (v := .tuple #[zeroV, .string ⟨#[]⟩, .int .i64 4]) (by simp [results, Try.results27, go_sem, zeroV]) rfl ⟨rfl, below_alloc1 _ _⟩

set_option maxRecDepth 100000 in
set_option maxHeartbeats 1000000 in
theorem readProg_many (x y z : UInt8) (l : List UInt8) (w : World) (hz : 4 < z.toNat) :
    Calls Try.prog 27 #[.string ⟨(x :: y :: z :: l).toArray⟩] w fun r w' => r = .returned (.tuple #[zeroV, .string ⟨#[]⟩, .int .i64 3]) ∧ Below w.heap.size w w' := by
  have bz := UInt8.toNat_lt z
  have v2 : IntKind.i64.wrap (z.toNat : Int) = z.toNat := IntWalk.i64_in _ (by omega)
  have a2 := at2 x y z l
  go_enter Try.func27, Try.ntmps27
  go_wp2
  exact bodyPost_ret (v := .tuple #[zeroV, .string ⟨#[]⟩, .int .i64 3]) (by simp [results, Try.results27, go_sem, zeroV]) rfl ⟨rfl, below_alloc1 _ _⟩

/-- In the middle of reading a program: its box gb, its row gr of threads, the threads that are read. -/
def RP (w : World) (V M : Int) (n gb gr : Nat) (ts : List (List Ins)) (wx : World) : Prop :=
  Below (w.heap.size + 1) (w.alloc (.cells #[.int .i64 0, .int .i64 0, .slice none 0 0] 24)) wx ∧ w.heap.size + 1 ≤ gb ∧ w.heap.size + 1 ≤ gr ∧ gb ≠ gr ∧
    wx.heap[gb]? = some (.cells #[.int .i64 V, .int .i64 M, .slice (some ⟨gr, 0, none⟩) n n] 24 (0, 0)) ∧
    ∃ vs : List Value, wx.heap[gr]? = some (.cells vs.toArray 32 (0, 0)) ∧ vs.length = n ∧
      ∀ i (h : i < ts.length), ∃ c cap, vs[i]? = some (.slice c ts[i].length cap) ∧ (c = none → cap = 0) ∧ OwnCode wx (w.heap.size + 1) gr c ts[i]

theorem OwnCode.drew {w : World} {B g : Nat} {c : Option Addr} {l : List Ins} (h : OwnCode w B g c l) : OwnCode w.drew B g c l := h
theorem RP.drew {w : World} {V M : Int} {n gb gr : Nat} {ts : List (List Ins)} {wx : World} (h : RP w V M n gb gr ts wx) : RP w V M n gb gr ts wx.drew := ⟨h.1.drew, h.2⟩

theorem RP.box {w : World} {V M : Int} {n gb gr : Nat} {ts : List (List Ins)} {wx : World} (h : RP w V M n gb gr ts wx) :
    wx.cell? ⟨gb, 0, none⟩ = some (.int .i64 V) ∧ wx.cell? ⟨gb, 1, none⟩ = some (.int .i64 M) ∧ wx.cell? ⟨gb, 2, none⟩ = some (.slice (some ⟨gr, 0, none⟩) n n) := by
  simp [World.cell?, h.2.2.2.2.1]

theorem RP.start1 (w : World) (V M : Int) (n : Nat) :
    RP w V M n (w.heap.size + 1 + 1) (w.heap.size + 1) [] (((w.alloc (.cells #[.int .i64 0, .int .i64 0, .slice none 0 0] 24)).alloc (.cells (madeCells #[.slice none 0 0] n) 32)).alloc (.cells #[.int .i64 V, .int .i64 M, .slice (some ⟨w.heap.size + 1, 0, none⟩) n n] 24)) := by
  refine ⟨((Below.refl _ _).alloc (by simp) _).alloc (by simp) _, by omega, by omega, by omega, ?_, (madeCells #[.slice none 0 0] n).toList, ?_, by simp [size_madeCells], by simp⟩
  · have := (MapKept.heap_alloc ((w.alloc (.cells #[.int .i64 0, .int .i64 0, .slice none 0 0] 24)).alloc (.cells (madeCells #[.slice none 0 0] n) 32)) (.cells #[.int .i64 V, .int .i64 M, .slice (some ⟨w.heap.size + 1, 0, none⟩) n n] 24)).1
    simpa using this
  · rw [Below.heap_alloc _ _ _ (by simp)]
    have := (MapKept.heap_alloc (w.alloc (.cells #[.int .i64 0, .int .i64 0, .slice none 0 0] 24)) (.cells (madeCells #[.slice none 0 0] n) 32)).1
    simpa using this

theorem RP.start2 (w : World) (V M : Int) (n : Nat) :
    RP w V M n (w.heap.size + 1) (w.heap.size + 1 + 1) [] (((w.alloc (.cells #[.int .i64 0, .int .i64 0, .slice none 0 0] 24)).alloc (.cells #[.int .i64 V, .int .i64 M, .slice (some ⟨w.heap.size + 1 + 1, 0, none⟩) n n] 24)).alloc (.cells (madeCells #[.slice none 0 0] n) 32)) := by
  refine ⟨((Below.refl _ _).alloc (by simp) _).alloc (by simp) _, by omega, by omega, by omega, ?_, (madeCells #[.slice none 0 0] n).toList, ?_, by simp [size_madeCells], by simp⟩
  · rw [Below.heap_alloc _ _ _ (by simp)]
    have := (MapKept.heap_alloc (w.alloc (.cells #[.int .i64 0, .int .i64 0, .slice none 0 0] 24)) (.cells #[.int .i64 V, .int .i64 M, .slice (some ⟨w.heap.size + 1 + 1, 0, none⟩) n n] 24)).1
    simpa using this
  · have := (MapKept.heap_alloc ((w.alloc (.cells #[.int .i64 0, .int .i64 0, .slice none 0 0] 24)).alloc (.cells #[.int .i64 V, .int .i64 M, .slice (some ⟨w.heap.size + 1 + 1, 0, none⟩) n n] 24)) (.cells (madeCells #[.slice none 0 0] n) 32)).1
    simpa using this

/-- What a reading leaves: an error, or a program of its own. -/
def ReadPost (V M : Int) (R : Int × List (List Ins) × List UInt8) (w : World) (r : Ending) (w' : World) : Prop :=
  Below w.heap.size w w' ∧ ((R.1 ≠ 0 ∧ r = .returned (.tuple #[zeroV, .string ⟨#[]⟩, .int .i64 R.1])) ∨
    (R.1 = 0 ∧ ∃ a cap, r = .returned (.tuple #[pgV ⟨V, M, R.2.1⟩ a cap, .string ⟨R.2.2.toArray⟩, .int .i64 0]) ∧ (a = none → cap = 0) ∧ OwnThreads w' w.heap.size a R.2.1))

def comb (ts : List (List Ins)) (R : Int × List (List Ins) × List UInt8) : Int × List (List Ins) × List UInt8 := (R.1, ts ++ R.2.1, R.2.2)

theorem code_cases (L : List UInt8) (m : Nat) :
    (∃ e : Int, (e != 0) = true ∧ (rdT (m + 1) L).1 = e ∧ ∀ w, Calls Try.prog 29 #[.string ⟨L.toArray⟩] w fun r w' => r = .returned (.tuple #[.slice none 0 0, .string ⟨#[]⟩, .int .i64 e]) ∧ Below w.heap.size w w') ∨
    (∃ c L', L = c :: L' ∧ c.toNat ≤ 8 ∧ c.toNat * 4 ≤ L'.length ∧ rdT (m + 1) L = comb [codeOf c.toNat L'] (rdT m (L'.drop (4 * c.toNat)))) := by
  cases L with
  | nil => exact .inl ⟨4, rfl, rfl, readCode_none⟩
  | cons c L =>
    by_cases h1 : 8 < c.toNat
    · exact .inl ⟨3, rfl, by rw [rdT, if_pos h1], fun w => readCode_form c L w h1⟩
    · by_cases h2 : L.length < c.toNat * 4
      · exact .inl ⟨4, rfl, by rw [rdT, if_neg h1, if_pos h2], fun w => readCode_short c L w (by omega) h2⟩
      · refine .inr ⟨c, L, rfl, by omega, by omega, ?_⟩
        rw [rdT, if_neg h1, if_neg h2]
        rfl

theorem comb_comb (a b : List (List Ins)) (R : Int × List (List Ins) × List UInt8) : comb a (comb b R) = comb (a ++ b) R := by simp [comb]

theorem RP.step {w : World} {V M : Int} {n gb gr : Nat} {ts : List (List Ins)} {wr w1 : World} (h : RP w V M n gb gr ts wr) (k : Nat) (hk : ts.length = k) (hn : k < n) (hb : Below wr.heap.size wr w1) (g : Nat) (hg : wr.heap.size ≤ g)
    (code : List Ins) (m : Nat) (hm : m = code.length) (hc : w1.heap[g]? = some (.cells (insCells code).toArray 34 (0, 0))) :
    RP w V M n gb gr (ts ++ [code]) (w1.setCell ⟨gr, k, none⟩ (.slice (some ⟨g, 0, none⟩) m m)) := by
  subst hm hk
  obtain ⟨h1, h2, h3, h4, h5, vs, h6, h7, h8⟩ := h
  have lt : ∀ {g : Nat} {o : Obj}, wr.heap[g]? = some o → g < wr.heap.size := fun e => (Array.getElem?_eq_some_iff.1 e).1
  have hgr := lt h6
  have hgb := lt h5
  have hs := h1.size
  simp at hs
  refine ⟨(h1.trans (hb.mono (by omega))).setCell (p := ⟨gr, ts.length, none⟩) h3 _, h2, h3, h4, ?_, vs.set ts.length _, row_set ((hb.block _ hgr).trans h6) _, by simp [h7], fun i hi => ?_⟩
  · rw [Below.heap_setCell _ _ _ _ h4]; exact (hb.block _ hgb).trans h5
  · by_cases e : i = ts.length
    · subst e
      have e1 : (ts ++ [code])[ts.length]'(by simp) = code := by simp
      rw [e1]
      exact ⟨some ⟨g, 0, none⟩, code.length, by rw [List.getElem?_set_self (by omega)], by simp, fun _ => ⟨g, rfl, by omega, by omega, by rw [Below.heap_setCell _ _ _ _ (by show g ≠ gr; omega)]; exact hc⟩⟩
    · have hi' : i < ts.length := by simp at hi; omega
      obtain ⟨c, cap, q1, q2, q3⟩ := h8 i hi'
      have e1 : (ts ++ [code])[i]'hi = ts[i] := List.getElem_append_left hi'
      rw [e1]
      refine ⟨c, cap, by rw [List.getElem?_set_ne (by omega)]; exact q1, q2, fun hne => ?_⟩
      obtain ⟨g', e', r1, r2, r3⟩ := q3 hne
      exact ⟨g', e', r1, r2, by rw [Below.heap_setCell _ _ _ _ r2]; exact (hb.block _ (lt r3)).trans r3⟩

theorem RP.own {w : World} {V M : Int} {n gb gr : Nat} {ts : List (List Ins)} {wx : World} (h : RP w V M n gb gr ts wx) (hn : ts.length = n) : OwnThreads wx (w.heap.size + 1) (some ⟨gr, 0, none⟩) ts := by
  obtain ⟨h1, h2, h3, h4, h5, vs, h6, h7, h8⟩ := h
  exact fun _ => ⟨gr, vs, rfl, h3, h6, by omega, h8⟩

theorem RP.row {w : World} {V M : Int} {n gb gr : Nat} {ts : List (List Ins)} {wr : World} (h : RP w V M n gb gr ts wr) :
    ∀ w1, Below wr.heap.size wr w1 → ∀ j, j < n → (∃ v, w1.cell? ⟨gr, j, none⟩ = some v) ∧ w1.frozen? ⟨gr, j, none⟩ = false := by
  obtain ⟨hb, g1, g2, g3, g4, vs, g5, g6, g7⟩ := h
  intro w1 hb1 j hj
  have h5 : w1.heap[gr]? = _ := (hb1.block gr (Array.getElem?_eq_some_iff.1 g5).1).trans g5
  exact ⟨⟨vs[j]'(by omega), by simp [World.cell?, h5]⟩, by simp [World.frozen?, h5]⟩

/-- The result's own block, untouched. -/
theorem res_cells {w wx : World} (hb : Below (w.heap.size + 1) (w.alloc (.cells #[.int .i64 0, .int .i64 0, .slice none 0 0] 24)) wx) :
    wx.cell? ⟨w.heap.size, 0, none⟩ = some (.int .i64 0) ∧ wx.cell? ⟨w.heap.size, 1, none⟩ = some (.int .i64 0) ∧ wx.cell? ⟨w.heap.size, 2, none⟩ = some (.slice none 0 0) ∧
    wx.frozen? ⟨w.heap.size, 0, none⟩ = false ∧ wx.frozen? ⟨w.heap.size, 1, none⟩ = false ∧ wx.frozen? ⟨w.heap.size, 2, none⟩ = false := by
  have h : wx.heap[w.heap.size]? = some (.cells #[.int .i64 0, .int .i64 0, .slice none 0 0] 24 (0, 0)) := (hb.block _ (by omega)).trans (MapKept.heap_alloc w _).1
  simp [World.cell?, World.frozen?, h]

set_option maxRecDepth 100000 in
set_option maxHeartbeats 2000000 in
theorem readProg_ok (x y z : UInt8) (l : List UInt8) (w : World) (hz : z.toNat ≤ 4) (hm : l.length ≤ 100000000) :
    Calls Try.prog 27 #[.string ⟨(x :: y :: z :: l).toArray⟩] w (ReadPost x.toNat y.toNat (rdT z.toNat l) w) := by
  have bx := UInt8.toNat_lt x
  have by_ := UInt8.toNat_lt y
  have hmk := run_make_k (P := Try.prog) 22 32 (.slice none 0 0) 1 24 Try.underlying22 (by kernel_rfl) z.toNat (by omega) (by omega)
  have v0 : IntKind.i64.wrap (x.toNat : Int) = x.toNat := IntWalk.i64_in _ (by omega)
  have v1 : IntKind.i64.wrap (y.toNat : Int) = y.toNat := IntWalk.i64_in _ (by omega)
  have v2 : IntKind.i64.wrap (z.toNat : Int) = z.toNat := IntWalk.i64_in _ (by omega)
  have a0 := at0 x y z l
  have a1 := at1 x y z l
  have a2 := at2 x y z l
  go_enter Try.func27, Try.ntmps27
  go_upto_region 6 with (fail)
  go_cut [6] (fun s6 wx => ∃ gb gr : Nat, s6 = .pointer (some ⟨gb, 0, none⟩) ∧ RP w x.toNat y.toNat z.toNat gb gr [] wx)
  case first =>
    go_region
    all_goals go_wp2_with fail
    all_goals go_meet
    · exact ⟨_, _, rfl, (RP.start1 w x.toNat y.toNat z.toNat).drew⟩
    · exact ⟨_, _, rfl, (RP.start2 w x.toNat y.toNat z.toNat).drew⟩
  case rest =>
    obtain ⟨gb, gr, rfl, hRP⟩ := hcut
    clear hmk v0 v1 v2 a0 a1 a2
    have q2 := hRP.box.2.2
    go_wp2
    go_loopw [7, 34] (fun t i wr => ∃ (k : Nat) (L : List UInt8) (ts : List (List Ins)), k ≤ z.toNat ∧ i = .int .i64 k ∧ t = .string ⟨L.toArray⟩ ∧ Hid (ts.length = k) ∧ Hid (rdT z.toNat l = comb ts (rdT (z.toNat - k) L)) ∧ L.length ≤ l.length ∧ RP w x.toNat y.toNat z.toNat gb gr ts wr) (fun _ i _ => z.toNat - (intOf i).toNat)
    case atStart =>
      refine ⟨0, l, [], Nat.zero_le _, rfl, ?_, rfl, rfl, Nat.le_refl _, hRP⟩
      rw [cut_text (x :: y :: z :: l) 3 _ (by simp)]; rfl
    case round =>
      obtain ⟨k, L, ts, hk, rfl, rfl, HTL, HRD, hLl, hR⟩ := hrel
      by_cases hlt : k < z.toNat
      · obtain ⟨m, hm1⟩ : ∃ m, z.toNat - k = m + 1 := ⟨z.toNat - k - 1, by omega⟩
        have q2 := hR.box.2.2
        have HROW := Lib.hid hR.row
        have hb := hR.1
        have hzb : w.heap.size + 1 ≤ gr := hR.2.2.1
        have hzs : w.heap.size + 1 ≤ wr.heap.size := by have := hb.size; simp at this; omega
        have HM := Lib.hid hm1
        clear hm1
        rcases code_cases L m with ⟨e, he, hrd, hcall⟩ | ⟨c, L', rfl, hc8, hcl, hrd⟩
        · have HCALL := Lib.hid hcall
          have HE : Hid ((rdT z.toNat l).1 = e) := by
            show _ = _
            rw [HRD.out, HM.out]; exact hrd
          clear hcall hrd hR
          go_upto_region 12 with (fail)
          go_cut [7, 9] (fun s7 s9 wx => s7 = .string ⟨#[]⟩ ∧ s9 = .int .i64 e ∧ Below (w.heap.size + 1) (w.alloc (.cells #[.int .i64 0, .int .i64 0, .slice none 0 0] 24)) wx)
          case first =>
            go_region_with ((go_simp; go_at_call 29; refine (HCALL.out _).mono ?_; rintro r w1 ⟨rfl, hb0⟩; have hb1 : Below wr.heap.size wr w1 := (Below.refl _ _).drew.trans hb0; have ⟨⟨y0, q4⟩, q5⟩ := HROW.out w1 hb1 k hlt; have q6 := cell_later hb1 q2))
            all_goals go_wp2_with fail
            all_goals go_meet
            all_goals exact ⟨rfl, rfl, (hb.trans (hb1.mono hzs)).setCell (p := ⟨gr, k, none⟩) hzb _⟩
          case rest =>
            obtain ⟨rfl, rfl, hbx⟩ := hcut
            obtain ⟨z0, z1, z2, f0, f1, f2⟩ := res_cells hbx
            go_wp2
            have hbf := ((((below_alloc1 w _).trans (hbx.mono (by omega))).setCell (p := ⟨w.heap.size, 0, none⟩) (Nat.le_refl _) (.int .i64 0)).setCell (p := ⟨w.heap.size, 1, none⟩) (Nat.le_refl _) (.int .i64 0)).setCell (p := ⟨w.heap.size, 2, none⟩) (Nat.le_refl _) (.slice none 0 0)
            exact bodyPost_ret (v := .tuple #[zeroV, .string ⟨#[]⟩, .int .i64 e]) (by simp [results, Try.results27, go_sem, zeroV, z0, z1, z2]) rfl ⟨hbf, .inl ⟨by rw [HE.out]; simpa using he, by rw [HE.out]⟩⟩
        · have HRD' := Lib.hid hrd
          have HR := Lib.hid hR
          clear hrd hR
          have hLm : L'.length ≤ 1000000000 := by simp at hLl; omega
          go_upto_region 12 with (fail)
          go_cut [7, 9] (fun s7 s9 wx => s7 = .string ⟨(L'.drop (4 * c.toNat)).toArray⟩ ∧ s9 = .int .i64 0 ∧ RP w x.toNat y.toNat z.toNat gb gr (ts ++ [codeOf c.toNat L']) wx)
          case first =>
            go_region_with ((go_simp; go_at_call 29; refine (readCode_ok c L' _ hc8 hcl hLm).mono ?_; rintro r w1 ⟨g, rfl, hb0, hg, hcode⟩; have hb1 : Below wr.heap.size wr w1 := (Below.refl _ _).drew.trans hb0; have HST := Lib.hid (HR.out.step k HTL.out hlt hb1 g hg _ c.toNat (codeOf_length c.toNat L').symm hcode); clear hcode; have ⟨⟨y0, q4⟩, q5⟩ := HROW.out w1 hb1 k hlt; have q6 := cell_later hb1 q2))
            all_goals go_wp2_with fail
            all_goals go_meet
            all_goals exact ⟨rfl, rfl, HST.out⟩
          case rest =>
            obtain ⟨rfl, rfl, hRn⟩ := hcut
            go_wp2
            go_roundw
            case rel =>
              refine ⟨k + 1, L'.drop (4 * c.toNat), ts ++ [codeOf c.toNat L'], by omega, by go_num, rfl, ?_, ?_, by simp at hLl ⊢; omega, hRn⟩
              · show _ = _
                simp [HTL.out]
              · show _ = _
                have e : z.toNat - (k + 1) = m := by have := HM.out; omega
                rw [HRD.out, HM.out, HRD'.out, comb_comb, e]
            case measure => simp [intOf]; omega
      · obtain rfl : k = z.toNat := by omega
        obtain ⟨q0, q1, q2⟩ := hR.box
        obtain ⟨z0, z1, z2, f0, f1, f2⟩ := res_cells hR.1
        have hown := hR.own HTL.out
        have hbw : Below w.heap.size w wr := (below_alloc1 w _).trans (hR.1.mono (by omega))
        have HR0 : Hid (rdT z.toNat l = (0, ts, L)) := by
          show _ = _
          rw [HRD.out, Nat.sub_self]
          simp [rdT, comb]
        have hgb : w.heap.size + 1 ≤ gb := hR.2.1
        clear hR
        go_wp2
        have hbf := ((hbw.setCell (p := ⟨w.heap.size, 0, none⟩) (Nat.le_refl _) (.int .i64 x.toNat)).setCell (p := ⟨w.heap.size, 1, none⟩) (Nat.le_refl _) (.int .i64 y.toNat)).setCell (p := ⟨w.heap.size, 2, none⟩) (Nat.le_refl _) (.slice (some ⟨gr, 0, none⟩) z.toNat z.toNat)
        refine bodyPost_ret (v := .tuple #[.agg #[.int .i64 x.toNat, .int .i64 y.toNat, .slice (some ⟨gr, 0, none⟩) z.toNat z.toNat], .string ⟨L.toArray⟩, .int .i64 0]) (by simp [results, Try.results27, go_sem, z0, z1, z2]) rfl ⟨hbf, .inr ⟨by rw [HR0.out], some ⟨gr, 0, none⟩, z.toNat, ?_, by simp, ?_⟩⟩
        · rw [HR0.out]
          unfold pgV
          dsimp only
          rw [HTL.out]
        · rw [HR0.out]
          refine OwnThreads.mono (B := w.heap.size + 1) (hown.keep (fun g hg _ => ?_)) (by omega)
          rw [Below.heap_setCell _ _ _ _ (by simp; omega), Below.heap_setCell _ _ _ _ (by simp; omega), Below.heap_setCell _ _ _ _ (by simp; omega)]
end Go.Proofs.Ytjkfocmfgcmegaa
