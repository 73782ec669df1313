/- The contracts of what only reads a state: below, Threads, Var, Holder, instr, event, may. -/
import Derived.Test.YtfhndbibabbnlaaInstr
import Derived.Test.YtfhndbibabbnlaaStateMem
namespace Go.Proofs.Ytfhndbibabbnlaa
open Go.RowKit

def evV (e : Ev) : Value := .agg #[.int .i64 e.thread, .int .i64 e.kind, .int .i64 e.obj, .bool e.fail]

theorem sbelow_any (n e : Int) (w : World) : Calls Try.prog 41 #[.int .i64 n, .int .i64 e] w fun r w' => r = .returned (.bool (belowB n e)) ∧ w = w' := by
  go_enter Try.func41, Try.ntmps41
  go_wp2
  all_goals
    go_ret
    refine ⟨ret_bool ?_, rfl⟩
    simp [belowB]
    try omega

theorem threads_any {s : St} {b : Nat} {w : World} (h : StAt w b s) : Calls Try.prog 25 #[.pointer (some ⟨b, 0, none⟩)] w fun r w' => r = .returned (.int .i64 s.ts.length) ∧ w = w' := by
  have c0 := h.num 0 (by omega)
  rw [stNum_threads] at c0
  have H := Lib.hid h
  clear h
  go_enter Try.func25, Try.ntmps25
  go_wp2
  go_ret
  exact ⟨rfl, rfl⟩

theorem var_any {s : St} {b : Nat} {w : World} (h : StAt w b s) (x : Nat) (hx : x < 4) : Calls Try.prog 30 #[.pointer (some ⟨b, 0, none⟩), .int .i64 x] w fun r w' => r = .returned (.int .i64 (s.var x)) ∧ w = w' := by
  have c0 := h.num (150 + x) (by omega)
  rw [stNum_var _ _ hx] at c0
  have H := Lib.hid h
  clear h
  have hb : belowB x 4 = true := by simp [belowB]; omega
  have hv : s.v.getD x 0 = s.var x := rfl
  rw [hv] at c0
  clear hv
  go_enter Try.func30, Try.ntmps30
  go_wp2_with (go_at_call 41; refine (sbelow_any _ _ _).mono ?_; rintro r w' ⟨rfl, rfl⟩)
  go_ret
  exact ⟨rfl, rfl⟩

theorem var_out {s : St} {b : Nat} {w : World} (h : StAt w b s) (x : Int) (hx : 4 ≤ x) : Calls Try.prog 30 #[.pointer (some ⟨b, 0, none⟩), .int .i64 x] w fun r w' => r = .returned (.int .i64 0) ∧ w = w' := by
  have H := Lib.hid h
  clear h
  have hb : belowB x 4 = false := by simp [belowB]; omega
  go_enter Try.func30, Try.ntmps30
  go_wp2_with (go_at_call 41; refine (sbelow_any _ _ _).mono ?_; rintro r w' ⟨rfl, rfl⟩)
  go_ret
  exact ⟨rfl, rfl⟩

theorem holder_any {F : Nat} {s : St} {b : Nat} {w : World} (h : StAt w b s) (ok : s.Ok F) (x : Nat) : Calls Try.prog 31 #[.pointer (some ⟨b, 0, none⟩), .int .i64 x] w fun r w' => r = .returned (.int .i64 (s.who x)) ∧ w = w' := by
  have c1 := h.num 1 (by omega)
  rw [stNum_mutexes] at c1
  have hm2 : s.p.mutexes ≤ 2 := by
    have := ok.right
    unfold rightPg at this
    rw [Bool.and_eq_true, decide_eq_true_eq] at this
    omega
  cases hb : belowB x s.p.mutexes
  · have hw : s.who x = -1 := ok.free x (by simp [belowB] at hb; omega)
    have HW := Lib.hid hw
    have H := Lib.hid h
    have OK := Lib.hid ok
    clear h ok hw
    go_enter Try.func31, Try.ntmps31
    go_wp2_with (go_at_call 41; refine (sbelow_any _ _ _).mono ?_; rintro r w' ⟨rfl, rfl⟩)
    go_ret
    rw [HW.out]
    exact ⟨rfl, rfl⟩
  · have hx : x < 2 := by simp [belowB] at hb; omega
    have c0 := h.num (154 + x) (by omega)
    rw [stNum_who] at c0
    have hv : s.m.getD x (-1) = s.who x := rfl
    rw [hv] at c0
    clear hv
    have H := Lib.hid h
    have OK := Lib.hid ok
    clear h ok
    go_enter Try.func31, Try.ntmps31
    go_wp2_with (go_at_call 41; refine (sbelow_any _ _ _).mono ?_; rintro r w' ⟨rfl, rfl⟩)
    go_ret
    exact ⟨rfl, rfl⟩

/-- An instruction, if there is one, as a value. -/
def insR (o : Option Ins) : Value := .tuple #[insV (o.getD ins0), .bool o.isSome]
/-- An event, if there is one, as a value. -/
def evR (o : Option Ev) : Value := .tuple #[evV (o.getD ev0), .bool o.isSome]

theorem thrNum_ins (c : List Ins) (x : Thr) (j : Nat) (hj : j < 8) (d : Nat) (hd : d < 4) : thrNum c x (j * 4 + d) = insNum (c.getD j ins0) d := by
  unfold thrNum
  rw [if_pos (by omega), show (j * 4 + d) / 4 = j by omega, show (j * 4 + d) % 4 = d by omega]

theorem thr_fuel (c : List Ins) (x : Thr) : thrNum c x 34 = x.fuel := rfl
theorem thr_at (c : List Ins) (x : Thr) : thrNum c x 33 = x.at_ := rfl
theorem thr_reg (c : List Ins) (x : Thr) (y : Nat) : thrNum c x (35 + y) = x.r.getD y 0 := by
  unfold thrNum
  rw [if_neg (by omega), if_neg (by omega), if_neg (by omega), if_neg (by omega), show 35 + y - 35 = y by omega]
theorem thr_size (c : List Ins) (x : Thr) : thrNum c x 32 = c.length := rfl
theorem St.Ok.len4 {F : Nat} {s : St} (h : s.Ok F) : s.ts.length ≤ 4 := by
  have := h.right
  unfold rightPg at this
  rw [Bool.and_eq_true, decide_eq_true_eq] at this
  have := h.len
  omega
theorem St.Ok.code8 {F : Nat} {s : St} (h : s.Ok F) (k : Nat) (hk : k < s.ts.length) : (s.code k).length ≤ 8 := by
  have hl := h.len
  unfold St.code
  rw [getD_lt _ (by omega)]
  exact (rightPg_code h.right (by omega)).1

theorem _root_.Go.RowKit.Below.drewN {B : Nat} {a w : World} (h : Below B a w) {n : Nat} : Below B a (w.drewN n) := ⟨h.os, h.tape, h.output, h.size, h.block⟩
theorem below_set4 {B g : Nat} {a w : World} (h : Below B a w) (hg : B ≤ g) (v0 v1 v2 v3 : Value) : Below B a ((((w.setCell ⟨g, 0, none⟩ v0).setCell ⟨g, 1, none⟩ v1).setCell ⟨g, 2, none⟩ v2).setCell ⟨g, 3, none⟩ v3) :=
  (((h.setCell (p := ⟨g, 0, none⟩) hg _).setCell (p := ⟨g, 1, none⟩) hg _).setCell (p := ⟨g, 2, none⟩) hg _).setCell (p := ⟨g, 3, none⟩) hg _

theorem insR_none : insR none = .tuple #[.agg #[.int .i64 0, .int .i64 0, .int .i64 0, .int .i64 0], .bool false] := rfl
theorem insR_some (i : Ins) : insR (some i) = .tuple #[.agg #[.int .i64 i.kind, .int .i64 i.r, .int .i64 i.x, .int .i64 i.n], .bool true] := rfl

set_option maxRecDepth 100000 in
set_option maxHeartbeats 1000000 in
theorem instr_any {F : Nat} {s : St} {b : Nat} {w : World} (h : StAt w b s) (ok : s.Ok F) (t : Int) :
    Calls Try.prog 42 #[.pointer (some ⟨b, 0, none⟩), .int .i64 t] w fun r w' => r = .returned (insR (s.ins t)) ∧ Below w.heap.size w w' := by
  have hbl := h.lt
  have H := Lib.hid h
  have OK := Lib.hid ok
  clear h ok
  cases hb : belowB t s.ts.length
  · have hn : s.ins t = none := by
      unfold St.ins
      rw [if_neg (fun e => by have := e.1; unfold St.has at this; simp [belowB] at hb; omega)]
    rw [hn, insR_none]
    clear hn
    go_enter Try.func42, Try.ntmps42
    go_wp2_with (first
      | (go_at_call 41; refine (sbelow_any _ _ _).mono ?_; rintro r w' ⟨rfl, rfl⟩)
      | (go_at_call 25; refine (threads_any (H.out.later (below_alloc1 _ _))).mono ?_; rintro r w' ⟨rfl, rfl⟩))
    exact bodyPost_ret (v := .tuple #[.agg #[.int .i64 0, .int .i64 0, .int .i64 0, .int .i64 0], .bool false]) (by simp [results, Try.results42, go_sem]) rfl ⟨rfl, below_alloc1 w _⟩
  · obtain ⟨k, rfl⟩ : ∃ k : Nat, t = k := ⟨t.toNat, by simp [belowB] at hb; omega⟩
    have hk : k < s.ts.length := by simp [belowB] at hb; omega
    have h4 := OK.out.len4
    have hpl := OK.out.place k hk
    have h8 := OK.out.code8 k hk
    have cf := H.out.num (2 + k * 37 + 34) (by omega)
    rw [stNum_thr _ _ _ (by omega) (by omega), thr_fuel] at cf
    have ca := H.out.num (2 + k * 37 + 33) (by omega)
    rw [stNum_thr _ _ _ (by omega) (by omega), thr_at] at ca
    have cs := H.out.num (2 + k * 37 + 32) (by omega)
    rw [stNum_thr _ _ _ (by omega) (by omega), thr_size] at cs
    by_cases hf : (s.th k).fuel = 0
    · have hn : s.ins k = none := by
        unfold St.ins
        rw [if_neg (fun e => by have := e.2; simp at this; omega)]
      rw [hn, insR_none]
      rw [hf] at cf
      clear hn hf
      have hd : decide (((0 : Nat) : Int) = 0) = true := rfl
      go_enter Try.func42, Try.ntmps42
      go_wp2_with (first
        | (go_at_call 41; refine (sbelow_any _ _ _).mono ?_; rintro r w' ⟨rfl, rfl⟩)
        | (go_at_call 25; refine (threads_any (H.out.later (below_alloc1 _ _))).mono ?_; rintro r w' ⟨rfl, rfl⟩))
      go_quiet (fail)
      go_wp2
      exact bodyPost_ret (v := .tuple #[.agg #[.int .i64 0, .int .i64 0, .int .i64 0, .int .i64 0], .bool false]) (by simp [results, Try.results42, go_sem]) rfl ⟨rfl, below_set4 (below_alloc1 w _).drewN (Nat.le_refl _) _ _ _ _⟩
    · by_cases ha : (s.th k).at_ = (s.code k).length
      · have hn : s.ins k = none := by
          unfold St.ins
          split
          · exact List.getElem?_eq_none (by simp [ha])
          · rfl
        rw [hn, insR_none]
        have hf' : ((((s.th k).fuel : Nat) : Int) == 0) = false := by simp; omega
        have ha' : ((((s.th k).at_ : Nat) : Int) == (s.code k).length) = true := by simp [ha]
        clear hn hf ha
        generalize (s.th k).fuel = f at *
        generalize (s.th k).at_ = at_ at *
        generalize (s.code k).length = n at *
        go_enter Try.func42, Try.ntmps42
        go_wp2_with (first
          | (go_at_call 41; refine (sbelow_any _ _ _).mono ?_; rintro r w' ⟨rfl, rfl⟩)
          | (go_at_call 25; refine (threads_any (H.out.later (below_alloc1 _ _))).mono ?_; rintro r w' ⟨rfl, rfl⟩))
        go_quiet (fail)
        go_wp2
        exact bodyPost_ret (v := .tuple #[.agg #[.int .i64 0, .int .i64 0, .int .i64 0, .int .i64 0], .bool false]) (by simp [results, Try.results42, go_sem]) rfl ⟨rfl, below_set4 (below_alloc1 w _).drewN (Nat.le_refl _) _ _ _ _⟩
      · have hlt : (s.th k).at_ < (s.code k).length := by omega
        have hn : s.ins k = some (s.code k)[(s.th k).at_] := by
          unfold St.ins
          rw [if_pos ⟨⟨by omega, by omega⟩, by simpa using hf⟩]
          simp only [Int.toNat_natCast]
          exact List.getElem?_eq_getElem hlt
        rw [hn, insR_some]
        have hi : ∀ d, d < 4 → w.cell? ⟨b, 2 + k * 37 + (s.th k).at_ * 4 + d, none⟩ = some (.int .i64 (insNum (s.code k)[(s.th k).at_] d)) := by
          intro d hd
          have := H.out.num (2 + k * 37 + ((s.th k).at_ * 4 + d)) (by omega)
          rw [stNum_thr _ _ _ (by omega) (by omega), thrNum_ins _ _ _ (by omega) _ hd, getD_lt _ hlt] at this
          rw [Nat.add_assoc]
          exact this
        have c0 : w.cell? ⟨b, 2 + k * 37 + (s.th k).at_ * 4, none⟩ = some (.int .i64 (s.code k)[(s.th k).at_].kind) := hi 0 (by omega)
        have c1 : w.cell? ⟨b, 2 + k * 37 + (s.th k).at_ * 4 + 1, none⟩ = some (.int .i64 (s.code k)[(s.th k).at_].r) := hi 1 (by omega)
        have c2 : w.cell? ⟨b, 2 + k * 37 + (s.th k).at_ * 4 + 2, none⟩ = some (.int .i64 (s.code k)[(s.th k).at_].x) := hi 2 (by omega)
        have c3 : w.cell? ⟨b, 2 + k * 37 + (s.th k).at_ * 4 + 3, none⟩ = some (.int .i64 (s.code k)[(s.th k).at_].n) := hi 3 (by omega)
        generalize (s.code k)[(s.th k).at_] = i at *
        have hf' : ((((s.th k).fuel : Nat) : Int) == 0) = false := by simp; omega
        have ha' : ((((s.th k).at_ : Nat) : Int) == (s.code k).length) = false := by simp; omega
        have ha8 : (s.th k).at_ < 8 := by omega
        clear hn hf ha hi
        generalize (s.th k).fuel = f at *
        generalize (s.th k).at_ = at_ at *
        generalize (s.code k).length = n at *
        go_enter Try.func42, Try.ntmps42
        go_wp2_with (first
          | (go_at_call 41; refine (sbelow_any _ _ _).mono ?_; rintro r w' ⟨rfl, rfl⟩)
          | (go_at_call 25; refine (threads_any (H.out.later (below_alloc1 _ _))).mono ?_; rintro r w' ⟨rfl, rfl⟩))
        go_quiet (fail)
        go_wp2
        go_region
        go_wp2
        exact bodyPost_ret (v := .tuple #[.agg #[.int .i64 i.kind, .int .i64 i.r, .int .i64 i.x, .int .i64 i.n], .bool true]) (by simp [results, Try.results42, go_sem]) rfl ⟨rfl, below_set4 (below_alloc1 w _).drewN.drew (Nat.le_refl _) _ _ _ _⟩

theorem evV_mk (t k o : Int) (f : Bool) : evV ⟨t, k, o, f⟩ = .agg #[.int .i64 t, .int .i64 k, .int .i64 o, .bool f] := rfl

set_option maxRecDepth 100000 in
set_option maxHeartbeats 2000000 in
theorem event_any {F : Nat} {s : St} {b : Nat} {w : World} (h : StAt w b s) (ok : s.Ok F) (t : Nat) (ht : t < s.ts.length) (i : Ins) (h6 : i.kind = 6 → 0 ≤ i.x ∧ i.x < 2) (h8 : i.kind = 8 → 0 ≤ i.r ∧ i.r < 2) :
    Calls Try.prog 43 #[.pointer (some ⟨b, 0, none⟩), .int .i64 t, insV i] w fun r w' => r = .returned (evV (s.ev t i)) ∧ Below w.heap.size w w' := by
  have hbl := h.lt
  have h4 := ok.len4
  have H := Lib.hid h
  clear h ok
  obtain ⟨kd, r, x, n⟩ := i
  unfold insV
  dsimp only at *
  by_cases e1 : kd = 1
  · subst e1
    have hev : s.ev t ⟨1, r, x, n⟩ = ⟨t, 2, x, false⟩ := rfl
    rw [hev, evV_mk]
    clear hev h6 h8
    go_enter Try.func43, Try.ntmps43
    go_wp2
    exact bodyPost_ret (v := .agg #[.int .i64 t, .int .i64 2, .int .i64 x, .bool false]) (by simp [results, Try.results43, go_sem]) rfl ⟨rfl, below_alloc2 w _ _⟩
  by_cases e2 : kd = 2
  · subst e2
    have hev : s.ev t ⟨2, r, x, n⟩ = ⟨t, 3, x, false⟩ := rfl
    rw [hev, evV_mk]
    clear hev h6 h8
    go_enter Try.func43, Try.ntmps43
    go_wp2
    exact bodyPost_ret (v := .agg #[.int .i64 t, .int .i64 3, .int .i64 x, .bool false]) (by simp [results, Try.results43, go_sem]) rfl ⟨rfl, below_alloc2 w _ _⟩
  by_cases e5 : kd = 5
  · subst e5
    have hev : s.ev t ⟨5, r, x, n⟩ = ⟨t, 4, x, false⟩ := rfl
    rw [hev, evV_mk]
    clear hev h6 h8
    go_enter Try.func43, Try.ntmps43
    go_wp2
    exact bodyPost_ret (v := .agg #[.int .i64 t, .int .i64 4, .int .i64 x, .bool false]) (by simp [results, Try.results43, go_sem]) rfl ⟨rfl, below_alloc2 w _ _⟩
  by_cases e6 : kd = 6
  · subst e6
    obtain ⟨hx0, hx2⟩ := h6 rfl
    obtain ⟨y, rfl⟩ : ∃ y : Nat, x = y := ⟨x.toNat, by omega⟩
    have hy : y < 2 := by omega
    have c0 := H.out.num (154 + y) (by omega)
    rw [stNum_who] at c0
    have hv : s.m.getD y (-1) = s.who y := rfl
    rw [hv] at c0
    clear hv h6 h8 hx0 hx2
    by_cases hw : s.who y = t
    · have hev : s.ev t ⟨6, r, y, n⟩ = ⟨t, 5, y, false⟩ := by simp [St.ev, hw]
      rw [hev, evV_mk]
      rw [hw] at c0
      clear hev hw
      go_enter Try.func43, Try.ntmps43
      go_wp2
      go_quiet (fail)
      go_wp2
      exact bodyPost_ret (v := .agg #[.int .i64 t, .int .i64 5, .int .i64 y, .bool false]) (by simp [results, Try.results43, go_sem]) rfl ⟨rfl, below_set4 (below_alloc2 w _ _).drewN (by omega) _ _ _ _⟩
    · have hev : s.ev t ⟨6, r, y, n⟩ = ⟨t, 1, 0, true⟩ := by simp [St.ev, hw]
      rw [hev, evV_mk]
      have hq : (s.who y == (t : Int)) = false := by simpa using hw
      clear hev hw
      go_enter Try.func43, Try.ntmps43
      go_wp2
      go_quiet (fail)
      go_wp2
      exact bodyPost_ret (v := .agg #[.int .i64 t, .int .i64 1, .int .i64 0, .bool true]) (by simp [results, Try.results43, go_sem]) rfl ⟨rfl, below_set4 (below_alloc2 w _ _).drewN (by omega) _ _ _ _⟩
  by_cases e8 : kd = 8
  · subst e8
    obtain ⟨hx0, hx2⟩ := h8 rfl
    obtain ⟨y, rfl⟩ : ∃ y : Nat, r = y := ⟨r.toNat, by omega⟩
    have hy : y < 2 := by omega
    have c0 := H.out.num (2 + t * 37 + (35 + y)) (by omega)
    rw [stNum_thr _ _ _ (by omega) (by omega), thr_reg, ← Nat.add_assoc] at c0
    have hev : s.ev t ⟨8, y, x, n⟩ = ⟨t, 1, 0, (s.th t).r.getD y 0 == 0⟩ := rfl
    rw [hev, evV_mk]
    generalize (s.th t).r.getD y 0 = g at *
    clear hev h6 h8 hx0 hx2
    go_enter Try.func43, Try.ntmps43
    go_wp2
    go_region
    go_wp2
    exact bodyPost_ret (v := .agg #[.int .i64 t, .int .i64 1, .int .i64 0, .bool (g == 0)]) (by simp [results, Try.results43, go_sem]) rfl ⟨rfl, (below_alloc2 w _ _).drew⟩
  · have hev : s.ev t ⟨kd, r, x, n⟩ = ⟨t, 1, 0, false⟩ := by simp [St.ev, e1, e2, e5, e6, e8]
    rw [hev, evV_mk]
    have f1 : (kd == 1) = false := by simpa using e1
    have f2 : (kd == 2) = false := by simpa using e2
    have f5 : (kd == 5) = false := by simpa using e5
    have f6 : (kd == 6) = false := by simpa using e6
    have f8 : (kd == 8) = false := by simpa using e8
    clear hev h6 h8 e1 e2 e5 e6 e8
    go_enter Try.func43, Try.ntmps43
    go_wp2
    exact bodyPost_ret (v := .agg #[.int .i64 t, .int .i64 1, .int .i64 0, .bool false]) (by simp [results, Try.results43, go_sem]) rfl ⟨rfl, below_alloc2 w _ _⟩


end Go.Proofs.Ytfhndbibabbnlaa
