import Derived.Deep.MidRow
import Derived.Lib.SliceRun
import Derived.Deep.WholeRow
import Derived.Test.YtnldkmcijmbhcaaGreatPk01

/- The contracts of slices.IndexFunc and slices.DeleteFunc of numbers, with a method value and with a closure that changes nothing. -/
namespace Go.Proofs.YtnldkmcijmbhcaaGreat
open Go.RowKit

theorem OwnN.block {w : World} {B : Nat} {v : Value} {l : List Int} (h : OwnN w B v l) (hn : l ≠ []) : ∃ g cap, v = .slice (some ⟨g, 0, none⟩) l.length cap ∧ B ≤ g ∧ g < w.heap.size := by
  obtain ⟨h1, ⟨_, h3⟩ | ⟨g, cap, cur, h2, h3, h4, _⟩⟩ := h
  · exact absurd (List.length_eq_zero_iff.1 h3) hn
  · exact ⟨g, cap, h2, h3, (Array.getElem?_eq_some_iff.1 h4).1⟩
theorem ownN_len {w : World} {B n cap : Nat} {a : Option Addr} {l : List Int} (h : OwnN w B (.slice a n cap) l) : l.length = n := by
  obtain ⟨h1, ⟨h2, h3⟩ | ⟨g, cap, cur, h2, _⟩⟩ := h
  · injection h2 with _ h2; omega
  · injection h2 with _ h2; omega
theorem ownN_cap {w : World} {B g n cap : Nat} {l : List Int} (h : OwnN w B (.slice (some ⟨g, 0, none⟩) n cap) l) : n ≤ cap := by
  have hl := ownN_len h
  obtain ⟨h1, ⟨h2, _⟩ | ⟨g', cap', cur, h2, h3, h4, h5, _⟩⟩ := h
  · cases h2
  · injection h2 with e1 e2 e3
    omega
theorem ownN_set {w : World} {B g n cap : Nat} {l : List Int} (h : OwnN w B (.slice (some ⟨g, 0, none⟩) n cap) l) (k : Nat) (x : Int) : OwnN (w.setCell ⟨g, k, none⟩ (.int .i64 x)) B (.slice (some ⟨g, 0, none⟩) n cap) (l.set k x) := by
  have hl := ownN_len h
  have h0 : w.ownsRow B 3 1 (.slice (some ⟨g, 0, none⟩) n cap) n (l.map (Value.int .i64)) := by rw [← hl]; rw [← hl] at h; exact h
  have h1 := (h0.stored k (.int .i64 x)).1
  unfold OwnN
  rw [List.length_set, hl, List.map_set]
  exact h1
theorem ownN_sets {B g n cap : Nat} (xs : List Int) : ∀ {w : World} {l : List Int} (k : Nat), OwnN w B (.slice (some ⟨g, 0, none⟩) n cap) l → ∃ l', OwnN (w.setCells g k (xs.map (Value.int .i64))) B (.slice (some ⟨g, 0, none⟩) n cap) l' ∧ l'.take k = l.take k := by
  induction xs with
  | nil => intro w l k h; exact ⟨l, h, rfl⟩
  | cons x xs ih =>
    intro w l k h
    obtain ⟨l', h1, h2⟩ := ih (k + 1) (ownN_set h k x)
    refine ⟨l', h1, ?_⟩
    have := congrArg (List.take k) h2
    rw [List.take_take, List.take_take, Nat.min_eq_left (by omega), List.take_set_of_le (by omega)] at this
    exact this
theorem ownN_take {w : World} {B g n cap : Nat} {l : List Int} (h : OwnN w B (.slice (some ⟨g, 0, none⟩) n cap) l) {k : Nat} (hk : k ≤ n) : OwnN w B (.slice (some ⟨g, 0, none⟩) k cap) (l.take k) := by
  have hl := ownN_len h
  obtain ⟨h1, ⟨h2, _⟩ | ⟨g', cap', cur, h2, h3, h4, h5, h6, h7, h8⟩⟩ := h
  · cases h2
  · injection h2 with e1 e2 e3
    injection e1 with e1
    injection e1 with e1
    subst e1 e3
    have hlk : (l.take k).length = k := by rw [List.length_take]; omega
    refine ⟨by simp, .inr ⟨g, cap, cur, by rw [hlk], h3, h4, by omega, h6, h7, ?_⟩⟩
    have := congrArg (List.take k) h8
    rw [List.take_take, Nat.mul_one, Nat.min_eq_left (by omega), ← List.map_take] at this
    rw [Nat.mul_one, hlk]
    exact this
theorem below_sets {B g : Nat} (hg : B ≤ g) (vs : List Value) : ∀ {a w : World} (k : Nat), Below B a w → Below B a (w.setCells g k vs) := by
  induction vs with
  | nil => intro a w k h; exact h
  | cons v vs ih => intro a w k h; exact ih (k + 1) (h.setCell (p := ⟨g, k, none⟩) hg v)
theorem ownN_cell {w : World} {B g n cap : Nat} {l : List Int} (h : OwnN w B (.slice (some ⟨g, 0, none⟩) n cap) l) {k : Nat} (hk : k < n) : w.cell? ⟨g, k, none⟩ = some (.int .i64 (l.getD k 0)) ∧ w.frozen? ⟨g, k, none⟩ = false := by
  have hl := ownN_len h
  obtain ⟨h1, ⟨h2, _⟩ | ⟨g', cap', cur, h2, h3, h4, h5, h6, h7, h8⟩⟩ := h
  · cases h2
  · injection h2 with e1 e2 e3
    injection e1 with e1
    injection e1 with e1
    subst e1
    have hj : (l.map (Value.int .i64))[k]? = some (.int .i64 l[k]) := by simp [hl, hk]
    rw [← h8, List.getElem?_take_of_lt (by omega)] at hj
    rw [getD_lt _ (by omega)]
    refine ⟨?_, by simp [World.frozen?, h4]⟩
    simp [World.cell?, h4]
    simpa using hj
theorem zero_int : ∀ w, (zeroValue 3).run Tryz.prog w = .ok (.int .i64 0) w := (zero_of_info (P := Tryz.prog) (t := 3) (v := .int .i64 0) (n := 1) (by kernel_rfl)).1
theorem sets_repl (w : World) (g k n : Nat) : w.setCells g k (List.replicate n (.int .i64 0)) = w.setCells g k ((List.replicate n (0 : Int)).map (Value.int .i64)) := by rw [List.map_replicate]

/-- Where the first one is of which it is true. -/
def IdxP (P : Int → Bool) (l : List Int) (z : Int) : Prop := (z = -1 ∧ ∀ x ∈ l, P x = false) ∨ ∃ k, ∃ h : k < l.length, z = (k : Int) ∧ P l[k] = true ∧ ∀ j (h : j < l.length), j < k → P l[j] = false
theorem filter_snoc (P : Int → Bool) (l : List Int) {k : Nat} (h : k < l.length) : ((l.take (k + 1)).filter fun x => !P x) = ((l.take k).filter fun x => !P x) ++ if P l[k] = true then [] else [l[k]] := by
  rw [List.take_succ_eq_append_getElem h, List.filter_append]
  congr 1
  cases hp : P l[k] <;> simp [hp]
/-- What is kept so far stands ahead, what is to come as it was. -/
def DelI (P : Int → Bool) (l cur : List Int) (m k : Nat) : Prop := cur.take m = ((l.take k).filter fun x => !P x) ∧ ∀ i, k ≤ i → cur.getD i 0 = l.getD i 0
theorem DelI.skip {P : Int → Bool} {l cur : List Int} {m k : Nat} (h : DelI P l cur m k) (hk : k < l.length) (hp : P l[k] = true) : DelI P l cur m (k + 1) := by
  refine ⟨?_, fun i hi => h.2 i (by omega)⟩
  rw [filter_snoc P l hk, if_pos hp, List.append_nil]
  exact h.1
theorem DelI.keep {P : Int → Bool} {l cur : List Int} {m k : Nat} (h : DelI P l cur m k) (hk : k < l.length) (hc : cur.length = l.length) (hm : m < k) (hp : P l[k] = false) : DelI P l (cur.set m l[k]) (m + 1) (k + 1) := by
  refine ⟨?_, fun i hi => ?_⟩
  · rw [filter_snoc P l hk, if_neg (by rw [hp]; exact Bool.false_ne_true), ← h.1, List.take_succ_eq_append_getElem (by rw [List.length_set]; omega), List.take_set_of_le (Nat.le_refl _), List.getElem_set_self]
  · rw [getD_set _ _ _ _ _ (by omega), if_neg (by omega)]
    exact h.2 i (by omega)

set_option maxRecDepth 100000 in
set_option maxHeartbeats 2000000 in
theorem indexHas (z : Nat) (P : Int → Bool) (a : Option Addr) (cap : Nat) (l : List Int) (w : World) (hl : NumsAt w a l)
    (hf : ∀ t, Calls Tryz.prog 62 #[.int .u8 z, .int .i64 t] w fun r w' => r = .returned (.bool (P t)) ∧ w = w') :
    Calls Tryz.prog 98 #[.slice a l.length cap, .func (.func 62) #[.int .u8 z] #[]] w fun r w' => (∃ z : Int, r = .returned (.int .i64 z) ∧ IdxP P l z) ∧ w = w' := by
  have hm := hl.1
  unfold maxLen at hm
  have HL := Lib.hid hl
  have HF := Lib.hid hf
  clear hl hf
  go_enter Tryz.func98, Tryz.ntmps98
  go_wp2
  go_loopw [8] (fun i wr => ∃ k : Nat, k ≤ l.length ∧ i = .int .i64 k ∧ Hid (∀ j (h : j < l.length), j < k → P l[j] = false) ∧ wr = w) (fun i _ => l.length - (intOf i).toNat)
  case atStart => exact ⟨0, Nat.zero_le _, rfl, (fun j _ h => absurd h (by omega)), rfl⟩
  case round =>
    obtain ⟨k, hk, rfl, HA, rfl⟩ := hrel
    by_cases hlt : k < l.length
    · obtain ⟨b, o, rfl, hc⟩ := HL.out.2 (by intro e; simp [e] at hlt)
      have c0 := hc k hlt
      have h1 : Hid (P l[k] = true → IdxP P l (k : Int)) := fun h => .inr ⟨k, hlt, rfl, h, fun j hj hjk => HA.out j hj hjk⟩
      have h2 : Hid (P l[k] = false → ∀ j (h : j < l.length), j < k + 1 → P l[j] = false) := fun h j hj hjk => by
        by_cases e' : j = k
        · subst e'; exact h
        · exact HA.out j hj (by omega)
      clear hc
      generalize l[k] = x at *
      go_wp2_with fail
      refine (HF.out x).mono ?_
      rintro r w2 ⟨rfl, rfl⟩
      cases hr : P x
      · have HN := Lib.hid (h2.out hr)
        clear h1 h2
        go_wp2
        go_roundw
        case rel => exact ⟨k + 1, by omega, by go_num, HN, by trivial⟩
        case measure => simp [intOf]; omega
      · have HN := Lib.hid (h1.out hr)
        clear h1 h2
        go_wp2
        go_ret
        exact ⟨⟨k, rfl, HN.out⟩, rfl⟩
    · have HN : Hid (IdxP P l (-1)) := .inl ⟨rfl, fun x hx => by
        obtain ⟨j, hj, rfl⟩ := List.mem_iff_getElem.1 hx
        exact HA.out j hj (by omega)⟩
      obtain rfl : k = l.length := by omega
      go_wp2
      go_ret
      exact ⟨⟨-1, rfl, HN.out⟩, rfl⟩

set_option maxRecDepth 100000 in
set_option maxHeartbeats 4000000 in
theorem deleteHas (z : Nat) (P : Int → Bool) (B : Nat) (a : Option Addr) (cap : Nat) (l : List Int) (w : World) (hl : OwnN w B (.slice a l.length cap) l) (hm : l.length ≤ 1000) (_hB : B ≤ w.heap.size)
    (hf : ∀ W t, Below B w W → Calls Tryz.prog 62 #[.int .u8 z, .int .i64 t] W fun r w' => r = .returned (.bool (P t)) ∧ W = w') :
    Calls Tryz.prog 61 #[.slice a l.length cap, .func (.func 62) #[.int .u8 z] #[]] w fun r w' => ∃ v, r = .returned v ∧ OwnN w' B v (l.filter fun x => !P x) ∧ Below B w w' := by
  obtain ⟨a', cap', e, hat, _⟩ := hl.form (by omega)
  injection e with e1 _ e2
  subst e1 e2
  have HI := Lib.hid (indexHas z P a cap l w hat (fun t => hf w t (Below.refl _ _)))
  have HL := Lib.hid hl
  have HF := Lib.hid hf
  clear hl hf hat
  go_enter Tryz.func61, Tryz.ntmps61
  go_wp2_with fail
  refine HI.out.mono ?_
  rintro r w1 ⟨⟨z, rfl, hz⟩, rfl⟩
  clear HI
  rcases hz with ⟨rfl, hall⟩ | ⟨k0, hk0, rfl, hpk, hbef⟩
  · have HE : Hid ((l.filter fun x => !P x) = l) := by
      show _ = _
      rw [List.filter_eq_self]
      intro x hx
      rw [hall x hx]; rfl
    clear hall
    go_wp2
    go_ret
    exact ⟨_, rfl, by rw [HE.out]; exact HL.out, Below.refl _ _⟩
  · obtain ⟨g, cap', e, hBg, hgw⟩ := HL.out.block (by intro e; simp [e] at hk0)
    injection e with e1 _ e2
    subst e1 e2
    have hq : ((k0 : Int) == -1) = false := by simp
    have HD : Hid (DelI P l l k0 (k0 + 1)) := by
      refine ⟨?_, fun _ _ => rfl⟩
      rw [filter_snoc P l hk0, if_pos hpk, List.append_nil]
      symm
      rw [List.filter_eq_self]
      intro x hx
      obtain ⟨j, hj, rfl⟩ := List.mem_iff_getElem.1 hx
      rw [List.length_take] at hj
      rw [List.getElem_take, hbef j (by omega) (by omega)]; rfl
    have hk1 : k0 + 1 ≤ l.length := hk0
    have hlc : l.length ≤ cap := ownN_cap HL.out
    clear hpk hbef
    go_wp2
    go_loopw [5, 6] (fun i j wr => ∃ (m k : Nat) (cur : List Int), m < k ∧ k ≤ l.length ∧ i = .int .i64 m ∧ j = .int .i64 k ∧ Hid (DelI P l cur m k) ∧ Hid (OwnN wr B (.slice (some ⟨g, 0, none⟩) l.length cap) cur) ∧ Below B w wr) (fun _ j _ => l.length - (intOf j).toNat)
    case atStart => exact ⟨k0, k0 + 1, l, by omega, hk1, rfl, by go_num, HD, HL, Below.refl _ _⟩
    case round =>
      obtain ⟨m, k, cur, hmk, hk, rfl, rfl, HX, HO, hbw⟩ := hrel
      by_cases hlt : k < l.length
      · obtain ⟨c0, f0⟩ := ownN_cell HO.out hlt
        obtain ⟨c1, f1⟩ := ownN_cell HO.out (show m < l.length by omega)
        have e0 : cur.getD k 0 = l[k] := by rw [HX.out.2 k (Nat.le_refl _), getD_lt _ hlt]
        have HCL : Hid (cur.length = l.length) := ownN_len HO.out
        rw [e0] at c0
        have HS : Hid (P l[k] = true → DelI P l cur m (k + 1)) := fun h => HX.out.skip hlt h
        have HT : Hid (P l[k] = false → DelI P l (cur.set m l[k]) (m + 1) (k + 1)) := fun h => HX.out.keep hlt HCL.out hmk h
        clear e0 HX HCL
        generalize l[k] = x at *
        generalize cur.getD m 0 = y at *
        go_wp2_with fail
        refine (HF.out _ x hbw).mono ?_
        rintro r w2 ⟨rfl, rfl⟩
        cases hr : P x
        · have HN := Lib.hid (HT.out hr)
          have HO2 := Lib.hid (ownN_set HO.out m x)
          have hb2 := hbw.setCell (p := ⟨g, m, none⟩) hBg (.int .i64 x)
          clear HS HT
          go_wp2
          go_roundw
          case rel => exact ⟨m + 1, k + 1, _, by omega, by omega, by go_num, by go_num, HN, HO2, hb2⟩
          case measure => simp [intOf]; omega
        · have HN := Lib.hid (HS.out hr)
          clear HS HT
          go_wp2
          go_roundw
          case rel => exact ⟨m, k + 1, cur, by omega, by omega, rfl, by go_num, HN, HO, hbw⟩
          case measure => simp [intOf]; omega
      · obtain rfl : k = l.length := by omega
        have hcl : ∀ W, W = wr → ∀ ty, (Builtin.clear_ #[76] ty #[.slice (some ⟨g, m, none⟩) (l.length - m) (cap - m)]).run Tryz.prog W = .ok (.tuple #[]) (W.setCells g m (List.replicate (l.length - m) (.int .i64 0))) := by
          rintro W rfl ty
          exact Lib.run_clear_slice W _ _ ty _ Tryz.underlying76 zero_int rfl rfl g m _ _ (by omega) (fun j hj => by rw [(ownN_cell HO.out (show m + j < l.length by omega)).1]; rfl) (fun j hj => (ownN_cell HO.out (show m + j < l.length by omega)).2)
        have hcl' := hcl _ rfl
        clear hcl
        have HR : Hid (OwnN (wr.setCells g m (List.replicate (l.length - m) (.int .i64 0))) B (.slice (some ⟨g, 0, none⟩) m cap) (l.filter fun x => !P x) ∧ Below B w (wr.setCells g m (List.replicate (l.length - m) (.int .i64 0)))) := by
          rw [sets_repl]
          obtain ⟨l', h1, h2⟩ := ownN_sets (List.replicate (l.length - m) (0 : Int)) m HO.out
          have h3 := ownN_take h1 (show m ≤ l.length by omega)
          rw [h2, HX.out.1, List.take_length] at h3
          exact ⟨h3, below_sets hBg _ _ hbw⟩
        have hmc : m < cap := by omega
        clear HX HO
        go_wp2
        go_ret
        exact ⟨_, rfl, HR.out.1, HR.out.2⟩

set_option maxRecDepth 100000 in
set_option maxHeartbeats 2000000 in
theorem indexLeft (p : Option Addr) (P : Int → Bool) (a : Option Addr) (cap : Nat) (l : List Int) (w : World) (hl : NumsAt w a l)
    (hf : ∀ t, Calls Tryz.prog 68 #[.int .i64 t, .pointer p] w fun r w' => r = .returned (.bool (P t)) ∧ w = w') :
    Calls Tryz.prog 98 #[.slice a l.length cap, .func (.func 68) #[] #[.pointer p]] w fun r w' => (∃ z : Int, r = .returned (.int .i64 z) ∧ IdxP P l z) ∧ w = w' := by
  have hm := hl.1
  unfold maxLen at hm
  have HL := Lib.hid hl
  have HF := Lib.hid hf
  clear hl hf
  go_enter Tryz.func98, Tryz.ntmps98
  go_wp2
  go_loopw [8] (fun i wr => ∃ k : Nat, k ≤ l.length ∧ i = .int .i64 k ∧ Hid (∀ j (h : j < l.length), j < k → P l[j] = false) ∧ wr = w) (fun i _ => l.length - (intOf i).toNat)
  case atStart => exact ⟨0, Nat.zero_le _, rfl, (fun j _ h => absurd h (by omega)), rfl⟩
  case round =>
    obtain ⟨k, hk, rfl, HA, rfl⟩ := hrel
    by_cases hlt : k < l.length
    · obtain ⟨b, o, rfl, hc⟩ := HL.out.2 (by intro e; simp [e] at hlt)
      have c0 := hc k hlt
      have h1 : Hid (P l[k] = true → IdxP P l (k : Int)) := fun h => .inr ⟨k, hlt, rfl, h, fun j hj hjk => HA.out j hj hjk⟩
      have h2 : Hid (P l[k] = false → ∀ j (h : j < l.length), j < k + 1 → P l[j] = false) := fun h j hj hjk => by
        by_cases e' : j = k
        · subst e'; exact h
        · exact HA.out j hj (by omega)
      clear hc
      generalize l[k] = x at *
      go_wp2_with fail
      refine (HF.out x).mono ?_
      rintro r w2 ⟨rfl, rfl⟩
      cases hr : P x
      · have HN := Lib.hid (h2.out hr)
        clear h1 h2
        go_wp2
        go_roundw
        case rel => exact ⟨k + 1, by omega, by go_num, HN, by trivial⟩
        case measure => simp [intOf]; omega
      · have HN := Lib.hid (h1.out hr)
        clear h1 h2
        go_wp2
        go_ret
        exact ⟨⟨k, rfl, HN.out⟩, rfl⟩
    · have HN : Hid (IdxP P l (-1)) := .inl ⟨rfl, fun x hx => by
        obtain ⟨j, hj, rfl⟩ := List.mem_iff_getElem.1 hx
        exact HA.out j hj (by omega)⟩
      obtain rfl : k = l.length := by omega
      go_wp2
      go_ret
      exact ⟨⟨-1, rfl, HN.out⟩, rfl⟩

set_option maxRecDepth 100000 in
set_option maxHeartbeats 4000000 in
theorem deleteLeft (p : Option Addr) (P : Int → Bool) (B : Nat) (a : Option Addr) (cap : Nat) (l : List Int) (w : World) (hl : OwnN w B (.slice a l.length cap) l) (hm : l.length ≤ 1000) (_hB : B ≤ w.heap.size)
    (hf : ∀ W t, Below B w W → Calls Tryz.prog 68 #[.int .i64 t, .pointer p] W fun r w' => r = .returned (.bool (P t)) ∧ W = w') :
    Calls Tryz.prog 61 #[.slice a l.length cap, .func (.func 68) #[] #[.pointer p]] w fun r w' => ∃ v, r = .returned v ∧ OwnN w' B v (l.filter fun x => !P x) ∧ Below B w w' := by
  obtain ⟨a', cap', e, hat, _⟩ := hl.form (by omega)
  injection e with e1 _ e2
  subst e1 e2
  have HI := Lib.hid (indexLeft p P a cap l w hat (fun t => hf w t (Below.refl _ _)))
  have HL := Lib.hid hl
  have HF := Lib.hid hf
  clear hl hf hat
  go_enter Tryz.func61, Tryz.ntmps61
  go_wp2_with fail
  refine HI.out.mono ?_
  rintro r w1 ⟨⟨z, rfl, hz⟩, rfl⟩
  clear HI
  rcases hz with ⟨rfl, hall⟩ | ⟨k0, hk0, rfl, hpk, hbef⟩
  · have HE : Hid ((l.filter fun x => !P x) = l) := by
      show _ = _
      rw [List.filter_eq_self]
      intro x hx
      rw [hall x hx]; rfl
    clear hall
    go_wp2
    go_ret
    exact ⟨_, rfl, by rw [HE.out]; exact HL.out, Below.refl _ _⟩
  · obtain ⟨g, cap', e, hBg, hgw⟩ := HL.out.block (by intro e; simp [e] at hk0)
    injection e with e1 _ e2
    subst e1 e2
    have hq : ((k0 : Int) == -1) = false := by simp
    have HD : Hid (DelI P l l k0 (k0 + 1)) := by
      refine ⟨?_, fun _ _ => rfl⟩
      rw [filter_snoc P l hk0, if_pos hpk, List.append_nil]
      symm
      rw [List.filter_eq_self]
      intro x hx
      obtain ⟨j, hj, rfl⟩ := List.mem_iff_getElem.1 hx
      rw [List.length_take] at hj
      rw [List.getElem_take, hbef j (by omega) (by omega)]; rfl
    have hk1 : k0 + 1 ≤ l.length := hk0
    have hlc : l.length ≤ cap := ownN_cap HL.out
    clear hpk hbef
    go_wp2
    go_loopw [5, 6] (fun i j wr => ∃ (m k : Nat) (cur : List Int), m < k ∧ k ≤ l.length ∧ i = .int .i64 m ∧ j = .int .i64 k ∧ Hid (DelI P l cur m k) ∧ Hid (OwnN wr B (.slice (some ⟨g, 0, none⟩) l.length cap) cur) ∧ Below B w wr) (fun _ j _ => l.length - (intOf j).toNat)
    case atStart => exact ⟨k0, k0 + 1, l, by omega, hk1, rfl, by go_num, HD, HL, Below.refl _ _⟩
    case round =>
      obtain ⟨m, k, cur, hmk, hk, rfl, rfl, HX, HO, hbw⟩ := hrel
      by_cases hlt : k < l.length
      · obtain ⟨c0, f0⟩ := ownN_cell HO.out hlt
        obtain ⟨c1, f1⟩ := ownN_cell HO.out (show m < l.length by omega)
        have e0 : cur.getD k 0 = l[k] := by rw [HX.out.2 k (Nat.le_refl _), getD_lt _ hlt]
        have HCL : Hid (cur.length = l.length) := ownN_len HO.out
        rw [e0] at c0
        have HS : Hid (P l[k] = true → DelI P l cur m (k + 1)) := fun h => HX.out.skip hlt h
        have HT : Hid (P l[k] = false → DelI P l (cur.set m l[k]) (m + 1) (k + 1)) := fun h => HX.out.keep hlt HCL.out hmk h
        clear e0 HX HCL
        generalize l[k] = x at *
        generalize cur.getD m 0 = y at *
        go_wp2_with fail
        refine (HF.out _ x hbw).mono ?_
        rintro r w2 ⟨rfl, rfl⟩
        cases hr : P x
        · have HN := Lib.hid (HT.out hr)
          have HO2 := Lib.hid (ownN_set HO.out m x)
          have hb2 := hbw.setCell (p := ⟨g, m, none⟩) hBg (.int .i64 x)
          clear HS HT
          go_wp2
          go_roundw
          case rel => exact ⟨m + 1, k + 1, _, by omega, by omega, by go_num, by go_num, HN, HO2, hb2⟩
          case measure => simp [intOf]; omega
        · have HN := Lib.hid (HS.out hr)
          clear HS HT
          go_wp2
          go_roundw
          case rel => exact ⟨m, k + 1, cur, by omega, by omega, rfl, by go_num, HN, HO, hbw⟩
          case measure => simp [intOf]; omega
      · obtain rfl : k = l.length := by omega
        have hcl : ∀ W, W = wr → ∀ ty, (Builtin.clear_ #[76] ty #[.slice (some ⟨g, m, none⟩) (l.length - m) (cap - m)]).run Tryz.prog W = .ok (.tuple #[]) (W.setCells g m (List.replicate (l.length - m) (.int .i64 0))) := by
          rintro W rfl ty
          exact Lib.run_clear_slice W _ _ ty _ Tryz.underlying76 zero_int rfl rfl g m _ _ (by omega) (fun j hj => by rw [(ownN_cell HO.out (show m + j < l.length by omega)).1]; rfl) (fun j hj => (ownN_cell HO.out (show m + j < l.length by omega)).2)
        have hcl' := hcl _ rfl
        clear hcl
        have HR : Hid (OwnN (wr.setCells g m (List.replicate (l.length - m) (.int .i64 0))) B (.slice (some ⟨g, 0, none⟩) m cap) (l.filter fun x => !P x) ∧ Below B w (wr.setCells g m (List.replicate (l.length - m) (.int .i64 0)))) := by
          rw [sets_repl]
          obtain ⟨l', h1, h2⟩ := ownN_sets (List.replicate (l.length - m) (0 : Int)) m HO.out
          have h3 := ownN_take h1 (show m ≤ l.length by omega)
          rw [h2, HX.out.1, List.take_length] at h3
          exact ⟨h3, below_sets hBg _ _ hbw⟩
        have hmc : m < cap := by omega
        clear HX HO
        go_wp2
        go_ret
        exact ⟨_, rfl, HR.out.1, HR.out.2⟩

end Go.Proofs.YtnldkmcijmbhcaaGreat

/- Bytes as sets: what the machine's words do, in Nat. -/
namespace Go.Proofs.YtnldkmcijmbhcaaGreat
open Go

theorem u8_ofInt (n : Nat) (h : n < 256) : (BitVec.ofInt 8 (n : Int)).toNat = n := by
  rw [BitVec.ofInt_natCast, BitVec.toNat_ofNat]
  exact Nat.mod_eq_of_lt h
theorem u8_wrap (n : Nat) (h : n < 256) : IntKind.u8.wrap (n : Int) = n := by
  have := IntWalk.u8_in (n : Int) (by omega)
  exact this
theorem bits_or_u8 (n m : Nat) (hn : n < 256) (hm : m < 256) : bits .or .u8 (n : Int) (m : Int) = ((n ||| m : Nat) : Int) := by
  show IntKind.u8.wrap ((BitVec.ofInt 8 (n : Int) ||| BitVec.ofInt 8 (m : Int)).toNat : Int) = _
  rw [BitVec.toNat_or, u8_ofInt n hn, u8_ofInt m hm]
  exact u8_wrap _ (Nat.or_lt_two_pow (n := 8) hn hm)
theorem bits_and_u8 (n m : Nat) (hn : n < 256) (hm : m < 256) : bits .and .u8 (n : Int) (m : Int) = ((n &&& m : Nat) : Int) := by
  show IntKind.u8.wrap ((BitVec.ofInt 8 (n : Int) &&& BitVec.ofInt 8 (m : Int)).toNat : Int) = _
  rw [BitVec.toNat_and, u8_ofInt n hn, u8_ofInt m hm]
  exact u8_wrap _ (Nat.and_lt_two_pow (n := 8) _ hm)
/-- n without those of m. -/
def wo (n m : Nat) : Nat := n &&& (255 - m)
theorem bits_andNot_u8 (n m : Nat) (hn : n < 256) (hm : m < 256) : bits .andNot .u8 (n : Int) (m : Int) = ((wo n m : Nat) : Int) := by
  show IntKind.u8.wrap ((BitVec.ofInt 8 (n : Int) &&& ~~~(BitVec.ofInt 8 (m : Int))).toNat : Int) = _
  rw [BitVec.toNat_and, BitVec.toNat_not, u8_ofInt n hn, u8_ofInt m hm]
  exact u8_wrap _ (Nat.and_lt_two_pow (n := 8) _ (by omega))
theorem wo_lt (n m : Nat) (hn : n < 256) : wo n m < 256 := Nat.lt_of_le_of_lt (Nat.and_le_left) hn
theorem testBit_lt8 {n i : Nat} (hn : n < 256) (h : n.testBit i = true) : i < 8 := by
  apply Classical.byContradiction
  intro hi
  rw [Nat.testBit_lt_two_pow (Nat.lt_of_lt_of_le hn (show 2 ^ 8 ≤ 2 ^ i from Nat.pow_le_pow_right (by omega) (by omega)))] at h
  cases h
theorem testBit_wo {n m i : Nat} (hn : n < 256) (hm : m < 256) : (wo n m).testBit i = (n.testBit i && !m.testBit i) := by
  unfold wo
  rw [Nat.testBit_and]
  by_cases hi : i < 8
  · have h : (255 - m).testBit i = !m.testBit i := by
      have h1 := Nat.testBit_two_pow_sub_succ (n := 8) (x := m) hm i
      have e : 2 ^ 8 - (m + 1) = 255 - m := by omega
      rw [e] at h1
      rw [h1]
      simp [hi]
    rw [h]
  · cases hb : n.testBit i
    · simp
    · exact absurd (testBit_lt8 hn hb) hi
/-- Two sets with the same members are one. -/
theorem set_ext {n m : Nat} (hn : n < 256) (hm : m < 256) (h : ∀ i, i < 8 → n.testBit i = m.testBit i) : n = m := by
  apply Nat.eq_of_testBit_eq
  intro i
  by_cases hi : i < 8
  · exact h i hi
  · have h1 : n.testBit i = false := by
      rw [Bool.eq_false_iff]
      intro h
      exact hi (testBit_lt8 hn h)
    have h2 : m.testBit i = false := by
      rw [Bool.eq_false_iff]
      intro h
      exact hi (testBit_lt8 hm h)
    rw [h1, h2]

end Go.Proofs.YtnldkmcijmbhcaaGreat

/-
  Plain data and plain functions for layer 3: which events depend on one another, which may be, their bytes. Nothing of the translation.
-/
namespace Go.Proofs.YtnldkmcijmbhcaaGreat

def memE (e : Ev) : Bool := decide (e.kind = 2 ∨ e.kind = 3)
def mutE (e : Ev) : Bool := decide (e.kind = 4 ∨ e.kind = 5)

/-- Do two events depend on one another? -/
def dep (a b : Ev) : Bool :=
  decide (a.thread = b.thread ∨ (a.obj = b.obj ∧ (((a.kind = 2 ∨ a.kind = 3) ∧ (b.kind = 2 ∨ b.kind = 3) ∧ (a.kind = 3 ∨ b.kind = 3)) ∨ ((a.kind = 4 ∨ a.kind = 5) ∧ (b.kind = 4 ∨ b.kind = 5)))))

theorem dep_symm (a b : Ev) : dep a b = dep b a := by
  unfold dep
  rw [decide_eq_decide]
  omega

/-- May an event be? -/
def rightEv (e : Ev) : Bool :=
  decide (0 ≤ e.thread ∧ e.thread ≤ 3 ∧ ((e.kind = 1 ∧ e.obj = 0) ∨ ((e.kind = 2 ∨ e.kind = 3) ∧ 0 ≤ e.obj ∧ e.obj ≤ 3 ∧ e.fail = false) ∨ ((e.kind = 4 ∨ e.kind = 5) ∧ 0 ≤ e.obj ∧ e.obj ≤ 1 ∧ e.fail = false)))

/-- An event's byte. -/
def evB (e : Ev) : Int := e.thread + 4 * e.kind + 32 * e.obj + if e.fail then 128 else 0

/-- The event of a byte, whether it may be or not. -/
def evOf (n : Int) : Ev := ⟨n % 4, n / 4 % 8, n / 32 % 4, decide (128 ≤ n)⟩

theorem rightEv_bd {e : Ev} (h : rightEv e = true) : 0 ≤ e.thread ∧ e.thread ≤ 3 ∧ 1 ≤ e.kind ∧ e.kind ≤ 5 ∧ 0 ≤ e.obj ∧ e.obj ≤ 3 := by
  unfold rightEv at h
  rw [decide_eq_true_eq] at h
  omega

theorem evB_bd {e : Ev} (h : rightEv e = true) : 0 ≤ evB e ∧ evB e < 256 := by
  have := rightEv_bd h
  unfold evB
  split <;> omega

theorem evOf_evB {e : Ev} (h : rightEv e = true) : evOf (evB e) = e := by
  have := rightEv_bd h
  obtain ⟨t, k, o, f⟩ := e
  dsimp only at this
  unfold evOf evB
  cases f
  · simp
    omega
  · simp
    omega

/-- The bytes of events, or none. -/
def printE (l : List Ev) : List Int := if l.all rightEv then l.map evB else []

end Go.Proofs.YtnldkmcijmbhcaaGreat

/-
  Plain data for layer 4: which event happens before which, numbers, clocks. Nothing of the translation.
-/
namespace Go.Proofs.YtnldkmcijmbhcaaGreat

/-- The event at a place. -/
def evI (l : List Ev) (i : Nat) : Ev := l.getD i ev0

/-- What happens before what, up to a place. -/
def hbT (l : List Ev) : Nat → Nat → Nat → Bool
  | 0, _, _ => false
  | n + 1, j, m => if m < n then hbT l n j m else if m = n then decide (j = n) || (List.range n).any (fun i => dep (evI l i) (evI l n) && hbT l n j i) else false
def hb (l : List Ev) (j k : Nat) : Bool := hbT l (k + 1) j k

theorem hbT_eq (l : List Ev) (n j m : Nat) (h : m < n) : hbT l n j m = hb l j m := by
  induction n with
  | zero => omega
  | succ n ih =>
    by_cases h1 : m < n
    · rw [hbT, if_pos h1, ih h1]
    · obtain rfl : m = n := by omega
      rfl

theorem hb_def (l : List Ev) (j k : Nat) : hb l j k = true ↔ (j = k ∨ ∃ i, i < k ∧ dep (evI l i) (evI l k) = true ∧ hb l j i = true) := by
  unfold hb
  rw [hbT, if_neg (by omega), if_pos rfl, Bool.or_eq_true, decide_eq_true_eq, List.any_eq_true]
  constructor
  · rintro (h | ⟨i, hi, h⟩)
    · exact .inl h
    · rw [List.mem_range] at hi
      rw [Bool.and_eq_true, hbT_eq l k j i hi] at h
      exact .inr ⟨i, hi, h⟩
  · rintro (h | ⟨i, hi, h⟩)
    · exact .inl h
    · refine .inr ⟨i, List.mem_range.2 hi, ?_⟩
      rw [Bool.and_eq_true, hbT_eq l k j i hi]
      exact h

theorem hb_self (l : List Ev) (k : Nat) : hb l k k = true := (hb_def l k k).2 (.inl rfl)
theorem hb_dep {l : List Ev} {i k : Nat} (h : i < k) (hd : dep (evI l i) (evI l k) = true) : hb l i k = true := (hb_def l i k).2 (.inr ⟨i, h, hd, hb_self l i⟩)
theorem hb_le {l : List Ev} {k : Nat} : ∀ {j : Nat}, hb l j k = true → j ≤ k := by
  induction k using Nat.strongRecOn with
  | _ k ih =>
    intro j h
    rcases (hb_def l j k).1 h with rfl | ⟨i, hi, _, h⟩
    · exact Nat.le_refl _
    · have := ih i hi h
      omega
theorem hb_trans {l : List Ev} {k : Nat} : ∀ {i j : Nat}, hb l i j = true → hb l j k = true → hb l i k = true := by
  induction k using Nat.strongRecOn with
  | _ k ih =>
    intro i j h1 h2
    rcases (hb_def l j k).1 h2 with rfl | ⟨m, hm, hd, h3⟩
    · exact h1
    · exact (hb_def l i k).2 (.inr ⟨m, hm, hd, ih m hm h1 h3⟩)
theorem dep_thread {a b : Ev} (h : a.thread = b.thread) : dep a b = true := by unfold dep; simp [h]
/-- Of one thread: in order. -/
theorem hb_thread {l : List Ev} {i k : Nat} (h : i ≤ k) (ht : (evI l i).thread = (evI l k).thread) : hb l i k = true := by
  rcases Nat.lt_or_eq_of_le h with h | rfl
  · exact hb_dep h (dep_thread ht)
  · exact hb_self l i

theorem evI_append {l m : List Ev} {i : Nat} (h : i < l.length) : evI (l ++ m) i = evI l i := by
  unfold evI
  simp only [List.getD]
  rw [List.getElem?_append_left h]
theorem evI_get {l : List Ev} {i : Nat} (h : i < l.length) : evI l i = l[i] := getD_lt _ h
theorem evI_mem {l : List Ev} {i : Nat} (h : i < l.length) : evI l i ∈ l := by rw [evI_get h]; exact List.getElem_mem h
/-- A beginning has its own order. -/
theorem hb_append {l m : List Ev} {k : Nat} : ∀ {j : Nat}, k < l.length → (hb (l ++ m) j k = true ↔ hb l j k = true) := by
  induction k using Nat.strongRecOn with
  | _ k ih =>
    intro j hk
    rw [hb_def, hb_def]
    constructor
    · rintro (h | ⟨i, hi, hd, h⟩)
      · exact .inl h
      · refine .inr ⟨i, hi, ?_, (ih i hi (by omega)).1 h⟩
        rw [evI_append hk, evI_append (by omega)] at hd
        exact hd
    · rintro (h | ⟨i, hi, hd, h⟩)
      · exact .inl h
      · refine .inr ⟨i, hi, ?_, (ih i hi (by omega)).2 h⟩
        rw [evI_append hk, evI_append (by omega)]
        exact hd
theorem hb_append_eq {l m : List Ev} {k : Nat} (j : Nat) (hk : k < l.length) : hb (l ++ m) j k = hb l j k := by
  rw [Bool.eq_iff_iff]
  exact hb_append hk

/-- How many of the first n places have q. -/
def cnt (q : Nat → Bool) (n : Nat) : Nat := ((List.range n).filter q).length
theorem cnt_zero (q : Nat → Bool) : cnt q 0 = 0 := rfl
theorem cnt_succ (q : Nat → Bool) (n : Nat) : cnt q (n + 1) = cnt q n + if q n = true then 1 else 0 := by
  unfold cnt
  rw [List.range_succ, List.filter_append, List.length_append]
  congr 1
  cases h : q n <;> simp [h]
theorem cnt_le {q r : Nat → Bool} (n : Nat) (h : ∀ i, i < n → q i = true → r i = true) : cnt q n ≤ cnt r n := by
  induction n with
  | zero => exact Nat.le_refl _
  | succ n ih =>
    have := ih (fun i hi => h i (by omega))
    rw [cnt_succ, cnt_succ]
    by_cases hq : q n = true
    · rw [if_pos hq, if_pos (h n (by omega) hq)]
      omega
    · rw [if_neg hq]
      omega
theorem cnt_congr {q r : Nat → Bool} (n : Nat) (h : ∀ i, i < n → q i = r i) : cnt q n = cnt r n :=
  Nat.le_antisymm (cnt_le n fun i hi hq => by rw [← h i hi]; exact hq) (cnt_le n fun i hi hq => by rw [h i hi]; exact hq)
theorem cnt_mono (q : Nat → Bool) {m n : Nat} (h : m ≤ n) : cnt q m ≤ cnt q n := by
  induction n with
  | zero => obtain rfl : m = 0 := by omega
            exact Nat.le_refl _
  | succ n ih =>
    rcases Nat.lt_or_eq_of_le h with h | rfl
    · have := ih (by omega)
      rw [cnt_succ]
      omega
    · exact Nat.le_refl _
theorem cnt_lt (q : Nat → Bool) {m n : Nat} (h : m < n) (hq : q m = true) : cnt q m < cnt q n := by
  have h1 := cnt_mono q (show m + 1 ≤ n by omega)
  rw [cnt_succ, if_pos hq] at h1
  omega
/-- A set that is a beginning of another one. -/
theorem cnt_begin {q r : Nat → Bool} {n : Nat} (h1 : ∀ i, i < n → q i = true → r i = true) (h2 : ∀ i j, i < j → j < n → r i = true → q j = true → q i = true) {i : Nat} (hi : i < n) (hr : r i = true) : q i = true ↔ cnt r (i + 1) ≤ cnt q n := by
  constructor
  · intro hq
    have e : cnt r (i + 1) = cnt q (i + 1) := cnt_congr _ fun j hj => by
      by_cases hji : j = i
      · rw [hji, hq, hr]
      · rw [Bool.eq_iff_iff]
        exact ⟨fun hrj => h2 j i (by omega) hi hrj hq, fun hqj => h1 j (by omega) hqj⟩
    rw [e]
    exact cnt_mono q (by omega)
  · intro hle
    cases hq : q i
    · exfalso
      have e : cnt q n ≤ cnt r i := by
        have hno : ∀ j, i ≤ j → j < n → q j = false := by
          intro j hj hjn
          cases hqj : q j
          · rfl
          · rcases Nat.lt_or_eq_of_le hj with hj | rfl
            · rw [h2 i j hj hjn hr hqj] at hq; cases hq
            · rw [hqj] at hq; cases hq
        have e1 : ∀ m, i ≤ m → m ≤ n → cnt q m = cnt q i := by
          intro m
          induction m with
          | zero => intro him _; obtain rfl : i = 0 := by omega
                    rfl
          | succ m ih =>
            intro him hmn
            rcases Nat.lt_or_eq_of_le him with him | him
            · rw [cnt_succ, hno m (by omega) (by omega), ih (by omega) (by omega)]
              rfl
            · rw [← him]
        rw [e1 n (by omega) (Nat.le_refl _)]
        exact cnt_le i fun j hj => h1 j (by omega)
      rw [cnt_succ, if_pos hr] at hle
      omega
    · rfl

/-- Which number of its thread's events an event is. -/
def isT (l : List Ev) (t : Int) (i : Nat) : Bool := decide ((evI l i).thread = t)
def num (l : List Ev) (i : Nat) : Nat := cnt (isT l (evI l i).thread) (i + 1)
/-- A clock. -/
def clk (l : List Ev) (k : Nat) (t : Int) : Nat := cnt (fun i => hb l i k && isT l t i) (k + 1)

/-- P4.3. -/
theorem hb_iff_num {l : List Ev} {i k : Nat} : hb l i k = true ↔ num l i ≤ clk l k (evI l i).thread := by
  by_cases hik : i ≤ k
  · have h := cnt_begin (q := fun j => hb l j k && isT l (evI l i).thread j) (r := isT l (evI l i).thread) (n := k + 1)
      (fun j _ hq => by rw [Bool.and_eq_true] at hq; exact hq.2)
      (fun j m hjm hm hr hq => by
        rw [Bool.and_eq_true] at hq ⊢
        refine ⟨hb_trans (hb_thread (by omega) ?_) hq.1, hr⟩
        unfold isT at hr hq
        rw [decide_eq_true_eq] at hr hq
        rw [hr, hq.2])
      (i := i) (by omega) (by simp [isT])
    rw [Bool.and_eq_true] at h
    unfold num clk
    rw [← h]
    simp [isT]
  · constructor
    · intro h; exact absurd (hb_le h) hik
    · intro h
      exfalso
      unfold num clk at h
      have h1 : cnt (fun j => hb l j k && isT l (evI l i).thread j) (k + 1) ≤ cnt (isT l (evI l i).thread) (k + 1) := cnt_le _ fun j _ hq => by rw [Bool.and_eq_true] at hq; exact hq.2
      have h3 := cnt_mono (isT l (evI l i).thread) (show k + 1 ≤ i by omega)
      have h4 : cnt (isT l (evI l i).thread) (i + 1) = cnt (isT l (evI l i).thread) i + 1 := by rw [cnt_succ, if_pos (by simp [isT])]
      omega

/-- An event's clock tells its own number of its thread. -/
theorem clk_own (l : List Ev) (k : Nat) : clk l k (evI l k).thread = num l k := by
  unfold clk num
  refine cnt_congr _ fun i hi => ?_
  rw [Bool.eq_iff_iff, Bool.and_eq_true]
  refine ⟨fun h => h.2, fun h => ⟨hb_thread (by omega) ?_, h⟩⟩
  unfold isT at h
  rw [decide_eq_true_eq] at h
  exact h

theorem clk_le_cnt (l : List Ev) (k : Nat) (t : Int) : clk l k t ≤ cnt (isT l t) (k + 1) := cnt_le _ fun j _ hq => by rw [Bool.and_eq_true] at hq; exact hq.2

theorem clk_mono {l : List Ev} {i k : Nat} (h : hb l i k = true) (t : Int) : clk l i t ≤ clk l k t := by
  have hik := hb_le h
  unfold clk
  refine Nat.le_trans (cnt_le (r := fun j => hb l j k && isT l t j) (i + 1) fun j _ hq => ?_) (cnt_mono _ (by omega))
  rw [Bool.and_eq_true] at hq ⊢
  exact ⟨hb_trans hq.1 h, hq.2⟩

theorem clk_append {l m : List Ev} {k : Nat} (h : k < l.length) (t : Int) : clk (l ++ m) k t = clk l k t := by
  unfold clk
  refine cnt_congr _ fun j hj => ?_
  unfold isT
  rw [evI_append (by omega), hb_append_eq j h]

/-- The greatest of the clocks of those ahead that an event depends on. -/
def top (f : Nat → Nat) (q : Nat → Bool) : Nat → Nat
  | 0 => 0
  | n + 1 => if q n = true then max (top f q n) (f n) else top f q n
theorem top_ge {f : Nat → Nat} {q : Nat → Bool} {n i : Nat} (hi : i < n) (hq : q i = true) : f i ≤ top f q n := by
  induction n with
  | zero => omega
  | succ n ih =>
    unfold top
    by_cases hin : i = n
    · subst hin
      rw [if_pos hq]
      exact Nat.le_max_right _ _
    · have := ih (by omega)
      split <;> omega
theorem top_le {f : Nat → Nat} {q : Nat → Bool} {n b : Nat} (h : ∀ i, i < n → q i = true → f i ≤ b) : top f q n ≤ b := by
  induction n with
  | zero => exact Nat.zero_le _
  | succ n ih =>
    have h1 := ih (fun i hi => h i (by omega))
    unfold top
    split
    · rename_i hq
      have := h n (by omega) hq
      omega
    · exact h1
theorem top_zero_or {f : Nat → Nat} {q : Nat → Bool} {n : Nat} : top f q n = 0 ∨ ∃ i, i < n ∧ q i = true ∧ top f q n = f i := by
  induction n with
  | zero => exact .inl rfl
  | succ n ih =>
    unfold top
    split
    · rename_i hq
      rcases Nat.le_total (top f q n) (f n) with h | h
      · exact .inr ⟨n, by omega, hq, by omega⟩
      · rcases ih with h0 | ⟨i, hi, hqi, e⟩
        · exact .inr ⟨n, by omega, hq, by omega⟩
        · exact .inr ⟨i, by omega, hqi, by omega⟩
    · rcases ih with h0 | ⟨i, hi, hqi, e⟩
      · exact .inl h0
      · exact .inr ⟨i, by omega, hqi, e⟩

/-- A clock, by those ahead. -/
theorem clk_top (l : List Ev) (k : Nat) (t : Int) : clk l k t = top (fun i => clk l i t) (fun i => dep (evI l i) (evI l k)) k + if (evI l k).thread = t then 1 else 0 := by
  by_cases ht : (evI l k).thread = t
  · subst ht
    rw [if_pos rfl, clk_own]
    have e : num l k = cnt (isT l (evI l k).thread) k + 1 := by unfold num; rw [cnt_succ, if_pos (by simp [isT])]
    rw [e]
    congr 1
    apply Nat.le_antisymm
    · -- the last one of the thread ahead
      by_cases h0 : cnt (isT l (evI l k).thread) k = 0
      · omega
      · have hex : ∀ n, n ≤ k → cnt (isT l (evI l k).thread) n ≠ 0 → ∃ i, i < n ∧ isT l (evI l k).thread i = true ∧ cnt (isT l (evI l k).thread) (i + 1) = cnt (isT l (evI l k).thread) n := by
          intro n
          induction n with
          | zero => intro _ h; exact absurd (cnt_zero _) h
          | succ n ih =>
            intro hn h
            cases hq : isT l (evI l k).thread n
            · rw [cnt_succ, hq] at h ⊢
              simp only [Bool.false_eq_true, if_false, Nat.add_zero] at h ⊢
              obtain ⟨i, hi, h1, h2⟩ := ih (by omega) h
              exact ⟨i, by omega, h1, h2⟩
            · exact ⟨n, by omega, hq, rfl⟩
        obtain ⟨i, hi, h1, h2⟩ := hex k (Nat.le_refl _) h0
        rw [← h2]
        have ht : (evI l i).thread = (evI l k).thread := by unfold isT at h1; rw [decide_eq_true_eq] at h1; exact h1
        have h3 := top_ge (f := fun i => clk l i (evI l k).thread) (q := fun i => dep (evI l i) (evI l k)) hi (dep_thread ht)
        have h4 := clk_own l i
        unfold num at h4
        rw [ht] at h4
        omega
    · refine top_le fun i hi _ => Nat.le_trans (clk_le_cnt l i _) (cnt_mono _ (by omega))
  · rw [if_neg ht, Nat.add_zero]
    apply Nat.le_antisymm
    · -- the last one that happens before
      have e : clk l k t = cnt (fun i => hb l i k && isT l t i) k := by
        unfold clk
        rw [cnt_succ, if_neg (by simp [isT, ht])]
        rfl
      rw [e]
      have hex : ∀ n, n ≤ k → cnt (fun i => hb l i k && isT l t i) n ≤ top (fun i => clk l i t) (fun i => dep (evI l i) (evI l k)) k := by
        intro n
        induction n with
        | zero => intro _; exact Nat.zero_le _
        | succ n ih =>
          intro hn
          rw [cnt_succ]
          by_cases hq : (hb l n k && isT l t n) = true
          · rw [if_pos hq]
            rw [Bool.and_eq_true] at hq
            have htn : (evI l n).thread = t := by have := hq.2; unfold isT at this; rw [decide_eq_true_eq] at this; exact this
            rcases (hb_def l n k).1 hq.1 with h | ⟨i, hi, hd, h⟩
            · omega
            · refine Nat.le_trans ?_ (top_ge (f := fun i => clk l i t) (q := fun i => dep (evI l i) (evI l k)) hi hd)
              have h1 := hb_iff_num.1 h
              rw [htn] at h1
              refine Nat.le_trans ?_ h1
              unfold num
              rw [htn, cnt_succ, if_pos hq.2]
              have := cnt_le (q := fun i => hb l i k && isT l t i) (r := isT l t) n fun j _ hq => by rw [Bool.and_eq_true] at hq; exact hq.2
              omega
          · rw [if_neg hq, Nat.add_zero]
            exact ih (by omega)
      exact hex k (Nat.le_refl _)
    · exact top_le fun i hi hd => clk_mono (hb_dep hi hd) t

end Go.Proofs.YtnldkmcijmbhcaaGreat

/-
  Plain data for layer 4: rows that are the same, but for an order that doesn't matter. Nothing of the translation.
-/
namespace Go.Proofs.YtnldkmcijmbhcaaGreat

/-- The events of a row with their clocks, and those of one thread. -/
def prs (l : List Ev) : List (Ev × (Int → Nat)) := (List.range l.length).map fun k => (evI l k, clk l k)
def psi (l : List Ev) (t : Int) : List (Ev × (Int → Nat)) := (prs l).filter fun p => decide (p.1.thread = t)
/-- Each thread has the same events, with the same clocks. -/
def Sim (a b : List Ev) : Prop := ∀ t, psi a t = psi b t

theorem Sim.refl (a : List Ev) : Sim a a := fun _ => rfl
theorem Sim.symm {a b : List Ev} (h : Sim a b) : Sim b a := fun t => (h t).symm
theorem Sim.trans {a b c : List Ev} (h : Sim a b) (k : Sim b c) : Sim a c := fun t => (h t).trans (k t)

/-- The clock of an event behind those that are there. -/
def topL (ps : List (Ev × (Int → Nat))) (t : Int) : Nat := ps.foldr (fun p m => max (p.2 t) m) 0
def nxt (ps : List (Ev × (Int → Nat))) (e : Ev) : Int → Nat := fun t => topL (ps.filter fun p => dep p.1 e) t + if e.thread = t then 1 else 0

theorem topL_le {ps : List (Ev × (Int → Nat))} {t : Int} {b : Nat} : topL ps t ≤ b ↔ ∀ p ∈ ps, p.2 t ≤ b := by
  induction ps with
  | nil => simp [topL]
  | cons p ps ih =>
    have e : topL (p :: ps) t = max (p.2 t) (topL ps t) := rfl
    rw [e, Nat.max_le, ih]
    simp
theorem topL_append (ps qs : List (Ev × (Int → Nat))) (t : Int) : topL (ps ++ qs) t = max (topL ps t) (topL qs t) := by
  induction ps with
  | nil => simp [topL]
  | cons p ps ih =>
    have e : topL (p :: ps ++ qs) t = max (p.2 t) (topL (ps ++ qs) t) := rfl
    have e2 : topL (p :: ps) t = max (p.2 t) (topL ps t) := rfl
    rw [e, ih, e2, Nat.max_assoc]
theorem topL_mem {ps qs : List (Ev × (Int → Nat))} (h : ∀ p, p ∈ ps ↔ p ∈ qs) (t : Int) : topL ps t = topL qs t :=
  Nat.le_antisymm (topL_le.2 fun p hp => topL_le.1 (Nat.le_refl _) p ((h p).1 hp)) (topL_le.2 fun p hp => topL_le.1 (Nat.le_refl _) p ((h p).2 hp))
theorem nxt_mem {ps qs : List (Ev × (Int → Nat))} (h : ∀ p, p ∈ ps ↔ p ∈ qs) (e : Ev) : nxt ps e = nxt qs e := by
  funext t
  unfold nxt
  rw [topL_mem (qs := qs.filter fun p => dep p.1 e) (fun p => by rw [List.mem_filter, List.mem_filter, h])]

theorem top_succ (f : Nat → Nat) (q : Nat → Bool) (n : Nat) : top f q (n + 1) = if q n = true then max (top f q n) (f n) else top f q n := rfl
theorem top_topL (l : List Ev) (e : Ev) (t : Int) (n : Nat) : top (fun i => clk l i t) (fun i => dep (evI l i) e) n = topL (((List.range n).map fun k => (evI l k, clk l k)).filter fun p => dep p.1 e) t := by
  induction n with
  | zero => rfl
  | succ n ih =>
    rw [List.range_succ, List.map_append, List.filter_append, topL_append, ← ih, top_succ]
    by_cases h : dep (evI l n) e = true
    · rw [if_pos h]
      simp [h, topL]
    · rw [if_neg h]
      simp [h, topL]

theorem prs_snoc (l : List Ev) (e : Ev) : prs (l ++ [e]) = prs l ++ [(e, nxt (prs l) e)] := by
  unfold prs
  rw [List.length_append, List.length_singleton, List.range_succ, List.map_append]
  have h1 : (List.range l.length).map (fun k => (evI (l ++ [e]) k, clk (l ++ [e]) k)) = (List.range l.length).map fun k => (evI l k, clk l k) := by
    apply List.map_congr_left
    intro k hk
    rw [List.mem_range] at hk
    have : clk (l ++ [e]) k = clk l k := funext fun t => clk_append hk t
    rw [this, evI_append hk]
  have h2 : evI (l ++ [e]) l.length = e := by unfold evI; simp [List.getD]
  have h3 : clk (l ++ [e]) l.length = nxt ((List.range l.length).map fun k => (evI l k, clk l k)) e := by
    funext t
    rw [clk_top, h2, top_topL (l ++ [e]) e t, h1]
    rfl
  rw [h1, List.map_singleton, h2, h3]

/-- A row goes on. -/
def grow (ps : List (Ev × (Int → Nat))) : List Ev → List (Ev × (Int → Nat))
  | [] => ps
  | e :: y => grow (ps ++ [(e, nxt ps e)]) y
theorem grow_cons (ps : List (Ev × (Int → Nat))) (e : Ev) (y : List Ev) : grow ps (e :: y) = grow (ps ++ [(e, nxt ps e)]) y := rfl
theorem prs_grow (y : List Ev) : ∀ x : List Ev, prs (x ++ y) = grow (prs x) y := by
  induction y with
  | nil => intro x; rw [List.append_nil]; rfl
  | cons e y ih =>
    intro x
    rw [show x ++ e :: y = (x ++ [e]) ++ y by simp, ih, prs_snoc]
    rfl
theorem grow_same (y : List Ev) : ∀ {ps qs : List (Ev × (Int → Nat))}, (∀ p, p ∈ ps ↔ p ∈ qs) → ∃ z, grow ps y = ps ++ z ∧ grow qs y = qs ++ z := by
  induction y with
  | nil => intro ps qs _; exact ⟨[], by simp [grow], by simp [grow]⟩
  | cons e y ih =>
    intro ps qs h
    have hn := nxt_mem h e
    obtain ⟨z, h1, h2⟩ := ih (ps := ps ++ [(e, nxt ps e)]) (qs := qs ++ [(e, nxt ps e)]) (fun p => by rw [List.mem_append, List.mem_append, h])
    refine ⟨(e, nxt ps e) :: z, ?_, ?_⟩
    · unfold grow
      rw [h1]
      simp
    · unfold grow
      rw [← hn, h2]
      simp

/-- Two neighbours that don't depend on one another swapped: the same. -/
theorem sim_swap {x y : List Ev} {e f : Ev} (hd : dep e f = false) : Sim (x ++ e :: f :: y) (x ++ f :: e :: y) := by
  have hd' : dep f e = false := by rw [dep_symm]; exact hd
  have hne : e.thread ≠ f.thread := by
    intro h
    rw [dep_thread h] at hd
    cases hd
  have n1 : nxt (prs x ++ [(e, nxt (prs x) e)]) f = nxt (prs x) f := by
    funext t
    unfold nxt
    rw [List.filter_append]
    simp [hd]
  have n2 : nxt (prs x ++ [(f, nxt (prs x) f)]) e = nxt (prs x) e := by
    funext t
    unfold nxt
    rw [List.filter_append]
    simp [hd']
  have e1 : prs (x ++ e :: f :: y) = grow (prs x ++ [(e, nxt (prs x) e), (f, nxt (prs x) f)]) y := by
    rw [prs_grow, grow_cons, grow_cons, n1, List.append_assoc]
    rfl
  have e2 : prs (x ++ f :: e :: y) = grow (prs x ++ [(f, nxt (prs x) f), (e, nxt (prs x) e)]) y := by
    rw [prs_grow, grow_cons, grow_cons, n2, List.append_assoc]
    rfl
  obtain ⟨z, h1, h2⟩ := grow_same y (ps := prs x ++ [(e, nxt (prs x) e), (f, nxt (prs x) f)]) (qs := prs x ++ [(f, nxt (prs x) f), (e, nxt (prs x) e)]) (fun p => by simp only [List.mem_append, List.mem_cons, List.not_mem_nil, or_false]; constructor <;> (rintro (h | h | h) <;> simp [h]))
  intro t
  unfold psi
  rw [e1, e2, h1, h2]
  simp only [List.filter_append]
  congr 2
  by_cases he : e.thread = t
  · have hf : f.thread ≠ t := by omega
    simp [he, hf]
  · simp [List.filter_cons, he]

end Go.Proofs.YtnldkmcijmbhcaaGreat

/-
  Plain data for layer 4: the document's words of rows that are the same, and the clocks'. Nothing of the translation.
-/
namespace Go.Proofs.YtnldkmcijmbhcaaGreat

theorem filter_range_get (q : Nat → Bool) {n i : Nat} (hi : i < n) (hq : q i = true) : ((List.range n).filter q)[cnt q i]? = some i := by
  induction n with
  | zero => omega
  | succ n ih =>
    rw [List.range_succ, List.filter_append]
    by_cases h : i < n
    · have h1 := ih h
      rw [List.getElem?_append_left (List.getElem?_eq_some_iff.1 h1).1]
      exact h1
    · obtain rfl : i = n := by omega
      have e : cnt q i = ((List.range i).filter q).length := rfl
      rw [e, List.getElem?_append_right (Nat.le_refl _)]
      simp [hq]
theorem filter_range_inv (q : Nat → Bool) {n i j : Nat} (h : ((List.range n).filter q)[j]? = some i) : i < n ∧ q i = true ∧ cnt q i = j := by
  induction n with
  | zero => simp at h
  | succ n ih =>
    rw [List.range_succ, List.filter_append] at h
    by_cases hj : j < ((List.range n).filter q).length
    · rw [List.getElem?_append_left hj] at h
      obtain ⟨h1, h2, h3⟩ := ih h
      exact ⟨by omega, h2, h3⟩
    · rw [List.getElem?_append_right (by omega)] at h
      cases hq : q n
      · simp [hq] at h
      · have e : [n].filter q = [n] := by simp [hq]
        rw [e] at h
        obtain ⟨h1, h2⟩ := List.getElem?_eq_some_iff.1 h
        simp at h1 h2
        subst h2
        refine ⟨by omega, hq, ?_⟩
        unfold cnt
        omega

theorem psi_eq (l : List Ev) (t : Int) : psi l t = ((List.range l.length).filter (isT l t)).map fun k => (evI l k, clk l k) := by
  unfold psi prs
  rw [List.filter_map]
  rfl
theorem psi_len (l : List Ev) (t : Int) : (psi l t).length = cnt (isT l t) l.length := by rw [psi_eq, List.length_map]; rfl
theorem psi_get {l : List Ev} {t : Int} {i : Nat} (hi : i < l.length) (ht : isT l t i = true) : (psi l t)[cnt (isT l t) i]? = some (evI l i, clk l i) := by
  rw [psi_eq, List.getElem?_map, filter_range_get _ hi ht]
  rfl
theorem psi_inv {l : List Ev} {t : Int} {j : Nat} {p : Ev × (Int → Nat)} (h : (psi l t)[j]? = some p) : ∃ i, i < l.length ∧ isT l t i = true ∧ cnt (isT l t) i = j ∧ p = (evI l i, clk l i) := by
  rw [psi_eq, List.getElem?_map] at h
  obtain ⟨i, h1, h2⟩ := Option.map_eq_some_iff.1 h
  obtain ⟨h3, h4, h5⟩ := filter_range_inv _ h1
  exact ⟨i, h3, h4, h5, h2.symm⟩

/-- The place of a thread's event behind m others. -/
def At (l : List Ev) (t : Int) (m i : Nat) : Prop := i < l.length ∧ isT l t i = true ∧ cnt (isT l t) i = m
theorem At.uniq {l : List Ev} {t : Int} {m i j : Nat} (h : At l t m i) (k : At l t m j) : i = j := by
  rcases Nat.lt_trichotomy i j with hl | he | hl
  · have := cnt_lt _ hl h.2.1
    have := h.2.2
    have := k.2.2
    omega
  · exact he
  · have := cnt_lt _ hl k.2.1
    have := h.2.2
    have := k.2.2
    omega
theorem at_ex {l : List Ev} {t : Int} {m : Nat} (h : m < cnt (isT l t) l.length) : ∃ i, At l t m i := by
  rw [← psi_len] at h
  obtain ⟨i, h1, h2, h3, _⟩ := psi_inv (List.getElem?_eq_getElem h)
  exact ⟨i, h1, h2, h3⟩
theorem At.lt {l : List Ev} {t : Int} {m i : Nat} (h : At l t m i) : m < cnt (isT l t) l.length := by
  have := cnt_lt _ h.1 h.2.1
  rw [h.2.2] at this
  exact this
theorem isT_iff {l : List Ev} {t : Int} {i : Nat} : isT l t i = true ↔ (evI l i).thread = t := by unfold isT; rw [decide_eq_true_eq]
theorem num_eq (l : List Ev) (i : Nat) : num l i = cnt (isT l (evI l i).thread) i + 1 := by unfold num; rw [cnt_succ, if_pos (isT_iff.2 rfl)]

theorem clk_iff {l : List Ev} {i m : Nat} {u : Int} (hi : i < l.length) : m < clk l i u ↔ ∃ k, At l u m k ∧ hb l k i = true := by
  constructor
  · intro h
    have h1 := clk_le_cnt l i u
    have h2 := cnt_mono (isT l u) (show i + 1 ≤ l.length by omega)
    obtain ⟨k, hk⟩ := at_ex (l := l) (t := u) (m := m) (by omega)
    refine ⟨k, hk, hb_iff_num.2 ?_⟩
    have ht := isT_iff.1 hk.2.1
    rw [num_eq, ht, hk.2.2]
    omega
  · rintro ⟨k, hk, hh⟩
    have h1 := hb_iff_num.1 hh
    have ht := isT_iff.1 hk.2.1
    rw [num_eq, ht, hk.2.2] at h1
    omega

/-- All threads are 0 to 3. -/
def In4 (l : List Ev) : Prop := ∀ e ∈ l, 0 ≤ e.thread ∧ e.thread ≤ 3
theorem len_sum {l : List Ev} (h : In4 l) (n : Nat) (hn : n ≤ l.length) : n = cnt (isT l 0) n + cnt (isT l 1) n + cnt (isT l 2) n + cnt (isT l 3) n := by
  induction n with
  | zero => rfl
  | succ n ih =>
    have h1 := ih (by omega)
    have h2 := h _ (evI_mem (l := l) (i := n) (by omega))
    simp only [cnt_succ, isT_iff]
    rcases (by omega : (evI l n).thread = 0 ∨ (evI l n).thread = 1 ∨ (evI l n).thread = 2 ∨ (evI l n).thread = 3) with e | e | e | e <;> simp [e] <;> omega
theorem Sim.cnt {a b : List Ev} (h : Sim a b) (t : Int) : cnt (isT a t) a.length = cnt (isT b t) b.length := by rw [← psi_len, ← psi_len, h t]
theorem Sim.len {a b : List Ev} (h : Sim a b) (ha : In4 a) (hb : In4 b) : a.length = b.length := by
  have h1 := len_sum ha a.length (Nat.le_refl _)
  have h2 := len_sum hb b.length (Nat.le_refl _)
  have := h.cnt 0
  have := h.cnt 1
  have := h.cnt 2
  have := h.cnt 3
  omega
/-- Where an event of the one stands in the other. -/
theorem Sim.at {a b : List Ev} (h : Sim a b) {i : Nat} (hi : i < a.length) : ∃ k, At b (evI a i).thread (Proofs.YtnldkmcijmbhcaaGreat.cnt (isT a (evI a i).thread) i) k ∧ evI b k = evI a i ∧ clk b k = clk a i := by
  have h1 := psi_get hi (isT_iff.2 rfl)
  rw [h] at h1
  obtain ⟨k, h2, h3, h4, h5⟩ := psi_inv h1
  injection h5 with h5 h6
  exact ⟨k, ⟨h2, h3, h4⟩, h5.symm, h6.symm⟩

/-- One event more behind both. -/
theorem psi_snoc (l : List Ev) (e : Ev) (t : Int) : psi (l ++ [e]) t = psi l t ++ if e.thread = t then [(e, nxt (prs l) e)] else [] := by
  unfold psi
  rw [prs_snoc, List.filter_append]
  congr 1
  by_cases h : e.thread = t <;> simp [h]
theorem mem_prs {l : List Ev} {p : Ev × (Int → Nat)} : p ∈ prs l ↔ p ∈ psi l p.1.thread := by
  unfold psi
  rw [List.mem_filter]
  simp
theorem sim_snoc (a b : List Ev) (e : Ev) : Sim (a ++ [e]) (b ++ [e]) ↔ Sim a b := by
  constructor
  · intro h t
    have ht := h t
    rw [psi_snoc, psi_snoc] at ht
    by_cases he : e.thread = t
    · rw [if_pos he, if_pos he] at ht
      exact (List.append_inj' ht rfl).1
    · rw [if_neg he, if_neg he, List.append_nil, List.append_nil] at ht
      exact ht
  · intro h t
    have hn : nxt (prs a) e = nxt (prs b) e := nxt_mem (fun p => by rw [mem_prs, mem_prs, h]) e
    rw [psi_snoc, psi_snoc, h t, hn]

end Go.Proofs.YtnldkmcijmbhcaaGreat

/-
  Plain data for layer 5: what swaps of neighbours that don't depend on one another leave as it is, is alike for rows that are the same. Nothing of the translation.
-/
namespace Go.Proofs.YtnldkmcijmbhcaaGreat

/-- A thing that is told of rows, whatever neighbours that don't depend on one another are swapped. -/
def Blind {T : Type} (F : List Ev → T) : Prop := ∀ (x y : List Ev) (e f : Ev), dep e f = false → F (x ++ e :: f :: y) = F (x ++ f :: e :: y)

theorem Blind.move {T : Type} {F : List Ev → T} (h : Blind F) (e : Ev) (y : List Ev) : ∀ x : List Ev, (∀ f ∈ y, dep e f = false) → F (x ++ e :: y) = F (x ++ y ++ [e]) := by
  induction y with
  | nil => intro x _; rw [List.append_nil]
  | cons f y ih =>
    intro x hy
    rw [h x y e f (hy f (by simp)), show x ++ f :: e :: y = (x ++ [f]) ++ e :: y by simp, ih (x ++ [f]) (fun g hg => hy g (by simp [hg]))]
    congr 1
    simp
theorem sim_move (e : Ev) (y : List Ev) : ∀ x : List Ev, (∀ f ∈ y, dep e f = false) → Sim (x ++ e :: y) (x ++ y ++ [e]) := by
  induction y with
  | nil => intro x _; rw [List.append_nil]; exact Sim.refl _
  | cons f y ih =>
    intro x hy
    have h1 : Sim (x ++ e :: f :: y) (x ++ f :: e :: y) := sim_swap (hy f (by simp))
    have h2 := ih (x ++ [f]) (fun g hg => hy g (by simp [hg]))
    rw [show (x ++ [f]) ++ e :: y = x ++ f :: e :: y by simp, show x ++ [f] ++ y ++ [e] = x ++ f :: y ++ [e] by simp] at h2
    exact h1.trans h2

theorem mem_prs_inv {l : List Ev} {p : Ev × (Int → Nat)} (h : p ∈ prs l) : ∃ i, i < l.length ∧ p = (evI l i, clk l i) := by
  unfold prs at h
  obtain ⟨i, hi, e⟩ := List.mem_map.1 h
  exact ⟨i, List.mem_range.1 hi, e.symm⟩
theorem prs_mem {l : List Ev} {i : Nat} (h : i < l.length) : (evI l i, clk l i) ∈ prs l := List.mem_map.2 ⟨i, List.mem_range.2 h, rfl⟩
theorem split_at {l : List Ev} {k : Nat} (h : k < l.length) : l = l.take k ++ evI l k :: l.drop (k + 1) := by
  conv => lhs; rw [← List.take_append_drop k l, List.drop_eq_getElem_cons h]
  rw [evI_get h]

/-- The last event of the one row stands in the other one, and nothing behind it depends on it. -/
theorem sim_last {a b : List Ev} {e : Ev} (h : Sim (a ++ [e]) b) : ∃ x y, b = x ++ e :: y ∧ ∀ f ∈ y, dep e f = false := by
  have hp : psi (a ++ [e]) e.thread = psi a e.thread ++ [(e, nxt (prs a) e)] := by rw [psi_snoc, if_pos rfl]
  have hq := h e.thread
  have hl := congrArg List.length hq
  have hN : cnt (isT (a ++ [e]) e.thread) (a ++ [e]).length = cnt (isT a e.thread) a.length + 1 := by
    rw [← psi_len, hp, List.length_append, psi_len]
    rfl
  rw [psi_len, psi_len, hN] at hl
  have hg : (psi b e.thread)[cnt (isT a e.thread) a.length]? = some (e, nxt (prs a) e) := by
    rw [← hq, hp, List.getElem?_append_right (by rw [psi_len]; exact Nat.le_refl _), psi_len, Nat.sub_self]
    rfl
  obtain ⟨k, hk, hkt, hkc, hke⟩ := psi_inv hg
  injection hke with hke _
  refine ⟨b.take k, b.drop (k + 1), by rw [hke]; exact split_at hk, fun f hf => ?_⟩
  cases hd : dep e f
  · rfl
  · exfalso
    obtain ⟨m, hm, hfm⟩ := List.mem_iff_getElem.1 hf
    rw [List.length_drop] at hm
    have hj : k + 1 + m < b.length := by omega
    have hfj : evI b (k + 1 + m) = f := by rw [evI_get hj, ← hfm, List.getElem_drop]
    have hbj : hb b k (k + 1 + m) = true := hb_dep (by omega) (by rw [← hke, hfj]; exact hd)
    have h1 := hb_iff_num.1 hbj
    rw [num_eq, ← hke, hkc] at h1
    have hmem : (evI b (k + 1 + m), clk b (k + 1 + m)) ∈ prs (a ++ [e]) := by rw [mem_prs, h, ← mem_prs]; exact prs_mem hj
    obtain ⟨i, hi, hie⟩ := mem_prs_inv hmem
    injection hie with hie1 hie2
    rw [hie2] at h1
    have h2 := clk_le_cnt (a ++ [e]) i e.thread
    rw [List.length_append, List.length_singleton] at hi
    rcases Nat.lt_or_eq_of_le (show i ≤ a.length by omega) with hia | hia
    · have h3 := cnt_mono (isT (a ++ [e]) e.thread) (show i + 1 ≤ a.length by omega)
      have h4 : cnt (isT (a ++ [e]) e.thread) a.length = cnt (isT a e.thread) a.length := cnt_congr _ fun j hj => by unfold isT; rw [evI_append hj]
      omega
    · have he2 : evI (a ++ [e]) i = e := by rw [hia]; unfold evI; simp [List.getD]
      rw [he2] at hie1
      have h5 : isT b e.thread (k + 1 + m) = true := isT_iff.2 (by rw [hie1])
      have h6 := (show At b e.thread _ _ from ⟨hj, h5, rfl⟩).lt
      have h7 := cnt_lt (isT b e.thread) (show k < k + 1 + m by omega) hkt
      omega

theorem psi_nil (t : Int) : psi [] t = [] := rfl

/-- Rows that are the same are alike in all that such swaps leave. -/
theorem sim_fun {T : Type} (n : Nat) : ∀ (a b : List Ev) (F : List Ev → T), a.length = n → Sim a b → Blind F → F a = F b := by
  induction n with
  | zero =>
    intro a b F hn h _
    obtain rfl := List.eq_nil_of_length_eq_zero hn
    rcases b with _ | ⟨e, b⟩
    · rfl
    · exfalso
      have h1 := psi_get (l := e :: b) (t := e.thread) (i := 0) (by simp) (isT_iff.2 rfl)
      rw [← h, psi_nil] at h1
      simp at h1
  | succ n ih =>
    intro a b F hn h hF
    have hne : a ≠ [] := by rintro rfl; simp at hn
    obtain ⟨a', e, rfl⟩ : ∃ a' e, a = a' ++ [e] := ⟨a.dropLast, a.getLast hne, (List.dropLast_concat_getLast hne).symm⟩
    obtain ⟨x, y, rfl, hy⟩ := sim_last h
    rw [hF.move e y x hy]
    have h2 : Sim (a' ++ [e]) (x ++ y ++ [e]) := h.trans (sim_move e y x hy)
    have h3 := (sim_snoc a' (x ++ y) e).1 h2
    refine ih a' (x ++ y) (fun l => F (l ++ [e])) (by simpa using hn) h3 (fun p q u v huv => ?_)
    have := hF p (q ++ [e]) u v huv
    simpa using this

end Go.Proofs.YtnldkmcijmbhcaaGreat

/-
  Plain data: two threads whose next events are independent, and who both may, come to one state in either order. Nothing of the translation.
-/
namespace Go.Proofs.YtnldkmcijmbhcaaGreat

theorem dep_vars {s : St} {a b : Int} {i j : Ins} (hd : dep (s.ev a i) (s.ev b j) = false) (h1 : i.kind = 2) (h2 : j.kind = 1 ∨ j.kind = 2) : i.x ≠ j.x := by
  intro hx
  have e1 : s.ev a i = ⟨a, 3, i.x, false⟩ := by simp [St.ev, h1]
  rw [e1] at hd
  rcases h2 with h2 | h2
  · have e2 : s.ev b j = ⟨b, 2, j.x, false⟩ := by simp [St.ev, h2]
    rw [e2] at hd
    simp [dep, hx] at hd
  · have e2 : s.ev b j = ⟨b, 3, j.x, false⟩ := by simp [St.ev, h2]
    rw [e2] at hd
    simp [dep, hx] at hd

theorem ev_mut {s : St} {a : Int} {i : Ins} (h : i.kind = 5 ∨ (i.kind = 6 ∧ s.who i.x = a)) : (s.ev a i).obj = i.x ∧ ((s.ev a i).kind = 4 ∨ (s.ev a i).kind = 5) := by
  rcases h with h | ⟨h, hw⟩
  · simp [St.ev, h]
  · simp [St.ev, h, hw]

theorem dep_muts {s : St} {a b : Int} {i j : Ins} (hd : dep (s.ev a i) (s.ev b j) = false) (h1 : i.kind = 5 ∨ (i.kind = 6 ∧ s.who i.x = a)) (h2 : j.kind = 5 ∨ (j.kind = 6 ∧ s.who j.x = b)) : i.x ≠ j.x := by
  intro hx
  obtain ⟨o1, k1⟩ := ev_mut h1
  obtain ⟨o2, k2⟩ := ev_mut h2
  unfold dep at hd
  rw [decide_eq_false_iff_not] at hd
  exact hd (.inr ⟨by rw [o1, o2, hx], .inr ⟨k1, k2⟩⟩)

theorem St.Ok.hold_do {F : Nat} {s : St} (h : s.Ok F) {a b : Int} {i : Ins} (hi : s.ins a = some i) (hm : s.may a = true) (hab : a ≠ b) (hb : 0 ≤ b) (x : Int) : ((s.do_ a i).who x = b) ↔ (s.who x = b) := by
  rw [h.who_do hi x]
  split
  · rename_i h5
    have := St.may_free hi hm h5.1
    rw [St.who_eq h5.2]
    omega
  split
  · rename_i h6
    rw [St.who_eq h6.2.2, h6.2.1]
    omega
  · exact Iff.rfl

theorem St.ins_do {s : St} {a b : Int} {i : Ins} (hi : s.ins a = some i) (hb : s.has b) (hab : a ≠ b) : (s.do_ a i).ins b = s.ins b := by
  obtain ⟨ha, _, _⟩ := St.ins_has hi
  have hl : (s.do_ a i).ts.length = s.ts.length := by simp [St.do_]
  have hh : (s.do_ a i).has b ↔ s.has b := by unfold St.has; rw [hl]
  have hth : (s.do_ a i).th b.toNat = s.th b.toNat := by
    rw [St.th_do s a i ha, if_neg]
    unfold St.has at ha hb
    omega
  have hc : (s.do_ a i).code b.toNat = s.code b.toNat := rfl
  unfold St.ins
  rw [hth, hc]
  by_cases hx : s.has b
  · simp [hx, hh]
  · simp [hx, hh]

theorem St.Ok.thr_do {F : Nat} {s : St} (h : s.Ok F) {a b : Int} {i j : Ins} (hi : s.ins a = some i) (hj : s.ins b = some j) (hab : a ≠ b) (hd : dep (s.ev a i) (s.ev b j) = false) : (s.do_ a i).thr b j = s.thr b j := by
  obtain ⟨ha, _, _⟩ := St.ins_has hi
  obtain ⟨hb, _, _⟩ := St.ins_has hj
  have hth : (s.do_ a i).th b.toNat = s.th b.toNat := by
    rw [St.th_do s a i ha, if_neg]
    unfold St.has at ha hb
    omega
  have hr : (s.do_ a i).reg b j = s.reg b j := by unfold St.reg; rw [hth]
  have hv : j.kind = 1 → (s.do_ a i).var j.x = s.var j.x := by
    intro h1
    rw [h.var_do hi j.x, if_neg]
    rintro ⟨h2, hx⟩
    have := dep_vars hd h2 (.inl h1)
    have := (h.obj hi).1 (.inr h2)
    have := (h.obj hj).1 (.inl h1)
    omega
  unfold St.thr
  rw [hth, hr]
  by_cases h1 : j.kind = 1
  · rw [hv h1]
  · simp [h1]

theorem St.Ok.may_do {F : Nat} {s : St} (h : s.Ok F) {a b : Int} {i j : Ins} (hi : s.ins a = some i) (hj : s.ins b = some j) (hmb : s.may b = true) (hab : a ≠ b) (hd : dep (s.ev a i) (s.ev b j) = false) : (s.do_ a i).may b = true := by
  obtain ⟨hb, _, _⟩ := St.ins_has hj
  have h1 := St.ins_do hi hb hab
  unfold St.may
  rw [h1, hj]
  simp only [decide_eq_true_eq]
  intro h5
  have hf := St.may_free hj hmb h5
  rw [h.who_do hi]
  split
  · rename_i hx
    have := dep_muts hd (.inl hx.1) (.inl h5)
    have := (h.obj hi).2.1 (.inl hx.1)
    have := (h.obj hj).2.1 (.inl h5)
    omega
  split
  · omega
  · exact hf

theorem St.Ok.do_swap {F : Nat} {s : St} (h : s.Ok F) {a b : Int} {i j : Ins} (hi : s.ins a = some i) (hj : s.ins b = some j) (hma : s.may a = true) (hmb : s.may b = true) (hab : a ≠ b)
    (hd : dep (s.ev a i) (s.ev b j) = false) : (s.do_ a i).do_ b j = (s.do_ b j).do_ a i := by
  obtain ⟨ha, _, _⟩ := St.ins_has hi
  obtain ⟨hb, _, _⟩ := St.ins_has hj
  have hd' : dep (s.ev b j) (s.ev a i) = false := by rw [dep_symm]; exact hd
  have hn : a.toNat ≠ b.toNat := by unfold St.has at ha hb; omega
  have t1 := h.thr_do hi hj hab hd
  have t2 := h.thr_do hj hi (Ne.symm hab) hd'
  have w1 := h.hold_do hi hma hab (by unfold St.has at hb; exact hb.1) j.x
  have w2 := h.hold_do hj hmb (Ne.symm hab) (by unfold St.has at ha; exact ha.1) i.x
  have r1 : (s.do_ a i).reg b j = s.reg b j := by
    unfold St.reg
    rw [St.th_do s a i ha, if_neg (Ne.symm hn)]
  have r2 : (s.do_ b j).reg a i = s.reg a i := by
    unfold St.reg
    rw [St.th_do s b j hb, if_neg hn]
  obtain ⟨oi1, oi2, _⟩ := h.obj hi
  obtain ⟨oj1, oj2, _⟩ := h.obj hj
  have ets : ((s.do_ a i).do_ b j).ts = ((s.do_ b j).do_ a i).ts := by
    show (s.ts.set a.toNat (s.thr a i)).set b.toNat ((s.do_ a i).thr b j) = (s.ts.set b.toNat (s.thr b j)).set a.toNat ((s.do_ b j).thr a i)
    rw [t1, t2, List.set_comm _ _ hn]
  have ev : ((s.do_ a i).do_ b j).v = ((s.do_ b j).do_ a i).v := by
    show (if j.kind = 2 then (if i.kind = 2 then s.v.set i.x.toNat (s.reg a i) else s.v).set j.x.toNat ((s.do_ a i).reg b j) else if i.kind = 2 then s.v.set i.x.toNat (s.reg a i) else s.v) =
      (if i.kind = 2 then (if j.kind = 2 then s.v.set j.x.toNat (s.reg b j) else s.v).set i.x.toNat ((s.do_ b j).reg a i) else if j.kind = 2 then s.v.set j.x.toNat (s.reg b j) else s.v)
    rw [r1, r2]
    by_cases h1 : i.kind = 2
    · by_cases h2 : j.kind = 2
      · have hne := dep_vars hd h1 (.inr h2)
        have := oi1 (.inr h1)
        have := oj1 (.inr h2)
        simp only [h1, h2, if_true]
        exact List.set_comm _ _ (by omega)
      · simp [h1, h2]
    · by_cases h2 : j.kind = 2
      · simp [h1, h2]
      · simp [h1, h2]
  have em : ((s.do_ a i).do_ b j).m = ((s.do_ b j).do_ a i).m := by
    show (if j.kind = 5 then (s.do_ a i).m.set j.x.toNat b else if j.kind = 6 ∧ (s.do_ a i).who j.x = b then (s.do_ a i).m.set j.x.toNat (-1) else (s.do_ a i).m) =
      (if i.kind = 5 then (s.do_ b j).m.set i.x.toNat a else if i.kind = 6 ∧ (s.do_ b j).who i.x = a then (s.do_ b j).m.set i.x.toNat (-1) else (s.do_ b j).m)
    have mi : (s.do_ a i).m = if i.kind = 5 then s.m.set i.x.toNat a else if i.kind = 6 ∧ s.who i.x = a then s.m.set i.x.toNat (-1) else s.m := rfl
    have mj : (s.do_ b j).m = if j.kind = 5 then s.m.set j.x.toNat b else if j.kind = 6 ∧ s.who j.x = b then s.m.set j.x.toNat (-1) else s.m := rfl
    simp only [w1, w2]
    rw [mi, mj]
    by_cases p : i.kind = 5 ∨ (i.kind = 6 ∧ s.who i.x = a)
    · by_cases q : j.kind = 5 ∨ (j.kind = 6 ∧ s.who j.x = b)
      · have hne := dep_muts hd p q
        have := oi2 (by omega)
        have := oj2 (by omega)
        have hx : i.x.toNat ≠ j.x.toNat := by omega
        rcases p with p | p
        · rcases q with q | q
          · simp only [p, q, if_true]
            exact List.set_comm _ _ hx
          · simp [p, q]
            exact List.set_comm _ _ hx
        · rcases q with q | q
          · simp [p, q]
            exact List.set_comm _ _ hx
          · simp [p, q]
            exact List.set_comm _ _ hx
      · have q1 : ¬ j.kind = 5 := fun e => q (.inl e)
        have q2 : ¬ (j.kind = 6 ∧ s.who j.x = b) := fun e => q (.inr e)
        simp only [q1, q2, if_false]
    · have p1 : ¬ i.kind = 5 := fun e => p (.inl e)
      have p2 : ¬ (i.kind = 6 ∧ s.who i.x = a) := fun e => p (.inr e)
      simp only [p1, p2, if_false]
  have ep : ((s.do_ a i).do_ b j).p = ((s.do_ b j).do_ a i).p := rfl
  generalize (s.do_ a i).do_ b j = z at *
  generalize (s.do_ b j).do_ a i = z' at *
  cases z
  cases z'
  simp_all

theorem St.step_may {s : St} {t : Int} {i : Ins} (hi : s.ins t = some i) (hm : s.may t = true) : s.step t = (0, s.ev t i, s.do_ t i) := by
  obtain ⟨ht, _, _⟩ := St.ins_has hi
  unfold St.step
  rw [if_pos ht, hi]
  simp [hm]

theorem St.Ok.ev_do {F : Nat} {s : St} (h : s.Ok F) {a b : Int} {i j : Ins} (hi : s.ins a = some i) (hj : s.ins b = some j) (hma : s.may a = true) (hab : a ≠ b) : (s.do_ a i).ev b j = s.ev b j := by
  obtain ⟨hb, _, _⟩ := St.ins_has hj
  have h1 := h.next_do hi hma (Ne.symm hab)
  unfold St.next at h1
  rw [St.ins_do hi hb hab, hj] at h1
  simpa using h1

/-- Both orders. -/
theorem St.Ok.swap {F : Nat} {s : St} (h : s.Ok F) {a b : Int} {x y : Ev} (hx : s.next a = some x) (hy : s.next b = some y) (hma : s.may a = true) (hmb : s.may b = true) (hab : a ≠ b) (hd : dep x y = false) :
    ∃ c d z, s.step a = (0, x, c) ∧ c.step b = (0, y, z) ∧ s.step b = (0, y, d) ∧ d.step a = (0, x, z) ∧ c.Ok F ∧ d.Ok F ∧ z.Ok F := by
  unfold St.next at hx hy
  obtain ⟨i, hi, rfl⟩ := Option.map_eq_some_iff.1 hx
  obtain ⟨j, hj, rfl⟩ := Option.map_eq_some_iff.1 hy
  have hd' : dep (s.ev b j) (s.ev a i) = false := by rw [dep_symm]; exact hd
  obtain ⟨ha, _, _⟩ := St.ins_has hi
  obtain ⟨hb, _, _⟩ := St.ins_has hj
  have i1 := (St.ins_do hi hb hab).trans hj
  have i2 := (St.ins_do hj ha (Ne.symm hab)).trans hi
  refine ⟨s.do_ a i, s.do_ b j, (s.do_ a i).do_ b j, St.step_may hi hma, ?_, St.step_may hj hmb, ?_, h.do_ok hi, h.do_ok hj, (h.do_ok hi).do_ok i1⟩
  · rw [St.step_may i1 (h.may_do hi hj hmb hab hd), h.ev_do hi hj hma hab]
  · rw [St.step_may i2 (h.may_do hj hi hma (Ne.symm hab) hd'), h.ev_do hj hi hmb (Ne.symm hab), h.do_swap hi hj hma hmb hab hd]

end Go.Proofs.YtnldkmcijmbhcaaGreat
