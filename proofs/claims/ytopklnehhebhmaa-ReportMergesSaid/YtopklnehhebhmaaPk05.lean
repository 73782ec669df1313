import Derived.Laws.OwnMore
import Derived.Lib.AppendZeros
import Derived.Shelf.SortG.Plain
import Derived.Shelf.SlicesG.In.CompactS
import Derived.Shelf.SortG.SortNone
import Derived.Sort.OwnSorted
import Derived.Sort.EveryDepth
import Derived.StillTailTactics
import Derived.Shelf.LaysM
import Derived.Shelf.Strconv.Clone
import Derived.Deep.RegionLaw
import Derived.Test.YtopklnehhebhmaaProg
import Derived.Test.YtopklnehhebhmaaPk02
import Derived.Test.YtopklnehhebhmaaPk04

/- append(.., row...) of whatever elements onto a row of the call's own. -/
namespace Go.Proofs.Ytopklnehhebhmaa
open Go.RowKit

section
variable {T : Type} {f : T → List Value} {n : Nat}

theorem RowAt.cellAt {w : World} {b o : Nat} {l : List T} (h : RowAt w (some ⟨b, o, none⟩) n f l) (hf : ∀ x, (f x).length = n) (hn : 0 < n) (j : Nat) (u : Value) (hj : (cellsL f l)[j]? = some u) : w.cell? (Addr.add ⟨b, o, none⟩ j) = some u := by
  have hjl : j < l.length * n := by
    have := (List.getElem?_eq_some_iff.1 hj).1
    rwa [cellsL_length hf] at this
  obtain ⟨b', o', e, hc⟩ := h.2 (by rintro rfl; simp at hjl)
  cases e
  have hi : j / n < l.length := Nat.div_lt_of_lt_mul (by rw [Nat.mul_comm]; exact hjl)
  have e : j / n * n + j % n = j := Nat.div_add_mod' j n
  have hg := cellsL_get hf l (j / n) (j % n) hi (Nat.mod_lt j hn)
  rw [e, hj] at hg
  have h1 := hc (j / n) hi (j % n) u hg.symm
  rw [Nat.add_assoc, e] at h1
  rw [add_row]
  exact h1

/-- A whole row more. -/
theorem wp_copyR {P : Program} {w : World} {o : Oper} {a : Act} {K : Act → World → Prop} {Q : Exit → Act → World → Prop} (st et : TypeId) (bytes : Nat) (z : Value) (hu : P.underlying st = some (.slice et))
    (hinfo : (P.info? et).map (fun i => (i.zero, i.size, i.bytes)) = some (some z, n, bytes)) (hz : z.cells.size = n) (hn : 0 < n) (hby : bytes ≤ 1000) (hf : ∀ x, (f x).length = n) (h1 : ∀ x, ∀ v ∈ f x, v.oneCell' = true)
    (s x : Operand) (ho : o.op = .call { callee := .builtin .append, args := #[s, x], argTypes := #[st, st] }) (B : Nat) (v : Value) (l : List T) (hs : a.eval s = v) (hown : OwnRow w B et n f v l)
    (ra : Option Addr) (rcap : Nat) (row : List T) (hx : a.eval x = .slice ra row.length rcap) (hrow : RowAt w ra n f row) (hra : ra = none → rcap = 0 ∧ row = []) (hlen : l.length + row.length ≤ 1000000) (hB : B ≤ w.heap.size)
    (h : ∀ v' w', OwnRow w' B et n f v' (l ++ row) → Below B w w' → w.grownBy w' v.ownBlock → K (a.put o.dst v') w') : Oper.wp P o a w K Q := by
  obtain ⟨i, hi, hzz⟩ := Option.map_eq_some_iff.1 hinfo
  simp only [Prod.mk.injEq] at hzz
  obtain ⟨hiz, hisz, hiby⟩ := hzz
  have hbb : (l.length + row.length) * bytes ≤ 140737488355328 := by
    have : (l.length + row.length) * bytes ≤ 1000000 * 1000 := Nat.mul_le_mul hlen hby
    omega
  cases ra with
  | none =>
    obtain ⟨rfl, rfl⟩ := hra rfl
    have hrun := run_append_owned_none (P := P) (w := w) B st o.type et i n hu hi v l.length (cellsL f l) hown
    have hK := h v w (by rw [List.append_nil]; exact hown) (Below.refl _ _) ⟨rfl, rfl, rfl, Nat.le_refl _, fun _ _ _ => rfl⟩
    unfold Oper.wp
    simp [execOp, ho, resolve, invoke, builtin, hs, hx, hrun, Result.andThen]
    exact hK
  | some ad =>
    by_cases hne : row = []
    · subst hne
      refine wp_append_own w s x st ho B et i z n bytes hu hi hiz hisz hiby hz hn v l.length (cellsL f l) hs hown ad 0 rcap [] hx (by simp) (by simp) (by simp) (by unfold maxLen; simp at hlen; omega) (by simpa using hbb) hB ?_
      intro v' w' h2 h3 _
      refine h v' w' ?_ ((Below.refl B w).grown h3 hB (fun k hk => (World.ownsRow.lt hown k hk).1)) h3
      unfold OwnRow
      simpa using h2
    · obtain ⟨b, o', e, hc⟩ := hrow.2 hne
      injection e with e
      subst e
      refine wp_append_own w s x st ho B et i z n bytes hu hi hiz hisz hiby hz hn v l.length (cellsL f l) hs hown ⟨b, o', none⟩ row.length rcap (cellsL f row) hx (by rw [cellsL_length hf]) (fun j u hj => hrow.cellAt hf hn j u hj)
        (cellsL_one h1 _) (by unfold maxLen; omega) hbb hB ?_
      intro v' w' h2 h3 _
      refine h v' w' ?_ ((Below.refl B w).grown h3 hB (fun k hk => (World.ownsRow.lt hown k hk).1)) h3
      unfold OwnRow
      rw [List.length_append, cellsL_append]
      exact h2
/-- The same in a region whose order is drawn. -/
theorem step_copyR {P : Program} {w : World} {ops : Array Oper} {o : Oper} {a : Act} {K : Act → World → Prop} {Q : Exit → Act → World → Prop} {E : Prop} (st et : TypeId) (bytes : Nat) (z : Value) (hu : P.underlying st = some (.slice et))
    (hinfo : (P.info? et).map (fun i => (i.zero, i.size, i.bytes)) = some (some z, n, bytes)) (hz : z.cells.size = n) (hn : 0 < n) (hby : bytes ≤ 1000) (hf : ∀ x, (f x).length = n) (h1 : ∀ x, ∀ v ∈ f x, v.oneCell' = true) (hgd : o.guard = none)
    (s x : Operand) (ho : o.op = .call { callee := .builtin .append, args := #[s, x], argTypes := #[st, st] }) (B : Nat) (v : Value) (l : List T) (hs : a.eval s = v) (hown : OwnRow w B et n f v l)
    (ra : Option Addr) (rcap : Nat) (row : List T) (hx : a.eval x = .slice ra row.length rcap) (hrow : RowAt w ra n f row) (hra : ra = none → rcap = 0 ∧ row = []) (hlen : l.length + row.length ≤ 1000000) (hB : B ≤ w.heap.size)
    (h : ∀ v' w', OwnRow w' B et n f v' (l ++ row) → Below B w w' → w.grownBy w' v.ownBlock → K (a.put o.dst v') w') : if Region.wanted o (yielded ops a.tmps) = true then Oper.wp P o a w K Q else E := by
  have hw : Region.wanted o (yielded ops a.tmps) = true := by simp [Region.wanted, hgd]
  rw [if_pos hw]
  exact wp_copyR st et bytes z hu hinfo hz hn hby hf h1 s x ho B v l hs hown ra rcap row hx hrow hra hlen hB h
theorem wpl_copyR {P : Program} {w : World} {ops : Array Oper} {rest : List Oper} {o : Oper} {a : Act} {Q : Exit → Act → World → Prop} (st et : TypeId) (bytes : Nat) (z : Value) (hu : P.underlying st = some (.slice et))
    (hinfo : (P.info? et).map (fun i => (i.zero, i.size, i.bytes)) = some (some z, n, bytes)) (hz : z.cells.size = n) (hn : 0 < n) (hby : bytes ≤ 1000) (hf : ∀ x, (f x).length = n) (h1 : ∀ x, ∀ v ∈ f x, v.oneCell' = true) (hgd : o.guard = none)
    (s x : Operand) (ho : o.op = .call { callee := .builtin .append, args := #[s, x], argTypes := #[st, st] }) (B : Nat) (v : Value) (l : List T) (hs : a.eval s = v) (hown : OwnRow w B et n f v l)
    (ra : Option Addr) (rcap : Nat) (row : List T) (hx : a.eval x = .slice ra row.length rcap) (hrow : RowAt w ra n f row) (hra : ra = none → rcap = 0 ∧ row = []) (hlen : l.length + row.length ≤ 1000000) (hB : B ≤ w.heap.size)
    (h : ∀ v' w', OwnRow w' B et n f v' (l ++ row) → Below B w w' → w.grownBy w' v.ownBlock → wpList P ops Q rest (a.put o.dst v') w') : wpList P ops Q (o :: rest) a w :=
  wpList_plain hgd fun _ hK => wp_copyR st et bytes z hu hinfo hz hn hby hf h1 s x ho B v l hs hown ra rcap row hx hrow hra hlen hB fun v' w' h2 h3 h4 => hK _ _ (h v' w' h2 h3 h4)
end

end Go.Proofs.Ytopklnehhebhmaa

/- The contract of slices.Concat of lists of texts. -/
namespace Go.Proofs.Ytopklnehhebhmaa
open Go.RowKit

/-- Rows of keys that can be read; one that is nil has no room. -/
def RowsN (w : World) (a : Option Addr) (ls : List (List Key)) : Prop := ∀ i (hi : i < ls.length), ∃ b o a2 c2, a = some ⟨b, o, none⟩ ∧ w.cell? ⟨b, o + i, none⟩ = some (.slice a2 ls[i].length c2) ∧ RowAt w a2 1 strCell ls[i] ∧ (a2 = none → c2 = 0)
theorem RowsN.rows {w : World} {a : Option Addr} {ls : List (List Key)} (h : RowsN w a ls) : RowsR w a ls := fun i hi => by
  obtain ⟨b, o, a2, c2, e, h1, h2, _⟩ := h i hi
  exact ⟨b, o, a2, c2, e, h1, h2⟩
theorem RowsN.later {w w' : World} {a : Option Addr} {ls : List (List Key)} (h : RowsN w a ls) (hb : Below w.heap.size w w') : RowsN w' a ls := fun i hi => by
  obtain ⟨b, o, a2, c2, e, h1, h2, h3⟩ := h i hi
  exact ⟨b, o, a2, c2, e, cell_later hb h1, h2.later hb, h3⟩
theorem flatK_take (m : List (List Key)) {k : Nat} (hk : k < m.length) : (m.take (k + 1)).flatten = (m.take k).flatten ++ m[k] := by
  rw [List.take_succ_eq_append_getElem hk, List.flatten_append]
  simp
theorem flatK_le (m : List (List Key)) (k : Nat) : (m.take k).flatten.length ≤ m.flatten.length := by
  conv => rhs; rw [← List.take_append_drop k m]
  rw [List.flatten_append, List.length_append]
  omega
theorem row_none {w : World} {ks : List Key} (h : RowAt w none 1 strCell ks) : ks = [] := by
  apply Classical.byContradiction
  intro hn
  obtain ⟨b, o, e, _⟩ := h.2 hn
  cases e

set_option maxRecDepth 100000 in
set_option maxHeartbeats 2000000 in
theorem growS_any (n : Nat) (w : World) (hn : n ≤ 1000000) :
    Calls Try.prog 31 #[.slice none 0 0, .int .i64 n] w fun r w' => ∃ v, r = .returned v ∧ OwnRow w' w.heap.size 9 1 strCell v [] ∧ Below w.heap.size w w' := by
  have hw : IntKind.i64.wrap (n : Int) = n := IntWalk.i64_in _ (by omega)
  by_cases h0 : n = 0
  · subst h0
    clear hw
    go_enter Try.func31, Try.ntmps31
    go_wp2
    go_ret
    exact ⟨_, rfl, ownRow_nil _ _ _ _ _, Below.refl _ _⟩
  · obtain ⟨i0, hi0, hzz⟩ := Option.map_eq_some_iff.1 infoStr
    simp only [Prod.mk.injEq] at hzz
    obtain ⟨hz0, hzs, hzb⟩ := hzz
    have hrz := fun ty => Lib.run_append_nil_zeros w 22 3 ty 9 i0 _ .i64 .i64 Try.underlying22 Try.underlying3 hi0 hz0 n (by omega) (by omega) (by omega) (by rw [hzb]; omega)
    have hpos : (0 : Int) < n := by omega
    have hneg : ¬ ((n : Int) < 0) := by omega
    have hGm := grownCap_le_maxLen w n 0 9 (by unfold maxLen; omega)
    have hGn := grownCap_ge w n 0 9
    obtain ⟨G, hG⟩ : ∃ G, G = grownCap w n 0 9 := ⟨_, rfl⟩
    rw [← hG] at hrz hGm hGn
    obtain ⟨C, hC⟩ : ∃ C : Array Value, C = Builtin.zeroCells (Value.string ByteArray.empty).cells n ++ Builtin.zeroCells (Value.string ByteArray.empty).cells (G - n) := ⟨_, rfl⟩
    have hCs : C.size = G * 1 := by
      rw [hC]
      simp [Builtin.zeroCells, Value.cells]
      omega
    rw [← hC] at hrz
    have HOW : Hid (OwnRow (w.drew.alloc (.cells C 9)) w.heap.size 9 1 strCell (.slice (some ⟨w.heap.size, 0, none⟩) 0 G) []) :=
      ⟨rfl, .inr ⟨w.heap.size, G, C, rfl, Nat.le_refl _, heap_alloc_new w.drew _, Nat.zero_le _, hGm, hCs, by simp; rfl⟩⟩
    have hb : Below w.heap.size w (w.drew.alloc (.cells C 9)) := ((Below.refl _ _).drew).alloc (Nat.le_refl _) _
    have hG2 : G ≤ 9223372036854775807 := by unfold maxLen at hGm; omega
    have hG0 : ¬ G = 0 := by omega
    clear hC hG hCs hGm
    go_enter Try.func31, Try.ntmps31
    go_wp2_with (at_builtin; refine Lib.wpList_append_run _ rfl _ _ _ _ rfl _ _ rfl rfl _ _ (hrz _) ?_)
    go_ret
    exact ⟨_, rfl, HOW.out, hb⟩

/-- A row of keys of one's own, from a block on. -/
def CatR (w : World) (l : List Key) (r : Ending) (w' : World) : Prop := ∃ v, r = .returned v ∧ OwnRow w' w.heap.size 9 1 strCell v l ∧ Below w.heap.size w w'

set_option maxRecDepth 100000 in
set_option maxHeartbeats 4000000 in
theorem concatS_any (a : Option Addr) (cap : Nat) (m : List (List Key)) (w : World) (hl : RowsN w a m) (hm : m.length ≤ 1000000) (hf : m.flatten.length ≤ 1000000) :
    Calls Try.prog 22 #[.slice a m.length cap] w (CatR w m.flatten) := by
  have HL := Lib.hid hl
  clear hl
  go_enter Try.func22, Try.ntmps22
  go_wp2_with fail
  go_loopw [3, 11] (fun s i wr => ∃ k : Nat, k ≤ m.length ∧ i = .int .i64 k ∧ s = .int .i64 ((m.take k).flatten.length : Nat) ∧ Hid (Below w.heap.size w wr)) (fun _ i _ => m.length - (intOf i).toNat)
  case atStart => exact ⟨0, Nat.zero_le _, rfl, rfl, Below.refl _ _⟩
  case round =>
    obtain ⟨k, hk, rfl, rfl, HB0⟩ := hrel
    by_cases hlt : k < m.length
    · obtain ⟨b, o, sa, sc, rfl, t0, _, _⟩ := HL.out k hlt
      have c0 := cell_later HB0.out t0
      clear t0
      have HT := Lib.hid (flatK_take m hlt)
      have hle := flatK_le m (k + 1)
      rw [HT.out, List.length_append] at hle
      have HT2 : Hid ((m.take (k + 1)).flatten.length = (m.take k).flatten.length + m[k].length) := by show _ = _; rw [HT.out, List.length_append]
      clear HT
      generalize (m.take k).flatten.length = N at *
      generalize m[k].length = L at *
      have hw : IntKind.i64.wrap ((N : Int) + L) = (N : Int) + L := IntWalk.i64_in _ (by omega)
      have hneg2 : decide ((N : Int) + L < 0) = false := by simp; omega
      clear hle
      go_wp2_with fail
      go_roundw
      case rel => exact ⟨k + 1, by omega, by go_num, by rw [HT2.out, Int.natCast_add], HB0.out⟩
      case measure => simp [intOf]; omega
    · obtain rfl : k = m.length := by omega
      rw [List.take_length]
      obtain ⟨F, hF⟩ : ∃ F, F = m.flatten.length := ⟨_, rfl⟩
      rw [← hF] at hf ⊢
      have HF := Lib.hid hF
      clear hF
      go_wp2_with fail
      refine (growS_any F _ hf).mono ?_
      rintro r w1 ⟨v1, rfl, hv1, hb1⟩
      have HV1 : Hid (CatR w [] (.returned v1) w1) := ⟨v1, rfl, ownsRow_base hv1 HB0.out.size, HB0.out.trans (hb1.mono HB0.out.size)⟩
      clear hv1 hb1
      go_wp2_with fail
      go_loopw [6, 27] (fun s i wr' => ∃ k : Nat, k ≤ m.length ∧ i = .int .i64 k ∧ Hid (CatR w (m.take k).flatten (.returned s) wr')) (fun _ i _ => m.length - (intOf i).toNat)
      case atStart => exact ⟨0, Nat.zero_le _, rfl, HV1.out⟩
      case round =>
        clear HV1
        obtain ⟨k, hk, rfl, HV⟩ := hrel
        obtain ⟨s, hs, hv, hb⟩ := HV.out
        injection hs with hs
        subst hs
        have HO := Lib.hid hv
        by_cases hlt : k < m.length
        · obtain ⟨b, o, sa, sc, rfl, c0, he, hn⟩ := HL.out k hlt
          have c1 := cell_later hb c0
          have HE := Lib.hid (he.later hb)
          have HT := Lib.hid (flatK_take m hlt)
          have hle := flatK_le m (k + 1)
          rw [HT.out, List.length_append, ← HF.out] at hle
          have hra : sa = none → sc = 0 ∧ m[k] = [] := fun e => ⟨hn e, by subst e; exact row_none he⟩
          have HRA := Lib.hid hra
          have hBB := hb.size
          have hlen2 : (m.take k).flatten.length + m[k].length ≤ 1000000 := by omega
          clear hle hra he hn c0 hv
          generalize m[k] = row at *
          go_wp2_with (at_builtin; refine wpl_copyR (f := strCell) (n := 1) 22 9 16 (.string ByteArray.empty) Try.underlying22 infoStr rfl (by omega) (by omega) strCell_len strCell_one rfl _ _ rfl w.heap.size _ _ rfl HO.out sa sc row rfl HE.out HRA.out hlen2 hBB ?_; intro v' w' h1 h2 _; have HO2 := Lib.hid h1; clear h1)
          go_roundw
          case rel => exact ⟨k + 1, by omega, by go_num, by rw [HT.out]; exact ⟨v', rfl, HO2.out, hb.trans h2⟩⟩
          case measure => simp [intOf]; omega
        · obtain rfl : k = m.length := by omega
          rw [List.take_length] at HO
          go_wp2
          go_ret
          exact ⟨_, rfl, HO.out, hb⟩
end Go.Proofs.Ytopklnehhebhmaa

/- The library's sort and Compact of texts, laid at this dump. -/
namespace Go.Proofs
open Go.Shelf
def Try.sortStr_ren : Go.Shelf.Ren := ⟨fun | 54 => 23 | 64 => 33 | 65 => 32 | 78 => 50 | 79 => 51 | 80 => 41 | 81 => 42 | 82 => 43 | 83 => 44 | 84 => 45 | 85 => 46 | 61 => 47 | 86 => 48 | 87 => 49 | 93 => 63 | 89 => 64 | 90 => 65 | 94 => 66 | 95 => 67 | 69 => 68 | 97 => 77 | n => n, fun | 25 => 22 | 26 => 9 | 3 => 3 | 51 => 59 | 0 => 0 | 67 => 87 | 69 => 89 | 4 => 4 | 61 => 79 | 60 => 78 | 44 => 84 | 5 => 5 | 9 => 9 | 75 => 100 | 79 => 104 | 83 => 112 | 84 => 113 | n => n, fun | n => n⟩
theorem Try.sortStr : Go.Proofs.SlLaysN.n54 Try.prog Try.sortStr_ren := {
  mixed := by kernel_rfl
  f54 := ⟨Try.f23.name, by decide, Try.func23.trans (congrArg some (by kernel_rfl))⟩
  f61 := ⟨Try.f47.name, by decide, Try.func47.trans (congrArg some (by kernel_rfl))⟩
  f64 := Try.func33.trans (congrArg some (by kernel_rfl))
  f65 := ⟨Try.f32.name, by decide, Try.func32.trans (congrArg some (by kernel_rfl))⟩
  f69 := ⟨Try.f68.name, by decide, Try.func68.trans (congrArg some (by kernel_rfl))⟩
  f78 := Try.func50.trans (congrArg some (by kernel_rfl))
  f79 := Try.func51.trans (congrArg some (by kernel_rfl))
  f80 := ⟨Try.f41.name, by decide, Try.func41.trans (congrArg some (by kernel_rfl))⟩
  f81 := ⟨Try.f42.name, by decide, Try.func42.trans (congrArg some (by kernel_rfl))⟩
  f82 := ⟨Try.f43.name, by decide, Try.func43.trans (congrArg some (by kernel_rfl))⟩
  f83 := ⟨Try.f44.name, by decide, Try.func44.trans (congrArg some (by kernel_rfl))⟩
  f84 := ⟨Try.f45.name, by decide, Try.func45.trans (congrArg some (by kernel_rfl))⟩
  f85 := ⟨Try.f46.name, by decide, Try.func46.trans (congrArg some (by kernel_rfl))⟩
  f86 := ⟨Try.f48.name, by decide, Try.func48.trans (congrArg some (by kernel_rfl))⟩
  f87 := ⟨Try.f49.name, by decide, Try.func49.trans (congrArg some (by kernel_rfl))⟩
  f89 := Try.func64.trans (congrArg some (by kernel_rfl))
  f90 := Try.func65.trans (congrArg some (by kernel_rfl))
  f93 := ⟨Try.f63.name, by decide, Try.func63.trans (congrArg some (by kernel_rfl))⟩
  f94 := ⟨Try.f66.name, by decide, Try.func66.trans (congrArg some (by kernel_rfl))⟩
  f95 := ⟨Try.f67.name, by decide, Try.func67.trans (congrArg some (by kernel_rfl))⟩
  f97 := ⟨Try.f77.name, by decide, Try.func77.trans (congrArg some (by kernel_rfl))⟩
  t0 := Try.underlying0
  a0 := Try.isAgg0
  z0 := Try.sizeOf0
  v0 := Try.zeroValue0
  t3 := Try.underlying3
  a3 := Try.isAgg3
  z3 := Try.sizeOf3
  v3 := Try.zeroValue3
  t4 := Try.underlying4
  a4 := Try.isAgg4
  z4 := Try.sizeOf4
  v4 := Try.zeroValue4
  t5 := Try.underlying5
  a5 := Try.isAgg5
  z5 := Try.sizeOf5
  v5 := Try.zeroValue5
  t9 := Try.underlying9
  a9 := Try.isAgg9
  z9 := Try.sizeOf9
  v9 := Try.zeroValue9
  t25 := Try.underlying22
  a25 := Try.isAgg22
  z25 := Try.sizeOf22
  v25 := Try.zeroValue22
  t26 := Try.underlying9
  a26 := Try.isAgg9
  z26 := Try.sizeOf9
  v26 := Try.zeroValue9
  t44 := Try.underlying84
  a44 := Try.isAgg84
  z44 := Try.sizeOf84
  v44 := Try.zeroValue84
  t51 := Try.underlying59
  a51 := Try.isAgg59
  z51 := Try.sizeOf59
  v51 := Try.zeroValue59
  t60 := Try.underlying78
  a60 := Try.isAgg78
  z60 := Try.sizeOf78
  v60 := Try.zeroValue78
  t61 := Try.underlying79
  a61 := Try.isAgg79
  z61 := Try.sizeOf79
  v61 := Try.zeroValue79
  t67 := Try.underlying87
  a67 := Try.isAgg87
  z67 := Try.sizeOf87
  v67 := Try.zeroValue87
  t69 := Try.underlying89
  a69 := Try.isAgg89
  z69 := Try.sizeOf89
  v69 := Try.zeroValue89
  t75 := Try.underlying100
  a75 := Try.isAgg100
  z75 := Try.sizeOf100
  v75 := Try.zeroValue100
  t79 := Try.underlying104
  a79 := Try.isAgg104
  z79 := Try.sizeOf104
  v79 := Try.zeroValue104
  t83 := Try.underlying112
  a83 := Try.isAgg112
  z83 := Try.sizeOf112
  v83 := Try.zeroValue112
  t84 := Try.underlying113
  a84 := Try.isAgg113
  z84 := Try.sizeOf113
  v84 := Try.zeroValue113 }
def Try.compactStr_ren : Go.Shelf.Ren := ⟨fun | 44 => 24 | n => n, fun | 25 => 22 | 26 => 9 | 3 => 3 | 4 => 4 | 0 => 0 | n => n, fun | n => n⟩
theorem Try.compactStr : Go.Proofs.SlLaysN.n44 Try.prog Try.compactStr_ren := {
  mixed := by kernel_rfl
  f44 := ⟨Try.f24.name, by decide, Try.func24.trans (congrArg some (by kernel_rfl))⟩
  t0 := Try.underlying0
  a0 := Try.isAgg0
  z0 := Try.sizeOf0
  v0 := Try.zeroValue0
  t3 := Try.underlying3
  a3 := Try.isAgg3
  z3 := Try.sizeOf3
  v3 := Try.zeroValue3
  t4 := Try.underlying4
  a4 := Try.isAgg4
  z4 := Try.sizeOf4
  v4 := Try.zeroValue4
  t25 := Try.underlying22
  a25 := Try.isAgg22
  z25 := Try.sizeOf22
  v25 := Try.zeroValue22
  t26 := Try.underlying9
  a26 := Try.isAgg9
  z26 := Try.sizeOf9
  v26 := Try.zeroValue9
  i26 := by kernel_rfl }
end Go.Proofs

/- The library's sort and Compact of a row of keys of one's own. -/
namespace Go.Proofs.Ytopklnehhebhmaa
open Go.RowKit Go.Shelf Go.Sort Go.Lib

theorem str_enc (ks : List Key) : cellsL strCell ks = ks.map encStr := by
  induction ks with
  | nil => rfl
  | cons k ks ih =>
    show strCell k ++ cellsL strCell ks = _
    rw [ih]
    rfl
theorem keys_len {ks : List Key} : (ks.mergeSort fun x y => decide (x ≤ y)).length = ks.length := List.length_mergeSort _

theorem sort_own {w : World} {B : Nat} {a : Option Addr} {n cap : Nat} {ks : List Key} (h : OwnRow w B 9 1 strCell (.slice a n cap) ks) (hm : ks.length ≤ 1000000) :
    Calls Try.prog 23 #[.slice a n cap] w fun r w' => r = .returned (.tuple #[]) ∧ OwnRow w' B 9 1 strCell (.slice a n cap) (ks.mergeSort fun x y => decide (x ≤ y)) ∧ w.grownBy w' (Value.slice a n cap).ownBlock := by
  obtain ⟨h1, ⟨h2, h3⟩ | ⟨g, cap', cur, h2, h3, h4, h5, h6, h7, h8⟩⟩ := h
  · injection h2 with e1 e2 e3
    subst e1 e2 e3
    obtain rfl := List.length_eq_zero_iff.1 h3
    refine (AnyG.slices_Sort_string_none Try.sortStr none 0 w).mono ?_
    rintro r w' ⟨rfl, rfl⟩
    exact ⟨rfl, (by rw [List.mergeSort_nil]; exact ownRow_nil _ _ _ _ _), ⟨rfl, rfl, rfl, Nat.le_refl _, fun _ _ _ => rfl⟩⟩
  · injection h2 with e1 e2 e3
    subst e1 e2 e3
    rw [str_enc] at h8
    have hH := holds_of_block (ss := ks) h4 (by simpa using h8)
    refine (AnyG.slices_Sort_string Try.sortStr g 0 cap ks w hH (Array.getElem?_eq_some_iff.1 h4).1 (by omega)).mono ?_
    rintro r w' ⟨rfl, m, os, rfl⟩
    refine ⟨rfl, ?_, grownBy_sorted _⟩
    unfold OwnRow
    rw [str_enc, keys_len]
    exact ownsRow_sorted (ss := ks) keys_len h3 h4 h5 h6 h7

theorem compact_same {ks : List Key} (h : ks.Nodup) : Lib.compact ks = ks := by
  refine compact_all ks fun j hj => ?_
  unfold keeps
  rw [decide_eq_true_eq]
  by_cases h0 : j = 0
  · exact .inl h0
  · right
    intro e
    have h1 : ks.toArray[j]! = ks[j] := by simp [getElem!_pos, hj]
    have h2 : ks.toArray[j - 1]! = ks[j - 1]'(by omega) := by
      have : j - 1 < ks.length := by omega
      simp [getElem!_pos, this]
    rw [h1, h2] at e
    have h3 := (List.nodup_iff_pairwise_ne.1 h)
    rw [List.pairwise_iff_getElem] at h3
    exact h3 (j - 1) j (by omega) hj (by omega) e.symm
theorem compact_own {w : World} {B : Nat} {a : Option Addr} {n cap : Nat} {ks : List Key} (h : OwnRow w B 9 1 strCell (.slice a n cap) ks) (hm : ks.length ≤ 1000000) (hd : ks.Nodup) :
    Calls Try.prog 24 #[.slice a n cap] w fun r w' => r = .returned (.slice a n cap) ∧ OwnRow w' B 9 1 strCell (.slice a n cap) ks ∧ w.grownBy w' (Value.slice a n cap).ownBlock := by
  have h' := h
  obtain ⟨h1, ⟨h2, h3⟩ | ⟨g, cap', cur, h2, h3, h4, h5, h6, h7, h8⟩⟩ := h
  · injection h2 with e1 e2 e3
    subst e1 e2 e3
    refine (calls_of_every_depth fun D => AnySG.slices_Compact_string_empty_in Try.compactStr D none 0 w).mono ?_
    rintro r w' ⟨rfl, rfl⟩
    exact ⟨rfl, h', ⟨rfl, rfl, rfl, Nat.le_refl _, fun _ _ _ => rfl⟩⟩
  · injection h2 with e1 e2 e3
    subst e1 e2 e3
    rw [str_enc] at h8
    have hH := holds_of_block (ss := ks) h4 (by simpa using h8)
    refine (calls_of_every_depth fun D => AnySG.slices_Compact_string_in Try.compactStr D g 0 cap ks w hH (by omega) h5).mono ?_
    rintro r w' ⟨rfl, q, rfl⟩
    rw [compact_same hd, Nat.sub_self, List.replicate_zero, List.append_nil]
    have e : putRow encStr (Sort.ahead w q) g 0 ks.toArray = Sort.ahead w q := putRow_self encStr (Sort.ahead w q) g 0 ks.toArray (holds_ahead encStr w q g 0 ks.toArray hH)
    rw [e]
    exact ⟨rfl, h', ⟨rfl, rfl, rfl, Nat.le_refl _, fun _ _ _ => rfl⟩⟩

end Go.Proofs.Ytopklnehhebhmaa

/- The library's Compact of a sorted row of keys of one's own: each once. -/
namespace Go.Proofs.Ytopklnehhebhmaa
open Go.RowKit Go.Shelf Go.Sort Go.Lib

theorem compact_upTo {S : List Key} (h : S.Pairwise (fun x y => decide (x ≤ y) = true)) : ∀ m, m ≤ S.length → (compactUpTo S.toArray m).Pairwise (· < ·) ∧ ∀ x, x ∈ compactUpTo S.toArray m ↔ x ∈ S.take m
  | 0, _ => ⟨List.Pairwise.nil, fun x => by simp [compactUpTo]⟩
  | m + 1, hm => by
    obtain ⟨h1, h2⟩ := compact_upTo h m (by omega)
    have hS : S.toArray[m]! = S[m] := by simp [getElem!_pos, show m < S.length by omega]
    rw [compactUpTo_succ, hS, List.take_succ_eq_append_getElem (by omega)]
    by_cases hk : keeps S.toArray m = true
    · rw [if_pos hk]
      refine ⟨List.pairwise_append.2 ⟨h1, List.pairwise_singleton _ _, fun x hx y hy => ?_⟩, fun x => by rw [List.mem_append, List.mem_append, h2]⟩
      obtain rfl := List.mem_singleton.1 hy
      obtain ⟨j, hj, rfl⟩ := List.getElem_of_mem ((h2 x).1 hx)
      have hjm : j < m := by rw [List.length_take] at hj; omega
      rw [List.getElem_take]
      unfold keeps at hk
      rw [decide_eq_true_eq] at hk
      have hne : S[m] ≠ S[m - 1] := by
        rcases hk with hk | hk
        · omega
        · rw [hS] at hk
          simpa [getElem!_pos, show m - 1 < S.length by omega] using hk
      have hle := List.pairwise_iff_getElem.1 h (m - 1) m (by omega) (by omega) (by omega)
      rw [decide_eq_true_eq] at hle
      have hlt : S[m - 1] < S[m] := Decidable.byContradiction fun hn => hne (List.le_antisymm (List.not_lt.1 hn) hle)
      by_cases e : j = m - 1
      · subst e; exact hlt
      · have hle2 := List.pairwise_iff_getElem.1 h j (m - 1) (by omega) (by omega) (by omega)
        rw [decide_eq_true_eq] at hle2
        exact Decidable.byContradiction fun hn => List.not_lt.2 (List.le_trans (List.not_lt.1 hn) hle2) hlt
    · rw [if_neg hk, List.append_nil]
      refine ⟨h1, fun x => ?_⟩
      unfold keeps at hk
      rw [decide_eq_true_eq] at hk
      have h0 : m ≠ 0 := fun e => hk (.inl e)
      have he : S[m] = S[m - 1] := Decidable.byContradiction fun hn => hk (.inr (by
        rw [hS]
        simpa [getElem!_pos, show m - 1 < S.length by omega] using hn))
      rw [h2, List.mem_append, List.mem_singleton, he]
      refine ⟨.inl, fun h => h.elim id fun e => ?_⟩
      rw [e]
      have : (S.take m)[m - 1]? = some S[m - 1] := by rw [List.getElem?_take_of_lt (by omega), List.getElem?_eq_getElem (by omega)]
      exact List.mem_of_getElem? this
theorem compact_sortK (ks : List Key) : Lib.compact (ks.mergeSort fun x y => decide (x ≤ y)) = sortK ks := by
  have tr : ∀ a b c : Key, decide (a ≤ b) = true → decide (b ≤ c) = true → decide (a ≤ c) = true := fun a b c h1 h2 => by simp only [decide_eq_true_eq] at *; exact List.le_trans h1 h2
  have tt : ∀ a b : Key, (decide (a ≤ b) || decide (b ≤ a)) = true := fun a b => by simp only [Bool.or_eq_true, decide_eq_true_eq]; exact List.le_total a b
  obtain ⟨h1, h2⟩ := compact_upTo (List.pairwise_mergeSort tr tt ks) _ (Nat.le_refl _)
  unfold Lib.compact
  refine sortK_unique (h1.imp fun h => decide_eq_true (List.le_of_lt h)) (h1.imp fun h => ?_) fun x => ?_
  · rintro rfl; exact List.lt_irrefl _ h
  · rw [h2, List.take_length, (List.mergeSort_perm _ _).mem_iff]
theorem heap_put {w : World} {g n : Nat} {cur : Array Value} {e : TypeId} {fr : Nat × Nat} (d : Array (List UInt8)) (hb : w.heap[g]? = some (.cells cur e fr)) :
    (putRow encStr (Sort.ahead w n) g 0 d).heap[g]? = some (.cells (putCells encStr 0 d cur) e fr) := by
  simp [putRow, mapBlock, Sort.ahead, Array.getElem?_modify, hb, onCells]
theorem grown_put {w : World} {g n : Nat} (d : Array (List UInt8)) : w.grownBy (putRow encStr (Sort.ahead w n) g 0 d) (some g) := by
  refine ⟨rfl, rfl, rfl, by simp [putRow, mapBlock, Sort.ahead], fun k hk hne => ?_⟩
  have : g ≠ k := fun e => hne (by rw [e])
  simp [putRow, mapBlock, Sort.ahead, Array.getElem?_modify, this]
/-- A row of one's own, sorted: each once. -/
theorem compact_any {w : World} {B : Nat} {a : Option Addr} {n cap : Nat} {ks : List Key} (h : OwnRow w B 9 1 strCell (.slice a n cap) ks) (hm : ks.length ≤ 1000000) :
    Calls Try.prog 24 #[.slice a n cap] w fun r w' => r = .returned (.slice a (Lib.compact ks).length cap) ∧ OwnRow w' B 9 1 strCell (.slice a (Lib.compact ks).length cap) (Lib.compact ks) ∧ w.grownBy w' (Value.slice a n cap).ownBlock := by
  have h' := h
  obtain ⟨h1, ⟨h2, h3⟩ | ⟨g, cap', cur, h2, h3, h4, h5, h6, h7, h8⟩⟩ := h
  · injection h2 with e1 e2 e3
    subst e1 e2 e3
    obtain rfl := List.length_eq_zero_iff.1 h3
    refine (calls_of_every_depth fun D => AnySG.slices_Compact_string_empty_in Try.compactStr D none 0 w).mono ?_
    rintro r w' ⟨rfl, rfl⟩
    exact ⟨rfl, h', ⟨rfl, rfl, rfl, Nat.le_refl _, fun _ _ _ => rfl⟩⟩
  · injection h2 with e1 e2 e3
    subst e1 e2 e3
    rw [str_enc] at h8
    have hH := holds_of_block (ss := ks) h4 (by simpa using h8)
    refine (calls_of_every_depth fun D => AnySG.slices_Compact_string_in Try.compactStr D g 0 cap ks w hH (by omega) h5).mono ?_
    rintro r w' ⟨rfl, q, rfl⟩
    have hle : (Lib.compact ks).length ≤ ks.length := by
      unfold Lib.compact compactUpTo
      rw [List.length_map]
      exact Nat.le_trans (List.length_filter_le _ _) (by simp)
    generalize Lib.compact ks = C at *
    have hT : (C ++ List.replicate (ks.length - C.length) ([] : Key)).length = ks.length := by simp; omega
    have ht := take_putCells cur (C ++ List.replicate (ks.length - C.length) ([] : Key)) (by rw [hT, h7]; omega)
    refine ⟨rfl, ⟨by rw [cellsL_length strCell_len], .inr ⟨g, cap, _, rfl, h3, heap_put _ h4, by omega, h6, by simp [putCells, h7], ?_⟩⟩, grown_put _⟩
    rw [str_enc, Nat.mul_one]
    have h9 := congrArg (List.take C.length) ht
    rw [List.take_take, Nat.min_eq_left (by rw [hT]; omega), List.map_append, List.take_left' (by simp)] at h9
    exact h9
end Go.Proofs.Ytopklnehhebhmaa

/- Layer 15's reports, plainly: their bytes, what the bytes say, and that there is one form; merged lists. -/
namespace Go.Proofs.Ytopklnehhebhmaa

/-- A number as two bytes. -/
def twoR (n : Nat) : List UInt8 := [UInt8.ofNat (n / 256), UInt8.ofNat (n % 256)]
/-- Keys' bytes. -/
def bodyR : List Key → List UInt8
  | [] => []
  | k :: l => twoR k.length ++ k ++ bodyR l
/-- So many keys off the front. -/
def takeR : Nat → List UInt8 → Option (List Key × List UInt8)
  | 0, s => some ([], s)
  | n + 1, a :: b :: s => if s.length < a.toNat * 256 + b.toNat then none else
      (takeR n (s.drop (a.toNat * 256 + b.toNat))).map fun q => (s.take (a.toNat * 256 + b.toNat) :: q.1, q.2)
  | _ + 1, _ => none
/-- Rising, each once. -/
def riseR : List Key → Bool
  | a :: b :: l => decide (a < b) && riseR (b :: l)
  | _ => true
def rightR (ok : Key → Bool) (ks : List Key) : Bool := ks.all ok && riseR ks && decide (ks.length ≤ 65535)
def flagR (c : Bool) : UInt8 := if c then 1 else 0
def printR (ok : Key → Bool) (ks : List Key) (c : Bool) : List UInt8 :=
  if rightR ok ks then flagR c :: (twoR ks.length ++ bodyR ks) else []
/-- What bytes say: the keys and whether it is complete, or the error. -/
def readR (ok : Key → Bool) : List UInt8 → Except Nat (List Key × Bool)
  | c :: a :: b :: t => match takeR (a.toNat * 256 + b.toNat) t with
    | none => .error 4
    | some (ks, r) => if 1 < c.toNat ∨ r ≠ [] ∨ rightR ok ks = false then .error 3 else .ok (ks, c == 1)
  | _ => .error 4

theorem twoR_val {n : Nat} (h : n < 65536) : (UInt8.ofNat (n / 256)).toNat * 256 + (UInt8.ofNat (n % 256)).toNat = n := by
  rw [UInt8.toNat_ofNat', UInt8.toNat_ofNat']; omega
theorem takeR_body {ks : List Key} (h : ∀ k ∈ ks, k.length < 65536) (r : List UInt8) : takeR ks.length (bodyR ks ++ r) = some (ks, r) := by
  induction ks with
  | nil => rfl
  | cons k ks ih =>
    have hk := h k List.mem_cons_self
    show takeR (ks.length + 1) (UInt8.ofNat (k.length / 256) :: UInt8.ofNat (k.length % 256) :: ((k ++ bodyR ks) ++ r)) = _
    rw [takeR, twoR_val hk, if_neg (by simp only [List.length_append]; omega), List.append_assoc, List.drop_left, List.take_left, ih fun x hx => h x (List.mem_cons_of_mem _ hx)]
    rfl
theorem takeR_some {n : Nat} {s : List UInt8} {ks : List Key} {r : List UInt8} (h : takeR n s = some (ks, r)) : s = bodyR ks ++ r ∧ ks.length = n ∧ ∀ k ∈ ks, k.length < 65536 := by
  induction n generalizing s ks r with
  | zero => simp only [takeR, Option.some.injEq, Prod.mk.injEq] at h; obtain ⟨rfl, rfl⟩ := h; exact ⟨rfl, rfl, by simp⟩
  | succ n ih =>
    match s, h with
    | a :: b :: s, h =>
      have ha := a.toNat_lt; have hb := b.toNat_lt
      rw [takeR] at h
      split at h
      · simp at h
      · rename_i hl
        cases e : takeR n (s.drop (a.toNat * 256 + b.toNat)) with
        | none => rw [e] at h; simp at h
        | some q =>
          obtain ⟨l, t⟩ := q
          rw [e] at h
          simp only [Option.map_some, Option.some.injEq, Prod.mk.injEq] at h
          obtain ⟨rfl, rfl⟩ := h
          obtain ⟨h1, h2, h3⟩ := ih e
          have hk : (s.take (a.toNat * 256 + b.toNat)).length = a.toNat * 256 + b.toNat := by rw [List.length_take]; omega
          refine ⟨?_, by rw [List.length_cons, h2], ?_⟩
          · show _ = (UInt8.ofNat _ :: UInt8.ofNat _ :: (_ ++ bodyR l)) ++ t
            rw [hk, show (a.toNat * 256 + b.toNat) / 256 = a.toNat by omega, show (a.toNat * 256 + b.toNat) % 256 = b.toNat by omega, UInt8.ofNat_toNat, UInt8.ofNat_toNat, List.cons_append, List.cons_append, List.append_assoc, ← h1]
            show _ = a :: b :: (List.take _ s ++ List.drop _ s)
            rw [List.take_append_drop]
          · intro k hm
            rcases List.mem_cons.1 hm with rfl | hm
            · rw [hk]; omega
            · exact h3 k hm
theorem flagR_one (c : Bool) : (flagR c == 1) = c := by cases c <;> rfl
/-- A report that may be, with keys of fewer than 65536 bytes, is read as it was. -/
theorem read_printR {ok : Key → Bool} {ks : List Key} {c : Bool} (h : rightR ok ks = true) (hk : ∀ k ∈ ks, k.length < 65536) : readR ok (printR ok ks c) = .ok (ks, c) := by
  have hn : ks.length ≤ 65535 := by simp only [rightR, Bool.and_eq_true, decide_eq_true_eq] at h; exact h.2
  rw [printR, if_pos h]
  show readR ok (flagR c :: UInt8.ofNat (ks.length / 256) :: UInt8.ofNat (ks.length % 256) :: bodyR ks) = _
  have := takeR_body hk []
  rw [List.append_nil] at this
  rw [readR, twoR_val (by omega), this]
  show (if 1 < (flagR c).toNat ∨ ([] : List UInt8) ≠ [] ∨ rightR ok ks = false then _ else _) = _
  rw [if_neg (by rintro (e | e | e); · cases c <;> exact absurd e (by decide)
                 · exact e rfl
                 · rw [h] at e; cases e), flagR_one]
/-- What is read is right, and printed it is the same bytes. -/
theorem print_readR {ok : Key → Bool} {s : List UInt8} {ks : List Key} {c : Bool} (h : readR ok s = .ok (ks, c)) : rightR ok ks = true ∧ printR ok ks c = s ∧ ∀ k ∈ ks, k.length < 65536 := by
  match s, h with
  | f :: a :: b :: t, h =>
    have ha := a.toNat_lt; have hb := b.toNat_lt
    rw [readR] at h
    cases e : takeR (a.toNat * 256 + b.toNat) t with
    | none => rw [e] at h; simp at h
    | some q =>
      obtain ⟨l, r⟩ := q
      rw [e] at h
      simp only at h
      split at h
      · simp at h
      · rename_i hn
        simp only [not_or, Decidable.not_not, Nat.not_lt] at hn
        obtain ⟨hf, rfl, hr⟩ := hn
        simp only [Except.ok.injEq, Prod.mk.injEq] at h
        obtain ⟨rfl, rfl⟩ := h
        obtain ⟨h1, h2, h3⟩ := takeR_some e
        rw [List.append_nil] at h1
        have hr : rightR ok l = true := by simpa using hr
        refine ⟨hr, ?_, h3⟩
        rw [printR, if_pos hr, h2, h1]
        show _ :: UInt8.ofNat _ :: UInt8.ofNat _ :: _ = _
        rw [show (a.toNat * 256 + b.toNat) / 256 = a.toNat by omega, show (a.toNat * 256 + b.toNat) % 256 = b.toNat by omega, UInt8.ofNat_toNat, UInt8.ofNat_toNat]
        have : flagR (f == 1) = f := by
          have h01 : f = 0 ∨ f = 1 := by
            rcases Nat.lt_or_ge f.toNat 1 with h | h
            · left; apply UInt8.toNat_inj.1; show f.toNat = 0; omega
            · right; apply UInt8.toNat_inj.1; show f.toNat = 1; omega
          rcases h01 with rfl | rfl <;> rfl
        rw [this]
        rfl
theorem printR_ne {ok : Key → Bool} {ks : List Key} {c : Bool} (h : rightR ok ks = true) : printR ok ks c ≠ [] := by
  rw [printR, if_pos h]; exact List.cons_ne_nil _ _
/-- One form: reports that may be with the same bytes are the same. -/
theorem printR_inj {ok : Key → Bool} {ks ls : List Key} {c d : Bool} (h : rightR ok ks = true) (h' : rightR ok ls = true) (hk : ∀ k ∈ ks, k.length < 65536) (hl : ∀ k ∈ ls, k.length < 65536) (e : printR ok ks c = printR ok ls d) : ks = ls ∧ c = d := by
  have h1 := read_printR (c := c) h hk
  rw [e, read_printR h' hl] at h1
  simp only [Except.ok.injEq, Prod.mk.injEq] at h1
  exact ⟨h1.1.symm, h1.2.symm⟩

theorem sortK_nodup (ks : List Key) : (sortK ks).Nodup := (List.mergeSort_perm _ _).nodup_iff.2 (nodup_dedupK ks)
theorem sortK_rise (ks : List Key) : (sortK ks).Pairwise (fun x y => decide (x ≤ y) = true) :=
  List.pairwise_mergeSort (fun a b c h1 h2 => by simp only [decide_eq_true_eq] at *; exact List.le_trans h1 h2)
    (fun a b => by simp only [Bool.or_eq_true, decide_eq_true_eq]; exact List.le_total a b) _
/-- Merged lists: whatever lists the same keys stand in. -/
def mergeR (ls : List (List Key)) : List Key := sortK ls.flatten
theorem mem_mergeR {ls : List (List Key)} {x : Key} : x ∈ mergeR ls ↔ ∃ l ∈ ls, x ∈ l := by
  unfold mergeR; rw [mem_sortK, List.mem_flatten]
theorem sortK_congr {ks ls : List Key} (h : ∀ x, x ∈ ks ↔ x ∈ ls) : sortK ks = sortK ls :=
  sortK_unique (sortK_rise ks) (sortK_nodup ks) fun x => by rw [mem_sortK, h]
theorem mergeR_congr {ks ls : List (List Key)} (h : ∀ x, (∃ l ∈ ks, x ∈ l) ↔ ∃ l ∈ ls, x ∈ l) : mergeR ks = mergeR ls :=
  sortK_congr fun x => by rw [List.mem_flatten, List.mem_flatten]; exact h x
theorem mergeR_again (ks : List Key) : mergeR [sortK ks] = sortK ks := by
  refine (sortK_unique (sortK_rise _) (sortK_nodup _) fun x => ?_).symm
  simp
theorem mergeR_both (ks ls : List Key) : mergeR [sortK ks, sortK ls] = mergeR [ks, ls] :=
  mergeR_congr fun x => by simp [mem_sortK]
theorem riseR_iff : ∀ {l : List Key}, riseR l = true ↔ ∀ i (h : i + 1 < l.length), l[i] < l[i + 1]
  | [] => by simp [riseR]
  | [a] => by simp [riseR]
  | a :: b :: l => by
    rw [riseR, Bool.and_eq_true, decide_eq_true_eq, riseR_iff]
    constructor
    · rintro ⟨h1, h2⟩ i h
      cases i with
      | zero => exact h1
      | succ i => exact h2 i (by simp only [List.length_cons] at h ⊢; omega)
    · intro h
      exact ⟨h 0 (by simp), fun i hi => h (i + 1) (by simp only [List.length_cons] at hi ⊢; omega)⟩
theorem riseR_sortK (ks : List Key) : riseR (sortK ks) = true := by
  refine riseR_iff.2 fun i h => ?_
  have h1 := List.pairwise_iff_getElem.1 (sortK_rise ks) i (i + 1) (by omega) h (by omega)
  have h2 := List.pairwise_iff_getElem.1 (sortK_nodup ks) i (i + 1) (by omega) h (by omega)
  simp only [decide_eq_true_eq] at h1
  exact Decidable.byContradiction fun hn => h2 (List.le_antisymm h1 (List.not_lt.1 hn))
/-- Rising keys of the same set are the same row. -/
theorem riseR_unique {ks ls : List Key} (h1 : riseR ks = true) (h : ∀ x, x ∈ ks ↔ x ∈ ls) : ks = sortK ls := by
  have lt : ks.Pairwise (fun x y => x < y) := by
    clear h
    induction ks with
    | nil => exact List.Pairwise.nil
    | cons a l ih =>
      cases l with
      | nil => exact List.pairwise_singleton _ _
      | cons b l =>
        rw [riseR, Bool.and_eq_true, decide_eq_true_eq] at h1
        have hp := ih h1.2
        refine List.pairwise_cons.2 ⟨fun x hx => ?_, hp⟩
        rcases List.mem_cons.1 hx with rfl | hx
        · exact h1.1
        · exact List.lt_trans h1.1 ((List.pairwise_cons.1 hp).1 x hx)
  refine sortK_unique (lt.imp fun h => ?_) (lt.imp fun h => ?_) h
  · exact decide_eq_true (List.le_of_lt h)
  · rintro rfl; exact List.lt_irrefl _ h
end Go.Proofs.Ytopklnehhebhmaa

/- Layer 15: keys read off bytes, one behind the other: what a loop over them keeps. -/
namespace Go.Proofs.Ytopklnehhebhmaa

/-- The number that two bytes of `u` say. -/
def numR (u : List UInt8) (i : Nat) : Nat := (u.getD i 0).toNat * 256 + (u.getD (i + 1) 0).toNat
theorem numR_lt (u : List UInt8) (i : Nat) : numR u i < 65536 := by
  have h1 := (u.getD i 0).toNat_lt; have h2 := (u.getD (i + 1) 0).toNat_lt; unfold numR; omega
theorem drop_two {u : List UInt8} {i : Nat} (h : i + 2 ≤ u.length) : u.drop i = u.getD i 0 :: u.getD (i + 1) 0 :: u.drop (i + 2) := by
  rw [List.drop_eq_getElem_cons (by omega), List.drop_eq_getElem_cons (i := i + 1) (by omega)]
  simp only [List.getD_eq_getElem?_getD, List.getElem?_eq_getElem (show i < u.length by omega), List.getElem?_eq_getElem (show i + 1 < u.length by omega), Option.getD_some]
/-- Behind i keys of n, the first of which begins at c: the next one begins at `p`. -/
structure ReadR (u : List UInt8) (c n i p : Nat) (ks : List Key) : Prop where
  tells : takeR n (u.drop c) = (takeR (n - i) (u.drop p)).map fun q => (ks ++ q.1, q.2)
  count : ks.length = i
  le : p ≤ u.length
  small : ∀ k ∈ ks, k.length < 65536
theorem readR_start {u : List UInt8} {c : Nat} (n : Nat) (h : c ≤ u.length) : ReadR u c n 0 c [] where
  tells := by
    show _ = (takeR n (u.drop c)).map fun q => ([] ++ q.1, q.2)
    cases takeR n (u.drop c) <;> rfl
  count := rfl
  le := h
  small := by simp
theorem takeR_short {n : Nat} {u : List UInt8} {p : Nat} (h : u.length < p + 2) : takeR (n + 1) (u.drop p) = none := by
  have hl : (u.drop p).length < 2 := by rw [List.length_drop]; omega
  match e : u.drop p, hl with
  | [], _ => rfl
  | [_], _ => rfl
  | _ :: _ :: _, hl => simp only [List.length_cons] at hl; omega
theorem ReadR.short {u : List UInt8} {c n i p : Nat} {ks : List Key} (h : ReadR u c n i p ks) (hi : i < n) (hp : u.length < p + 2) : takeR n (u.drop c) = none := by
  rw [h.tells, show n - i = (n - i - 1) + 1 by omega, takeR_short hp]; rfl
theorem ReadR.cut {u : List UInt8} {c n i p : Nat} {ks : List Key} (h : ReadR u c n i p ks) (hi : i < n) (hp : p + 2 ≤ u.length) (hk : u.length < p + 2 + numR u p) : takeR n (u.drop c) = none := by
  rw [h.tells, show n - i = (n - i - 1) + 1 by omega, drop_two hp, takeR, if_pos (by rw [List.length_drop]; unfold numR at hk; omega)]; rfl
theorem ReadR.next {u : List UInt8} {c n i p : Nat} {ks : List Key} (h : ReadR u c n i p ks) (hi : i < n) (hk : p + 2 + numR u p ≤ u.length) : ReadR u c n (i + 1) (p + 2 + numR u p) (ks ++ [(u.drop (p + 2)).take (numR u p)]) where
  tells := by
    rw [h.tells, show n - i = (n - (i + 1)) + 1 by omega, drop_two (show p + 2 ≤ u.length by omega), takeR, if_neg (by rw [List.length_drop]; unfold numR at hk; omega), List.drop_drop]
    show ((takeR _ (u.drop (p + 2 + numR u p))).map _).map _ = _
    cases takeR (n - (i + 1)) (u.drop (p + 2 + numR u p)) with
    | none => rfl
    | some q => simp only [Option.map_some, List.append_assoc, List.singleton_append]; rfl
  count := by rw [List.length_append, h.count]; rfl
  le := hk
  small := fun k hm => by
    rcases List.mem_append.1 hm with hm | hm
    · exact h.small k hm
    · rw [List.mem_singleton.1 hm, List.length_take]
      have := numR_lt u p
      omega
theorem ReadR.done {u : List UInt8} {c n p : Nat} {ks : List Key} (h : ReadR u c n n p ks) : takeR n (u.drop c) = some (ks, u.drop p) := by
  rw [h.tells, Nat.sub_self, takeR]; simp
theorem three_of {u : List UInt8} (h : 3 ≤ u.length) : ∃ f a b t, u = f :: a :: b :: t := by
  match u, h with
  | f :: a :: b :: t, _ => exact ⟨f, a, b, t, rfl⟩
theorem numR_cons (f a b : UInt8) (t : List UInt8) : numR (f :: a :: b :: t) 1 = a.toNat * 256 + b.toNat := rfl
/-- What the whole says, once its keys are read. -/
theorem readR_done {ok : Key → Bool} {u : List UInt8} {p : Nat} {ks : List Key} (h3 : 3 ≤ u.length) (h : ReadR u 3 (numR u 1) (numR u 1) p ks) :
    readR ok u = if 1 < (u.getD 0 0).toNat ∨ p ≠ u.length ∨ rightR ok ks = false then .error 3 else .ok (ks, u.getD 0 0 == 1) := by
  have hd := h.done
  have hle := h.le
  clear h
  obtain ⟨f, a, b, t, rfl⟩ := three_of h3
  rw [numR_cons] at hd
  have e3 : (f :: a :: b :: t).drop 3 = t := rfl
  rw [e3] at hd
  rw [readR, hd]
  have hp : (f :: a :: b :: t).drop p ≠ [] ↔ p ≠ (f :: a :: b :: t).length := by
    rw [Ne, List.drop_eq_nil_iff]
    omega
  show (if 1 < f.toNat ∨ (f :: a :: b :: t).drop p ≠ [] ∨ rightR ok ks = false then _ else _) = _
  simp only [hp]
  rfl
theorem readR_few {ok : Key → Bool} {u : List UInt8} (h : u.length < 3) : readR ok u = .error 4 := by
  match u, h with
  | [], _ => rfl
  | [_], _ => rfl
  | [_, _], _ => rfl
  | _ :: _ :: _ :: _, h => simp only [List.length_cons] at h; omega
theorem readR_none {ok : Key → Bool} {u : List UInt8} (h3 : 3 ≤ u.length) (h : takeR (numR u 1) (u.drop 3) = none) : readR ok u = .error 4 := by
  obtain ⟨f, a, b, t, rfl⟩ := three_of h3
  rw [numR_cons] at h
  have e3 : (f :: a :: b :: t).drop 3 = t := rfl
  rw [e3] at h
  rw [readR, h]
theorem bodyR_append (a b : List Key) : bodyR (a ++ b) = bodyR a ++ bodyR b := by
  induction a with
  | nil => rfl
  | cons k l ih => simp only [List.cons_append, bodyR, ih, List.append_assoc]
theorem bodyR_take {ks : List Key} {i : Nat} (h : i < ks.length) : bodyR (ks.take (i + 1)) = bodyR (ks.take i) ++ (twoR ks[i].length ++ ks[i]) := by
  rw [List.take_succ_eq_append_getElem h, bodyR_append, bodyR, bodyR, List.append_nil]
theorem bodyR_len {ks : List Key} {m : Nat} (h : ∀ k ∈ ks, k.length ≤ m) : (bodyR ks).length ≤ ks.length * (m + 2) := by
  induction ks with
  | nil => exact Nat.zero_le _
  | cons k l ih =>
    have h1 := h k List.mem_cons_self
    have h2 := ih fun x hx => h x (List.mem_cons_of_mem _ hx)
    simp only [bodyR, List.length_append, List.length_cons, twoR, List.length_nil, Nat.add_mul]
    omega
/-- Right, told by places: what a loop over the keys finds. -/
theorem rightR_iff {ok : Key → Bool} {ks : List Key} : rightR ok ks = true ↔ (∀ i (h : i < ks.length), ok ks[i] = true ∧ (0 < i → ks[i - 1] < ks[i])) ∧ ks.length ≤ 65535 := by
  rw [rightR, Bool.and_eq_true, Bool.and_eq_true, decide_eq_true_eq, riseR_iff, List.all_eq_true]
  refine and_congr_left fun _ => ⟨fun ⟨h1, h2⟩ i h => ⟨h1 _ (List.getElem_mem h), fun hi => ?_⟩, fun h => ⟨fun x hx => ?_, fun i hi => (h (i + 1) hi).2 (Nat.succ_pos _)⟩⟩
  · obtain ⟨j, rfl⟩ : ∃ j, i = j + 1 := ⟨i - 1, by omega⟩
    exact h2 j h
  · obtain ⟨i, hi, rfl⟩ := List.getElem_of_mem hx
    exact (h i hi).1
theorem rightR_no {ok : Key → Bool} {ks : List Key} {i : Nat} (h : i < ks.length) (hn : ok ks[i] = false ∨ 0 < i ∧ ks[i] ≤ ks[i - 1]) : rightR ok ks = false := by
  refine Bool.eq_false_iff.2 fun e => ?_
  obtain ⟨h1, h2⟩ := (rightR_iff.1 e).1 i h
  rcases hn with hn | ⟨hi, hn⟩
  · rw [hn] at h1; cases h1
  · exact List.not_lt.2 hn (h2 hi)
/-- Merged keys are right, where each is a key and they aren't too many. -/
theorem rightR_sortK {ok : Key → Bool} {ks : List Key} (h : ∀ k ∈ ks, ok k = true) (hl : ks.length ≤ 65535) : rightR ok (sortK ks) = true := by
  rw [rightR, Bool.and_eq_true, Bool.and_eq_true, decide_eq_true_eq, List.all_eq_true]
  exact ⟨⟨fun x hx => h x (mem_sortK.1 hx), riseR_sortK ks⟩, Nat.le_trans (sortK_len ks) hl⟩
end Go.Proofs.Ytopklnehhebhmaa

/- Two bytes as a number: the program's number and spell, and the document's two. -/
namespace Go.Proofs.Ytopklnehhebhmaa
open Go Go.RowKit

theorem i64_ofInt (n : Nat) (h : n < 18446744073709551616) : (BitVec.ofInt 64 (n : Int)).toNat = n := by
  rw [BitVec.ofInt_natCast, BitVec.toNat_ofNat]
  exact Nat.mod_eq_of_lt h
theorem or_shift (n m : Nat) (hm : m < 256) : n * 256 ||| m = n * 256 + m := by
  have h := Nat.shiftLeft_add_eq_or_of_lt (i := 8) (b := m) (by omega) n
  rw [Nat.shiftLeft_eq] at h
  exact h.symm
theorem bits_or_i64 (n m : Nat) (hn : n < 256) (hm : m < 256) : bits .or .i64 ((n * 256 : Nat) : Int) (m : Int) = ((n * 256 + m : Nat) : Int) := by
  show IntKind.i64.wrap ((BitVec.ofInt 64 ((n * 256 : Nat) : Int) ||| BitVec.ofInt 64 (m : Int)).toNat : Int) = _
  rw [BitVec.toNat_or, i64_ofInt _ (by omega), i64_ofInt _ (by omega), or_shift _ _ hm]
  exact IntWalk.i64_in _ (by omega)

set_option maxRecDepth 100000 in
theorem number_any (s : List UInt8) (w : World) (h2 : 2 ≤ s.length) (hm : s.length ≤ 1000000) :
    Calls Try.prog 27 #[.string ⟨s.toArray⟩] w fun r w' => r = .returned (.int .i64 ((numR s 0 : Nat) : Int)) ∧ Below w.heap.size w w' := by
  obtain ⟨c, d, t, rfl⟩ : ∃ c d t, s = c :: d :: t := by
    match s, h2 with
    | c :: d :: t, _ => exact ⟨c, d, t, rfl⟩
  have bc := UInt8.toNat_lt c
  have bd := UInt8.toNat_lt d
  have vc : IntKind.i64.wrap (c.toNat : Int) = c.toNat := IntWalk.i64_in _ (by omega)
  have vd : IntKind.i64.wrap (d.toNat : Int) = d.toNat := IntWalk.i64_in _ (by omega)
  have HN : Hid (((numR (c :: d :: t) 0 : Nat) : Int) = ((c.toNat * 256 + d.toNat : Nat) : Int)) := rfl
  have hsz : (⟨(c :: d :: t).toArray⟩ : ByteArray).size = t.length + 2 := rfl
  have hi0 : ∀ h : 0 < (⟨(c :: d :: t).toArray⟩ : ByteArray).size, (⟨(c :: d :: t).toArray⟩ : ByteArray)[0] = c := fun _ => rfl
  have hi1 : ∀ h : 1 < (⟨(c :: d :: t).toArray⟩ : ByteArray).size, (⟨(c :: d :: t).toArray⟩ : ByteArray)[1] = d := fun _ => rfl
  have HOR : Hid (bits .or .i64 ((c.toNat : Int) * 256) d.toNat = ((numR (c :: d :: t) 0 : Nat) : Int)) := by
    show _ = _
    rw [HN.out, ← bits_or_i64 c.toNat d.toNat bc bd]
    norm_cast
  go_enter Try.func27, Try.ntmps27
  go_wp2_with fail
  go_quiet (fail)
  go_wp2
  go_ret
  exact ⟨congrArg (fun x => Ending.returned (.int .i64 x)) HOR.out, (Below.refl _ _).drewN⟩

/-- Bytes as numbers. -/
def ofU (s : List UInt8) : List Int := s.map fun c => (c.toNat : Int)
theorem ofU_append (a b : List UInt8) : ofU (a ++ b) = ofU a ++ ofU b := by simp [ofU]
theorem ofU_length (a : List UInt8) : (ofU a).length = a.length := by simp [ofU]
theorem bstr_ofU (s : List UInt8) : bstr (ofU s) = ⟨s.toArray⟩ := by
  unfold bstr ofU
  rw [List.map_map]
  have e : ((fun n : Int => UInt8.ofNat n.toNat) ∘ fun c : UInt8 => (c.toNat : Int)) = id := by
    funext c
    simp
  rw [e, List.map_id]
theorem ofU_two {n : Nat} (h : n < 65536) : ofU (twoR n) = [((n / 256 : Nat) : Int), ((n % 256 : Nat) : Int)] := by
  show [((UInt8.ofNat (n / 256)).toNat : Int), ((UInt8.ofNat (n % 256)).toNat : Int)] = _
  rw [UInt8.toNat_ofNat', UInt8.toNat_ofNat', Nat.mod_eq_of_lt (show n / 256 < 2 ^ 8 by omega), Nat.mod_eq_of_lt (show n % 256 < 2 ^ 8 by omega)]

set_option maxRecDepth 100000 in
theorem rspell_any {B : Nat} {v : Value} {bs : List UInt8} {w : World} (n : Nat) (h : OwnB w B v (ofU bs)) (hn : n < 65536) (hB : B ≤ w.heap.size) (hl : bs.length ≤ 100000000) :
    Calls Try.prog 17 #[v, .int .i64 (n : Nat)] w fun r w' => ∃ v', r = .returned v' ∧ OwnB w' B v' (ofU (bs ++ twoR n)) ∧ Below B w w' := by
  have HT : Hid (ofU (bs ++ twoR n) = ofU bs ++ [((n / 256 : Nat) : Int), ((n % 256 : Nat) : Int)]) := by
    show _ = _
    rw [ofU_append, ofU_two hn]
  have h1 : IntKind.u8.wrap ((n : Int) / 256) = ((n / 256 : Nat) : Int) := by
    rw [show (n : Int) / 256 = ((n / 256 : Nat) : Int) by omega]
    exact IntWalk.u8_in _ (by omega)
  have h2 : IntKind.u8.wrap (n : Int) = ((n % 256 : Nat) : Int) := by
    simp [IntKind.wrap, IntKind.bits, IntKind.signed]
  have hln := ofU_length bs
  generalize n / 256 = x at *
  generalize n % 256 = y at *
  go_enter Try.func17, Try.ntmps17
  go_wp2_with (at_builtin; refine wp_appendB rfl _ _ rfl B _ (ofU bs) rfl (h.alloc _) ⟨w.heap.size, 0, none⟩ 2 2 rfl [(x : Int), (y : Int)] rfl (bytes_new w [(x : Int), (y : Int)] _ _ rfl) (by omega) (by simp; omega) ?_; intro v1 w4 hown4 hb4; have HO4 := Lib.hid hown4; have HB4 : Hid (Below B w w4) := ((Below.refl B w).alloc hB _).trans hb4; clear hown4 hb4)
  go_ret
  exact ⟨v1, rfl, (by rw [HT.out]; exact HO4.out), HB4.out⟩

set_option maxRecDepth 100000 in
theorem refTwo_any (n : Nat) (w : World) (hn : n < 65536) :
    Calls Try.prog 19 #[.int .i64 (n : Nat)] w fun r w' => r = .returned (.string ⟨(twoR n).toArray⟩) ∧ Below w.heap.size w w' := by
  have HT : Hid ((⟨(twoR n).toArray⟩ : ByteArray) = bstr [((n / 256 : Nat) : Int), ((n % 256 : Nat) : Int)]) := by
    show _ = _
    rw [← bstr_ofU, ofU_two hn]
  have h1 : IntKind.u8.wrap ((n : Int) / 256) = ((n / 256 : Nat) : Int) := by
    rw [show (n : Int) / 256 = ((n / 256 : Nat) : Int) by omega]
    exact IntWalk.u8_in _ (by omega)
  have h2 : IntKind.u8.wrap ((n : Int) % 256) = ((n % 256 : Nat) : Int) := by
    rw [show (n : Int) % 256 = ((n % 256 : Nat) : Int) by omega]
    exact IntWalk.u8_in _ (by omega)
  generalize n / 256 = x at *
  generalize n % 256 = y at *
  have hcv : (convert 39 9 (.slice (some ⟨w.heap.size, 0, none⟩) 2 2)).run Try.prog (w.alloc (.cells #[.int .u8 (x : Int), .int .u8 (y : Int)] 5)) = .ok (.string (bstr [(x : Int), (y : Int)])) (w.alloc (.cells #[.int .u8 (x : Int), .int .u8 (y : Int)] 5)) := run_bstr (ownB_made w _ (Nat.le_refl _) [(x : Int), (y : Int)] (by simp [maxLen])) (by simp)
  go_enter Try.func19, Try.ntmps19
  go_wp2
  go_ret
  exact ⟨congrArg (fun x => Ending.returned (.string x)) HT.out.symm, below_alloc1 _ _⟩
end Go.Proofs.Ytopklnehhebhmaa

/- The library's copy of a text, laid at this dump. -/
namespace Go.Proofs
open Go.Shelf Go.RowKit
def Try.strClone_ren : Go.Shelf.Ren := ⟨fun | 316 => 34 | n => n, fun | 9 => 9 | 3 => 3 | 4 => 4 | 37 => 39 | 0 => 0 | 127 => 90 | 5 => 5 | n => n, fun | n => n⟩
theorem Try.strClone : Go.Proofs.LaysM.n316 Try.prog Try.strClone_ren := {
  mixed := by kernel_rfl
  f316 := Try.func34.trans (congrArg some (by kernel_rfl))
  t0 := Try.underlying0
  a0 := Try.isAgg0
  z0 := Try.sizeOf0
  v0 := Try.zeroValue0
  t3 := Try.underlying3
  a3 := Try.isAgg3
  z3 := Try.sizeOf3
  v3 := Try.zeroValue3
  t4 := Try.underlying4
  a4 := Try.isAgg4
  z4 := Try.sizeOf4
  v4 := Try.zeroValue4
  t9 := Try.underlying9
  a9 := Try.isAgg9
  z9 := Try.sizeOf9
  v9 := Try.zeroValue9
  t37 := Try.underlying39
  a37 := Try.isAgg39
  z37 := Try.sizeOf39
  v37 := Try.zeroValue39
  t127 := Try.underlying90
  a127 := Try.isAgg90
  z127 := Try.sizeOf90
  v127 := Try.zeroValue90
  t5 := Try.underlying5
  a5 := Try.isAgg5
  z5 := Try.sizeOf5
  v5 := Try.zeroValue5
  i0 := by kernel_rfl
  i3 := by kernel_rfl
  i4 := by kernel_rfl
  i5 := by kernel_rfl
  i9 := by kernel_rfl
  i37 := by kernel_rfl
  i127 := by kernel_rfl }
theorem Try.lite_clone (s : ByteArray) (w : World) (hlim : s.size ≤ 281474976710656) : Calls Try.prog 34 #[.string s] w fun e w' => e = .returned (.string s) ∧ Below w.heap.size w w' := Any.stringslite_Clone Try.strClone s w hlim
end Go.Proofs

/- The library's copy of a text, as a list of bytes. -/
namespace Go.Proofs.Ytopklnehhebhmaa
open Go.RowKit

set_option maxRecDepth 100000 in
theorem clone_txt (k : Txt) (w : World) (hk : k.length ≤ 281474976710656) : Calls Try.prog 25 #[.string ⟨k.toArray⟩] w fun r w' => r = .returned (.string ⟨k.toArray⟩) ∧ Below w.heap.size w w' := by
  have HC := Lib.hid (Try.lite_clone ⟨k.toArray⟩ w (by simp [ByteArray.size]; omega))
  go_enter Try.func25, Try.ntmps25
  go_wp2_with fail
  refine HC.out.mono ?_
  rintro r w1 ⟨rfl, hb⟩
  go_wp2
  go_ret
  exact ⟨rfl, hb⟩
end Go.Proofs.Ytopklnehhebhmaa

/- Reports read off bytes: what the loops keep in memory; the contract of the report's parse. -/
namespace Go.Proofs.Ytopklnehhebhmaa
open Go.RowKit

/-- A result's box, and a box for what is read, and the row of keys that were read. -/
structure RpM (ty : TypeId) (w : World) (v : Value) (ks : List Key) (c : Bool) (wr : World) : Prop where
  res : wr.heap[w.heap.size]? = some (.cells #[.slice none 0 0, .bool false] ty (0, 0))
  box : wr.heap[w.heap.size + 1]? = some (.cells #[v, .bool c] ty (0, 0))
  row : OwnRow wr (w.heap.size + 2) 9 1 strCell v ks
  below : Below w.heap.size w wr
  big : w.heap.size + 2 ≤ wr.heap.size
theorem rpM_start (ty : TypeId) (w : World) (c : Bool) : RpM ty w (.slice none 0 0) [] c ((w.alloc (.cells #[.slice none 0 0, .bool false] ty)).alloc (.cells #[.slice none 0 0, .bool c] ty)) where
  res := ((below_alloc1 (w.alloc (.cells #[.slice none 0 0, .bool false] ty)) (.cells #[.slice none 0 0, .bool c] ty)).block w.heap.size (by simp)).trans (heap_alloc_new w _)
  box := by
    have h := heap_alloc_new (w.alloc (.cells #[.slice none 0 0, .bool false] ty)) (.cells #[.slice none 0 0, .bool c] ty)
    rw [World.size_alloc] at h
    exact h
  row := ownRow_nil _ _ _ _ _
  below := below_alloc2 _ _ _
  big := by simp
theorem RpM.later {ty : TypeId} {w : World} {v : Value} {ks : List Key} {c : Bool} {wr w1 : World} (h : RpM ty w v ks c wr) (hb : Below wr.heap.size wr w1) : RpM ty w v ks c w1 where
  res := (hb.block _ (by have := h.big; omega)).trans h.res
  box := (hb.block _ (by have := h.big; omega)).trans h.box
  row := h.row.later hb
  below := h.below.trans (hb.mono h.below.size)
  big := Nat.le_trans h.big hb.size
theorem RpM.cells {ty : TypeId} {w : World} {v : Value} {ks : List Key} {c : Bool} {wr : World} (h : RpM ty w v ks c wr) :
    (wr.cell? ⟨w.heap.size, 0, none⟩ = some (.slice none 0 0) ∧ wr.cell? ⟨w.heap.size, 1, none⟩ = some (.bool false) ∧ wr.cell? ⟨w.heap.size + 1, 0, none⟩ = some v ∧ wr.cell? ⟨w.heap.size + 1, 1, none⟩ = some (.bool c)) ∧ (∀ j, wr.frozen? ⟨w.heap.size, j, none⟩ = false) ∧ ∀ j, wr.frozen? ⟨w.heap.size + 1, j, none⟩ = false :=
  ⟨⟨by rw [cell_of_row _ _ 0 _ _ _ h.res]; rfl, by rw [cell_of_row _ _ 1 _ _ _ h.res]; rfl, by rw [cell_of_row _ _ 0 _ _ _ h.box]; rfl, by rw [cell_of_row _ _ 1 _ _ _ h.box]; rfl⟩, fun j => by simp [World.frozen?, h.res], fun j => by simp [World.frozen?, h.box]⟩
/-- One key more: behind the copy, behind the literal, behind the append. -/
theorem RpM.grow {ty : TypeId} {w : World} {v : Value} {ks : List Key} {c : Bool} {wr w1 : World} (h : RpM ty w v ks c wr) (hb : Below wr.heap.size wr w1) (x : Key) :
    w1.cell? ⟨w.heap.size + 1, 0, none⟩ = some v ∧ (w1.alloc (.cells #[.string ⟨x.toArray⟩] 9)).cell? ⟨w.heap.size + 1, 0, none⟩ = some v ∧ OwnRow (w1.alloc (.cells #[.string ⟨x.toArray⟩] 9)) (w.heap.size + 2) 9 1 strCell v ks ∧ w.heap.size + 2 ≤ (w1.alloc (.cells #[.string ⟨x.toArray⟩] 9)).heap.size ∧
    ∀ v3 W3, OwnRow W3 (w.heap.size + 2) 9 1 strCell v3 (ks ++ [x]) → Below (w.heap.size + 2) (w1.alloc (.cells #[.string ⟨x.toArray⟩] 9)) W3 → W3.cell? ⟨w.heap.size + 1, 0, none⟩ = some v ∧ W3.frozen? ⟨w.heap.size + 1, 0, none⟩ = false ∧ RpM ty w v3 (ks ++ [x]) c (W3.setCell ⟨w.heap.size + 1, 0, none⟩ v3) := by
  have h1 := h.later hb
  have h2 := h1.later (below_alloc1 w1 (.cells #[.string ⟨x.toArray⟩] 9))
  refine ⟨h1.cells.1.2.2.1, h2.cells.1.2.2.1, h2.row, h2.big, fun v3 W3 hv3 hb3 => ?_⟩
  have hres := (hb3.block w.heap.size (by omega)).trans h2.res
  have hbox := (hb3.block (w.heap.size + 1) (by omega)).trans h2.box
  refine ⟨by rw [cell_of_row _ _ 0 _ _ _ hbox]; rfl, by simp [World.frozen?, hbox], ?_, ?_, ?_, ?_, ?_⟩
  · exact (Below.heap_setCell _ _ _ _ (by simp)).trans hres
  · rw [heap_setCell_same _ _ 0 _ _ _ hbox]; rfl
  · exact ownsRow_setCell_below (a := ⟨w.heap.size + 1, 0, none⟩) hv3 (Nat.lt_succ_self _) v3
  · exact (h2.below.trans (hb3.mono (by omega))).setCell (p := ⟨w.heap.size + 1, 0, none⟩) (Nat.le_succ _) v3
  · have := hb3.size
    have := h2.big
    simp only [World.size_setCell]
    omega
theorem numR_drop (u : List UInt8) (p : Nat) : numR (u.drop p) 0 = numR u p := by
  unfold numR
  simp [List.getD, List.getElem?_drop]
theorem slice_from {u : List UInt8} {i : Nat} {z : Int} (hz : z = i) (h : i ≤ u.length) (W : World) : (Instr.slice 9 (.string ⟨u.toArray⟩) (some (.int .i64 z)) none none).run Try.prog W = .ok (.string ⟨(u.drop i).toArray⟩) W := by
  subst hz
  have hsz : (⟨u.toArray⟩ : ByteArray).size = u.length := rfl
  rw [run_slice_string_l (P := Try.prog) (t := 9) (s := ⟨u.toArray⟩) (w := W) Try.underlying9 .i64 (i : Int) (by omega) (by rw [hsz]; omega), hsz, cut_mid, List.take_length]
  rfl
theorem slice_two {u : List UInt8} {i j : Nat} {y z : Int} (hy : y = i) (hz : z = (i + j : Nat)) (h : i + j ≤ u.length) (W : World) : (Instr.slice 9 (.string ⟨u.toArray⟩) (some (.int .i64 y)) (some (.int .i64 z)) none).run Try.prog W = .ok (.string ⟨((u.drop i).take j).toArray⟩) W := by
  subst hy hz
  have hsz : (⟨u.toArray⟩ : ByteArray).size = u.length := rfl
  rw [run_slice_string (P := Try.prog) W 9 ⟨u.toArray⟩ .i64 .i64 (i : Int) ((i + j : Nat) : Int) Try.underlying9 (by omega) (by omega) (by rw [hsz]; omega), cut_mid, List.drop_take]
  congr 4
  simp
  omega

theorem own_low {w : World} {B n cap : Nat} {a : Option Addr} {ks : List Key} (h : OwnRow w B 9 1 strCell (.slice a n cap) ks) {g o : Nat} (e : a = some ⟨g, o, none⟩) : B ≤ g := by
  obtain ⟨_, ⟨h2, _⟩ | ⟨g', cap', cur, h2, h3, _⟩⟩ := h
  · injection h2 with h2
    rw [e] at h2
    cases h2
  · injection h2 with h2
    rw [e] at h2
    injection h2 with h2
    injection h2 with h2
    omega
/-- What reading the keys of a report's bytes answers: them, and where they lie; or nothing. -/
def ParsedR (u : List UInt8) (w : World) (r : Ending) (w' : World) : Prop :=
  ((∃ ks t a cap, 3 ≤ u.length ∧ takeR (numR u 1) (u.drop 3) = some (ks, t) ∧ r = .returned (.tuple #[.agg #[.slice a ks.length cap, .bool (u.getD 0 0 == 1)], .bool true]) ∧ RowAt w' a 1 strCell ks ∧ ∀ g o, a = some ⟨g, o, none⟩ → w.heap.size ≤ g) ∨
    ((u.length < 3 ∨ 3 ≤ u.length ∧ takeR (numR u 1) (u.drop 3) = none) ∧ r = .returned (.tuple #[.agg #[.slice none 0 0, .bool false], .bool false]))) ∧ Below w.heap.size w w'
/-- The result is stored. -/
theorem RpM.stored {ty : TypeId} {w : World} {v : Value} {ks : List Key} {c : Bool} {wr : World} (h : RpM ty w v ks c wr) (x : Value) (d : Bool) :
    (wr.setCell ⟨w.heap.size, 0, none⟩ x).cell? ⟨w.heap.size, 0, none⟩ = some x ∧ ((wr.setCell ⟨w.heap.size, 0, none⟩ x).setCell ⟨w.heap.size, 1, none⟩ (.bool d)).cell? ⟨w.heap.size, 0, none⟩ = some x ∧ ((wr.setCell ⟨w.heap.size, 0, none⟩ x).setCell ⟨w.heap.size, 1, none⟩ (.bool d)).cell? ⟨w.heap.size, 1, none⟩ = some (.bool d) ∧ Below w.heap.size w ((wr.setCell ⟨w.heap.size, 0, none⟩ x).setCell ⟨w.heap.size, 1, none⟩ (.bool d)) ∧ OwnRow ((wr.setCell ⟨w.heap.size, 0, none⟩ x).setCell ⟨w.heap.size, 1, none⟩ (.bool d)) (w.heap.size + 2) 9 1 strCell v ks := by
  have h1 : (wr.setCell ⟨w.heap.size, 0, none⟩ x).heap[w.heap.size]? = some (.cells #[x, .bool false] ty (0, 0)) := by rw [heap_setCell_same _ _ 0 _ _ _ h.res]; rfl
  refine ⟨setCell_at _ _ 0 _ h.res (by simp), ?_, setCell_at _ _ 1 _ h1 (by simp), (h.below.setCell (p := ⟨w.heap.size, 0, none⟩) (Nat.le_refl _) _).setCell (p := ⟨w.heap.size, 1, none⟩) (Nat.le_refl _) _, ?_⟩
  · rw [setCell_ne _ _ 1 0 _ h1 (by omega)]
    exact setCell_at _ _ 0 _ h.res (by simp)
  · exact ownsRow_setCell_below (a := ⟨w.heap.size, 1, none⟩) (ownsRow_setCell_below (a := ⟨w.heap.size, 0, none⟩) h.row (by simp) _) (by simp) _
theorem cell_box2 {w : World} {g : Nat} {v0 v1 : Value} {ty : TypeId} (h : w.heap[g]? = some (.cells #[v0, v1] ty (0, 0))) : (w.cell? ⟨g, 0, none⟩ = some v0 ∧ w.cell? ⟨g, 1, none⟩ = some v1) ∧ ∀ j, w.frozen? ⟨g, j, none⟩ = false :=
  ⟨⟨by rw [cell_of_row _ _ 0 _ _ _ h]; rfl, by rw [cell_of_row _ _ 1 _ _ _ h]; rfl⟩, fun j => by simp [World.frozen?, h]⟩
theorem box_stored {ty : TypeId} {w W : World} {v : Value} {c : Bool} (h : W.heap[w.heap.size]? = some (.cells #[v, .bool c] ty (0, 0))) (x : Value) (d : Bool) (hb : Below w.heap.size w W) :
    (W.setCell ⟨w.heap.size, 0, none⟩ x).cell? ⟨w.heap.size, 0, none⟩ = some x ∧ ((W.setCell ⟨w.heap.size, 0, none⟩ x).setCell ⟨w.heap.size, 1, none⟩ (.bool d)).cell? ⟨w.heap.size, 0, none⟩ = some x ∧ ((W.setCell ⟨w.heap.size, 0, none⟩ x).setCell ⟨w.heap.size, 1, none⟩ (.bool d)).cell? ⟨w.heap.size, 1, none⟩ = some (.bool d) ∧ Below w.heap.size w ((W.setCell ⟨w.heap.size, 0, none⟩ x).setCell ⟨w.heap.size, 1, none⟩ (.bool d)) ∧
    ∀ {a : Option Addr} {ks : List Key}, (∀ g o, a = some ⟨g, o, none⟩ → g ≠ w.heap.size) → RowAt W a 1 strCell ks → RowAt ((W.setCell ⟨w.heap.size, 0, none⟩ x).setCell ⟨w.heap.size, 1, none⟩ (.bool d)) a 1 strCell ks := by
  have h1 : (W.setCell ⟨w.heap.size, 0, none⟩ x).heap[w.heap.size]? = some (.cells #[x, .bool c] ty (0, 0)) := by rw [heap_setCell_same _ _ 0 _ _ _ h]; rfl
  refine ⟨setCell_at _ _ 0 _ h (by simp), ?_, setCell_at _ _ 1 _ h1 (by simp), (hb.setCell (p := ⟨w.heap.size, 0, none⟩) (Nat.le_refl _) _).setCell (p := ⟨w.heap.size, 1, none⟩) (Nat.le_refl _) _, fun hne hr => ⟨hr.1, fun hn => ?_⟩⟩
  · rw [setCell_ne _ _ 1 0 _ h1 (by omega)]
    exact setCell_at _ _ 0 _ h (by simp)
  · obtain ⟨b, o, rfl, hc⟩ := hr.2 hn
    refine ⟨b, o, rfl, fun i hi j u hu => ?_⟩
    rw [cell_other _ (hne b o rfl), cell_other _ (hne b o rfl)]
    exact hc i hi j u hu

set_option maxRecDepth 100000 in
set_option maxHeartbeats 2000000 in
theorem parse15_any (u : List UInt8) (w : World) (hm : u.length ≤ 1000000) :
    Calls Try.prog 18 #[.string ⟨u.toArray⟩] w (ParsedR u w) := by
  by_cases hshort : u.length < 3
  case pos =>
    have hq : decide ((u.length : Int) < 3) = true := by simp; omega
    have HN : Hid (∀ w', Below w.heap.size w w' → ParsedR u w (.returned (.tuple #[.agg #[.slice none 0 0, .bool false], .bool false])) w') := fun w' h => ⟨.inr ⟨.inl hshort, rfl⟩, h⟩
    go_enter Try.func18, Try.ntmps18
    go_wp2
    refine bodyPost_ret (v := .tuple #[.agg #[.slice none 0 0, .bool false], .bool false]) (by simp [results, Try.results18, go_sem]) rfl ?_
    exact HN.out _ (below_alloc1 _ _)
  have hq : decide ((u.length : Int) < 3) = false := by simp; omega
  have h3 : 3 ≤ u.length := by omega
  have HN : Hid (∀ w', Below w.heap.size w w' → takeR (numR u 1) (u.drop 3) = none → ParsedR u w (.returned (.tuple #[.agg #[.slice none 0 0, .bool false], .bool false])) w') := fun w' h h2 => ⟨.inr ⟨.inr ⟨h3, h2⟩, rfl⟩, h⟩
  have HY : Hid (∀ w' ks t a cap, Below w.heap.size w w' → takeR (numR u 1) (u.drop 3) = some (ks, t) → RowAt w' a 1 strCell ks → (∀ g o, a = some ⟨g, o, none⟩ → w.heap.size ≤ g) → ParsedR u w (.returned (.tuple #[.agg #[.slice a ks.length cap, .bool (u.getD 0 0 == 1)], .bool true])) w') := fun w' ks t a cap h h2 h4 h5 => ⟨.inl ⟨ks, t, a, cap, h3, h2, rfl, h4, h5⟩, h⟩
  have hsz : (⟨u.toArray⟩ : ByteArray).size = u.length := rfl
  have hi0 : ∀ h : 0 < (⟨u.toArray⟩ : ByteArray).size, (⟨u.toArray⟩ : ByteArray)[0] = u.getD 0 0 := fun h => by
    rw [List.getD_eq_getElem?_getD, List.getElem?_eq_getElem (by omega)]; rfl
  have hs1 := slice_from (u := u) (i := 1) (z := 1) rfl (by omega)
  have hs3 := slice_from (u := u) (i := 3) (z := 3) rfl (by omega)
  have hnum : numR (u.drop 1) 0 = numR u 1 := numR_drop u 1
  have hnlt := numR_lt u 1
  have HNM := Lib.hid fun W => number_any (u.drop 1) W (by rw [List.length_drop]; omega) (by rw [List.length_drop]; omega)
  rw [hnum] at HNM
  clear hnum hshort
  have HST := Lib.hid (rpM_start 26 w (u.getD 0 0 == 1))
  have HR0 := Lib.hid (readR_start (numR u 1) h3)
  have hflag : ((((u.getD 0 0).toNat : Nat) : Int) == 1) = (u.getD 0 0 == 1) := by
    rw [Bool.eq_iff_iff, beq_iff_eq, beq_iff_eq, ← UInt8.toNat_inj]
    show ((((u.getD 0 0).toNat : Nat) : Int) = 1) ↔ (u.getD 0 0).toNat = 1
    omega
  generalize u.getD 0 0 = f at *
  generalize (f == 1) = c at *
  generalize numR u 1 = n at *
  generalize u.drop 1 = T1 at *
  obtain ⟨T3, hT3⟩ : ∃ T3, T3 = u.drop 3 := ⟨_, rfl⟩
  have hl3 : T3.length + 3 = u.length := by rw [hT3, List.length_drop]; omega
  rw [← hT3] at hs3
  have HT3 := Lib.hid hT3
  clear hT3
  go_enter Try.func18, Try.ntmps18
  go_wp2_with fail
  refine (HNM.out _).mono ?_
  rintro r w1 ⟨rfl, hb1⟩
  have HM1 := Lib.hid (HST.out.later hb1)
  clear HST HNM hflag hi0 hs1 hb1
  go_wp2_with fail
  clear hs3 hsz
  go_loopw [0, 21] (fun s i wr => ∃ (k p : Nat) (S : List UInt8) (ks : List Key) (v : Value), k ≤ n ∧ i = .int .i64 k ∧ s = .string ⟨S.toArray⟩ ∧ S.length + p = u.length ∧ Hid (S = u.drop p) ∧ Hid (ReadR u 3 n k p ks) ∧ Hid (RpM 26 w v ks c wr)) (fun _ i _ => n - (intOf i).toNat)
  case atStart => exact ⟨0, 3, T3, [], _, Nat.zero_le _, rfl, rfl, hl3, HT3.out, HR0.out, HM1.out⟩
  case round =>
    clear HM1 HR0 HT3 hl3
    obtain ⟨k, p, S, ks, v, hk, rfl, rfl, hl, HS, HR, HM⟩ := hrel
    obtain ⟨⟨r0, r1, r2, r3⟩, f0, f1⟩ := HM.out.cells
    have HB := Lib.hid HM.out.below
    have hsS : (⟨S.toArray⟩ : ByteArray).size = S.length := rfl
    by_cases hlt : k < n
    · by_cases h2 : S.length < 2
      · have hq : decide ((S.length : Int) < 2) = true := by simp; omega
        have HX := Lib.hid (HR.out.short hlt (by omega))
        obtain ⟨_, y1, y2, yb, _⟩ := HM.out.stored (.slice none 0 0) false
        go_wp2_with fail
        refine bodyPost_ret (v := .tuple #[.agg #[.slice none 0 0, .bool false], .bool false]) (by simp [results, Try.results18, go_sem, y1, y2]) rfl ?_
        exact HN.out _ yb HX.out
      · have hq : decide ((S.length : Int) < 2) = false := by simp; omega
        have hnu : numR S 0 = numR u p := by rw [HS.out, numR_drop]
        have HNS := Lib.hid fun W => number_any S W (by omega) (by omega)
        rw [hnu] at HNS
        have hml := numR_lt u p
        have HCUT : Hid (u.length < p + 2 + numR u p → takeR n (u.drop 3) = none) := fun h => HR.out.cut hlt (by omega) h
        have HNX : Hid (p + 2 + numR u p ≤ u.length → ReadR u 3 n (k + 1) (p + 2 + numR u p) (ks ++ [(S.drop 2).take (numR u p)])) := fun h => by
          have := HR.out.next hlt h
          rw [HS.out, List.drop_drop]
          exact this
        clear hnu
        generalize numR u p = m at *
        have hw : IntKind.i64.wrap (2 + (m : Int)) = 2 + (m : Int) := IntWalk.i64_in _ (by omega)
        by_cases hcut : S.length < 2 + m
        · have hq2 : decide ((S.length : Int) < 2 + (m : Int)) = true := by simp; omega
          have HX := Lib.hid (HCUT.out (by omega))
          go_wp2_with fail
          refine (HNS.out _).mono ?_
          rintro r w2 ⟨rfl, hb2⟩
          have HM2 := Lib.hid (HM.out.later hb2)
          obtain ⟨⟨s0, s1, _, _⟩, g0, _⟩ := HM2.out.cells
          obtain ⟨_, y1, y2, yb, _⟩ := HM2.out.stored (.slice none 0 0) false
          go_wp2_with fail
          refine bodyPost_ret (v := .tuple #[.agg #[.slice none 0 0, .bool false], .bool false]) (by simp [results, Try.results18, go_sem, y1, y2]) rfl ?_
          exact HN.out _ yb HX.out
        · have hq2 : decide ((S.length : Int) < 2 + (m : Int)) = false := by simp; omega
          have HX := Lib.hid (HNX.out (by omega))
          have hsl := slice_two (u := S) (i := 2) (j := m) (y := 2) (z := 2 + (m : Int)) rfl (by omega) (by omega)
          have hsr := slice_from (u := S) (i := 2 + m) (z := 2 + (m : Int)) (by omega) (by omega)
          have HS2 : Hid (S.drop (2 + m) = u.drop (p + 2 + m)) := by
            show _ = _
            rw [HS.out, List.drop_drop]
            congr 1
            omega
          have hl2 : (S.drop (2 + m)).length + (p + 2 + m) = u.length := by rw [List.length_drop]; omega
          have hxl : ((S.drop 2).take m).length ≤ 70000 := by rw [List.length_take]; omega
          have hpu : p + 2 + m ≤ u.length := by omega
          clear HCUT HNX h2 hcut
          generalize (S.drop 2).take m = x at *
          generalize S.drop (2 + m) = S2 at *
          have HCL := Lib.hid fun W => clone_txt x W (by omega)
          have hkl : ks.length ≤ 70000 := by have := HR.out.count; omega
          have HG : Hid (∀ w1, Below wr.heap.size wr w1 → _) := fun w1 hb => HM.out.grow hb x
          go_wp2_with fail
          refine (HNS.out _).mono ?_
          rintro r w2 ⟨rfl, hb2⟩
          have HM2 := Lib.hid (HM.out.later hb2)
          clear HM HG hb2 r0 r1 r2 r3 f0 f1
          go_wp2_with fail
          refine (HNS.out _).mono ?_
          rintro r w3 ⟨rfl, hb3⟩
          have HM3 := Lib.hid (HM2.out.later hb3)
          clear HM2 hb3 HNS
          obtain ⟨⟨_, _, s2, _⟩, _, g1⟩ := HM3.out.cells
          have HG : Hid (∀ w1, Below w3.heap.size w3 w1 → _) := fun w1 hb => HM3.out.grow hb x
          have hb9 : Below w3.heap.size w3 w3.drew := (Below.refl _ _).drew
          clear HM3
          go_wp2_with fail
          go_region_law ((first
            | (refine step_appendAt (f := strCell) (n := 1) 22 9 16 (.string ByteArray.empty) Try.underlying22 infoStr (by rfl) (by omega) (by omega) strCell_len (by rfl) (.tmp 39) (.tmp 44) (by rfl) (w.heap.size + 2) v ks (by rfl) hr2 ⟨w4.heap.size, 0, none⟩ (by rfl) x (strCell_one _) (cells_new w4 (strCell x) _ _ rfl) (by omega) hz2 ?_; intro v3 W3 hown3 hbel3 _ _; obtain ⟨g3, cap3, hv3, _, _⟩ := OwnRow.block hown3 (by simp); rw [List.length_append, List.length_singleton] at hv3; subst hv3; obtain ⟨c3, f3, hn3⟩ := h3 _ W3 hown3 hbel3; have HN3 := Lib.hid hn3; clear hn3 hown3 hbel3)
            | (go_simp; go_wp2_with (go_at_call 25; refine (HCL.out _).mono ?_; rintro r w4 ⟨rfl, hb4⟩; obtain ⟨c1, c2, hr2, hz2, h3⟩ := HG.out w4 ⟨hb4.os, hb4.tape, hb4.output, hb4.size, hb4.block⟩; clear hb4))))
          all_goals (
            go_wp2
            go_roundw
            case rel => exact ⟨k + 1, p + 2 + m, S2, ks ++ [x], _, by omega, by go_num, rfl, hl2, HS2.out, HX.out, HN3.out⟩
            case measure => simp [intOf]; omega)
    · obtain rfl : k = n := by omega
      have HX := Lib.hid HR.out.done
      have HRW := Lib.hid HM.out.row
      have hkl : ks.length ≤ 70000 := by have := HR.out.count; omega
      obtain ⟨a, cap, rfl, _, _⟩ := HRW.out.form strCell_len (by omega)
      obtain ⟨_, y1, y2, yb, yr⟩ := HM.out.stored (.slice a ks.length cap) c
      have HYR := Lib.hid yr
      clear yr HRW
      go_wp2_with fail
      refine bodyPost_ret (v := .tuple #[.agg #[.slice a ks.length cap, .bool c], .bool true]) (by simp [results, Try.results18, go_sem, y1, y2]) rfl ?_
      obtain ⟨_, _, e, hrow, _⟩ := HYR.out.form strCell_len (by omega)
      cases e
      exact HY.out _ ks _ a cap yb HX.out hrow fun g o e => by have := own_low HYR.out e; omega
end Go.Proofs.Ytopklnehhebhmaa

/- The contracts of the report's Merge, and of the document's. -/
namespace Go.Proofs.Ytopklnehhebhmaa
open Go.RowKit

/-- A store of what is there already. -/
theorem own_same {w : World} {B n cap i : Nat} {a : Option Addr} {ks : List Key} (h : OwnRow w B 9 1 strCell (.slice a n cap) ks) (hi : i < ks.length) :
    ∃ g, a = some ⟨g, 0, none⟩ ∧ B ≤ g ∧ w.cell? ⟨g, i, none⟩ = some (.string ⟨ks[i].toArray⟩) ∧ w.frozen? ⟨g, i, none⟩ = false ∧ OwnRow (w.setCell ⟨g, i, none⟩ (.string ⟨ks[i].toArray⟩)) B 9 1 strCell (.slice a n cap) ks := by
  obtain ⟨h1, ⟨h2, h3⟩ | ⟨g, cap', cur, h2, h3, h4, h5, h6, h7, h8⟩⟩ := h
  · omega
  · have e := h2
    injection e with e1 e2 e3
    subst e1 e2 e3
    have h9 := cellsL_get strCell_len ks i 0 hi (by omega)
    rw [← h8, Nat.mul_one, Nat.mul_one, Nat.add_zero, List.getElem?_take_of_lt hi] at h9
    have hc : cur[i]? = some (.string ⟨ks[i].toArray⟩) := by simpa [strCell] using h9
    refine ⟨g, rfl, h3, by rw [cell_of_row _ _ i _ _ _ h4]; exact hc, by simp [World.frozen?, h4], h1, .inr ⟨g, cap, cur, h2, h3, ?_, h5, h6, h7, h8⟩⟩
    rw [heap_setCell_same _ _ i _ _ _ h4]
    congr 2
    obtain ⟨hlt, he⟩ := Array.getElem?_eq_some_iff.1 hc
    rw [← he]
    apply Array.ext_getElem?
    intro j
    rw [Array.getElem?_setIfInBounds]
    split
    · rename_i e; subst e; simp [hlt]
    · rfl
/-- The box of a result, and the row of keys that it will name. -/
structure MgM (w : World) (v : Value) (ks : List Key) (wr : World) : Prop where
  res : wr.heap[w.heap.size]? = some (.cells #[.slice none 0 0, .bool false] 26 (0, 0))
  row : OwnRow wr (w.heap.size + 1) 9 1 strCell v ks
  below : Below w.heap.size w wr
  big : w.heap.size + 1 ≤ wr.heap.size
theorem MgM.later {w wr w1 : World} {v : Value} {ks : List Key} (h : MgM w v ks wr) (hb : Below wr.heap.size wr w1) : MgM w v ks w1 :=
  ⟨(hb.block _ (by have := h.big; omega)).trans h.res, h.row.later hb, h.below.trans (hb.mono h.below.size), Nat.le_trans h.big hb.size⟩
theorem MgM.grown {w wr w1 : World} {v v1 : Value} {ks ks1 : List Key} (h : MgM w v ks wr) (hr : OwnRow w1 (w.heap.size + 1) 9 1 strCell v1 ks1) (hg : wr.grownBy w1 v.ownBlock) : MgM w v1 ks1 w1 := by
  have hb : Below (w.heap.size + 1) wr w1 := (Below.refl _ wr).grown hg h.big fun k hk => (World.ownsRow.lt h.row k hk).1
  exact ⟨(hb.block _ (by omega)).trans h.res, hr, h.below.trans (hb.mono (by omega)), Nat.le_trans h.big hb.size⟩
theorem MgM.store {w wr : World} {a : Option Addr} {n cap i : Nat} {ks : List Key} (h : MgM w (.slice a n cap) ks wr) (hi : i < ks.length) :
    ∃ g, a = some ⟨g, 0, none⟩ ∧ wr.cell? ⟨g, i, none⟩ = some (.string ⟨ks[i].toArray⟩) ∧ wr.frozen? ⟨g, i, none⟩ = false ∧ MgM w (.slice a n cap) ks (wr.setCell ⟨g, i, none⟩ (.string ⟨ks[i].toArray⟩)) := by
  obtain ⟨g, e, hB, hc, hf, hr⟩ := own_same h.row hi
  refine ⟨g, e, hc, hf, ?_, hr, h.below.setCell (p := ⟨g, i, none⟩) (by show w.heap.size ≤ g; omega) _, by simpa using h.big⟩
  rw [← h.res]
  exact Below.heap_setCell _ _ _ _ (by simp; omega)

set_option maxRecDepth 100000 in
set_option maxHeartbeats 2000000 in
theorem merge15_any (c : Bool) (a : Option Addr) (cap : Nat) (ls : List (List Key)) (w : World) (hl : RowsN w a ls) (hn : ls.length ≤ 1000) (hf : ls.flatten.length ≤ 100000) (hk : ∀ k ∈ ls.flatten, k.length ≤ 1000000) :
    Calls Try.prog 15 #[.bool c, .slice a ls.length cap] w fun r w' => ∃ ka kc, r = .returned (.agg #[.slice ka (mergeR ls).length kc, .bool c]) ∧ OwnRow w' w.heap.size 9 1 strCell (.slice ka (mergeR ls).length kc) (mergeR ls) ∧ Below w.heap.size w w' := by
  have hb0 := below_alloc1 w (.cells #[.slice none 0 0, .bool false] 26)
  have HC := Lib.hid (concatS_any a cap ls _ (hl.later hb0) (by omega) (by omega))
  have HM0 : Hid (MgM w (.slice none 0 0) [] (w.alloc (.cells #[.slice none 0 0, .bool false] 26))) := ⟨heap_alloc_new w _, ownRow_nil _ _ _ _ _, hb0, by simp⟩
  have HK : Hid (∀ k ∈ mergeR ls, k.length ≤ 1000000) := fun k h => hk k (mem_sortK.1 h)
  have hml : (mergeR ls).length ≤ 100000 := Nat.le_trans (sortK_len _) hf
  have HE : Hid (Lib.compact (ls.flatten.mergeSort fun x y => decide (x ≤ y)) = mergeR ls) := compact_sortK _
  clear hl hk
  generalize mergeR ls = K at *
  generalize ls.flatten = F at *
  go_enter Try.func15, Try.ntmps15
  go_wp2_with fail
  refine HC.out.mono ?_
  rintro r w1 ⟨v1, rfl, hr1, hb1⟩
  rw [World.size_alloc] at hr1
  have HM1 : Hid (MgM w v1 F w1) := ⟨(HM0.out.later hb1).res, hr1, (HM0.out.later hb1).below, (HM0.out.later hb1).big⟩
  obtain ⟨ka, kc, rfl, _, _⟩ := hr1.form strCell_len (by omega)
  clear HC HM0 hb1 hr1 hb0
  go_wp2_with fail
  refine (sort_own HM1.out.row (by omega)).mono ?_
  rintro r w2 ⟨rfl, hr2, hg2⟩
  have HM2 := Lib.hid (HM1.out.grown hr2 hg2)
  clear HM1 hr2 hg2
  go_wp2_with fail
  refine (compact_any HM2.out.row (by rw [keys_len]; omega)).mono ?_
  rintro r w3 ⟨rfl, hr3, hg3⟩
  have hm3 := HM2.out.grown hr3 hg3
  rw [HE.out] at hm3 ⊢
  have HM3 := Lib.hid hm3
  clear HM2 hr3 hg3 hm3 HE
  go_wp2_with fail
  go_loopw [16] (fun i wr => ∃ k : Nat, k ≤ K.length ∧ i = .int .i64 k ∧ Hid (MgM w (.slice ka K.length kc) K wr)) (fun i _ => K.length - (intOf i).toNat)
  case atStart => exact ⟨0, Nat.zero_le _, rfl, HM3.out⟩
  case round =>
    clear HM3
    obtain ⟨k, hk, rfl, HM⟩ := hrel
    by_cases hlt : k < K.length
    · obtain ⟨g, rfl, c0, f0, _⟩ := HM.out.store hlt
      have HST : Hid (∀ w', MgM w (.slice (some ⟨g, 0, none⟩) K.length kc) K w' → _) := fun w' h => h.store hlt
      have HCL := Lib.hid fun W => clone_txt K[k] W (by have := HK.out _ (List.getElem_mem hlt); omega)
      generalize K[k] = x at *
      go_wp2_with fail
      refine (HCL.out _).mono ?_
      rintro r w4 ⟨rfl, hb4⟩
      obtain ⟨g', e', c1, f1, hm5⟩ := HST.out w4 (HM.out.later hb4)
      cases e'
      have HM5 := Lib.hid hm5
      clear hm5 HM HST
      go_wp2_with fail
      go_roundw
      case rel => exact ⟨k + 1, by omega, by go_num, HM5.out⟩
      case measure => simp [intOf]; omega
    · obtain rfl : k = K.length := by omega
      obtain ⟨⟨c0, c1⟩, f0⟩ := cell_box2 HM.out.res
      obtain ⟨_, y1, y2, yb, _⟩ := box_stored HM.out.res (.slice ka K.length kc) c HM.out.below
      have HR : Hid (OwnRow _ w.heap.size 9 1 strCell (.slice ka K.length kc) K) := ownsRow_base (ownsRow_setCell_below (a := ⟨w.heap.size, 1, none⟩) (ownsRow_setCell_below (a := ⟨w.heap.size, 0, none⟩) HM.out.row (by simp) (.slice ka K.length kc)) (by simp) (.bool c)) (Nat.le_succ _)
      go_wp2_with fail
      refine bodyPost_ret (v := .agg #[.slice ka K.length kc, .bool c]) (by simp [results, Try.results15, go_sem, y1, y2]) rfl ?_
      exact ⟨ka, kc, rfl, HR.out, yb⟩

/-- A row of texts lies in no box of a report. -/
theorem row_apart {W : World} {a p : Option Addr} {q r x : Nat} {d : Bool} {ty : TypeId} {K : List Key} (hr : RowAt W a 1 strCell K) (hn : K ≠ []) (h : W.heap[x]? = some (.cells #[.slice p q r, .bool d] ty (0, 0))) : ∀ g o, a = some ⟨g, o, none⟩ → g ≠ x := by
  intro g o e hg
  obtain ⟨b, o', e', hc⟩ := hr.str (List.length_pos_iff.2 hn)
  rw [e] at e'
  injection e' with e'
  injection e' with e1 e2
  subst hg e1
  rw [cell_of_row _ _ _ _ _ _ h] at hc
  match o' + 0, hc with
  | 0, hc => cases hc
  | 1, hc => cases hc
  | n + 2, hc => simp at hc

set_option maxRecDepth 100000 in
theorem refMerge15_any (c : Bool) (a : Option Addr) (cap : Nat) (ls : List (List Key)) (w : World) (hl : RowsR w a ls) (hn : ls.length ≤ 1000) (hf : ls.flatten.length ≤ 100000) :
    Calls Try.prog 16 #[.bool c, .slice a ls.length cap] w fun r w' => ∃ ka kc, r = .returned (.agg #[.slice ka (mergeR ls).length kc, .bool c]) ∧ RowAt w' ka 1 strCell (mergeR ls) ∧ Below w.heap.size w w' := by
  have hb0 := below_alloc1 w (.cells #[.slice none 0 0, .bool false] 28)
  have hg := gather_at (cap := cap) (hl.later hb0) hn hf
  obtain ⟨K, hK⟩ : ∃ K, K = mergeR ls := ⟨_, rfl⟩
  have hK2 : sortK ls.flatten = K := hK.symm
  rw [hK2] at hg
  rw [← hK]
  clear hK hK2 hl
  have HG := Lib.hid hg
  clear hg
  generalize decide (K.length = ls.flatten.length) = dd at *
  have HR0 : Hid ((w.alloc (.cells #[.slice none 0 0, .bool false] 28)).heap[w.heap.size]? = some (.cells #[.slice none 0 0, .bool false] 28 (0, 0))) := heap_alloc_new w _
  go_enter Try.func16, Try.ntmps16
  go_wp2_with fail
  refine HG.out.mono ?_
  rintro r w1 ⟨ka, kc, rfl, hrow, hb1⟩
  have hbw := hb0.trans (hb1.mono hb0.size)
  have HR1 : w1.heap[w.heap.size]? = some (.cells #[.slice none 0 0, .bool false] 28 (0, 0)) := (hb1.block _ (by simp)).trans HR0.out
  obtain ⟨⟨c0, c1⟩, f0⟩ := cell_box2 HR1
  obtain ⟨_, y1, y2, yb, yk⟩ := box_stored HR1 (.slice ka K.length kc) c hbw
  have HROW : Hid (RowAt ((w1.setCell ⟨w.heap.size, 0, none⟩ (.slice ka K.length kc)).setCell ⟨w.heap.size, 1, none⟩ (.bool c)) ka 1 strCell K) := by
    by_cases e : K = []
    · rw [e]; exact rowAt_nil _ _ _ _
    · exact yk (row_apart hrow e HR1) hrow
  clear yk hrow HG HR0
  go_wp2_with fail
  refine bodyPost_ret (v := .agg #[.slice ka K.length kc, .bool c]) (by simp [results, Try.results16, go_sem, y1, y2]) rfl ?_
  exact ⟨ka, kc, rfl, HROW.out, yb⟩
end Go.Proofs.Ytopklnehhebhmaa

/- Where each event of a row stands, one by one: the document's levels, plainly. -/
namespace Go.Proofs.Ytopklnehhebhmaa
open Go.RowKit

/-- The level of the i-th event. -/
def atL (l : List Ev) (i : Nat) : Nat := lvN (lvls (l.take i)) (evI l i)
theorem lvls_take (l : List Ev) {k : Nat} (hk : k < l.length) : lvls (l.take (k + 1)) = addL (lvls (l.take k)) (evI l k) := by
  rw [← lvls_snoc, evI_get hk, List.take_add_one, List.getElem?_eq_getElem hk]
  rfl
theorem mem_level (l : List Ev) : ∀ k, k ≤ l.length → ∀ j x, x ∈ (lvls (l.take k)).getD j [] ↔ ∃ i, i < k ∧ evI l i = x ∧ atL l i = j
  | 0, _, j, x => by
    have : lvls (l.take 0) = [] := by rw [List.take_zero]; rfl
    rw [this]
    simp [List.getD]
  | k + 1, hk, j, x => by
    have ih := mem_level l k (by omega) j x
    rw [lvls_take l (by omega), addL_get]
    by_cases h : j = lvN (lvls (l.take k)) (evI l k)
    · rw [if_pos h, mem_insE, ih]
      constructor
      · rintro (rfl | ⟨i, hi, h1, h2⟩)
        · exact ⟨k, by omega, rfl, h.symm⟩
        · exact ⟨i, by omega, h1, h2⟩
      · rintro ⟨i, hi, h1, h2⟩
        by_cases e : i = k
        · subst e; exact .inl h1.symm
        · exact .inr ⟨i, by omega, h1, h2⟩
    · rw [if_neg h, ih]
      constructor
      · rintro ⟨i, hi, h1, h2⟩
        exact ⟨i, by omega, h1, h2⟩
      · rintro ⟨i, hi, h1, h2⟩
        refine ⟨i, ?_, h1, h2⟩
        by_cases e : i = k
        · subst e; exact absurd h2.symm h
        · omega
/-- The greatest level but one of those ahead that it depends on. -/
def maxN (l : List Ev) (e : Ev) (k : Nat) : Nat := top (fun i => atL l i + 1) (fun i => dep (evI l i) e) k
theorem maxN_succ (l : List Ev) (e : Ev) (k : Nat) : maxN l e (k + 1) = if dep (evI l k) e then max (maxN l e k) (atL l k + 1) else maxN l e k := by
  unfold maxN
  rw [top_succ]
theorem maxN_lvN (l : List Ev) (e : Ev) {k : Nat} (hk : k ≤ l.length) : maxN l e k = lvN (lvls (l.take k)) e := by
  apply Nat.le_antisymm
  · refine top_le fun i hi hd => ?_
    have hm : evI l i ∈ (lvls (l.take k)).getD (atL l i) [] := (mem_level l k hk _ _).2 ⟨i, hi, rfl, rfl⟩
    have hlt : atL l i < (lvls (l.take k)).length := by
      apply Classical.byContradiction
      intro hn
      simp [List.getD, List.getElem?_eq_none (Nat.le_of_not_lt hn)] at hm
    exact lvN_ge hlt ⟨_, hm, hd⟩
  · cases h : lvN (lvls (l.take k)) e with
    | zero => exact Nat.zero_le _
    | succ j =>
      obtain ⟨x, hx, hd⟩ := lvN_some h
      obtain ⟨i, hi, h1, h2⟩ := (mem_level l k hk j x).1 hx
      have := top_ge (f := fun i => atL l i + 1) (q := fun i => dep (evI l i) e) hi (by show dep (evI l i) e = true; rw [h1]; exact hd)
      unfold maxN
      simp only [h2] at this
      omega
theorem atL_le (l : List Ev) {i : Nat} (hi : i < l.length) : atL l i ≤ i := by
  have h1 := lvN_le (lvls (l.take i)) (evI l i)
  have h2 := lv_count (l.take i)
  rw [List.length_take] at h2
  unfold atL
  omega

end Go.Proofs.Ytopklnehhebhmaa
