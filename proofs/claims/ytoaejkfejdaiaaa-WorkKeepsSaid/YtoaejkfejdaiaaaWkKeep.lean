/- The program's work beside a map of what is there. -/
import Derived.Test.YtoaejkfejdaiaaaWkWake
import Derived.Test.YtoaejkfejdaiaaaBoM
import Derived.Maps.RangeWalk
namespace Go.Proofs.Ytoaejkfejdaiaaa
open Go.RowKit Go.Maps

section
variable {w w' : World} {B b n cnt c : Nat} {T : Nat → List Txt} {f : Txt → Bool} {S : Nat → Prop}
/-- A map that is none of work's is changed. -/
theorem WK.keepM (h : WK w B b n cnt S T f c) {y : Nat} (hS : ¬ S y) (hy : ∀ d ty, w.heap[y]? ≠ some (.cells d ty (0, 0))) (o : OnlyS (fun x => x = y) w w') : WK w' B b n cnt S T f c := by
  obtain ⟨g, mb, cap, qs, Sq, q, hs⟩ := h
  obtain ⟨cs, h6, h7⟩ := q.row
  refine ⟨g, mb, cap, qs, Sq, ⟨Nat.le_trans q.low o.size, q.lowb, q.lowm, o.row q.box fun e => ?_, ⟨cs, o.row h6 fun e => ?_, h7⟩, q.cap, fun j hj => (q.qu j hj).onlyS o fun x hx e => ?_, q.apart, q.map.onlyS o fun e => ?_⟩, hs⟩
  · have h := q.box
    rw [e] at h
    exact hy _ _ h
  · rw [e] at h6
    exact hy _ _ h6
  · subst e
    exact hS ((hs x).2 (.inr ⟨j, hj, hx⟩))
  · exact hS ((hs y).2 (.inl e.symm))
theorem SM.cells {mb m : Nat} (o : SM w mb m f c) (d : Array Value) (ty : TypeId) : w.heap[mb]? ≠ some (.cells d ty (0, 0)) := fun h => o.bm.not_cells h
theorem totW_le {n k : Nat} (T : Nat → List Txt) (h : k ≤ n) : totW k T ≤ totW n T := by
  induction n with
  | zero =>
    obtain rfl : k = 0 := by omega
    exact Nat.le_refl _
  | succ n ih =>
    by_cases e : k = n + 1
    · subst e; exact Nat.le_refl _
    · have := ih (by omega)
      rw [totW_succ]
      omega
end
/-- Work, and a map of what is there. -/
structure KW (w : World) (B b mb n cnt : Nat) (S : Nat → Prop) (T : Nat → List Txt) (wr : World) : Prop where
  q : WU wr B b n cnt S T
  sm : SM wr mb cnt (hasW n T) (totW n T)
  apart : ¬ S mb
  below : Below w.heap.size w wr
  base : w.heap.size ≤ B
  mbase : w.heap.size ≤ mb
/-- The same, and a call's box. -/
def KS (w : World) (B b mb n cnt : Nat) (T : Nat → List Txt) (G : Nat) (c : Array Value) (wr : World) : Prop := ∃ S, KW w B b mb n cnt S T wr ∧ wr.heap[G]? = some (.cells c 33 (0, 0))
section
variable {w W W7 W8 : World} {B b mb n cnt cnt' G : Nat} {T T' : Nat → List Txt} {S : Nat → Prop} {c : Array Value}
theorem KW.later (h : KW w B b mb n cnt S T W) (hb : Below W.heap.size W W7) : KW w B b mb n cnt S T W7 := ⟨h.q.later hb, h.sm.later hb, h.apart, h.below.trans (hb.mono h.below.size), h.base, h.mbase⟩
theorem KS.later (h : KS w B b mb n cnt T G c W) (hb : Below W.heap.size W W7) : KS w B b mb n cnt T G c W7 := by
  obtain ⟨S, h1, h2⟩ := h
  exact ⟨S, h1.later hb, (hb.block _ (Array.getElem?_eq_some_iff.1 h2).1).trans h2⟩
theorem KS.mono (h : KS w B b mb n cnt T G c W) (e : cnt ≤ cnt') : KS w B b mb n cnt' T G c W := by
  obtain ⟨S, h1, h2⟩ := h
  exact ⟨S, ⟨h1.q.mono e, h1.sm.mono e, h1.apart, h1.below, h1.base, h1.mbase⟩, h2⟩
theorem KS.kw (h : KS w B b mb n cnt T G c W) : ∃ S, KW w B b mb n cnt S T W := by
  obtain ⟨S, h1, _⟩ := h
  exact ⟨S, h1⟩
/-- Work is changed. -/
theorem KW.mine (h : KW w B b mb n cnt S T W) (hbx : W.heap[G]? = some (.cells c 33 (0, 0))) (hr : WUR B b n cnt' S T' W W7) : ∃ S', WU W7 B b n cnt' S' T' ∧ ¬ S' mb ∧ SM W7 mb cnt (hasW n T) (totW n T) ∧ Below w.heap.size w W7 ∧ W7.heap[G]? = some (.cells c 33 (0, 0)) := by
  obtain ⟨S', h1, h2, h3⟩ := hr
  refine ⟨S', h1, fun hs => ?_, h.sm.onlyS h2 h.apart, h.below.trans (h.q.k.only h.base h2), h2.row hbx (h.q.k.not_row hbx (by decide) (by decide) (by decide))⟩
  rcases h3 _ hs with h4 | h4
  · exact h.apart h4
  · have := h.sm.bm.lt
    omega
/-- The map is changed. -/
theorem KW.mapped (q : WU W7 B b n cnt S T') (ha : ¬ S mb) {f : Txt → Bool} {d m : Nat} (sm : SM W7 mb m f d) (hb : Below w.heap.size w W7) (h1 : w.heap.size ≤ B) (h2 : w.heap.size ≤ mb) (hbx : W7.heap[G]? = some (.cells c 33 (0, 0))) (sm8 : SM W8 mb cnt (hasW n T') (totW n T')) (o : OnlyS (fun x => x = mb) W7 W8) : KS w B b mb n cnt T' G c W8 :=
  ⟨S, ⟨⟨q.k.keepM ha (fun d ty => sm.cells d ty) o, q.sort, q.no, q.short⟩, sm8, ha, hb.trans (o.below hb.size fun k hk => by subst hk; exact h2), h1, h2⟩, o.row hbx fun e => by rw [e] at hbx; exact sm.cells _ _ hbx⟩
/-- What a push tells, and what is written down then. -/
theorem keep_push (h : KS w B b mb n cnt T G c W) (hn : n ≤ 64) (hc : cnt ≤ 900) (z : Int) {k : Txt} (hk : k.length ≤ 1000) :
    Calls Try.prog 8 #[.pointer (some ⟨b, 0, none⟩), .int .i64 z, .string ⟨k.toArray⟩] W (fun r W7 => r = .returned (.bool false) ∧ KS w B b mb n (cnt + 1) T G c W7) ∨
    ∃ T', Calls Try.prog 8 #[.pointer (some ⟨b, 0, none⟩), .int .i64 z, .string ⟨k.toArray⟩] W fun r W7 => r = .returned (.bool true) ∧ W7.heap[G]? = some (.cells c 33 (0, 0)) ∧ (Instr.lookup 45 (.map (some mb)) (.string ⟨k.toArray⟩) false).run Try.prog W7 = .ok (.bool false) W7 ∧
      ∃ W8, (Instr.mapUpdate 45 (.map (some mb)) (.string ⟨k.toArray⟩) (.bool true)).run Try.prog W7 = .ok () W8 ∧ KS w B b mb n (cnt + 1) T' G c W8 := by
  have h' := h
  obtain ⟨S, h1, hbx⟩ := h'
  by_cases hz : isW n z = false ∨ hasW n T k = true
  · refine .inl ((wPush_no h1.q hk hz).mono fun r w' ⟨e, e2⟩ => ⟨e, ?_⟩)
    subst e2
    exact h.mono (Nat.le_succ _)
  · have hz1 : isW n z = true := by
      cases e : isW n z
      · exact absurd (.inl e) hz
      · rfl
    have hz2 : hasW n T k = false := by
      cases e : hasW n T k
      · rfl
      · exact absurd (.inr e) hz
    obtain ⟨j, hj, rfl⟩ := isW_yes hz1
    refine .inr ⟨updF T j (putT (T j) k), (wPush_yes h1.q hn (by omega) hj hk hz2).mono fun r W7 ⟨e, hr⟩ => ⟨e, ?_⟩⟩
    obtain ⟨S', q7, a7, m7, b7, x7⟩ := h1.mine hbx hr
    have hl := m7.bm.look hk
    rw [hz2] at hl
    obtain ⟨W8, hp, m8, o8⟩ := m7.put (by omega) hk
    refine ⟨x7, hl, W8, hp, KW.mapped q7 a7 m7 b7 h1.base h1.mbase x7 ?_ o8⟩
    rw [hz2, if_neg (by simp)] at m8
    rw [tot_put hj]
    refine m8.congr fun q => ?_
    rw [has_put hj]
    by_cases e : q = k <;> simp [e]
/-- What a pop tells, and what is struck then. -/
theorem keep_pop (h : KS w B b mb n cnt T G c W) (z : Int) :
    Calls Try.prog 10 #[.pointer (some ⟨b, 0, none⟩), .int .i64 z] W (fun r W7 => r = .returned (.tuple #[.string ⟨#[]⟩, .bool false]) ∧ KS w B b mb n (cnt + 1) T G c W7) ∨
    ∃ (k : Txt) (T' : Nat → List Txt), Calls Try.prog 10 #[.pointer (some ⟨b, 0, none⟩), .int .i64 z] W fun r W7 => r = .returned (.tuple #[.string ⟨k.toArray⟩, .bool true]) ∧ W7.heap[G]? = some (.cells c 33 (0, 0)) ∧ (Instr.lookup 45 (.map (some mb)) (.string ⟨k.toArray⟩) false).run Try.prog W7 = .ok (.bool true) W7 ∧
      ∃ W8, (∀ ty, (Builtin.delete_ #[45, 9] ty #[.map (some mb), .string ⟨k.toArray⟩]).run Try.prog W7 = .ok (.tuple #[]) W8) ∧ KS w B b mb n (cnt + 1) T' G c W8 := by
  have h' := h
  obtain ⟨S, h1, hbx⟩ := h'
  cases hz : isW n z
  · refine .inl ((wPop_out h1.q hz).mono fun r w' ⟨e, e2⟩ => ⟨e, ?_⟩)
    subst e2
    exact h.mono (Nat.le_succ _)
  · obtain ⟨j, hj, rfl⟩ := isW_yes hz
    cases hT : T j with
    | nil =>
      refine .inl ((wPop_none h1.q hj hT).mono fun r w' ⟨e, e2⟩ => ⟨e, ?_⟩)
      subst e2
      exact h.mono (Nat.le_succ _)
    | cons k l =>
      have hkm : k ∈ T j := by rw [hT]; exact List.mem_cons_self
      have hk := h1.q.short j hj k hkm
      have hs : hasW n T k = true := hasW_iff.2 ⟨j, hj, hkm⟩
      have hp : (T j).Perm (k :: l) := by rw [hT]
      refine .inr ⟨k, updF T j l, (wPop_any h1.q hj hT).mono fun r W7 ⟨e, hr⟩ => ⟨e, ?_⟩⟩
      obtain ⟨S', q7, a7, m7, b7, x7⟩ := h1.mine hbx hr
      have hl := m7.bm.look hk
      rw [hs] at hl
      obtain ⟨W8, hd, m8, o8⟩ := m7.drop hk 0
      refine ⟨x7, hl, W8, fun _ => hd, KS.mono (KW.mapped q7 a7 m7 b7 h1.base h1.mbase x7 ?_ o8) (Nat.le_succ _)⟩
      rw [hs, if_pos rfl] at m8
      have ht : totW n T - 1 = totW n (updF T j l) := by rw [tot_pop hj hp, Nat.add_sub_cancel]
      rw [ht] at m8
      refine m8.congr fun q => ?_
      rw [has_pop hj h1.q.no hp]
      by_cases e : q = k <;> simp [e]
/-- How many a worker has, as a number. -/
def lenK (n : Nat) (T : Nat → List Txt) (z : Int) : Int := if isW n z = true then ((T z.toNat).length : Int) else 0
theorem KW.len (h : KW w B b mb n cnt S T W) (z : Int) : Calls Try.prog 14 #[.pointer (some ⟨b, 0, none⟩), .int .i64 z] W fun r w' => r = .returned (.int .i64 (lenK n T z)) ∧ w' = W := by
  unfold lenK
  cases hz : isW n z
  · exact (wLen_out h.q.k hz).mono fun r w' ⟨e, e2⟩ => ⟨by rw [e]; simp, e2⟩
  · obtain ⟨j, hj, rfl⟩ := isW_yes hz
    exact (wLen_any h.q.k hj).mono fun r w' ⟨e, e2⟩ => ⟨by rw [e]; simp, e2⟩
theorem KW.lenK_le (h : KW w B b mb n cnt S T W) (z : Int) : 0 ≤ lenK n T z ∧ lenK n T z ≤ cnt := by
  unfold lenK
  cases hz : isW n z
  · simp
  · obtain ⟨j, hj, rfl⟩ := isW_yes hz
    have := h.q.len hj
    simp
    omega
/-- What a theft tells. -/
theorem keep_steal (h : KS w B b mb n cnt T G c W) (hn : n ≤ 64) (hc : cnt ≤ 900) (z y : Int) :
    Calls Try.prog 12 #[.pointer (some ⟨b, 0, none⟩), .int .i64 z, .int .i64 y] W (fun r W7 => r = .returned (.tuple #[.string ⟨#[]⟩, .bool false]) ∧ KS w B b mb n (cnt + 1) T G c W7) ∨
    ∃ (k : Txt) (T' : Nat → List Txt), Calls Try.prog 12 #[.pointer (some ⟨b, 0, none⟩), .int .i64 z, .int .i64 y] W fun r W7 => r = .returned (.tuple #[.string ⟨k.toArray⟩, .bool true]) ∧ (Instr.lookup 45 (.map (some mb)) (.string ⟨k.toArray⟩) false).run Try.prog W7 = .ok (.bool true) W7 ∧ lenK n T' z = lenK n T z + 1 ∧ KS w B b mb n (cnt + 1) T' G c W7 := by
  have h' := h
  obtain ⟨S, h1, hbx⟩ := h'
  by_cases hz : isW n z = false ∨ isW n y = false ∨ z = y ∨ T y.toNat = []
  · refine .inl ((wSteal_no h1.q z y hz).mono fun r w' ⟨e, e2⟩ => ⟨e, ?_⟩)
    subst e2
    exact h.mono (Nat.le_succ _)
  · have hz1 : isW n z = true := by
      cases e : isW n z
      · exact absurd (.inl e) hz
      · rfl
    have hz2 : isW n y = true := by
      cases e : isW n y
      · exact absurd (.inr (.inl e)) hz
      · rfl
    have hzy : z ≠ y := fun e => hz (.inr (.inr (.inl e)))
    have hne : T y.toNat ≠ [] := fun e => hz (.inr (.inr (.inr e)))
    obtain ⟨i, hi, rfl⟩ := isW_yes hz1
    obtain ⟨j, hj, rfl⟩ := isW_yes hz2
    rw [Int.toNat_natCast] at hne
    have hij : i ≠ j := fun e => hzy (by rw [e])
    have hT : T j = (T j).dropLast ++ [(T j).getLast hne] := (List.dropLast_concat_getLast hne).symm
    generalize (T j).getLast hne = k at hT
    generalize (T j).dropLast = l at hT
    have hkm : k ∈ T j := by rw [hT]; simp
    have hk := h1.q.short j hj k hkm
    have hs : hasW n T k = true := hasW_iff.2 ⟨j, hj, hkm⟩
    have hp : (T j).Perm (k :: l) := by rw [hT]; exact List.perm_append_singleton _ _
    refine .inr ⟨k, updF (updF T j l) i (putT (T i) k), (wSteal_any h1.q hn (by omega) hi hj hij hT).mono fun r W7 ⟨e, hr⟩ => ⟨e, ?_⟩⟩
    obtain ⟨S', q7, a7, m7, b7, x7⟩ := h1.mine hbx hr
    have hl := m7.bm.look hk
    rw [hs] at hl
    refine ⟨hl, ?_, S', ⟨q7, ?_, a7, b7, h1.base, h1.mbase⟩, x7⟩
    · have e1 : isW n (i : Int) = true := by simp [isW, hi]
      unfold lenK
      rw [if_pos e1, if_pos e1, Int.toNat_natCast, updF_same, (putT_perm _ _).length_eq, List.length_cons]
      rfl
    · rw [tot_steal hi hj hij hp]
      exact (m7.mono (Nat.le_succ _)).congr fun q => (has_steal hi hj hij hp q).symm
/-- A key of the map is a text that somebody has. -/
theorem bo_keyInv (key : Value) (kl : Lit) (h : keyOf Try.prog 9 key = some kl) : ∃ x : Txt, key = .string ⟨x.toArray⟩ := by
  obtain ⟨s, rfl, _, _⟩ := WideMaps.string_of_keyOf Try.underlying9 h
  exact ⟨s.data.toList, by simp⟩
theorem bo_valInv (v : Value) (y : DataW Unit × List MemPlace) (h : plainElem (H := Unit) Try.prog 4 v = some y) : ∃ x : Bool, v = .bool x := by
  unfold plainElem at h
  simp only [Try.underlying4] at h
  cases v <;> simp at h
  exact ⟨_, rfl⟩
/-- A bool of the map. -/
structure BV where
  x : Bool
/-- The step of a range over the map. -/
theorem wpList_next_bo {w : World} {ops : Array Oper} {rest : List Oper} {o : Oper} {a : Act} {Q : Exit → Act → World → Prop} (hg : o.guard = none) (it : Operand) (hop : o.op = Op.next it false) (b r n : Nat) (M : DataW Unit) (left : Lit → Bool) (cnt : Nat) (hit : a.eval it = .pointer (some ⟨r, 0, none⟩)) (h : w.ranges Try.prog 9 (plainElem (H := Unit) Try.prog 4) b r n M left cnt)
    (hDone : cnt = 0 → wpList Try.prog ops Q rest (a.put o.dst (.tuple #[.bool false])) w)
    (hMore : ∀ (x : Txt) (c : BV) (kl : Lit) (w' : World) (cnt' : Nat), keyOf Try.prog 9 (.string ⟨x.toArray⟩) = some kl → left kl = true → w'.ranges Try.prog 9 (plainElem (H := Unit) Try.prog 4) b r n M (fun z => left z && !z.sameKey kl) cnt' → cnt' < cnt →
      w.grownBy w' (some r) → (Instr.entry (.pointer (some ⟨r, 0, none⟩))).run Try.prog w' = .ok (.tuple #[.string ⟨x.toArray⟩, .bool c.x]) w' → wpList Try.prog ops Q rest (a.put o.dst (.tuple #[.bool true, .string ⟨x.toArray⟩, .bool c.x])) w') :
    wpList Try.prog ops Q (o :: rest) a w :=
  wpList_next_ranges w hg it hop 9 boLaw (plainElem (H := Unit) Try.prog 4) (fun x : Txt => Value.string ⟨x.toArray⟩) (fun c : BV => Value.bool c.x) bo_keyInv (fun v y h => by obtain ⟨x, hx⟩ := bo_valInv v y h; exact ⟨⟨x⟩, hx⟩) b r n M left cnt hit h (fun h0 _ => hDone h0)
    fun x c kl _ w' cnt' hkey hlk _ _ hrg hlt hg1 _ hen => hMore x c kl w' cnt' hkey hlk hrg hlt hg1 hen
theorem SM.key {f : Txt → Bool} {M : DataW Unit} (b2 : ∀ k, k.length ≤ 1000 → has M (.string k) = f k) (b4 : ∀ kl, has M kl = true → ∃ k, kl = .string k ∧ k.length ≤ 1000) {x : Txt} {kl : Lit} (h : keyOf Try.prog 9 (.string ⟨x.toArray⟩) = some kl) (hh : has M kl = true) : x.length ≤ 1000 ∧ f x = true := by
  obtain ⟨s, e, e2, _⟩ := WideMaps.string_of_keyOf Try.underlying9 h
  injection e with e
  subst e
  obtain ⟨k, e3, hk⟩ := b4 kl hh
  rw [e2] at e3
  injection e3 with e3
  have e4 : x = k := by simpa using e3
  subst e4
  refine ⟨hk, ?_⟩
  rw [← b2 x hk]
  rw [e2] at hh
  simpa using hh
end
end Go.Proofs.Ytoaejkfejdaiaaa
