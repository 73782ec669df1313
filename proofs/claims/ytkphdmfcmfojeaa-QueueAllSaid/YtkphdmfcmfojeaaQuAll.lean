/- The law QueueAll, walked. -/
import Derived.Test.YtkphdmfcmfojeaaQuCnt
namespace Go.Proofs.Ytkphdmfcmfojeaa
open Go.RowKit Go.Maps

theorem RowAt.bool {w : World} {a : Option Addr} {l : List Bool} (h : RowAt w a 1 boolCell l) {j : Nat} (hj : j < l.length) : ∃ b o, a = some ⟨b, o, none⟩ ∧ w.cell? ⟨b, o + j, none⟩ = some (.bool l[j]) := by
  obtain ⟨b, o, rfl, hc⟩ := h.2 (by intro e; simp [e] at hj)
  have h1 := hc j hj 0 _ rfl
  rw [Nat.mul_one, Nat.add_zero] at h1
  exact ⟨b, o, rfl, h1⟩
/-- What the law's loops leave: a queue, and a map that counts what it holds. -/
structure AllI (w : World) (B b mb n : Nat) (T : List Txt) (S : Nat → Prop) (wr : World) : Prop where
  q : QU wr B b S T
  cnt : CntM wr mb n fun k => T.count k
  below : Below w.heap.size w wr
  base : w.heap.size ≤ B
  mlow : w.heap.size ≤ mb
  short : ∀ y ∈ T, y.length ≤ 100
section
variable {w wr w' : World} {B b mb n : Nat} {T : List Txt} {S : Nat → Prop}
theorem AllI.later (h : AllI w B b mb n T S wr) (hb : Below wr.heap.size wr w') : AllI w B b mb n T S w' :=
  ⟨h.q.later hb, h.cnt.later hb, h.below.trans (hb.mono h.below.size), h.base, h.mlow, h.short⟩
theorem AllI.perm (h : AllI w B b mb n T S wr) {T' : List Txt} (p : T.Perm T') : AllI w B b mb n T' S wr :=
  ⟨h.q.perm p, h.cnt.congr fun k => p.count_eq k, h.below, h.base, h.mlow, fun y hy => h.short y (p.symm.subset hy)⟩
/-- One more is pushed, and counted. -/
theorem AllI.push (h : AllI w B b mb n T S wr) {x : Txt} (hx : x.length ≤ 100) (hn : n ≤ 1000000) (hT : T.length ≤ 1000) {w7 : World} {S' : Nat → Prop} (q : QU w7 B b S' (x :: T)) (o : OnlyS S wr w7) :
    (Instr.lookup 88 (.map (some mb)) (.string ⟨x.toArray⟩) false).run Try.prog w7 = .ok (.int .i64 (T.count x : Nat)) w7 ∧
    ∃ w8, (Instr.mapUpdate 88 (.map (some mb)) (.string ⟨x.toArray⟩) (.int .i64 ((T.count x : Int) + 1))).run Try.prog w7 = .ok () w8 ∧ AllI w B b mb (n + 1) (x :: T) S' w8 := by
  have hc := h.cnt.onlyS o (h.cnt.apart h.q)
  have hle : T.count x ≤ T.length := List.count_le_length
  obtain ⟨w8, hr, hc8, ho8⟩ := hc.put hn (k := x) (by omega) (c := T.count x + 1) (by omega)
  have hap := hc.apart q
  have e1 : ((T.count x + 1 : Nat) : Int) = (T.count x : Int) + 1 := by omega
  rw [e1] at hr
  refine ⟨hc.look (by omega), w8, hr, q.onlyS ho8 (fun y hy e => hap (e ▸ hy)), hc8.congr fun k => ?_, (h.below.trans (h.q.only h.base o)).trans (ho8.below (Nat.le_trans h.base q.low) fun y hy => by subst hy; exact h.mlow), h.base, h.mlow, fun y hy => ?_⟩
  · by_cases e : k = x
    · subst e; simp
    · rw [if_neg e, List.count_cons_of_ne (Ne.symm e)]
  · rcases List.mem_cons.1 hy with rfl | hy
    · exact hx
    · exact h.short y hy
/-- One is taken, and counted. -/
theorem AllI.take (h : CntM wr mb n fun k => T.count k) (hb : Below w.heap.size w wr) (hB : w.heap.size ≤ B) (hm : w.heap.size ≤ mb) (hs : ∀ y ∈ T, y.length ≤ 100) (hn : n ≤ 1000000) (hT : T.length ≤ 1000) {x : Txt} {T' : List Txt} (p : (x :: T').Perm T) (q : QU wr B b S T') :
    (Instr.lookup 88 (.map (some mb)) (.string ⟨x.toArray⟩) false).run Try.prog wr = .ok (.int .i64 ((T'.count x : Int) + 1)) wr ∧
    ∃ w8, (Instr.mapUpdate 88 (.map (some mb)) (.string ⟨x.toArray⟩) (.int .i64 (T'.count x : Nat))).run Try.prog wr = .ok () w8 ∧ AllI w B b mb (n + 1) T' S w8 ∧
      (Instr.lookup 88 (.map (some mb)) (.string ⟨x.toArray⟩) false).run Try.prog w8 = .ok (.int .i64 (T'.count x : Nat)) w8 := by
  have hx : x.length ≤ 100 := hs x (p.subset (List.mem_cons_self))
  have hle : T'.count x ≤ T'.length := List.count_le_length
  have hl : T'.length ≤ T.length := by rw [← p.length_eq]; simp
  have hap := h.apart q
  obtain ⟨w8, hr, hc8, ho8⟩ := h.put hn (k := x) (by omega) (c := T'.count x) (by omega)
  have hc9 : CntM w8 mb (n + 1) fun k => T'.count k := hc8.congr fun k => by
    rw [count_take p k]
    by_cases e : k = x
    · rw [if_pos e, if_pos e, count_pos p]; omega
    · rw [if_neg e, if_neg e]
  refine ⟨?_, w8, hr, ⟨q.onlyS ho8 (fun y hy e => hap (e ▸ hy)), hc9, hb.trans (ho8.below hb.size fun y hy => by subst hy; exact hm), hB, hm, fun y hy => hs y (p.subset (List.mem_cons_of_mem _ hy))⟩, hc9.look (by omega)⟩
  have := h.look (k := x) (by omega)
  rw [count_pos p] at this
  have e : ((T'.count x + 1 : Nat) : Int) = (T'.count x : Int) + 1 := by omega
  rw [e] at this
  exact this
end
set_option maxRecDepth 100000 in
set_option maxHeartbeats 8000000 in
theorem queueAll_any (la : Option Addr) (ll : List Txt) (lc : Nat) (ba : Option Addr) (bl : List Bool) (bc : Nat) (w : World) (hll : RowAt w la 1 txtCell ll) (hbl : RowAt w ba 1 boolCell bl) :
    Calls Try.prog 8 #[.slice la ll.length lc, .slice ba bl.length bc] w fun r w' => r = .returned (.bool true) ∧ Below w.heap.size w w' := by
  have HLL : Hid (∀ W, Below w.heap.size w W → RowAt W la 1 txtCell ll) := fun W hb => hll.later hb
  have HBL : Hid (∀ W, Below w.heap.size w W → RowAt W ba 1 boolCell bl) := fun W hb => hbl.later hb
  have hmm := @run_makeMap Try.prog
  clear hll hbl
  go_enter Try.func8, Try.ntmps8
  go_wp2_with fail
  refine (awake11_any w).mono ?_
  rintro r W2 ⟨rfl, hb2⟩
  by_cases h200 : 200 < ll.length
  · have q3 : decide ((200 : Int) < (ll.length : Int)) = true := decide_eq_true (by omega)
    go_wp2_with fail
    refine (awake11_any _).mono ?_
    rintro r w3 ⟨rfl, hb3⟩
    go_wp2
    go_ret
    exact ⟨rfl, hb2.trans (hb3.mono hb2.size)⟩
  have q3 : decide ((200 : Int) < (ll.length : Int)) = false := decide_eq_false (by omega)
  by_cases h300 : 300 < bl.length
  · have q4 : decide ((300 : Int) < (bl.length : Int)) = true := decide_eq_true (by omega)
    go_wp2_with fail
    refine (awake11_any _).mono ?_
    rintro r w3 ⟨rfl, hb3⟩
    go_wp2
    go_ret
    exact ⟨rfl, hb2.trans (hb3.mono hb2.size)⟩
  have q4 : decide ((300 : Int) < (bl.length : Int)) = false := decide_eq_false (by omega)
  have hl200 : ll.length ≤ 200 := by omega
  clear h200 h300
  go_wp2_with fail
  refine (qNew_any W2).mono ?_
  rintro r W3 ⟨rfl, hb3, S, q, hS⟩
  have HI0 : Hid (AllI w W2.heap.size W2.heap.size W3.heap.size 0 (ll.take 0).reverse S (W3.alloc (.map #[] 0))) := by
    have hb4 := hb2.trans (hb3.mono hb2.size)
    exact ⟨q.later (below_alloc1 _ _), CntM.start W3, hb4.alloc hb4.size _, hb2.size, hb4.size, by simp⟩
  clear hb2 hb3 hS q
  generalize W2.heap.size = b at *
  go_wp2_with fail
  generalize W3.heap.size = mb at *
  go_loopw [8, 37] (fun _ i wr => ∃ (j : Nat) (S : Nat → Prop), j ≤ ll.length ∧ i = .int .i64 j ∧ Hid (AllI w b b mb j (ll.take j).reverse S wr)) (fun _ i _ => ll.length - (intOf i).toNat)
  case atStart => exact ⟨0, S, Nat.zero_le _, rfl, HI0⟩
  case round =>
    clear HI0 hmm
    obtain ⟨j, S', hj, rfl, HI⟩ := hrel
    by_cases hlt : j < ll.length
    · obtain ⟨pb, o, rfl, e0⟩ := (HLL.out _ HI.out.below).txt hlt
      have hqs : (⟨ll[j].toArray⟩ : ByteArray).size = ll[j].length := by simp [ByteArray.size]
      have hn1 : (ll.take (j + 1)).reverse = ll[j] :: (ll.take j).reverse := by
        rw [List.take_succ_eq_append_getElem hlt, List.reverse_append]; rfl
      have HN1 := Lib.hid hn1
      clear hn1
      generalize ll[j] = x at *
      by_cases h100 : 100 < x.length
      · have q100 : decide ((100 : Int) < (x.length : Int)) = true := decide_eq_true (by omega)
        have HB := Lib.hid HI.out.below
        go_wp2
        go_ret
        exact ⟨rfl, HB.out⟩
      have q100 : decide ((100 : Int) < (x.length : Int)) = false := decide_eq_false (by omega)
      have htl : ((ll.take j).reverse).length ≤ 1000 := by rw [List.length_reverse, List.length_take]; omega
      have HP := Lib.hid (qPush_any HI.out.q x (by omega) (by omega))
      have hx1 : x.length ≤ 100 := by omega
      have hc1 : ((ll.take j).reverse).count x ≤ 1000 := Nat.le_trans List.count_le_length htl
      have HTL := Lib.hid htl
      clear h100 htl
      generalize (ll.take j).reverse = T at *
      go_wp2_with fail
      refine HP.out.mono ?_
      rintro r W7 ⟨rfl, S2, q7, o7, _⟩
      obtain ⟨hlk, W8, hmu, h8⟩ := HI.out.push hx1 (by omega) HTL.out q7 o7
      have H8 := Lib.hid h8
      rw [← HN1.out] at H8
      clear q7 o7 h8
      generalize T.count x = c at *
      go_wp2_with fail
      go_roundw
      case rel => exact ⟨j + 1, _, by omega, by go_num, H8⟩
      case measure => simp [intOf]; omega
    · obtain rfl : j = ll.length := by omega
      rw [List.take_length] at HI
      have HB0 := Lib.hid HI.out.below
      have HI2 : Hid (AllI w b b mb ll.length ll.reverse S' wr) := HI.out
      clear HI
      go_wp2_with fail
      go_loopw [9, 10, 11, 12, 13, 14, 54] (fun td ts _ _ _ _ i wr => ∃ (j : Nat) (T : List Txt) (S : Nat → Prop) (d sh : Txt), j ≤ ll.length ∧ i = .int .i64 j ∧ td = .string ⟨d.toArray⟩ ∧ ts = .string ⟨sh.toArray⟩ ∧ T.length + j ≤ ll.length ∧ ll.length ≤ T.length + j ∧ Hid ((d = [] ∨ ∀ y ∈ T, aheadT y d = false) ∧ (sh = [] ∨ ∀ y ∈ T, aheadT sh y = false)) ∧ Hid (AllI w b b mb (ll.length + j) T S wr)) (fun _ _ _ _ _ _ i _ => ll.length - (intOf i).toNat)
      case atStart => exact ⟨0, ll.reverse, S', [], [], Nat.zero_le _, rfl, rfl, rfl, by simp, by simp, ⟨.inl rfl, .inl rfl⟩, HI2⟩
      case round =>
        clear HI2 HB0
        obtain ⟨j, T, S2, d, sh, hj, rfl, rfl, rfl, ht1, ht2, HO, HI⟩ := hrel
        by_cases hlt : j < ll.length
        · have hTn : T ≠ [] := fun e => by rw [e] at ht2; simp at ht2; omega
          have HP := Lib.hid (qPop_any HI.out.q hTn)
          have HT100 : Hid (T.length ≤ 200) := by show _ ≤ _; omega
          by_cases hjb : j < bl.length
          · obtain ⟨pb, o, rfl, e0⟩ := (HBL.out _ HI.out.below).bool hjb
            have qj : decide ((j : Int) < (bl.length : Int)) = true := decide_eq_true (by omega)
            cases hst : bl[j]
            · rw [hst] at e0
              clear hst
              go_wp2_with fail
              refine HP.out.mono ?_
              rintro r W7 ⟨k, T1, rfl, p7, t7, q7, o7⟩
              have hkT : k ∈ T := p7.subset (List.mem_cons_self)
              obtain ⟨hlk, W8, hmu, h8, hlk2⟩ := AllI.take (HI.out.cnt.onlyS o7 (HI.out.cnt.apart HI.out.q)) (HI.out.below.trans (HI.out.q.only HI.out.base o7)) HI.out.base HI.out.mlow HI.out.short (by omega) (by omega) p7 q7
              have H8 := Lib.hid h8
              have HLT : Hid (T.length = T1.length + 1) := by show _ = _; rw [← p7.length_eq]; rfl
              have HO8 : Hid ((k = [] ∨ ∀ y ∈ T1, aheadT y k = false) ∧ (sh = [] ∨ ∀ y ∈ T1, aheadT sh y = false)) := ⟨.inr fun y hy => t7 y (p7.subset (List.mem_cons_of_mem _ hy)), HO.out.2.imp id fun h y hy => h y (p7.subset (List.mem_cons_of_mem _ hy))⟩
              have HA : Hid (d ≠ [] → aheadT k d = false) := fun hd => (HO.out.1.resolve_left hd) k hkT
              clear p7 t7 q7 o7 h8 hkT
              by_cases hd : d = []
              · have qd : d.isEmpty = true := by rw [hd]; rfl
                clear hd
                have hcl : T1.count k ≤ 1000 := Nat.le_trans List.count_le_length (by have := HLT.out; omega)
                have HQQ := Lib.hid H8
                generalize T1.count k = c at *
                have hc0 : ((c : Int) < 0) = False := eq_false (by omega)
                have hc1 : decide ((c : Int) < 0) = false := decide_eq_false (by omega)
                go_wp2_with fail
                go_roundw
                case rel => exact ⟨j + 1, T1, _, k, sh, by omega, by go_num, rfl, rfl, by have := HLT.out; omega, by have := HLT.out; omega, HO8, H8⟩
                case measure => simp [intOf]; omega
              · have qd : d.isEmpty = false := by simpa using hd
                have HA2 := Lib.hid (HA.out hd)
                have HAH := Lib.hid (refAhead_any k d W7)
                clear hd
                go_wp2_with fail
                refine HAH.out.mono ?_
                rw [HA2.out]
                rintro r w' ⟨rfl, rfl⟩
                have hcl : T1.count k ≤ 1000 := Nat.le_trans List.count_le_length (by have := HLT.out; omega)
                have HQQ := Lib.hid H8
                generalize T1.count k = c at *
                have hc0 : ((c : Int) < 0) = False := eq_false (by omega)
                have hc1 : decide ((c : Int) < 0) = false := decide_eq_false (by omega)
                go_wp2_with fail
                go_roundw
                case rel => exact ⟨j + 1, T1, _, k, sh, by omega, by go_num, rfl, rfl, by have := HLT.out; omega, by have := HLT.out; omega, HO8, H8⟩
                case measure => simp [intOf]; omega
            · rw [hst] at e0
              clear hst
              go_wp2_with fail
              refine HP.out.mono ?_
              rintro r W7 ⟨k, T1, rfl, p7, t7, q7, o7⟩
              have hkT : k ∈ T := p7.subset (List.mem_cons_self)
              have hT1 : T1.length + 1 = T.length := by rw [← p7.length_eq]; rfl
              have HPU := Lib.hid (qPush_any q7 k (by have := HI.out.short k hkT; omega) (by omega))
              have HC7 := Lib.hid (HI.out.cnt.onlyS o7 (HI.out.cnt.apart HI.out.q))
              have HB7 := Lib.hid (HI.out.below.trans (HI.out.q.only HI.out.base o7))
              have HAP := Lib.hid (HC7.out.apart q7)
              have HQ7 := Lib.hid q7
              have HP7 := Lib.hid p7
              clear t7 q7 o7 hkT p7
              go_wp2_with fail
              refine HPU.out.mono ?_
              rintro r W8 ⟨rfl, S3, q8, o8, _⟩
              have HST := Lib.hid (qSteal_any q8 (by simp))
              have HC8 := Lib.hid (HC7.out.onlyS o8 HAP.out)
              have HB8 := Lib.hid (HB7.out.trans (HQ7.out.only HI.out.base o8))
              have HAP8 := Lib.hid (HC8.out.apart q8)
              have HQ8 := Lib.hid q8
              clear q8 o8
              go_wp2_with fail
              refine HST.out.mono ?_
              rintro r W9 ⟨k2, T2, rfl, p9, t9, q9, o9⟩
              have p29 := p9.trans HP7.out
              have hkT : k2 ∈ T := p29.subset (List.mem_cons_self)
              obtain ⟨hlk, W8', hmu, h8, hlk2⟩ := AllI.take (HC8.out.onlyS o9 HAP8.out) (HB8.out.trans (HQ8.out.only HI.out.base o9)) HI.out.base HI.out.mlow HI.out.short (by omega) (by omega) p29 q9
              have H8 := Lib.hid h8
              have HLT : Hid (T.length = T2.length + 1) := by show _ = _; rw [← p29.length_eq]; rfl
              have HO8 : Hid ((d = [] ∨ ∀ y ∈ T2, aheadT y d = false) ∧ (k2 = [] ∨ ∀ y ∈ T2, aheadT k2 y = false)) := ⟨HO.out.1.imp id fun h y hy => h y (p29.subset (List.mem_cons_of_mem _ hy)), .inr fun y hy => t9 y (p9.subset (List.mem_cons_of_mem _ hy))⟩
              have HA : Hid (sh ≠ [] → aheadT sh k2 = false) := fun hd => (HO.out.2.resolve_left hd) k2 hkT
              clear p29 p9 t9 q9 o9 h8 hkT hT1
              by_cases hd : sh = []
              · have qd : sh.isEmpty = true := by rw [hd]; rfl
                clear hd
                have hcl : T2.count k2 ≤ 1000 := Nat.le_trans List.count_le_length (by have := HLT.out; omega)
                have HQQ := Lib.hid H8
                generalize T2.count k2 = c at *
                have hc0 : ((c : Int) < 0) = False := eq_false (by omega)
                have hc1 : decide ((c : Int) < 0) = false := decide_eq_false (by omega)
                go_wp2_with fail
                go_roundw
                case rel => exact ⟨j + 1, T2, _, d, k2, by omega, by go_num, rfl, rfl, by have := HLT.out; omega, by have := HLT.out; omega, HO8, H8⟩
                case measure => simp [intOf]; omega
              · have qd : sh.isEmpty = false := by simpa using hd
                have HA2 := Lib.hid (HA.out hd)
                have HAH := Lib.hid (refAhead_any sh k2 W9)
                clear hd
                go_wp2_with fail
                refine HAH.out.mono ?_
                rw [HA2.out]
                rintro r w' ⟨rfl, rfl⟩
                have hcl : T2.count k2 ≤ 1000 := Nat.le_trans List.count_le_length (by have := HLT.out; omega)
                have HQQ := Lib.hid H8
                generalize T2.count k2 = c at *
                have hc0 : ((c : Int) < 0) = False := eq_false (by omega)
                have hc1 : decide ((c : Int) < 0) = false := decide_eq_false (by omega)
                go_wp2_with fail
                go_roundw
                case rel => exact ⟨j + 1, T2, _, d, k2, by omega, by go_num, rfl, rfl, by have := HLT.out; omega, by have := HLT.out; omega, HO8, H8⟩
                case measure => simp [intOf]; omega
          · have qj : decide ((j : Int) < (bl.length : Int)) = false := decide_eq_false (by omega)
            go_wp2_with fail
            refine HP.out.mono ?_
            rintro r W7 ⟨k, T1, rfl, p7, t7, q7, o7⟩
            have hkT : k ∈ T := p7.subset (List.mem_cons_self)
            obtain ⟨hlk, W8, hmu, h8, hlk2⟩ := AllI.take (HI.out.cnt.onlyS o7 (HI.out.cnt.apart HI.out.q)) (HI.out.below.trans (HI.out.q.only HI.out.base o7)) HI.out.base HI.out.mlow HI.out.short (by omega) (by omega) p7 q7
            have H8 := Lib.hid h8
            have HLT : Hid (T.length = T1.length + 1) := by show _ = _; rw [← p7.length_eq]; rfl
            have HO8 : Hid ((k = [] ∨ ∀ y ∈ T1, aheadT y k = false) ∧ (sh = [] ∨ ∀ y ∈ T1, aheadT sh y = false)) := ⟨.inr fun y hy => t7 y (p7.subset (List.mem_cons_of_mem _ hy)), HO.out.2.imp id fun h y hy => h y (p7.subset (List.mem_cons_of_mem _ hy))⟩
            have HA : Hid (d ≠ [] → aheadT k d = false) := fun hd => (HO.out.1.resolve_left hd) k hkT
            clear p7 t7 q7 o7 h8 hkT
            by_cases hd : d = []
            · have qd : d.isEmpty = true := by rw [hd]; rfl
              clear hd
              have hcl : T1.count k ≤ 1000 := Nat.le_trans List.count_le_length (by have := HLT.out; omega)
              have HQQ := Lib.hid H8
              generalize T1.count k = c at *
              have hc0 : ((c : Int) < 0) = False := eq_false (by omega)
              have hc1 : decide ((c : Int) < 0) = false := decide_eq_false (by omega)
              go_wp2_with fail
              go_roundw
              case rel => exact ⟨j + 1, T1, _, k, sh, by omega, by go_num, rfl, rfl, by have := HLT.out; omega, by have := HLT.out; omega, HO8, H8⟩
              case measure => simp [intOf]; omega
            · have qd : d.isEmpty = false := by simpa using hd
              have HA2 := Lib.hid (HA.out hd)
              have HAH := Lib.hid (refAhead_any k d W7)
              clear hd
              go_wp2_with fail
              refine HAH.out.mono ?_
              rw [HA2.out]
              rintro r w' ⟨rfl, rfl⟩
              have hcl : T1.count k ≤ 1000 := Nat.le_trans List.count_le_length (by have := HLT.out; omega)
              have HQQ := Lib.hid H8
              generalize T1.count k = c at *
              have hc0 : ((c : Int) < 0) = False := eq_false (by omega)
              have hc1 : decide ((c : Int) < 0) = false := decide_eq_false (by omega)
              go_wp2_with fail
              go_roundw
              case rel => exact ⟨j + 1, T1, _, k, sh, by omega, by go_num, rfl, rfl, by have := HLT.out; omega, by have := HLT.out; omega, HO8, H8⟩
              case measure => simp [intOf]; omega
        · obtain rfl : j = ll.length := by omega
          have hT0 : T = [] := List.eq_nil_of_length_eq_zero (by omega)
          subst hT0
          have HL := Lib.hid (qLen_any HI.out.q)
          have HB := Lib.hid HI.out.below
          have HPN := Lib.hid (qPush_nil [97] wr)
          have HPP := Lib.hid (qPop_nil wr)
          have HPS := Lib.hid (qSteal_nil wr)
          have HLN := Lib.hid (qLen_nil wr)
          clear HI HO ht1 ht2
          go_wp2_with fail
          refine HPN.out.mono ?_
          rintro r w' ⟨rfl, rfl⟩
          go_wp2_with fail
          refine HPP.out.mono ?_
          rintro r w' ⟨rfl, rfl⟩
          go_wp2_with fail
          refine HPS.out.mono ?_
          rintro r w' ⟨rfl, rfl⟩
          go_wp2_with fail
          refine HL.out.mono ?_
          rintro r w' ⟨rfl, rfl⟩
          go_wp2_with fail
          refine HLN.out.mono ?_
          rintro r w' ⟨rfl, rfl⟩
          go_wp2
          go_ret
          exact ⟨rfl, HB.out⟩
end Go.Proofs.Ytkphdmfcmfojeaa
