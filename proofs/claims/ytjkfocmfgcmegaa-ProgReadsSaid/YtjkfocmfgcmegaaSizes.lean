/- ProgSizes: how many bytes a program has. -/
import Derived.Test.YtjkfocmfgcmegaaLess
namespace Go.Proofs.Ytjkfocmfgcmegaa
open Go.RowKit

theorem yes_of (p : Pg) (V M : Int) (m : Nat) (hV : V = p.vars) (hM : M = p.mutexes) (hm : m = p.threads.length) (a : Option Addr) (cap : Nat) (w : World) (hr : rightPg p = true) (hp : ThreadsAt w a p.threads) :
    Calls Try.prog 11 #[.agg #[.int .i64 V, .int .i64 M, .slice a m cap]] w fun r w' => r = .returned (.tuple #[.string (bstr (pgB p)), .int .i64 0]) ∧ Below w.heap.size w w' := by
  subst hV hM hm
  exact printsYes p a cap w hp hr

theorem no_of (p : Pg) (V M : Int) (m : Nat) (hV : V = p.vars) (hM : M = p.mutexes) (hm : m = p.threads.length) (a : Option Addr) (cap : Nat) (w : World) (hr : rightPg p = false) (hp : ThreadsAt w a p.threads) :
    Calls Try.prog 11 #[.agg #[.int .i64 V, .int .i64 M, .slice a m cap]] w fun r w' => r = .returned (.tuple #[.string ByteArray.empty, .int .i64 1]) ∧ Below w.heap.size w w' := by
  subst hV hM hm
  exact printsNo p a cap w hp hr

def sumLen (ts : List (List Ins)) : Nat := (ts.map List.length).sum

theorem flatMap_insB_length (l : List Ins) : (l.flatMap insB).length = 4 * l.length := by
  induction l with
  | nil => rfl
  | cons i l ih => simp [insB] at *; omega

theorem flatMap_codeB_length (ts : List (List Ins)) : (ts.flatMap codeB).length = ts.length + 4 * sumLen ts := by
  induction ts with
  | nil => rfl
  | cons l ts ih =>
    have := flatMap_insB_length l
    simp only [List.flatMap_cons, List.length_append, ih, codeB, List.length_cons, this, sumLen, List.map_cons, List.sum_cons]
    omega

theorem pgB_length (p : Pg) : (pgB p).length = 3 + p.threads.length + 4 * sumLen p.threads := by
  have := flatMap_codeB_length p.threads
  simp only [pgB, List.length_append, this, List.length_cons, List.length_nil]
  omega

theorem bstr_size (ns : List Int) : (bstr ns).size = ns.length := by
  show (List.map _ ns).toArray.size = _
  simp

theorem sumLen_succ (ts : List (List Ins)) (k : Nat) (h : k < ts.length) : sumLen (ts.take (k + 1)) = sumLen (ts.take k) + ts[k].length := by
  rw [List.take_succ_eq_append_getElem h]
  simp only [sumLen, List.map_append, List.sum_append, List.map_cons, List.map_nil, List.sum_cons, List.sum_nil]
  omega

theorem sumLen_le (ts : List (List Ins)) (n : Nat) (h : ∀ l ∈ ts, l.length ≤ n) : sumLen ts ≤ n * ts.length := by
  induction ts with
  | nil => simp [sumLen]
  | cons l ts ih =>
    have h1 := h l (by simp)
    have h2 := ih (fun l' hl => h l' (by simp [hl]))
    simp only [sumLen, List.map_cons, List.sum_cons, List.length_cons] at *
    rw [Nat.mul_succ]
    omega

theorem more_right {V M : Int} {ts : List (List Ins)} (h : rightPg ⟨V, M, ts⟩ = true) : rightPg ⟨V, M, ts ++ [[]]⟩ = decide (ts.length < 4) := by
  have hs := rightPg_size h
  dsimp only at hs
  unfold rightPg at h ⊢
  dsimp only at h ⊢
  rw [Bool.and_eq_true, List.all_eq_true] at h
  rw [Bool.eq_iff_iff, Bool.and_eq_true, List.all_eq_true]
  simp only [decide_eq_true_eq, List.length_append, List.length_cons, List.length_nil]
  constructor
  · intro h'; omega
  · intro h'
    refine ⟨by omega, fun l hl => ?_⟩
    rcases List.mem_append.1 hl with hl | hl
    · exact h.2 l hl
    · have : l = [] := by simpa using hl
      subst this
      rfl

/-- A thread without instructions behind a copy's threads; a box at x may change. -/
theorem more_at {w w' wz : World} {B : Nat} {ts : List (List Ins)} {g : Nat} {vs : List Value} (hm : ts.length ≤ 1000) (hms : ∀ l ∈ ts, l.length ≤ 1000) (hl : vs.length = ts.length)
    (hv : ∀ i (h : i < ts.length), ∃ c cap, vs[i]? = some (.slice c ts[i].length cap) ∧ (c = none → cap = 0) ∧ OwnCode w B g c ts[i]) (hg : w.grownBy w' (some g)) (base : Nat) (v : Value)
    (ho : w'.ownsRow base 32 1 v (ts.length + 1) (vs ++ [.slice none 0 0])) (x : Nat) (bc : Array Value) (hx : w'.heap[x]? = some (.cells bc 24 (0, 0))) (hz : ∀ k, k ≠ x → wz.heap[k]? = w'.heap[k]?) :
    ∃ g' cap', v = .slice (some ⟨g', 0, none⟩) (ts.length + 1) cap' ∧ ThreadsAt wz (some ⟨g', 0, none⟩) (ts ++ [[]]) := by
  obtain ⟨h1, h2 | ⟨g', cap', cur, h2, h3, h4, h5, h6, h7, h8⟩⟩ := ho
  · exact absurd h2.2 (by omega)
  have hgx : g' ≠ x := by
    intro e
    rw [e, hx] at h4
    simp at h4
  have h4z := (hz g' hgx).trans h4
  refine ⟨g', cap', h2, ⟨by simp [maxLen]; omega, fun _ => ⟨g', 0, rfl, fun i hi => ?_⟩⟩⟩
  have hcell : ∀ j u, (vs ++ [Value.slice none 0 0])[j]? = some u → wz.cell? ⟨g', 0 + j, none⟩ = some u := by
    intro j u hj
    have hjl : j < ts.length + 1 := by
      have := (List.getElem?_eq_some_iff.1 hj).1
      simp at this
      omega
    rw [← h8, List.getElem?_take_of_lt (by omega)] at hj
    simp [World.cell?, h4z]
    simpa using hj
  by_cases hi' : i < ts.length
  · obtain ⟨c, ccap, q1, q2, q3⟩ := hv i hi'
    have e : (ts ++ [[]])[i]'hi = ts[i] := List.getElem_append_left hi'
    rw [e]
    refine ⟨c, ccap, hcell i _ (by rw [List.getElem?_append_left (by omega)]; exact q1), ⟨by have := hms _ (List.getElem_mem hi'); unfold maxLen; omega, fun hne => ?_⟩, q2⟩
    obtain ⟨gi, rfl, r1, r2, r3⟩ := q3 hne
    have r4 : w'.heap[gi]? = _ := (hg.block gi (Array.getElem?_eq_some_iff.1 r3).1 (by intro e; simp at e; exact r2 e)).trans r3
    have r5 : gi ≠ x := by
      intro e
      rw [e, hx] at r4
      simp at r4
    exact (codeAt_row (by have := hms _ (List.getElem_mem hi'); unfold maxLen; omega) ((hz gi r5).trans r4)).2 hne
  · have hi2 : i = ts.length := by simp at hi; omega
    subst hi2
    have e : (ts ++ [[]])[ts.length]'hi = [] := by simp
    rw [e]
    exact ⟨none, 0, hcell _ _ (by rw [← hl]; simp), ⟨by simp [maxLen], fun h => absurd rfl h⟩, fun _ => rfl⟩

theorem OwnCode.later {w w' : World} {B g : Nat} {c : Option Addr} {l : List Ins} (h : OwnCode w B g c l) (hb : Below w.heap.size w w') : OwnCode w' B g c l := fun hne => by
  obtain ⟨g', e, h1, h2, h3⟩ := h hne
  exact ⟨g', e, h1, h2, (hb.block g' (Array.getElem?_eq_some_iff.1 h3).1).trans h3⟩

/-- Behind the append: the new row, the box, and all that lay below. -/
theorem sizes_mid {w5 w6 : World} {V M : Int} {ts : List (List Ins)} {g B : Nat} {vs : List Value} (hm : ts.length ≤ 1000) (hms : ∀ l ∈ ts, l.length ≤ 1000) (hl : vs.length = ts.length)
    (hv : ∀ i (h : i < ts.length), ∃ c cap, vs[i]? = some (.slice c ts[i].length cap) ∧ (c = none → cap = 0) ∧ OwnCode w5 B g c ts[i]) (hg : B ≤ g) (hgz : g < w5.heap.size) (v : Value)
    (hgr : ((w5.alloc (.cells #[.int .i64 V, .int .i64 M, .slice (some ⟨g, 0, none⟩) ts.length ts.length] 24)).alloc (.cells #[.slice none 0 0] 32)).grownBy w6 (some g))
    (ho : w6.ownsRow B 32 1 v (ts.length + 1) (vs ++ [.slice none 0 0])) :
    ∃ g' cap', v = .slice (some ⟨g', 0, none⟩) (ts.length + 1) cap' ∧ Hid (∀ u, ThreadsAt (w6.setCell ⟨w5.heap.size, 2, none⟩ u) (some ⟨g', 0, none⟩) (ts ++ [[]])) ∧ w6.cell? ⟨w5.heap.size, 0, none⟩ = some (.int .i64 V) ∧ w6.cell? ⟨w5.heap.size, 1, none⟩ = some (.int .i64 M) ∧
      w6.cell? ⟨w5.heap.size, 2, none⟩ = some (.slice (some ⟨g, 0, none⟩) ts.length ts.length) ∧ w6.frozen? ⟨w5.heap.size, 2, none⟩ = false ∧ Below B w5 w6 := by
  have hb2 := below_alloc2 w5 (.cells #[.int .i64 V, .int .i64 M, .slice (some ⟨g, 0, none⟩) ts.length ts.length] 24) (.cells #[.slice none 0 0] 32)
  have hbox : w6.heap[w5.heap.size]? = some (.cells #[.int .i64 V, .int .i64 M, .slice (some ⟨g, 0, none⟩) ts.length ts.length] 24 (0, 0)) := by
    rw [hgr.block _ (by simp; omega) (by simp; omega), Below.heap_alloc _ _ _ (by simp)]
    exact (MapKept.heap_alloc w5 _).1
  have hmore := fun (wz : World) hz => more_at (wz := wz) hm hms hl (fun i hi => by obtain ⟨c, cap, q1, q2, q3⟩ := hv i hi; exact ⟨c, cap, q1, q2, q3.later hb2⟩) hgr B v ho w5.heap.size _ hbox hz
  obtain ⟨g', cap', e, _⟩ := hmore w6 (fun _ _ => rfl)
  refine ⟨g', cap', e, fun u => ?_, ?_, ?_, ?_, ?_, (hb2.mono (by omega)).grown hgr (by simp; omega) (fun k hk => by simp at hk; omega)⟩
  · obtain ⟨g2, cap2, e2, h2⟩ := hmore (w6.setCell ⟨w5.heap.size, 2, none⟩ u) (fun k hk => Below.heap_setCell _ _ _ _ hk)
    rw [e] at e2
    have e3 : g' = g2 := by simpa using congrArg (fun v => match v with | .slice (some a) _ _ => a.block | _ => 0) e2
    rw [e3]; exact h2
  all_goals simp [World.cell?, World.frozen?, hbox]

theorem wp_appendT {w : World} {ops : Array Oper} {rest : List Oper} {o : Oper} {a : Act} {Q : Exit → Act → World → Prop} (hgd : o.guard = none) (s x : Operand)
    (ho : o.op = .call { callee := .builtin .append, args := #[s, x], argTypes := #[22, 22] }) (B : Nat) (v : Value) (n : Nat) (xs : List Value) (hs : a.eval s = v) (hown : w.ownsRow B 32 1 v n xs)
    (ad : Addr) (u : Value) (hu : u.oneCell' = true) (hx : a.eval x = .slice (some ad) 1 1) (hnews : ∀ j y, [u][j]? = some y → w.cell? (ad.add j) = some y)
    (hlen : n ≤ 1000000000) (hB : B ≤ w.heap.size)
    (h : ∀ v' w', w'.ownsRow B 32 1 v' (n + 1) (xs ++ [u]) → w.grownBy w' v.ownBlock → wpList Try.prog ops Q rest (a.put o.dst v') w') : wpList Try.prog ops Q (o :: rest) a w := by
  have hinfo : (Try.prog.info? 32).map (fun i => (i.zero, i.size, i.bytes)) = some (some (.slice none 0 0), 1, 24) := by kernel_rfl
  obtain ⟨i, hi, hzz⟩ := Option.map_eq_some_iff.1 hinfo
  simp only [Prod.mk.injEq] at hzz
  obtain ⟨hz, hsz, hby⟩ := hzz
  refine wpList_append_own w hgd s x 22 ho B 32 i (.slice none 0 0) 1 24 Try.underlying22 hi hz hsz hby rfl (by decide) v n xs hs hown ad 1 1 [u] hx rfl hnews
    (by intro y hy; obtain rfl : y = u := by simpa using hy
        exact hu) (by unfold maxLen; omega) (by omega) hB ?_
  intro v' w' h1 h2 _
  exact h v' w' h1 h2

theorem one_new (w : World) (x : Value) (t : TypeId) (g : Nat) (hg : g = w.heap.size) : ∀ j y, [x][j]? = some y → (w.alloc (.cells #[x] t)).cell? (Addr.add ⟨g, 0, none⟩ j) = some y := by
  subst hg
  intro j y hj
  match j, hj with
  | 0, hj => simpa [Addr.add] using hj

set_option maxRecDepth 100000 in
set_option maxHeartbeats 1500000 in
theorem sizes_any (p : Pg) (a : Option Addr) (cap : Nat) (w : World) (hp : ThreadsAt w a p.threads) (ha : a = none → cap = 0) :
    Calls Try.prog 6 #[pgV p a cap] w fun r w' => r = .returned (.bool true) ∧ Below w.heap.size w w' := by
  obtain ⟨V, M, ts⟩ := p
  unfold pgV
  dsimp only at *
  have hm := hp.1
  unfold maxLen at hm
  have HP := Lib.hid hp
  have HA := Lib.hid ha
  clear hp ha
  go_enter Try.func6, Try.ntmps6
  go_wp2_with fail
  refine (awake_any _).mono ?_
  rintro r w1 ⟨rfl, hb1⟩
  have hb1' : Below (w.heap.size + 1) (w.alloc (.cells #[.int .i64 V, .int .i64 M, .slice a ts.length cap] 24)) w1 := hb1.mono (by simp)
  have p0 : w1.cell? ⟨w.heap.size, 0, none⟩ = some (.int .i64 V) := by rw [hb1'.cell (p := ⟨w.heap.size, 0, none⟩) (by simp)]; simp
  have p1 : w1.cell? ⟨w.heap.size, 1, none⟩ = some (.int .i64 M) := by rw [hb1'.cell (p := ⟨w.heap.size, 1, none⟩) (by simp)]; simp
  have p2 : w1.cell? ⟨w.heap.size, 2, none⟩ = some (.slice a ts.length cap) := by rw [hb1'.cell (p := ⟨w.heap.size, 2, none⟩) (by simp)]; simp
  have hw1 : Below w.heap.size w w1 := (below_alloc1 w _).trans (hb1.mono (by simp))
  go_wp2_with fail
  refine (few_any ⟨V, M, ts⟩ a cap _ (HP.out.later hw1)).mono ?_
  rintro r w2 ⟨rfl, hb2⟩
  have hw2 : Below w.heap.size w w2 := hw1.trans (hb2.mono hw1.size)
  have q0 := cell_later hb2 p0
  have q1 := cell_later hb2 p1
  have q2 := cell_later hb2 p2
  clear p0 p1 p2 hb1 hb1'
  cases hf : fewPg ⟨V, M, ts⟩
  · clear hf
    go_wp2_with fail
    refine (awake_any _).mono ?_
    rintro r w3 ⟨rfl, hb3⟩
    have hw3 : Below w.heap.size w w3 := hw2.trans (hb3.mono hw2.size)
    go_wp2
    go_ret
    exact ⟨rfl, hw3⟩
  · have hfs := few_small hf
    have HFS := Lib.hid hfs
    clear hf hfs
    go_wp2_with fail
    refine (refRight_any ⟨V, M, ts⟩ a cap _ (HP.out.later hw2)).mono ?_
    rintro r w3 ⟨rfl, hb3⟩
    have hw3 : Below w.heap.size w w3 := hw2.trans (hb3.mono hw2.size)
    have r0 := cell_later hb3 q0
    have r1 := cell_later hb3 q1
    have r2 := cell_later hb3 q2
    clear q0 q1 q2 hb2 hb3
    cases hr : rightPg ⟨V, M, ts⟩
    · clear hr
      go_wp2_with fail
      refine (awake_any _).mono ?_
      rintro r w4 ⟨rfl, hb4⟩
      have hw4 : Below w.heap.size w w4 := hw3.trans (hb4.mono hw3.size)
      go_wp2
      go_ret
      exact ⟨rfl, hw4⟩
    · have hsz := rightPg_size hr
      obtain ⟨_, _, _, _, hn1, hn4⟩ := hsz
      dsimp only at hn1 hn4
      have HR := Lib.hid hr
      clear hr
      have h8 : ∀ l ∈ ts, l.length ≤ 8 := by
        intro l hl
        obtain ⟨k, hk, rfl⟩ := List.mem_iff_getElem.1 hl
        exact (rightPg_code HR.out hk).1
      have hsl := sumLen_le ts 8 h8
      have HSL := Lib.hid (And.intro hsl h8)
      clear hsl h8
      go_wp2_with fail
      refine (printsYes ⟨V, M, ts⟩ a cap _ (HP.out.later hw3) HR.out).mono ?_
      rintro r w4 ⟨rfl, hb4⟩
      have hw4 : Below w.heap.size w w4 := hw3.trans (hb4.mono hw3.size)
      have s0 := cell_later hb4 r0
      have s1 := cell_later hb4 r1
      have s2 := cell_later hb4 r2
      clear r0 r1 r2 hb4
      obtain ⟨S, hS⟩ : ∃ S, S = bstr (pgB ⟨V, M, ts⟩) := ⟨_, rfl⟩
      rw [← hS]
      have HS : Hid (S.size = 3 + ts.length + 4 * sumLen ts) := by
        show _ = _
        rw [hS, bstr_size, pgB_length]
      clear hS
      go_wp2
      go_loop [5, 36] (fun n i => ∃ (k m : Nat), k ≤ ts.length ∧ i = .int .i64 k ∧ n = .int .i64 m ∧ Hid (m = 3 + ts.length + 4 * sumLen (ts.take k)) ∧ m ≤ 7 + 32 * k) (fun _ i => ts.length - (intOf i).toNat)
      case atStart => exact ⟨0, 3 + ts.length, Nat.zero_le _, rfl, by go_num, by show _ = _; simp [sumLen], by omega⟩
      case round =>
        obtain ⟨k, m, hk, rfl, rfl, HM, hmm⟩ := hrel
        by_cases hlt : k < ts.length
        · obtain ⟨b, o, rfl, hc⟩ := (HP.out.later hw4).2 (by intro e; simp [e] at hlt)
          obtain ⟨c, ccap, c0, c1, _⟩ := hc k hlt
          have hk8 : ts[k].length ≤ 8 := HSL.out.2 _ (List.getElem_mem _)
          have HSS := Lib.hid (sumLen_succ ts k hlt)
          clear c1 hc
          go_wp2
          go_round
          case rel => exact ⟨k + 1, m + 4 * ts[k].length, by omega, by go_num, by go_num, by show _ = _; rw [HSS.out, HM.out]; omega, by omega⟩
          case measure => simp [intOf]; omega
        · obtain rfl : k = ts.length := by omega
          have HM2 : Hid (m = S.size) := by
            show _ = _
            rw [HM.out, HS.out, List.take_length]
          go_wp2_with fail
          refine (copy_any ⟨V, M, ts⟩ a cap _ (HP.out.later hw4) HA.out (by dsimp only; omega) (fun l hl => by have := HFS.out.2 l hl; omega)).mono ?_
          rintro r w5 ⟨a', cap', rfl, ha', hb5, ho, hcap⟩
          dsimp only at hcap ho
          obtain ⟨g, vs, rfl, hgB, hgh, hvl, hvv⟩ := ho (by intro e; simp [e] at hn1)
          subst hcap
          have hpv : pgV ⟨V, M, ts⟩ (some ⟨g, 0, none⟩) ts.length = .agg #[.int .i64 V, .int .i64 M, .slice (some ⟨g, 0, none⟩) ts.length ts.length] := rfl
          rw [hpv]
          have hw5 : Below w.heap.size w w5 := hw4.trans (hb5.mono hw4.size)
          have t0 := cell_later hb5 s0
          have t1 := cell_later hb5 s1
          have t2 := cell_later hb5 s2
          have hz5 := cell_block t0
          have hgz : g < w5.heap.size := (Array.getElem?_eq_some_iff.1 hgh).1
          dsimp only at hz5
          have hzz := hw4.size
          have HV := Lib.hid (And.intro hvl hvv)
          have hown : w5.ownsRow w4.heap.size 32 1 (.slice (some ⟨g, 0, none⟩) ts.length ts.length) ts.length vs :=
            ⟨by omega, .inr ⟨g, ts.length, vs.toArray, rfl, hgB, hgh, Nat.le_refl _, by unfold maxLen; omega, by simp [hvl], by simp [← hvl]⟩⟩
          have HOW := Lib.hid hown
          have s2' := s2
          clear hpv ho ha' hgh hvl hvv hown s0 s1 s2
          have HSM : Hid (ts.length ≤ 1000 ∧ ∀ l ∈ ts, l.length ≤ 1000) := ⟨by omega, fun l hl => by have := HFS.out.2 l hl; omega⟩
          go_wp2_with (at_builtin; refine wp_appendT rfl (.tmp 49) (.tmp 50) rfl w4.heap.size _ ts.length vs rfl ((HOW.out.alloc _).alloc _) ⟨w5.heap.size + 1, 0, none⟩ (.slice none 0 0) rfl rfl (one_new (w5.alloc _) _ _ _ (by simp)) (by omega) (by simp; omega) ?_; intro v6 w6 hown6 hgr6; obtain ⟨g6, cap6, rfl, HTH6, x0, x1, x2, xf, hb6⟩ := sizes_mid HSM.out.1 HSM.out.2 HV.out.1 HV.out.2 hgB hgz v6 hgr6 hown6; clear hown6 hgr6)
          have hw7 : Below w.heap.size w (w6.setCell ⟨w5.heap.size, 2, none⟩ (.slice (some ⟨g6, 0, none⟩) (ts.length + 1) cap6)) := (hw5.trans (hb6.mono hzz)).setCell (p := ⟨w5.heap.size, 2, none⟩) (by show w.heap.size ≤ w5.heap.size; omega) _
          have y2 : (w6.setCell ⟨w5.heap.size, 2, none⟩ (.slice (some ⟨g6, 0, none⟩) (ts.length + 1) cap6)).cell? ⟨w.heap.size, 2, none⟩ = some (.slice a ts.length cap) := by
            have h1 : w6.cell? ⟨w.heap.size, 2, none⟩ = some (.slice a ts.length cap) := by
              rw [hb6.cell (p := ⟨w.heap.size, 2, none⟩) (by have := cell_block s2'; exact this)]; exact t2
            rw [World.cell?_of_block (Below.heap_setCell _ _ _ _ (by show w.heap.size ≠ w5.heap.size; omega))]; exact h1
          have HT7 := Lib.hid (HTH6.out (.slice (some ⟨g6, 0, none⟩) (ts.length + 1) cap6))
          have hl7 : (ts ++ [([] : List Ins)]).length = ts.length + 1 := by simp
          have HL7 := Lib.hid hl7
          clear hl7
          generalize w6.setCell ⟨w5.heap.size, 2, none⟩ (.slice (some ⟨g6, 0, none⟩) (ts.length + 1) cap6) = W7 at *
          by_cases h4 : ts.length < 4
          · have hr7 : rightPg ⟨V, M, ts ++ [[]]⟩ = true := by rw [more_right HR.out]; simp [h4]
            have hq : ((ts.length : Int) == 4) = false := by simp; omega
            refine (yes_of ⟨V, M, ts ++ [[]]⟩ V M (ts.length + 1) rfl rfl HL7.out.symm (some ⟨g6, 0, none⟩) cap6 _ hr7 HT7.out).mono ?_
            rintro r w8 ⟨rfl, hb8⟩
            obtain ⟨T, hT⟩ : ∃ T, T = bstr (pgB ⟨V, M, ts ++ [[]]⟩) := ⟨_, rfl⟩
            rw [← hT]
            have hts : T.size = m + 1 := by
              rw [hT, bstr_size, pgB_length, HM2.out, HS.out]
              simp [sumLen]
              omega
            have y8 := cell_later hb8 y2
            have hw8 : Below w.heap.size w w8 := hw7.trans (hb8.mono hw7.size)
            have e1 : ((S.size : Int) == (m : Int)) = true := by rw [HM2.out]; simp
            have e2 : ((T.size : Int) == (m : Int) + 1) = true := by rw [hts]; simp
            clear hT hr7
            have HTS := Lib.hid hts
            clear hts
            go_wp2
            go_ret
            exact ⟨rfl, hw8⟩
          · have hr7 : rightPg ⟨V, M, ts ++ [[]]⟩ = false := by rw [more_right HR.out]; simp; omega
            have hq : ((ts.length : Int) == 4) = true := by simp; omega
            refine (no_of ⟨V, M, ts ++ [[]]⟩ V M (ts.length + 1) rfl rfl HL7.out.symm (some ⟨g6, 0, none⟩) cap6 _ hr7 HT7.out).mono ?_
            rintro r w8 ⟨rfl, hb8⟩
            have y8 := cell_later hb8 y2
            have hw8 : Below w.heap.size w w8 := hw7.trans (hb8.mono hw7.size)
            have e1 : ((S.size : Int) == (m : Int)) = true := by rw [HM2.out]; simp
            clear hr7
            go_wp2
            go_ret
            exact ⟨rfl, hw8⟩
end Go.Proofs.Ytjkfocmfgcmegaa
