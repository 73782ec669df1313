/-
  WalkTurned: a program whose threads stand the other way round has as many classes, executions, prefixes, and deadlocks: the law answers true, and its arguments read as they did.
  For every input, whatever its size and however its parts share memory; nothing is asked of it but what the statement's own form asks.
-/
import Derived.Deep.RegionLaw
import Derived.WalkKit
import Derived.ProofKit
import Derived.OpenShut
import Derived.Test.YtljlaopjimkcmaaGreatRows
import Derived.Test.YtljlaopjimkcmaaGreatPk01
import Derived.Test.YtljlaopjimkcmaaGreatPk02
import Derived.Test.YtljlaopjimkcmaaGreatPk04
import Derived.Test.YtljlaopjimkcmaaGreatPk09
import Derived.Test.YtljlaopjimkcmaaGreatPk10

/- Walks, plainly: of a program whose threads stand the other way round there are as many classes. -/
namespace Go.Proofs.YtljlaopjimkcmaaGreat

theorem dep_flip (n : Nat) (a b : Ev) : dep (flipE n a) (flipE n b) = dep a b := by
  unfold dep flipE
  dsimp only
  simp only [flipT_inj]
theorem map_flip (n : Nat) (l : List Ev) : (l.map (flipE n)).map (flipE n) = l := by
  rw [List.map_map]
  have : (flipE n ∘ flipE n) = id := by
    funext e
    show flipE n (flipE n e) = e
    unfold flipE
    dsimp only
    rw [flipT_flip]
  rw [this, List.map_id]
theorem sim_flip (n : Nat) {a b : List Ev} (h : Sim a b) : Sim (a.map (flipE n)) (b.map (flipE n)) := by
  refine (lvls_iff _ _).1 (sim_fun _ a b (fun l => lvls (l.map (flipE n))) rfl h ?_)
  intro x y e f hd
  dsimp only
  simp only [List.map_append, List.map_cons]
  exact lvls_blind _ _ _ _ (by rw [dep_flip]; exact hd)
theorem sim_flip_iff (n : Nat) (a b : List Ev) : Sim (a.map (flipE n)) (b.map (flipE n)) ↔ Sim a b := by
  refine ⟨fun h => ?_, sim_flip n⟩
  have := sim_flip n h
  rwa [map_flip, map_flip] at this
theorem runs_ex (n : Nat) : ∀ (s : St) (row : List Ev) (x : St × List Ev), x ∈ s.runs n row → ∃ l, x.2 = row ++ l ∧ Ex s l x.1 := by
  induction n with
  | zero =>
    intro s row x hx
    obtain rfl := List.mem_singleton.1 hx
    exact ⟨[], (List.append_nil _).symm, rfl⟩
  | succ n ih =>
    intro s row x hx
    by_cases h : s.all = []
    · rw [(runs_end (n + 1) s row h).1] at hx
      obtain rfl := List.mem_singleton.1 hx
      exact ⟨[], (List.append_nil _).symm, rfl⟩
    · have hx' : x ∈ (if s.all = [] then [(s, row)] else s.all.flatMap fun t => St.runs n (s.step t).2.2 (row ++ [(s.step t).2.1])) := hx
      rw [if_neg h, List.mem_flatMap] at hx'
      obtain ⟨t, ht, hx2⟩ := hx'
      obtain ⟨e, s1, h1, h2⟩ := all_step' ht
      rw [h1] at hx2
      obtain ⟨l, g1, g2⟩ := ih s1 _ x hx2
      have ht := (step_next h1).2.2
      exact ⟨e :: l, by rw [g1, List.append_assoc]; rfl, s1, by rw [ht]; exact h1, g2⟩
theorem ex_right {F : Nat} {l : List Ev} : ∀ {s z : St}, s.Ok F → Ex s l z → rightL l = true := by
  induction l with
  | nil => intro s z _ _; rfl
  | cons e l ih =>
    rintro s z ok ⟨s1, h1, h2⟩
    have ok1 := ok.step_ok e.thread
    rw [h1] at ok1
    rw [rightL_all, List.all_cons, Bool.and_eq_true]
    exact ⟨ev_right ok h1, ih ok1 h2⟩
theorem runs_right {F : Nat} {s : St} (ok : s.Ok F) {n : Nat} {x : St × List Ev} (h : x ∈ s.runs n []) : rightL x.2 = true ∧ x.2.length ≤ 200 := by
  obtain ⟨l, h1, h2⟩ := runs_ex n s [] x h
  rw [List.nil_append] at h1
  rw [h1]
  have := ex_len h2
  have := fuel_le ok
  exact ⟨ex_right ok h2, by omega⟩
theorem keyB_iff {a b : List Ev} (ha : rightL a = true) (hb : rightL b = true) (hl : a.length ≤ 200) (hl' : b.length ≤ 200) : keyB a = keyB b ↔ Sim a b := by
  unfold keyB
  rw [key_iff ha hl hl']
  exact ⟨fun h => h.2.2, fun h => ⟨ha, hb, h⟩⟩

theorem dedup_count {T : Type} (f g : T → Key) : ∀ l : List T, (∀ x ∈ l, ∀ y ∈ l, f x = f y ↔ g x = g y) → (dedupK (l.map f)).length = (dedupK (l.map g)).length := by
  intro l
  induction l with
  | nil => intro _; rfl
  | cons x l ih =>
    intro h
    have h1 := ih fun y hy z hz => h y (List.mem_cons_of_mem _ hy) z (List.mem_cons_of_mem _ hz)
    have h2 : f x ∈ l.map f ↔ g x ∈ l.map g := by
      simp only [List.mem_map]
      constructor
      · rintro ⟨y, hy, e⟩
        exact ⟨y, hy, (h y (List.mem_cons_of_mem _ hy) x List.mem_cons_self).1 e⟩
      · rintro ⟨y, hy, e⟩
        exact ⟨y, hy, (h y (List.mem_cons_of_mem _ hy) x List.mem_cons_self).2 e⟩
    rw [List.map_cons, List.map_cons, dedupK, dedupK]
    by_cases hm : f x ∈ l.map f
    · rw [if_pos hm, if_pos (h2.1 hm)]
      exact h1
    · rw [if_neg hm, if_neg (fun e => hm (h2.2 e)), List.length_cons, List.length_cons, h1]
theorem dedup_perm {a b : List Key} (h : a.Perm b) : (dedupK a).length = (dedupK b).length := by
  refine ((List.perm_ext_iff_of_nodup (nodup_dedupK a) (nodup_dedupK b)).2 fun x => ?_).length_eq
  rw [mem_dedupK, mem_dedupK]
  exact h.mem_iff

theorem waits_flip {F : Nat} {s : St} (ok : s.Ok F) : waits (flipS s) = waits s := by
  have key : ∀ {s : St}, s.Ok F → waits s = true → waits (flipS s) = true := by
    intro s ok h
    unfold waits at h ⊢
    obtain ⟨k, hk, hn⟩ := List.any_eq_true.1 h
    have hk' := List.mem_range.1 hk
    have hl : (flipS s).ts.length = s.ts.length := by show s.ts.reverse.length = _; rw [List.length_reverse]
    refine List.any_eq_true.2 ⟨s.ts.length - 1 - k, List.mem_range.2 (by rw [hl]; omega), ?_⟩
    have e : ((s.ts.length - 1 - k : Nat) : Int) = flipT s.ts.length k := by unfold flipT; omega
    rw [e, flip_next ok, Option.isSome_map]
    exact hn
  have hinv : ∀ {s : St}, s.Ok F → flipS (flipS s) = s := by
    intro s ok
    have hl : (flipS s).ts.length = s.ts.length := by show s.ts.reverse.length = _; rw [List.length_reverse]
    obtain ⟨⟨V, M, ths⟩, ts, v, m⟩ := s
    unfold flipS flipP
    dsimp only
    simp only [List.reverse_reverse, List.length_reverse, List.map_map]
    have hm : m.map (flipM ts.length ∘ flipM ts.length) = m := by
      conv => rhs; rw [← List.map_id m]
      apply List.map_congr_left
      intro x hx
      have := ok.mm x hx
      show flipM ts.length (flipM ts.length x) = x
      dsimp only at this
      unfold flipM flipT
      split
      · rfl
      · split <;> omega
    rw [hm]
  cases h : waits s with
  | true => exact key ok h
  | false =>
    rw [Bool.eq_false_iff]
    intro h2
    have := key (flip_ok ok) h2
    rw [hinv ok, h] at this
    cases this
/-- As many of each. -/
theorem turned_all {p : Pg} {fuel : Int} (hok : okPg p fuel) : okPg (flipP p) fuel ∧ preW (flipP p) fuel = preW p fuel ∧ (runsW (flipP p) fuel).length = (runsW p fuel).length ∧ stuckN (runsW (flipP p) fuel) = stuckN (runsW p fuel) ∧
    (sortK (keysOf (runsW (flipP p) fuel))).length = (sortK (keysOf (runsW p fuel))).length := by
  have ok : (s0 p fuel).Ok fuel.toNat := new_ok hok.1 fuel.toNat (by have := hok.2; omega)
  have hokf : okPg (flipP p) fuel := ⟨by rw [right_flip]; exact hok.1, hok.2⟩
  have okf : (s0 (flipP p) fuel).Ok fuel.toNat := new_ok hokf.1 fuel.toNat (by have := hok.2; omega)
  have hp := flip_runs 33 (s := s0 p fuel) [] ok
  rw [flip_s0] at hp
  have hp' : (runsW (flipP p) fuel).Perm ((runsW p fuel).map fun x => (flipS x.1, x.2.map (flipE (s0 p fuel).ts.length))) := hp
  refine ⟨hokf, ?_, ?_, ?_, ?_⟩
  · unfold preW
    rw [← flip_s0]
    exact flip_pre 33 ok
  · rw [hp'.length_eq, List.length_map]
  · unfold stuckN
    rw [(hp'.filter _).length_eq, List.filter_map, List.length_map]
    congr 1
    apply List.filter_congr
    intro x hx
    have hx1 : ∃ l, x.2 = [] ++ l ∧ Ex (s0 p fuel) l x.1 := runs_ex 33 (s0 p fuel) [] x hx
    obtain ⟨l, _, hx2⟩ := hx1
    exact waits_flip (hx2.ok ok)
  · rw [sortK_length, sortK_length]
    have h1 : (keysOf (runsW (flipP p) fuel)).Perm ((runsW p fuel).map fun x => keyB (x.2.map (flipE (s0 p fuel).ts.length))) := by
      unfold keysOf
      have := hp'.map (fun x => keyB x.2)
      rw [List.map_map] at this
      exact this
    rw [dedup_perm h1]
    unfold keysOf
    refine dedup_count _ _ _ fun x hx y hy => ?_
    obtain ⟨rx, lx⟩ := runs_right ok hx
    obtain ⟨ry, ly⟩ := runs_right ok hy
    have hfx : rightL (x.2.map (flipE (s0 p fuel).ts.length)) = true := by
      have hm : (flipS x.1, x.2.map (flipE (s0 p fuel).ts.length)) ∈ runsW (flipP p) fuel := hp'.mem_iff.2 (List.mem_map.2 ⟨x, hx, rfl⟩)
      exact (runs_right okf hm).1
    have hfy : rightL (y.2.map (flipE (s0 p fuel).ts.length)) = true := by
      have hm : (flipS y.1, y.2.map (flipE (s0 p fuel).ts.length)) ∈ runsW (flipP p) fuel := hp'.mem_iff.2 (List.mem_map.2 ⟨y, hy, rfl⟩)
      exact (runs_right okf hm).1
    rw [keyB_iff hfx hfy (by rw [List.length_map]; exact lx) (by rw [List.length_map]; exact ly), keyB_iff rx ry lx ly, sim_flip_iff]

end Go.Proofs.YtljlaopjimkcmaaGreat

/- A program whose threads stand the other way round, in memory. -/
namespace Go.Proofs.YtljlaopjimkcmaaGreat
open Go.RowKit

/-- A thread's slice, as it lies, and the code behind it. -/
def SlOf (w : World) (l : List Ins) (x : Sl) : Prop := x.n = l.length ∧ CodeAt w x.a l ∧ (x.a = none → x.c = 0)
theorem threads_sl {w : World} {a : Option Addr} {ts : List (List Ins)} (h : ThreadsAt w a ts) (hne : ts ≠ []) : ∃ b o, a = some ⟨b, o, none⟩ ∧ ∃ S : List Sl, S.length = ts.length ∧ ∀ i x, S[i]? = some x → ∃ hi : i < ts.length, w.cell? ⟨b, o + i, none⟩ = some (.slice x.a x.n x.c) ∧ SlOf w ts[i] x := by
  obtain ⟨b, o, rfl, hc⟩ := h.2 hne
  refine ⟨b, o, rfl, ?_⟩
  obtain ⟨S, h1, h2⟩ := exists_list ts.length (fun i (x : Sl) => ∃ hi : i < ts.length, w.cell? ⟨b, o + i, none⟩ = some (.slice x.a x.n x.c) ∧ SlOf w ts[i] x) (fun i hi => by
    obtain ⟨c, cap, g1, g2, g3⟩ := hc i hi
    exact ⟨⟨c, ts[i].length, cap⟩, hi, g1, rfl, g2, g3⟩)
  exact ⟨S, h1, h2⟩
theorem SlOf.later {w w' : World} {l : List Ins} {x : Sl} (h : SlOf w l x) (hb : Below w.heap.size w w') : SlOf w' l x := ⟨h.1, h.2.1.later hb, h.2.2⟩
theorem threads_rev {w : World} {a : Option Addr} {ts : List (List Ins)} {S : List Sl} (hm : ts.length ≤ 1000) (hl : S.length = ts.length) (hS : ∀ i x, S[i]? = some x → ∃ hi : i < ts.length, SlOf w ts[i] x) (hr : RowAt w a 1 slCell S.reverse) : ThreadsAt w a ts.reverse := by
  refine ⟨by rw [List.length_reverse]; unfold maxLen; omega, fun hne => ?_⟩
  obtain ⟨b, o, rfl, hc⟩ := hr.2 (by intro e; apply hne; rw [List.reverse_eq_nil_iff] at e ⊢; rw [e] at hl; exact List.length_eq_zero_iff.1 hl.symm)
  refine ⟨b, o, rfl, fun i hi => ?_⟩
  rw [List.length_reverse] at hi
  have hj : i < S.reverse.length := by rw [List.length_reverse]; omega
  have h1 := hc i hj 0 _ rfl
  rw [Nat.mul_one, Nat.add_zero] at h1
  have h2 : S[ts.length - 1 - i]? = some (S.reverse[i]) := by
    rw [List.getElem_reverse, List.getElem?_eq_getElem (by omega)]
    congr 2
    omega
  obtain ⟨hi2, g1, g2, g3⟩ := hS _ _ h2
  have e : ts.reverse[i]'(by rw [List.length_reverse]; exact hi) = ts[ts.length - 1 - i] := by rw [List.getElem_reverse]
  rw [e]
  exact ⟨S.reverse[i].a, S.reverse[i].c, by rw [h1, g1], g2, g3⟩
/-- The program that is built, in its block. -/
def QAt (w : World) (Q : Nat) (V M : Int) (tv : Value) : Prop := w.heap[Q]? = some (.cells #[.int .i64 V, .int .i64 M, tv] 24 (0, 0))
theorem QAt.later {w w' : World} {Q : Nat} {V M : Int} {tv : Value} (h : QAt w Q V M tv) (hb : Below w.heap.size w w') : QAt w' Q V M tv := (hb.block Q (Array.getElem?_eq_some_iff.1 h).1).trans h
theorem QAt.cells {w : World} {Q : Nat} {V M : Int} {tv : Value} (h : QAt w Q V M tv) : (w.cell? ⟨Q, 0, none⟩ = some (.int .i64 V) ∧ w.cell? ⟨Q, 1, none⟩ = some (.int .i64 M) ∧ w.cell? ⟨Q, 2, none⟩ = some tv) ∧ w.frozen? ⟨Q, 2, none⟩ = false ∧ Q < w.heap.size := by
  have hc : ∀ j, w.cell? ⟨Q, j, none⟩ = (#[.int .i64 V, .int .i64 M, tv] : Array Value)[j]? := fun j => by
    unfold World.cell?
    dsimp only
    rw [show w.heap[Q]? = _ from h]
    rfl
  refine ⟨⟨hc 0, hc 1, hc 2⟩, ?_, (Array.getElem?_eq_some_iff.1 h).1⟩
  unfold World.frozen?
  dsimp only
  rw [show w.heap[Q]? = _ from h]
  rfl
theorem QAt.kept {w w' : World} {Q B : Nat} {V M : Int} {tv : Value} (h : QAt w Q V M tv) (hb : Below B w w') (hQ : Q < B) : QAt w' Q V M tv := (hb.block Q hQ).trans h
theorem QAt.set {w : World} {Q : Nat} {V M : Int} {tv : Value} (h : QAt w Q V M tv) (v : Value) : QAt (w.setCell ⟨Q, 2, none⟩ v) Q V M v := by
  unfold QAt
  rw [heap_setCell_same w Q 2 _ _ _ h]
  rfl
theorem infoSlI : (Tryz.prog.info? 57).map (fun i => (i.zero, i.size, i.bytes)) = some (some (.slice none 0 0), 1, 24) := by kernel_rfl
/-- One thread more behind those that are turned. -/
theorem turn_step {w W w' : World} {Q B k : Nat} {V M : Int} {tv v : Value} {S : List Sl} {x : Sl} (hq : QAt W Q V M tv) (hQB : Q < B) (hB : B ≤ W.heap.size) (hbw : Below Q w W) (ho : OwnRow w' B 57 1 slCell v (S.reverse.take k ++ [x])) (hb : Below B W w') (hx : S.reverse[k]? = some x) :
    OwnRow (w'.setCell ⟨Q, 2, none⟩ v) B 57 1 slCell v (S.reverse.take (k + 1)) ∧ QAt (w'.setCell ⟨Q, 2, none⟩ v) Q V M v ∧ Below Q w (w'.setCell ⟨Q, 2, none⟩ v) ∧ B ≤ (w'.setCell ⟨Q, 2, none⟩ v).heap.size := by
  have hq' : QAt w' Q V M tv := (hb.block Q hQB).trans hq
  have e : S.reverse.take (k + 1) = S.reverse.take k ++ [x] := by
    obtain ⟨hk, hx'⟩ := List.getElem?_eq_some_iff.1 hx
    rw [List.take_succ_eq_append_getElem hk, hx']
  refine ⟨?_, hq'.set v, ?_, ?_⟩
  · rw [e]
    exact ownsRow_setCell_below (a := ⟨Q, 2, none⟩) ho hQB _
  · exact (hbw.trans (hb.mono (by omega))).setCell (p := ⟨Q, 2, none⟩) (Nat.le_refl _) _
  · have := hb.size
    simp [World.setCell]
    omega
end Go.Proofs.YtljlaopjimkcmaaGreat

/- The law WalkTurned, walked. -/
namespace Go.Proofs.YtljlaopjimkcmaaGreat
open Go.RowKit

set_option maxRecDepth 100000 in
set_option maxHeartbeats 8000000 in
theorem walkTurned_any (p : Pg) (a : Option Addr) (cap : Nat) (fuel : Int) (w : World) (hp : ThreadsAt w a p.threads) :
    Calls Tryz.prog 5 #[.agg #[.int .i64 p.vars, .int .i64 p.mutexes, .slice a p.threads.length cap], .int .i64 fuel] w fun r w' => r = .returned (.bool true) ∧ Below w.heap.size w w' := by
  have HP := Lib.hid hp
  have HBX : Hid (∀ W, Below (w.alloc (.cells #[.int .i64 p.vars, .int .i64 p.mutexes, .slice a p.threads.length cap] 24)).heap.size (w.alloc (.cells #[.int .i64 p.vars, .int .i64 p.mutexes, .slice a p.threads.length cap] 24)) W → W.cell? ⟨w.heap.size, 0, none⟩ = some (.int .i64 p.vars) ∧ W.cell? ⟨w.heap.size, 1, none⟩ = some (.int .i64 p.mutexes) ∧ W.cell? ⟨w.heap.size, 2, none⟩ = some (.slice a p.threads.length cap)) := fun W h => ⟨cell_later h (by simp), cell_later h (by simp), cell_later h (by simp)⟩
  have hb1 : Below w.heap.size w (w.alloc (.cells #[.int .i64 p.vars, .int .i64 p.mutexes, .slice a p.threads.length cap] 24)) := below_alloc1 w _
  clear hp
  go_enter Tryz.func5, Tryz.ntmps5
  go_wp2_with fail
  generalize w.alloc (.cells #[.int .i64 p.vars, .int .i64 p.mutexes, .slice a p.threads.length cap] 24) = W1 at *
  refine (awake6_any W1).mono ?_
  rintro r W2 ⟨rfl, hb2⟩
  obtain ⟨c0, c1, c2⟩ := HBX.out W2 hb2
  have hb3 := hb1.trans (hb2.mono hb1.size)
  go_wp2_with fail
  refine (small_any p a cap fuel W2 (HP.out.later hb3)).mono ?_
  rintro r W3 ⟨rfl, hb4⟩
  have hb5 := hb2.trans (hb4.mono hb2.size)
  have hb6 := hb3.trans (hb4.mono hb3.size)
  clear c0 c1 c2 hb2 hb3 hb4
  cases hf : smallPg p fuel
  · clear hf
    go_wp2_with fail
    refine (awake6_any _).mono ?_
    rintro r w3 ⟨rfl, hb3⟩
    go_wp2
    go_ret
    exact ⟨rfl, hb6.trans (hb3.mono hb6.size)⟩
  obtain ⟨_, hok, hle⟩ := small_yes hf
  clear hf
  obtain ⟨tok, tpre, trun, tstk, tkey⟩ := turned_all hok
  have hp4 : 1 ≤ p.threads.length ∧ p.threads.length ≤ 4 := by
    have h := hok.1
    unfold rightPg at h
    rw [Bool.and_eq_true, decide_eq_true_eq] at h
    omega
  obtain ⟨hp1, hp4⟩ := hp4
  have hfl : (flipP p).threads.length = p.threads.length := List.length_reverse
  have HA : Hid (∀ W, ThreadsAt W a p.threads → Calls Tryz.prog 9 #[.agg #[.int .i64 p.vars, .int .i64 p.mutexes, .slice a p.threads.length cap], .int .i64 fuel, .int .i64 600] W fun r w' => ∃ v c, r = .returned (.tuple #[.agg #[.slice v (sortK (keysOf (runsW p fuel))).length c, .int .i64 ((runsW p fuel).length : Nat), .int .i64 (preW p fuel : Nat)], .int .i64 0]) ∧ Below W.heap.size W w') :=
    fun W h => (all_yes p a cap fuel 600 W h (by omega) hok hle).mono fun r w' ⟨v, c, h1, _, h2⟩ => ⟨v, c, h1, h2⟩
  have HD : Hid (∀ W, ThreadsAt W a p.threads → Calls Tryz.prog 11 #[.agg #[.int .i64 p.vars, .int .i64 p.mutexes, .slice a p.threads.length cap], .int .i64 fuel, .int .i64 600] W fun r w' => r = .returned (.tuple #[.int .i64 (stuckN (runsW p fuel) : Nat), .int .i64 0]) ∧ Below W.heap.size W w') :=
    fun W h => dead_yes p a cap fuel 600 W h (by omega) hok hle
  have HA2 : Hid (∀ W a2 cap2, ThreadsAt W a2 p.threads.reverse → Calls Tryz.prog 9 #[.agg #[.int .i64 p.vars, .int .i64 p.mutexes, .slice a2 p.threads.length cap2], .int .i64 fuel, .int .i64 600] W fun r w' => ∃ v c, r = .returned (.tuple #[.agg #[.slice v (sortK (keysOf (runsW p fuel))).length c, .int .i64 ((runsW p fuel).length : Nat), .int .i64 (preW p fuel : Nat)], .int .i64 0]) ∧ Below W.heap.size W w') :=
    fun W a2 cap2 h => by
      have h1 := all_yes (flipP p) a2 cap2 fuel 600 W h (by omega) tok (by omega)
      rw [hfl, tkey, trun, tpre] at h1
      exact h1.mono fun r w' ⟨v, c, h1, _, h2⟩ => ⟨v, c, h1, h2⟩
  have HD2 : Hid (∀ W a2 cap2, ThreadsAt W a2 p.threads.reverse → Calls Tryz.prog 11 #[.agg #[.int .i64 p.vars, .int .i64 p.mutexes, .slice a2 p.threads.length cap2], .int .i64 fuel, .int .i64 600] W fun r w' => r = .returned (.tuple #[.int .i64 (stuckN (runsW p fuel) : Nat), .int .i64 0]) ∧ Below W.heap.size W w') :=
    fun W a2 cap2 h => by
      have h1 := dead_yes (flipP p) a2 cap2 fuel 600 W h (by omega) tok (by omega)
      rw [hfl, tstk] at h1
      exact h1
  clear tok tpre trun tstk tkey hfl hok hle
  generalize (sortK (keysOf (runsW p fuel))).length = K at *
  generalize (runsW p fuel).length = N at *
  generalize stuckN (runsW p fuel) = T at *
  generalize preW p fuel = M at *
  obtain ⟨b, o, rfl, S, hSl, hS⟩ := threads_sl HP.out (by intro e; rw [e] at hp1; simp at hp1)
  have HS := Lib.hid hS
  have HSL := Lib.hid hSl
  clear hS hSl
  have hbq := below_alloc1 W3 (.cells #[.int .i64 0, .int .i64 0, .slice none 0 0] 24)
  have hzq : (W3.alloc (.cells #[.int .i64 0, .int .i64 0, .slice none 0 0] 24)).heap.size = W3.heap.size + 1 := World.size_alloc _ _
  have hq0 : QAt (W3.alloc (.cells #[.int .i64 0, .int .i64 0, .slice none 0 0] 24)) W3.heap.size 0 0 (.slice none 0 0) := heap_alloc_new _ _
  obtain ⟨c0, c1, c2⟩ := HBX.out _ (hb5.trans (hbq.mono hb5.size))
  have hq0c := hq0.cells
  obtain ⟨⟨q0, q1, q2⟩, _, _⟩ := hq0c
  have hbx : W3.heap.size ≠ w.heap.size := by have := hb6.size; have := hb5.size; have := cell_block (HBX.out W3 hb5).1; dsimp only at this; omega
  have hfz : ∀ j, (W3.alloc (.cells #[.int .i64 0, .int .i64 0, .slice none 0 0] 24)).frozen? ⟨W3.heap.size, j, none⟩ = false := fun j => by
    unfold World.frozen?
    dsimp only
    rw [show (W3.alloc (.cells #[.int .i64 0, .int .i64 0, .slice none 0 0] 24)).heap[W3.heap.size]? = _ from hq0]
    rfl
  have f0 := hfz 0
  have f1 := hfz 1
  have hb7 := hb5.trans (hbq.mono hb5.size)
  have hb8 := hb6.trans (hbq.mono hb6.size)
  have hQ3 : QAt (((W3.alloc (.cells #[.int .i64 0, .int .i64 0, .slice none 0 0] 24)).setCell ⟨W3.heap.size, 0, none⟩ (.int .i64 p.vars)).setCell ⟨W3.heap.size, 1, none⟩ (.int .i64 p.mutexes)) W3.heap.size p.vars p.mutexes (.slice none 0 0) := by
    unfold QAt
    rw [heap_setCell_same _ W3.heap.size 1 _ _ _ (heap_setCell_same _ W3.heap.size 0 _ _ _ hq0)]
    rfl
  have hB3 : Below W3.heap.size W3 (((W3.alloc (.cells #[.int .i64 0, .int .i64 0, .slice none 0 0] 24)).setCell ⟨W3.heap.size, 0, none⟩ (.int .i64 p.vars)).setCell ⟨W3.heap.size, 1, none⟩ (.int .i64 p.mutexes)) := (hbq.setCell (p := ⟨W3.heap.size, 0, none⟩) (Nat.le_refl _) _).setCell (p := ⟨W3.heap.size, 1, none⟩) (Nat.le_refl _) _
  have hx1 : ((W3.alloc (.cells #[.int .i64 0, .int .i64 0, .slice none 0 0] 24)).setCell ⟨W3.heap.size, 0, none⟩ (.int .i64 p.vars)).cell? ⟨w.heap.size, 1, none⟩ = some (.int .i64 p.mutexes) := by
    rw [World.cell?_of_block (w := W3.alloc (.cells #[.int .i64 0, .int .i64 0, .slice none 0 0] 24)) (a := ⟨w.heap.size, 1, none⟩) (Below.heap_setCell _ _ _ _ (by exact Ne.symm hbx))]
    exact c1
  have hz3 : (((W3.alloc (.cells #[.int .i64 0, .int .i64 0, .slice none 0 0] 24)).setCell ⟨W3.heap.size, 0, none⟩ (.int .i64 p.vars)).setCell ⟨W3.heap.size, 1, none⟩ (.int .i64 p.mutexes)).heap.size = W3.heap.size + 1 := by simp [World.setCell]
  have HQ3 := Lib.hid hQ3
  have HB3 := Lib.hid hB3
  clear hfz hQ3 hB3 hq0 hbq hzq
  go_wp2_with fail
  generalize W3.alloc (.cells #[.int .i64 0, .int .i64 0, .slice none 0 0] 24) = W4 at *
  go_region
  go_wp2_with fail
  clear c0 c1 c2 q0 q1 q2 f0 f1 hx1
  generalize (W4.setCell ⟨W3.heap.size, 0, none⟩ (.int .i64 p.vars)).setCell ⟨W3.heap.size, 1, none⟩ (.int .i64 p.mutexes) = W5 at *
  have hsl2 : S.reverse.length = p.threads.length := by rw [List.length_reverse]; exact HSL.out
  have HSR := Lib.hid hsl2
  clear hsl2
  go_loopw [33] (fun i wr => ∃ (k : Nat) (tv : Value), k ≤ p.threads.length ∧ i = .int .i64 k ∧ Hid (OwnRow wr (W3.heap.size + 1) 57 1 slCell tv (S.reverse.take k)) ∧ Hid (QAt wr W3.heap.size p.vars p.mutexes tv) ∧ Hid (Below W3.heap.size W3 wr) ∧ W3.heap.size + 1 ≤ wr.heap.size) (fun i _ => p.threads.length - (intOf i).toNat)
  case atStart => exact ⟨0, .slice none 0 0, Nat.zero_le _, rfl, ownRow_nil _ _ _ _ _, HQ3.out, HB3.out.drew, by show _ ≤ W5.heap.size; omega⟩
  case round =>
    clear HQ3 HB3
    obtain ⟨k, tv, hk, rfl, HO, HQ, HB, hzr⟩ := hrel
    have hbw := hb6.trans (HB.out.mono hb6.size)
    obtain ⟨c0, c1, c2⟩ := HBX.out wr (hb5.trans (HB.out.mono hb5.size))
    obtain ⟨⟨q0, q1, q2⟩, qf, hql⟩ := HQ.out.cells
    by_cases hlt : k < p.threads.length
    · obtain ⟨x, hx⟩ : ∃ x, S.reverse[k]? = some x := ⟨_, List.getElem?_eq_getElem (by rw [HSR.out]; exact hlt)⟩
      have HX := Lib.hid hx
      obtain ⟨m, hm⟩ : ∃ m : Nat, m = p.threads.length - 1 - k := ⟨_, rfl⟩
      have hx2 : S[m]? = some x := by
        rw [List.getElem?_reverse (by rw [HSL.out]; exact hlt), HSL.out, ← hm] at hx
        exact hx
      obtain ⟨_, hcell, _⟩ := HS.out m x hx2
      have d0 := cell_later hbw hcell
      obtain ⟨xa, xn, xc⟩ := x
      dsimp only at d0
      have hm1 : (p.threads.length : Int) - 1 - (k : Int) = (m : Int) := by omega
      have hm2 : IntKind.i64.wrap ((p.threads.length : Int) - 1) = (p.threads.length : Int) - 1 := IntWalk.i64_in _ (by omega)
      have hm3 : IntKind.i64.wrap (m : Int) = m := IntWalk.i64_in _ (by omega)
      have hml : m < p.threads.length := by omega
      have HLK : Hid ((S.reverse.take k).length = k) := by show _ = _; rw [List.length_take, HSR.out]; omega
      have hba := below_alloc1 wr (.cells #[.slice xa xn xc] 57)
      have hc2a := cell_later hba c2
      have hq2a := cell_later hba q2
      have hd0a := cell_later hba d0
      have HQA : Hid (QAt (wr.alloc (.cells #[.slice xa xn xc] 57)).drew W3.heap.size p.vars p.mutexes tv) := HQ.out.later hba.drew
      have HBA : Hid (Below W3.heap.size W3 (wr.alloc (.cells #[.slice xa xn xc] 57)).drew) := (HB.out.alloc HB.out.size _).drew
      have hza : (wr.alloc (.cells #[.slice xa xn xc] 57)).heap.size = wr.heap.size + 1 := World.size_alloc _ _
      clear hx hx2 hcell hm c0 c1 q0 q1 qf
      go_wp2_with fail
      go_region_law ((refine step_appendAt (f := slCell) (n := 1) 22 57 24 (.slice none 0 0) Tryz.underlying22 infoSlI (by rfl) (by omega) (by omega) slCell_len (by rfl) _ _ (by rfl) (W3.heap.size + 1) _ (S.reverse.take k) (by rfl) (OwnRow.alloc HO.out _) ⟨wr.heap.size, 0, none⟩ (by rfl) ⟨xa, xn, xc⟩ (slCell_one _) (cells_new wr (slCell ⟨xa, xn, xc⟩) _ _ rfl) (by rw [HLK.out]; omega) (by simp; omega) ?_; intro v9 w9 hown9 hb9 _ _; obtain ⟨g9, cap9, hv9, _, _⟩ := OwnRow.block hown9 (by simp); rw [List.length_append, List.length_singleton, HLK.out] at hv9; subst hv9; have HT9 := Lib.hid (turn_step (W := (wr.alloc (.cells #[.slice xa xn xc] 57)).drew) HQA.out (Nat.lt_succ_self _) (by show _ ≤ (wr.alloc (.cells #[.slice xa xn xc] 57)).heap.size; omega) HBA.out hown9 hb9 HX.out); have hq9 : w9.cell? ⟨W3.heap.size, 2, none⟩ = some tv := (QAt.cells (HQA.out.kept hb9 (Nat.lt_succ_self _))).1.2.2; have hf9 : w9.frozen? ⟨W3.heap.size, 2, none⟩ = false := (QAt.cells (HQA.out.kept hb9 (Nat.lt_succ_self _))).2.1; clear hown9 hb9))
      all_goals go_wp2_with fail
      all_goals go_roundw
      all_goals first
        | exact ⟨k + 1, _, by omega, by go_num, HT9.out.1, HT9.out.2.1, HT9.out.2.2.1, HT9.out.2.2.2⟩
        | (simp [intOf]; omega)
    · obtain rfl : k = p.threads.length := by omega
      have hlk : S.reverse.take p.threads.length = S.reverse := by rw [← HSR.out, List.take_length]
      have ho := HO.out
      rw [hlk] at ho
      obtain ⟨a9, cap9, rfl, hrow, _⟩ := OwnRow.form ho slCell_len (by rw [HSR.out]; omega)
      have hRT : ThreadsAt wr a9 p.threads.reverse := threads_rev (by omega) HSL.out (fun i x h => by obtain ⟨hi, _, h2⟩ := HS.out i x h; exact ⟨hi, h2.later hbw⟩) hrow
      have HRT := Lib.hid hRT
      rw [HSR.out] at q2 HQ
      have hbx5 := hb5.trans (HB.out.mono hb5.size)
      clear hrow hRT ho hlk q0 q1 q2 qf
      go_wp2_with fail
      refine (HA.out wr (HP.out.later hbw)).mono ?_
      rintro r W6 ⟨v6, k6, rfl, hb10⟩
      have hb11 := hb10.alloc hb10.size (.cells #[.slice v6 K k6, .int .i64 (N : Int), .int .i64 (M : Int)] 30)
      have HX6 : Hid (∀ W, Below (W6.alloc (.cells #[.slice v6 K k6, .int .i64 (N : Int), .int .i64 (M : Int)] 30)).heap.size (W6.alloc (.cells #[.slice v6 K k6, .int .i64 (N : Int), .int .i64 (M : Int)] 30)) W → W.cell? ⟨W6.heap.size, 0, none⟩ = some (.slice v6 K k6) ∧ W.cell? ⟨W6.heap.size, 1, none⟩ = some (.int .i64 (N : Int)) ∧ W.cell? ⟨W6.heap.size, 2, none⟩ = some (.int .i64 (M : Int))) := fun W h => ⟨cell_later h (by simp), cell_later h (by simp), cell_later h (by simp)⟩
      obtain ⟨⟨q0, q1, q2⟩, _, _⟩ := (HQ.out.later hb11).cells
      clear c0 c1 c2 hb10
      go_wp2_with fail
      generalize W6.alloc (.cells #[.slice v6 K k6, .int .i64 (N : Int), .int .i64 (M : Int)] 30) = W7 at *
      refine (HA2.out W7 a9 cap9 (HRT.out.later hb11)).mono ?_
      rintro r W8 ⟨v8, k8, rfl, hb12⟩
      have hb13 := hb12.alloc hb12.size (.cells #[.slice v8 K k8, .int .i64 (N : Int), .int .i64 (M : Int)] 30)
      have hb14 := hb11.trans (hb13.mono hb11.size)
      have HX8 : Hid (∀ W, Below (W8.alloc (.cells #[.slice v8 K k8, .int .i64 (N : Int), .int .i64 (M : Int)] 30)).heap.size (W8.alloc (.cells #[.slice v8 K k8, .int .i64 (N : Int), .int .i64 (M : Int)] 30)) W → W.cell? ⟨W8.heap.size, 0, none⟩ = some (.slice v8 K k8) ∧ W.cell? ⟨W8.heap.size, 1, none⟩ = some (.int .i64 (N : Int)) ∧ W.cell? ⟨W8.heap.size, 2, none⟩ = some (.int .i64 (M : Int))) := fun W h => ⟨cell_later h (by simp), cell_later h (by simp), cell_later h (by simp)⟩
      obtain ⟨c0, c1, c2⟩ := HBX.out _ (hbx5.trans (hb14.mono hbx5.size))
      clear q0 q1 q2 hb12
      go_wp2_with fail
      generalize W8.alloc (.cells #[.slice v8 K k8, .int .i64 (N : Int), .int .i64 (M : Int)] 30) = W9 at *
      refine (HD.out W9 (HP.out.later (hbw.trans (hb14.mono hbw.size)))).mono ?_
      rintro r W10 ⟨rfl, hb15⟩
      have hb16 := hb14.trans (hb15.mono hb14.size)
      obtain ⟨⟨q0, q1, q2⟩, _, _⟩ := (HQ.out.later hb16).cells
      clear c0 c1 c2
      go_wp2_with fail
      refine (HD2.out W10 a9 cap9 (HRT.out.later hb16)).mono ?_
      rintro r W11 ⟨rfl, hb17⟩
      have hb18 := hb16.trans (hb17.mono hb16.size)
      have hb19 := hb15.trans (hb17.mono hb15.size)
      have HFIN := Lib.hid (hbw.trans (hb18.mono hbw.size))
      obtain ⟨x0, x1, x2⟩ := HX6.out W11 (hb13.trans (hb19.mono hb13.size))
      obtain ⟨y0, y1, y2⟩ := HX8.out W11 hb19
      clear q0 q1 q2
      go_wp2_with fail
      go_ret
      exact ⟨ret_bool (by first | rfl | simp), HFIN.out⟩

end Go.Proofs.YtljlaopjimkcmaaGreat

/-
  WalkTurned: a program whose threads stand the other way round has as many classes, executions, prefixes, and deadlocks: the law answers true, and its arguments read as they did.
  For every input, whatever its size and however its parts share memory; nothing is asked of it but what the statement's own form asks.
-/
namespace Go.Proofs.YtljlaopjimkcmaaGreat.walkTurned
open Go.ChangeShapes Go.WideShapes Go.ChangeAt Go.RowKit

theorem own : ownKnob Tryz.prog.godebug = none := by kernel_rfl
theorem laidOut : laidOutB Tryz.prog = true := by kernel_rfl

set_option maxRecDepth 100000 in
theorem lifted (os : Os) (started : os.Started) (H : Type) (enc : TypeId × Value → H) :
    ReturnsInHanded {} Tryz.checked os 5 .any (Rows.walkTurnedSpec.pre6 enc Tryz.prog Tryz.f5 Rows.walkTurnedRow.domain false) (Rows.walkTurnedSpec.post enc Tryz.prog Tryz.f5 false true false false) := by
  refine returnsInHanded_of_change (C := Tryz.checked) own started (by kernel_rfl) Tryz.func5
    (ChangeSpec.witness6 (enc := enc) (C := Tryz.checked) false ⟨#[], #[.agg #[.int .i64 0, .int .i64 0, .slice none 0 0], .int .i64 0], []⟩ 8 (by kernel_rfl) (by kernel_rfl) (by kernel_rfl) (by kernel_rfl)) ?_
  intro W base args ds gs before hval0 hW hcnd _
  have hval : ∀ (j : Nat) t v, Tryz.f5.params[j]? = some t → args[j]? = some v → Value.okWide Tryz.prog W .any base t v := hval0
  have hW' := hW
  obtain ⟨p, q, hA0, hV, rfl, hfz, hnd⟩ := hW
  have hA : DataW.TrodAll enc Tryz.prog W 0 (fun _ => true) true Tryz.f5.params.toList args.toList ds p := hA0
  rw [Tryz.params5] at hA hval
  obtain ⟨v0, vs0, d0, ds0, p0, q0, hargs, rfl, rfl, h0, r0⟩ := trodAll_cons hA
  obtain ⟨v1, vs1, d1, ds1, p1, q1, rfl, rfl, rfl, h1, r1⟩ := trodAll_cons r0
  obtain ⟨rfl, rfl, rfl⟩ := trodAll_nil r1
  obtain rfl : args = #[v0, v1] := by cases args; simp_all
  obtain ⟨rfl, rfl⟩ := trodVars_none hV
  have k0 := h0
  have lt0 : ∀ x ∈ p0, x.block < W.heap.size := by obtain ⟨m, hm⟩ := k0; exact DataW.trod_lt m _ _ _ hm
  have k1 := h1
  have lt1 : ∀ x ∈ p1, x.block < W.heap.size := by obtain ⟨m, hm⟩ := k1; exact DataW.trod_lt m _ _ _ hm
  obtain ⟨pg0, a0, cap0, rfl, hx0, _⟩ := prog_of_trod (hval 0 24 v0 rfl rfl) h0
  obtain ⟨n1, rfl, hx1⟩ := int_of_trod (hval 1 3 v1 rfl rfl) h1
  clear hA0 hval0
  refine (walkTurned_any pg0 a0 cap0 n1 W hx0).mono fun e W' ⟨he, bel⟩ => ?_
  subst he
  exact ⟨_, rfl, _, _, _, [], _, [], hW', trodAll_mk1 (shut_bool Tryz.underlying4 _), (trodAll_cons_mk (Below.trod laidOut (by kernel_rfl) (of_decide_eq_true (by kernel_rfl)) k0 bel lt0) (trodAll_cons_mk (Below.trod laidOut (by kernel_rfl) (of_decide_eq_true (by kernel_rfl)) k1 bel lt1) trodAll_mk0)), rfl, bel.frame _, fun h => by cases h⟩

theorem over : Rows.walkTurnedRow.holds Tryz.pinned (OpenSpec.ofChange Rows.walkTurnedSpec) :=
  OpenClaim.holds_of_wide 5 Tryz.f5 rfl rfl rfl rfl rfl rfl rfl ⟨rfl, rfl, rfl, rfl, rfl⟩ rfl rfl rfl rfl rfl (by kernel_rfl) Tryz.func5 (by kernel_rfl)
    (of_decide_eq_true (by kernel_rfl)) (by unfold Func.isWrapper; first | (rw [if_pos (by decide +kernel)]; kernel_rfl) | (rw [if_neg (by decide +kernel)]; exact ⟨rfl, rfl⟩))
    (fun os started H enc _ => lifted os started H enc)

theorem proved : Rows.WalkTurnedSaid := over
end Go.Proofs.YtljlaopjimkcmaaGreat.walkTurned
