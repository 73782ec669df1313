/- The contract of the document's Print, of a program that may be. -/
import Derived.Test.YtjkfocmfgcmegaaPrint
import Derived.Deep.AppendLies
import Derived.Deep.RegionLaw
import Derived.Deep.RegionHeld3
namespace Go.Proofs.Ytjkfocmfgcmegaa
open Go.RowKit

theorem OwnB.drew {w : World} {B : Nat} {v : Value} {ns : List Int} (h : OwnB w B v ns) : OwnB w.drew B v ns := h

theorem step_appendB {w : World} {ops : Array Oper} {o : Oper} {a : Act} {K : Act → World → Prop} {Q : Exit → Act → World → Prop} {E : Prop} (hgd : o.guard = none) (s x : Operand)
    (ho : o.op = .call { callee := .builtin .append, args := #[s, x], argTypes := #[43, 43] }) (B : Nat) (v : Value) (ns : List Int) (hs : a.eval s = v) (hown : OwnB w B v ns)
    (ad : Addr) (m c : Nat) (hx : a.eval x = .slice (some ad) m c) (ms : List Int) (hm : ms.length = m) (hnews : ∀ j u, (ms.map (Value.int .u8))[j]? = some u → w.cell? (ad.add j) = some u)
    (hlen : ns.length + m ≤ 1000000000) (hB : B ≤ w.heap.size)
    (h : ∀ v' w', OwnB w' B v' (ns ++ ms) → Below B w w' → K (a.put o.dst v') w') : if Region.wanted o (yielded ops a.tmps) = true then Oper.wp Try.prog o a w K Q else E := by
  have hw : Region.wanted o (yielded ops a.tmps) = true := by simp [Region.wanted, hgd]
  rw [if_pos hw]
  have hinfo : (Try.prog.info? 5).map (fun i => (i.zero, i.size, i.bytes)) = some (some (.int .u8 0), 1, 1) := by kernel_rfl
  obtain ⟨i, hi, hzz⟩ := Option.map_eq_some_iff.1 hinfo
  simp only [Prod.mk.injEq] at hzz
  obtain ⟨hz, hsz, hby⟩ := hzz
  refine wp_append_own w s x 43 ho B 5 i (.int .u8 0) 1 1 Try.underlying43 hi hz hsz hby rfl (by decide) v ns.length (ns.map (Value.int .u8)) hs hown ad m c (ms.map (Value.int .u8)) hx (by simp [hm]) hnews
    (by intro u hu; obtain ⟨y, _, rfl⟩ := List.mem_map.1 hu; rfl) (by unfold maxLen; omega) (by omega) hB ?_
  intro v' w' h1 h2 _
  refine h v' w' ?_ ((Below.refl B w).grown h2 hB (fun k hk => (World.ownsRow.lt hown k hk).1))
  unfold OwnB
  rw [List.length_append, List.map_append, hm]
  exact h1

set_option maxRecDepth 100000 in
set_option maxHeartbeats 1500000 in
theorem refPrint_any (p : Pg) (a : Option Addr) (cap : Nat) (w : World) (hp : ThreadsAt w a p.threads) (hr : rightPg p = true) :
    Calls Try.prog 18 #[pgV p a cap] w fun r w' => r = .returned (.string (bstr (pgB p))) ∧ Below w.heap.size w w' := by
  obtain ⟨V, M, ts⟩ := p
  have HR := Lib.hid hr
  have HP := Lib.hid hp
  have bd : 0 ≤ V ∧ V ≤ 4 ∧ 0 ≤ M ∧ M ≤ 2 ∧ 1 ≤ ts.length ∧ ts.length ≤ 4 := by
    have := hr
    unfold rightPg at this
    rw [Bool.and_eq_true] at this
    simpa using this.1
  obtain ⟨b1, b2, b3, b4, b5, b6⟩ := bd
  clear hr hp
  have hv : pgV ⟨V, M, ts⟩ a cap = .agg #[.int .i64 V, .int .i64 M, .slice a ts.length cap] := rfl
  rw [hv]
  clear hv
  go_enter Try.func18, Try.ntmps18
  go_wp2
  go_loopw [3, 4] (fun out i wr => ∃ (k : Nat) (ns : List Int), k ≤ ts.length ∧ i = .int .i64 k ∧ Hid (ns = [V, M, (ts.length : Int)] ++ (ts.take k).flatMap codeB) ∧ ns.length ≤ 3 + 33 * k ∧ OwnB wr (w.heap.size + 1) out ns ∧ Below (w.heap.size + 1) (w.alloc (.cells #[.int .i64 V, .int .i64 M, .slice a ts.length cap] 24)) wr) (fun _ i _ => ts.length - (intOf i).toNat)
  case atStart =>
    refine ⟨0, [V, M, (ts.length : Int)], Nat.zero_le _, rfl, rfl, by simp, ?_, (Below.refl _ _).alloc (by simp) _⟩
    have := ownB_made (w.alloc (.cells #[.int .i64 V, .int .i64 M, .slice a ts.length cap] 24)) (w.heap.size + 1) (by simp) [V, M, (ts.length : Int)] (by simp [maxLen])
    simpa using this
  case round =>
    obtain ⟨k, ns, hk, rfl, HNS, hnl, hown, hbr⟩ := hrel
    have hbw : Below w.heap.size w wr := (below_alloc1 w _).trans (hbr.mono (by omega))
    have hzr : w.heap.size + 1 ≤ wr.heap.size := by have := hbr.size; simp at this; omega
    have p2 : wr.cell? ⟨w.heap.size, 2, none⟩ = some (.slice a ts.length cap) := by rw [hbr.cell (p := ⟨w.heap.size, 2, none⟩) (by simp)]; simp
    by_cases hlt : k < ts.length
    · obtain ⟨h8, hins⟩ := rightPg_code HR.out hlt
      dsimp only at h8 hins
      have HINS := Lib.hid hins
      clear hins
      obtain ⟨b, o, rfl, hc⟩ := HP.out.2 (by intro e; simp [e] at hlt)
      obtain ⟨c, ccap, c0, c1, _⟩ := hc k hlt
      have d0 := cell_later hbw c0
      have D1 := Lib.hid c1
      clear c0 c1 hc
      go_wp2_with (at_builtin; refine wp_appendB rfl (.tmp 30) (.tmp 34) rfl (w.heap.size + 1) _ ns rfl (hown.alloc _) ⟨wr.heap.size, 0, none⟩ 1 1 rfl [(ts[k].length : Int)] rfl (bytes_new wr [(ts[k].length : Int)] _ _ rfl) (by omega) (by simp; omega) ?_; intro v1 w2 hown2 hb3)
      have hb4 : Below (w.heap.size + 1) (w.alloc (.cells #[.int .i64 V, .int .i64 M, .slice (some ⟨b, o, none⟩) ts.length cap] 24)) w2 := (hbr.alloc (by omega) _).trans hb3
      clear hb3 hown p2
      go_loopw [3, 6] (fun out i wq => ∃ (j : Nat) (ms : List Int), j ≤ ts[k].length ∧ i = .int .i64 j ∧ Hid (ms = (ns ++ [(ts[k].length : Int)]) ++ (ts[k].take j).flatMap insB) ∧ ms.length ≤ 3 + 33 * k + 1 + 4 * j ∧ OwnB wq (w.heap.size + 1) out ms ∧ Below (w.heap.size + 1) (w.alloc (.cells #[.int .i64 V, .int .i64 M, .slice (some ⟨b, o, none⟩) ts.length cap] 24)) wq) (fun _ i _ => ts[k].length - (intOf i).toNat)
      case atStart => exact ⟨0, ns ++ [(ts[k].length : Int)], Nat.zero_le _, rfl, by show _ = _; simp, by simp; omega, hown2, hb4⟩
      case round =>
        obtain ⟨j, ms, hj, rfl, HMS, hml, hown3, hbq⟩ := hrel
        have hbw2 : Below w.heap.size w wr := (below_alloc1 w _).trans (hbq.mono (by omega))
        have hzq : w.heap.size + 1 ≤ wr.heap.size := by have := hbq.size; simp at this; omega
        by_cases hjl : j < ts[k].length
        · obtain ⟨n0, n1, n2, n3, n4, n5, n6, n7⟩ := rightIns_bd (HINS.out j hjl) b2 b4 (by omega)
          obtain ⟨b', o', rfl, hc⟩ := D1.out.2 (by intro e; simp [e] at hjl)
          obtain ⟨c0, c1, c2, c3⟩ := hc j hjl
          have e0 := cell_later hbw2 c0
          have e1 := cell_later hbw2 c1
          have e2 := cell_later hbw2 c2
          have e3 := cell_later hbw2 c3
          clear c0 c1 c2 c3 hc
          have HT := Lib.hid (List.take_succ_eq_append_getElem hjl : ts[k].take (j + 1) = ts[k].take j ++ [ts[k][j]])
          have j0 : (0 : Int) ≤ j := by omega
          have j1 : (j : Int) < ts[k].length := by omega
          have HK : Hid (∀ w', Below w.heap.size w w' → w'.cell? ⟨b', o' + j * 4, none⟩ = some (.int .i64 ts[k][j].kind) ∧ w'.cell? ⟨b', o' + j * 4 + 1, none⟩ = some (.int .i64 ts[k][j].r) ∧ w'.cell? ⟨b', o' + j * 4 + 2, none⟩ = some (.int .i64 ts[k][j].x) ∧ w'.cell? ⟨b', o' + j * 4 + 3, none⟩ = some (.int .i64 ts[k][j].n) ∧ Below w.heap.size w w') := by
            intro w' h
            obtain ⟨b2, o2, e, hc⟩ := D1.out.2 (by intro e; simp [e] at hjl)
            obtain ⟨rfl, rfl⟩ : b' = b2 ∧ o' = o2 := by simpa using e
            obtain ⟨c0, c1, c2, c3⟩ := hc j hjl
            exact ⟨cell_later h c0, cell_later h c1, cell_later h c2, cell_later h c3, h⟩
          have HBA : Hid (∀ X, Below w.heap.size w (wr.alloc X).drew) := fun X => (hbw2.alloc (by omega) _).drew
          have hB9 : Below w.heap.size w wr.drew := hbw2.drew
          have u0 : IntKind.u8.wrap ts[k][j].kind = ts[k][j].kind := IntWalk.u8_in _ (by omega)
          have u1 : IntKind.u8.wrap ts[k][j].r = ts[k][j].r := IntWalk.u8_in _ (by omega)
          have u2 : IntKind.u8.wrap ts[k][j].x = ts[k][j].x := IntWalk.u8_in _ (by omega)
          have u3 : IntKind.u8.wrap ts[k][j].n = ts[k][j].n % 256 := IntKind.wrap_u8 _
          go_wp2
          go_region_held3 (fun w' => w'.cell? ⟨b', o' + j * 4, none⟩ = some (.int .i64 ts[k][j].kind) ∧ w'.cell? ⟨b', o' + j * 4 + 1, none⟩ = some (.int .i64 ts[k][j].r) ∧ w'.cell? ⟨b', o' + j * 4 + 2, none⟩ = some (.int .i64 ts[k][j].x) ∧ w'.cell? ⟨b', o' + j * 4 + 3, none⟩ = some (.int .i64 ts[k][j].n) ∧ Below w.heap.size w w')
            (first | exact HK.out _ hB9 | exact HK.out _ hB11 | exact HK.out _ (HBA.out _))
            ((refine step_appendB (by rfl) _ _ (by rfl) (w.heap.size + 1) _ ms (by rfl) (OwnB.drew (hown3.alloc _)) ⟨wr.heap.size, 0, none⟩ 4 4 (by rfl) [ts[k][j].kind, ts[k][j].r, ts[k][j].x, ts[k][j].n % 256] rfl (bytes_new wr [ts[k][j].kind, ts[k][j].r, ts[k][j].x, ts[k][j].n % 256] _ _ rfl) (by omega) (by simp; omega) ?_; intro v3 w3 hown4 hb5; have hB11 : Below w.heap.size w w3 := (HBA.out _).trans (hb5.mono (by omega))))
          go_wp2
          refine ⟨⟨j + 1, ms ++ [ts[k][j].kind, ts[k][j].r, ts[k][j].x, ts[k][j].n % 256], by omega, by go_num, ?_, by simp; omega, hown4, ((hbq.alloc (by omega) _).drew).trans hb5⟩, by simp [intOf]; omega⟩
          show _ = _
          rw [HT.out, List.flatMap_append, HMS.out]
          simp [insB]
        · obtain rfl : j = ts[k].length := by omega
          have HT := Lib.hid (List.take_succ_eq_append_getElem hlt : ts.take (k + 1) = ts.take k ++ [ts[k]])
          go_wp2
          go_roundw
          case rel =>
            refine ⟨k + 1, ms, by omega, by go_num, ?_, by omega, hown3, hbq⟩
            show _ = _
            rw [HT.out, List.flatMap_append, HMS.out, HNS.out, List.take_length]
            simp [codeB]
          case measure => simp [intOf]; omega
    · obtain rfl : k = ts.length := by omega
      have hne : ns ≠ [] := by rw [HNS.out]; simp
      have hcv := run_bstr hown hne
      have HB : Hid (pgB ⟨V, M, ts⟩ = ns) := by
        show _ = _
        rw [HNS.out, List.take_length]; rfl
      clear hne
      go_wp2
      go_ret
      exact ⟨by rw [HB.out]; rfl, hbw⟩
end Go.Proofs.Ytjkfocmfgcmegaa
