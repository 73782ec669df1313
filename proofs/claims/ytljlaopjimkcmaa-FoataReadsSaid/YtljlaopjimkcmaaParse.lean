/- The contract of foata's parse. -/
import Derived.Test.YtljlaopjimkcmaaEvReadO
import Derived.Test.YtljlaopjimkcmaaKeyF
namespace Go.Proofs.Ytljlaopjimkcmaa
open Go.RowKit

/-- At most n levels out of bytes. -/
def parseN : Nat → List UInt8 → List (List Ev)
  | 0, _ => []
  | _ + 1, [] => []
  | n + 1, c :: r => if c.toNat = 0 then [] else readE (r.take c.toNat) :: parseN n (r.drop c.toNat)

/-- A level more, read. -/
theorem OwnLv.push {w w1 w' : World} {B : Nat} {v v' : Value} {ss : List Sl} {m : List (List Ev)} {s : Sl} {es : List Ev} (h : OwnLv w B v ss m) (hb : Below w.heap.size w w1) (hr : OwnE w1 w.heap.size (slV s) es) (hB : B ≤ w.heap.size)
    (ho : OwnRow w' B 22 1 slCell v' (ss ++ [s])) (hg : w1.grownBy w' v.ownBlock) : OwnLv w' B v' (ss ++ [s]) (m ++ [es]) := by
  have h1 := h.later hb
  have hnew : ∀ i (hi : i < ss.length), (slV s).ownBlock = none ∨ (slV s).ownBlock ≠ (slV ss[i]).ownBlock := fun i hi => by
    cases e : (slV s).ownBlock with
    | none => exact .inl rfl
    | some b =>
      right
      intro e2
      have h2 := (World.ownsRow.lt (h.inner i hi) b e2.symm).2
      have h3 := (World.ownsRow.lt hr b e).1
      omega
  have hr' : OwnE w' B (slV s) es := World.ownsRow.kept (ownsRow_base hr hB) hg (rows_apart hr h1.outer (Ne.symm tyNe))
  refine ⟨by simp [h.len], ho, fun i hi => ?_, fun i j hi hj hne => ?_⟩
  · by_cases hlt : i < ss.length
    · have e1 : (ss ++ [s])[i] = ss[i] := List.getElem_append_left hlt
      have e2 : (m ++ [es]).getD i [] = m.getD i [] := by simp [List.getD, List.getElem?_append_left (show i < m.length by rw [← h.len]; exact hlt)]
      rw [e1, e2]
      exact World.ownsRow.kept (h1.inner i hlt) hg (rows_apart (h1.inner i hlt) h1.outer (Ne.symm tyNe))
    · have e0 : i = ss.length := by simp at hi; omega
      subst e0
      have e1 : (ss ++ [s])[ss.length] = s := by simp
      have e2 : (m ++ [es]).getD ss.length [] = es := by rw [h.len]; simp [List.getD]
      rw [e1, e2]
      exact hr'
  · by_cases hlt : i < ss.length
    · have e1 : (ss ++ [s])[i] = ss[i] := List.getElem_append_left hlt
      rw [e1]
      by_cases hlj : j < ss.length
      · have e2 : (ss ++ [s])[j] = ss[j] := List.getElem_append_left hlj
        rw [e2]
        exact h.apart i j hlt hlj hne
      · have e0 : j = ss.length := by simp at hj; omega
        subst e0
        have e2 : (ss ++ [s])[ss.length] = s := by simp
        rw [e2]
        rcases hnew i hlt with h2 | h2
        · cases e3 : (slV ss[i]).ownBlock
          · exact .inl rfl
          · right; rw [h2]; simp
        · exact .inr (fun e => h2 e.symm)
    · have e0 : i = ss.length := by simp at hi; omega
      subst e0
      have e1 : (ss ++ [s])[ss.length] = s := by simp
      rw [e1]
      have hlj : j < ss.length := by simp at hj; omega
      have e2 : (ss ++ [s])[j] = ss[j] := List.getElem_append_left hlj
      rw [e2]
      exact hnew j hlj

theorem cut_mid (l : List UInt8) (i j : Nat) : (⟨l.toArray⟩ : ByteArray).extract i j = ⟨((l.take j).drop i).toArray⟩ := by
  apply ByteArray.ext
  rw [ByteArray.data_extract]
  simp [List.extract_eq_take_drop, List.drop_take]

def strLen : Value → Nat
  | .string b => b.size
  | _ => 0

set_option maxRecDepth 100000 in
set_option maxHeartbeats 4000000 in
theorem parse_any (s : List UInt8) (w : World) (hm : s.length ≤ 1000000) :
    Calls Try.prog 24 #[.string ⟨s.toArray⟩] w (LvR w.heap.size w (parseN 200 s)) := by
  go_enter Try.func24, Try.ntmps24
  go_wp2
  go_loopw [0, 3] (fun s0 v wr => ∃ (t : List UInt8) (ss : List Sl) (m : List (List Ev)) (a : Option Addr) (cap : Nat), s0 = .string ⟨t.toArray⟩ ∧ v = .slice a m.length cap ∧ t.length ≤ 1000000 ∧ m.length ≤ 200 ∧ Hid (m ++ parseN (200 - m.length) t = parseN 200 s) ∧ Hid (OwnLv wr w.heap.size v ss m) ∧ Hid (Below w.heap.size w wr)) (fun s0 _ _ => strLen s0)
  case atStart => exact ⟨s, [], [], none, 0, rfl, rfl, hm, by simp, rfl, ownLv_nil _ _, Below.refl _ _⟩
  case round =>
    obtain ⟨t, ss, m, a, cap, rfl, rfl, ht, hm200, HP, HV, HB⟩ := hrel
    cases t with
    | nil =>
      have HE : Hid (m = parseN 200 s) := by
        have h := HP.out
        have e : parseN (200 - m.length) [] = [] := by cases 200 - m.length <;> rfl
        rw [e, List.append_nil] at h
        exact h
      have hsz : (⟨([] : List UInt8).toArray⟩ : ByteArray).size = 0 := rfl
      go_wp2
      go_ret
      exact ⟨_, ss, rfl, by rw [← HE.out]; exact HV.out, HB.out⟩
    | cons c r =>
      have hsz : (⟨(c :: r).toArray⟩ : ByteArray).size = r.length + 1 := rfl
      have hix : ∀ h : 0 < (⟨(c :: r).toArray⟩ : ByteArray).size, (⟨(c :: r).toArray⟩ : ByteArray)[0] = c := fun _ => rfl
      have bc := UInt8.toNat_lt c
      have hl0 : decide ((0 : Int) < (r.length : Int) + 1) = true := by simp
      have hl1 : (0 : Int) < (r.length : Int) + 1 := by omega
      simp only [List.length_cons] at ht
      by_cases hc0 : c.toNat = 0
      · obtain rfl : c = 0 := UInt8.toNat_inj.1 hc0
        have HE : Hid (m = parseN 200 s) := by
          have h := HP.out
          have e : parseN (200 - m.length) (0 :: r) = [] := by cases 200 - m.length <;> simp [parseN]
          rw [e, List.append_nil] at h
          exact h
        clear hc0
        go_wp2
        go_ret
        exact ⟨_, ss, rfl, by rw [← HE.out]; exact HV.out, HB.out⟩
      · have hq : decide ((0 : Int) < (c.toNat : Int)) = true := by simp; omega
        by_cases hm2 : m.length = 200
        · have HE : Hid (m = parseN 200 s) := by
            have h := HP.out
            rw [hm2] at h
            have e : parseN (200 - 200) (c :: r) = [] := rfl
            rw [e, List.append_nil] at h
            exact h
          rw [hm2] at HV ⊢
          clear hm2
          go_wp2
          go_ret
          exact ⟨_, ss, rfl, by rw [← HE.out]; exact HV.out, HB.out⟩
        · have hq2 : decide ((m.length : Int) < 200) = true := by simp; omega
          have hq3 : m.length < 200 := by omega
          have hq4 : (m.length : Int) < 200 := by omega
          have hq5 : decide (m.length < 200) = true := by simp; omega
          obtain ⟨E, hE, hE1, hE2, hE3⟩ : ∃ E : Nat, min (1 + (c.toNat : Int)) ((r.length : Int) + 1) = E ∧ 1 ≤ E ∧ E ≤ r.length + 1 ∧ E = min (1 + c.toNat) (r.length + 1) := ⟨min (1 + c.toNat) (r.length + 1), by omega, by omega, by omega, rfl⟩
          have HP2 : Hid ((m ++ [readE (r.take c.toNat)]) ++ parseN (200 - (m.length + 1)) (r.drop c.toNat) = parseN 200 s) := by
            show _ = _
            rw [← HP.out]
            obtain ⟨q, hq'⟩ : ∃ q, 200 - m.length = q + 1 := ⟨200 - m.length - 1, by omega⟩
            have e2 : 200 - (m.length + 1) = q := by omega
            rw [hq', e2, parseN, if_neg hc0]
            simp
          have vc : IntKind.i64.wrap (c.toNat : Int) = c.toNat := IntWalk.i64_in _ (by omega)
          have vd : IntKind.i64.wrap (1 + (c.toNat : Int)) = 1 + c.toNat := IntWalk.i64_in _ (by omega)
          have hx1 : (⟨(c :: r).toArray⟩ : ByteArray).extract 1 E = ⟨(r.take c.toNat).toArray⟩ := by
            rw [cut_mid]
            congr 2
            obtain ⟨q, rfl⟩ : ∃ q, E = q + 1 := ⟨E - 1, by omega⟩
            rw [List.take_succ_cons, List.drop_succ_cons, List.drop_zero]
            by_cases hcr : c.toNat ≤ r.length
            · congr 1; omega
            · rw [List.take_of_length_le (by omega), List.take_of_length_le (by omega)]
          have hx2 : (⟨(c :: r).toArray⟩ : ByteArray).extract E (r.length + 1) = ⟨(r.drop c.toNat).toArray⟩ := by
            rw [cut_mid]
            congr 2
            obtain ⟨q, rfl⟩ : ∃ q, E = q + 1 := ⟨E - 1, by omega⟩
            rw [List.take_of_length_le (by simp), List.drop_succ_cons]
            by_cases hcr : c.toNat ≤ r.length
            · congr 1; omega
            · rw [List.drop_eq_nil_of_le (by omega), List.drop_eq_nil_of_le (by omega)]
          have hE4 : (1 : Int) ≤ (E : Int) := by omega
          have hE5 : (E : Int) ≤ (r.length : Int) + 1 := by omega
          clear hm2 hE3
          have htl : (r.take c.toNat).length ≤ 1000000 := by have := List.length_take_le' c.toNat r; omega
          have hdl : (r.drop c.toNat).length ≤ r.length := by simp
          have HDL := Lib.hid hdl
          go_wp2_with fail
          refine (evReadO_any (r.take c.toNat) wr htl).mono ?_
          rintro x w1 ⟨a1, cap1, rfl, h1, hb1⟩
          have HR1 := Lib.hid h1
          have hb1s := hb1.size
          have hBB := HB.out.size
          have HB1 := Lib.hid (HB.out.trans (hb1.mono hBB))
          have HV1 := Lib.hid (HV.out.later hb1)
          have HVB := Lib.hid hb1
          clear hx1 h1 hb1 htl hdl
          have hinf := infoSl
          go_wp2_with (at_builtin; refine wp_appendR (f := slCell) (n := 1) 24 22 24 (.slice none 0 0) Try.underlying24 infoSl rfl (by omega) (by omega) slCell_len rfl _ _ rfl w.heap.size _ ss rfl (HV1.out.outer.alloc _) ⟨w1.heap.size, 0, none⟩ rfl ⟨a1, (readE (r.take c.toNat)).length, cap1⟩ (slCell_one _) (cells_new w1 (slCell ⟨a1, (readE (r.take c.toNat)).length, cap1⟩) _ _ rfl) (by have := HV1.out.len; omega) (by simp; omega) ?_; intro v' w' h1 h2 h3; obtain ⟨g, capg, hv, _, _⟩ := OwnRow.block h1 (by simp); rw [List.length_append, List.length_singleton] at hv; subst hv)
          have HV2 : Hid (OwnLv w' w.heap.size (.slice (some ⟨g, 0, none⟩) (m ++ [readE (r.take c.toNat)]).length capg) (ss ++ [⟨a1, (readE (r.take c.toNat)).length, cap1⟩]) (m ++ [readE (r.take c.toNat)])) := by
            show OwnLv _ _ _ _ _
            have hlen : (m ++ [readE (r.take c.toNat)]).length = ss.length + 1 := by simp [HV1.out.len]
            rw [hlen]
            exact OwnLv.push HV.out (HVB.out.trans ((below_alloc1 w1 _).mono hb1s)) (HR1.out.alloc _) hBB h1 h3
          have HB2 : Hid (Below w.heap.size w w') := HB1.out.trans (((below_alloc1 w1 (.cells #[.slice a1 (readE (r.take c.toNat)).length cap1] 22)).mono HB1.out.size).trans h2)
          have hsl : ss.length = m.length := HV.out.len
          rw [hsl]
          clear h1 h2 h3
          go_roundw
          case rel => exact ⟨r.drop c.toNat, ss ++ [⟨a1, (readE (r.take c.toNat)).length, cap1⟩], m ++ [readE (r.take c.toNat)], some ⟨g, 0, none⟩, capg, rfl, by simp, by have := HDL.out; omega, by simp; omega, by rw [List.length_append, List.length_singleton]; exact HP2, (by have h := HV2.out; rw [List.length_append, List.length_singleton] at h; exact h), HB2⟩
          case measure =>
            have h1 := HDL.out
            show (⟨(r.drop c.toNat).toArray⟩ : ByteArray).size < (⟨(c :: r).toArray⟩ : ByteArray).size
            have e1 : (⟨(r.drop c.toNat).toArray⟩ : ByteArray).size = (r.drop c.toNat).length := rfl
            rw [e1, hsz]
            omega

end Go.Proofs.Ytljlaopjimkcmaa
