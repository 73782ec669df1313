/- The contract of awake, of layer 12: true. -/
import Derived.Test.YtpanfhkmildkeaaMlSend
namespace Go.Proofs.Ytpanfhkmildkeaa
open Go.RowKit

theorem run_eqFields_consS {P : Program} (w : World) (d : Nat) (xs ys : Array Value) (f : Field) (fs : List Field) (a b : ByteArray) (hn : f.name ≠ "_") (hu : P.underlying f.type = some .string)
    (hx : xs[f.offset]? = some (.string a)) (hy : ys[f.offset]? = some (.string b)) :
    (Op.eqFields (d + 1) xs ys (f :: fs)).run P w = if a.toList == b.toList then (Op.eqFields (d + 1) xs ys fs).run P w else .ok false w := by
  rw [Op.eqFields, if_pos hn]
  simp only [Sem.run_bind, run_part_one w hu rfl hx, run_part_one w hu rfl hy, Result.andThen_ok, run_equalIn_string w d f.type a b hu]
  cases h : (a.toList == b.toList) <;> simp
/-- Are two letters the same? -/
def eqLet (a b : Let) : Bool := a.s == b.s && a.set == b.set
theorem eqLet_refl (a : Let) : eqLet a a = true := by simp [eqLet]
theorem bytes_list (l : Txt) : (⟨l.toArray⟩ : ByteArray).toList = l := by simp
set_option maxRecDepth 100000 in
theorem run_equal_let (a b : Let) (w : World) :
    (Op.equalIn 10000 34 (.agg #[.string ⟨a.s.toArray⟩, .int .u8 a.set]) (.agg #[.string ⟨b.s.toArray⟩, .int .u8 b.set])).run Try.prog w = .ok (eqLet a b) w := by
  have ht : Try.prog.underlying 34 = some (.struct (Try.prog.fieldsOf 34)) := by kernel_rfl
  have hp : Try.prog.stoodInHeld 34 = false := by kernel_rfl
  rw [run_equalIn_agg (P := Try.prog) w 9999 _ _ _ ht hp]
  unfold Program.fieldsOf
  rw [Try.underlying34]
  dsimp only
  rw [run_eqFields_consS (P := Try.prog) w 9998 _ _ _ _ ⟨a.s.toArray⟩ ⟨b.s.toArray⟩ (by simp) Try.underlying9 rfl rfl]
  rw [run_eqFields_consI (P := Try.prog) w 9998 _ _ _ _ .u8 .u8 a.set b.set (by simp) Try.underlying32 rfl rfl]
  rw [Op.eqFields, bytes_list, bytes_list]
  unfold eqLet
  cases (a.s == b.s) <;> cases (a.set == b.set) <;> simp
set_option maxRecDepth 100000 in
set_option maxHeartbeats 4000000 in
theorem awake12_any (w : World) : Calls Try.prog 6 #[] w fun r w' => r = .returned (.bool true) ∧ Below w.heap.size w w' := by
  have HN : Hid (Calls Try.prog 7 #[.int .i64 2] w _) := mNew_any (n := 2) (by omega) (by omega) w
  have HN0 : Hid (∀ W, Calls Try.prog 7 #[.int .i64 0] W fun r w' => r = .returned (.tuple #[.pointer none, .int .i64 1]) ∧ W = w') := fun W => mNew_bad (.inl (by omega)) W
  go_enter Try.func6, Try.ntmps6
  go_wp2_with fail
  refine HN.out.mono ?_
  rintro r w1 ⟨rfl, hb1, S, q1, hS⟩
  have HB1 := Lib.hid hb1
  have HS := Lib.hid hS
  have HS1 : Hid (Calls Try.prog 8 #[.pointer (some ⟨w.heap.size + 1, 0, none⟩), .int .i64 1, .agg #[.string ⟨#[97]⟩, .int .u8 3]] w1 _) := mSend_any q1 (j := 1) (by omega) ⟨[97], 3⟩ (by decide) (by decide)
  clear hb1 hS q1
  go_wp2_with fail
  refine (HN0.out _).mono ?_
  rintro r w' ⟨rfl, rfl⟩
  go_wp2_with fail
  refine HS1.out.mono ?_
  rintro r w2 ⟨rfl, S2, q2, o2, hS2⟩
  have HB2 := Lib.hid (HB1.out.trans (o2.below HB1.out.size HS.out))
  have HSS2 : Hid (∀ y, S2 y → w.heap.size ≤ y) := fun y hy => (hS2 y hy).elim (HS.out y) fun h => Nat.le_trans HB1.out.size h
  have HS3 : Hid (Calls Try.prog 8 #[.pointer (some ⟨w.heap.size + 1, 0, none⟩), .int .i64 2, .agg #[.string ⟨#[]⟩, .int .u8 0]] w2 _) := mSend_out q2 (z := 2) (by omega) let0
  have Q2 := Lib.hid q2
  clear hS2 q2 o2 HB1 HS
  go_wp2_with fail
  refine HS3.out.mono ?_
  rintro r w3 ⟨rfl, hb3⟩
  have q3 := Q2.out.later hb3
  have HB3 := Lib.hid (HB2.out.trans (hb3.mono HB2.out.size))
  have HS4 : Hid (Calls Try.prog 8 #[.pointer (some ⟨w.heap.size + 1, 0, none⟩), .int .i64 1, .agg #[.string ⟨#[98]⟩, .int .u8 0]] w3 _) := mSend_any q3 (j := 1) (by omega) ⟨[98], 0⟩ (by decide) (by decide)
  clear hb3 q3 HB2
  go_wp2_with fail
  refine HS4.out.mono ?_
  rintro r w4 ⟨rfl, S4, q4, o4, hS4⟩
  have HB4 := Lib.hid (HB3.out.trans (o4.below HB3.out.size HSS2.out))
  have HSS4 : Hid (∀ y, S4 y → w.heap.size ≤ y) := fun y hy => (hS4 y hy).elim (HSS2.out y) fun h => Nat.le_trans HB3.out.size h
  have HS5 : Hid (Calls Try.prog 9 #[.pointer (some ⟨w.heap.size + 1, 0, none⟩), .int .i64 0] w4 fun e w' => e = .returned (.tuple #[.agg #[.string ⟨#[]⟩, .int .u8 0], .bool false]) ∧ Below w4.heap.size w4 w') := mTake_none q4 (j := 0) (by omega) rfl
  have Q4 := Lib.hid q4
  clear hS4 q4 o4 HB3 HSS2
  go_wp2_with fail
  refine HS5.out.mono ?_
  rintro r w5 ⟨rfl, hb5⟩
  have HB5 := Lib.hid (HB4.out.trans (hb5.mono HB4.out.size))
  have Q5 := Lib.hid (Q4.out.later hb5)
  clear hb5 HB4 Q4
  go_wp2_with fail
  have HT6 : Hid (Calls Try.prog 9 #[.pointer (some ⟨w.heap.size + 1, 0, none⟩), .int .i64 1] (w5.alloc (.cells #[.string ⟨#[]⟩, .int .u8 0] 34)) fun e w' => e = .returned (.tuple #[.agg #[.string ⟨#[97]⟩, .int .u8 3], .bool true]) ∧ TookR w.heap.size (w.heap.size + 1) 2 S4 _ 1 _ (w5.alloc (.cells #[.string ⟨#[]⟩, .int .u8 0] 34)) w') := mTake_any (Q5.out.later (below_alloc1 _ _)) (j := 1) (by omega) (l := ⟨[97], 3⟩) (r := [⟨[98], 0⟩]) rfl (by decide)
  have HB6 : Hid (Below w.heap.size w (w5.alloc (.cells #[.string ⟨#[]⟩, .int .u8 0] 34))) := HB5.out.alloc HB5.out.size _
  clear Q5
  refine HT6.out.mono ?_
  rintro r w7 ⟨rfl, q7, o7⟩
  have HB7 := Lib.hid (HB6.out.trans (o7.below HB6.out.size HSS4.out))
  have Q7 := Lib.hid q7
  have HB8 : Hid (Below w.heap.size w (w7.alloc (.cells #[.string ⟨#[97]⟩, .int .u8 3] 34))) := HB7.out.alloc HB7.out.size _
  have HL8 : Hid (Calls Try.prog 11 #[.pointer (some ⟨w.heap.size + 1, 0, none⟩), .int .i64 1] (w7.alloc (.cells #[.string ⟨#[97]⟩, .int .u8 3] 34)) fun r w' => r = .returned (.int .i64 1) ∧ _ = w') := mLen_any (Q7.out.later (below_alloc1 _ _)) (j := 1) (by omega)
  have HT8 : Hid (Calls Try.prog 13 #[.pointer (some ⟨w.heap.size + 1, 0, none⟩)] (w7.alloc (.cells #[.string ⟨#[97]⟩, .int .u8 3] 34)) fun r w' => r = .returned (.int .i64 1) ∧ _ = w') := mTotal_any (Q7.out.later (below_alloc1 _ _))
  have heq : ∀ W : World, (Op.equalIn 10000 34 (.agg #[.string ⟨#[97]⟩, .int .u8 3]) (.agg #[.string ⟨#[97]⟩, .int .u8 3])).run Try.prog W = .ok true W := fun W => run_equal_let ⟨[97], 3⟩ ⟨[97], 3⟩ W
  clear q7 o7 Q7 HB7
  go_wp2_with fail
  refine HL8.out.mono ?_
  rintro r w' ⟨rfl, rfl⟩
  go_wp2_with fail
  refine HT8.out.mono ?_
  rintro r w' ⟨rfl, rfl⟩
  go_wp2
  go_ret
  exact ⟨rfl, HB8.out⟩
end Go.Proofs.Ytpanfhkmildkeaa
