/- The contract of the document's Step. -/
import Derived.Test.YtgofbejohihljaaRefStep1
import Derived.Test.YtgofbejohihljaaRefStep2
import Derived.Test.YtgofbejohihljaaRefStep3
import Derived.Test.YtgofbejohihljaaRefStep4
import Derived.Test.YtgofbejohihljaaRefStep5
import Derived.Test.YtgofbejohihljaaRefStep6
import Derived.Test.YtgofbejohihljaaRefStep6b
import Derived.Test.YtgofbejohihljaaRefStep7
import Derived.Test.YtgofbejohihljaaRefStep7z
import Derived.Test.YtgofbejohihljaaRefStep8
namespace Go.Proofs.Ytgofbejohihljaa
open Go.RowKit

theorem refStep_any {F : Nat} {w : World} {b tb : Nat} {a : Option Addr} {cap tcap : Nat} {s : St} (h : RefAt w b tb a cap tcap s) (hth : ThreadsAt w a s.p.threads) (ok : s.Ok F) (t : Int) :
    Calls Try.prog 21 #[.pointer (some ⟨b, 0, none⟩), .int .i64 t] w fun e w' => e = .returned (stepV (s.step t)) ∧ RefAt w' b tb a cap tcap (s.step t).2.2 ∧ Only2 b tb w w' := by
  cases hb : belowB t s.ts.length
  · exact refStep_range h t hb
  · have hb' : 0 ≤ t ∧ t < s.ts.length := by simpa [belowB] using hb
    cases hi : s.ins t with
    | none =>
      obtain ⟨k, rfl⟩ : ∃ k : Nat, t = k := ⟨t.toNat, by omega⟩
      exact refStep_none h hth ok k (by omega) hi
    | some i =>
      obtain ⟨k, rfl, _⟩ := St.ins_nat hi
      cases hm : s.may k
      · exact refStep_state h hth ok k i hi hm
      · have hk : i.kind = 1 ∨ i.kind = 2 ∨ i.kind = 3 ∨ i.kind = 4 ∨ i.kind = 5 ∨ i.kind = 6 ∨ i.kind = 7 ∨ i.kind = 8 := by
          have := (ok.ins_right hi).1
          unfold rightIns at this
          repeat' split at this
          all_goals first | omega | (cases this)
        rcases hk with h1 | h1 | h1 | h1 | h1 | h1 | h1 | h1
        · exact refStep_1 h hth ok k i hi hm h1
        · exact refStep_2 h hth ok k i hi hm h1
        · exact refStep_3 h hth ok k i hi hm h1
        · exact refStep_4 h hth ok k i hi hm h1
        · exact refStep_5 h hth ok k i hi hm h1
        · by_cases hw : s.who i.x = k
          · exact refStep_6 h hth ok k i hi hm h1 hw
          · exact refStep_6b h hth ok k i hi hm h1 hw
        · by_cases hw : (s.th k).r.getD i.r.toNat 0 = 0
          · exact refStep_7z h hth ok k i hi hm h1 hw
          · exact refStep_7 h hth ok k i hi hm h1 hw
        · exact refStep_8 h hth ok k i hi hm h1

end Go.Proofs.Ytgofbejohihljaa
