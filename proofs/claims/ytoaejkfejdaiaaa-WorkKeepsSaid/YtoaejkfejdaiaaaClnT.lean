/- The library's copy of a text, as a list of bytes. -/
import Derived.Test.YtoaejkfejdaiaaaGen
import Derived.Test.YtoaejkfejdaiaaaCln
namespace Go.Proofs.Ytoaejkfejdaiaaa
open Go.RowKit

set_option maxRecDepth 100000 in
theorem clone_txt (k : Txt) (w : World) (hk : k.length ≤ 281474976710656) : Calls Try.prog 28 #[.string ⟨k.toArray⟩] w fun r w' => r = .returned (.string ⟨k.toArray⟩) ∧ Below w.heap.size w w' := by
  have HC := Lib.hid (Try.lite_clone ⟨k.toArray⟩ w (by simp [ByteArray.size]; omega))
  go_enter Try.func28, Try.ntmps28
  go_wp2_with fail
  refine HC.out.mono ?_
  rintro r w1 ⟨rfl, hb⟩
  go_wp2
  go_ret
  exact ⟨rfl, hb⟩
end Go.Proofs.Ytoaejkfejdaiaaa
