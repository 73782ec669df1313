/- Var and Holder, in a region whose order is drawn. -/
import Derived.Test.YtgofbejohihljaaStateRead
namespace Go.Proofs.Ytgofbejohihljaa
open Go.RowKit

theorem var_quiet {s : St} {b : Nat} {w : World} (h : StAt w b s) (x : Nat) (hx : x < 4) (n : Nat) : Calls Try.prog 25 #[.pointer (some ⟨b, 0, none⟩), .int .i64 x] (w.drewN n) fun r w' => r = .returned (.int .i64 (s.var x)) ∧ ∃ m, w' = w.drewN m :=
  (var_any (w := w.drewN n) h x hx).mono fun _ _ ⟨he, hm⟩ => ⟨he, n, hm.symm⟩
theorem holder_quiet {F : Nat} {s : St} {b : Nat} {w : World} (h : StAt w b s) (ok : s.Ok F) (x : Nat) (n : Nat) : Calls Try.prog 26 #[.pointer (some ⟨b, 0, none⟩), .int .i64 x] (w.drewN n) fun r w' => r = .returned (.int .i64 (s.who x)) ∧ ∃ m, w' = w.drewN m :=
  (holder_any (w := w.drewN n) h ok x).mono fun _ _ ⟨he, hm⟩ => ⟨he, n, hm.symm⟩

end Go.Proofs.Ytgofbejohihljaa
