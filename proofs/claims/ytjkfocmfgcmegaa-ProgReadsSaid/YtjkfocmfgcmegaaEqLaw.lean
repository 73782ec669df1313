/- Two instructions held against each other. -/
import Derived.Test.YtjkfocmfgcmegaaInstr
namespace Go.Proofs.Ytjkfocmfgcmegaa
open Go.RowKit

theorem run_part_int {P : Program} (w : World) {t : TypeId} {k : IntKind} {xs : Array Value} {o : Nat} {v : Value} (hu : P.underlying t = some (.int k)) (hx : xs[o]? = some v) : (part t xs o).run P w = .ok v w := by
  simp [part, isAgg, run_underlying hu, hx]

theorem run_eqFields_cons {P : Program} (w : World) (d : Nat) (xs ys : Array Value) (f : Field) (fs : List Field) (k k' : IntKind) (a b : Int) (hn : f.name ≠ "_") (hu : P.underlying f.type = some (.int k'))
    (hx : xs[f.offset]? = some (.int k a)) (hy : ys[f.offset]? = some (.int k b)) :
    (Op.eqFields (d + 1) xs ys (f :: fs)).run P w = if a == b then (Op.eqFields (d + 1) xs ys fs).run P w else .ok false w := by
  rw [Op.eqFields, if_pos hn]
  simp only [Sem.run_bind, run_part_int w hu hx, run_part_int w hu hy, Result.andThen_ok, run_equalIn_int w d f.type k k' a b hu]
  cases h : (a == b) <;> simp

set_option maxRecDepth 100000 in
theorem run_neq_ins (i j : Ins) (w : World) :
    (binOp .neq 34 (.agg #[.int .i64 i.kind, .int .i64 i.r, .int .i64 i.x, .int .i64 i.n]) (.agg #[.int .i64 j.kind, .int .i64 j.r, .int .i64 j.x, .int .i64 j.n])).run Try.prog w = .ok (.bool (decide (i ≠ j))) w := by
  have hd : decide (i ≠ j) = !((i.kind == j.kind) && ((i.r == j.r) && ((i.x == j.x) && (i.n == j.n)))) := by
    obtain ⟨a, b, c, d⟩ := i
    obtain ⟨a', b', c', d'⟩ := j
    rw [Bool.eq_iff_iff]
    simp
  rw [hd]
  obtain ⟨a, b, c, d⟩ := i
  obtain ⟨a', b', c', d'⟩ := j
  dsimp only
  clear hd
  have ht : Try.prog.underlying 34 = some (.struct (Try.prog.fieldsOf 34)) := by kernel_rfl
  have hp : Try.prog.stoodInHeld 34 = false := by kernel_rfl
  have hf : (Try.prog.fieldsOf 34).toList.map (fun f => (f.name, f.type, f.offset)) = [("Kind", 3, 0), ("R", 3, 1), ("X", 3, 2), ("N", 2, 3)] := by kernel_rfl
  rw [run_neq_struct, run_equalIn_agg (P := Try.prog) w 9999 _ _ _ ht hp]
  unfold Program.fieldsOf
  rw [Try.underlying34]
  dsimp only
  rw [run_eqFields_cons (P := Try.prog) w 9998 _ _ _ _ .i64 .i64 a a' (by simp) Try.underlying3 rfl rfl]
  rw [run_eqFields_cons (P := Try.prog) w 9998 _ _ _ _ .i64 .i64 b b' (by simp) Try.underlying3 rfl rfl]
  rw [run_eqFields_cons (P := Try.prog) w 9998 _ _ _ _ .i64 .i64 c c' (by simp) Try.underlying3 rfl rfl]
  rw [run_eqFields_cons (P := Try.prog) w 9998 _ _ _ _ .i64 .i64 d d' (by simp) Try.underlying2 rfl rfl]
  rw [Op.eqFields]
  cases (a == a') <;> cases (b == b') <;> cases (c == c') <;> cases (d == d') <;> simp
end Go.Proofs.Ytjkfocmfgcmegaa
