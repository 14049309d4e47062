/-
  A ball equals itself ('==' on the program's balls).
-/
import Derived.Test.YtajkfkpnjbkhhaaYa
namespace Go.Proofs.Ytajkfkpnjbkhhaa.bal
open Go.ChangeShapes Go.WideShapes Go.ChangeAt Go.RowKit
open Go.Proofs.Ytajkfkpnjbkhhaa.mem Go.Proofs.Ytajkfkpnjbkhhaa.ints Go.Proofs.Ytajkfkpnjbkhhaa.arr Go.Proofs.Ytajkfkpnjbkhhaa.pm
set_option linter.unusedVariables false
set_option maxRecDepth 100000
theorem eqSelf (x : Bal) (w : World) : (Op.equalIn 10000 24 (bv x) (bv x)).run Try.prog w = .ok true w := by
  obtain ⟨a, b, c, d⟩ := x
  unfold bv
  have hf : (Try.prog.fieldsOf 24).toList.map (fun f => (f.name, f.type, f.offset)) = [("X", 3, 0), ("Y", 3, 1), ("DX", 3, 2), ("DY", 3, 3)] := by kernel_rfl
  have part_I : ∀ {cs : Array Value} {off : Nat} {v : Value} (h : cs[off]? = some v) (w : World), (part 3 cs off).run Try.prog w = .ok v w := fun h w => run_part_plain w (by kernel_rfl) h
  rw [run_equalIn_struct w 9999 _ _ _ (by kernel_rfl) (by kernel_rfl)]
  generalize (Try.prog.fieldsOf 24).toList = fs at hf
  have hl : fs.length = 4 := by have := congrArg List.length hf; simpa using this
  match fs, hl, hf with
  | [f0, f1, f2, f3], _, hf =>
    simp only [List.map_cons, List.map_nil, List.cons.injEq, Prod.mk.injEq, and_true] at hf
    obtain ⟨⟨a1, a2, a3⟩, ⟨b1, b2, b3⟩, ⟨c1, c2, c3⟩, d1, d2, d3⟩ := hf
    have x1 : (#[.int .i64 a, .int .i64 b, .int .i64 c, .int .i64 d] : Array Value)[0]? = some (.int .i64 a) := rfl
    have x2 : (#[.int .i64 a, .int .i64 b, .int .i64 c, .int .i64 d] : Array Value)[1]? = some (.int .i64 b) := rfl
    have x3 : (#[.int .i64 a, .int .i64 b, .int .i64 c, .int .i64 d] : Array Value)[2]? = some (.int .i64 c) := rfl
    have x4 : (#[.int .i64 a, .int .i64 b, .int .i64 c, .int .i64 d] : Array Value)[3]? = some (.int .i64 d) := rfl
    have e : ∀ n : Int, (Op.equalIn 9999 3 (.int .i64 n) (.int .i64 n)).run Try.prog w = .ok true w := fun n => by
      have h := run_equalIn_int (P := Try.prog) w 9998 3 .i64 .i64 n n Try.underlying3
      rwa [beq_self_eq_true] at h
    have n1 : (("X" : String) ≠ "_") = True := by simp
    have n2 : (("Y" : String) ≠ "_") = True := by simp
    have n3 : (("DX" : String) ≠ "_") = True := by simp
    have n4 : (("DY" : String) ≠ "_") = True := by simp
    simp only [Op.eqFields, n1, n2, n3, n4, if_true, a1, a2, a3, b1, b2, b3, c1, c2, c3, d1, d2, d3, Sem.run_bind, part_I x1, part_I x2, part_I x3, part_I x4, Result.andThen_ok, e, Bool.not_true, Bool.false_eq_true, if_false, Sem.run_pure]
theorem eqgB : Try.prog.eqGuardType Try.prog.depth 24 = false := by kernel_rfl
theorem start_allB {w : World} {bs : List (Nat × List Value)} (h : ∀ p ∈ bs, ∃ t, Arr w p.1 p.2 t) : sf.Hld w.heap.size w.heap.size w bs w.drew :=
  ⟨fun p hp => by
    obtain ⟨t, h1⟩ := h p hp
    exact ⟨h1.lt, fun j v hv => by rw [Nat.zero_add]; exact h1.cell hv⟩,
    ⟨rfl, rfl, rfl, Nat.le_refl _, fun _ _ => rfl⟩, Nat.le_refl _⟩
end Go.Proofs.Ytajkfkpnjbkhhaa.bal
