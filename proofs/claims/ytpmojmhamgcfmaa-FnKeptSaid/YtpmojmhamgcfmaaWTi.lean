/-
  TorusOf of the program.
-/
import Derived.Test.YtpmojmhamgcfmaaY14
namespace Go.Proofs.Ytpmojmhamgcfmaa.gl
open Go.ChangeShapes Go.WideShapes Go.ChangeAt Go.RowKit
open Go.Proofs.Ytpmojmhamgcfmaa.mem Go.Proofs.Ytpmojmhamgcfmaa.ints Go.Proofs.Ytpmojmhamgcfmaa.arr Go.Proofs.Ytpmojmhamgcfmaa.pm Go.Proofs.Ytpmojmhamgcfmaa.permOk Go.Proofs.Ytpmojmhamgcfmaa.permOf Go.Proofs.Ytpmojmhamgcfmaa.inv Go.Proofs.Ytpmojmhamgcfmaa.fns Go.Proofs.Ytpmojmhamgcfmaa.sf
set_option linter.unusedVariables false
set_option maxRecDepth 100000

theorem torg {A i j : Nat} (h1 : i < A) (h2 : j * A + A ≤ 24) : ∃ ja i1 i2 z : Nat, ((j : Int) * (A : Int) = (ja : Int) ∧ IntKind.i64.wrap (ja : Int) = (ja : Int)) ∧ ((i : Int) + 1 = (i1 : Int) ∧ IntKind.i64.wrap (i1 : Int) = (i1 : Int)) ∧ (i1 : Int).tmod (A : Int) = (i2 : Int) ∧ ((ja : Int) + (i2 : Int) = (z : Int) ∧ IntKind.i64.wrap (z : Int) = (z : Int)) ∧ (z : Int) = torAt A (j * A + i) := by
  have b3 : (i + 1) % A < A := Nat.mod_lt _ (by omega)
  have d1 : (j * A + i) / A = j := by rw [Nat.add_comm, Nat.add_mul_div_right _ _ (by omega), Nat.div_eq_of_lt h1]; omega
  have d2 : (j * A + i) % A = i := by rw [Nat.add_comm, Nat.add_mul_mod_self_right, Nat.mod_eq_of_lt h1]
  have e1 : (j : Int) * (A : Int) = ((j * A : Nat) : Int) := (Int.natCast_mul _ _).symm
  have e2 : (i : Int) + 1 = ((i + 1 : Nat) : Int) := by simp
  have e3 : ((i + 1 : Nat) : Int).tmod (A : Int) = (((i + 1) % A : Nat) : Int) := by rw [Int.tmod_eq_emod_of_nonneg (by omega)]; exact (Int.natCast_emod _ A).symm
  have e4 : ((j * A : Nat) : Int) + (((i + 1) % A : Nat) : Int) = ((j * A + (i + 1) % A : Nat) : Int) := (Int.natCast_add _ _).symm
  refine ⟨j * A, i + 1, (i + 1) % A, j * A + (i + 1) % A, ⟨e1, w_in (by omega)⟩, ⟨e2, w_in (by omega)⟩, e3, ⟨e4, w_in (by omega)⟩, ?_⟩
  unfold torAt; rw [d1, d2]
theorem torh {A H N i j : Nat} (h1 : i < A) (h2 : j < H) (hN : N = A * H) (h3 : N ≤ 24) : ∃ j1 j2 ja z : Nat, ((j : Int) + 1 = (j1 : Int) ∧ IntKind.i64.wrap (j1 : Int) = (j1 : Int)) ∧ (j1 : Int).tmod (H : Int) = (j2 : Int) ∧ ((j2 : Int) * (A : Int) = (ja : Int) ∧ IntKind.i64.wrap (ja : Int) = (ja : Int)) ∧ ((ja : Int) + (i : Int) = (z : Int) ∧ IntKind.i64.wrap (z : Int) = (z : Int)) ∧ (z : Int) = torUp A N (j * A + i) := by
  have hH : H ≤ N := by rw [hN]; exact Nat.le_mul_of_pos_left _ (by omega)
  have hA : A ≤ N := by rw [hN]; exact Nat.le_mul_of_pos_right _ (by omega)
  have b1 : (j + 1) % H < H := Nat.mod_lt _ (by omega)
  have b2 : (j + 1) % H * A + A ≤ N := by
    have : ((j + 1) % H + 1) * A ≤ H * A := Nat.mul_le_mul_right _ (by omega)
    rw [Nat.add_mul, Nat.one_mul] at this
    rw [hN, Nat.mul_comm A H]; exact this
  have key : (j * A + i + A) % N = (j + 1) % H * A + i := by
    have e : j * A + i + A = (j + 1) * A + i := by rw [Nat.add_mul, Nat.one_mul]; omega
    rw [e]
    by_cases q : j + 1 < H
    · rw [Nat.mod_eq_of_lt q] at b2 ⊢
      exact Nat.mod_eq_of_lt (by omega)
    · have q2 : j + 1 = H := by omega
      rw [q2, Nat.mod_self, Nat.zero_mul, Nat.zero_add, hN, Nat.mul_comm A H, Nat.add_comm, Nat.add_mod_right, Nat.mod_eq_of_lt]
      rw [← Nat.mul_comm A H, ← hN]; omega
  have e1 : (j : Int) + 1 = ((j + 1 : Nat) : Int) := by simp
  have e2 : ((j + 1 : Nat) : Int).tmod (H : Int) = (((j + 1) % H : Nat) : Int) := by rw [Int.tmod_eq_emod_of_nonneg (by omega)]; exact (Int.natCast_emod _ H).symm
  have e3 : (((j + 1) % H : Nat) : Int) * (A : Int) = (((j + 1) % H * A : Nat) : Int) := (Int.natCast_mul _ _).symm
  have e4 : (((j + 1) % H * A : Nat) : Int) + (i : Int) = (((j + 1) % H * A + i : Nat) : Int) := (Int.natCast_add _ _).symm
  refine ⟨j + 1, (j + 1) % H, (j + 1) % H * A, (j + 1) % H * A + i, ⟨e1, w_in (by omega)⟩, e2, ⟨e3, w_in (by omega)⟩, ⟨e4, w_in (by omega)⟩, ?_⟩
  unfold torUp; rw [key]


theorem to_spec (a h : Int) (w : World) (lo1 : -9223372036854775808 ≤ a) (hi1 : a ≤ 9223372036854775807) (lo2 : -9223372036854775808 ≤ h) (hi2 : h ≤ 9223372036854775807) :
    Calls Try.prog 32 #[.int .i64 a, .int .i64 h] w fun e w' => ∃ g, e = .returned (.tuple #[g, .bool (torB a h)]) ∧ Svl w' w.heap.size w'.heap.size g (toR a h) (toU a h) ∧ Below w.heap.size w w' := to_spec0 a h w lo1 hi1 lo2 hi2
end Go.Proofs.Ytpmojmhamgcfmaa.gl
