/-
  The program's PhaseOf and BallPeriod.
-/
import Derived.Test.YtajkfkpnjbkhhaaYk
namespace Go.Proofs.Ytajkfkpnjbkhhaa.bal
open Go.ChangeShapes Go.WideShapes Go.ChangeAt Go.RowKit
open Go.Proofs.Ytajkfkpnjbkhhaa.mem Go.Proofs.Ytajkfkpnjbkhhaa.ints Go.Proofs.Ytajkfkpnjbkhhaa.arr Go.Proofs.Ytajkfkpnjbkhhaa.pm Go.Proofs.Ytajkfkpnjbkhhaa.permOk Go.Proofs.Ytajkfkpnjbkhhaa.sf
set_option linter.unusedVariables false
set_option maxRecDepth 100000
set_option linter.unusedSimpArgs false
set_option maxHeartbeats 2000000 in
theorem ph_impl (a x d : Int) (w : World) (a0 : -9223372036854775808 ≤ a) (a1 : a ≤ 9223372036854775807) (x0 : -9223372036854775808 ≤ x) (x1 : x ≤ 9223372036854775807) (d0 : -9223372036854775808 ≤ d) (d1 : d ≤ 9223372036854775807) :
    Calls Try.prog 18 #[.int .i64 a, .int .i64 x, .int .i64 d] w fun e w' => e = .returned (.int .i64 (phF a x d)) ∧ Below w.heap.size w w' := by
  by_cases ha : 1 ≤ a ∧ a ≤ 50
  · have HT := Lib.hid (show tlB a = true from decide_eq_true ha)
    by_cases hx : 0 ≤ x ∧ x ≤ a
    · by_cases h1 : d = 1
      · subst h1
        have HF : Hid (phF a x 1 = x) := Lib.hid (by unfold phF phB; rw [decide_eq_true ⟨ha, hx, .inl rfl⟩]; rfl)
        go_enter Try.func18, Try.ntmps18
        go_wp2_with fail
        refine (tl_impl a _).mono ?_
        rintro e w' ⟨rfl, rfl⟩
        rw [HT.out]
        go_wp2_with fail
        go_ret
        exact ⟨by rw [HF.out]; rfl, Below.refl _ _⟩
      · by_cases h2 : d = -1
        · subst h2
          have HF : Hid (phF a x (-1) = (2 * a - x) % (2 * a)) := Lib.hid (by unfold phF phB; rw [decide_eq_true ⟨ha, hx, .inr rfl⟩]; rfl)
          have w1 : IntKind.i64.wrap (2 * a) = 2 * a := IntWalk.i64_in _ (by omega)
          have w2 : IntKind.i64.wrap (2 * a - x) = 2 * a - x := IntWalk.i64_in _ (by omega)
          have hz : ¬ (2 * a = 0) := by omega
          have hz' : (2 * a == 0) = false := by simp; omega
          have m0 : (2 * a - x).tmod (2 * a) = (2 * a - x) % (2 * a) := Int.tmod_eq_emod_of_nonneg (by omega)
          have m1 : 0 ≤ (2 * a - x) % (2 * a) := Int.emod_nonneg _ hz
          have m2 : (2 * a - x) % (2 * a) < 2 * a := Int.emod_lt_of_pos _ (by omega)
          obtain ⟨r, hr⟩ : ∃ r, r = (2 * a - x) % (2 * a) := ⟨_, rfl⟩
          rw [← hr] at m0 m1 m2 HF
          clear hr
          have w3 : IntKind.i64.wrap r = r := IntWalk.i64_in _ (by omega)
          go_enter Try.func18, Try.ntmps18
          go_wp2_with fail
          refine (tl_impl a _).mono ?_
          rintro e w' ⟨rfl, rfl⟩
          rw [HT.out]
          go_wp2_with fail
          go_ret
          exact ⟨by rw [HF.out]; rfl, Below.refl _ _⟩
        · have HF : Hid (phF a x d = -1) := Lib.hid (by unfold phF phB; rw [decide_eq_false (fun h => h.2.2.elim h1 h2)]; rfl)
          have e1 : (d == 1) = false := by simp [h1]
          have e2 : (d == -1) = false := by simp [h2]
          go_enter Try.func18, Try.ntmps18
          go_wp2_with fail
          refine (tl_impl a _).mono ?_
          rintro e w' ⟨rfl, rfl⟩
          rw [HT.out]
          go_wp2_with fail
          go_ret
          exact ⟨by rw [HF.out]; rfl, Below.refl _ _⟩
    · have HF : Hid (phF a x d = -1) := Lib.hid (by unfold phF phB; rw [decide_eq_false (fun h => hx h.2.1)]; rfl)
      by_cases hx0 : 0 ≤ x
      · have hxa : ¬ x ≤ a := fun h => hx ⟨hx0, h⟩
        go_enter Try.func18, Try.ntmps18
        go_wp2_with fail
        refine (tl_impl a _).mono ?_
        rintro e w' ⟨rfl, rfl⟩
        rw [HT.out]
        go_wp2_with fail
        go_ret
        exact ⟨by rw [HF.out]; rfl, Below.refl _ _⟩
      · clear hx
        go_enter Try.func18, Try.ntmps18
        go_wp2_with fail
        refine (tl_impl a _).mono ?_
        rintro e w' ⟨rfl, rfl⟩
        rw [HT.out]
        go_wp2_with fail
        go_ret
        exact ⟨by rw [HF.out]; rfl, Below.refl _ _⟩
  · have HF : Hid (phF a x d = -1) := Lib.hid (by unfold phF phB; rw [decide_eq_false (fun h => ha h.1)]; rfl)
    have HT := Lib.hid (show tlB a = false from decide_eq_false ha)
    go_enter Try.func18, Try.ntmps18
    go_wp2_with fail
    refine (tl_impl a _).mono ?_
    rintro e w' ⟨rfl, rfl⟩
    rw [HT.out]
    go_wp2_with fail
    go_ret
    exact ⟨by rw [HF.out]; rfl, Below.refl _ _⟩
set_option maxHeartbeats 1000000 in
theorem pe_impl (a b : Int) (w : World) (a0 : -9223372036854775808 ≤ a) (a1 : a ≤ 9223372036854775807) (b0 : -9223372036854775808 ≤ b) (b1 : b ≤ 9223372036854775807) :
    Calls Try.prog 14 #[.int .i64 a, .int .i64 b] w fun e w' => e = .returned (.int .i64 (peF a b)) ∧ Below w.heap.size w w' := by
  have PB := pe_bnd a b
  go_enter Try.func14, Try.ntmps14
  go_wp2_with fail
  refine (tl_impl a _).mono ?_
  rintro e w' ⟨rfl, rfl⟩
  by_cases ha : 1 ≤ a ∧ a ≤ 50
  · rw [show tlB a = true from decide_eq_true ha]
    go_wp2_with fail
    refine (tl_impl b _).mono ?_
    rintro e w' ⟨rfl, rfl⟩
    by_cases hb : 1 ≤ b ∧ b ≤ 50
    · rw [show tlB b = true from decide_eq_true hb]
      have h : tbB a b = true := tb_iff.2 ⟨ha, hb⟩
      obtain ⟨n, rfl⟩ := Int.eq_ofNat_of_zero_le (show 0 ≤ a by omega)
      obtain ⟨m, rfl⟩ := Int.eq_ofNat_of_zero_le (show 0 ≤ b by omega)
      have HF : Hid (peF n m = 2 * (n : Int) / (Nat.gcd n m : Int) * m) := Lib.hid (by unfold peF; rw [h]; rfl)
      rw [HF.out] at PB
      clear h
      obtain ⟨g1, g2⟩ := gcd_div n m (by omega)
      have e1 : IntKind.i64.wrap (2 * (n : Int)) = 2 * (n : Int) := IntWalk.i64_in _ (by omega)
      go_wp2_with fail
      refine (dr.gcd_impl n m _ (by omega) (by omega)).mono ?_
      rintro e w1 ⟨rfl, b1'⟩
      have B1 := Lib.hid b1'; clear b1'
      generalize Nat.gcd n m = g at *
      have hz : ¬ ((g : Int) = 0) := by omega
      have hz' : ((g : Int) == 0) = false := by simp; omega
      have e0 : (2 * (n : Int)).tdiv (g : Int) = 2 * (n : Int) / (g : Int) := Int.tdiv_eq_ediv_of_nonneg (by omega)
      have q0 : 0 ≤ 2 * (n : Int) / (g : Int) := Int.ediv_nonneg (by omega) (by omega)
      have q1 : 2 * (n : Int) / (g : Int) ≤ 2 * (n : Int) := Int.ediv_le_self _ (by omega)
      generalize 2 * (n : Int) / (g : Int) = q at *
      have e2 : IntKind.i64.wrap q = q := IntWalk.i64_in _ (by omega)
      have e3 : IntKind.i64.wrap (q * (m : Int)) = q * (m : Int) := IntWalk.i64_in _ (by omega)
      go_wp2_with fail
      go_ret
      exact ⟨by rw [HF.out]; rfl, dr.below_d B1.out⟩
    · have HF : Hid (peF a b = 0) := Lib.hid (by unfold peF; rw [show tbB a b = false from Bool.eq_false_iff.2 (fun h => hb (tb_iff.1 h).2)]; rfl)
      rw [show tlB b = false from decide_eq_false hb]
      clear PB
      go_wp2_with fail
      go_ret
      exact ⟨by rw [HF.out]; rfl, Below.refl _ _⟩
  · have HF : Hid (peF a b = 0) := Lib.hid (by unfold peF; rw [show tbB a b = false from Bool.eq_false_iff.2 (fun h => ha (tb_iff.1 h).1)]; rfl)
    rw [show tlB a = false from decide_eq_false ha]
    clear PB
    go_wp2_with fail
    go_ret
    exact ⟨by rw [HF.out]; rfl, Below.refl _ _⟩
end Go.Proofs.Ytajkfkpnjbkhhaa.bal
