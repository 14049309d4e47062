/-
  SlopeOk, DirectionWord and SlopeWord of the specification and of the program.
-/
import Derived.Test.YtkkklpchkkdhfaaDa
import Derived.Test.YtkkklpchkkdhfaaPermOk
namespace Go.Proofs.Ytkkklpchkkdhfaa.dr
open Go.ChangeShapes Go.WideShapes Go.ChangeAt Go.RowKit
open Go.Proofs.Ytkkklpchkkdhfaa.mem Go.Proofs.Ytkkklpchkkdhfaa.ints Go.Proofs.Ytkkklpchkkdhfaa.arr Go.Proofs.Ytkkklpchkkdhfaa.pm Go.Proofs.Ytkkklpchkkdhfaa.permOk
set_option linter.unusedVariables false
set_option maxRecDepth 100000


set_option maxHeartbeats 1000000 in
theorem gcd_spec (a b : Nat) (w : World) (ha : a ≤ 16777216) (hb : b ≤ 16777216) :
    Calls Try.prog 37 #[.int .i64 a, .int .i64 b] w fun e w' => e = .returned (.int .i64 (Nat.gcd a b : Nat)) ∧ Drawn w w' := by
  go_enter Try.func37, Try.ntmps37
  go_wp2
  go_loopw [0, 1] (fun av bv wr => ∃ x y : Nat, x ≤ 16777216 ∧ y ≤ 16777216 ∧ av = .int .i64 x ∧ bv = .int .i64 y ∧ Drawn w wr ∧ Hid (Nat.gcd x y = Nat.gcd a b)) (fun _ bv _ => (intOf bv).toNat)
  case atStart => exact ⟨a, b, ha, hb, rfl, rfl, ⟨0, rfl⟩, Lib.hid rfl⟩
  case round =>
    obtain ⟨x, y, hx, hy, rfl, rfl, hdr, HG⟩ := hrel
    have HD := Lib.hid hdr; clear hdr
    by_cases h0 : y = 0
    · subst h0
      have HE : Hid (x = Nat.gcd a b) := Lib.hid (by rw [← HG.out, Nat.gcd_zero_right])
      go_wp2
      go_ret
      exact ⟨ret_int (by rw [← HE.out]), HD.out⟩
    · have hb0 : ((y : Int) != 0) = true := by simp; omega
      have hm : x % y < y := Nat.mod_lt _ (by omega)
      have e1 : (x : Int).tmod y = ((x % y : Nat) : Int) := by rw [← Int.ofNat_tmod]
      have NG : Hid (Nat.gcd y (x % y) = Nat.gcd a b) := Lib.hid (by rw [← HG.out, Nat.gcd_comm x y, Nat.gcd_rec y x, Nat.gcd_comm])
      generalize hz : x % y = z at *
      have hw := IntWalk.i64_in (z : Int) (by omega)
      go_wp2
      go_roundw
      case rel => exact ⟨y, z, by omega, by omega, rfl, by first | rfl | (congr 1), by first | exact HD.out | exact HD.out.more 1 | exact (HD.out.more 1).more 1, NG⟩
      case measure => simp [intOf]; omega


set_option maxHeartbeats 1000000 in
theorem gcd_impl (a b : Nat) (w : World) (ha : a ≤ 16777216) (hb : b ≤ 16777216) :
    Calls Try.prog 57 #[.int .i64 a, .int .i64 b] w fun e w' => e = .returned (.int .i64 (Nat.gcd a b : Nat)) ∧ Drawn w w' := by
  go_enter Try.func57, Try.ntmps57
  go_wp2
  go_loopw [0, 1] (fun av bv wr => ∃ x y : Nat, x ≤ 16777216 ∧ y ≤ 16777216 ∧ av = .int .i64 x ∧ bv = .int .i64 y ∧ Drawn w wr ∧ Hid (Nat.gcd x y = Nat.gcd a b)) (fun _ bv _ => (intOf bv).toNat)
  case atStart => exact ⟨a, b, ha, hb, rfl, rfl, ⟨0, rfl⟩, Lib.hid rfl⟩
  case round =>
    obtain ⟨x, y, hx, hy, rfl, rfl, hdr, HG⟩ := hrel
    have HD := Lib.hid hdr; clear hdr
    by_cases h0 : y = 0
    · subst h0
      have HE : Hid (x = Nat.gcd a b) := Lib.hid (by rw [← HG.out, Nat.gcd_zero_right])
      go_wp2
      go_ret
      exact ⟨ret_int (by rw [← HE.out]), HD.out⟩
    · have hb0 : ((y : Int) != 0) = true := by simp; omega
      have hm : x % y < y := Nat.mod_lt _ (by omega)
      have e1 : (x : Int).tmod y = ((x % y : Nat) : Int) := by rw [← Int.ofNat_tmod]
      have NG : Hid (Nat.gcd y (x % y) = Nat.gcd a b) := Lib.hid (by rw [← HG.out, Nat.gcd_comm x y, Nat.gcd_rec y x, Nat.gcd_comm])
      generalize hz : x % y = z at *
      have hw := IntWalk.i64_in (z : Int) (by omega)
      go_wp2
      go_region
      go_wp2
      go_roundw
      case rel => exact ⟨y, z, by omega, by omega, rfl, by first | rfl | (congr 1), by first | exact HD.out | exact HD.out.more 1 | exact (HD.out.more 1).more 1, NG⟩
      case measure => simp [intOf]; omega


theorem slB_no {p q : Int} (h : ¬ (0 ≤ p ∧ 0 ≤ q ∧ p + q ≤ 12)) : slB p q = false := by
  cases e : slB p q
  · rfl
  · exact absurd (by have := slB_iff.1 e; exact ⟨this.1, this.2.1, this.2.2.1⟩) h
theorem slB_gcd {a b : Nat} (h : a + b ≤ 12) : slB a b = decide ((Nat.gcd a b : Int) = 1) := by
  unfold slB
  rw [decide_eq_true (show (0 : Int) ≤ a by omega), decide_eq_true (show (0 : Int) ≤ b by omega), decide_eq_true (show (a : Int) + b ≤ 12 by omega)]
  simp
  constructor <;> intro h <;> omega
theorem below_d {w w' : World} (h : Drawn w w') : Below w.heap.size w w' := h.below _


set_option maxHeartbeats 1000000 in
theorem so_spec (p q : Int) (w : World) (p0 : -9223372036854775808 ≤ p) (p1 : p ≤ 9223372036854775807) (q0 : -9223372036854775808 ≤ q) (q1 : q ≤ 9223372036854775807) :
    Calls Try.prog 56 #[.int .i64 p, .int .i64 q] w fun e w' => e = .returned (.bool (slB p q)) ∧ Below w.heap.size w w' := by
  go_enter Try.func56, Try.ntmps56
  by_cases h1 : p < 0 ∨ 12 < p
  · have HF := Lib.hid (slB_no (p := p) (q := q) (by omega))
    go_wp2_with fail
    refine (in_no p 0 12 _ h1).mono ?_
    rintro e w' ⟨rfl, rfl⟩
    go_wp2_with fail
    go_ret
    exact ⟨ret_bool HF.out.symm, Below.refl _ _⟩
  · go_wp2_with fail
    refine (in_yes p 0 12 _ (by omega) (by omega)).mono ?_
    rintro e w' ⟨rfl, rfl⟩
    by_cases h2 : q < 0 ∨ 12 < q
    · have HF := Lib.hid (slB_no (p := p) (q := q) (by omega))
      go_wp2_with fail
      refine (in_no q 0 12 _ h2).mono ?_
      rintro e w' ⟨rfl, rfl⟩
      go_wp2_with fail
      go_ret
      exact ⟨ret_bool HF.out.symm, Below.refl _ _⟩
    · go_wp2_with fail
      refine (in_yes q 0 12 _ (by omega) (by omega)).mono ?_
      rintro e w' ⟨rfl, rfl⟩
      obtain ⟨a, rfl⟩ := Int.eq_ofNat_of_zero_le (show 0 ≤ p by omega)
      obtain ⟨b, rfl⟩ := Int.eq_ofNat_of_zero_le (show 0 ≤ q by omega)
      have a12 : a ≤ 12 := by omega
      have b12 : b ≤ 12 := by omega
      clear h1 h2 p0 p1 q0 q1
      by_cases h3 : 12 < a + b
      · have HF := Lib.hid (slB_no (p := a) (q := b) (by omega))
        have hd : decide ((a : Int) + b ≤ 12) = false := by simp; omega
        go_wp2_with fail
        go_ret
        exact ⟨ret_bool HF.out.symm, Below.refl _ _⟩
      · have HF := Lib.hid (slB_gcd (a := a) (b := b) (by omega))
        have hd : decide ((a : Int) + b ≤ 12) = true := by simp; omega
        go_wp2_with fail
        refine (gcd_spec a b _ (by omega) (by omega)).mono ?_
        rintro e w2 ⟨rfl, dr⟩
        have DR := Lib.hid dr; clear dr
        generalize Nat.gcd a b = g at *
        go_wp2_with fail
        go_ret
        exact ⟨ret_bool (by rw [HF.out]; first | rfl | (cases hq : decide ((g : Int) = 1) <;> simp_all)), below_d DR.out⟩

set_option maxHeartbeats 1000000 in
theorem so_impl (p q : Int) (w : World) (p0 : -9223372036854775808 ≤ p) (p1 : p ≤ 9223372036854775807) (q0 : -9223372036854775808 ≤ q) (q1 : q ≤ 9223372036854775807) :
    Calls Try.prog 38 #[.int .i64 p, .int .i64 q] w fun e w' => e = .returned (.bool (slB p q)) ∧ Below w.heap.size w w' := by
  go_enter Try.func38, Try.ntmps38
  by_cases h1 : p < 0
  · have HF := Lib.hid (slB_no (p := p) (q := q) (by omega))
    have hd : decide (0 ≤ p) = false := by simp; omega
    go_wp2_with fail
    go_ret
    exact ⟨ret_bool HF.out.symm, Below.refl _ _⟩
  · have hd : decide (0 ≤ p) = true := by simp; omega
    by_cases h2 : q < 0
    · have HF := Lib.hid (slB_no (p := p) (q := q) (by omega))
      have hd2 : decide (0 ≤ q) = false := by simp; omega
      go_wp2_with fail
      go_ret
      exact ⟨ret_bool HF.out.symm, Below.refl _ _⟩
    · have hd2 : decide (0 ≤ q) = true := by simp; omega
      by_cases h3 : 12 < p + q
      · have HF := Lib.hid (slB_no (p := p) (q := q) (by omega))
        have hd3 : decide (p ≤ 12 - q) = false := by simp; omega
        go_wp2_with fail
        go_ret
        exact ⟨ret_bool HF.out.symm, Below.refl _ _⟩
      · have hd3 : decide (p ≤ 12 - q) = true := by simp; omega
        obtain ⟨a, rfl⟩ := Int.eq_ofNat_of_zero_le (show 0 ≤ p by omega)
        obtain ⟨b, rfl⟩ := Int.eq_ofNat_of_zero_le (show 0 ≤ q by omega)
        have HF := Lib.hid (slB_gcd (a := a) (b := b) (by omega))
        go_wp2_with fail
        refine (gcd_impl a b _ (by omega) (by omega)).mono ?_
        rintro e w2 ⟨rfl, dr⟩
        have DR := Lib.hid dr; clear dr
        generalize Nat.gcd a b = g at *
        go_wp2_with fail
        go_ret
        exact ⟨ret_bool (by rw [HF.out]; first | rfl | (cases hq : decide ((g : Int) = 1) <;> simp_all)), below_d DR.out⟩
end Go.Proofs.Ytkkklpchkkdhfaa.dr