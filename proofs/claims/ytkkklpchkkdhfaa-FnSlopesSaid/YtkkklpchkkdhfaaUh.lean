/-
  A drawn slope (MakeSlope of the model), at any place of the code.
-/
import Derived.Test.YtkkklpchkkdhfaaDb
import Derived.Test.YtkkklpchkkdhfaaMC
namespace Go.Proofs.Ytkkklpchkkdhfaa.dr
open Go.ChangeShapes Go.WideShapes Go.ChangeAt Go.RowKit
open Go.Proofs.Ytkkklpchkkdhfaa.mem Go.Proofs.Ytkkklpchkkdhfaa.ints Go.Proofs.Ytkkklpchkkdhfaa.arr Go.Proofs.Ytkkklpchkkdhfaa.pm Go.Proofs.Ytkkklpchkkdhfaa.permOk Go.Proofs.Ytkkklpchkkdhfaa.cur
set_option linter.unusedVariables false
set_option maxRecDepth 100000

theorem slope_of' {x y : Nat} (h : 0 < x + y) (hx : x ≤ 6) (hy : y ≤ 5) : ∃ g a b : Nat, Nat.gcd x y = g ∧ 0 < g ∧ (x : Int).tdiv g = a ∧ (y : Int).tdiv g = b ∧ a ≤ 6 ∧ b ≤ 5 ∧ slB a b = true := by
  have hg : 0 < Nat.gcd x y := Nat.gcd_pos_iff.2 (by omega)
  refine ⟨Nat.gcd x y, x / Nat.gcd x y, y / Nat.gcd x y, rfl, hg, by rw [← Int.ofNat_tdiv], by rw [← Int.ofNat_tdiv], Nat.le_trans (Nat.div_le_self _ _) hx, Nat.le_trans (Nat.div_le_self _ _) hy, ?_⟩
  refine slB_iff.2 ⟨Int.natCast_nonneg _, Int.natCast_nonneg _, ?_, ?_⟩
  · have h1 := Nat.le_trans (Nat.div_le_self x (Nat.gcd x y)) hx
    have h2 := Nat.le_trans (Nat.div_le_self y (Nat.gcd x y)) hy
    omega
  · rw [Int.toNat_natCast, Int.toNat_natCast, Nat.gcd_div (Nat.gcd_dvd_left x y) (Nat.gcd_dvd_right x y)]
    exact Nat.div_self hg
def SlP (w : World) (e : Ending) (w' : World) : Prop := ∃ a b : Nat, e = .returned (.tuple #[.int .i64 a, .int .i64 b]) ∧ a ≤ 6 ∧ b ≤ 5 ∧ slB a b = true ∧ Below w.heap.size w w'

set_option maxHeartbeats 1000000 in
theorem ms_k (k : Nat) (hk : k ≤ 1000) (w : World) (hi : Nat) (A : Option Addr) (n c : Nat) (l : List Int) (hc : cur.Code w hi A n l) :
    Calls Try.prog 11 #[.slice A n c, .int .i64 k] w (SlP w) := by
  have HC := Lib.hid hc; clear hc
  go_enter Try.func11, Try.ntmps11
  go_wp2_with fail
  refine (skip_any w hi A n c l k hk HC.out).mono ?_
  rintro e w1 ⟨g, hg, hlt, rfl, hcur, hb⟩
  have HCU := Lib.hid hcur; have HB := Lib.hid hb; clear hcur hb HC
  go_wp2_with fail
  refine (below_any w1 g A n c l 7 (by omega) (by omega) HCU.out).mono ?_
  rintro e w2 ⟨x, x0, x1, rfl, hcur, ho⟩
  replace HB := Lib.hid (HB.out.trans (ho.below hg HB.out.size))
  have HC2 := Lib.hid hcur; clear hcur ho HCU
  go_wp2_with fail
  refine (below_any w2 g A n c l 6 (by omega) (by omega) HC2.out).mono ?_
  rintro e w3 ⟨y, y0, y1, rfl, hcur, ho⟩
  replace HB := Lib.hid (HB.out.trans (ho.below hg HB.out.size))
  clear hcur ho HC2
  obtain ⟨X, rfl⟩ := Int.eq_ofNat_of_zero_le x0
  obtain ⟨Y, rfl⟩ := Int.eq_ofNat_of_zero_le y0
  have X6 : X ≤ 6 := by omega
  have Y5 : Y ≤ 5 := by omega
  clear x0 x1 y0 y1 hg hlt
  by_cases h0 : X + Y = 0
  · obtain rfl : X = 0 := by omega
    obtain rfl : Y = 0 := by omega
    go_wp2_with fail
    refine (gcd_spec 1 0 _ (by omega) (by omega)).mono ?_
    rintro e w4 ⟨rfl, dr⟩
    have B4 := Lib.hid (HB.out.trans ((dr.below w3.heap.size).mono HB.out.size)); clear dr
    rw [show Nat.gcd 1 0 = 1 from rfl]
    go_wp2
    go_region
    go_wp2
    go_ret2
    exact ⟨1, 0, rfl, by omega, by omega, by decide, B4.out.drew⟩
  · obtain ⟨G, a, b, eg, g0, ea, eb, a6, b5, hs⟩ := slope_of' (x := X) (y := Y) (by omega) X6 Y5
    have hd : (((X : Int) + (Y : Int)) == 0) = false := by rw [beq_eq_false_iff_ne]; omega
    have HS := Lib.hid hs; clear hs
    go_wp2_with fail
    refine (gcd_spec X Y _ (by omega) (by omega)).mono ?_
    rintro e w4 ⟨rfl, dr⟩
    have B4 := Lib.hid (HB.out.trans ((dr.below w3.heap.size).mono HB.out.size)); clear dr
    rw [eg]
    clear eg
    have hG : ¬ (G : Int) = 0 := by omega
    have hwa := IntWalk.i64_in (a : Int) (by omega); have hwb := IntWalk.i64_in (b : Int) (by omega)
    go_wp2
    go_region
    go_wp2
    go_ret2
    exact ⟨a, b, rfl, a6, b5, HS.out, B4.out.drew⟩
end Go.Proofs.Ytkkklpchkkdhfaa.dr
