/-
  FnBalls: at every argument the law FnBalls returns true, and its arguments read as before. No condition.
-/
import Derived.Test.YtajkfkpnjbkhhaaRows
import Derived.WalkKit
import Derived.ProofKit
import Derived.OpenShut
import Derived.ShutString
import Derived.ChangeOld
import Derived.Below
import Derived.Test.YtajkfkpnjbkhhaaYz
import Derived.Test.YtajkfkpnjbkhhaaYf
import Derived.Test.YtajkfkpnjbkhhaaYg
import Derived.Test.YtajkfkpnjbkhhaaYh
import Derived.Test.YtajkfkpnjbkhhaaMC
namespace Go.Proofs.Ytajkfkpnjbkhhaa.fnBalls
open Go.ChangeShapes Go.WideShapes Go.ChangeAt Go.RowKit
open Go.ChangeMaps (open_string shut_string)
open Go.Proofs.Ytajkfkpnjbkhhaa.mem Go.Proofs.Ytajkfkpnjbkhhaa.ints Go.Proofs.Ytajkfkpnjbkhhaa.arr Go.Proofs.Ytajkfkpnjbkhhaa.sf Go.Proofs.Ytajkfkpnjbkhhaa.pm Go.Proofs.Ytajkfkpnjbkhhaa.cur Go.Proofs.Ytajkfkpnjbkhhaa.bal
set_option linter.unusedVariables false
set_option maxRecDepth 100000

theorem own : ownKnob Try.prog.godebug = none := by kernel_rfl
theorem laidOut : laidOutB Try.prog = true := by kernel_rfl

set_option maxRecDepth 100000 in
set_option maxHeartbeats 8000000 in
theorem walk (w : World) (A : Option Addr) (n c : Nat) (l : List Int) (rd : Rd w w.heap.size A n (U l)) (cn : n ≤ c) (cm : c ≤ maxLen) (el : Bytes l) :
    Calls Try.prog 3 #[.slice A n c] w fun e w' => e = .returned (.bool true) ∧ Below w.heap.size w w' := by
  have RD := Lib.hid rd; have EL := Lib.hid el; clear rd el
  unfold maxLen at cm
  by_cases b0 : 1048576 < n
  · clear RD EL
    go_enter Try.func3, Try.ntmps3
    go_wp2_with fail
    go_ret
    exact ⟨rfl, Below.refl _ _⟩
  have hd0 : decide (1048576 < (n : Int)) = false := by simp; omega
  have HC := Lib.hid (cur.Code.mk RD.out EL.out (by omega)); clear RD EL
  have BB := Lib.hid (Below.refl w.heap.size w)
  go_enter Try.func3, Try.ntmps3
  go_wp2_with fail
  refine (mb_any _ w.heap.size A n c l (Nat.le_refl _) HC.out).mono ?_
  rintro e w1 ⟨a, b, x, rfl, a12, b12, hx, b1⟩
  replace BB := Lib.hid (BB.out.trans (b1.mono BB.out.size)); clear b1
  obtain ⟨m, hm⟩ := bp_ok hx
  have HM := Lib.hid hm; clear hm
  have HX := Lib.hid hx
  have ht := tb_nat hx
  have FA : Hid (mx.i64 (a : Int)) := Lib.hid ⟨by omega, by omega⟩
  have FB : Hid (mx.i64 (b : Int)) := Lib.hid ⟨by omega, by omega⟩
  have FX : Hid (mx.Fit x) := Lib.hid (by have s := sm_of hx; exact ⟨⟨by have := s.x0; omega, by have := s.x1; omega⟩, ⟨by have := s.y0; omega, by have := s.y1; omega⟩, ⟨by rcases s.dx with h | h <;> omega, by rcases s.dx with h | h <;> omega⟩, ⟨by rcases s.dy with h | h <;> omega, by rcases s.dy with h | h <;> omega⟩⟩)
  have a1 : 1 ≤ a := by omega
  have b1' : 1 ≤ b := by omega
  clear hx ht
  rw [bvV x]
  go_wp2_with (refine wpList_store_row rfl 24 _ _ rfl w1.heap.size (V (be x)).toArray rfl rfl 24 (V (be (0, 0, 0, 0))).toArray (Arr.new w1 (V (be (0, 0, 0, 0))) _ rfl) (sizeB x) rfl (one_V _) ?_; generalize hw_ : (w1.alloc (.cells #[.int .i64 0, .int .i64 0, .int .i64 0, .int .i64 0] 24)).setRow w1.heap.size (V (be x)).toArray = w2; have GX : Hid (Arr w2 w1.heap.size (V (be x)) 24) := Lib.hid (by rw [← hw_]; exact (Arr.new w1 (V (be (0, 0, 0, 0))) _ rfl).row); have b1 : Below w1.heap.size w1 w2 := (by rw [← hw_]; exact arr.below_setRow ((Below.refl _ _).alloc (Nat.le_refl _) _) (Nat.le_refl _) _); clear hw_; replace BB := Lib.hid (BB.out.trans (b1.mono BB.out.size)); clear b1; generalize hg_ : w1.heap.size = gx at *; clear hg_)
  refine (cur.num_any _ _ A n c l 40 (by omega) (HC.out.keep BB.out (Nat.le_refl _))).mono ?_
  rintro e w3 ⟨y, y0, y1, rfl, b1⟩
  replace GX := Lib.hid (GX.out.keep b1 GX.out.lt)
  replace BB := Lib.hid (BB.out.trans (b1.mono BB.out.size)); clear b1
  obtain ⟨K, hK⟩ := Int.eq_ofNat_of_zero_le (show 0 ≤ y.tmod 300 by rw [Int.tmod_eq_emod_of_nonneg y0]; exact Int.emod_nonneg _ (by omega))
  have hK3 : K < 300 := by have := Int.emod_lt_of_pos y (show (0 : Int) < 300 by omega); rw [← Int.tmod_eq_emod_of_nonneg y0, hK] at this; omega
  have hwz : IntKind.i64.wrap (y.tmod 300) = (K : Int) := by rw [hK]; exact IntWalk.i64_in _ (by omega)
  have FK : Hid (mx.i64 (K : Int)) := Lib.hid ⟨by omega, by omega⟩
  go_wp2_with (refine wpList_load_row rfl 24 (.tmp 5) rfl gx rfl 24 (V (be x)).toArray (0, 0) _ GX.out Try.underlying24 rfl (sizeB x) ?_)
  clear hK hwz y0 y1
  have AK : Hid (afB a b x (K : Int) = true) := Lib.hid (by unfold afB; rw [HX.out, decide_eq_true (by omega)]; rfl)
  have FKE : Hid (afF a b x (K : Int) = itB a b x K) := Lib.hid (by unfold afF; rw [if_pos AK.out, Int.toNat_natCast])
  rw [← bvV x]
  refine (af_impl a b x (K : Int) _ FA.out FB.out FX.out FK.out).mono ?_
  rintro e w4 ⟨rfl, b1⟩
  replace GX := Lib.hid (GX.out.keep b1 GX.out.lt)
  replace BB := Lib.hid (BB.out.trans (b1.mono BB.out.size)); clear b1
  rw [AK.out, FKE.out]
  have LY := Lib.hid (ln_it HX.out K)
  have PX := Lib.hid (phx_it HX.out K); have PY := Lib.hid (phy_it HX.out K)
  generalize itB a b x K = yb at *
  clear AK FKE
  rw [bvV yb]
  go_wp2_with (refine wpList_store_row rfl 24 _ _ rfl w4.heap.size (V (be yb)).toArray rfl rfl 24 (V (be (0, 0, 0, 0))).toArray (Arr.new w4 (V (be (0, 0, 0, 0))) _ rfl) (sizeB yb) rfl (one_V _) ?_; generalize hw_ : (w4.alloc (.cells #[.int .i64 0, .int .i64 0, .int .i64 0, .int .i64 0] 24)).setRow w4.heap.size (V (be yb)).toArray = w5; have GY : Hid (Arr w5 w4.heap.size (V (be yb)) 24) := Lib.hid (by rw [← hw_]; exact (Arr.new w4 (V (be (0, 0, 0, 0))) _ rfl).row); have b1 : Below w4.heap.size w4 w5 := (by rw [← hw_]; exact arr.below_setRow ((Below.refl _ _).alloc (Nat.le_refl _) _) (Nat.le_refl _) _); clear hw_; replace GX := Lib.hid (GX.out.keep b1 GX.out.lt); replace BB := Lib.hid (BB.out.trans (b1.mono BB.out.size)); clear b1; generalize hg_ : w4.heap.size = gy at *; clear hg_)
  refine (pe_impl a b _ (by omega) (by omega) (by omega) (by omega)).mono ?_
  rintro e w6 ⟨rfl, b1⟩
  replace GX := Lib.hid (GX.out.keep b1 GX.out.lt)
  replace GY := Lib.hid (GY.out.keep b1 GY.out.lt)
  replace BB := Lib.hid (BB.out.trans (b1.mono BB.out.size)); clear b1
  have hm5 := HM.out.le; have hm1 := HM.out.pos
  rw [HM.out.is]
  have FM : Hid (mx.i64 (m : Int)) := Lib.hid ⟨by omega, by omega⟩
  go_wp2_with (refine wpList_load_row rfl 24 (.tmp 5) rfl gx rfl 24 (V (be x)).toArray (0, 0) _ GX.out Try.underlying24 rfl (sizeB x) ?_)
  have AK : Hid (afB a b x (m : Int) = true) := Lib.hid (by unfold afB; rw [HX.out, decide_eq_true (by omega)]; rfl)
  have FKE : Hid (afF a b x (m : Int) = x) := Lib.hid (by unfold afF; rw [if_pos AK.out, Int.toNat_natCast, HM.out.back])
  rw [← bvV x]
  refine (af_impl a b x (m : Int) _ FA.out FB.out FX.out FM.out).mono ?_
  rintro e w7 ⟨rfl, b1⟩
  replace GX := Lib.hid (GX.out.keep b1 GX.out.lt)
  replace GY := Lib.hid (GY.out.keep b1 GY.out.lt)
  replace BB := Lib.hid (BB.out.trans (b1.mono BB.out.size)); clear b1
  rw [AK.out, FKE.out]
  clear AK FKE
  rw [bvV x]
  go_wp2_with (first | (refine wpList_store_row rfl 24 _ _ rfl w7.heap.size (V (be x)).toArray rfl rfl 24 (V (be (0, 0, 0, 0))).toArray (Arr.new w7 (V (be (0, 0, 0, 0))) _ rfl) (sizeB x) rfl (one_V _) ?_; generalize hw_ : (w7.alloc (.cells #[.int .i64 0, .int .i64 0, .int .i64 0, .int .i64 0] 24)).setRow w7.heap.size (V (be x)).toArray = w8; have GZ : Hid (Arr w8 w7.heap.size (V (be x)) 24) := Lib.hid (by rw [← hw_]; exact (Arr.new w7 (V (be (0, 0, 0, 0))) _ rfl).row); have b1 : Below w7.heap.size w7 w8 := (by rw [← hw_]; exact arr.below_setRow ((Below.refl _ _).alloc (Nat.le_refl _) _) (Nat.le_refl _) _); clear hw_; replace GX := Lib.hid (GX.out.keep b1 GX.out.lt); replace GY := Lib.hid (GY.out.keep b1 GY.out.lt); replace BB := Lib.hid (BB.out.trans (b1.mono BB.out.size)); clear b1; generalize hg_ : w7.heap.size = gz at *; clear hg_) | (refine wpList_load_row rfl 24 (.tmp 5) rfl gx rfl 24 (V (be x)).toArray (0, 0) _ GX.out Try.underlying24 rfl (sizeB x) ?_))
  rw [← bvV x]
  have BXE : Hid (boX a b x = (sdN a b x m : Int)) := Lib.hid (by unfold boX; rw [HX.out, HM.out.is, Int.toNat_natCast]; rfl)
  have BYE : Hid (boY a b x = (enN a b x m : Int)) := Lib.hid (by unfold boY; rw [HX.out, HM.out.is, Int.toNat_natCast]; rfl)
  refine (bo_impl a b x _ FA.out FB.out FX.out).mono ?_
  rintro e w9 ⟨rfl, b1⟩
  replace GX := Lib.hid (GX.out.keep b1 GX.out.lt)
  replace GY := Lib.hid (GY.out.keep b1 GY.out.lt)
  replace GZ := Lib.hid (GZ.out.keep b1 GZ.out.lt)
  replace BB := Lib.hid (BB.out.trans (b1.mono BB.out.size)); clear b1
  rw [BXE.out, BYE.out]
  have hsd := HM.out.sides; have hen := HM.out.ends
  have sdl := sdN_le a b x m; have enl := enN_le a b x m
  have HSD := Lib.hid hsd; have HEN := Lib.hid hen
  clear BXE BYE hsd hen
  generalize sdN a b x m = sd at *
  generalize enN a b x m = en at *
  go_wp2_with (refine wpList_load_row rfl 24 (.tmp 5) rfl gx rfl 24 (V (be x)).toArray (0, 0) _ GX.out Try.underlying24 rfl (sizeB x) ?_)
  rw [← bvV x]
  have SE : Hid (bsF a b x = stF a b x) := Lib.hid (by unfold bsF; rw [HX.out]; rfl)
  refine (bs_impl a b x _ FA.out FB.out FX.out).mono ?_
  rintro e w10 ⟨rfl, b1⟩
  replace GX := Lib.hid (GX.out.keep b1 GX.out.lt)
  replace GY := Lib.hid (GY.out.keep b1 GY.out.lt)
  replace GZ := Lib.hid (GZ.out.keep b1 GZ.out.lt)
  replace BB := Lib.hid (BB.out.trans (b1.mono BB.out.size)); clear b1
  rw [SE.out, HX.out]
  have AK : Hid (afB a b x 1 = true) := Lib.hid (by unfold afB; rw [HX.out, decide_eq_true (by omega)]; rfl)
  have FKE : Hid (afF a b x 1 = stF a b x) := Lib.hid (by unfold afF; rw [if_pos AK.out]; rfl)
  obtain ⟨s, hs⟩ : ∃ s, s = stF a b x := ⟨_, rfl⟩
  rw [← hs] at FKE ⊢
  clear hs SE
  rw [bvV s]
  go_wp2_with (first | (refine wpList_store_row rfl 24 _ _ rfl w10.heap.size (V (be s)).toArray rfl rfl 24 (V (be (0, 0, 0, 0))).toArray (Arr.new w10 (V (be (0, 0, 0, 0))) _ rfl) (sizeB s) rfl (one_V _) ?_; generalize hw_ : (w10.alloc (.cells #[.int .i64 0, .int .i64 0, .int .i64 0, .int .i64 0] 24)).setRow w10.heap.size (V (be s)).toArray = w11; have GS : Hid (Arr w11 w10.heap.size (V (be s)) 24) := Lib.hid (by rw [← hw_]; exact (Arr.new w10 (V (be (0, 0, 0, 0))) _ rfl).row); have b1 : Below w10.heap.size w10 w11 := (by rw [← hw_]; exact arr.below_setRow ((Below.refl _ _).alloc (Nat.le_refl _) _) (Nat.le_refl _) _); clear hw_; replace GX := Lib.hid (GX.out.keep b1 GX.out.lt); replace GY := Lib.hid (GY.out.keep b1 GY.out.lt); replace GZ := Lib.hid (GZ.out.keep b1 GZ.out.lt); replace BB := Lib.hid (BB.out.trans (b1.mono BB.out.size)); clear b1; generalize hg_ : w10.heap.size = gs at *; clear hg_) | (refine wpList_load_row rfl 24 (.tmp 5) rfl gx rfl 24 (V (be x)).toArray (0, 0) _ GX.out Try.underlying24 rfl (sizeB x) ?_))
  rw [← bvV x]
  refine (af_impl a b x 1 _ FA.out FB.out FX.out ⟨by omega, by omega⟩).mono ?_
  rintro e w12 ⟨rfl, b1⟩
  replace GX := Lib.hid (GX.out.keep b1 GX.out.lt)
  replace GY := Lib.hid (GY.out.keep b1 GY.out.lt)
  replace GZ := Lib.hid (GZ.out.keep b1 GZ.out.lt)
  replace GS := Lib.hid (GS.out.keep b1 GS.out.lt)
  replace BB := Lib.hid (BB.out.trans (b1.mono BB.out.size)); clear b1
  rw [AK.out, FKE.out]
  clear AK FKE
  rw [bvV s]
  go_wp2_with (first | (refine wpList_store_row rfl 24 _ _ rfl w12.heap.size (V (be s)).toArray rfl rfl 24 (V (be (0, 0, 0, 0))).toArray (Arr.new w12 (V (be (0, 0, 0, 0))) _ rfl) (sizeB s) rfl (one_V _) ?_; generalize hw_ : (w12.alloc (.cells #[.int .i64 0, .int .i64 0, .int .i64 0, .int .i64 0] 24)).setRow w12.heap.size (V (be s)).toArray = w13; have GT : Hid (Arr w13 w12.heap.size (V (be s)) 24) := Lib.hid (by rw [← hw_]; exact (Arr.new w12 (V (be (0, 0, 0, 0))) _ rfl).row); have b1 : Below w12.heap.size w12 w13 := (by rw [← hw_]; exact arr.below_setRow ((Below.refl _ _).alloc (Nat.le_refl _) _) (Nat.le_refl _) _); clear hw_; replace GX := Lib.hid (GX.out.keep b1 GX.out.lt); replace GY := Lib.hid (GY.out.keep b1 GY.out.lt); replace GZ := Lib.hid (GZ.out.keep b1 GZ.out.lt); replace GS := Lib.hid (GS.out.keep b1 GS.out.lt); replace BB := Lib.hid (BB.out.trans (b1.mono BB.out.size)); clear b1; generalize hg_ : w12.heap.size = gt at *; clear hg_) | (refine wpList_load_row rfl 24 (.tmp 5) rfl gx rfl 24 (V (be x)).toArray (0, 0) _ GX.out Try.underlying24 rfl (sizeB x) ?_))
  obtain ⟨P0, hP0⟩ : ∃ P, P = phN a x.1 x.2.2.1 := ⟨_, rfl⟩
  obtain ⟨Q0, hQ0⟩ : ∃ P, P = phN b x.2.1 x.2.2.2 := ⟨_, rfl⟩
  obtain ⟨P1, hP1⟩ : ∃ P, P = phN a yb.1 yb.2.2.1 := ⟨_, rfl⟩
  obtain ⟨Q1, hQ1⟩ : ∃ P, P = phN b yb.2.1 yb.2.2.2 := ⟨_, rfl⟩
  have HT := tb_nat HX.out
  have LX := (bl_iff.1 HX.out).2
  have p0 : Hid (phF a x.1 x.2.2.1 = (P0 : Int)) := Lib.hid (by rw [hP0]; exact ph_phF LX.1 a1 (by omega))
  have q0 : Hid (phF b x.2.1 x.2.2.2 = (Q0 : Int)) := Lib.hid (by rw [hQ0]; exact ph_phF LX.2 b1' (by omega))
  have p1 : Hid (phF a yb.1 yb.2.2.1 = (P1 : Int)) := Lib.hid (by rw [hP1]; exact ph_phF LY.out.1 a1 (by omega))
  have q1 : Hid (phF b yb.2.1 yb.2.2.2 = (Q1 : Int)) := Lib.hid (by rw [hQ1]; exact ph_phF LY.out.2 b1' (by omega))
  have lp0 : P0 < 2 * a := by rw [hP0]; exact ph_lt LX.1
  have lq0 : Q0 < 2 * b := by rw [hQ0]; exact ph_lt LX.2
  have ep : ((P0 : Int) + (K : Int)).tmod (2 * (a : Int)) = (P1 : Int) := by
    have h := PX.out
    rw [← hP0, ← hP1] at h
    rw [h, Int.tmod_eq_emod_of_nonneg (by omega)]
    simp
  have eq : ((Q0 : Int) + (K : Int)).tmod (2 * (b : Int)) = (Q1 : Int) := by
    have h := PY.out
    rw [← hQ0, ← hQ1] at h
    rw [h, Int.tmod_eq_emod_of_nonneg (by omega)]
    simp
  have lp1 : P1 < 2 * a := by rw [hP1]; exact ph_lt LY.out.1
  have lq1 : Q1 < 2 * b := by rw [hQ1]; exact ph_lt LY.out.2
  have wp : IntKind.i64.wrap ((P0 : Int) + (K : Int)) = (P0 : Int) + (K : Int) := IntWalk.i64_in _ (by omega)
  have wq : IntKind.i64.wrap ((Q0 : Int) + (K : Int)) = (Q0 : Int) + (K : Int) := IntWalk.i64_in _ (by omega)
  have wa2 : IntKind.i64.wrap (2 * (a : Int)) = 2 * (a : Int) := IntWalk.i64_in _ (by omega)
  have wb2 : IntKind.i64.wrap (2 * (b : Int)) = 2 * (b : Int) := IntWalk.i64_in _ (by omega)
  have wp1 : IntKind.i64.wrap (P1 : Int) = (P1 : Int) := IntWalk.i64_in _ (by omega)
  have wq1 : IntKind.i64.wrap (Q1 : Int) = (Q1 : Int) := IntWalk.i64_in _ (by omega)
  have za : ¬ (2 * (a : Int) = 0) := by omega
  have zb : ¬ (2 * (b : Int) = 0) := by omega
  have wm : IntKind.i64.wrap (m : Int) = (m : Int) := IntWalk.i64_in _ (by omega)
  have m0 : decide ((0 : Int) < (m : Int)) = true := decide_eq_true (by omega)
  have FY : Hid (mx.i64 yb.1 ∧ mx.i64 yb.2.2.1 ∧ mx.i64 yb.2.1 ∧ mx.i64 yb.2.2.2) := Lib.hid (by
    have c1 := ln_iff.1 LY.out.1; have c2 := ln_iff.1 LY.out.2
    unfold mx.i64; omega)
  clear hP0 hQ0 hP1 hQ1 HT LX PX PY LY HM
  refine wp_region_held_drew (S := Hld w13.heap.size w13.heap.size w13 [(gx, V (be x)), (gy, V (be yb)), (gz, V (be x)), (gs, V (be s)), (gt, V (be s))]) (by kernel_rfl) (start_allB (fun p hp => by simp only [List.mem_cons, List.not_mem_nil, or_false] at hp; rcases hp with rfl | rfl | rfl | rfl | rfl <;> first | exact ⟨_, GX.out⟩ | exact ⟨_, GY.out⟩ | exact ⟨_, GZ.out⟩ | exact ⟨_, GS.out⟩ | exact ⟨_, GT.out⟩)) (fun hHeld => ?_)
  have RGX : Hid (∀ W, Hld w13.heap.size w13.heap.size w13 [(gx, V (be x)), (gy, V (be yb)), (gz, V (be x)), (gs, V (be s)), (gt, V (be s))] W → W.rangeAt gx 0 (V (be x))) := Lib.hid (fun W h => (h.at_ (gx, V (be x)) (by simp)).2)
  have RGY : Hid (∀ W, Hld w13.heap.size w13.heap.size w13 [(gx, V (be x)), (gy, V (be yb)), (gz, V (be x)), (gs, V (be s)), (gt, V (be s))] W → W.rangeAt gy 0 (V (be yb))) := Lib.hid (fun W h => (h.at_ (gy, V (be yb)) (by simp)).2)
  have RGZ : Hid (∀ W, Hld w13.heap.size w13.heap.size w13 [(gx, V (be x)), (gy, V (be yb)), (gz, V (be x)), (gs, V (be s)), (gt, V (be s))] W → W.rangeAt gz 0 (V (be x))) := Lib.hid (fun W h => (h.at_ (gz, V (be x)) (by simp)).2)
  have RGS : Hid (∀ W, Hld w13.heap.size w13.heap.size w13 [(gx, V (be x)), (gy, V (be yb)), (gz, V (be x)), (gs, V (be s)), (gt, V (be s))] W → W.rangeAt gs 0 (V (be s))) := Lib.hid (fun W h => (h.at_ (gs, V (be s)) (by simp)).2)
  have RGT : Hid (∀ W, Hld w13.heap.size w13.heap.size w13 [(gx, V (be x)), (gy, V (be yb)), (gz, V (be x)), (gs, V (be s)), (gt, V (be s))] W → W.rangeAt gt 0 (V (be s))) := Lib.hid (fun W h => (h.at_ (gt, V (be s)) (by simp)).2)
  have b1 : Below w13.heap.size w13 w13.drew := ⟨rfl, rfl, rfl, Nat.le_refl _, fun _ _ => rfl⟩
  generalize w13.drew = v0 at *
  have s_0 := b1.size
  replace BB := Lib.hid (BB.out.trans (b1.mono BB.out.size)); clear b1
  clear GX GY GZ GS GT
  refine wpAnyH_take (i := 0) (v := .int .i64 (a : Int)) rfl (by kernel_rfl) (by kernel_rfl) (by kernel_rfl) (fun _ _ _ h => h) (Or.inl ⟨by kernel_rfl, fun w hSw => by go_simp⟩) hHeld ?_
  refine wpAnyH_take (i := 1) (v := .int .i64 (b : Int)) rfl (by kernel_rfl) (by kernel_rfl) (by kernel_rfl) (fun _ _ _ h => h) (Or.inl ⟨by kernel_rfl, fun w hSw => by go_simp⟩) hHeld ?_
  refine wpAnyH_take (i := 2) (v := .agg #[.int .i64 x.1, .int .i64 x.2.1, .int .i64 x.2.2.1, .int .i64 x.2.2.2]) rfl (by kernel_rfl) (by kernel_rfl) (by kernel_rfl) (fun _ _ _ h => h) (yieldsIf_load_mid (by kernel_rfl) 24 (.tmp 5) rfl gx 0 (by kernel_rfl) [.int .i64 x.1, .int .i64 x.2.1, .int .i64 x.2.2.1, .int .i64 x.2.2.2] _ (fun W h => RGX.out W h) Try.underlying24 rfl (by have := sizeB x; rwa [List.size_toArray] at this)) hHeld ?_
  refine wpAnyH_ready (rs := [3]) (by kernel_rfl) (by simp) (AllReadyH.cons rfl (fun K2 hK => ?_) AllReadyH.nil)
  go_simp
  refine (ok_impl a b x _ FA.out FB.out FX.out).mono ?_
  rintro e v1 ⟨rfl, b1⟩
  rw [HX.out]
  have s_1 := b1.size
  have hHeld2 := hHeld.later b1 (by have := hHeld.size; omega); clear hHeld
  replace BB := Lib.hid (BB.out.trans (b1.mono BB.out.size)); clear b1
  go_wp2_with fail
  refine hK.out _ _ hHeld2 (fun hHeld => ?_)
  clear hK K2 hHeld2
  refine wpAnyH_take (i := 4) (v := .bool true) rfl (by kernel_rfl) (by kernel_rfl) (by kernel_rfl) (fun _ _ _ h => h) (Or.inl ⟨by kernel_rfl, fun w hSw => by go_simp⟩) hHeld ?_
  refine wpAnyH_take (i := 5) (v := .bool true) rfl (by kernel_rfl) (by kernel_rfl) (by kernel_rfl) (fun _ _ _ h => h) (Or.inl ⟨by kernel_rfl, fun w hSw => by go_simp⟩) hHeld ?_
  refine wpAnyH_take (i := 6) (v := .bool true) rfl (by kernel_rfl) (by kernel_rfl) (by kernel_rfl) (fun _ _ _ h => h) (Or.inl ⟨by kernel_rfl, fun w hSw => by go_simp⟩) hHeld ?_
  refine wpAnyH_take (i := 7) (v := .bool true) rfl (by kernel_rfl) (by kernel_rfl) (by kernel_rfl) (fun _ _ _ h => h) (Or.inl ⟨by kernel_rfl, fun w hSw => by go_simp⟩) hHeld ?_
  refine wpAnyH_take (i := 8) (v := .bool true) rfl (by kernel_rfl) (by kernel_rfl) (by kernel_rfl) (fun _ _ _ h => h) (Or.inl ⟨by kernel_rfl, fun w hSw => by go_simp⟩) hHeld ?_
  refine wpAnyH_take (i := 9) (v := .bool true) rfl (by kernel_rfl) (by kernel_rfl) (by kernel_rfl) (fun _ _ _ h => h) (Or.inl ⟨by kernel_rfl, fun w hSw => by go_simp⟩) hHeld ?_
  dsimp only [List.append, List.getElem_toArray, List.getElem_cons_zero, List.getElem_cons_succ, Act.put]
  try simp only [List.setIfInBounds_toArray, List.set_cons_zero, List.set_cons_succ]
  refine wpAnyH_take (i := 10) (v := .bool true) rfl (by kernel_rfl) (by kernel_rfl) (by kernel_rfl) (fun _ _ _ h => h) (Or.inl ⟨by kernel_rfl, fun w hSw => by go_simp⟩) hHeld ?_
  refine wpAnyH_take (i := 11) (v := .bool true) rfl (by kernel_rfl) (by kernel_rfl) (by kernel_rfl) (fun _ _ _ h => h) (Or.inl ⟨by kernel_rfl, fun w hSw => by go_simp⟩) hHeld ?_
  refine wpAnyH_take (i := 12) (v := .bool true) rfl (by kernel_rfl) (by kernel_rfl) (by kernel_rfl) (fun _ _ _ h => h) (Or.inl ⟨by kernel_rfl, fun w hSw => by go_simp⟩) hHeld ?_
  refine wpAnyH_take (i := 13) (v := .bool true) rfl (by kernel_rfl) (by kernel_rfl) (by kernel_rfl) (fun _ _ _ h => h) (Or.inl ⟨by kernel_rfl, fun w hSw => by go_simp⟩) hHeld ?_
  refine wpAnyH_take (i := 14) (v := .bool true) rfl (by kernel_rfl) (by kernel_rfl) (by kernel_rfl) (fun _ _ _ h => h) (Or.inl ⟨by kernel_rfl, fun w hSw => by go_simp⟩) hHeld ?_
  refine wpAnyH_take (i := 15) (v := .bool true) rfl (by kernel_rfl) (by kernel_rfl) (by kernel_rfl) (fun _ _ _ h => h) (Or.inl ⟨by kernel_rfl, fun w hSw => by go_simp⟩) hHeld ?_
  refine wpAnyH_take (i := 16) (v := .bool true) rfl (by kernel_rfl) (by kernel_rfl) (by kernel_rfl) (fun _ _ _ h => h) (Or.inl ⟨by kernel_rfl, fun w hSw => by go_simp⟩) hHeld ?_
  dsimp only [List.append, List.getElem_toArray, List.getElem_cons_zero, List.getElem_cons_succ, Act.put]
  try simp only [List.setIfInBounds_toArray, List.set_cons_zero, List.set_cons_succ]
  refine wpAnyH_take (i := 17) (v := .agg #[.int .i64 s.1, .int .i64 s.2.1, .int .i64 s.2.2.1, .int .i64 s.2.2.2]) rfl (by kernel_rfl) (by kernel_rfl) (by kernel_rfl) (fun _ _ _ h => h) (yieldsIf_load_mid (by kernel_rfl) 24 (.tmp 14) rfl gs 0 (by kernel_rfl) [.int .i64 s.1, .int .i64 s.2.1, .int .i64 s.2.2.1, .int .i64 s.2.2.2] _ (fun W h => RGS.out W h) Try.underlying24 rfl (by have := sizeB s; rwa [List.size_toArray] at this)) hHeld ?_
  refine wpAnyH_take (i := 18) (v := .agg #[.int .i64 s.1, .int .i64 s.2.1, .int .i64 s.2.2.1, .int .i64 s.2.2.2]) rfl (by kernel_rfl) (by kernel_rfl) (by kernel_rfl) (fun _ _ _ h => h) (yieldsIf_load_mid (by kernel_rfl) 24 (.tmp 16) rfl gt 0 (by kernel_rfl) [.int .i64 s.1, .int .i64 s.2.1, .int .i64 s.2.2.1, .int .i64 s.2.2.2] _ (fun W h => RGT.out W h) Try.underlying24 rfl (by have := sizeB s; rwa [List.size_toArray] at this)) hHeld ?_
  refine wpAnyH_take (i := 19) (v := .bool true) rfl (by kernel_rfl) (by kernel_rfl) (by kernel_rfl) (fun _ _ _ h => h) (Or.inl ⟨by kernel_rfl, fun w hSw => by have e := eqSelf s w; unfold bv at e; have hm := eqgB; go_simp⟩) hHeld ?_
  dsimp only [List.append, List.getElem_toArray, List.getElem_cons_zero, List.getElem_cons_succ, Act.put]
  try simp only [List.setIfInBounds_toArray, List.set_cons_zero, List.set_cons_succ]
  refine wpAnyH_take (i := 20) (v := .bool true) rfl (by kernel_rfl) (by kernel_rfl) (by kernel_rfl) (fun _ _ _ h => h) (Or.inl ⟨by kernel_rfl, fun w hSw => by go_simp⟩) hHeld ?_
  refine wpAnyH_take (i := 21) (v := .bool true) rfl (by kernel_rfl) (by kernel_rfl) (by kernel_rfl) (fun _ _ _ h => h) (Or.inl ⟨by kernel_rfl, fun w hSw => by go_simp⟩) hHeld ?_
  refine wpAnyH_take (i := 22) (v := .agg #[.int .i64 x.1, .int .i64 x.2.1, .int .i64 x.2.2.1, .int .i64 x.2.2.2]) rfl (by kernel_rfl) (by kernel_rfl) (by kernel_rfl) (fun _ _ _ h => h) (yieldsIf_load_mid (by kernel_rfl) 24 (.tmp 10) rfl gz 0 (by kernel_rfl) [.int .i64 x.1, .int .i64 x.2.1, .int .i64 x.2.2.1, .int .i64 x.2.2.2] _ (fun W h => RGZ.out W h) Try.underlying24 rfl (by have := sizeB x; rwa [List.size_toArray] at this)) hHeld ?_
  refine wpAnyH_take (i := 23) (v := .agg #[.int .i64 x.1, .int .i64 x.2.1, .int .i64 x.2.2.1, .int .i64 x.2.2.2]) rfl (by kernel_rfl) (by kernel_rfl) (by kernel_rfl) (fun _ _ _ h => h) (yieldsIf_load_mid (by kernel_rfl) 24 (.tmp 5) rfl gx 0 (by kernel_rfl) [.int .i64 x.1, .int .i64 x.2.1, .int .i64 x.2.2.1, .int .i64 x.2.2.2] _ (fun W h => RGX.out W h) Try.underlying24 rfl (by have := sizeB x; rwa [List.size_toArray] at this)) hHeld ?_
  refine wpAnyH_take (i := 24) (v := .bool true) rfl (by kernel_rfl) (by kernel_rfl) (by kernel_rfl) (fun _ _ _ h => h) (Or.inl ⟨by kernel_rfl, fun w hSw => by have e := eqSelf x w; unfold bv at e; have hm := eqgB; go_simp⟩) hHeld ?_
  dsimp only [List.append, List.getElem_toArray, List.getElem_cons_zero, List.getElem_cons_succ, Act.put]
  try simp only [List.setIfInBounds_toArray, List.set_cons_zero, List.set_cons_succ]
  refine wpAnyH_take (i := 25) (v := .bool true) rfl (by kernel_rfl) (by kernel_rfl) (by kernel_rfl) (fun _ _ _ h => h) (Or.inl ⟨by kernel_rfl, fun w hSw => by go_simp⟩) hHeld ?_
  refine wpAnyH_take (i := 26) (v := .bool true) rfl (by kernel_rfl) (by kernel_rfl) (by kernel_rfl) (fun _ _ _ h => h) (Or.inl ⟨by kernel_rfl, fun w hSw => by go_simp⟩) hHeld ?_
  refine wpAnyH_take (i := 27) (v := .int .i64 (m : Int)) rfl (by kernel_rfl) (by kernel_rfl) (by kernel_rfl) (fun _ _ _ h => h) (Or.inl ⟨by kernel_rfl, fun w hSw => by go_simp⟩) hHeld ?_
  refine wpAnyH_take (i := 28) (v := .bool true) rfl (by kernel_rfl) (by kernel_rfl) (by kernel_rfl) (fun _ _ _ h => h) (Or.inl ⟨by kernel_rfl, fun w hSw => by have h0 : 0 < m := hm1; go_simp⟩) hHeld ?_
  refine wpAnyH_take (i := 29) (v := .bool true) rfl (by kernel_rfl) (by kernel_rfl) (by kernel_rfl) (fun _ _ _ h => h) (Or.inl ⟨by kernel_rfl, fun w hSw => by go_simp⟩) hHeld ?_
  refine wpAnyH_take (i := 30) (v := .bool true) rfl (by kernel_rfl) (by kernel_rfl) (by kernel_rfl) (fun _ _ _ h => h) (Or.inl ⟨by kernel_rfl, fun w hSw => by go_simp⟩) hHeld ?_
  refine wpAnyH_take (i := 31) (v := .int .i64 (sd : Int)) rfl (by kernel_rfl) (by kernel_rfl) (by kernel_rfl) (fun _ _ _ h => h) (Or.inl ⟨by kernel_rfl, fun w hSw => by go_simp⟩) hHeld ?_
  refine wpAnyH_take (i := 32) (v := .int .i64 (a : Int)) rfl (by kernel_rfl) (by kernel_rfl) (by kernel_rfl) (fun _ _ _ h => h) (Or.inl ⟨by kernel_rfl, fun w hSw => by go_simp⟩) hHeld ?_
  refine wpAnyH_take (i := 33) (v := .int .i64 (m : Int)) rfl (by kernel_rfl) (by kernel_rfl) (by kernel_rfl) (fun _ _ _ h => h) (Or.inl ⟨by kernel_rfl, fun w hSw => by have e := HSD.out; go_simp⟩) hHeld ?_
  refine wpAnyH_take (i := 34) (v := .int .i64 (m : Int)) rfl (by kernel_rfl) (by kernel_rfl) (by kernel_rfl) (fun _ _ _ h => h) (Or.inl ⟨by kernel_rfl, fun w hSw => by go_simp⟩) hHeld ?_
  refine wpAnyH_take (i := 35) (v := .bool true) rfl (by kernel_rfl) (by kernel_rfl) (by kernel_rfl) (fun _ _ _ h => h) (Or.inl ⟨by kernel_rfl, fun w hSw => by go_simp⟩) hHeld ?_
  refine wpAnyH_take (i := 36) (v := .bool true) rfl (by kernel_rfl) (by kernel_rfl) (by kernel_rfl) (fun _ _ _ h => h) (Or.inl ⟨by kernel_rfl, fun w hSw => by go_simp⟩) hHeld ?_
  refine wpAnyH_take (i := 37) (v := .bool true) rfl (by kernel_rfl) (by kernel_rfl) (by kernel_rfl) (fun _ _ _ h => h) (Or.inl ⟨by kernel_rfl, fun w hSw => by go_simp⟩) hHeld ?_
  refine wpAnyH_take (i := 38) (v := .int .i64 (en : Int)) rfl (by kernel_rfl) (by kernel_rfl) (by kernel_rfl) (fun _ _ _ h => h) (Or.inl ⟨by kernel_rfl, fun w hSw => by go_simp⟩) hHeld ?_
  refine wpAnyH_take (i := 39) (v := .int .i64 (b : Int)) rfl (by kernel_rfl) (by kernel_rfl) (by kernel_rfl) (fun _ _ _ h => h) (Or.inl ⟨by kernel_rfl, fun w hSw => by go_simp⟩) hHeld ?_
  refine wpAnyH_take (i := 40) (v := .int .i64 (m : Int)) rfl (by kernel_rfl) (by kernel_rfl) (by kernel_rfl) (fun _ _ _ h => h) (Or.inl ⟨by kernel_rfl, fun w hSw => by have e := HEN.out; go_simp⟩) hHeld ?_
  refine wpAnyH_take (i := 41) (v := .int .i64 (m : Int)) rfl (by kernel_rfl) (by kernel_rfl) (by kernel_rfl) (fun _ _ _ h => h) (Or.inl ⟨by kernel_rfl, fun w hSw => by go_simp⟩) hHeld ?_
  refine wpAnyH_take (i := 42) (v := .bool true) rfl (by kernel_rfl) (by kernel_rfl) (by kernel_rfl) (fun _ _ _ h => h) (Or.inl ⟨by kernel_rfl, fun w hSw => by go_simp⟩) hHeld ?_
  refine wpAnyH_take (i := 43) (v := .bool true) rfl (by kernel_rfl) (by kernel_rfl) (by kernel_rfl) (fun _ _ _ h => h) (Or.inl ⟨by kernel_rfl, fun w hSw => by go_simp⟩) hHeld ?_
  refine wpAnyH_take (i := 44) (v := .bool true) rfl (by kernel_rfl) (by kernel_rfl) (by kernel_rfl) (fun _ _ _ h => h) (Or.inl ⟨by kernel_rfl, fun w hSw => by go_simp⟩) hHeld ?_
  dsimp only [List.append, List.getElem_toArray, List.getElem_cons_zero, List.getElem_cons_succ, Act.put]
  try simp only [List.setIfInBounds_toArray, List.set_cons_zero, List.set_cons_succ]
  refine wpAnyH_take (i := 45) (v := .int .i64 (a : Int)) rfl (by kernel_rfl) (by kernel_rfl) (by kernel_rfl) (fun _ _ _ h => h) (Or.inl ⟨by kernel_rfl, fun w hSw => by go_simp⟩) hHeld ?_
  refine wpAnyH_take (i := 46) (v := .pointer (some ⟨gy, 0, none⟩)) rfl (by kernel_rfl) (by kernel_rfl) (by kernel_rfl) (fun _ _ _ h => h) (Or.inl ⟨by kernel_rfl, fun w hSw => by go_simp⟩) hHeld ?_
  refine wpAnyH_take (i := 47) (v := .int .i64 yb.1) rfl (by kernel_rfl) (by kernel_rfl) (by kernel_rfl) (fun _ _ _ h => h) (Or.inl ⟨by kernel_rfl, fun w hSw => by have hc := RGY.out _ hSw 0 (.int .i64 yb.1) rfl; go_simp⟩) hHeld ?_
  refine wpAnyH_take (i := 48) (v := .pointer (some ⟨gy, 2, none⟩)) rfl (by kernel_rfl) (by kernel_rfl) (by kernel_rfl) (fun _ _ _ h => h) (Or.inl ⟨by kernel_rfl, fun w hSw => by go_simp⟩) hHeld ?_
  refine wpAnyH_take (i := 49) (v := .int .i64 yb.2.2.1) rfl (by kernel_rfl) (by kernel_rfl) (by kernel_rfl) (fun _ _ _ h => h) (Or.inl ⟨by kernel_rfl, fun w hSw => by have hc := RGY.out _ hSw 2 (.int .i64 yb.2.2.1) rfl; go_simp⟩) hHeld ?_
  refine wpAnyH_take (i := 51) (v := .int .i64 (a : Int)) rfl (by kernel_rfl) (by kernel_rfl) (by kernel_rfl) (fun _ _ _ h => h) (Or.inl ⟨by kernel_rfl, fun w hSw => by go_simp⟩) hHeld ?_
  refine wpAnyH_take (i := 52) (v := .pointer (some ⟨gx, 0, none⟩)) rfl (by kernel_rfl) (by kernel_rfl) (by kernel_rfl) (fun _ _ _ h => h) (Or.inl ⟨by kernel_rfl, fun w hSw => by go_simp⟩) hHeld ?_
  refine wpAnyH_take (i := 53) (v := .int .i64 x.1) rfl (by kernel_rfl) (by kernel_rfl) (by kernel_rfl) (fun _ _ _ h => h) (Or.inl ⟨by kernel_rfl, fun w hSw => by have hc := RGX.out _ hSw 0 (.int .i64 x.1) rfl; go_simp⟩) hHeld ?_
  refine wpAnyH_take (i := 54) (v := .pointer (some ⟨gx, 2, none⟩)) rfl (by kernel_rfl) (by kernel_rfl) (by kernel_rfl) (fun _ _ _ h => h) (Or.inl ⟨by kernel_rfl, fun w hSw => by go_simp⟩) hHeld ?_
  refine wpAnyH_take (i := 55) (v := .int .i64 x.2.2.1) rfl (by kernel_rfl) (by kernel_rfl) (by kernel_rfl) (fun _ _ _ h => h) (Or.inl ⟨by kernel_rfl, fun w hSw => by have hc := RGX.out _ hSw 2 (.int .i64 x.2.2.1) rfl; go_simp⟩) hHeld ?_
  refine wpAnyH_take (i := 57) (v := .int .i64 (K : Int)) rfl (by kernel_rfl) (by kernel_rfl) (by kernel_rfl) (fun _ _ _ h => h) (Or.inl ⟨by kernel_rfl, fun w hSw => by go_simp⟩) hHeld ?_
  refine wpAnyH_take (i := 59) (v := .int .i64 (a : Int)) rfl (by kernel_rfl) (by kernel_rfl) (by kernel_rfl) (fun _ _ _ h => h) (Or.inl ⟨by kernel_rfl, fun w hSw => by go_simp⟩) hHeld ?_
  refine wpAnyH_take (i := 60) (v := .int .i64 (2 * (a : Int))) rfl (by kernel_rfl) (by kernel_rfl) (by kernel_rfl) (fun _ _ _ h => h) (Or.inl ⟨by kernel_rfl, fun w hSw => by go_simp⟩) hHeld ?_
  refine wpAnyH_ready (rs := [50]) (by kernel_rfl) (by simp) (AllReadyH.cons rfl (fun K2 hK => ?_) AllReadyH.nil)
  go_simp
  refine (ph_impl a yb.1 yb.2.2.1 _ (by omega) (by omega) FY.out.1.1 FY.out.1.2 FY.out.2.1.1 FY.out.2.1.2).mono ?_
  rintro e v2 ⟨rfl, b1⟩
  rw [p1.out]
  have s_2 := b1.size
  have hHeld2 := hHeld.later b1 (by have := hHeld.size; omega); clear hHeld
  replace BB := Lib.hid (BB.out.trans (b1.mono BB.out.size)); clear b1
  go_wp2_with fail
  refine hK.out _ _ hHeld2 (fun hHeld => ?_)
  clear hK K2 hHeld2
  refine wpAnyH_ready (rs := [56]) (by kernel_rfl) (by simp) (AllReadyH.cons rfl (fun K2 hK => ?_) AllReadyH.nil)
  go_simp
  refine (ph_impl a x.1 x.2.2.1 _ (by omega) (by omega) FX.out.1.1 FX.out.1.2 FX.out.2.2.1.1 FX.out.2.2.1.2).mono ?_
  rintro e v3 ⟨rfl, b1⟩
  rw [p0.out]
  have s_3 := b1.size
  have hHeld2 := hHeld.later b1 (by have := hHeld.size; omega); clear hHeld
  replace BB := Lib.hid (BB.out.trans (b1.mono BB.out.size)); clear b1
  go_wp2_with fail
  refine hK.out _ _ hHeld2 (fun hHeld => ?_)
  clear hK K2 hHeld2
  refine wpAnyH_take (i := 58) (v := .int .i64 ((P0 : Int) + (K : Int))) rfl (by kernel_rfl) (by kernel_rfl) (by kernel_rfl) (fun _ _ _ h => h) (Or.inl ⟨by kernel_rfl, fun w hSw => by go_simp⟩) hHeld ?_
  refine wpAnyH_take (i := 61) (v := .int .i64 (P1 : Int)) rfl (by kernel_rfl) (by kernel_rfl) (by kernel_rfl) (fun _ _ _ h => h) (Or.inl ⟨by kernel_rfl, fun w hSw => by go_simp⟩) hHeld ?_
  refine wpAnyH_take (i := 62) (v := .bool true) rfl (by kernel_rfl) (by kernel_rfl) (by kernel_rfl) (fun _ _ _ h => h) (Or.inl ⟨by kernel_rfl, fun w hSw => by go_simp⟩) hHeld ?_
  refine wpAnyH_take (i := 63) (v := .bool true) rfl (by kernel_rfl) (by kernel_rfl) (by kernel_rfl) (fun _ _ _ h => h) (Or.inl ⟨by kernel_rfl, fun w hSw => by go_simp⟩) hHeld ?_
  refine wpAnyH_take (i := 64) (v := .bool true) rfl (by kernel_rfl) (by kernel_rfl) (by kernel_rfl) (fun _ _ _ h => h) (Or.inl ⟨by kernel_rfl, fun w hSw => by go_simp⟩) hHeld ?_
  dsimp only [List.append, List.getElem_toArray, List.getElem_cons_zero, List.getElem_cons_succ, Act.put]
  try simp only [List.setIfInBounds_toArray, List.set_cons_zero, List.set_cons_succ]
  refine wpAnyH_take (i := 65) (v := .int .i64 (b : Int)) rfl (by kernel_rfl) (by kernel_rfl) (by kernel_rfl) (fun _ _ _ h => h) (Or.inl ⟨by kernel_rfl, fun w hSw => by go_simp⟩) hHeld ?_
  refine wpAnyH_take (i := 66) (v := .pointer (some ⟨gy, 1, none⟩)) rfl (by kernel_rfl) (by kernel_rfl) (by kernel_rfl) (fun _ _ _ h => h) (Or.inl ⟨by kernel_rfl, fun w hSw => by go_simp⟩) hHeld ?_
  refine wpAnyH_take (i := 67) (v := .int .i64 yb.2.1) rfl (by kernel_rfl) (by kernel_rfl) (by kernel_rfl) (fun _ _ _ h => h) (Or.inl ⟨by kernel_rfl, fun w hSw => by have hc := RGY.out _ hSw 1 (.int .i64 yb.2.1) rfl; go_simp⟩) hHeld ?_
  refine wpAnyH_take (i := 68) (v := .pointer (some ⟨gy, 3, none⟩)) rfl (by kernel_rfl) (by kernel_rfl) (by kernel_rfl) (fun _ _ _ h => h) (Or.inl ⟨by kernel_rfl, fun w hSw => by go_simp⟩) hHeld ?_
  refine wpAnyH_take (i := 69) (v := .int .i64 yb.2.2.2) rfl (by kernel_rfl) (by kernel_rfl) (by kernel_rfl) (fun _ _ _ h => h) (Or.inl ⟨by kernel_rfl, fun w hSw => by have hc := RGY.out _ hSw 3 (.int .i64 yb.2.2.2) rfl; go_simp⟩) hHeld ?_
  refine wpAnyH_take (i := 71) (v := .int .i64 (b : Int)) rfl (by kernel_rfl) (by kernel_rfl) (by kernel_rfl) (fun _ _ _ h => h) (Or.inl ⟨by kernel_rfl, fun w hSw => by go_simp⟩) hHeld ?_
  refine wpAnyH_take (i := 72) (v := .pointer (some ⟨gx, 1, none⟩)) rfl (by kernel_rfl) (by kernel_rfl) (by kernel_rfl) (fun _ _ _ h => h) (Or.inl ⟨by kernel_rfl, fun w hSw => by go_simp⟩) hHeld ?_
  refine wpAnyH_take (i := 73) (v := .int .i64 x.2.1) rfl (by kernel_rfl) (by kernel_rfl) (by kernel_rfl) (fun _ _ _ h => h) (Or.inl ⟨by kernel_rfl, fun w hSw => by have hc := RGX.out _ hSw 1 (.int .i64 x.2.1) rfl; go_simp⟩) hHeld ?_
  refine wpAnyH_take (i := 74) (v := .pointer (some ⟨gx, 3, none⟩)) rfl (by kernel_rfl) (by kernel_rfl) (by kernel_rfl) (fun _ _ _ h => h) (Or.inl ⟨by kernel_rfl, fun w hSw => by go_simp⟩) hHeld ?_
  refine wpAnyH_take (i := 75) (v := .int .i64 x.2.2.2) rfl (by kernel_rfl) (by kernel_rfl) (by kernel_rfl) (fun _ _ _ h => h) (Or.inl ⟨by kernel_rfl, fun w hSw => by have hc := RGX.out _ hSw 3 (.int .i64 x.2.2.2) rfl; go_simp⟩) hHeld ?_
  refine wpAnyH_take (i := 77) (v := .int .i64 (K : Int)) rfl (by kernel_rfl) (by kernel_rfl) (by kernel_rfl) (fun _ _ _ h => h) (Or.inl ⟨by kernel_rfl, fun w hSw => by go_simp⟩) hHeld ?_
  refine wpAnyH_take (i := 79) (v := .int .i64 (b : Int)) rfl (by kernel_rfl) (by kernel_rfl) (by kernel_rfl) (fun _ _ _ h => h) (Or.inl ⟨by kernel_rfl, fun w hSw => by go_simp⟩) hHeld ?_
  refine wpAnyH_take (i := 80) (v := .int .i64 (2 * (b : Int))) rfl (by kernel_rfl) (by kernel_rfl) (by kernel_rfl) (fun _ _ _ h => h) (Or.inl ⟨by kernel_rfl, fun w hSw => by go_simp⟩) hHeld ?_
  refine wpAnyH_ready (rs := [70]) (by kernel_rfl) (by simp) (AllReadyH.cons rfl (fun K2 hK => ?_) AllReadyH.nil)
  go_simp
  refine (ph_impl b yb.2.1 yb.2.2.2 _ (by omega) (by omega) FY.out.2.2.1.1 FY.out.2.2.1.2 FY.out.2.2.2.1 FY.out.2.2.2.2).mono ?_
  rintro e v4 ⟨rfl, b1⟩
  rw [q1.out]
  have s_4 := b1.size
  have hHeld2 := hHeld.later b1 (by have := hHeld.size; omega); clear hHeld
  replace BB := Lib.hid (BB.out.trans (b1.mono BB.out.size)); clear b1
  go_wp2_with fail
  refine hK.out _ _ hHeld2 (fun hHeld => ?_)
  clear hK K2 hHeld2
  refine wpAnyH_ready (rs := [76]) (by kernel_rfl) (by simp) (AllReadyH.cons rfl (fun K2 hK => ?_) AllReadyH.nil)
  go_simp
  refine (ph_impl b x.2.1 x.2.2.2 _ (by omega) (by omega) FX.out.2.1.1 FX.out.2.1.2 FX.out.2.2.2.1 FX.out.2.2.2.2).mono ?_
  rintro e v5 ⟨rfl, b1⟩
  rw [q0.out]
  have s_5 := b1.size
  have hHeld2 := hHeld.later b1 (by have := hHeld.size; omega); clear hHeld
  replace BB := Lib.hid (BB.out.trans (b1.mono BB.out.size)); clear b1
  go_wp2_with fail
  refine hK.out _ _ hHeld2 (fun hHeld => ?_)
  clear hK K2 hHeld2
  refine wpAnyH_take (i := 78) (v := .int .i64 ((Q0 : Int) + (K : Int))) rfl (by kernel_rfl) (by kernel_rfl) (by kernel_rfl) (fun _ _ _ h => h) (Or.inl ⟨by kernel_rfl, fun w hSw => by go_simp⟩) hHeld ?_
  refine wpAnyH_take (i := 81) (v := .int .i64 (Q1 : Int)) rfl (by kernel_rfl) (by kernel_rfl) (by kernel_rfl) (fun _ _ _ h => h) (Or.inl ⟨by kernel_rfl, fun w hSw => by go_simp⟩) hHeld ?_
  refine wpAnyH_take (i := 82) (v := .bool true) rfl (by kernel_rfl) (by kernel_rfl) (by kernel_rfl) (fun _ _ _ h => h) (Or.inl ⟨by kernel_rfl, fun w hSw => by go_simp⟩) hHeld ?_
  refine wpAnyH_take (i := 83) (v := .bool true) rfl (by kernel_rfl) (by kernel_rfl) (by kernel_rfl) (fun _ _ _ h => h) (Or.inl ⟨by kernel_rfl, fun w hSw => by go_simp⟩) hHeld ?_
  dsimp only [List.append, List.getElem_toArray, List.getElem_cons_zero, List.getElem_cons_succ, Act.put]
  try simp only [List.setIfInBounds_toArray, List.set_cons_zero, List.set_cons_succ]
  refine wpAnyH_take (i := 84) (v := .bool true) rfl (by kernel_rfl) (by kernel_rfl) (by kernel_rfl) (fun _ _ _ h => h) (Or.inl ⟨by kernel_rfl, fun w hSw => by go_simp⟩) hHeld ?_
  refine wpAnyH_done (by kernel_rfl) ?_ _
  dsimp only [List.append, List.getElem_toArray, List.getElem_cons_zero, List.getElem_cons_succ, Act.put]
  try simp only [List.setIfInBounds_toArray, List.set_cons_zero, List.set_cons_succ]
  go_wp2_with fail
  go_ret
  refine ⟨?_, BB.out⟩
  first | (go_simp; done) | (simp; done) | rfl

set_option maxRecDepth 100000 in
theorem lifted (os : Os) (started : os.Started) (H : Type) (enc : TypeId × Value → H) :
    ReturnsInHanded {} Try.checked os 3 .any (Rows.fnBallsSpec.pre6 enc Try.prog Try.f3 Rows.fnBallsRow.domain false) (Rows.fnBallsSpec.post enc Try.prog Try.f3 false true false false) := by
  refine returnsInHanded_of_change (C := Try.checked) own started (by kernel_rfl) Try.func3
    (ChangeSpec.witness6 (enc := enc) (C := Try.checked) false ⟨#[], #[.slice none 0 0], []⟩ 8 (by kernel_rfl) (by kernel_rfl) (by kernel_rfl) (by kernel_rfl)) ?_
  intro W base args ds gs before hval0 hW hcnd _
  have hval : ∀ (j : Nat) t v, Try.f3.params[j]? = some t → args[j]? = some v → Value.okWide Try.prog W .any base t v := hval0
  have hW' := hW
  obtain ⟨p, q, hA0, hV, rfl, hfz, hnd⟩ := hW
  have hA : DataW.TrodAll enc Try.prog W 0 (fun _ => true) true Try.f3.params.toList args.toList ds p := hA0
  rw [Try.params3] at hA hval
  obtain ⟨v0, vs0, d0, ds0, p0, q0, hargs, rfl, rfl, h0, r0⟩ := trodAll_cons hA
  obtain ⟨rfl, rfl, rfl⟩ := trodAll_nil r0
  obtain rfl : args = #[v0] := by cases args; simp_all
  obtain ⟨rfl, rfl⟩ := trodVars_none hV
  obtain ⟨A0, n0, c0, rfl⟩ := okWide_slice Try.underlying22 (hval 0 22 v0 rfl rfl)
  have lt0 : ∀ x ∈ p0, x.block < W.heap.size := by obtain ⟨m, hm⟩ := h0; exact DataW.trod_lt m _ _ _ hm
  obtain ⟨x0, rd0, cn0, cm0, el0⟩ := open_B Try.underlying22 Try.underlying5 (by kernel_rfl) h0
  clear hA0 hval0
  refine (walk (w := W) A0 n0 c0 x0 rd0 cn0 cm0 el0).mono fun e W' ⟨he, bel⟩ => ?_
  subst he
  exact ⟨_, rfl, _, _, _, [], _, [], hW', trodAll_mk1 (shut_bool Try.underlying4 _), (trodAll_cons_mk (Below.trod laidOut (by kernel_rfl) (of_decide_eq_true (by kernel_rfl)) h0 bel lt0) trodAll_mk0), rfl, bel.frame _, fun h => by cases h⟩

theorem over : Rows.fnBallsRow.holds Try.pinned (OpenSpec.ofChange Rows.fnBallsSpec) :=
  OpenClaim.holds_of_wide 3 Try.f3 rfl rfl rfl rfl rfl rfl rfl ⟨rfl, rfl, rfl, rfl, rfl⟩ rfl rfl rfl rfl rfl (by kernel_rfl) Try.func3 (by kernel_rfl)
    (of_decide_eq_true (by kernel_rfl)) (by unfold Func.isWrapper; first | (rw [if_pos (by decide +kernel)]; kernel_rfl) | (rw [if_neg (by decide +kernel)]; exact ⟨rfl, rfl⟩))
    (fun os started H enc _ => lifted os started H enc)

theorem proved : Rows.FnBallsSaid :=
  over
#print axioms proved
end Go.Proofs.Ytajkfkpnjbkhhaa.fnBalls
