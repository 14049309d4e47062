/-
  FnDirections: at every argument the law FnDirections returns true, and its arguments read as before. The listed package variable holds what the program text lays, as the card ties it to the pruned copy of the project.
-/
import Derived.Test.YtpbbfbpggedgpaaDoorRows
import Derived.Test.YtpbbfbpggedgpaaDoorY05
import Derived.WalkKit
import Derived.ProofKit
import Derived.OpenShut
import Derived.ShutString
import Derived.ChangeOld
import Derived.Below
import Derived.OpenVars
import Derived.Test.YtpbbfbpggedgpaaDoorY12
import Derived.Test.YtpbbfbpggedgpaaDoorY18
import Derived.Test.YtpbbfbpggedgpaaDoorY15
import Derived.Test.YtpbbfbpggedgpaaDoorY14
import Derived.Test.YtpbbfbpggedgpaaDoorY21
import Derived.Test.YtpbbfbpggedgpaaDoorY22
import Derived.Test.YtpbbfbpggedgpaaDoorY11
namespace Go.Proofs.YtpbbfbpggedgpaaDoor.fnDirections
open Go.ChangeShapes Go.WideShapes Go.ChangeAt Go.RowKit
open Go.ChangeMaps (open_string shut_string)
open Go.Proofs.YtpbbfbpggedgpaaDoor.mem Go.Proofs.YtpbbfbpggedgpaaDoor.ints Go.Proofs.YtpbbfbpggedgpaaDoor.arr Go.Proofs.YtpbbfbpggedgpaaDoor.sf Go.Proofs.YtpbbfbpggedgpaaDoor.pm Go.Proofs.YtpbbfbpggedgpaaDoor.permOk Go.Proofs.YtpbbfbpggedgpaaDoor.fns Go.Proofs.YtpbbfbpggedgpaaDoor.mat Go.Proofs.YtpbbfbpggedgpaaDoor.gl Go.Proofs.YtpbbfbpggedgpaaDoor.cur Go.Proofs.YtpbbfbpggedgpaaDoor.cy Go.Proofs.YtpbbfbpggedgpaaDoor.wd Go.Proofs.YtpbbfbpggedgpaaDoor.rw Go.Proofs.YtpbbfbpggedgpaaDoor.mx Go.Proofs.YtpbbfbpggedgpaaDoor.doorM Go.Proofs.YtpbbfbpggedgpaaDoor.dr
set_option linter.unusedVariables false
set_option maxRecDepth 100000

theorem sizeMx : (Tryd.prog.info? 31).map (·.size) = some 4 := by kernel_rfl

set_option maxRecDepth 100000 in
set_option maxHeartbeats 16000000 in
theorem walk (w : World) (A : Option Addr) (n c : Nat) (l : List Int) (rd : Rd w w.heap.size A n (U l)) (cn : n ≤ c) (cm : c ≤ maxLen) (el : Bytes l) (tab : Pow w) :
    Calls Tryd.prog 3 #[.slice A n c] w fun e w' => e = .returned (.bool true) ∧ Below w.heap.size w w' := by
  have RD := Lib.hid rd; have EL := Lib.hid el; have TAB := Lib.hid tab; clear rd el tab
  unfold maxLen at cm
  by_cases b0 : 1048576 < n
  · clear RD EL TAB
    go_enter Tryd.func3, Tryd.ntmps3
    go_wp2_with fail
    go_ret
    exact ⟨rfl, Below.refl _ _⟩
  have hd0 : decide (1048576 < (n : Int)) = false := by simp; omega
  have HC := Lib.hid (cur.Code.mk RD.out EL.out (by omega)); clear RD EL
  go_enter Tryd.func3, Tryd.ntmps3
  go_wp2_with fail
  refine (mk.make_any _ _ A n c l HC.out).mono ?_
  rintro e w1 ⟨v, r, u, N, hN, sf, rfl, sv, b1⟩
  have SFs := Lib.hid sf; clear sf
  obtain ⟨Ps, cs, Qs, ds, rfl⟩ := sv.lens SFs.out.lr SFs.out.lu
  have HT : Hid (transB r u = true) := Lib.hid (transB_iff.2 (by rw [SFs.out.lr]; exact SFs.out))
  have LR : Hid (r.length = N) := Lib.hid SFs.out.lr
  have SV := Lib.hid sv
  have BB := Lib.hid b1
  have s1 := b1.size
  replace TAB := Lib.hid (TAB.out.keep b1 TAB.out.lt)
  clear sv b1
  go_wp2_with (refine wpList_store_row rfl 25 _ _ rfl w1.heap.size #[.slice Ps N cs, .slice Qs N ds] rfl rfl 25 #[.slice none 0 0, .slice none 0 0] (Arr.new w1 [.slice none 0 0, .slice none 0 0] _ rfl) size2 rfl (by simp [Value.oneCell']) ?_; generalize hw : (w1.alloc (.cells #[.slice none 0 0, .slice none 0 0] 25)).setRow w1.heap.size #[.slice Ps N cs, .slice Qs N ds] = w2; have BX : Hid (Arr w2 w1.heap.size [.slice Ps N cs, .slice Qs N ds] 25) := Lib.hid (by rw [← hw]; exact (Arr.new w1 [.slice none 0 0, .slice none 0 0] _ rfl).row); have b1 : Below w1.heap.size w1 w2 := (by rw [← hw]; exact below_setRow ((Below.refl _ _).alloc (Nat.le_refl _) _) (Nat.le_refl _) _); have t_w2 : w1.heap.size + 1 ≤ w2.heap.size := (by rw [← hw]; simp); clear hw; replace SV := Lib.hid (SV.out.keep b1 SV.out.top); replace TAB := Lib.hid (TAB.out.keep b1 TAB.out.lt); replace BB := Lib.hid (BB.out.trans (b1.mono BB.out.size)); clear b1)
  refine (ms_any _ _ A n c l (HC.out.keep BB.out HC.out.rd.2.1)).mono ?_
  rintro e w3 ⟨a, b, rfl, a6, b5, hs, b1⟩
  replace SV := Lib.hid (SV.out.keep b1 SV.out.top)
  replace BX := Lib.hid (BX.out.keep b1 BX.out.lt)
  replace TAB := Lib.hid (TAB.out.keep b1 TAB.out.lt)
  replace BB := Lib.hid (BB.out.trans (b1.mono BB.out.size))
  clear b1 HC
  have HG : Hid (a + b ≤ 12 ∧ Nat.gcd a b = 1) := Lib.hid (by obtain ⟨a', b', e1, e2, e3, e4, _⟩ := slB_nat hs; have h1 : a = a' := (by omega); have h2 : b = b' := (by omega); rw [h1, h2]; exact ⟨e3, e4⟩)
  have HSL := Lib.hid hs
  have HW := Lib.hid (dwF_yes hs)
  have HB := Lib.hid (ppB_yes HT.out hs)
  have WK := Lib.hid (dw_wok HG.out.1 HG.out.2)
  have RB := Lib.hid (rwB_yes HT.out WK.out)
  have RUN := Lib.hid (run_sf SFs.out (dwL a b))
  have RY := Lib.hid (rw_yes RB.out)
  have CY : Hid (ciF r u a b = cyF (runS (dwL a b) (r, u)).1 (runS (dwL a b) (r, u)).2) := Lib.hid (ciF_yes HB.out)
  have PY : Hid (ppF r u a b = (runS (dwL a b) (r, u)).1) := Lib.hid (by rw [ppF_yes HT.out hs, LR.out, dw_rows SFs.out HG.out.1 HG.out.2])
  have hws : (wd (dwL a b)).size ≤ 1048576 := by have := wok_len WK.out; omega
  obtain ⟨A1, B1, C1, D1, hM, mA, mB, mC, mD, eq1, eq0⟩ := mat_ok HG.out.1 HG.out.2
  have MT : Hid (mt.mtF (wd (dwL a b)) = (A1, B1, C1, D1)) := Lib.hid (by rw [mt.mt_yes WK.out]; exact hM)
  have IO : Hid (ioF r u a b = (ppB r u a b && decide ((ciF r u a b).length = 1))) := Lib.hid rfl
  clear hM hs
  rw [show (wd (dwL a b)).data.toList = dwL a b from rfl] at RY
  generalize runS (dwL a b) (r, u) = X at *
  obtain ⟨R3, U3⟩ := X
  dsimp only at RUN RY CY PY
  have FC := Lib.hid (fc_ok RUN.out.1)
  have ROW := Lib.hid (rowF_yes RUN.out.1)
  rw [CY.out, HB.out] at IO
  go_wp2_with fail
  refine (dw_impl a b _ (by omega) (by omega) (by omega) (by omega)).mono ?_
  rintro e w4 ⟨rfl, b1⟩
  rw [HW.out]
  replace SV := Lib.hid (SV.out.keep b1 SV.out.top)
  replace BX := Lib.hid (BX.out.keep b1 BX.out.lt)
  replace TAB := Lib.hid (TAB.out.keep b1 TAB.out.lt)
  replace BB := Lib.hid (BB.out.trans (b1.mono BB.out.size))
  clear b1
  generalize wd (dwL a b) = S at *
  go_wp2_with fail
  refine (mt.mt_impl S _ hws TAB.out).mono ?_
  rintro e w5 ⟨rfl, b1⟩
  rw [MT.out, WK.out]
  replace SV := Lib.hid (SV.out.keep b1 SV.out.top)
  replace BX := Lib.hid (BX.out.keep b1 BX.out.lt)
  replace TAB := Lib.hid (TAB.out.keep b1 TAB.out.lt)
  replace BB := Lib.hid (BB.out.trans (b1.mono BB.out.size))
  clear b1 TAB
  dsimp only [mv]
  go_wp2_with (refine wpList_store_row rfl 31 _ _ rfl w5.heap.size #[.int .i64 A1, .int .i64 B1, .int .i64 C1, .int .i64 D1] rfl rfl 31 #[.int .i64 0, .int .i64 0, .int .i64 0, .int .i64 0] (Arr.new w5 [.int .i64 0, .int .i64 0, .int .i64 0, .int .i64 0] _ rfl) sizeMx rfl (by simp [Value.oneCell']) ?_; generalize hw : (w5.alloc (.cells #[.int .i64 0, .int .i64 0, .int .i64 0, .int .i64 0] 31)).setRow w5.heap.size #[.int .i64 A1, .int .i64 B1, .int .i64 C1, .int .i64 D1] = w6; have BM : Hid (Arr w6 w5.heap.size [.int .i64 A1, .int .i64 B1, .int .i64 C1, .int .i64 D1] 31) := Lib.hid (by rw [← hw]; exact (Arr.new w5 [.int .i64 0, .int .i64 0, .int .i64 0, .int .i64 0] _ rfl).row); have b1 : Below w5.heap.size w5 w6 := (by rw [← hw]; exact below_setRow ((Below.refl _ _).alloc (Nat.le_refl _) _) (Nat.le_refl _) _); have t_w6 : w5.heap.size + 1 ≤ w6.heap.size := (by rw [← hw]; simp); clear hw; replace SV := Lib.hid (SV.out.keep b1 SV.out.top); replace BX := Lib.hid (BX.out.keep b1 BX.out.lt); replace BB := Lib.hid (BB.out.trans (b1.mono BB.out.size)); clear b1; have x0 := BX.out.cell (k := 0) rfl; have x1 := BX.out.cell (k := 1) rfl)
  refine (rw.rw_impl _ r u S _ _ SV.out.rd (by rw [LR.out]; omega) (by rw [SFs.out.lu]; omega) hws).mono ?_
  rintro e w7 ⟨g, rfl, sx, b1⟩
  rw [RB.out]
  rw [RY.out.1, RY.out.2] at sx
  obtain ⟨Px, cx, Qx, dx, rfl⟩ := sx.lens RUN.out.2.1 RUN.out.2.2
  have SX := Lib.hid sx; clear sx
  clear x0 x1
  replace SV := Lib.hid (SV.out.keep b1 SV.out.top)
  replace BX := Lib.hid (BX.out.keep b1 BX.out.lt)
  replace BM := Lib.hid (BM.out.keep b1 BM.out.lt)
  replace BB := Lib.hid (BB.out.trans (b1.mono BB.out.size))
  clear b1
  go_wp2_with (refine wpList_store_row rfl 25 _ _ rfl w7.heap.size #[.slice Px N cx, .slice Qx N dx] rfl rfl 25 #[.slice none 0 0, .slice none 0 0] (Arr.new w7 [.slice none 0 0, .slice none 0 0] _ rfl) size2 rfl (by simp [Value.oneCell']) ?_; generalize hw : (w7.alloc (.cells #[.slice none 0 0, .slice none 0 0] 25)).setRow w7.heap.size #[.slice Px N cx, .slice Qx N dx] = w8; have BY : Hid (Arr w8 w7.heap.size [.slice Px N cx, .slice Qx N dx] 25) := Lib.hid (by rw [← hw]; exact (Arr.new w7 [.slice none 0 0, .slice none 0 0] _ rfl).row); have b1 : Below w7.heap.size w7 w8 := (by rw [← hw]; exact below_setRow ((Below.refl _ _).alloc (Nat.le_refl _) _) (Nat.le_refl _) _); have t_w8 : w7.heap.size + 1 ≤ w8.heap.size := (by rw [← hw]; simp); clear hw; replace SV := Lib.hid (SV.out.keep b1 SV.out.top); replace SX := Lib.hid (SX.out.keep b1 SX.out.top); replace BX := Lib.hid (BX.out.keep b1 BX.out.lt); replace BM := Lib.hid (BM.out.keep b1 BM.out.lt); replace BB := Lib.hid (BB.out.trans (b1.mono BB.out.size)); clear b1; have x0 := BX.out.cell (k := 0) rfl; have x1 := BX.out.cell (k := 1) rfl)
  refine (ci_impl _ r u a b _ _ SV.out.rd (by rw [LR.out]; omega) (by rw [SFs.out.lu]; omega) (by omega) (by omega) (by omega) (by omega)).mono ?_
  rintro e w9 ⟨CA, cca, rfl, oL, b1⟩
  rw [HB.out]
  rw [CY.out] at oL ⊢
  have OL := Lib.hid oL; clear oL
  clear x0 x1
  replace SV := Lib.hid (SV.out.keep b1 SV.out.top)
  replace SX := Lib.hid (SX.out.keep b1 SX.out.top)
  replace BX := Lib.hid (BX.out.keep b1 BX.out.lt)
  replace BM := Lib.hid (BM.out.keep b1 BM.out.lt)
  replace BY := Lib.hid (BY.out.keep b1 BY.out.lt)
  have x0 := BX.out.cell (k := 0) rfl; have x1 := BX.out.cell (k := 1) rfl
  replace BB := Lib.hid (BB.out.trans (b1.mono BB.out.size))
  clear b1
  have HAR := Lib.hid FC.out.area
  rw [RUN.out.2.1] at HAR
  have ll24 : (cyF R3 U3).length ≤ 24 := cyF_24 _ _
  generalize cyF R3 U3 = L at *
  obtain ⟨NL, hNL⟩ : ∃ NL, L.length = NL := ⟨_, rfl⟩
  rw [hNL] at OL IO ll24 ⊢
  have LNL := Lib.hid hNL; clear hNL
  go_wp2_with fail
  refine (pp_impl _ r u a b _ _ SV.out.rd (by rw [LR.out]; omega) (by rw [SFs.out.lu]; omega) (by omega) (by omega) (by omega) (by omega)).mono ?_
  rintro e w10 ⟨PA, cpa, rfl, oP, hcpa, b1⟩
  rw [HB.out]
  rw [PY.out] at oP hcpa ⊢
  rw [RUN.out.2.1] at oP hcpa ⊢
  have OP := Lib.hid oP; clear oP
  clear x0 x1
  replace SV := Lib.hid (SV.out.keep b1 SV.out.top)
  replace SX := Lib.hid (SX.out.keep b1 SX.out.top)
  replace BX := Lib.hid (BX.out.keep b1 BX.out.lt)
  replace BM := Lib.hid (BM.out.keep b1 BM.out.lt)
  replace BY := Lib.hid (BY.out.keep b1 BY.out.lt)
  replace OL := Lib.hid (OL.out.keep b1 OL.out.top)
  replace BB := Lib.hid (BB.out.trans (b1.mono BB.out.size))
  clear b1
  obtain ⟨d, hd⟩ : ∃ d, decide ((NL : Int) = 1) = d := ⟨_, rfl⟩
  have hdn : decide (NL = 1) = d := by rw [← hd]; simp only [decide_eq_decide]; omega
  have IOd : Hid (ioF r u a b = d) := Lib.hid (by rw [IO.out, hdn]; rfl)
  have p1 := mul_small mA (show a ≤ 12 by omega); have p2 := mul_small mB (show b ≤ 12 by omega)
  have p3 := mul_small mC (show a ≤ 12 by omega); have p4 := mul_small mD (show b ≤ 12 by omega)
  obtain ⟨M1, hM1⟩ : ∃ z, A1 * (a : Int) = z := ⟨_, rfl⟩
  obtain ⟨M2, hM2⟩ : ∃ z, B1 * (b : Int) = z := ⟨_, rfl⟩
  obtain ⟨M3, hM3⟩ : ∃ z, C1 * (a : Int) = z := ⟨_, rfl⟩
  obtain ⟨M4, hM4⟩ : ∃ z, D1 * (b : Int) = z := ⟨_, rfl⟩
  rw [hM1] at p1 eq1; rw [hM2] at p2 eq1; rw [hM3] at p3 eq0; rw [hM4] at p4 eq0
  have hw1 := IntWalk.i64_in M1 (by omega); have hw2 := IntWalk.i64_in M2 (by omega)
  have hw3 := IntWalk.i64_in M3 (by omega); have hw4 := IntWalk.i64_in M4 (by omega)
  go_wp2_with fail
  refine wp_region_held_drew (S := fun W => Below w10.heap.size w10 W) (by kernel_rfl) ⟨rfl, rfl, rfl, Nat.le_refl _, fun _ _ => rfl⟩ (fun hHeld => ?_)
  have BD : Hid (Below w.heap.size w w10.drew) := Lib.hid (BB.out.trans (hHeld.mono BB.out.size))
  have CB : Hid (∀ W, Below w10.heap.size w10 W → W.cell? ⟨w1.heap.size, 0, none⟩ = some (.slice Ps N cs)) := Lib.hid (fun W h => (BX.out.keep h BX.out.lt).cell (k := 0) rfl)
  have CM0 : Hid (∀ W, Below w10.heap.size w10 W → W.cell? ⟨w5.heap.size, 0, none⟩ = some (.int .i64 A1)) := Lib.hid (fun W h => (BM.out.keep h BM.out.lt).cell (k := 0) rfl)
  have CM1 : Hid (∀ W, Below w10.heap.size w10 W → W.cell? ⟨w5.heap.size, 1, none⟩ = some (.int .i64 B1)) := Lib.hid (fun W h => (BM.out.keep h BM.out.lt).cell (k := 1) rfl)
  have CM2 : Hid (∀ W, Below w10.heap.size w10 W → W.cell? ⟨w5.heap.size, 2, none⟩ = some (.int .i64 C1)) := Lib.hid (fun W h => (BM.out.keep h BM.out.lt).cell (k := 2) rfl)
  have CM3 : Hid (∀ W, Below w10.heap.size w10 W → W.cell? ⟨w5.heap.size, 3, none⟩ = some (.int .i64 D1)) := Lib.hid (fun W h => (BM.out.keep h BM.out.lt).cell (k := 3) rfl)
  have RXx : Hid (∀ W, Below w10.heap.size w10 W → W.rangeAt w1.heap.size 0 [.slice Ps N cs, .slice Qs N ds]) := Lib.hid (fun W h j v hv => by rw [Nat.zero_add]; exact (BX.out.keep h BX.out.lt).cell hv)
  have RYy : Hid (∀ W, Below w10.heap.size w10 W → W.rangeAt w7.heap.size 0 [.slice Px N cx, .slice Qx N dx]) := Lib.hid (fun W h j v hv => by rw [Nat.zero_add]; exact (BY.out.keep h BY.out.lt).cell hv)
  have lu := SFs.out.lu; have lr := LR.out
  have nr : r.length ≤ 1048576 := by omega
  have nu : u.length ≤ 1048576 := by omega
  clear lu lr
  have n3 : R3.length ≤ 1048576 := by have := RUN.out.2.1; omega
  have n4 : U3.length ≤ 1048576 := by have := RUN.out.2.2; omega
  have TB : Hid (tot (cycF R3) ≤ 1048576 ∧ (cycF R3).length ≤ 1048576) := Lib.hid ⟨(cycF_small R3).2, (cycF_small R3).1⟩
  generalize w10.drew = w11 at *
  clear BB
  refine wpAnyH_take (i := 0) (v := .int .i64 (a : Int)) rfl (by kernel_rfl) (by kernel_rfl) (by kernel_rfl) (fun _ _ _ h => h) (Or.inl ⟨by kernel_rfl, fun w hSw => by (go_simp <;> first | omega | assumption | rfl | exact IntWalk.i64_in _ (by omega) | simpa using hd)⟩) hHeld ?_
  refine wpAnyH_take (i := 1) (v := .int .i64 (b : Int)) rfl (by kernel_rfl) (by kernel_rfl) (by kernel_rfl) (fun _ _ _ h => h) (Or.inl ⟨by kernel_rfl, fun w hSw => by (go_simp <;> first | omega | assumption | rfl | exact IntWalk.i64_in _ (by omega) | simpa using hd)⟩) hHeld ?_
  refine wpAnyH_ready (rs := [2]) (by kernel_rfl) (by simp) (AllReadyH.cons rfl (fun K' hK => ?_) AllReadyH.nil)
  go_simp
  refine (so_impl a b _ (by omega) (by omega) (by omega) (by omega)).mono ?_
  rintro e w12 ⟨rfl, b1⟩
  rw [HSL.out]
  have hHeld2 : Below w10.heap.size w10 w12 := hHeld.trans (b1.mono hHeld.size)
  replace BD := Lib.hid (BD.out.trans (b1.mono BD.out.size))
  clear b1 hHeld
  go_wp2_with fail
  refine hK.out _ _ hHeld2 (fun hHeld => ?_)
  clear hK K' hHeld2
  refine wpAnyH_take (i := 3) (v := .bool true) rfl (by kernel_rfl) (by kernel_rfl) (by kernel_rfl) (fun _ _ _ h => h) (Or.inl ⟨by kernel_rfl, fun w hSw => by (go_simp <;> first | omega | assumption | rfl | exact IntWalk.i64_in _ (by omega) | simpa using hd)⟩) hHeld ?_
  refine wpAnyH_take (i := 4) (v := .bool true) rfl (by kernel_rfl) (by kernel_rfl) (by kernel_rfl) (fun _ _ _ h => h) (Or.inl ⟨by kernel_rfl, fun w hSw => by (go_simp <;> first | omega | assumption | rfl | exact IntWalk.i64_in _ (by omega) | simpa using hd)⟩) hHeld ?_
  refine wpAnyH_take (i := 5) (v := .bool true) rfl (by kernel_rfl) (by kernel_rfl) (by kernel_rfl) (fun _ _ _ h => h) (Or.inl ⟨by kernel_rfl, fun w hSw => by (go_simp <;> first | omega | assumption | rfl | exact IntWalk.i64_in _ (by omega) | simpa using hd)⟩) hHeld ?_
  refine wpAnyH_take (i := 6) (v := .bool true) rfl (by kernel_rfl) (by kernel_rfl) (by kernel_rfl) (fun _ _ _ h => h) (Or.inl ⟨by kernel_rfl, fun w hSw => by (go_simp <;> first | omega | assumption | rfl | exact IntWalk.i64_in _ (by omega) | simpa using hd)⟩) hHeld ?_
  refine wpAnyH_take (i := 7) (v := .bool true) rfl (by kernel_rfl) (by kernel_rfl) (by kernel_rfl) (fun _ _ _ h => h) (Or.inl ⟨by kernel_rfl, fun w hSw => by (go_simp <;> first | omega | assumption | rfl | exact IntWalk.i64_in _ (by omega) | simpa using hd)⟩) hHeld ?_
  refine wpAnyH_take (i := 8) (v := .bool true) rfl (by kernel_rfl) (by kernel_rfl) (by kernel_rfl) (fun _ _ _ h => h) (Or.inl ⟨by kernel_rfl, fun w hSw => by (go_simp <;> first | omega | assumption | rfl | exact IntWalk.i64_in _ (by omega) | simpa using hd)⟩) hHeld ?_
  refine wpAnyH_take (i := 9) (v := .bool true) rfl (by kernel_rfl) (by kernel_rfl) (by kernel_rfl) (fun _ _ _ h => h) (Or.inl ⟨by kernel_rfl, fun w hSw => by (go_simp <;> first | omega | assumption | rfl | exact IntWalk.i64_in _ (by omega) | simpa using hd)⟩) hHeld ?_
  refine wpAnyH_take (i := 10) (v := .bool true) rfl (by kernel_rfl) (by kernel_rfl) (by kernel_rfl) (fun _ _ _ h => h) (Or.inl ⟨by kernel_rfl, fun w hSw => by (go_simp <;> first | omega | assumption | rfl | exact IntWalk.i64_in _ (by omega) | simpa using hd)⟩) hHeld ?_
  refine wpAnyH_take (i := 11) (v := .bool true) rfl (by kernel_rfl) (by kernel_rfl) (by kernel_rfl) (fun _ _ _ h => h) (Or.inl ⟨by kernel_rfl, fun w hSw => by (go_simp <;> first | omega | assumption | rfl | exact IntWalk.i64_in _ (by omega) | simpa using hd)⟩) hHeld ?_
  refine wpAnyH_take (i := 12) (v := .bool true) rfl (by kernel_rfl) (by kernel_rfl) (by kernel_rfl) (fun _ _ _ h => h) (Or.inl ⟨by kernel_rfl, fun w hSw => by (go_simp <;> first | omega | assumption | rfl | exact IntWalk.i64_in _ (by omega) | simpa using hd)⟩) hHeld ?_
  refine wpAnyH_take (i := 13) (v := .bool true) rfl (by kernel_rfl) (by kernel_rfl) (by kernel_rfl) (fun _ _ _ h => h) (Or.inl ⟨by kernel_rfl, fun w hSw => by (go_simp <;> first | omega | assumption | rfl | exact IntWalk.i64_in _ (by omega) | simpa using hd)⟩) hHeld ?_
  refine wpAnyH_take (i := 14) (v := .bool true) rfl (by kernel_rfl) (by kernel_rfl) (by kernel_rfl) (fun _ _ _ h => h) (Or.inl ⟨by kernel_rfl, fun w hSw => by (go_simp <;> first | omega | assumption | rfl | exact IntWalk.i64_in _ (by omega) | simpa using hd)⟩) hHeld ?_
  refine wpAnyH_take (i := 15) (v := .bool true) rfl (by kernel_rfl) (by kernel_rfl) (by kernel_rfl) (fun _ _ _ h => h) (Or.inl ⟨by kernel_rfl, fun w hSw => by (go_simp <;> first | omega | assumption | rfl | exact IntWalk.i64_in _ (by omega) | simpa using hd)⟩) hHeld ?_
  refine wpAnyH_take (i := 16) (v := .pointer (some ⟨w5.heap.size, 0, none⟩)) rfl (by kernel_rfl) (by kernel_rfl) (by kernel_rfl) (fun _ _ _ h => h) (Or.inl ⟨by kernel_rfl, fun w hSw => by (go_simp <;> first | omega | assumption | rfl | exact IntWalk.i64_in _ (by omega) | simpa using hd)⟩) hHeld ?_
  refine wpAnyH_take (i := 17) (v := .int .i64 A1) rfl (by kernel_rfl) (by kernel_rfl) (by kernel_rfl) (fun _ _ _ h => h) (Or.inl ⟨by kernel_rfl, fun w hSw => by have := CM0.out w hSw; (go_simp <;> first | omega | assumption | rfl | exact IntWalk.i64_in _ (by omega) | simpa using hd)⟩) hHeld ?_
  refine wpAnyH_take (i := 18) (v := .int .i64 (a : Int)) rfl (by kernel_rfl) (by kernel_rfl) (by kernel_rfl) (fun _ _ _ h => h) (Or.inl ⟨by kernel_rfl, fun w hSw => by (go_simp <;> first | omega | assumption | rfl | exact IntWalk.i64_in _ (by omega) | simpa using hd)⟩) hHeld ?_
  refine wpAnyH_take (i := 19) (v := .int .i64 M1) rfl (by kernel_rfl) (by kernel_rfl) (by kernel_rfl) (fun _ _ _ h => h) (Or.inl ⟨by kernel_rfl, fun w hSw => by (go_simp <;> first | omega | assumption | rfl | exact IntWalk.i64_in _ (by omega) | simpa using hd)⟩) hHeld ?_
  refine wpAnyH_take (i := 20) (v := .pointer (some ⟨w5.heap.size, 1, none⟩)) rfl (by kernel_rfl) (by kernel_rfl) (by kernel_rfl) (fun _ _ _ h => h) (Or.inl ⟨by kernel_rfl, fun w hSw => by (go_simp <;> first | omega | assumption | rfl | exact IntWalk.i64_in _ (by omega) | simpa using hd)⟩) hHeld ?_
  refine wpAnyH_take (i := 21) (v := .int .i64 B1) rfl (by kernel_rfl) (by kernel_rfl) (by kernel_rfl) (fun _ _ _ h => h) (Or.inl ⟨by kernel_rfl, fun w hSw => by have := CM1.out w hSw; (go_simp <;> first | omega | assumption | rfl | exact IntWalk.i64_in _ (by omega) | simpa using hd)⟩) hHeld ?_
  refine wpAnyH_take (i := 22) (v := .int .i64 (b : Int)) rfl (by kernel_rfl) (by kernel_rfl) (by kernel_rfl) (fun _ _ _ h => h) (Or.inl ⟨by kernel_rfl, fun w hSw => by (go_simp <;> first | omega | assumption | rfl | exact IntWalk.i64_in _ (by omega) | simpa using hd)⟩) hHeld ?_
  refine wpAnyH_take (i := 23) (v := .int .i64 M2) rfl (by kernel_rfl) (by kernel_rfl) (by kernel_rfl) (fun _ _ _ h => h) (Or.inl ⟨by kernel_rfl, fun w hSw => by (go_simp <;> first | omega | assumption | rfl | exact IntWalk.i64_in _ (by omega) | simpa using hd)⟩) hHeld ?_
  refine wpAnyH_take (i := 24) (v := .int .i64 1) rfl (by kernel_rfl) (by kernel_rfl) (by kernel_rfl) (fun _ _ _ h => h) (Or.inl ⟨by kernel_rfl, fun w hSw => by (go_simp <;> first | omega | assumption | rfl | exact IntWalk.i64_in _ (by omega) | simpa using hd)⟩) hHeld ?_
  refine wpAnyH_take (i := 25) (v := .bool true) rfl (by kernel_rfl) (by kernel_rfl) (by kernel_rfl) (fun _ _ _ h => h) (Or.inl ⟨by kernel_rfl, fun w hSw => by (go_simp <;> first | omega | assumption | rfl | exact IntWalk.i64_in _ (by omega) | simpa using hd)⟩) hHeld ?_
  refine wpAnyH_take (i := 26) (v := .bool true) rfl (by kernel_rfl) (by kernel_rfl) (by kernel_rfl) (fun _ _ _ h => h) (Or.inl ⟨by kernel_rfl, fun w hSw => by (go_simp <;> first | omega | assumption | rfl | exact IntWalk.i64_in _ (by omega) | simpa using hd)⟩) hHeld ?_
  refine wpAnyH_take (i := 27) (v := .bool true) rfl (by kernel_rfl) (by kernel_rfl) (by kernel_rfl) (fun _ _ _ h => h) (Or.inl ⟨by kernel_rfl, fun w hSw => by (go_simp <;> first | omega | assumption | rfl | exact IntWalk.i64_in _ (by omega) | simpa using hd)⟩) hHeld ?_
  refine wpAnyH_take (i := 28) (v := .pointer (some ⟨w5.heap.size, 2, none⟩)) rfl (by kernel_rfl) (by kernel_rfl) (by kernel_rfl) (fun _ _ _ h => h) (Or.inl ⟨by kernel_rfl, fun w hSw => by (go_simp <;> first | omega | assumption | rfl | exact IntWalk.i64_in _ (by omega) | simpa using hd)⟩) hHeld ?_
  refine wpAnyH_take (i := 29) (v := .int .i64 C1) rfl (by kernel_rfl) (by kernel_rfl) (by kernel_rfl) (fun _ _ _ h => h) (Or.inl ⟨by kernel_rfl, fun w hSw => by have := CM2.out w hSw; (go_simp <;> first | omega | assumption | rfl | exact IntWalk.i64_in _ (by omega) | simpa using hd)⟩) hHeld ?_
  refine wpAnyH_take (i := 30) (v := .int .i64 (a : Int)) rfl (by kernel_rfl) (by kernel_rfl) (by kernel_rfl) (fun _ _ _ h => h) (Or.inl ⟨by kernel_rfl, fun w hSw => by (go_simp <;> first | omega | assumption | rfl | exact IntWalk.i64_in _ (by omega) | simpa using hd)⟩) hHeld ?_
  refine wpAnyH_take (i := 31) (v := .int .i64 M3) rfl (by kernel_rfl) (by kernel_rfl) (by kernel_rfl) (fun _ _ _ h => h) (Or.inl ⟨by kernel_rfl, fun w hSw => by (go_simp <;> first | omega | assumption | rfl | exact IntWalk.i64_in _ (by omega) | simpa using hd)⟩) hHeld ?_
  refine wpAnyH_take (i := 32) (v := .pointer (some ⟨w5.heap.size, 3, none⟩)) rfl (by kernel_rfl) (by kernel_rfl) (by kernel_rfl) (fun _ _ _ h => h) (Or.inl ⟨by kernel_rfl, fun w hSw => by (go_simp <;> first | omega | assumption | rfl | exact IntWalk.i64_in _ (by omega) | simpa using hd)⟩) hHeld ?_
  refine wpAnyH_take (i := 33) (v := .int .i64 D1) rfl (by kernel_rfl) (by kernel_rfl) (by kernel_rfl) (fun _ _ _ h => h) (Or.inl ⟨by kernel_rfl, fun w hSw => by have := CM3.out w hSw; (go_simp <;> first | omega | assumption | rfl | exact IntWalk.i64_in _ (by omega) | simpa using hd)⟩) hHeld ?_
  refine wpAnyH_take (i := 34) (v := .int .i64 (b : Int)) rfl (by kernel_rfl) (by kernel_rfl) (by kernel_rfl) (fun _ _ _ h => h) (Or.inl ⟨by kernel_rfl, fun w hSw => by (go_simp <;> first | omega | assumption | rfl | exact IntWalk.i64_in _ (by omega) | simpa using hd)⟩) hHeld ?_
  refine wpAnyH_take (i := 35) (v := .int .i64 M4) rfl (by kernel_rfl) (by kernel_rfl) (by kernel_rfl) (fun _ _ _ h => h) (Or.inl ⟨by kernel_rfl, fun w hSw => by (go_simp <;> first | omega | assumption | rfl | exact IntWalk.i64_in _ (by omega) | simpa using hd)⟩) hHeld ?_
  refine wpAnyH_take (i := 36) (v := .int .i64 0) rfl (by kernel_rfl) (by kernel_rfl) (by kernel_rfl) (fun _ _ _ h => h) (Or.inl ⟨by kernel_rfl, fun w hSw => by (go_simp <;> first | omega | assumption | rfl | exact IntWalk.i64_in _ (by omega) | simpa using hd)⟩) hHeld ?_
  refine wpAnyH_take (i := 37) (v := .bool true) rfl (by kernel_rfl) (by kernel_rfl) (by kernel_rfl) (fun _ _ _ h => h) (Or.inl ⟨by kernel_rfl, fun w hSw => by (go_simp <;> first | omega | assumption | rfl | exact IntWalk.i64_in _ (by omega) | simpa using hd)⟩) hHeld ?_
  refine wpAnyH_take (i := 38) (v := .bool true) rfl (by kernel_rfl) (by kernel_rfl) (by kernel_rfl) (fun _ _ _ h => h) (Or.inl ⟨by kernel_rfl, fun w hSw => by (go_simp <;> first | omega | assumption | rfl | exact IntWalk.i64_in _ (by omega) | simpa using hd)⟩) hHeld ?_
  refine wpAnyH_take (i := 39) (v := .bool true) rfl (by kernel_rfl) (by kernel_rfl) (by kernel_rfl) (fun _ _ _ h => h) (Or.inl ⟨by kernel_rfl, fun w hSw => by (go_simp <;> first | omega | assumption | rfl | exact IntWalk.i64_in _ (by omega) | simpa using hd)⟩) hHeld ?_
  refine wpAnyH_take (i := 40) (v := .slice CA NL cca) rfl (by kernel_rfl) (by kernel_rfl) (by kernel_rfl) (fun _ _ _ h => h) (Or.inl ⟨by kernel_rfl, fun w hSw => by (go_simp <;> first | omega | assumption | rfl | exact IntWalk.i64_in _ (by omega) | simpa using hd)⟩) hHeld ?_
  refine wpAnyH_take (i := 42) (v := .pointer (some ⟨w1.heap.size, 0, none⟩)) rfl (by kernel_rfl) (by kernel_rfl) (by kernel_rfl) (fun _ _ _ h => h) (Or.inl ⟨by kernel_rfl, fun w hSw => by (go_simp <;> first | omega | assumption | rfl | exact IntWalk.i64_in _ (by omega) | simpa using hd)⟩) hHeld ?_
  refine wpAnyH_take (i := 43) (v := .slice Ps N cs) rfl (by kernel_rfl) (by kernel_rfl) (by kernel_rfl) (fun _ _ _ h => h) (Or.inl ⟨by kernel_rfl, fun w hSw => by have := CB.out w hSw; (go_simp <;> first | omega | assumption | rfl | exact IntWalk.i64_in _ (by omega) | simpa using hd)⟩) hHeld ?_
  refine wpAnyH_take (i := 44) (v := .int .i64 (N : Int)) rfl (by kernel_rfl) (by kernel_rfl) (by kernel_rfl) (fun _ _ _ h => h) (Or.inl ⟨by kernel_rfl, fun w hSw => by (go_simp <;> first | omega | assumption | rfl | exact IntWalk.i64_in _ (by omega) | simpa using hd)⟩) hHeld ?_
  refine wpAnyH_ready (rs := [41]) (by kernel_rfl) (by simp) (AllReadyH.cons rfl (fun K' hK => ?_) AllReadyH.nil)
  go_simp
  refine (area_impl CA NL cca L _ _ (OL.out.keep hHeld OL.out.top).rd (by omega)).mono ?_
  rintro e w13 ⟨rfl, b1⟩
  rw [HAR.out]
  have hHeld2 : Below w10.heap.size w10 w13 := hHeld.trans (b1.mono hHeld.size)
  replace BD := Lib.hid (BD.out.trans (b1.mono BD.out.size))
  clear b1 hHeld
  go_wp2_with fail
  refine hK.out _ _ hHeld2 (fun hHeld => ?_)
  clear hK K' hHeld2
  refine wpAnyH_take (i := 45) (v := .bool true) rfl (by kernel_rfl) (by kernel_rfl) (by kernel_rfl) (fun _ _ _ h => h) (Or.inl ⟨by kernel_rfl, fun w hSw => by (go_simp <;> first | omega | assumption | rfl | exact IntWalk.i64_in _ (by omega) | simpa using hd)⟩) hHeld ?_
  refine wpAnyH_take (i := 46) (v := .bool true) rfl (by kernel_rfl) (by kernel_rfl) (by kernel_rfl) (fun _ _ _ h => h) (Or.inl ⟨by kernel_rfl, fun w hSw => by (go_simp <;> first | omega | assumption | rfl | exact IntWalk.i64_in _ (by omega) | simpa using hd)⟩) hHeld ?_
  refine wpAnyH_take (i := 47) (v := .bool true) rfl (by kernel_rfl) (by kernel_rfl) (by kernel_rfl) (fun _ _ _ h => h) (Or.inl ⟨by kernel_rfl, fun w hSw => by (go_simp <;> first | omega | assumption | rfl | exact IntWalk.i64_in _ (by omega) | simpa using hd)⟩) hHeld ?_
  refine wpAnyH_take (i := 48) (v := .agg #[.slice Px N cx, .slice Qx N dx]) rfl (by kernel_rfl) (by kernel_rfl) (by kernel_rfl) (fun _ _ _ h => h) (yieldsIf_load_mid (by kernel_rfl) _ _ rfl (w7.heap.size) 0 rfl [.slice Px N cx, .slice Qx N dx] _ (fun w h => RYy.out w h) Tryd.underlying25 rfl (sizeS _ _)) hHeld ?_
  refine wpAnyH_take (i := 51) (v := .slice PA N cpa) rfl (by kernel_rfl) (by kernel_rfl) (by kernel_rfl) (fun _ _ _ h => h) (Or.inl ⟨by kernel_rfl, fun w hSw => by (go_simp <;> first | omega | assumption | rfl | exact IntWalk.i64_in _ (by omega) | simpa using hd)⟩) hHeld ?_
  refine wpAnyH_ready (rs := [49]) (by kernel_rfl) (by simp) (AllReadyH.cons rfl (fun K' hK => ?_) AllReadyH.nil)
  go_simp
  refine (ro_impl _ R3 U3 _ _ (SX.out.keep hHeld SX.out.top).rd n3 n4).mono ?_
  rw [ROW.out]
  rintro e w14 ⟨MA1, cm1, rfl, oM, b1⟩
  have OM := Lib.hid oM; clear oM
  have BN14 : Hid (Below w14.heap.size w14 w14) := Lib.hid (Below.refl _ _)
  have hHeld2 : Below w10.heap.size w10 w14 := hHeld.trans (b1.mono hHeld.size)
  replace BD := Lib.hid (BD.out.trans (b1.mono BD.out.size))
  clear b1 hHeld
  go_wp2_with fail
  refine hK.out _ _ hHeld2 (fun hHeld => ?_)
  clear hK K' hHeld2
  refine wpAnyH_ready (rs := [50]) (by kernel_rfl) (by simp) (AllReadyH.cons rfl (fun K' hK => ?_) AllReadyH.nil)
  go_simp
  refine (lengths_any MA1 _ cm1 (cycF R3) _ _ _ OM.out TB.out.2 TB.out.1).mono ?_
  rintro e w15 ⟨v15, rfl, o15, b1⟩
  obtain ⟨P15, c15, rfl⟩ := own_form o15
  have R15 := Lib.hid (Row.of_own o15); clear o15
  have hHeld2 : Below w10.heap.size w10 w15 := hHeld.trans (b1.mono hHeld.size)
  replace BD := Lib.hid (BD.out.trans (b1.mono BD.out.size))
  clear b1 hHeld
  go_wp2_with fail
  refine hK.out _ _ hHeld2 (fun hHeld => ?_)
  clear hK K' hHeld2
  refine wpAnyH_ready (rs := [52]) (by kernel_rfl) (by simp) (AllReadyH.cons rfl (fun K' hK => ?_) AllReadyH.nil)
  go_simp
  refine (cyc_impl PA N cpa R3 _ _ (OP.out.keep hHeld OP.out.2.1).rd (by omega)).mono ?_
  rintro e w16 ⟨MA2, cm2, rfl, oM, b1⟩
  have OM2 := Lib.hid oM; clear oM
  replace R15 := Lib.hid (R15.out.keep b1 R15.out.2.1)
  have hHeld2 : Below w10.heap.size w10 w16 := hHeld.trans (b1.mono hHeld.size)
  replace BD := Lib.hid (BD.out.trans (b1.mono BD.out.size))
  clear b1 hHeld
  go_wp2_with fail
  refine hK.out _ _ hHeld2 (fun hHeld => ?_)
  clear hK K' hHeld2
  refine wpAnyH_ready (rs := [53]) (by kernel_rfl) (by simp) (AllReadyH.cons rfl (fun K' hK => ?_) AllReadyH.nil)
  go_simp
  refine (lengths_any MA2 _ cm2 (cycF R3) _ _ _ OM2.out TB.out.2 TB.out.1).mono ?_
  rintro e w17 ⟨v17, rfl, o17, b1⟩
  obtain ⟨P17, c17, rfl⟩ := own_form o17
  have R17 := Lib.hid (Row.of_own o17); clear o17
  replace R15 := Lib.hid (R15.out.keep b1 R15.out.2.1)
  have hHeld2 : Below w10.heap.size w10 w17 := hHeld.trans (b1.mono hHeld.size)
  replace BD := Lib.hid (BD.out.trans (b1.mono BD.out.size))
  clear b1 hHeld
  go_wp2_with fail
  refine hK.out _ _ hHeld2 (fun hHeld => ?_)
  clear hK K' hHeld2
  refine wpAnyH_ready (rs := [54]) (by kernel_rfl) (by simp) (AllReadyH.cons rfl (fun K' hK => ?_) AllReadyH.nil)
  go_simp
  have sl : (sortD (lensF (cycF R3))).length ≤ maxLen := by unfold maxLen; rw [sortD_len]; unfold lensF; rw [List.length_map]; have := TB.out.2; omega
  refine (same_any P15 _ c15 P17 _ c17 _ _ _ _ _ R15.out.rd R17.out.rd sl sl).mono ?_
  rintro e w18 ⟨rfl, dr⟩
  have b1 := dr.below w17.heap.size; clear dr sl
  rw [eqi_self]
  have hHeld2 : Below w10.heap.size w10 w18 := hHeld.trans (b1.mono hHeld.size)
  replace BD := Lib.hid (BD.out.trans (b1.mono BD.out.size))
  clear b1 hHeld
  go_wp2_with fail
  refine hK.out _ _ hHeld2 (fun hHeld => ?_)
  clear hK K' hHeld2
  refine wpAnyH_take (i := 55) (v := .bool true) rfl (by kernel_rfl) (by kernel_rfl) (by kernel_rfl) (fun _ _ _ h => h) (Or.inl ⟨by kernel_rfl, fun w hSw => by (go_simp <;> first | omega | assumption | rfl | exact IntWalk.i64_in _ (by omega) | simpa using hd)⟩) hHeld ?_
  refine wpAnyH_take (i := 56) (v := .bool true) rfl (by kernel_rfl) (by kernel_rfl) (by kernel_rfl) (fun _ _ _ h => h) (Or.inl ⟨by kernel_rfl, fun w hSw => by (go_simp <;> first | omega | assumption | rfl | exact IntWalk.i64_in _ (by omega) | simpa using hd)⟩) hHeld ?_
  refine wpAnyH_take (i := 57) (v := .agg #[.slice Ps N cs, .slice Qs N ds]) rfl (by kernel_rfl) (by kernel_rfl) (by kernel_rfl) (fun _ _ _ h => h) (yieldsIf_load_mid (by kernel_rfl) _ _ rfl (w1.heap.size) 0 rfl [.slice Ps N cs, .slice Qs N ds] _ (fun w h => RXx.out w h) Tryd.underlying25 rfl (sizeS _ _)) hHeld ?_
  refine wpAnyH_take (i := 58) (v := .int .i64 (a : Int)) rfl (by kernel_rfl) (by kernel_rfl) (by kernel_rfl) (fun _ _ _ h => h) (Or.inl ⟨by kernel_rfl, fun w hSw => by (go_simp <;> first | omega | assumption | rfl | exact IntWalk.i64_in _ (by omega) | simpa using hd)⟩) hHeld ?_
  refine wpAnyH_take (i := 59) (v := .int .i64 (b : Int)) rfl (by kernel_rfl) (by kernel_rfl) (by kernel_rfl) (fun _ _ _ h => h) (Or.inl ⟨by kernel_rfl, fun w hSw => by (go_simp <;> first | omega | assumption | rfl | exact IntWalk.i64_in _ (by omega) | simpa using hd)⟩) hHeld ?_
  refine wpAnyH_take (i := 61) (v := .slice CA NL cca) rfl (by kernel_rfl) (by kernel_rfl) (by kernel_rfl) (fun _ _ _ h => h) (Or.inl ⟨by kernel_rfl, fun w hSw => by (go_simp <;> first | omega | assumption | rfl | exact IntWalk.i64_in _ (by omega) | simpa using hd)⟩) hHeld ?_
  refine wpAnyH_take (i := 62) (v := .int .i64 (NL : Int)) rfl (by kernel_rfl) (by kernel_rfl) (by kernel_rfl) (fun _ _ _ h => h) (Or.inl ⟨by kernel_rfl, fun w hSw => by (go_simp <;> first | omega | assumption | rfl | exact IntWalk.i64_in _ (by omega) | simpa using hd)⟩) hHeld ?_
  refine wpAnyH_take (i := 63) (v := .bool d) rfl (by kernel_rfl) (by kernel_rfl) (by kernel_rfl) (fun _ _ _ h => h) (Or.inl ⟨by kernel_rfl, fun w hSw => by (go_simp <;> first | omega | assumption | rfl | exact IntWalk.i64_in _ (by omega) | simpa using hd)⟩) hHeld ?_
  refine wpAnyH_ready (rs := [60]) (by kernel_rfl) (by simp) (AllReadyH.cons rfl (fun K' hK => ?_) AllReadyH.nil)
  go_simp
  refine (io_impl _ r u a b _ _ (SV.out.keep hHeld SV.out.top).rd nr nu (by omega) (by omega) (by omega) (by omega)).mono ?_
  rintro e w19 ⟨rfl, b1⟩
  rw [IOd.out]
  have hHeld2 : Below w10.heap.size w10 w19 := hHeld.trans (b1.mono hHeld.size)
  replace BD := Lib.hid (BD.out.trans (b1.mono BD.out.size))
  clear b1 hHeld
  go_wp2_with fail
  refine hK.out _ _ hHeld2 (fun hHeld => ?_)
  clear hK K' hHeld2
  refine wpAnyH_take (i := 64) (v := .bool true) rfl (by kernel_rfl) (by kernel_rfl) (by kernel_rfl) (fun _ _ _ h => h) (Or.inl ⟨by kernel_rfl, fun w hSw => by (go_simp <;> first | omega | assumption | rfl | exact IntWalk.i64_in _ (by omega) | simpa using hd)⟩) hHeld ?_
  refine wpAnyH_take (i := 65) (v := .bool true) rfl (by kernel_rfl) (by kernel_rfl) (by kernel_rfl) (fun _ _ _ h => h) (Or.inl ⟨by kernel_rfl, fun w hSw => by (go_simp <;> first | omega | assumption | rfl | exact IntWalk.i64_in _ (by omega) | simpa using hd)⟩) hHeld ?_
  refine wpAnyH_take (i := 66) (v := .bool true) rfl (by kernel_rfl) (by kernel_rfl) (by kernel_rfl) (fun _ _ _ h => h) (Or.inl ⟨by kernel_rfl, fun w hSw => by (go_simp <;> first | omega | assumption | rfl | exact IntWalk.i64_in _ (by omega) | simpa using hd)⟩) hHeld ?_
  refine wpAnyH_take (i := 67) (v := .slice PA N cpa) rfl (by kernel_rfl) (by kernel_rfl) (by kernel_rfl) (fun _ _ _ h => h) (Or.inl ⟨by kernel_rfl, fun w hSw => by (go_simp <;> first | omega | assumption | rfl | exact IntWalk.i64_in _ (by omega) | simpa using hd)⟩) hHeld ?_
  refine wpAnyH_take (i := 68) (v := .int .i64 (N : Int)) rfl (by kernel_rfl) (by kernel_rfl) (by kernel_rfl) (fun _ _ _ h => h) (Or.inl ⟨by kernel_rfl, fun w hSw => by (go_simp <;> first | omega | assumption | rfl | exact IntWalk.i64_in _ (by omega) | simpa using hd)⟩) hHeld ?_
  refine wpAnyH_take (i := 69) (v := .pointer (some ⟨w1.heap.size, 0, none⟩)) rfl (by kernel_rfl) (by kernel_rfl) (by kernel_rfl) (fun _ _ _ h => h) (Or.inl ⟨by kernel_rfl, fun w hSw => by (go_simp <;> first | omega | assumption | rfl | exact IntWalk.i64_in _ (by omega) | simpa using hd)⟩) hHeld ?_
  refine wpAnyH_take (i := 70) (v := .slice Ps N cs) rfl (by kernel_rfl) (by kernel_rfl) (by kernel_rfl) (fun _ _ _ h => h) (Or.inl ⟨by kernel_rfl, fun w hSw => by have := CB.out w hSw; (go_simp <;> first | omega | assumption | rfl | exact IntWalk.i64_in _ (by omega) | simpa using hd)⟩) hHeld ?_
  refine wpAnyH_take (i := 71) (v := .int .i64 (N : Int)) rfl (by kernel_rfl) (by kernel_rfl) (by kernel_rfl) (fun _ _ _ h => h) (Or.inl ⟨by kernel_rfl, fun w hSw => by (go_simp <;> first | omega | assumption | rfl | exact IntWalk.i64_in _ (by omega) | simpa using hd)⟩) hHeld ?_
  refine wpAnyH_take (i := 72) (v := .bool true) rfl (by kernel_rfl) (by kernel_rfl) (by kernel_rfl) (fun _ _ _ h => h) (Or.inl ⟨by kernel_rfl, fun w hSw => by (go_simp <;> first | omega | assumption | rfl | exact IntWalk.i64_in _ (by omega) | simpa using hd)⟩) hHeld ?_
  refine wpAnyH_take (i := 73) (v := .bool true) rfl (by kernel_rfl) (by kernel_rfl) (by kernel_rfl) (fun _ _ _ h => h) (Or.inl ⟨by kernel_rfl, fun w hSw => by (go_simp <;> first | omega | assumption | rfl | exact IntWalk.i64_in _ (by omega) | simpa using hd)⟩) hHeld ?_
  refine wpAnyH_take (i := 74) (v := .bool true) rfl (by kernel_rfl) (by kernel_rfl) (by kernel_rfl) (fun _ _ _ h => h) (Or.inl ⟨by kernel_rfl, fun w hSw => by (go_simp <;> first | omega | assumption | rfl | exact IntWalk.i64_in _ (by omega) | simpa using hd)⟩) hHeld ?_
  refine wpAnyH_done (by kernel_rfl) ?_ _
  dsimp only [List.getElem_toArray, List.getElem_cons_zero, List.getElem_cons_succ]
  go_simp
  go_wp2_with fail
  go_ret
  exact ⟨rfl, BD.out⟩

theorem contract (H : Type) (enc : TypeId × Value → H) (W : World) (base : Nat) (args : Array Value) (ds gs : List (DataW H)) (before : List MemPlace)
    (hval : ∀ (j : Nat) t v, Tryd.f3.params[j]? = some t → args[j]? = some v → Value.okWide Tryd.prog W .any base t v)
    (hW : DataW.Whole enc Tryd.prog Tryd.f3.params.toList Rows.fnDirectionsSpec.vars false W args.toList ds gs before) (hL : laidMetH Tryd.prog Rows.fnDirectionsRow.laid W) :
    Calls Tryd.prog 3 args W fun e W' => ∃ v, e = .returned v ∧ Rows.fnDirectionsSpec.post enc Tryd.prog Tryd.f3 false true false false W args v W' := by
  have hW' := hW
  obtain ⟨p, q, hA0, hV, rfl, hfz, hnd⟩ := hW
  have hA : DataW.TrodAll enc Tryd.prog W 0 (fun _ => true) true Tryd.f3.params.toList args.toList ds p := hA0
  rw [Tryd.params3] at hA hval
  obtain ⟨v0, vs0, d0, ds0, p0, q0, hargs, rfl, rfl, h0, r0⟩ := trodAll_cons hA
  obtain ⟨rfl, rfl, rfl⟩ := trodAll_nil r0
  obtain rfl : args = #[v0] := by cases args; simp_all
  have hV0 := hV
  obtain ⟨g, t, cs, fuel, d, p', rfl, hg, ht, hvar, hd, rfl⟩ := trodVars_one hV0
  obtain ⟨A0, n0, c0, rfl⟩ := okWide_slice Tryd.underlying22 (hval 0 22 v0 rfl rfl)
  have lt0 : ∀ x ∈ p0, x.block < W.heap.size := by obtain ⟨m, hm⟩ := h0; exact DataW.trod_lt m _ _ _ hm
  obtain ⟨x0, rd0, cn0, cm0, el0⟩ := open_B Tryd.underlying22 Tryd.underlying5 (by kernel_rfl) h0
  clear hA0
  have tab : Pow W := pow_of hL
  refine (walk (w := W) A0 n0 c0 x0 rd0 cn0 cm0 el0 tab).mono fun e W' ⟨he, bel⟩ => ?_
  subst he
  exact ⟨_, rfl, _, _, _, [], _, _, hW', trodAll_mk1 (shut_bool Tryd.underlying4 _), (trodAll_cons_mk (Below.trod laidOut (by kernel_rfl) (of_decide_eq_true (by kernel_rfl)) h0 bel lt0) trodAll_mk0), bel.trodVars laidOut (by kernel_rfl) hV, bel.frame _, fun h => by cases h⟩

theorem laid_met (os : Os) : laidMet Tryd.prog Rows.fnDirectionsRow.laid ((worldM os).forCall (fun _ _ => 0) ⟨#[], #[.slice none 0 0], []⟩).memory :=
  laidMet_of_run' 8 (by kernel_rfl) (by kernel_rfl)
theorem reads (os : Os) {H : Type} (enc : TypeId × Value → H) : ∃ places, DataW.whole enc Tryd.prog ((worldM os).forCall (fun _ _ => 0) ⟨#[], #[.slice none 0 0], []⟩).memory Tryd.f3.params.toList Rows.fnDirectionsSpec.vars false (#[.slice none 0 0] : Array Value).toList 8 = some ([.nil], [Rows.laid_loop_example_g00928_impl_letterMatrices], places) :=
  ⟨MemPlace.row ⟨0, 0, .none⟩ 16, by kernel_rfl⟩

set_option maxRecDepth 100000 in
theorem lifted (os : Os) (started : os.Started) (H : Type) (enc : TypeId × Value → H) (F : Stop.Interp) :
    ReturnsInHanded {} Tryd.checked os 3 .any ((OpenSpec.ofChange Rows.fnDirectionsSpec).preRow enc Tryd.prog Tryd.f3 Rows.fnDirectionsRow.domain false Rows.fnDirectionsRow.laid) (((OpenSpec.ofChange Rows.fnDirectionsSpec).at F).post enc Tryd.prog Tryd.f3 false true false false) := by
  obtain ⟨places, hx⟩ := reads os enc
  refine returnsInHanded_of_row (C := Tryd.checked) (s := OpenSpec.ofChange Rows.fnDirectionsSpec) own started (by kernel_rfl) Tryd.func3
    (witness_row_at (enc := enc) (C := Tryd.checked) false (worldM os) #[.slice none 0 0] rfl (by kernel_rfl) (by kernel_rfl) (by kernel_rfl)
      (OpenSpec.preRow_of_cond 8 hx (by kernel_rfl) (fun k hk => by cases hk) (by kernel_rfl) (laid_met os))) ?_
  intro W base args ds gs before hval hW _ _ _ hL _ _
  exact contract H enc W base args ds gs before hval hW hL

theorem said : Rows.FnDirectionsSaid :=
  OpenClaim.holds_of_cond 3 Tryd.f3 rfl rfl rfl rfl rfl rfl rfl ⟨rfl, rfl, rfl, rfl, rfl⟩ rfl rfl rfl rfl rfl (by kernel_rfl) Tryd.func3 (by kernel_rfl)
    (of_decide_eq_true (by kernel_rfl)) (by unfold Func.isWrapper; first | (rw [if_pos (by decide +kernel)]; kernel_rfl) | (rw [if_neg (by decide +kernel)]; exact ⟨rfl, rfl⟩))
    (fun os started H enc _ F => by rw [OpenClaim.pre_eq_preRow]; exact lifted os started H enc F)

theorem plain (f : FuncId) (fn : Func) (hf : Tryd.pinned.checked.prog.funcNamed "loop.example/g00928/laws.FnDirections" = some f) (hfn : Tryd.pinned.checked.prog.funcs[f]? = some fn) :
    false = Tryd.pinned.checked.prog.looks [] ∧ ∀ (j : Nat) t, fn.params[j]? = some t → Tryd.pinned.checked.prog.wantsStandIn t = false := by
  obtain rfl : f = 3 := Option.some.inj ((show Tryd.prog.funcNamed "loop.example/g00928/laws.FnDirections" = some 3 by kernel_rfl).symm.trans hf) |>.symm
  obtain rfl : fn = Tryd.f3 := (Option.some.inj (Tryd.func3.symm.trans hfn)).symm
  refine ⟨by kernel_rfl, fun j t ht => ?_⟩
  rw [Tryd.params3] at ht
  have hm := Array.mem_of_getElem? ht
  have ha : ∀ x ∈ #[22], Tryd.prog.wantsStandIn x = false := by
    intro x hx
    simp only [List.mem_toArray, List.mem_cons, List.not_mem_nil, or_false] at hx
    rcases hx with rfl <;> kernel_rfl
  exact ha t hm

theorem proved : Rows.FnDirectionsCardSaid :=
  Claim7.holds_tied_plain_at .later [] _ _ _ _ said (fun _ h => by cases h) (by kernel_rfl) (fun _ h => by cases h) fnDirections_row_tie rfl ⟨rfl, rfl⟩ (by kernel_rfl) rfl plain (by kernel_rfl)
#print axioms proved
end Go.Proofs.YtpbbfbpggedgpaaDoor.fnDirections
