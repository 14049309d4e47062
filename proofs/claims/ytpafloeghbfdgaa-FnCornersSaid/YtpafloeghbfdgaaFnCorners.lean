/-
  FnCorners: at every argument the law FnCorners returns true, and its arguments read as before. No condition.
-/
import Derived.Test.YtpafloeghbfdgaaRows
import Derived.WalkKit
import Derived.ProofKit
import Derived.OpenShut
import Derived.ShutString
import Derived.ChangeOld
import Derived.Below
import Derived.Test.YtpafloeghbfdgaaME
import Derived.Test.YtpafloeghbfdgaaCorM
import Derived.Test.YtpafloeghbfdgaaTh
import Derived.Test.YtpafloeghbfdgaaAp
import Derived.Test.YtpafloeghbfdgaaCm
import Derived.Test.YtpafloeghbfdgaaAi
import Derived.Test.YtpafloeghbfdgaaRe
import Derived.Test.YtpafloeghbfdgaaMC
namespace Go.Proofs.Ytpafloeghbfdgaa.fnCorners
open Go.ChangeShapes Go.WideShapes Go.ChangeAt Go.RowKit
open Go.ChangeMaps (open_string shut_string)
open Go.Proofs.Ytpafloeghbfdgaa.mem Go.Proofs.Ytpafloeghbfdgaa.ints Go.Proofs.Ytpafloeghbfdgaa.arr Go.Proofs.Ytpafloeghbfdgaa.sf Go.Proofs.Ytpafloeghbfdgaa.pm Go.Proofs.Ytpafloeghbfdgaa.permOk Go.Proofs.Ytpafloeghbfdgaa.fns Go.Proofs.Ytpafloeghbfdgaa.mat Go.Proofs.Ytpafloeghbfdgaa.gl Go.Proofs.Ytpafloeghbfdgaa.cur
set_option linter.unusedVariables false
set_option maxRecDepth 100000

theorem own : ownKnob Try.prog.godebug = none := by kernel_rfl
theorem laidOut : laidOutB Try.prog = true := by kernel_rfl

set_option maxRecDepth 100000 in
set_option maxHeartbeats 4000000 in
theorem walk (w : World) (A : Option Addr) (n c : Nat) (l : List Int) (rd : Rd w w.heap.size A n (U l)) (cn : n ≤ c) (cm : c ≤ maxLen) (el : Bytes l) :
    Calls Try.prog 3 #[.slice A n c] w fun e w' => e = .returned (.bool true) ∧ Below w.heap.size w w' := by
  have RD := Lib.hid rd; have EL := Lib.hid el; clear rd el
  unfold maxLen at cm
  by_cases b0 : 1048576 < n
  · clear RD EL
    go_enter Try.func3, Try.ntmps3
    go_wp2_with fail
    go_ret
    exact ⟨rfl, Below.refl _ _⟩
  have hd0 : decide (1048576 < (n : Int)) = false := by simp; omega
  have HC := Lib.hid (cur.Code.mk RD.out EL.out (by omega)); clear RD EL
  have BB := Lib.hid (Below.refl w.heap.size w)
  go_enter Try.func3, Try.ntmps3
  go_wp2_with fail
  refine (mk.make_any _ _ A n c l HC.out).mono ?_
  rintro e w1_ ⟨v, r, u, N, hN, sf, rfl, sv, b1⟩
  have SFs := Lib.hid sf; clear sf
  have N1 : 1 ≤ N := SFs.out.pos
  obtain ⟨Ps, cs, Qs, ds, rfl⟩ := sv.lens SFs.out.lr SFs.out.lu
  have NR := Lib.hid sv; clear sv
  have s1 := b1.size
  replace BB := Lib.hid (BB.out.trans (b1.mono BB.out.size))
  clear b1
  have Vs := NR; clear NR
  go_wp2_with (refine wpList_store_row rfl 25 _ _ rfl w1_.heap.size #[.slice Ps N cs, .slice Qs N ds] rfl rfl 25 #[.slice none 0 0, .slice none 0 0] (Arr.new w1_ [.slice none 0 0, .slice none 0 0] _ rfl) size2 rfl (by simp [Value.oneCell']) ?_; generalize hw : (w1_.alloc (.cells #[.slice none 0 0, .slice none 0 0] 25)).setRow w1_.heap.size #[.slice Ps N cs, .slice Qs N ds] = w2_; have NB : Hid (Arr w2_ w1_.heap.size [.slice Ps N cs, .slice Qs N ds] 25) := Lib.hid (by rw [← hw]; exact (Arr.new w1_ [.slice none 0 0, .slice none 0 0] _ rfl).row); have b1 : Below w1_.heap.size w1_ w2_ := (by rw [← hw]; exact below_setRow ((Below.refl _ _).alloc (Nat.le_refl _) _) (Nat.le_refl _) _); have t2 : w1_.heap.size + 1 ≤ w2_.heap.size := (by rw [← hw]; simp); clear hw; have s2 := b1.size; replace Vs := Lib.hid (Vs.out.keep b1 Vs.out.top); replace BB := Lib.hid (BB.out.trans (b1.mono BB.out.size)); clear b1; have Bs := NB; clear NB; have Bs_0 := Bs.out.cell (k := 0) rfl; have Bs_1 := Bs.out.cell (k := 1) rfl)
  have CL := Lib.hid (cr_le SFs.out)
  go_wp2_with fail
  refine (an_impl (.agg #[.slice Ps N cs, .slice Qs N ds]) r u _ _ Vs.out.rd (by rw [SFs.out.lr]; omega) (by rw [SFs.out.lu]; omega)).mono ?_
  rintro e w3_ ⟨v, rfl, o1, b1⟩
  rw [cr_len] at o1
  obtain ⟨Aa, ca, rfl⟩ := own_form o1
  have NR := Lib.hid (Row.of_own o1); clear o1
  have s3 := b1.size
  replace Vs := Lib.hid (Vs.out.keep b1 Vs.out.top)
  replace Bs := Lib.hid (Bs.out.keep b1 Bs.out.lt)
  replace BB := Lib.hid (BB.out.trans (b1.mono BB.out.size))
  clear b1
  clear Bs_0 Bs_1
  have Bs_0 := Bs.out.cell (k := 0) rfl
  have Bs_1 := Bs.out.cell (k := 1) rfl
  have Ra := NR; clear NR
  go_wp2_with fail
  refine (st_impl (.agg #[.slice Ps N cs, .slice Qs N ds]) r u _ _ Vs.out.rd (by rw [SFs.out.lr]; omega) (by rw [SFs.out.lu]; omega)).mono ?_
  rintro e w4_ ⟨v, rfl, o1, b1⟩
  obtain ⟨At, ct, rfl⟩ := own_form o1
  have NR := Lib.hid (Row.of_own o1); clear o1
  have TL : Hid ((strF r u).length ≤ 24) := Lib.hid (Nat.le_trans (strL_len _) (by rw [cr_len]; have := CL.out; omega))
  obtain ⟨nt, hnt⟩ : ∃ m, m = (strF r u).length := ⟨_, rfl⟩
  rw [← hnt] at NR TL ⊢; clear hnt
  have s4 := b1.size
  replace Vs := Lib.hid (Vs.out.keep b1 Vs.out.top)
  replace Bs := Lib.hid (Bs.out.keep b1 Bs.out.lt)
  replace Ra := Lib.hid (Ra.out.keep b1 Ra.out.2.1)
  replace BB := Lib.hid (BB.out.trans (b1.mono BB.out.size))
  clear b1
  clear Bs_0 Bs_1
  have Bs_0 := Bs.out.cell (k := 0) rfl
  have Bs_1 := Bs.out.cell (k := 1) rfl
  have Rt := NR; clear NR
  go_wp2_with fail
  refine (co_impl (.agg #[.slice Ps N cs, .slice Qs N ds]) r u _ _ Vs.out.rd (by rw [SFs.out.lr]; omega) (by rw [SFs.out.lu]; omega)).mono ?_
  rintro e w5_ ⟨Ac, cc, rfl, o1, b1⟩
  obtain ⟨M, hM⟩ : ∃ m, m = (corF r u).length := ⟨_, rfl⟩
  have CM : Hid ((corF r u).length = M) := Lib.hid hM.symm
  rw [← hM] at o1 Ra CL ⊢; clear hM
  have NR := Lib.hid o1; clear o1
  have s5 := b1.size
  replace Vs := Lib.hid (Vs.out.keep b1 Vs.out.top)
  replace Bs := Lib.hid (Bs.out.keep b1 Bs.out.lt)
  replace Ra := Lib.hid (Ra.out.keep b1 Ra.out.2.1)
  replace Rt := Lib.hid (Rt.out.keep b1 Rt.out.2.1)
  replace BB := Lib.hid (BB.out.trans (b1.mono BB.out.size))
  clear b1
  clear Bs_0 Bs_1
  have Bs_0 := Bs.out.cell (k := 0) rfl
  have Bs_1 := Bs.out.cell (k := 1) rfl
  have Rc := NR; clear NR
  obtain ⟨G1, G2, G3⟩ := cr_gen SFs.out
  have ST := Lib.hid (cr_str SFs.out)
  go_wp2_with fail
  refine (ge_impl (.agg #[.slice Ps N cs, .slice Qs N ds]) r u _ _ Vs.out.rd (by rw [SFs.out.lr]; omega) (by rw [SFs.out.lu]; omega)).mono ?_
  rintro e w6_ ⟨rfl, b1⟩
  generalize genF r u = G at *
  have s6 := b1.size
  replace Vs := Lib.hid (Vs.out.keep b1 Vs.out.top)
  replace Bs := Lib.hid (Bs.out.keep b1 Bs.out.lt)
  replace Ra := Lib.hid (Ra.out.keep b1 Ra.out.2.1)
  replace Rt := Lib.hid (Rt.out.keep b1 Rt.out.2.1)
  replace Rc := Lib.hid (Rc.out.keep b1 Rc.out.2.1)
  replace BB := Lib.hid (BB.out.trans (b1.mono BB.out.size))
  clear b1
  clear Bs_0 Bs_1
  have Bs_0 := Bs.out.cell (k := 0) rfl
  have Bs_1 := Bs.out.cell (k := 1) rfl
  have hG1 : decide (G < 1) = false := by simp; omega
  obtain ⟨D, hD⟩ : ∃ D, D = 2 * G - 2 := ⟨_, rfl⟩
  obtain ⟨D2, hD2⟩ : ∃ D2, 2 * G = D2 := ⟨_, rfl⟩
  have hD3 : D2 - 2 = D := by omega
  have hw1 : IntKind.i64.wrap D = D := IntWalk.i64_in _ (by omega)
  have hw2 : IntKind.i64.wrap D2 = D2 := IntWalk.i64_in _ (by omega)
  rw [← hD] at ST; clear hD G3
  go_wp2_with fail
  refine wp_region_held_drew (S := Hld w6_.heap.size w6_.heap.size w6_ [(w1_.heap.size, [.slice Ps N cs, .slice Qs N ds])]) (by kernel_rfl) (Hld.start1 Bs.out) (fun hHeld => ?_)
  have b1 : Below w6_.heap.size w6_ w6_.drew := ⟨rfl, rfl, rfl, Nat.le_refl _, fun _ _ => rfl⟩
  generalize w6_.drew = w7_ at *
  have s7 := b1.size
  replace Vs := Lib.hid (Vs.out.keep b1 Vs.out.top)
  replace Bs := Lib.hid (Bs.out.keep b1 Bs.out.lt)
  replace Ra := Lib.hid (Ra.out.keep b1 Ra.out.2.1)
  replace Rt := Lib.hid (Rt.out.keep b1 Rt.out.2.1)
  replace Rc := Lib.hid (Rc.out.keep b1 Rc.out.2.1)
  replace BB := Lib.hid (BB.out.trans (b1.mono BB.out.size))
  clear b1
  clear Bs_0 Bs_1
  have Bs_0 := Bs.out.cell (k := 0) rfl
  have Bs_1 := Bs.out.cell (k := 1) rfl
  refine wpAnyH_take (i := 0) (v := .slice Aa M ca) rfl (by kernel_rfl) (by kernel_rfl) (by kernel_rfl) (fun _ _ _ h => h) (Or.inl ⟨by kernel_rfl, fun w hSw => by go_simp⟩) hHeld ?_
  refine wpAnyH_take (i := 2) (v := .pointer (some ⟨w1_.heap.size, 0, none⟩)) rfl (by kernel_rfl) (by kernel_rfl) (by kernel_rfl) (fun _ _ _ h => h) (Or.inl ⟨by kernel_rfl, fun w hSw => by go_simp⟩) hHeld ?_
  refine wpAnyH_take (i := 3) (v := .slice Ps N cs) rfl (by kernel_rfl) (by kernel_rfl) (by kernel_rfl) (fun _ _ _ h => h) (Or.inl ⟨by kernel_rfl, fun w hSw => by have h0 := hSw.c0; go_simp⟩) hHeld ?_
  refine wpAnyH_take (i := 4) (v := .int .i64 (N : Int)) rfl (by kernel_rfl) (by kernel_rfl) (by kernel_rfl) (fun _ _ _ h => h) (Or.inl ⟨by kernel_rfl, fun w hSw => by go_simp⟩) hHeld ?_
  refine wpAnyH_ready (rs := [1]) (by kernel_rfl) (by simp) (AllReadyH.cons rfl (fun K' hK => ?_) AllReadyH.nil)
  go_simp
  refine (th.total_any Aa M ca (angF r u) _ _ Ra.out.rd (by have := CL.out; omega) (cr_tang SFs.out)).mono ?_
  rintro e w8_ ⟨rfl, b1⟩
  rw [cr_sum SFs.out]
  have hHeld2 := hHeld.later b1 (by omega); clear hHeld
  have s8 := b1.size
  replace Vs := Lib.hid (Vs.out.keep b1 Vs.out.top)
  replace Bs := Lib.hid (Bs.out.keep b1 Bs.out.lt)
  replace Ra := Lib.hid (Ra.out.keep b1 Ra.out.2.1)
  replace Rt := Lib.hid (Rt.out.keep b1 Rt.out.2.1)
  replace Rc := Lib.hid (Rc.out.keep b1 Rc.out.2.1)
  replace BB := Lib.hid (BB.out.trans (b1.mono BB.out.size))
  clear b1
  clear Bs_0 Bs_1
  have Bs_0 := Bs.out.cell (k := 0) rfl
  have Bs_1 := Bs.out.cell (k := 1) rfl
  go_wp2_with fail
  refine hK.out _ _ hHeld2 (fun hHeld => ?_)
  clear hK K' hHeld2
  clear Ra
  refine wpAnyH_take (i := 5) (v := .bool false) rfl (by kernel_rfl) (by kernel_rfl) (by kernel_rfl) (fun _ _ _ h => h) (Or.inl ⟨by kernel_rfl, fun w hSw => by go_simp⟩) hHeld ?_
  refine wpAnyH_take (i := 6) (v := .bool false) rfl (by kernel_rfl) (by kernel_rfl) (by kernel_rfl) (fun _ _ _ h => h) (Or.inl ⟨by kernel_rfl, fun w hSw => by go_simp⟩) hHeld ?_
  refine wpAnyH_take (i := 7) (v := .slice Ac M cc) rfl (by kernel_rfl) (by kernel_rfl) (by kernel_rfl) (fun _ _ _ h => h) (Or.inl ⟨by kernel_rfl, fun w hSw => by go_simp⟩) hHeld ?_
  refine wpAnyH_take (i := 8) (v := .int .i64 (M : Int)) rfl (by kernel_rfl) (by kernel_rfl) (by kernel_rfl) (fun _ _ _ h => h) (Or.inl ⟨by kernel_rfl, fun w hSw => by go_simp⟩) hHeld ?_
  refine wpAnyH_take (i := 9) (v := .slice Aa M ca) rfl (by kernel_rfl) (by kernel_rfl) (by kernel_rfl) (fun _ _ _ h => h) (Or.inl ⟨by kernel_rfl, fun w hSw => by go_simp⟩) hHeld ?_
  refine wpAnyH_take (i := 10) (v := .int .i64 (M : Int)) rfl (by kernel_rfl) (by kernel_rfl) (by kernel_rfl) (fun _ _ _ h => h) (Or.inl ⟨by kernel_rfl, fun w hSw => by go_simp⟩) hHeld ?_
  refine wpAnyH_take (i := 11) (v := .bool false) rfl (by kernel_rfl) (by kernel_rfl) (by kernel_rfl) (fun _ _ _ h => h) (Or.inl ⟨by kernel_rfl, fun w hSw => by go_simp⟩) hHeld ?_
  refine wpAnyH_take (i := 12) (v := .bool false) rfl (by kernel_rfl) (by kernel_rfl) (by kernel_rfl) (fun _ _ _ h => h) (Or.inl ⟨by kernel_rfl, fun w hSw => by go_simp⟩) hHeld ?_
  refine wpAnyH_take (i := 13) (v := .bool false) rfl (by kernel_rfl) (by kernel_rfl) (by kernel_rfl) (fun _ _ _ h => h) (Or.inl ⟨by kernel_rfl, fun w hSw => by go_simp⟩) hHeld ?_
  refine wpAnyH_take (i := 14) (v := .int .i64 G) rfl (by kernel_rfl) (by kernel_rfl) (by kernel_rfl) (fun _ _ _ h => h) (Or.inl ⟨by kernel_rfl, fun w hSw => by go_simp⟩) hHeld ?_
  refine wpAnyH_take (i := 15) (v := .bool false) rfl (by kernel_rfl) (by kernel_rfl) (by kernel_rfl) (fun _ _ _ h => h) (Or.inl ⟨by kernel_rfl, fun w hSw => by go_simp⟩) hHeld ?_
  refine wpAnyH_take (i := 16) (v := .bool false) rfl (by kernel_rfl) (by kernel_rfl) (by kernel_rfl) (fun _ _ _ h => h) (Or.inl ⟨by kernel_rfl, fun w hSw => by go_simp⟩) hHeld ?_
  refine wpAnyH_take (i := 17) (v := .bool false) rfl (by kernel_rfl) (by kernel_rfl) (by kernel_rfl) (fun _ _ _ h => h) (Or.inl ⟨by kernel_rfl, fun w hSw => by go_simp⟩) hHeld ?_
  refine wpAnyH_take (i := 18) (v := .slice At nt ct) rfl (by kernel_rfl) (by kernel_rfl) (by kernel_rfl) (fun _ _ _ h => h) (Or.inl ⟨by kernel_rfl, fun w hSw => by go_simp⟩) hHeld ?_
  refine wpAnyH_take (i := 20) (v := .int .i64 G) rfl (by kernel_rfl) (by kernel_rfl) (by kernel_rfl) (fun _ _ _ h => h) (Or.inl ⟨by kernel_rfl, fun w hSw => by go_simp⟩) hHeld ?_
  refine wpAnyH_take (i := 21) (v := .int .i64 D2) rfl (by kernel_rfl) (by kernel_rfl) (by kernel_rfl) (fun _ _ _ h => h) (Or.inl ⟨by kernel_rfl, fun w hSw => by go_simp⟩) hHeld ?_
  refine wpAnyH_take (i := 22) (v := .int .i64 D) rfl (by kernel_rfl) (by kernel_rfl) (by kernel_rfl) (fun _ _ _ h => h) (Or.inl ⟨by kernel_rfl, fun w hSw => by go_simp⟩) hHeld ?_
  refine wpAnyH_ready (rs := [19]) (by kernel_rfl) (by simp) (AllReadyH.cons rfl (fun K' hK => ?_) AllReadyH.nil)
  go_simp
  refine (th.total_any At nt ct (strF r u) _ _ Rt.out.rd (by have := TL.out; omega) (cr_tstr SFs.out)).mono ?_
  rintro e w9_ ⟨rfl, b1⟩
  rw [ST.out]
  have hHeld2 := hHeld.later b1 (by omega); clear hHeld
  have s9 := b1.size
  replace Vs := Lib.hid (Vs.out.keep b1 Vs.out.top)
  replace Bs := Lib.hid (Bs.out.keep b1 Bs.out.lt)
  replace Rt := Lib.hid (Rt.out.keep b1 Rt.out.2.1)
  replace Rc := Lib.hid (Rc.out.keep b1 Rc.out.2.1)
  replace BB := Lib.hid (BB.out.trans (b1.mono BB.out.size))
  clear b1
  clear Bs_0 Bs_1
  have Bs_0 := Bs.out.cell (k := 0) rfl
  have Bs_1 := Bs.out.cell (k := 1) rfl
  go_wp2_with fail
  refine hK.out _ _ hHeld2 (fun hHeld => ?_)
  clear hK K' hHeld2
  clear Rt
  refine wpAnyH_take (i := 23) (v := .bool false) rfl (by kernel_rfl) (by kernel_rfl) (by kernel_rfl) (fun _ _ _ h => h) (Or.inl ⟨by kernel_rfl, fun w hSw => by go_simp⟩) hHeld ?_
  refine wpAnyH_take (i := 24) (v := .bool false) rfl (by kernel_rfl) (by kernel_rfl) (by kernel_rfl) (fun _ _ _ h => h) (Or.inl ⟨by kernel_rfl, fun w hSw => by go_simp⟩) hHeld ?_
  refine wpAnyH_take (i := 25) (v := .bool false) rfl (by kernel_rfl) (by kernel_rfl) (by kernel_rfl) (fun _ _ _ h => h) (Or.inl ⟨by kernel_rfl, fun w hSw => by go_simp⟩) hHeld ?_
  refine wpAnyH_take (i := 26) (v := .agg #[.slice Ps N cs, .slice Qs N ds]) rfl (by kernel_rfl) (by kernel_rfl) (by kernel_rfl) (fun _ _ _ h => h) (Or.inl ⟨by kernel_rfl, fun w hSw => by have h0 := hSw.c0; have h1 := hSw.c1; go_simp⟩) hHeld ?_
  refine wpAnyH_take (i := 29) (v := .pointer (some ⟨w1_.heap.size, 0, none⟩)) rfl (by kernel_rfl) (by kernel_rfl) (by kernel_rfl) (fun _ _ _ h => h) (Or.inl ⟨by kernel_rfl, fun w hSw => by go_simp⟩) hHeld ?_
  refine wpAnyH_take (i := 30) (v := .slice Ps N cs) rfl (by kernel_rfl) (by kernel_rfl) (by kernel_rfl) (fun _ _ _ h => h) (Or.inl ⟨by kernel_rfl, fun w hSw => by have h0 := hSw.c0; go_simp⟩) hHeld ?_
  refine wpAnyH_take (i := 31) (v := .int .i64 (N : Int)) rfl (by kernel_rfl) (by kernel_rfl) (by kernel_rfl) (fun _ _ _ h => h) (Or.inl ⟨by kernel_rfl, fun w hSw => by go_simp⟩) hHeld ?_
  refine wpAnyH_ready (rs := [27]) (by kernel_rfl) (by simp) (AllReadyH.cons rfl (fun K' hK => ?_) AllReadyH.nil)
  go_simp
  refine (ar_impl (.agg #[.slice Ps N cs, .slice Qs N ds]) r u _ _ Vs.out.rd (by rw [SFs.out.lr]; omega) (by rw [SFs.out.lu]; omega)).mono ?_
  rintro e w10_ ⟨v, rfl, o1, b1⟩
  rw [cr_ar SFs.out] at o1
  obtain ⟨Ao, co, rfl⟩ := own_form o1
  clear o1
  have hHeld2 := hHeld.later b1 (by omega); clear hHeld
  have s10 := b1.size
  replace Vs := Lib.hid (Vs.out.keep b1 Vs.out.top)
  replace Bs := Lib.hid (Bs.out.keep b1 Bs.out.lt)
  replace Rc := Lib.hid (Rc.out.keep b1 Rc.out.2.1)
  replace BB := Lib.hid (BB.out.trans (b1.mono BB.out.size))
  clear b1
  clear Bs_0 Bs_1
  have Bs_0 := Bs.out.cell (k := 0) rfl
  have Bs_1 := Bs.out.cell (k := 1) rfl
  go_wp2_with fail
  refine hK.out _ _ hHeld2 (fun hHeld => ?_)
  clear hK K' hHeld2
  refine wpAnyH_take (i := 28) (v := .int .i64 (N : Int)) rfl (by kernel_rfl) (by kernel_rfl) (by kernel_rfl) (fun _ _ _ h => h) (Or.inl ⟨by kernel_rfl, fun w hSw => by go_simp⟩) hHeld ?_
  refine wpAnyH_take (i := 32) (v := .bool false) rfl (by kernel_rfl) (by kernel_rfl) (by kernel_rfl) (fun _ _ _ h => h) (Or.inl ⟨by kernel_rfl, fun w hSw => by go_simp⟩) hHeld ?_
  refine wpAnyH_take (i := 33) (v := .bool false) rfl (by kernel_rfl) (by kernel_rfl) (by kernel_rfl) (fun _ _ _ h => h) (Or.inl ⟨by kernel_rfl, fun w hSw => by go_simp⟩) hHeld ?_
  refine wpAnyH_done (by kernel_rfl) ?_ _
  clear hHeld hG1 hD2 hD3 hw1 hw2
  go_wp2_with fail
  clear Bs_0 Bs_1
  have hMb : M ≤ 24 := by have := CL.out; omega
  go_loopw [62] (fun i wr => ∃ k : Nat, k ≤ N ∧ i = .int .i64 k ∧ Below w10_.heap.size w10_ wr) (fun i _ => N - (intOf i).toNat)
  case atStart => exact ⟨0, Nat.zero_le _, rfl, Below.refl _ _⟩
  case round =>
    obtain ⟨k, hk, rfl, hb⟩ := hrel
    have HB := Lib.hid hb; clear hb
    by_cases hlt : k < N
    · go_wp2_with fail
      go_loopw [9, 67] (fun f j wr => ∃ q : Nat, q ≤ M ∧ j = .int .i64 q ∧ f = .int .i64 (fnd (k : Int) ((corF r u).take q)) ∧ Below w10_.heap.size w10_ wr) (fun _ j _ => M - (intOf j).toNat)
      case atStart => exact ⟨0, Nat.zero_le _, rfl, rfl, HB.out⟩
      case round =>
        obtain ⟨q, hq, rfl, rfl, hb⟩ := hrel
        clear HB
        have HB := Lib.hid hb; clear hb
        by_cases hlt2 : q < M
        · obtain ⟨G', off, A1, c1, ys, lo, up, rfl, hxk, hcx, rx, _⟩ := (Rc.out.keep HB.out Rc.out.2.1).at_ hlt2
          have hl := tot_row hxk
          have hl2 := (corF_bnd r u).2
          have FT := Lib.hid (fnd_take (i := (k : Int)) hxk)
          have RX := Lib.hid rx
          clear hxk rx
          generalize tot (corF r u) = T at hl hl2
          by_cases hin : (k : Int) ∈ ys
          · have IN := Lib.hid (decide_eq_true hin)
            have F2 : Hid (fnd (k : Int) ((corF r u).take (q + 1)) = (ys.length : Int)) := Lib.hid (by rw [FT.out, if_pos hin])
            clear hin FT
            go_wp2_with fail
            refine (th.has_any A1 ys.length c1 ys (k : Int) _ _ RX.out.rd (by omega)).mono ?_
            rintro e wz ⟨rfl, b1⟩
            rw [IN.out]
            have HB2 := Lib.hid (HB.out.trans (b1.mono HB.out.size))
            clear b1 hcx
            go_wp2
            go_roundw
            case rel => exact ⟨q + 1, by omega, by go_num, by rw [F2.out], HB2.out⟩
            case measure => simp [intOf]; omega
          · have IN := Lib.hid (decide_eq_false hin)
            have F2 : Hid (fnd (k : Int) ((corF r u).take (q + 1)) = fnd (k : Int) ((corF r u).take q)) := Lib.hid (by rw [FT.out, if_neg hin])
            clear hin FT
            go_wp2_with fail
            refine (th.has_any A1 ys.length c1 ys (k : Int) _ _ RX.out.rd (by omega)).mono ?_
            rintro e wz ⟨rfl, b1⟩
            rw [IN.out]
            have HB2 := Lib.hid (HB.out.trans (b1.mono HB.out.size))
            clear b1 hcx
            go_wp2
            go_roundw
            case rel => exact ⟨q + 1, by omega, by go_num, by rw [F2.out], HB2.out⟩
            case measure => simp [intOf]; omega
        · obtain rfl : q = M := by omega
          have e : (corF r u).take q = corF r u := List.take_of_length_le (by rw [CM.out]; exact Nat.le_refl _)
          rw [e]; clear e
          have RG := Lib.hid (cr_reg SFs.out hlt)
          generalize fnd (k : Int) (corF r u) = F at *
          have B2 := Bs.out.keep HB.out Bs.out.lt
          have hc0 := B2.cell (k := 0) rfl
          have hc1 := B2.cell (k := 1) rfl
          have V2 := Lib.hid (Vs.out.keep HB.out Vs.out.top)
          clear B2
          by_cases hF : F = 1
          · have R2 : Hid (regF r u (k : Int) = true) := Lib.hid (by rw [RG.out]; exact decide_eq_true hF)
            subst hF
            go_wp2_with fail
            refine (re_impl (.agg #[.slice Ps N cs, .slice Qs N ds]) r u (k : Int) _ _ V2.out.rd (by rw [SFs.out.lr]; omega) (by rw [SFs.out.lu]; omega) (by omega) (by omega)).mono ?_
            rintro e wz ⟨rfl, b1⟩
            rw [R2.out]
            have HB2 := Lib.hid (HB.out.trans (b1.mono HB.out.size))
            clear b1 hc0 hc1
            go_wp2
            go_roundw
            case rel => exact ⟨k + 1, by omega, by go_num, HB2.out⟩
            case measure => simp [intOf]; omega
          · have R2 : Hid (regF r u (k : Int) = false) := Lib.hid (by rw [RG.out]; exact decide_eq_false hF)
            have hF2 : (F == 1) = false := by simpa using hF
            go_wp2_with fail
            refine (re_impl (.agg #[.slice Ps N cs, .slice Qs N ds]) r u (k : Int) _ _ V2.out.rd (by rw [SFs.out.lr]; omega) (by rw [SFs.out.lu]; omega) (by omega) (by omega)).mono ?_
            rintro e wz ⟨rfl, b1⟩
            rw [R2.out]
            have HB2 := Lib.hid (HB.out.trans (b1.mono HB.out.size))
            clear b1 hc0 hc1
            go_wp2
            go_roundw
            case rel => exact ⟨k + 1, by omega, by go_num, HB2.out⟩
            case measure => simp [intOf]; omega
    · obtain rfl : k = N := by omega
      go_wp2
      go_ret
      exact ⟨rfl, BB.out.trans (HB.out.mono BB.out.size)⟩

set_option maxRecDepth 100000 in
theorem lifted (os : Os) (started : os.Started) (H : Type) (enc : TypeId × Value → H) :
    ReturnsInHanded {} Try.checked os 3 .any (Rows.fnCornersSpec.pre6 enc Try.prog Try.f3 Rows.fnCornersRow.domain false) (Rows.fnCornersSpec.post enc Try.prog Try.f3 false true false false) := by
  refine returnsInHanded_of_change (C := Try.checked) own started (by kernel_rfl) Try.func3
    (ChangeSpec.witness6 (enc := enc) (C := Try.checked) false ⟨#[], #[.slice none 0 0], []⟩ 8 (by kernel_rfl) (by kernel_rfl) (by kernel_rfl) (by kernel_rfl)) ?_
  intro W base args ds gs before hval0 hW hcnd _
  have hval : ∀ (j : Nat) t v, Try.f3.params[j]? = some t → args[j]? = some v → Value.okWide Try.prog W .any base t v := hval0
  have hW' := hW
  obtain ⟨p, q, hA0, hV, rfl, hfz, hnd⟩ := hW
  have hA : DataW.TrodAll enc Try.prog W 0 (fun _ => true) true Try.f3.params.toList args.toList ds p := hA0
  rw [Try.params3] at hA hval
  obtain ⟨v0, vs0, d0, ds0, p0, q0, hargs, rfl, rfl, h0, r0⟩ := trodAll_cons hA
  obtain ⟨rfl, rfl, rfl⟩ := trodAll_nil r0
  obtain rfl : args = #[v0] := by cases args; simp_all
  obtain ⟨rfl, rfl⟩ := trodVars_none hV
  obtain ⟨A0, n0, c0, rfl⟩ := okWide_slice Try.underlying22 (hval 0 22 v0 rfl rfl)
  have lt0 : ∀ x ∈ p0, x.block < W.heap.size := by obtain ⟨m, hm⟩ := h0; exact DataW.trod_lt m _ _ _ hm
  obtain ⟨x0, rd0, cn0, cm0, el0⟩ := open_B Try.underlying22 Try.underlying5 (by kernel_rfl) h0
  clear hA0 hval0
  refine (walk (w := W) A0 n0 c0 x0 rd0 cn0 cm0 el0).mono fun e W' ⟨he, bel⟩ => ?_
  subst he
  exact ⟨_, rfl, _, _, _, [], _, [], hW', trodAll_mk1 (shut_bool Try.underlying4 _), (trodAll_cons_mk (Below.trod laidOut (by kernel_rfl) (of_decide_eq_true (by kernel_rfl)) h0 bel lt0) trodAll_mk0), rfl, bel.frame _, fun h => by cases h⟩

theorem over : Rows.fnCornersRow.holds Try.pinned (OpenSpec.ofChange Rows.fnCornersSpec) :=
  OpenClaim.holds_of_wide 3 Try.f3 rfl rfl rfl rfl rfl rfl rfl ⟨rfl, rfl, rfl, rfl, rfl⟩ rfl rfl rfl rfl rfl (by kernel_rfl) Try.func3 (by kernel_rfl)
    (of_decide_eq_true (by kernel_rfl)) (by unfold Func.isWrapper; first | (rw [if_pos (by decide +kernel)]; kernel_rfl) | (rw [if_neg (by decide +kernel)]; exact ⟨rfl, rfl⟩))
    (fun os started H enc _ => lifted os started H enc)

theorem proved : Rows.FnCornersSaid :=
  over
#print axioms proved
end Go.Proofs.Ytpafloeghbfdgaa.fnCorners
