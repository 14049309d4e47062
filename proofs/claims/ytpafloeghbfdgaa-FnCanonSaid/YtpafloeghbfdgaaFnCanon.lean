/-
  FnCanon: at every argument the law FnCanon returns true, and its arguments read as before. No condition.
-/
import Derived.Test.YtpafloeghbfdgaaRows
import Derived.WalkKit
import Derived.ProofKit
import Derived.OpenShut
import Derived.ShutString
import Derived.ChangeOld
import Derived.Below
import Derived.Test.YtpafloeghbfdgaaME
import Derived.Test.YtpafloeghbfdgaaCanM
import Derived.Test.YtpafloeghbfdgaaMC
namespace Go.Proofs.Ytpafloeghbfdgaa.fnCanon
open Go.ChangeShapes Go.WideShapes Go.ChangeAt Go.RowKit
open Go.ChangeMaps (open_string shut_string)
open Go.Proofs.Ytpafloeghbfdgaa.mem Go.Proofs.Ytpafloeghbfdgaa.ints Go.Proofs.Ytpafloeghbfdgaa.arr Go.Proofs.Ytpafloeghbfdgaa.sf Go.Proofs.Ytpafloeghbfdgaa.pm Go.Proofs.Ytpafloeghbfdgaa.permOk Go.Proofs.Ytpafloeghbfdgaa.fns Go.Proofs.Ytpafloeghbfdgaa.gl Go.Proofs.Ytpafloeghbfdgaa.cur Go.Proofs.Ytpafloeghbfdgaa.cn
set_option linter.unusedVariables false
set_option maxRecDepth 100000

theorem own : ownKnob Try.prog.godebug = none := by kernel_rfl
theorem laidOut : laidOutB Try.prog = true := by kernel_rfl

set_option maxRecDepth 100000 in
set_option maxHeartbeats 4000000 in
theorem walk (w : World) (A : Option Addr) (n c : Nat) (l : List Int) (rd : Rd w w.heap.size A n (U l)) (cn : n ≤ c) (cm : c ≤ maxLen) (el : Bytes l) :
    Calls Try.prog 10 #[.slice A n c] w fun e w' => e = .returned (.bool true) ∧ Below w.heap.size w w' := by
  have RD := Lib.hid rd; have EL := Lib.hid el; clear rd el
  unfold maxLen at cm
  by_cases b0 : 1048576 < n
  · clear RD EL
    go_enter Try.func10, Try.ntmps10
    go_wp2_with fail
    go_ret
    exact ⟨rfl, Below.refl _ _⟩
  have hd0 : decide (1048576 < (n : Int)) = false := by simp; omega
  have HC := Lib.hid (cur.Code.mk RD.out EL.out (by omega)); clear RD EL
  have BB := Lib.hid (Below.refl w.heap.size w)
  go_enter Try.func10, Try.ntmps10
  go_wp2_with fail
  refine (mk.make_any _ _ A n c l HC.out).mono ?_
  rintro e w1_ ⟨v, r, u, N, hN, sf, rfl, sv, b1⟩
  have SFs := Lib.hid sf; clear sf
  have N1 : 1 ≤ N := SFs.out.pos
  obtain ⟨Ps, cs, Qs, ds, rfl⟩ := sv.lens SFs.out.lr SFs.out.lu
  have NR := Lib.hid sv; clear sv
  have s1 := b1.size
  replace BB := Lib.hid (BB.out.trans (b1.mono BB.out.size))
  clear b1
  have Vs := NR; clear NR
  go_wp2_with (refine wpList_store_row rfl 25 _ _ rfl w1_.heap.size #[.slice Ps N cs, .slice Qs N ds] rfl rfl 25 #[.slice none 0 0, .slice none 0 0] (Arr.new w1_ [.slice none 0 0, .slice none 0 0] _ rfl) size2 rfl (by simp [Value.oneCell']) ?_; generalize hw : (w1_.alloc (.cells #[.slice none 0 0, .slice none 0 0] 25)).setRow w1_.heap.size #[.slice Ps N cs, .slice Qs N ds] = w2_; have NB : Hid (Arr w2_ w1_.heap.size [.slice Ps N cs, .slice Qs N ds] 25) := Lib.hid (by rw [← hw]; exact (Arr.new w1_ [.slice none 0 0, .slice none 0 0] _ rfl).row); have b1 : Below w1_.heap.size w1_ w2_ := (by rw [← hw]; exact below_setRow ((Below.refl _ _).alloc (Nat.le_refl _) _) (Nat.le_refl _) _); have t2 : w1_.heap.size + 1 ≤ w2_.heap.size := (by rw [← hw]; simp); clear hw; have s2 := b1.size; replace Vs := Lib.hid (Vs.out.keep b1 Vs.out.top); replace BB := Lib.hid (BB.out.trans (b1.mono BB.out.size)); clear b1; have Bs := NB; clear NB; have Bs_0 := Bs.out.cell (k := 0) rfl; have Bs_1 := Bs.out.cell (k := 1) rfl)
  have hNn : decide (0 = N) = false := by simp; omega
  go_wp2_with fail
  refine (makeP_any _ _ A n c l 40 N (by omega) N1 (by omega) (HC.out.keep BB.out (Nat.le_refl _))).mono ?_
  rintro e w3_ ⟨An, cn', ns, okn, ln, rfl, r1, b1⟩
  have OKn := Lib.hid okn; have Ln := Lib.hid ln; have NR := Lib.hid r1; clear okn ln r1
  have s3 := b1.size
  replace Vs := Lib.hid (Vs.out.keep b1 Vs.out.top)
  replace Bs := Lib.hid (Bs.out.keep b1 Bs.out.lt)
  replace BB := Lib.hid (BB.out.trans (b1.mono BB.out.size))
  clear b1
  clear Bs_0 Bs_1
  have Bs_0 := Bs.out.cell (k := 0) rfl
  have Bs_1 := Bs.out.cell (k := 1) rfl
  have Rn := NR; clear NR
  obtain ⟨rx1, rx2, rx3⟩ := cn_rs SFs.out OKn.out Ln.out
  have ISO := Lib.hid rx2; have SFx := Lib.hid rx3; have RX := Lib.hid rx1; clear rx1 rx2 rx3
  go_wp2_with fail
  refine (rs_impl (.agg #[.slice Ps N cs, .slice Qs N ds]) r u An N cn' ns _ _ _ Vs.out.rd Rn.out.rd (by rw [SFs.out.lr]; omega) (by rw [SFs.out.lu]; omega) (by omega)).mono ?_
  rintro e w4_ ⟨v, rfl, sv, b1⟩
  rw [RX.out]
  obtain ⟨Px, cx, Qx, dx, rfl⟩ := sv.lens SFx.out.lr SFx.out.lu
  have NR := Lib.hid sv; clear sv
  have s4 := b1.size
  replace Vs := Lib.hid (Vs.out.keep b1 Vs.out.top)
  replace Bs := Lib.hid (Bs.out.keep b1 Bs.out.lt)
  replace Rn := Lib.hid (Rn.out.keep b1 Rn.out.2.1)
  replace BB := Lib.hid (BB.out.trans (b1.mono BB.out.size))
  clear b1
  clear Bs_0 Bs_1
  have Bs_0 := Bs.out.cell (k := 0) rfl
  have Bs_1 := Bs.out.cell (k := 1) rfl
  have Vx := NR; clear NR
  generalize rsR r u ns = rx at *
  generalize rsU r u ns = ux at *
  clear Rn
  go_wp2_with (refine wpList_store_row rfl 25 _ _ rfl w4_.heap.size #[.slice Px N cx, .slice Qx N dx] rfl rfl 25 #[.slice none 0 0, .slice none 0 0] (Arr.new w4_ [.slice none 0 0, .slice none 0 0] _ rfl) size2 rfl (by simp [Value.oneCell']) ?_; generalize hw : (w4_.alloc (.cells #[.slice none 0 0, .slice none 0 0] 25)).setRow w4_.heap.size #[.slice Px N cx, .slice Qx N dx] = w5_; have NB : Hid (Arr w5_ w4_.heap.size [.slice Px N cx, .slice Qx N dx] 25) := Lib.hid (by rw [← hw]; exact (Arr.new w4_ [.slice none 0 0, .slice none 0 0] _ rfl).row); have b1 : Below w4_.heap.size w4_ w5_ := (by rw [← hw]; exact below_setRow ((Below.refl _ _).alloc (Nat.le_refl _) _) (Nat.le_refl _) _); have t5 : w4_.heap.size + 1 ≤ w5_.heap.size := (by rw [← hw]; simp); clear hw; have s5 := b1.size; replace Vs := Lib.hid (Vs.out.keep b1 Vs.out.top); replace Bs := Lib.hid (Bs.out.keep b1 Bs.out.lt); replace Vx := Lib.hid (Vx.out.keep b1 Vx.out.top); replace BB := Lib.hid (BB.out.trans (b1.mono BB.out.size)); clear b1; clear Bs_0 Bs_1; have Bs_0 := Bs.out.cell (k := 0) rfl; have Bs_1 := Bs.out.cell (k := 1) rfl; have Bx := NB; clear NB; have Bx_0 := Bx.out.cell (k := 0) rfl; have Bx_1 := Bx.out.cell (k := 1) rfl)
  have EQ := Lib.hid (cn_iso_cf ISO.out SFx.out)
  have ID := Lib.hid (cn_idem SFs.out)
  have SFa := Lib.hid (cn_can SFs.out); have Ta := Lib.hid (cn_t SFs.out)
  go_wp2_with fail
  refine (cf_impl (.agg #[.slice Ps N cs, .slice Qs N ds]) r u _ _ Vs.out.rd (by rw [SFs.out.lr]; omega) (by rw [SFs.out.lu]; omega)).mono ?_
  rintro e w6_ ⟨v, rfl, sv, b1⟩
  rw [Ta.out]
  obtain ⟨Pa, ca, Qa, da, rfl⟩ := sv.lens SFa.out.lr SFa.out.lu
  have NR := Lib.hid sv; clear sv
  have s6 := b1.size
  replace Vs := Lib.hid (Vs.out.keep b1 Vs.out.top)
  replace Bs := Lib.hid (Bs.out.keep b1 Bs.out.lt)
  replace Vx := Lib.hid (Vx.out.keep b1 Vx.out.top)
  replace Bx := Lib.hid (Bx.out.keep b1 Bx.out.lt)
  replace BB := Lib.hid (BB.out.trans (b1.mono BB.out.size))
  clear b1
  clear Bs_0 Bs_1
  have Bs_0 := Bs.out.cell (k := 0) rfl
  have Bs_1 := Bs.out.cell (k := 1) rfl
  clear Bx_0 Bx_1
  have Bx_0 := Bx.out.cell (k := 0) rfl
  have Bx_1 := Bx.out.cell (k := 1) rfl
  have Va := NR; clear NR
  clear Ta
  go_wp2_with (refine wpList_store_row rfl 25 _ _ rfl w6_.heap.size #[.slice Pa N ca, .slice Qa N da] rfl rfl 25 #[.slice none 0 0, .slice none 0 0] (Arr.new w6_ [.slice none 0 0, .slice none 0 0] _ rfl) size2 rfl (by simp [Value.oneCell']) ?_; generalize hw : (w6_.alloc (.cells #[.slice none 0 0, .slice none 0 0] 25)).setRow w6_.heap.size #[.slice Pa N ca, .slice Qa N da] = w7_; have NB : Hid (Arr w7_ w6_.heap.size [.slice Pa N ca, .slice Qa N da] 25) := Lib.hid (by rw [← hw]; exact (Arr.new w6_ [.slice none 0 0, .slice none 0 0] _ rfl).row); have b1 : Below w6_.heap.size w6_ w7_ := (by rw [← hw]; exact below_setRow ((Below.refl _ _).alloc (Nat.le_refl _) _) (Nat.le_refl _) _); have t7 : w6_.heap.size + 1 ≤ w7_.heap.size := (by rw [← hw]; simp); clear hw; have s7 := b1.size; replace Vs := Lib.hid (Vs.out.keep b1 Vs.out.top); replace Bs := Lib.hid (Bs.out.keep b1 Bs.out.lt); replace Vx := Lib.hid (Vx.out.keep b1 Vx.out.top); replace Bx := Lib.hid (Bx.out.keep b1 Bx.out.lt); replace Va := Lib.hid (Va.out.keep b1 Va.out.top); replace BB := Lib.hid (BB.out.trans (b1.mono BB.out.size)); clear b1; clear Bs_0 Bs_1; have Bs_0 := Bs.out.cell (k := 0) rfl; have Bs_1 := Bs.out.cell (k := 1) rfl; clear Bx_0 Bx_1; have Bx_0 := Bx.out.cell (k := 0) rfl; have Bx_1 := Bx.out.cell (k := 1) rfl; have Ba := NB; clear NB; have Ba_0 := Ba.out.cell (k := 0) rfl; have Ba_1 := Ba.out.cell (k := 1) rfl)
  have SFb := Lib.hid (cn_can SFx.out); have Tb := Lib.hid (cn_t SFx.out)
  go_wp2_with fail
  refine (cf_impl (.agg #[.slice Px N cx, .slice Qx N dx]) rx ux _ _ Vx.out.rd (by rw [SFx.out.lr]; omega) (by rw [SFx.out.lu]; omega)).mono ?_
  rintro e w8_ ⟨v, rfl, sv, b1⟩
  rw [Tb.out]
  obtain ⟨Pb, cb, Qb, db, rfl⟩ := sv.lens SFb.out.lr SFb.out.lu
  have NR := Lib.hid sv; clear sv
  have s8 := b1.size
  replace Vs := Lib.hid (Vs.out.keep b1 Vs.out.top)
  replace Bs := Lib.hid (Bs.out.keep b1 Bs.out.lt)
  replace Vx := Lib.hid (Vx.out.keep b1 Vx.out.top)
  replace Bx := Lib.hid (Bx.out.keep b1 Bx.out.lt)
  replace Va := Lib.hid (Va.out.keep b1 Va.out.top)
  replace Ba := Lib.hid (Ba.out.keep b1 Ba.out.lt)
  replace BB := Lib.hid (BB.out.trans (b1.mono BB.out.size))
  clear b1
  clear Bs_0 Bs_1
  have Bs_0 := Bs.out.cell (k := 0) rfl
  have Bs_1 := Bs.out.cell (k := 1) rfl
  clear Bx_0 Bx_1
  have Bx_0 := Bx.out.cell (k := 0) rfl
  have Bx_1 := Bx.out.cell (k := 1) rfl
  clear Ba_0 Ba_1
  have Ba_0 := Ba.out.cell (k := 0) rfl
  have Ba_1 := Ba.out.cell (k := 1) rfl
  have Vb := NR; clear NR
  clear Tb
  go_wp2_with (refine wpList_store_row rfl 25 _ _ rfl w8_.heap.size #[.slice Pb N cb, .slice Qb N db] rfl rfl 25 #[.slice none 0 0, .slice none 0 0] (Arr.new w8_ [.slice none 0 0, .slice none 0 0] _ rfl) size2 rfl (by simp [Value.oneCell']) ?_; generalize hw : (w8_.alloc (.cells #[.slice none 0 0, .slice none 0 0] 25)).setRow w8_.heap.size #[.slice Pb N cb, .slice Qb N db] = w9_; have NB : Hid (Arr w9_ w8_.heap.size [.slice Pb N cb, .slice Qb N db] 25) := Lib.hid (by rw [← hw]; exact (Arr.new w8_ [.slice none 0 0, .slice none 0 0] _ rfl).row); have b1 : Below w8_.heap.size w8_ w9_ := (by rw [← hw]; exact below_setRow ((Below.refl _ _).alloc (Nat.le_refl _) _) (Nat.le_refl _) _); have t9 : w8_.heap.size + 1 ≤ w9_.heap.size := (by rw [← hw]; simp); clear hw; have s9 := b1.size; replace Vs := Lib.hid (Vs.out.keep b1 Vs.out.top); replace Bs := Lib.hid (Bs.out.keep b1 Bs.out.lt); replace Vx := Lib.hid (Vx.out.keep b1 Vx.out.top); replace Bx := Lib.hid (Bx.out.keep b1 Bx.out.lt); replace Va := Lib.hid (Va.out.keep b1 Va.out.top); replace Ba := Lib.hid (Ba.out.keep b1 Ba.out.lt); replace Vb := Lib.hid (Vb.out.keep b1 Vb.out.top); replace BB := Lib.hid (BB.out.trans (b1.mono BB.out.size)); clear b1; clear Bs_0 Bs_1; have Bs_0 := Bs.out.cell (k := 0) rfl; have Bs_1 := Bs.out.cell (k := 1) rfl; clear Bx_0 Bx_1; have Bx_0 := Bx.out.cell (k := 0) rfl; have Bx_1 := Bx.out.cell (k := 1) rfl; clear Ba_0 Ba_1; have Ba_0 := Ba.out.cell (k := 0) rfl; have Ba_1 := Ba.out.cell (k := 1) rfl; have Bb := NB; clear NB; have Bb_0 := Bb.out.cell (k := 0) rfl; have Bb_1 := Bb.out.cell (k := 1) rfl)
  have SFc' := Lib.hid (cn_can SFa.out); have Tc' := Lib.hid (cn_t SFa.out)
  go_wp2_with fail
  refine (cf_impl (.agg #[.slice Pa N ca, .slice Qa N da]) (cfR r u) (cfU r u) _ _ Va.out.rd (by rw [SFa.out.lr]; omega) (by rw [SFa.out.lu]; omega)).mono ?_
  rintro e w10_ ⟨v, rfl, sv, b1⟩
  rw [Tc'.out]
  obtain ⟨Pc', cc', Qc', dc', rfl⟩ := sv.lens SFc'.out.lr SFc'.out.lu
  have NR := Lib.hid sv; clear sv
  have s10 := b1.size
  replace Vs := Lib.hid (Vs.out.keep b1 Vs.out.top)
  replace Bs := Lib.hid (Bs.out.keep b1 Bs.out.lt)
  replace Vx := Lib.hid (Vx.out.keep b1 Vx.out.top)
  replace Bx := Lib.hid (Bx.out.keep b1 Bx.out.lt)
  replace Va := Lib.hid (Va.out.keep b1 Va.out.top)
  replace Ba := Lib.hid (Ba.out.keep b1 Ba.out.lt)
  replace Vb := Lib.hid (Vb.out.keep b1 Vb.out.top)
  replace Bb := Lib.hid (Bb.out.keep b1 Bb.out.lt)
  replace BB := Lib.hid (BB.out.trans (b1.mono BB.out.size))
  clear b1
  clear Bs_0 Bs_1
  have Bs_0 := Bs.out.cell (k := 0) rfl
  have Bs_1 := Bs.out.cell (k := 1) rfl
  clear Bx_0 Bx_1
  have Bx_0 := Bx.out.cell (k := 0) rfl
  have Bx_1 := Bx.out.cell (k := 1) rfl
  clear Ba_0 Ba_1
  have Ba_0 := Ba.out.cell (k := 0) rfl
  have Ba_1 := Ba.out.cell (k := 1) rfl
  clear Bb_0 Bb_1
  have Bb_0 := Bb.out.cell (k := 0) rfl
  have Bb_1 := Bb.out.cell (k := 1) rfl
  have Vc' := NR; clear NR
  clear Tc'
  go_wp2_with (refine wpList_store_row rfl 25 _ _ rfl w10_.heap.size #[.slice Pc' N cc', .slice Qc' N dc'] rfl rfl 25 #[.slice none 0 0, .slice none 0 0] (Arr.new w10_ [.slice none 0 0, .slice none 0 0] _ rfl) size2 rfl (by simp [Value.oneCell']) ?_; generalize hw : (w10_.alloc (.cells #[.slice none 0 0, .slice none 0 0] 25)).setRow w10_.heap.size #[.slice Pc' N cc', .slice Qc' N dc'] = w11_; have NB : Hid (Arr w11_ w10_.heap.size [.slice Pc' N cc', .slice Qc' N dc'] 25) := Lib.hid (by rw [← hw]; exact (Arr.new w10_ [.slice none 0 0, .slice none 0 0] _ rfl).row); have b1 : Below w10_.heap.size w10_ w11_ := (by rw [← hw]; exact below_setRow ((Below.refl _ _).alloc (Nat.le_refl _) _) (Nat.le_refl _) _); have t11 : w10_.heap.size + 1 ≤ w11_.heap.size := (by rw [← hw]; simp); clear hw; have s11 := b1.size; replace Vs := Lib.hid (Vs.out.keep b1 Vs.out.top); replace Bs := Lib.hid (Bs.out.keep b1 Bs.out.lt); replace Vx := Lib.hid (Vx.out.keep b1 Vx.out.top); replace Bx := Lib.hid (Bx.out.keep b1 Bx.out.lt); replace Va := Lib.hid (Va.out.keep b1 Va.out.top); replace Ba := Lib.hid (Ba.out.keep b1 Ba.out.lt); replace Vb := Lib.hid (Vb.out.keep b1 Vb.out.top); replace Bb := Lib.hid (Bb.out.keep b1 Bb.out.lt); replace Vc' := Lib.hid (Vc'.out.keep b1 Vc'.out.top); replace BB := Lib.hid (BB.out.trans (b1.mono BB.out.size)); clear b1; clear Bs_0 Bs_1; have Bs_0 := Bs.out.cell (k := 0) rfl; have Bs_1 := Bs.out.cell (k := 1) rfl; clear Bx_0 Bx_1; have Bx_0 := Bx.out.cell (k := 0) rfl; have Bx_1 := Bx.out.cell (k := 1) rfl; clear Ba_0 Ba_1; have Ba_0 := Ba.out.cell (k := 0) rfl; have Ba_1 := Ba.out.cell (k := 1) rfl; clear Bb_0 Bb_1; have Bb_0 := Bb.out.cell (k := 0) rfl; have Bb_1 := Bb.out.cell (k := 1) rfl; have Bc' := NB; clear NB; have Bc'_0 := Bc'.out.cell (k := 0) rfl; have Bc'_1 := Bc'.out.cell (k := 1) rfl)
  obtain ⟨K, CK, K1, K2, K3⟩ := cn_cs SFs.out
  have CX := Lib.hid (cn_cs_iso ISO.out SFx.out)
  have HCK := Lib.hid CK; clear CK
  go_wp2_with fail
  refine (cs_impl (.agg #[.slice Ps N cs, .slice Qs N ds]) r u _ _ Vs.out.rd (by rw [SFs.out.lr]; omega) (by rw [SFs.out.lu]; omega)).mono ?_
  rintro e w12_ ⟨rfl, b1⟩
  rw [HCK.out]
  have s12 := b1.size
  replace Vs := Lib.hid (Vs.out.keep b1 Vs.out.top)
  replace Bs := Lib.hid (Bs.out.keep b1 Bs.out.lt)
  replace Vx := Lib.hid (Vx.out.keep b1 Vx.out.top)
  replace Bx := Lib.hid (Bx.out.keep b1 Bx.out.lt)
  replace Va := Lib.hid (Va.out.keep b1 Va.out.top)
  replace Ba := Lib.hid (Ba.out.keep b1 Ba.out.lt)
  replace Vb := Lib.hid (Vb.out.keep b1 Vb.out.top)
  replace Bb := Lib.hid (Bb.out.keep b1 Bb.out.lt)
  replace Vc' := Lib.hid (Vc'.out.keep b1 Vc'.out.top)
  replace Bc' := Lib.hid (Bc'.out.keep b1 Bc'.out.lt)
  replace BB := Lib.hid (BB.out.trans (b1.mono BB.out.size))
  clear b1
  clear Bs_0 Bs_1
  have Bs_0 := Bs.out.cell (k := 0) rfl
  have Bs_1 := Bs.out.cell (k := 1) rfl
  clear Bx_0 Bx_1
  have Bx_0 := Bx.out.cell (k := 0) rfl
  have Bx_1 := Bx.out.cell (k := 1) rfl
  clear Ba_0 Ba_1
  have Ba_0 := Ba.out.cell (k := 0) rfl
  have Ba_1 := Ba.out.cell (k := 1) rfl
  clear Bb_0 Bb_1
  have Bb_0 := Bb.out.cell (k := 0) rfl
  have Bb_1 := Bb.out.cell (k := 1) rfl
  clear Bc'_0 Bc'_1
  have Bc'_0 := Bc'.out.cell (k := 0) rfl
  have Bc'_1 := Bc'.out.cell (k := 1) rfl
  go_wp2_with fail
  refine (same_impl (.agg #[.slice Pa N ca, .slice Qa N da]) (cfR r u) (cfU r u) (.agg #[.slice Pb N cb, .slice Qb N db]) (cfR rx ux) (cfU rx ux) _ _ _ Va.out.rd Vb.out.rd (by rw [SFa.out.lr]; omega) (by rw [SFa.out.lu]; omega) (by rw [SFb.out.lr]; omega) (by rw [SFb.out.lu]; omega)).mono ?_
  rintro e w13_ ⟨rfl, b1⟩
  rw [cn_same EQ.out]
  have s13 := b1.size
  replace Vs := Lib.hid (Vs.out.keep b1 Vs.out.top)
  replace Bs := Lib.hid (Bs.out.keep b1 Bs.out.lt)
  replace Vx := Lib.hid (Vx.out.keep b1 Vx.out.top)
  replace Bx := Lib.hid (Bx.out.keep b1 Bx.out.lt)
  replace Va := Lib.hid (Va.out.keep b1 Va.out.top)
  replace Ba := Lib.hid (Ba.out.keep b1 Ba.out.lt)
  replace Vb := Lib.hid (Vb.out.keep b1 Vb.out.top)
  replace Bb := Lib.hid (Bb.out.keep b1 Bb.out.lt)
  replace Vc' := Lib.hid (Vc'.out.keep b1 Vc'.out.top)
  replace Bc' := Lib.hid (Bc'.out.keep b1 Bc'.out.lt)
  replace BB := Lib.hid (BB.out.trans (b1.mono BB.out.size))
  clear b1
  clear Bs_0 Bs_1
  have Bs_0 := Bs.out.cell (k := 0) rfl
  have Bs_1 := Bs.out.cell (k := 1) rfl
  clear Bx_0 Bx_1
  have Bx_0 := Bx.out.cell (k := 0) rfl
  have Bx_1 := Bx.out.cell (k := 1) rfl
  clear Ba_0 Ba_1
  have Ba_0 := Ba.out.cell (k := 0) rfl
  have Ba_1 := Ba.out.cell (k := 1) rfl
  clear Bb_0 Bb_1
  have Bb_0 := Bb.out.cell (k := 0) rfl
  have Bb_1 := Bb.out.cell (k := 1) rfl
  clear Bc'_0 Bc'_1
  have Bc'_0 := Bc'.out.cell (k := 0) rfl
  have Bc'_1 := Bc'.out.cell (k := 1) rfl
  clear Vb
  clear Bb
  clear Bb_0 Bb_1
  go_wp2_with fail
  refine (same_impl (.agg #[.slice Pa N ca, .slice Qa N da]) (cfR r u) (cfU r u) (.agg #[.slice Pc' N cc', .slice Qc' N dc']) (cfR (cfR r u) (cfU r u)) (cfU (cfR r u) (cfU r u)) _ _ _ Va.out.rd Vc'.out.rd (by rw [SFa.out.lr]; omega) (by rw [SFa.out.lu]; omega) (by rw [SFc'.out.lr]; omega) (by rw [SFc'.out.lu]; omega)).mono ?_
  rintro e w14_ ⟨rfl, b1⟩
  rw [cn_same ID.out]
  have s14 := b1.size
  replace Vs := Lib.hid (Vs.out.keep b1 Vs.out.top)
  replace Bs := Lib.hid (Bs.out.keep b1 Bs.out.lt)
  replace Vx := Lib.hid (Vx.out.keep b1 Vx.out.top)
  replace Bx := Lib.hid (Bx.out.keep b1 Bx.out.lt)
  replace Va := Lib.hid (Va.out.keep b1 Va.out.top)
  replace Ba := Lib.hid (Ba.out.keep b1 Ba.out.lt)
  replace Vc' := Lib.hid (Vc'.out.keep b1 Vc'.out.top)
  replace Bc' := Lib.hid (Bc'.out.keep b1 Bc'.out.lt)
  replace BB := Lib.hid (BB.out.trans (b1.mono BB.out.size))
  clear b1
  clear Bs_0 Bs_1
  have Bs_0 := Bs.out.cell (k := 0) rfl
  have Bs_1 := Bs.out.cell (k := 1) rfl
  clear Bx_0 Bx_1
  have Bx_0 := Bx.out.cell (k := 0) rfl
  have Bx_1 := Bx.out.cell (k := 1) rfl
  clear Ba_0 Ba_1
  have Ba_0 := Ba.out.cell (k := 0) rfl
  have Ba_1 := Ba.out.cell (k := 1) rfl
  clear Bc'_0 Bc'_1
  have Bc'_0 := Bc'.out.cell (k := 0) rfl
  have Bc'_1 := Bc'.out.cell (k := 1) rfl
  clear Va
  clear Ba
  clear Ba_0 Ba_1
  clear Vc'
  clear Bc'
  clear Bc'_0 Bc'_1
  go_wp2_with fail
  refine (iso_impl (.agg #[.slice Ps N cs, .slice Qs N ds]) r u (.agg #[.slice Px N cx, .slice Qx N dx]) rx ux _ _ _ Vs.out.rd Vx.out.rd (by rw [SFs.out.lr]; omega) (by rw [SFs.out.lu]; omega) (by rw [SFx.out.lr]; omega) (by rw [SFx.out.lu]; omega)).mono ?_
  rintro e w15_ ⟨rfl, b1⟩
  rw [(cn_iso ISO.out SFx.out).1]
  have s15 := b1.size
  replace Vs := Lib.hid (Vs.out.keep b1 Vs.out.top)
  replace Bs := Lib.hid (Bs.out.keep b1 Bs.out.lt)
  replace Vx := Lib.hid (Vx.out.keep b1 Vx.out.top)
  replace Bx := Lib.hid (Bx.out.keep b1 Bx.out.lt)
  replace BB := Lib.hid (BB.out.trans (b1.mono BB.out.size))
  clear b1
  clear Bs_0 Bs_1
  have Bs_0 := Bs.out.cell (k := 0) rfl
  have Bs_1 := Bs.out.cell (k := 1) rfl
  clear Bx_0 Bx_1
  have Bx_0 := Bx.out.cell (k := 0) rfl
  have Bx_1 := Bx.out.cell (k := 1) rfl
  have hK1 : decide ((K : Int) < 1) = false := by simp; omega
  have hK0 : ¬ K = 0 := by omega
  go_wp2_with fail
  refine (cs_impl (.agg #[.slice Px N cx, .slice Qx N dx]) rx ux _ _ Vx.out.rd (by rw [SFx.out.lr]; omega) (by rw [SFx.out.lu]; omega)).mono ?_
  rintro e w16_ ⟨rfl, b1⟩
  rw [CX.out, HCK.out]
  have s16 := b1.size
  replace Vs := Lib.hid (Vs.out.keep b1 Vs.out.top)
  replace Bs := Lib.hid (Bs.out.keep b1 Bs.out.lt)
  replace Vx := Lib.hid (Vx.out.keep b1 Vx.out.top)
  replace Bx := Lib.hid (Bx.out.keep b1 Bx.out.lt)
  replace BB := Lib.hid (BB.out.trans (b1.mono BB.out.size))
  clear b1
  clear Bs_0 Bs_1
  have Bs_0 := Bs.out.cell (k := 0) rfl
  have Bs_1 := Bs.out.cell (k := 1) rfl
  clear Bx_0 Bx_1
  have Bx_0 := Bx.out.cell (k := 0) rfl
  have Bx_1 := Bx.out.cell (k := 1) rfl
  clear Vx
  clear Bx
  clear Bx_0 Bx_1
  go_wp2_with fail
  clear hK1 hK0 EQ ID CX HCK K1 K2 K3 hNn hd0
  refine wp_region_held_drew (S := Hld w16_.heap.size w16_.heap.size w16_ [(w1_.heap.size, [.slice Ps N cs, .slice Qs N ds])]) (by kernel_rfl) (Hld.start1 Bs.out) (fun hHeld => ?_)
  have b1 : Below w16_.heap.size w16_ w16_.drew := ⟨rfl, rfl, rfl, Nat.le_refl _, fun _ _ => rfl⟩
  generalize w16_.drew = w17_ at *
  have s17 := b1.size
  replace Vs := Lib.hid (Vs.out.keep b1 Vs.out.top)
  replace Bs := Lib.hid (Bs.out.keep b1 Bs.out.lt)
  replace BB := Lib.hid (BB.out.trans (b1.mono BB.out.size))
  clear b1
  clear Bs_0 Bs_1
  have Bs_0 := Bs.out.cell (k := 0) rfl
  have Bs_1 := Bs.out.cell (k := 1) rfl
  refine wpAnyH_take (i := 0) (v := .agg #[.slice Ps N cs, .slice Qs N ds]) rfl (by kernel_rfl) (by kernel_rfl) (by kernel_rfl) (fun _ _ _ h => h) (Or.inl ⟨by rfl, fun w hSw => by have h0 := hSw.c0; have h1 := hSw.c1; go_simp⟩) hHeld ?_
  refine wpAnyH_take (i := 1) (v := .slice A n c) rfl (by kernel_rfl) (by kernel_rfl) (by kernel_rfl) (fun _ _ _ h => h) (Or.inl ⟨by rfl, fun w hSw => by go_simp⟩) hHeld ?_
  refine wpAnyH_take (i := 3) (v := .int .i64 (N : Int)) rfl (by kernel_rfl) (by kernel_rfl) (by kernel_rfl) (fun _ _ _ h => h) (Or.inl ⟨by rfl, fun w hSw => by go_simp⟩) hHeld ?_
  refine wpAnyH_ready (rs := [2]) (by kernel_rfl) (by simp) (AllReadyH.cons rfl (fun K' hK => ?_) AllReadyH.nil)
  go_simp
  refine (num_any _ _ A n c l 60 (by omega) (HC.out.keep BB.out (Nat.le_refl _))).mono ?_
  rintro e w18_ ⟨x, x0, x1, rfl, b1⟩
  have hHeld2 := hHeld.later b1 (by omega); clear hHeld
  have s18 := b1.size
  replace Vs := Lib.hid (Vs.out.keep b1 Vs.out.top)
  replace Bs := Lib.hid (Bs.out.keep b1 Bs.out.lt)
  replace BB := Lib.hid (BB.out.trans (b1.mono BB.out.size))
  clear b1
  clear Bs_0 Bs_1
  have Bs_0 := Bs.out.cell (k := 0) rfl
  have Bs_1 := Bs.out.cell (k := 1) rfl
  go_wp2_with fail
  refine hK.out _ _ hHeld2 (fun hHeld => ?_)
  clear hK K' hHeld2
  obtain ⟨z, hz⟩ := Int.eq_ofNat_of_zero_le (show 0 ≤ x.tmod (N : Int) by rw [Int.tmod_eq_emod_of_nonneg x0]; exact Int.emod_nonneg _ (by omega))
  have hzN : z < N := by have := Int.emod_lt_of_pos x (show 0 < (N : Int) by omega); rw [← Int.tmod_eq_emod_of_nonneg x0, hz] at this; omega
  have hN0 : ¬ N = 0 := by omega
  clear x0 x1
  refine wpAnyH_ready (rs := [4]) (by kernel_rfl) (by simp) (AllReadyH.cons rfl (fun K' hK => ?_) AllReadyH.nil)
  go_simp
  refine hK.out _ _ hHeld (fun hHeld2 => ?_)
  clear hK K' hHeld hN0 hz
  refine wpAnyH_ready (rs := [5]) (by kernel_rfl) (by simp) (AllReadyH.cons rfl (fun K' hK => ?_) AllReadyH.nil)
  go_simp
  obtain ⟨okl, ll⟩ := cn_nf SFs.out (a := (z : Int)) (by omega) (by omega)
  refine (nf_impl (.agg #[.slice Ps N cs, .slice Qs N ds]) r u (z : Int) _ _ Vs.out.rd (by rw [SFs.out.lr]; omega) (by rw [SFs.out.lu]; omega) (by omega) (by omega)).mono ?_
  rintro e w19_ ⟨v, rfl, o1, b1⟩
  obtain ⟨Al, cl', rfl⟩ := own_form o1
  rw [ll] at o1 ⊢
  generalize nfF r u (z : Int) = nl at *
  have OKl := Lib.hid okl; have Ll := Lib.hid ll; have NR := Lib.hid (Row.of_own o1); clear okl ll o1
  have hHeld := hHeld2.later b1 (by omega); clear hHeld2
  have s19 := b1.size
  replace Vs := Lib.hid (Vs.out.keep b1 Vs.out.top)
  replace Bs := Lib.hid (Bs.out.keep b1 Bs.out.lt)
  replace BB := Lib.hid (BB.out.trans (b1.mono BB.out.size))
  clear b1
  clear Bs_0 Bs_1
  have Bs_0 := Bs.out.cell (k := 0) rfl
  have Bs_1 := Bs.out.cell (k := 1) rfl
  have Rl := NR; clear NR
  go_wp2_with fail
  refine hK.out _ _ hHeld (fun hHeld2 => ?_)
  clear hK K' hHeld
  refine wpAnyH_ready (rs := [6]) (by kernel_rfl) (by simp) (AllReadyH.cons rfl (fun K' hK => ?_) AllReadyH.nil)
  go_simp
  refine hK.out _ _ hHeld2 (fun hHeld => ?_)
  clear hK K' hHeld2 hHeld
  refine wpAnyH_done (by kernel_rfl) ?_ _
  obtain ⟨rx1, rx2, rx3⟩ := cn_rs SFs.out OKl.out Ll.out
  have ISO2 := Lib.hid rx2; have SFy := Lib.hid rx3; have RY := Lib.hid rx1; clear rx1 rx2 rx3
  go_wp2_with fail
  refine (rs_impl (.agg #[.slice Ps N cs, .slice Qs N ds]) r u Al N cl' nl _ _ _ Vs.out.rd Rl.out.rd (by rw [SFs.out.lr]; omega) (by rw [SFs.out.lu]; omega) (by omega)).mono ?_
  rintro e w20_ ⟨v, rfl, sv, b1⟩
  rw [RY.out]
  obtain ⟨Py, cy, Qy, dy, rfl⟩ := sv.lens SFy.out.lr SFy.out.lu
  have NR := Lib.hid sv; clear sv
  have s20 := b1.size
  replace Vs := Lib.hid (Vs.out.keep b1 Vs.out.top)
  replace Bs := Lib.hid (Bs.out.keep b1 Bs.out.lt)
  replace Rl := Lib.hid (Rl.out.keep b1 Rl.out.2.1)
  replace BB := Lib.hid (BB.out.trans (b1.mono BB.out.size))
  clear b1
  clear Bs_0 Bs_1
  have Bs_0 := Bs.out.cell (k := 0) rfl
  have Bs_1 := Bs.out.cell (k := 1) rfl
  have Vy := NR; clear NR
  generalize rsR r u nl = ry at *
  generalize rsU r u nl = uy at *
  go_wp2_with (refine wpList_store_row rfl 25 _ _ rfl w20_.heap.size #[.slice Py N cy, .slice Qy N dy] rfl rfl 25 #[.slice none 0 0, .slice none 0 0] (Arr.new w20_ [.slice none 0 0, .slice none 0 0] _ rfl) size2 rfl (by simp [Value.oneCell']) ?_; generalize hw : (w20_.alloc (.cells #[.slice none 0 0, .slice none 0 0] 25)).setRow w20_.heap.size #[.slice Py N cy, .slice Qy N dy] = w21_; have NB : Hid (Arr w21_ w20_.heap.size [.slice Py N cy, .slice Qy N dy] 25) := Lib.hid (by rw [← hw]; exact (Arr.new w20_ [.slice none 0 0, .slice none 0 0] _ rfl).row); have b1 : Below w20_.heap.size w20_ w21_ := (by rw [← hw]; exact below_setRow ((Below.refl _ _).alloc (Nat.le_refl _) _) (Nat.le_refl _) _); have t21 : w20_.heap.size + 1 ≤ w21_.heap.size := (by rw [← hw]; simp); clear hw; have s21 := b1.size; replace Vs := Lib.hid (Vs.out.keep b1 Vs.out.top); replace Bs := Lib.hid (Bs.out.keep b1 Bs.out.lt); replace Rl := Lib.hid (Rl.out.keep b1 Rl.out.2.1); replace Vy := Lib.hid (Vy.out.keep b1 Vy.out.top); replace BB := Lib.hid (BB.out.trans (b1.mono BB.out.size)); clear b1; clear Bs_0 Bs_1; have Bs_0 := Bs.out.cell (k := 0) rfl; have Bs_1 := Bs.out.cell (k := 1) rfl; have By := NB; clear NB; have By_0 := By.out.cell (k := 0) rfl; have By_1 := By.out.cell (k := 1) rfl)
  go_wp2_with fail
  refine (fns.ok_impl Al N cl' nl _ _ Rl.out.rd (by omega)).mono ?_
  rintro e w22_ ⟨rfl, b1⟩
  rw [OKl.out.b]
  have s22 := b1.size
  replace Vs := Lib.hid (Vs.out.keep b1 Vs.out.top)
  replace Bs := Lib.hid (Bs.out.keep b1 Bs.out.lt)
  replace Rl := Lib.hid (Rl.out.keep b1 Rl.out.2.1)
  replace Vy := Lib.hid (Vy.out.keep b1 Vy.out.top)
  replace By := Lib.hid (By.out.keep b1 By.out.lt)
  replace BB := Lib.hid (BB.out.trans (b1.mono BB.out.size))
  clear b1
  clear Bs_0 Bs_1
  have Bs_0 := Bs.out.cell (k := 0) rfl
  have Bs_1 := Bs.out.cell (k := 1) rfl
  clear By_0 By_1
  have By_0 := By.out.cell (k := 0) rfl
  have By_1 := By.out.cell (k := 1) rfl
  go_wp2_with fail
  refine (iso_impl (.agg #[.slice Py N cy, .slice Qy N dy]) ry uy (.agg #[.slice Ps N cs, .slice Qs N ds]) r u _ _ _ Vy.out.rd Vs.out.rd (by rw [SFy.out.lr]; omega) (by rw [SFy.out.lu]; omega) (by rw [SFs.out.lr]; omega) (by rw [SFs.out.lu]; omega)).mono ?_
  rintro e w23_ ⟨rfl, b1⟩
  rw [(cn_iso ISO2.out SFy.out).2]
  have s23 := b1.size
  replace Vs := Lib.hid (Vs.out.keep b1 Vs.out.top)
  replace Bs := Lib.hid (Bs.out.keep b1 Bs.out.lt)
  replace Rl := Lib.hid (Rl.out.keep b1 Rl.out.2.1)
  replace Vy := Lib.hid (Vy.out.keep b1 Vy.out.top)
  replace By := Lib.hid (By.out.keep b1 By.out.lt)
  replace BB := Lib.hid (BB.out.trans (b1.mono BB.out.size))
  clear b1
  clear Bs_0 Bs_1
  have Bs_0 := Bs.out.cell (k := 0) rfl
  have Bs_1 := Bs.out.cell (k := 1) rfl
  clear By_0 By_1
  have By_0 := By.out.cell (k := 0) rfl
  have By_1 := By.out.cell (k := 1) rfl
  go_wp2_with fail
  refine (cnt_impl (.agg #[.slice Ps N cs, .slice Qs N ds]) r u _ _ Vs.out.rd (by rw [SFs.out.lr]; omega) (by rw [SFs.out.lu]; omega)).mono ?_
  rintro e w24_ ⟨rfl, b1⟩
  rw [cn_cnt SFs.out]
  have s24 := b1.size
  replace Vs := Lib.hid (Vs.out.keep b1 Vs.out.top)
  replace Bs := Lib.hid (Bs.out.keep b1 Bs.out.lt)
  replace Rl := Lib.hid (Rl.out.keep b1 Rl.out.2.1)
  replace Vy := Lib.hid (Vy.out.keep b1 Vy.out.top)
  replace By := Lib.hid (By.out.keep b1 By.out.lt)
  replace BB := Lib.hid (BB.out.trans (b1.mono BB.out.size))
  clear b1
  clear Bs_0 Bs_1
  have Bs_0 := Bs.out.cell (k := 0) rfl
  have Bs_1 := Bs.out.cell (k := 1) rfl
  clear By_0 By_1
  have By_0 := By.out.cell (k := 0) rfl
  have By_1 := By.out.cell (k := 1) rfl
  go_wp2_with fail
  go_ret
  exact ⟨rfl, BB.out⟩

set_option maxRecDepth 100000 in
theorem lifted (os : Os) (started : os.Started) (H : Type) (enc : TypeId × Value → H) :
    ReturnsInHanded {} Try.checked os 10 .any (Rows.fnCanonSpec.pre6 enc Try.prog Try.f10 Rows.fnCanonRow.domain false) (Rows.fnCanonSpec.post enc Try.prog Try.f10 false true false false) := by
  refine returnsInHanded_of_change (C := Try.checked) own started (by kernel_rfl) Try.func10
    (ChangeSpec.witness6 (enc := enc) (C := Try.checked) false ⟨#[], #[.slice none 0 0], []⟩ 8 (by kernel_rfl) (by kernel_rfl) (by kernel_rfl) (by kernel_rfl)) ?_
  intro W base args ds gs before hval0 hW hcnd _
  have hval : ∀ (j : Nat) t v, Try.f10.params[j]? = some t → args[j]? = some v → Value.okWide Try.prog W .any base t v := hval0
  have hW' := hW
  obtain ⟨p, q, hA0, hV, rfl, hfz, hnd⟩ := hW
  have hA : DataW.TrodAll enc Try.prog W 0 (fun _ => true) true Try.f10.params.toList args.toList ds p := hA0
  rw [Try.params10] at hA hval
  obtain ⟨v0, vs0, d0, ds0, p0, q0, hargs, rfl, rfl, h0, r0⟩ := trodAll_cons hA
  obtain ⟨rfl, rfl, rfl⟩ := trodAll_nil r0
  obtain rfl : args = #[v0] := by cases args; simp_all
  obtain ⟨rfl, rfl⟩ := trodVars_none hV
  obtain ⟨A0, n0, c0, rfl⟩ := okWide_slice Try.underlying22 (hval 0 22 v0 rfl rfl)
  have lt0 : ∀ x ∈ p0, x.block < W.heap.size := by obtain ⟨m, hm⟩ := h0; exact DataW.trod_lt m _ _ _ hm
  obtain ⟨x0, rd0, cn0, cm0, el0⟩ := open_B Try.underlying22 Try.underlying5 (by kernel_rfl) h0
  clear hA0 hval0
  refine (walk (w := W) A0 n0 c0 x0 rd0 cn0 cm0 el0).mono fun e W' ⟨he, bel⟩ => ?_
  subst he
  exact ⟨_, rfl, _, _, _, [], _, [], hW', trodAll_mk1 (shut_bool Try.underlying4 _), (trodAll_cons_mk (Below.trod laidOut (by kernel_rfl) (of_decide_eq_true (by kernel_rfl)) h0 bel lt0) trodAll_mk0), rfl, bel.frame _, fun h => by cases h⟩

theorem over : Rows.fnCanonRow.holds Try.pinned (OpenSpec.ofChange Rows.fnCanonSpec) :=
  OpenClaim.holds_of_wide 10 Try.f10 rfl rfl rfl rfl rfl rfl rfl ⟨rfl, rfl, rfl, rfl, rfl⟩ rfl rfl rfl rfl rfl (by kernel_rfl) Try.func10 (by kernel_rfl)
    (of_decide_eq_true (by kernel_rfl)) (by unfold Func.isWrapper; first | (rw [if_pos (by decide +kernel)]; kernel_rfl) | (rw [if_neg (by decide +kernel)]; exact ⟨rfl, rfl⟩))
    (fun os started H enc _ => lifted os started H enc)

theorem proved : Rows.FnCanonSaid :=
  over
#print axioms proved
end Go.Proofs.Ytpafloeghbfdgaa.fnCanon
