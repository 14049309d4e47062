/-
  FnPerms: at every argument the law FnPerms returns true, and its arguments read as before. No condition.
-/
import Derived.Test.YtjnmgpdjolaleaaRows
import Derived.WalkKit
import Derived.ProofKit
import Derived.OpenShut
import Derived.ShutString
import Derived.ChangeOld
import Derived.Below
import Derived.Test.YtjnmgpdjolaleaaGrp
import Derived.Test.YtjnmgpdjolaleaaDrawP
import Derived.Test.YtjnmgpdjolaleaaSort
import Derived.Test.YtjnmgpdjolaleaaCycSpec
import Derived.Test.YtjnmgpdjolaleaaRen
import Derived.Test.YtjnmgpdjolaleaaOpenB
import Derived.Test.YtjnmgpdjolaleaaCycs
namespace Go.Proofs.Ytjnmgpdjolaleaa.fnPerms
open Go.ChangeShapes Go.WideShapes Go.ChangeAt Go.RowKit
open Go.ChangeMaps (open_string shut_string)
open Go.Proofs.Ytjnmgpdjolaleaa.mem Go.Proofs.Ytjnmgpdjolaleaa.ints Go.Proofs.Ytjnmgpdjolaleaa.cur Go.Proofs.Ytjnmgpdjolaleaa.pm Go.Proofs.Ytjnmgpdjolaleaa.fns Go.Proofs.Ytjnmgpdjolaleaa.mat
set_option linter.unusedVariables false

theorem own : ownKnob Try.prog.godebug = none := by kernel_rfl
theorem laidOut : laidOutB Try.prog = true := by kernel_rfl

set_option maxRecDepth 100000 in
set_option maxHeartbeats 4000000 in
theorem walk (w : World) (A : Option Addr) (n c : Nat) (l : List Int) (rd : Rd w w.heap.size A n (U l)) (cn : n ≤ c) (cm : c ≤ maxLen) (el : Bytes l) :
    Calls Try.prog 3 #[.slice A n c] w fun e w' => e = .returned (.bool true) ∧ Below w.heap.size w w' := by
  have RD := Lib.hid rd; have EL := Lib.hid el; clear rd el
  unfold maxLen at cm
  by_cases b0 : 1048576 < n
  · clear RD EL
    go_enter Try.func3, Try.ntmps3
    go_wp2_with fail
    go_ret
    exact ⟨rfl, Below.refl _ _⟩
  have hd0 : decide (1048576 < (n : Int)) = false := by simp; omega
  have HC := Lib.hid (cur.Code.mk RD.out EL.out (by omega)); clear RD EL
  have BB := Lib.hid (Below.refl w.heap.size w)
  go_enter Try.func3, Try.ntmps3
  go_wp2_with fail
  refine (num_any w _ A n c l 1 (by omega) HC.out).mono ?_
  rintro e w1_ ⟨x, x0, x1, rfl, b1⟩
  have s1 := b1.size
  replace BB := Lib.hid (BB.out.trans (b1.mono BB.out.size))
  clear b1
  obtain ⟨m, hm, m1, m8⟩ : ∃ m : Nat, 1 + x % 8 = (m : Int) ∧ 1 ≤ m ∧ m ≤ 8 := ⟨(1 + x % 8).toNat, by omega, by omega, by omega⟩
  go_wp2_with fail
  clear hm x0 x1
  refine (makeP_any _ _ A n c l 3 m (by omega) m1 (by omega) (HC.out.keep BB.out (Nat.le_refl _))).mono ?_
  rintro e w2_ ⟨Ap, cp, p, okp, lp, rfl, r1, b1⟩
  have OKp := Lib.hid okp; have Lp := Lib.hid lp; have NR := Lib.hid r1; clear okp lp r1
  have s2 := b1.size
  replace BB := Lib.hid (BB.out.trans (b1.mono BB.out.size))
  clear b1
  have Rp := NR; clear NR
  go_wp2_with fail
  refine (makeP_any _ _ A n c l 20 m (by omega) m1 (by omega) (HC.out.keep BB.out (Nat.le_refl _))).mono ?_
  rintro e w3_ ⟨Aq, cq, q, okq, lq, rfl, r1, b1⟩
  have OKq := Lib.hid okq; have Lq := Lib.hid lq; have NR := Lib.hid r1; clear okq lq r1
  have s3 := b1.size
  replace Rp := Lib.hid (Rp.out.keep b1 Rp.out.2.1)
  replace BB := Lib.hid (BB.out.trans (b1.mono BB.out.size))
  clear b1
  have Rq := NR; clear NR
  go_wp2_with fail
  refine (makeP_any _ _ A n c l 40 m (by omega) m1 (by omega) (HC.out.keep BB.out (Nat.le_refl _))).mono ?_
  rintro e w4_ ⟨As, cs, s, oks, ls, rfl, r1, b1⟩
  have OKs := Lib.hid oks; have Ls := Lib.hid ls; have NR := Lib.hid r1; clear oks ls r1
  have s4 := b1.size
  replace Rp := Lib.hid (Rp.out.keep b1 Rp.out.2.1)
  replace Rq := Lib.hid (Rq.out.keep b1 Rq.out.2.1)
  replace BB := Lib.hid (BB.out.trans (b1.mono BB.out.size))
  clear b1
  have Rs := NR; clear NR
  go_wp2_with fail
  refine (id_impl (m : Int) _ (by omega) (by omega)).mono ?_
  rintro e w5_ ⟨v, rfl, o1, b1⟩
  obtain ⟨Ai, ci, rfl⟩ := own_form o1
  have li : (idF (m : Int)).length ≤ 1048576 := idF_len _
  have NR := Lib.hid (Row.of_own o1); clear o1
  generalize hq : idF (m : Int) = i at *
  have Ei := Lib.hid hq.symm; clear hq
  have s5 := b1.size
  replace Rp := Lib.hid (Rp.out.keep b1 Rp.out.2.1)
  replace Rq := Lib.hid (Rq.out.keep b1 Rq.out.2.1)
  replace Rs := Lib.hid (Rs.out.keep b1 Rs.out.2.1)
  replace BB := Lib.hid (BB.out.trans (b1.mono BB.out.size))
  clear b1
  have Ri := NR; clear NR
  go_wp2_with fail
  refine (then_impl Ap m cp p Aq m cq q _ _ _ Rp.out.rd Rq.out.rd (by omega) (by omega)).mono ?_
  rintro e w6_ ⟨v, rfl, o1, b1⟩
  obtain ⟨Ar, cr, rfl⟩ := own_form o1
  have lr : (thenF p q).length ≤ 1048576 := thenF_len _ _
  have NR := Lib.hid (Row.of_own o1); clear o1
  generalize hq : thenF p q = r at *
  have Er := Lib.hid hq.symm; clear hq
  have s6 := b1.size
  replace Rp := Lib.hid (Rp.out.keep b1 Rp.out.2.1)
  replace Rq := Lib.hid (Rq.out.keep b1 Rq.out.2.1)
  replace Rs := Lib.hid (Rs.out.keep b1 Rs.out.2.1)
  replace Ri := Lib.hid (Ri.out.keep b1 Ri.out.2.1)
  replace BB := Lib.hid (BB.out.trans (b1.mono BB.out.size))
  clear b1
  have Rr := NR; clear NR
  go_wp2_with fail
  refine (inv_impl Aq m cq q _ _ Rq.out.rd (by omega)).mono ?_
  rintro e w7_ ⟨v, rfl, o1, b1⟩
  obtain ⟨Aa, ca, rfl⟩ := own_form o1
  have la : (invF q).length ≤ 1048576 := invF_len _
  have NR := Lib.hid (Row.of_own o1); clear o1
  generalize hq : invF q = a at *
  have Ea := Lib.hid hq.symm; clear hq
  have s7 := b1.size
  replace Rp := Lib.hid (Rp.out.keep b1 Rp.out.2.1)
  replace Rq := Lib.hid (Rq.out.keep b1 Rq.out.2.1)
  replace Rs := Lib.hid (Rs.out.keep b1 Rs.out.2.1)
  replace Ri := Lib.hid (Ri.out.keep b1 Ri.out.2.1)
  replace Rr := Lib.hid (Rr.out.keep b1 Rr.out.2.1)
  replace BB := Lib.hid (BB.out.trans (b1.mono BB.out.size))
  clear b1
  have Ra := NR; clear NR
  go_wp2_with fail
  refine (inv_impl Ap m cp p _ _ Rp.out.rd (by omega)).mono ?_
  rintro e w8_ ⟨v, rfl, o1, b1⟩
  obtain ⟨Ab, cb, rfl⟩ := own_form o1
  have lb : (invF p).length ≤ 1048576 := invF_len _
  have NR := Lib.hid (Row.of_own o1); clear o1
  generalize hq : invF p = b at *
  have Eb := Lib.hid hq.symm; clear hq
  have s8 := b1.size
  replace Rp := Lib.hid (Rp.out.keep b1 Rp.out.2.1)
  replace Rq := Lib.hid (Rq.out.keep b1 Rq.out.2.1)
  replace Rs := Lib.hid (Rs.out.keep b1 Rs.out.2.1)
  replace Ri := Lib.hid (Ri.out.keep b1 Ri.out.2.1)
  replace Rr := Lib.hid (Rr.out.keep b1 Rr.out.2.1)
  replace Ra := Lib.hid (Ra.out.keep b1 Ra.out.2.1)
  replace BB := Lib.hid (BB.out.trans (b1.mono BB.out.size))
  clear b1
  have Rb := NR; clear NR
  go_wp2_with fail
  refine (then_impl Aa a.length ca a Ab b.length cb b _ _ _ Ra.out.rd Rb.out.rd (by omega) (by omega)).mono ?_
  rintro e w9_ ⟨v, rfl, o1, b1⟩
  obtain ⟨Ad, cd, rfl⟩ := own_form o1
  have ld : (thenF a b).length ≤ 1048576 := thenF_len _ _
  have NR := Lib.hid (Row.of_own o1); clear o1
  generalize hq : thenF a b = d at *
  have Ed := Lib.hid hq.symm; clear hq
  have s9 := b1.size
  replace Rp := Lib.hid (Rp.out.keep b1 Rp.out.2.1)
  replace Rq := Lib.hid (Rq.out.keep b1 Rq.out.2.1)
  replace Rs := Lib.hid (Rs.out.keep b1 Rs.out.2.1)
  replace Ri := Lib.hid (Ri.out.keep b1 Ri.out.2.1)
  replace Rr := Lib.hid (Rr.out.keep b1 Rr.out.2.1)
  replace Ra := Lib.hid (Ra.out.keep b1 Ra.out.2.1)
  replace Rb := Lib.hid (Rb.out.keep b1 Rb.out.2.1)
  replace BB := Lib.hid (BB.out.trans (b1.mono BB.out.size))
  clear b1
  have Rd := NR; clear NR
  clear Ra
  clear Rb
  clear Rq
  go_wp2_with fail
  refine (ren_impl Ap m cp p As m cs s _ _ _ Rp.out.rd Rs.out.rd (by omega) (by omega)).mono ?_
  rintro e w10_ ⟨v, rfl, o1, b1⟩
  obtain ⟨Ax', cx', rfl⟩ := own_form o1
  have lx' : (renF p s).length ≤ 1048576 := renF_len _ _
  have NR := Lib.hid (Row.of_own o1); clear o1
  generalize hq : renF p s = x' at *
  have Ex' := Lib.hid hq.symm; clear hq
  have s10 := b1.size
  replace Rp := Lib.hid (Rp.out.keep b1 Rp.out.2.1)
  replace Rs := Lib.hid (Rs.out.keep b1 Rs.out.2.1)
  replace Ri := Lib.hid (Ri.out.keep b1 Ri.out.2.1)
  replace Rr := Lib.hid (Rr.out.keep b1 Rr.out.2.1)
  replace Rd := Lib.hid (Rd.out.keep b1 Rd.out.2.1)
  replace BB := Lib.hid (BB.out.trans (b1.mono BB.out.size))
  clear b1
  have Rx' := NR; clear NR
  go_wp2_with fail
  refine (cyc_impl Ap m cp p _ _ Rp.out.rd (by omega)).mono ?_
  rintro e w11_ ⟨AK1, cK1, rfl, o1, b1⟩
  have lK1 : (cycF p).length ≤ 1048576 := (cycF_small _).1
  have tK1 : tot (cycF p) ≤ 1048576 := (cycF_small _).2
  have NR := Lib.hid o1; clear o1
  generalize hq : cycF p = K1 at *
  have EK1 := Lib.hid hq.symm; clear hq
  have s11 := b1.size
  replace Rp := Lib.hid (Rp.out.keep b1 Rp.out.2.1)
  replace Rs := Lib.hid (Rs.out.keep b1 Rs.out.2.1)
  replace Ri := Lib.hid (Ri.out.keep b1 Ri.out.2.1)
  replace Rr := Lib.hid (Rr.out.keep b1 Rr.out.2.1)
  replace Rd := Lib.hid (Rd.out.keep b1 Rd.out.2.1)
  replace Rx' := Lib.hid (Rx'.out.keep b1 Rx'.out.2.1)
  replace BB := Lib.hid (BB.out.trans (b1.mono BB.out.size))
  clear b1
  have RK1 := NR; clear NR
  go_wp2_with fail
  have TOT : Hid (tot K1 = m) := Lib.hid (by rw [EK1.out]; exact cyc_tot OKp.out Lp.out)
  go_loop [11, 47] (fun t i => ∃ j : Nat, j ≤ K1.length ∧ i = .int .i64 j ∧ t = .int .i64 (tot (K1.take j) : Nat)) (fun _ i => K1.length - (intOf i).toNat)
  case atStart => exact ⟨0, Nat.zero_le _, rfl, rfl⟩
  case round =>
    obtain ⟨j, hj, rfl, rfl⟩ := hrel
    have hle := tot_le K1 j
    by_cases hlt : j < K1.length
    · obtain ⟨G, off, A1, c1, ys, lo, up, rfl, hxk, hcx, rx, _⟩ := RK1.out.at_ hlt
      have b1 := tot_row hxk
      have TT := Lib.hid (tot_take hxk)
      clear hxk rx
      go_wp2
      go_round
      case rel => exact ⟨j + 1, by omega, by go_num, by rw [TT.out]; go_num⟩
      case measure => simp [intOf]; omega
    obtain rfl : j = K1.length := by omega
    have TM : Hid (tot (K1.take K1.length) = m) := Lib.hid (by rw [List.take_of_length_le (Nat.le_refl _)]; exact TOT.out)
    rw [TM.out]
    clear hle hlt hj TM TOT RK1
    go_wp2_with fail
    refine (inv_impl As m cs s _ _ Rs.out.rd (by omega)).mono ?_
    rintro e w12_ ⟨v, rfl, o1, b1⟩
    obtain ⟨Af, cf, rfl⟩ := own_form o1
    have lf : (invF s).length ≤ 1048576 := invF_len _
    have NR := Lib.hid (Row.of_own o1); clear o1
    generalize hq : invF s = f at *
    have Ef := Lib.hid hq.symm; clear hq
    have s12 := b1.size
    replace Rp := Lib.hid (Rp.out.keep b1 Rp.out.2.1)
    replace Rs := Lib.hid (Rs.out.keep b1 Rs.out.2.1)
    replace Ri := Lib.hid (Ri.out.keep b1 Ri.out.2.1)
    replace Rr := Lib.hid (Rr.out.keep b1 Rr.out.2.1)
    replace Rd := Lib.hid (Rd.out.keep b1 Rd.out.2.1)
    replace Rx' := Lib.hid (Rx'.out.keep b1 Rx'.out.2.1)
    replace BB := Lib.hid (BB.out.trans (b1.mono BB.out.size))
    clear b1
    have Rf := NR; clear NR
    go_wp2_with fail
    refine (then_impl Af f.length cf f Ap m cp p _ _ _ Rf.out.rd Rp.out.rd (by omega) (by omega)).mono ?_
    rintro e w13_ ⟨v, rfl, o1, b1⟩
    obtain ⟨Ah, ch, rfl⟩ := own_form o1
    have lh : (thenF f p).length ≤ 1048576 := thenF_len _ _
    have NR := Lib.hid (Row.of_own o1); clear o1
    generalize hq : thenF f p = h at *
    have Eh := Lib.hid hq.symm; clear hq
    have s13 := b1.size
    replace Rp := Lib.hid (Rp.out.keep b1 Rp.out.2.1)
    replace Rs := Lib.hid (Rs.out.keep b1 Rs.out.2.1)
    replace Ri := Lib.hid (Ri.out.keep b1 Ri.out.2.1)
    replace Rr := Lib.hid (Rr.out.keep b1 Rr.out.2.1)
    replace Rd := Lib.hid (Rd.out.keep b1 Rd.out.2.1)
    replace Rx' := Lib.hid (Rx'.out.keep b1 Rx'.out.2.1)
    replace Rf := Lib.hid (Rf.out.keep b1 Rf.out.2.1)
    replace BB := Lib.hid (BB.out.trans (b1.mono BB.out.size))
    clear b1
    have Rh := NR; clear NR
    go_wp2_with fail
    refine (then_impl Ah h.length ch h As m cs s _ _ _ Rh.out.rd Rs.out.rd (by omega) (by omega)).mono ?_
    rintro e w14_ ⟨v, rfl, o1, b1⟩
    obtain ⟨Ay, cy, rfl⟩ := own_form o1
    have ly : (thenF h s).length ≤ 1048576 := thenF_len _ _
    have NR := Lib.hid (Row.of_own o1); clear o1
    generalize hq : thenF h s = y at *
    have Ey := Lib.hid hq.symm; clear hq
    have s14 := b1.size
    replace Rp := Lib.hid (Rp.out.keep b1 Rp.out.2.1)
    replace Rs := Lib.hid (Rs.out.keep b1 Rs.out.2.1)
    replace Ri := Lib.hid (Ri.out.keep b1 Ri.out.2.1)
    replace Rr := Lib.hid (Rr.out.keep b1 Rr.out.2.1)
    replace Rd := Lib.hid (Rd.out.keep b1 Rd.out.2.1)
    replace Rx' := Lib.hid (Rx'.out.keep b1 Rx'.out.2.1)
    replace Rf := Lib.hid (Rf.out.keep b1 Rf.out.2.1)
    replace Rh := Lib.hid (Rh.out.keep b1 Rh.out.2.1)
    replace BB := Lib.hid (BB.out.trans (b1.mono BB.out.size))
    clear b1
    have Ry := NR; clear NR
    clear Rf
    clear Rh
    clear Rs
    have HI : Hid (i.length = m) := Lib.hid (by rw [Ei.out, idF_of (by omega), rng_len])
    rw [HI.out]
    replace Ri : Hid (Row w14_ _ _ Ai m (V i)) := Lib.hid (by have := Ri.out; rw [HI.out] at this; exact this)
    go_wp2_with fail
    refine (then_impl Ar r.length cr r Ad d.length cd d _ _ _ Rr.out.rd Rd.out.rd (by omega) (by omega)).mono ?_
    rintro e w15_ ⟨v, rfl, o1, b1⟩
    obtain ⟨Ag, cg, rfl⟩ := own_form o1
    have lg : (thenF r d).length ≤ 1048576 := thenF_len _ _
    have NR := Lib.hid (Row.of_own o1); clear o1
    generalize hq : thenF r d = g at *
    have Eg := Lib.hid hq.symm; clear hq
    have s15 := b1.size
    replace Rp := Lib.hid (Rp.out.keep b1 Rp.out.2.1)
    replace Ri := Lib.hid (Ri.out.keep b1 Ri.out.2.1)
    replace Rr := Lib.hid (Rr.out.keep b1 Rr.out.2.1)
    replace Rd := Lib.hid (Rd.out.keep b1 Rd.out.2.1)
    replace Rx' := Lib.hid (Rx'.out.keep b1 Rx'.out.2.1)
    replace Ry := Lib.hid (Ry.out.keep b1 Ry.out.2.1)
    replace BB := Lib.hid (BB.out.trans (b1.mono BB.out.size))
    clear b1
    have Rg := NR; clear NR
    go_wp2_with fail
    have hs : Hid (eqi g i = true) := Lib.hid (by rw [Eg.out, Er.out, Ed.out, Ea.out, Eb.out, Ei.out, grp_id OKp.out OKq.out Lp.out Lq.out]; exact eqi_self _)
    refine (same_any Ag g.length cg Ai m ci g i _ _ _ Rg.out.rd Ri.out.rd (by unfold maxLen; omega) (by unfold maxLen; omega)).mono ?_
    rintro e w16_ ⟨rfl, hd⟩
    rw [hs.out]; clear hs
    have b1 := hd.below w15_.heap.size; clear hd
    have s16 := b1.size
    replace Rp := Lib.hid (Rp.out.keep b1 Rp.out.2.1)
    replace Ri := Lib.hid (Ri.out.keep b1 Ri.out.2.1)
    replace Rr := Lib.hid (Rr.out.keep b1 Rr.out.2.1)
    replace Rd := Lib.hid (Rd.out.keep b1 Rd.out.2.1)
    replace Rx' := Lib.hid (Rx'.out.keep b1 Rx'.out.2.1)
    replace Ry := Lib.hid (Ry.out.keep b1 Ry.out.2.1)
    replace Rg := Lib.hid (Rg.out.keep b1 Rg.out.2.1)
    replace BB := Lib.hid (BB.out.trans (b1.mono BB.out.size))
    clear b1
    clear Rg
    clear Ri
    go_wp2_with fail
    refine (inv_impl Ar r.length cr r _ _ Rr.out.rd (by omega)).mono ?_
    rintro e w17_ ⟨v, rfl, o1, b1⟩
    obtain ⟨Aj', cj', rfl⟩ := own_form o1
    have lj' : (invF r).length ≤ 1048576 := invF_len _
    have NR := Lib.hid (Row.of_own o1); clear o1
    generalize hq : invF r = j' at *
    have Ej' := Lib.hid hq.symm; clear hq
    have s17 := b1.size
    replace Rp := Lib.hid (Rp.out.keep b1 Rp.out.2.1)
    replace Rr := Lib.hid (Rr.out.keep b1 Rr.out.2.1)
    replace Rd := Lib.hid (Rd.out.keep b1 Rd.out.2.1)
    replace Rx' := Lib.hid (Rx'.out.keep b1 Rx'.out.2.1)
    replace Ry := Lib.hid (Ry.out.keep b1 Ry.out.2.1)
    replace BB := Lib.hid (BB.out.trans (b1.mono BB.out.size))
    clear b1
    have Rj' := NR; clear NR
    go_wp2_with fail
    have hs : Hid (eqi j' d = true) := Lib.hid (by rw [Ej'.out, Er.out, Ed.out, Ea.out, Eb.out, grp_inv OKp.out OKq.out Lp.out Lq.out]; exact eqi_self _)
    refine (same_any Aj' j'.length cj' Ad d.length cd j' d _ _ _ Rj'.out.rd Rd.out.rd (by unfold maxLen; omega) (by unfold maxLen; omega)).mono ?_
    rintro e w18_ ⟨rfl, hd⟩
    rw [hs.out]; clear hs
    have b1 := hd.below w17_.heap.size; clear hd
    have s18 := b1.size
    replace Rp := Lib.hid (Rp.out.keep b1 Rp.out.2.1)
    replace Rr := Lib.hid (Rr.out.keep b1 Rr.out.2.1)
    replace Rd := Lib.hid (Rd.out.keep b1 Rd.out.2.1)
    replace Rx' := Lib.hid (Rx'.out.keep b1 Rx'.out.2.1)
    replace Ry := Lib.hid (Ry.out.keep b1 Ry.out.2.1)
    replace Rj' := Lib.hid (Rj'.out.keep b1 Rj'.out.2.1)
    replace BB := Lib.hid (BB.out.trans (b1.mono BB.out.size))
    clear b1
    clear Rj'
    clear Rd
    clear Rr
    go_wp2_with fail
    have hs : Hid (eqi x' y = true) := Lib.hid (by rw [Ex'.out, Ey.out, Eh.out, Ef.out, grp_ren OKp.out OKs.out Lp.out Ls.out]; exact eqi_self _)
    refine (same_any Ax' x'.length cx' Ay y.length cy x' y _ _ _ Rx'.out.rd Ry.out.rd (by unfold maxLen; omega) (by unfold maxLen; omega)).mono ?_
    rintro e w19_ ⟨rfl, hd⟩
    rw [hs.out]; clear hs
    have b1 := hd.below w18_.heap.size; clear hd
    have s19 := b1.size
    replace Rp := Lib.hid (Rp.out.keep b1 Rp.out.2.1)
    replace Rx' := Lib.hid (Rx'.out.keep b1 Rx'.out.2.1)
    replace Ry := Lib.hid (Ry.out.keep b1 Ry.out.2.1)
    replace BB := Lib.hid (BB.out.trans (b1.mono BB.out.size))
    clear b1
    clear Ry
    go_wp2_with fail
    refine (cyc_impl Ax' x'.length cx' x' _ _ Rx'.out.rd (by omega)).mono ?_
    rintro e w20_ ⟨AK2, cK2, rfl, o1, b1⟩
    have lK2 : (cycF x').length ≤ 1048576 := (cycF_small _).1
    have tK2 : tot (cycF x') ≤ 1048576 := (cycF_small _).2
    have NR := Lib.hid o1; clear o1
    generalize hq : cycF x' = K2 at *
    have EK2 := Lib.hid hq.symm; clear hq
    have s20 := b1.size
    replace Rp := Lib.hid (Rp.out.keep b1 Rp.out.2.1)
    replace Rx' := Lib.hid (Rx'.out.keep b1 Rx'.out.2.1)
    replace BB := Lib.hid (BB.out.trans (b1.mono BB.out.size))
    clear b1
    have RK2 := NR; clear NR
    go_wp2_with fail
    refine (lengths_any AK2 K2.length cK2 K2 _ _ _ RK2.out (by omega) tK2).mono ?_
    rintro e w21_ ⟨v, rfl, o1, b1⟩
    obtain ⟨Au, cu, rfl⟩ := own_form o1
    have lu : (sortD (lensF K2)).length ≤ 1048576 := by rw [sortD_len]; unfold lensF; rw [List.length_map]; exact lK2
    have NR := Lib.hid (Row.of_own o1); clear o1
    generalize hq : sortD (lensF K2) = u at *
    have Eu := Lib.hid hq.symm; clear hq
    have s21 := b1.size
    replace Rp := Lib.hid (Rp.out.keep b1 Rp.out.2.1)
    replace Rx' := Lib.hid (Rx'.out.keep b1 Rx'.out.2.1)
    replace RK2 := Lib.hid (RK2.out.keep b1 RK2.out.2.1)
    replace BB := Lib.hid (BB.out.trans (b1.mono BB.out.size))
    clear b1
    have Ru := NR; clear NR
    clear RK2
    clear Rx'
    go_wp2_with fail
    refine (cyc_impl Ap m cp p _ _ Rp.out.rd (by omega)).mono ?_
    rintro e w22_ ⟨AK3, cK3, rfl, o1, b1⟩
    have lK3 : (cycF p).length ≤ 1048576 := (cycF_small _).1
    have tK3 : tot (cycF p) ≤ 1048576 := (cycF_small _).2
    have NR := Lib.hid o1; clear o1
    generalize hq : cycF p = K3 at *
    have EK3 := Lib.hid hq.symm; clear hq
    have s22 := b1.size
    replace Rp := Lib.hid (Rp.out.keep b1 Rp.out.2.1)
    replace Ru := Lib.hid (Ru.out.keep b1 Ru.out.2.1)
    replace BB := Lib.hid (BB.out.trans (b1.mono BB.out.size))
    clear b1
    have RK3 := NR; clear NR
    go_wp2_with fail
    refine (lengths_any AK3 K3.length cK3 K3 _ _ _ RK3.out (by omega) tK3).mono ?_
    rintro e w23_ ⟨v, rfl, o1, b1⟩
    obtain ⟨Az, cz, rfl⟩ := own_form o1
    have lz : (sortD (lensF K3)).length ≤ 1048576 := by rw [sortD_len]; unfold lensF; rw [List.length_map]; exact lK3
    have NR := Lib.hid (Row.of_own o1); clear o1
    generalize hq : sortD (lensF K3) = z at *
    have Ez := Lib.hid hq.symm; clear hq
    have s23 := b1.size
    replace Rp := Lib.hid (Rp.out.keep b1 Rp.out.2.1)
    replace Ru := Lib.hid (Ru.out.keep b1 Ru.out.2.1)
    replace RK3 := Lib.hid (RK3.out.keep b1 RK3.out.2.1)
    replace BB := Lib.hid (BB.out.trans (b1.mono BB.out.size))
    clear b1
    have Rz := NR; clear NR
    clear RK3
    clear Rp
    go_wp2_with fail
    have hs : Hid (eqi u z = true) := Lib.hid (by rw [Eu.out, Ez.out, EK2.out, EK3.out, Ex'.out]; unfold lensF; rw [ren_lens OKp.out OKs.out Lp.out Ls.out]; exact eqi_self _)
    refine (same_any Au u.length cu Az z.length cz u z _ _ _ Ru.out.rd Rz.out.rd (by unfold maxLen; omega) (by unfold maxLen; omega)).mono ?_
    rintro e w24_ ⟨rfl, hd⟩
    rw [hs.out]; clear hs
    have b1 := hd.below w23_.heap.size; clear hd
    have s24 := b1.size
    replace Ru := Lib.hid (Ru.out.keep b1 Ru.out.2.1)
    replace Rz := Lib.hid (Rz.out.keep b1 Rz.out.2.1)
    replace BB := Lib.hid (BB.out.trans (b1.mono BB.out.size))
    clear b1
    go_wp2_with fail
    go_ret
    exact ⟨rfl, BB.out⟩

set_option maxRecDepth 100000 in
theorem lifted (os : Os) (started : os.Started) (H : Type) (enc : TypeId × Value → H) :
    ReturnsInHanded {} Try.checked os 3 .any (Rows.fnPermsSpec.pre6 enc Try.prog Try.f3 Rows.fnPermsRow.domain false) (Rows.fnPermsSpec.post enc Try.prog Try.f3 false true false false) := by
  refine returnsInHanded_of_change (C := Try.checked) own started (by kernel_rfl) Try.func3
    (ChangeSpec.witness6 (enc := enc) (C := Try.checked) false ⟨#[], #[.slice none 0 0], []⟩ 8 (by kernel_rfl) (by kernel_rfl) (by kernel_rfl) (by kernel_rfl)) ?_
  intro W base args ds gs before hval0 hW hcnd _
  have hval : ∀ (j : Nat) t v, Try.f3.params[j]? = some t → args[j]? = some v → Value.okWide Try.prog W .any base t v := hval0
  have hW' := hW
  obtain ⟨p, q, hA0, hV, rfl, hfz, hnd⟩ := hW
  have hA : DataW.TrodAll enc Try.prog W 0 (fun _ => true) true Try.f3.params.toList args.toList ds p := hA0
  rw [Try.params3] at hA hval
  obtain ⟨v0, vs0, d0, ds0, p0, q0, hargs, rfl, rfl, h0, r0⟩ := trodAll_cons hA
  obtain ⟨rfl, rfl, rfl⟩ := trodAll_nil r0
  obtain rfl : args = #[v0] := by cases args; simp_all
  obtain ⟨rfl, rfl⟩ := trodVars_none hV
  obtain ⟨A0, n0, c0, rfl⟩ := okWide_slice Try.underlying22 (hval 0 22 v0 rfl rfl)
  have lt0 : ∀ x ∈ p0, x.block < W.heap.size := by obtain ⟨m, hm⟩ := h0; exact DataW.trod_lt m _ _ _ hm
  obtain ⟨x0, rd0, cn0, cm0, el0⟩ := open_B Try.underlying22 Try.underlying5 (by kernel_rfl) h0
  clear hA0 hval0
  refine (walk (w := W) A0 n0 c0 x0 rd0 cn0 cm0 el0).mono fun e W' ⟨he, bel⟩ => ?_
  subst he
  exact ⟨_, rfl, _, _, _, [], _, [], hW', trodAll_mk1 (shut_bool Try.underlying4 _), (trodAll_cons_mk (Below.trod laidOut (by kernel_rfl) (of_decide_eq_true (by kernel_rfl)) h0 bel lt0) trodAll_mk0), rfl, bel.frame _, fun h => by cases h⟩

theorem over : Rows.fnPermsRow.holds Try.pinned (OpenSpec.ofChange Rows.fnPermsSpec) :=
  OpenClaim.holds_of_wide 3 Try.f3 rfl rfl rfl rfl rfl rfl rfl ⟨rfl, rfl, rfl, rfl, rfl⟩ rfl rfl rfl rfl rfl (by kernel_rfl) Try.func3 (by kernel_rfl)
    (of_decide_eq_true (by kernel_rfl)) (by unfold Func.isWrapper; first | (rw [if_pos (by decide +kernel)]; kernel_rfl) | (rw [if_neg (by decide +kernel)]; exact ⟨rfl, rfl⟩))
    (fun os started H enc _ => lifted os started H enc)

theorem proved : Rows.FnPermsSaid :=
  over
#print axioms proved
end Go.Proofs.Ytjnmgpdjolaleaa.fnPerms
