/-
  FnOrbits: at every argument the law FnOrbits returns true, and its arguments read as before. No condition.
-/
import Derived.Test.YtgcnemkhppkkcaaRows
import Derived.Conc.LeavingOf
import Derived.Test.YtgcnemkhppkkcaaU05
import Derived.WalkKit
import Derived.ProofKit
import Derived.OpenShut
import Derived.ShutString
import Derived.ChangeOld
import Derived.Below
import Derived.Test.YtgcnemkhppkkcaaU10
import Derived.Test.YtgcnemkhppkkcaaU14
import Derived.Test.YtgcnemkhppkkcaaU17
import Derived.Test.YtgcnemkhppkkcaaU16
import Derived.Test.YtgcnemkhppkkcaaU12
import Derived.Test.YtgcnemkhppkkcaaU08
namespace Go.Proofs.Ytgcnemkhppkkcaa.fnOrbits
open Go.ChangeShapes Go.WideShapes Go.ChangeAt Go.RowKit
open Go.ChangeMaps (open_string shut_string)
open mem ints arr sf pm permOk permOf fns mat gl cur
open Go.Proofs.Ytgcnemkhppkkcaa.sq (AR.one AR.push)
set_option linter.unusedVariables false
set_option maxRecDepth 100000
theorem own : ownKnob Try.prog.godebug = none := by kernel_rfl
theorem laidOut : laidOutB Try.prog = true := by kernel_rfl
set_option maxRecDepth 100000 in
set_option maxHeartbeats 4000000 in
theorem walk (w : World) (A : Option Addr) (n c : Nat) (l : List Int) (rd : Rd w w.heap.size A n (U l)) (cn : n ≤ c) (cm : c ≤ maxLen) (el : Bytes l) :
    Calls sqp.prog 3 #[.slice A n c] w fun e w' => e = .returned (.bool true) ∧ Below w.heap.size w w' := by
  have RD := Lib.hid rd; have EL := Lib.hid el; clear rd el
  unfold maxLen at cm
  by_cases b0 : 1048576 < n
  · clear RD EL
    go_enter sqp.func3, sqp.ntmps3
    go_wp2_with fail
    go_ret
    exact ⟨rfl, Below.refl _ _⟩
  have hd0 : decide (1048576 < (n : Int)) = false := by simp; omega
  have HC := Lib.hid (cur.Code.mk RD.out EL.out (by omega)); clear RD EL
  have BB := Lib.hid (Below.refl w.heap.size w)
  go_enter sqp.func3, sqp.ntmps3
  go_wp2_with fail
  refine (mk.few_any _ _ A n c l HC.out).mono ?_
  rintro e w1_ ⟨v, r, u, N, hN, sf, rfl, sv, b1⟩
  have SFs := Lib.hid sf; clear sf
  have N1 : 1 ≤ N := SFs.out.pos
  obtain ⟨Ps, cs, Qs, ds, rfl⟩ := sv.lens SFs.out.lr SFs.out.lu
  have NR := Lib.hid sv; clear sv
  have s1 := b1.size
  replace BB := Lib.hid (BB.out.trans (b1.mono BB.out.size))
  clear b1
  have Vs := NR; clear NR
  go_wp2_with (refine wpList_store_row rfl 25 _ _ rfl w1_.heap.size #[.slice Ps N cs, .slice Qs N ds] rfl rfl 25 #[.slice none 0 0, .slice none 0 0] (Arr.new w1_ [.slice none 0 0, .slice none 0 0] _ rfl) size2 rfl (by simp [Value.oneCell']) ?_; generalize hw : (w1_.alloc (.cells #[.slice none 0 0, .slice none 0 0] 25)).setRow w1_.heap.size #[.slice Ps N cs, .slice Qs N ds] = w2_; have NB : Hid (Arr w2_ w1_.heap.size [.slice Ps N cs, .slice Qs N ds] 25) := Lib.hid (by rw [← hw]; exact (Arr.new w1_ [.slice none 0 0, .slice none 0 0] _ rfl).row); have b1 : Below w1_.heap.size w1_ w2_ := (by rw [← hw]; exact below_setRow ((Below.refl _ _).alloc (Nat.le_refl _) _) (Nat.le_refl _) _); have t2 : w1_.heap.size + 1 ≤ w2_.heap.size := (by rw [← hw]; simp); clear hw; have s2 := b1.size; replace Vs := Lib.hid (Vs.out.keep b1 Vs.out.top); replace BB := Lib.hid (BB.out.trans (b1.mono BB.out.size)); clear b1; have Bs := NB; clear NB; have Bs_0 := Bs.out.cell (k := 0) rfl; have Bs_1 := Bs.out.cell (k := 1) rfl)
  obtain ⟨q, oq, ob, ol, oi, lp, l26⟩ := orb.om_start SFs.out hN
  have OQ := Lib.hid oq; have OB := Lib.hid ob; have OL := Lib.hid ol; have OI := Lib.hid oi; clear oq ob ol oi
  have JQ := Lib.hid (orb.orb_oj (s := (r, u)) SFs.out OQ.out)
  go_wp2_with fail
  refine (orb.oo_impl (.agg #[.slice Ps N cs, .slice Qs N ds]) r u _ _ Vs.out.rd (by rw [SFs.out.lr]; omega) (by rw [SFs.out.lu]; omega)).mono ?_
  rintro e w3_ ⟨Al, cl, rfl, lo, b1⟩
  rw [OL.out, OB.out] at *
  have NL := Lib.hid lo; clear lo
  have s3 := b1.size
  replace Vs := Lib.hid (Vs.out.keep b1 Vs.out.top)
  replace Bs := Lib.hid (Bs.out.keep b1 Bs.out.lt)
  replace BB := Lib.hid (BB.out.trans (b1.mono BB.out.size))
  clear b1
  clear Bs_0 Bs_1
  have Bs_0 := Bs.out.cell (k := 0) rfl
  have Bs_1 := Bs.out.cell (k := 1) rfl
  have Ll := NL; clear NL
  have hq0 : ¬ q.1.length = 0 := by omega
  have hq1 : ((q.1.length : Int) == 0) = false := by rw [beq_eq_false_iff_ne]; omega
  go_wp2_with fail
  refine (orb.idx_impl (.agg #[.slice Ps N cs, .slice Qs N ds]) r u _ _ Vs.out.rd (by rw [SFs.out.lr]; omega) (by rw [SFs.out.lu]; omega)).mono ?_
  rintro e w4_ ⟨rfl, b1⟩
  rw [OI.out]
  have s4 := b1.size
  replace Vs := Lib.hid (Vs.out.keep b1 Vs.out.top)
  replace Bs := Lib.hid (Bs.out.keep b1 Bs.out.lt)
  replace Ll := Lib.hid (Ll.out.keep b1 Ll.out.top)
  replace BB := Lib.hid (BB.out.trans (b1.mono BB.out.size))
  clear b1
  clear Bs_0 Bs_1
  have Bs_0 := Bs.out.cell (k := 0) rfl
  have Bs_1 := Bs.out.cell (k := 1) rfl
  go_wp2_with fail
  refine (num_any _ _ A n c l 40 (by omega) (HC.out.keep BB.out (Nat.le_refl _))).mono ?_
  rintro e w5_ ⟨y, y0, y1, rfl, b1⟩
  have s5 := b1.size
  replace Vs := Lib.hid (Vs.out.keep b1 Vs.out.top)
  replace Bs := Lib.hid (Bs.out.keep b1 Bs.out.lt)
  replace Ll := Lib.hid (Ll.out.keep b1 Ll.out.top)
  replace BB := Lib.hid (BB.out.trans (b1.mono BB.out.size))
  clear b1
  clear Bs_0 Bs_1
  have Bs_0 := Bs.out.cell (k := 0) rfl
  have Bs_1 := Bs.out.cell (k := 1) rfl
  obtain ⟨z, hz⟩ := Int.eq_ofNat_of_zero_le (show 0 ≤ y.tmod (q.1.length : Int) by rw [Int.tmod_eq_emod_of_nonneg y0]; exact Int.emod_nonneg _ (by omega))
  have hzN : z < q.1.length := by have := Int.emod_lt_of_pos y (show 0 < (q.1.length : Int) by omega); rw [← Int.tmod_eq_emod_of_nonneg y0, hz] at this; omega
  obtain ⟨gx, offx, x, Px, p1, cx, Qx, q1, dx, eA, hgx, hxk, c0x, c1x, xs⟩ := (Ll.out.lrd).at_ hzN
  subst eA
  obtain ⟨sx, cx1, cx2, ix, wl0, ow1, ow2, wl, rwb, swd, isw⟩ := orb.om_x SFs.out hN OQ.out hxk
  have SFx := Lib.hid sx; have CX1 := Lib.hid cx1; have CX2 := Lib.hid cx2; have IX := Lib.hid ix; have OW1 := Lib.hid ow1; have OW2 := Lib.hid ow2; have RWB := Lib.hid rwb; have SFy := Lib.hid swd; have ISW := Lib.hid isw; have XS := Lib.hid xs; have HXK := Lib.hid hxk; clear sx cx1 cx2 ix ow1 ow2 rwb swd isw xs hxk
  obtain ⟨xr, xu⟩ := x
  have LX := SFx.out.lr; have MX := SFx.out.lu
  obtain ⟨eN1, eN2⟩ : p1 = N ∧ q1 = N := by obtain ⟨P', n', c', Q', m', d', e', a', b', _⟩ := XS.out; simp at e'; obtain ⟨⟨_, rfl, _⟩, _, rfl, _⟩ := e'; have h1 := a'.1; have h2 := b'.1; simp [V] at h1 h2; exact ⟨by rw [← h1]; exact LX, by rw [← h2]; exact MX⟩
  rw [eN1] at c0x XS; rw [eN2] at c1x XS; clear eN1 eN2
  have Vx := XS; clear XS
  go_wp2_with (refine wpList_store_row rfl 25 _ _ rfl w5_.heap.size #[.slice Px N cx, .slice Qx N dx] rfl rfl 25 #[.slice none 0 0, .slice none 0 0] (Arr.new w5_ [.slice none 0 0, .slice none 0 0] _ rfl) size2 rfl (by simp [Value.oneCell']) ?_; generalize hw : (w5_.alloc (.cells #[.slice none 0 0, .slice none 0 0] 25)).setRow w5_.heap.size #[.slice Px N cx, .slice Qx N dx] = w6_; have NB : Hid (Arr w6_ w5_.heap.size [.slice Px N cx, .slice Qx N dx] 25) := Lib.hid (by rw [← hw]; exact (Arr.new w5_ [.slice none 0 0, .slice none 0 0] _ rfl).row); have b1 : Below w5_.heap.size w5_ w6_ := (by rw [← hw]; exact below_setRow ((Below.refl _ _).alloc (Nat.le_refl _) _) (Nat.le_refl _) _); have t6 : w5_.heap.size + 1 ≤ w6_.heap.size := (by rw [← hw]; simp); clear hw; have s6 := b1.size; replace Vs := Lib.hid (Vs.out.keep b1 Vs.out.top); replace Bs := Lib.hid (Bs.out.keep b1 Bs.out.lt); replace Ll := Lib.hid (Ll.out.keep b1 Ll.out.top); replace Vx := Lib.hid (Vx.out.keep b1 Vx.out.top); replace BB := Lib.hid (BB.out.trans (b1.mono BB.out.size)); clear b1; clear Bs_0 Bs_1; have Bs_0 := Bs.out.cell (k := 0) rfl; have Bs_1 := Bs.out.cell (k := 1) rfl; have Bx := NB; clear NB; have Bx_0 := Bx.out.cell (k := 0) rfl; have Bx_1 := Bx.out.cell (k := 1) rfl)
  clear c0x c1x hz
  go_wp2_with fail
  have hwz : (⟨wl0.toArray⟩ : ByteArray).size ≤ 1048576 := by show wl0.toArray.size ≤ _; simp; omega
  have HWZ := Lib.hid hwz; clear hwz
  replace OW1 : Hid (orb.owS r u xr xu = ⟨wl0.toArray⟩) := OW1; replace OW2 : Hid (orb.owB r u xr xu = true) := OW2; replace IX : Hid (orb.idxF xr xu = q.1.length) := IX; replace CX1 : Hid (cfR xr xu = xr) := CX1; replace CX2 : Hid (cfU xr xu = xu) := CX2; replace SFx : Hid (Sf N xr xu) := SFx
  refine (orb.ow_impl (.agg #[.slice Ps N cs, .slice Qs N ds]) r u (.agg #[.slice Px N cx, .slice Qx N dx]) xr xu _ _ _ Vs.out.rd Vx.out (by rw [SFs.out.lr]; omega) (by rw [SFs.out.lu]; omega) (by rw [SFx.out.lr]; omega) (by rw [SFx.out.lu]; omega)).mono ?_
  rintro e w7_ ⟨rfl, b1⟩
  rw [OW1.out, OW2.out]
  have s7 := b1.size
  replace Vs := Lib.hid (Vs.out.keep b1 Vs.out.top)
  replace Bs := Lib.hid (Bs.out.keep b1 Bs.out.lt)
  replace Ll := Lib.hid (Ll.out.keep b1 Ll.out.top)
  replace Vx := Lib.hid (Vx.out.keep b1 Vx.out.top)
  replace Bx := Lib.hid (Bx.out.keep b1 Bx.out.lt)
  replace BB := Lib.hid (BB.out.trans (b1.mono BB.out.size))
  clear b1
  clear Bs_0 Bs_1
  have Bs_0 := Bs.out.cell (k := 0) rfl
  have Bs_1 := Bs.out.cell (k := 1) rfl
  clear Bx_0 Bx_1
  have Bx_0 := Bx.out.cell (k := 0) rfl
  have Bx_1 := Bx.out.cell (k := 1) rfl
  go_wp2_with fail
  refine (rw.rw_impl (.agg #[.slice Ps N cs, .slice Qs N ds]) r u ⟨wl0.toArray⟩ _ _ Vs.out.rd (by rw [SFs.out.lr]; omega) (by rw [SFs.out.lu]; omega) HWZ.out).mono ?_
  rintro e w8_ ⟨v, rfl, sv, b1⟩
  rw [RWB.out]
  generalize rw.rwR r u ⟨wl0.toArray⟩ = yr at *; generalize rw.rwU r u ⟨wl0.toArray⟩ = yu at *
  obtain ⟨Py, cy, Qy, dy, rfl⟩ := sv.lens SFy.out.lr SFy.out.lu
  have NR := Lib.hid sv; clear sv
  have s8 := b1.size
  replace Vs := Lib.hid (Vs.out.keep b1 Vs.out.top)
  replace Bs := Lib.hid (Bs.out.keep b1 Bs.out.lt)
  replace Ll := Lib.hid (Ll.out.keep b1 Ll.out.top)
  replace Vx := Lib.hid (Vx.out.keep b1 Vx.out.top)
  replace Bx := Lib.hid (Bx.out.keep b1 Bx.out.lt)
  replace BB := Lib.hid (BB.out.trans (b1.mono BB.out.size))
  clear b1
  clear Bs_0 Bs_1
  have Bs_0 := Bs.out.cell (k := 0) rfl
  have Bs_1 := Bs.out.cell (k := 1) rfl
  clear Bx_0 Bx_1
  have Bx_0 := Bx.out.cell (k := 0) rfl
  have Bx_1 := Bx.out.cell (k := 1) rfl
  have Vy := NR; clear NR
  go_wp2_with (refine wpList_store_row rfl 25 _ _ rfl w8_.heap.size #[.slice Py N cy, .slice Qy N dy] rfl rfl 25 #[.slice none 0 0, .slice none 0 0] (Arr.new w8_ [.slice none 0 0, .slice none 0 0] _ rfl) size2 rfl (by simp [Value.oneCell']) ?_; generalize hw : (w8_.alloc (.cells #[.slice none 0 0, .slice none 0 0] 25)).setRow w8_.heap.size #[.slice Py N cy, .slice Qy N dy] = w9_; have NB : Hid (Arr w9_ w8_.heap.size [.slice Py N cy, .slice Qy N dy] 25) := Lib.hid (by rw [← hw]; exact (Arr.new w8_ [.slice none 0 0, .slice none 0 0] _ rfl).row); have b1 : Below w8_.heap.size w8_ w9_ := (by rw [← hw]; exact below_setRow ((Below.refl _ _).alloc (Nat.le_refl _) _) (Nat.le_refl _) _); have t9 : w8_.heap.size + 1 ≤ w9_.heap.size := (by rw [← hw]; simp); clear hw; have s9 := b1.size; replace Vs := Lib.hid (Vs.out.keep b1 Vs.out.top); replace Bs := Lib.hid (Bs.out.keep b1 Bs.out.lt); replace Ll := Lib.hid (Ll.out.keep b1 Ll.out.top); replace Vx := Lib.hid (Vx.out.keep b1 Vx.out.top); replace Bx := Lib.hid (Bx.out.keep b1 Bx.out.lt); replace Vy := Lib.hid (Vy.out.keep b1 Vy.out.top); replace BB := Lib.hid (BB.out.trans (b1.mono BB.out.size)); clear b1; clear Bs_0 Bs_1; have Bs_0 := Bs.out.cell (k := 0) rfl; have Bs_1 := Bs.out.cell (k := 1) rfl; clear Bx_0 Bx_1; have Bx_0 := Bx.out.cell (k := 0) rfl; have Bx_1 := Bx.out.cell (k := 1) rfl; have By := NB; clear NB; have By_0 := By.out.cell (k := 0) rfl; have By_1 := By.out.cell (k := 1) rfl)
  clear OW1 OW2 RWB HWZ
  go_wp2_with fail
  have hsz : 0 ≤ w9_.heap.size := Nat.zero_le _
  go_cut [11, 12] from 63 to 69 (fun p q' wx => ∃ g Pz cz Qz dz lo hi wd2, p = .pointer (some ⟨g, 0, none⟩) ∧ q' = .bool true ∧ w9_.heap.size ≤ g ∧ w9_.heap.size ≤ lo ∧ Hid (Arr wx g [.slice Pz N cz, .slice Qz N dz] 25) ∧ Hid (Svl wx lo hi (.agg #[.slice Pz N cz, .slice Qz N dz]) (rw.rwR r u wd2) (rw.rwU r u wd2)) ∧ Hid (wd.wok wd2 = true) ∧ Hid (Below w9_.heap.size w9_ wx))
  case first =>
    refine wp_region_held_drew (S := Hld w9_.heap.size w9_.heap.size w9_ [(w1_.heap.size, [.slice Ps N cs, .slice Qs N ds])]) (by kernel_rfl) (Hld.start1 Bs.out) (fun hHeld => ?_)
    have b0 : Below w9_.heap.size w9_ w9_.drew := ⟨rfl, rfl, rfl, Nat.le_refl _, fun _ _ => rfl⟩
    generalize w9_.drew = v0 at *
    have s_0 := b0.size
    replace Vs := Lib.hid (Vs.out.keep b0 Vs.out.top)
    have BW := Lib.hid b0; clear b0
    refine wpAnyH_take (i := 0) (v := .agg #[.slice Ps N cs, .slice Qs N ds]) rfl (by kernel_rfl) (by kernel_rfl) (by kernel_rfl) (fun _ _ _ h => h) (Or.inl ⟨by rfl, fun w hSw => by have h0 := hSw.c0; have h1 := hSw.c1; go_simp⟩) hHeld ?_
    refine wpAnyH_take (i := 1) (v := .slice A n c) rfl (by kernel_rfl) (by kernel_rfl) (by kernel_rfl) (fun _ _ _ h => h) (Or.inl ⟨by rfl, fun w hSw => by go_simp⟩) hHeld ?_
    refine wpAnyH_ready (rs := [2, 7]) (by kernel_rfl) (by simp) (AllReadyH.cons rfl (fun K hK => ?_) (AllReadyH.cons rfl (fun K hK => ?_) AllReadyH.nil))
    · go_simp
      refine (makeW_any _ _ A n c l 50 (by omega) (HC.out.keep (BB.out.trans (BW.out.mono BB.out.size)) (Nat.le_refl _))).mono ?_
      rintro e v1 ⟨wd2, hwd, rfl, b1⟩
      have hw6 : wd2.size ≤ 6 := hwd.1
      have WK := Lib.hid (hwd.ok (by omega)); clear hwd
      have s_1 := b1.size
      replace BW := Lib.hid (BW.out.trans (b1.mono BW.out.size))
      replace Vs := Lib.hid (Vs.out.keep b1 Vs.out.top)
      go_wp2_with fail
      have hHeld2 := hHeld.later b1 (by omega); clear b1 hHeld
      refine hK.out _ _ hHeld2 (fun hHeld => ?_)
      clear hK K hHeld2
      refine wpAnyH_ready (rs := [3, 7]) (by kernel_rfl) (by simp) (AllReadyH.cons rfl (fun K hK => ?_) (AllReadyH.cons rfl (fun K hK => ?_) AllReadyH.nil))
      · go_simp
        refine (rw.rw_impl (.agg #[.slice Ps N cs, .slice Qs N ds]) r u wd2 _ _ Vs.out.rd (by rw [SFs.out.lr]; omega) (by rw [SFs.out.lu]; omega) (by omega)).mono ?_
        rintro e v2 ⟨v, rfl, sv, b1⟩
        obtain ⟨e1, e2, _, _⟩ := orb.om_z SFs.out hN WK.out
        rw [e1]
        obtain ⟨Pz, cz, Qz, dz, rfl⟩ := sv.lens e2.lr e2.lu
        have VZ := Lib.hid sv; clear sv e1 e2
        have s_2 := b1.size
        replace BW := Lib.hid (BW.out.trans (b1.mono BW.out.size))
        replace Vs := Lib.hid (Vs.out.keep b1 Vs.out.top)
        go_wp2_with fail
        have hHeld2 := hHeld.later b1 (by omega); clear b1 hHeld
        refine hK.out _ _ hHeld2 (fun hHeld => ?_)
        clear hK K hHeld2
        refine wpAnyH_take (i := 4) (v := .tuple #[.agg #[.slice Pz N cz, .slice Qz N dz], .bool true]) rfl (by kernel_rfl) (by kernel_rfl) (by kernel_rfl) (fun _ _ _ h => h) (Or.inl ⟨by kernel_rfl, fun w hSw => by go_simp⟩) hHeld ?_
        refine wpAnyH_take (i := 5) (v := .agg #[.slice Pz N cz, .slice Qz N dz]) rfl (by kernel_rfl) (by kernel_rfl) (by kernel_rfl) (fun _ _ _ h => h) (Or.inl ⟨by kernel_rfl, fun w hSw => by go_simp⟩) hHeld ?_
        refine wpAnyH_take (i := 6) (v := .bool true) rfl (by kernel_rfl) (by kernel_rfl) (by kernel_rfl) (fun _ _ _ h => h) (Or.inl ⟨by kernel_rfl, fun w hSw => by go_simp⟩) hHeld ?_
        refine wpAnyH_ready (rs := [7]) (by kernel_rfl) (by simp) (AllReadyH.cons rfl (fun K hK => ?_) AllReadyH.nil)
        go_simp
        generalize hwa : v2.alloc (.cells #[.slice none 0 0, .slice none 0 0] 25) = v3
        have b1 : Below v2.heap.size v2 v3 := by rw [← hwa]; exact (Below.refl _ _).alloc (Nat.le_refl _) _
        have AL : Hid (Arr v3 v2.heap.size [.slice none 0 0, .slice none 0 0] 25) := Lib.hid (by rw [← hwa]; exact Arr.new _ _ _ rfl)
        have s_3 : v2.heap.size + 1 ≤ v3.heap.size := by rw [← hwa]; simp
        clear hwa
        replace BW := Lib.hid (BW.out.trans (b1.mono BW.out.size))
        replace Vs := Lib.hid (Vs.out.keep b1 Vs.out.top)
        replace VZ := Lib.hid (VZ.out.keep b1 VZ.out.top)
        have hHeld2 := hHeld.later b1 (by omega); clear b1 hHeld
        refine hK.out _ _ hHeld2 (fun hHeld => ?_)
        clear hK K hHeld2
        refine wpAnyH_ready (rs := [8]) (by kernel_rfl) (by simp) (AllReadyH.cons rfl (fun K hK => ?_) AllReadyH.nil)
        refine step_store_row rfl 25 _ _ rfl (v2.heap.size) #[.slice Pz N cz, .slice Qz N dz] rfl rfl 25 #[.slice none 0 0, .slice none 0 0] AL.out size2 rfl (by simp [Value.oneCell']) ?_
        change K (Act.put _ none _) _
        simp only [Act.put]
        refine hK.out _ _ (hHeld.other (by omega) (by simp; omega) _) (fun hHeld2 => ?_)
        clear hK K hHeld
        refine wpAnyH_take (i := 9) (v := .bool true) rfl (by kernel_rfl) (by kernel_rfl) (by kernel_rfl) (fun _ _ _ h => h) (Or.inl ⟨by kernel_rfl, fun w hSw => by go_simp⟩) hHeld2 ?_
        refine wpAnyH_done (by kernel_rfl) ?_ _
        clear hHeld2
        go_wp2_with fail
        go_meet
        exact ⟨_, _, _, _, _, _, _, wd2, rfl, rfl, by omega, by omega, Lib.hid AL.out.row, Lib.hid (VZ.out.out ((Out.refl (v2.heap.size) (v2.heap.size + 1) _).row_ (Nat.le_refl _) (Nat.lt_succ_self _) _) (by omega)), WK, Lib.hid (below_setRow BW.out (by omega) _)⟩
      · go_simp
        generalize hwa : v1.alloc (.cells #[.slice none 0 0, .slice none 0 0] 25) = v2
        have b1 : Below v1.heap.size v1 v2 := by rw [← hwa]; exact (Below.refl _ _).alloc (Nat.le_refl _) _
        have AL : Hid (Arr v2 v1.heap.size [.slice none 0 0, .slice none 0 0] 25) := Lib.hid (by rw [← hwa]; exact Arr.new _ _ _ rfl)
        have s_2 : v1.heap.size + 1 ≤ v2.heap.size := by rw [← hwa]; simp
        clear hwa
        replace BW := Lib.hid (BW.out.trans (b1.mono BW.out.size))
        replace Vs := Lib.hid (Vs.out.keep b1 Vs.out.top)
        have hHeld2 := hHeld.later b1 (by omega); clear b1 hHeld
        refine hK.out _ _ hHeld2 (fun hHeld => ?_)
        clear hK K hHeld2
        refine wpAnyH_ready (rs := [3]) (by kernel_rfl) (by simp) (AllReadyH.cons rfl (fun K hK => ?_) AllReadyH.nil)
        go_simp
        refine (rw.rw_impl (.agg #[.slice Ps N cs, .slice Qs N ds]) r u wd2 _ _ Vs.out.rd (by rw [SFs.out.lr]; omega) (by rw [SFs.out.lu]; omega) (by omega)).mono ?_
        rintro e v3 ⟨v, rfl, sv, b1⟩
        obtain ⟨e1, e2, _, _⟩ := orb.om_z SFs.out hN WK.out
        rw [e1]
        obtain ⟨Pz, cz, Qz, dz, rfl⟩ := sv.lens e2.lr e2.lu
        have VZ := Lib.hid sv; clear sv e1 e2
        have s_3 := b1.size
        replace BW := Lib.hid (BW.out.trans (b1.mono BW.out.size))
        replace Vs := Lib.hid (Vs.out.keep b1 Vs.out.top)
        replace AL := Lib.hid (AL.out.keep b1 AL.out.lt)
        go_wp2_with fail
        have hHeld2 := hHeld.later b1 (by omega); clear b1 hHeld
        refine hK.out _ _ hHeld2 (fun hHeld => ?_)
        clear hK K hHeld2
        refine wpAnyH_take (i := 4) (v := .tuple #[.agg #[.slice Pz N cz, .slice Qz N dz], .bool true]) rfl (by kernel_rfl) (by kernel_rfl) (by kernel_rfl) (fun _ _ _ h => h) (Or.inl ⟨by kernel_rfl, fun w hSw => by go_simp⟩) hHeld ?_
        refine wpAnyH_take (i := 5) (v := .agg #[.slice Pz N cz, .slice Qz N dz]) rfl (by kernel_rfl) (by kernel_rfl) (by kernel_rfl) (fun _ _ _ h => h) (Or.inl ⟨by kernel_rfl, fun w hSw => by go_simp⟩) hHeld ?_
        refine wpAnyH_take (i := 6) (v := .bool true) rfl (by kernel_rfl) (by kernel_rfl) (by kernel_rfl) (fun _ _ _ h => h) (Or.inl ⟨by kernel_rfl, fun w hSw => by go_simp⟩) hHeld ?_
        refine wpAnyH_ready (rs := [8]) (by kernel_rfl) (by simp) (AllReadyH.cons rfl (fun K hK => ?_) AllReadyH.nil)
        refine step_store_row rfl 25 _ _ rfl (v1.heap.size) #[.slice Pz N cz, .slice Qz N dz] rfl rfl 25 #[.slice none 0 0, .slice none 0 0] AL.out size2 rfl (by simp [Value.oneCell']) ?_
        change K (Act.put (Act.put (Act.put (Act.put _ (some 63) _) (some 68) _) (some 69) _) none _) _
        simp only [Act.put, List.setIfInBounds_toArray, List.set_cons_zero, List.set_cons_succ]
        refine hK.out _ _ (hHeld.other (by omega) (by simp; omega) _) (fun hHeld2 => ?_)
        clear hK K hHeld
        refine wpAnyH_take (i := 9) (v := .bool true) rfl (by kernel_rfl) (by kernel_rfl) (by kernel_rfl) (fun _ _ _ h => h) (Or.inl ⟨by kernel_rfl, fun w hSw => by go_simp⟩) hHeld2 ?_
        refine wpAnyH_done (by kernel_rfl) ?_ _
        clear hHeld2
        go_wp2_with fail
        go_meet
        exact ⟨_, _, _, _, _, _, _, wd2, rfl, rfl, by omega, by omega, Lib.hid AL.out.row, Lib.hid (VZ.out.out ((Out.refl (v1.heap.size) (v1.heap.size + 1) _).row_ (Nat.le_refl _) (Nat.lt_succ_self _) _) (by omega)), WK, Lib.hid (below_setRow BW.out (by omega) _)⟩
    · go_simp
      generalize hwa : v0.alloc (.cells #[.slice none 0 0, .slice none 0 0] 25) = v1
      have b1 : Below v0.heap.size v0 v1 := by rw [← hwa]; exact (Below.refl _ _).alloc (Nat.le_refl _) _
      have AL : Hid (Arr v1 v0.heap.size [.slice none 0 0, .slice none 0 0] 25) := Lib.hid (by rw [← hwa]; exact Arr.new _ _ _ rfl)
      have s_1 : v0.heap.size + 1 ≤ v1.heap.size := by rw [← hwa]; simp
      clear hwa
      replace BW := Lib.hid (BW.out.trans (b1.mono BW.out.size))
      replace Vs := Lib.hid (Vs.out.keep b1 Vs.out.top)
      have hHeld2 := hHeld.later b1 (by omega); clear b1 hHeld
      refine hK.out _ _ hHeld2 (fun hHeld => ?_)
      clear hK K hHeld2
      refine wpAnyH_ready (rs := [2]) (by kernel_rfl) (by simp) (AllReadyH.cons rfl (fun K hK => ?_) AllReadyH.nil)
      go_simp
      refine (makeW_any _ _ A n c l 50 (by omega) (HC.out.keep (BB.out.trans (BW.out.mono BB.out.size)) (Nat.le_refl _))).mono ?_
      rintro e v2 ⟨wd2, hwd, rfl, b1⟩
      have hw6 : wd2.size ≤ 6 := hwd.1
      have WK := Lib.hid (hwd.ok (by omega)); clear hwd
      have s_2 := b1.size
      replace BW := Lib.hid (BW.out.trans (b1.mono BW.out.size))
      replace Vs := Lib.hid (Vs.out.keep b1 Vs.out.top)
      replace AL := Lib.hid (AL.out.keep b1 AL.out.lt)
      go_wp2_with fail
      have hHeld2 := hHeld.later b1 (by omega); clear b1 hHeld
      refine hK.out _ _ hHeld2 (fun hHeld => ?_)
      clear hK K hHeld2
      refine wpAnyH_ready (rs := [3]) (by kernel_rfl) (by simp) (AllReadyH.cons rfl (fun K hK => ?_) AllReadyH.nil)
      go_simp
      refine (rw.rw_impl (.agg #[.slice Ps N cs, .slice Qs N ds]) r u wd2 _ _ Vs.out.rd (by rw [SFs.out.lr]; omega) (by rw [SFs.out.lu]; omega) (by omega)).mono ?_
      rintro e v3 ⟨v, rfl, sv, b1⟩
      obtain ⟨e1, e2, _, _⟩ := orb.om_z SFs.out hN WK.out
      rw [e1]
      obtain ⟨Pz, cz, Qz, dz, rfl⟩ := sv.lens e2.lr e2.lu
      have VZ := Lib.hid sv; clear sv e1 e2
      have s_3 := b1.size
      replace BW := Lib.hid (BW.out.trans (b1.mono BW.out.size))
      replace Vs := Lib.hid (Vs.out.keep b1 Vs.out.top)
      replace AL := Lib.hid (AL.out.keep b1 AL.out.lt)
      go_wp2_with fail
      have hHeld2 := hHeld.later b1 (by omega); clear b1 hHeld
      refine hK.out _ _ hHeld2 (fun hHeld => ?_)
      clear hK K hHeld2
      refine wpAnyH_take (i := 4) (v := .tuple #[.agg #[.slice Pz N cz, .slice Qz N dz], .bool true]) rfl (by kernel_rfl) (by kernel_rfl) (by kernel_rfl) (fun _ _ _ h => h) (Or.inl ⟨by kernel_rfl, fun w hSw => by go_simp⟩) hHeld ?_
      refine wpAnyH_take (i := 5) (v := .agg #[.slice Pz N cz, .slice Qz N dz]) rfl (by kernel_rfl) (by kernel_rfl) (by kernel_rfl) (fun _ _ _ h => h) (Or.inl ⟨by kernel_rfl, fun w hSw => by go_simp⟩) hHeld ?_
      refine wpAnyH_take (i := 6) (v := .bool true) rfl (by kernel_rfl) (by kernel_rfl) (by kernel_rfl) (fun _ _ _ h => h) (Or.inl ⟨by kernel_rfl, fun w hSw => by go_simp⟩) hHeld ?_
      refine wpAnyH_ready (rs := [8]) (by kernel_rfl) (by simp) (AllReadyH.cons rfl (fun K hK => ?_) AllReadyH.nil)
      refine step_store_row rfl 25 _ _ rfl (v0.heap.size) #[.slice Pz N cz, .slice Qz N dz] rfl rfl 25 #[.slice none 0 0, .slice none 0 0] AL.out size2 rfl (by simp [Value.oneCell']) ?_
      change K (Act.put (Act.put (Act.put (Act.put _ (some 63) _) (some 68) _) (some 69) _) none _) _
      simp only [Act.put, List.setIfInBounds_toArray, List.set_cons_zero, List.set_cons_succ]
      refine hK.out _ _ (hHeld.other (by omega) (by simp; omega) _) (fun hHeld2 => ?_)
      clear hK K hHeld
      refine wpAnyH_take (i := 9) (v := .bool true) rfl (by kernel_rfl) (by kernel_rfl) (by kernel_rfl) (fun _ _ _ h => h) (Or.inl ⟨by kernel_rfl, fun w hSw => by go_simp⟩) hHeld2 ?_
      refine wpAnyH_done (by kernel_rfl) ?_ _
      clear hHeld2
      go_wp2_with fail
      go_meet
      exact ⟨_, _, _, _, _, _, _, wd2, rfl, rfl, by omega, by omega, Lib.hid AL.out.row, Lib.hid (VZ.out.out ((Out.refl (v0.heap.size) (v0.heap.size + 1) _).row_ (Nat.le_refl _) (Nat.lt_succ_self _) _) (by omega)), WK, Lib.hid (below_setRow BW.out (by omega) _)⟩
  case rest =>
    obtain ⟨gz, Pz, cz, Qz, dz, loz, hiz, wd2, rfl, rfl, hgz, hloz, NBz, NVz, WK, b1h⟩ := hcut
    obtain ⟨w10_, hwc⟩ : ∃ q, q = wc := ⟨_, rfl⟩
    rw [← hwc] at NBz NVz b1h ⊢
    clear hwc
    have b1 := b1h.out; clear b1h hsz
    have s10 := b1.size
    replace Vs := Lib.hid (Vs.out.keep b1 Vs.out.top)
    replace Bs := Lib.hid (Bs.out.keep b1 Bs.out.lt)
    replace Ll := Lib.hid (Ll.out.keep b1 Ll.out.top)
    replace Vx := Lib.hid (Vx.out.keep b1 Vx.out.top)
    replace Bx := Lib.hid (Bx.out.keep b1 Bx.out.lt)
    replace Vy := Lib.hid (Vy.out.keep b1 Vy.out.top)
    replace By := Lib.hid (By.out.keep b1 By.out.lt)
    replace BB := Lib.hid (BB.out.trans (b1.mono BB.out.size))
    clear b1
    clear Bs_0 Bs_1
    have Bs_0 := Bs.out.cell (k := 0) rfl
    have Bs_1 := Bs.out.cell (k := 1) rfl
    clear Bx_0 Bx_1
    have Bx_0 := Bx.out.cell (k := 0) rfl
    have Bx_1 := Bx.out.cell (k := 1) rfl
    clear By_0 By_1
    have By_0 := By.out.cell (k := 0) rfl
    have By_1 := By.out.cell (k := 1) rfl
    have Vz := NVz; clear NVz; have Bz := NBz; clear NBz
    have Bz_0 := Bz.out.cell (k := 0) rfl; have Bz_1 := Bz.out.cell (k := 1) rfl
    obtain ⟨_, sfz, so1, so2⟩ := orb.om_z SFs.out hN WK.out
    have SFz := Lib.hid sfz; have SO1 := Lib.hid so1; have SO2 := Lib.hid so2; clear sfz so1 so2
    generalize rw.rwR r u wd2 = zr at *; generalize rw.rwU r u wd2 = zu at *
    have TC := Lib.hid (orb.tr_of SFx.out); have SFc := SFx; have SXX : Hid (sameF xr xu xr xu = true) := Lib.hid (by simp [sameF, eqi])
    go_wp2_with fail
    refine (cf_impl (.agg #[.slice Px N cx, .slice Qx N dx]) xr xu _ _ Vx.out (by rw [SFx.out.lr]; omega) (by rw [SFx.out.lu]; omega)).mono ?_
    rintro e w11_ ⟨v, rfl, sv, b1⟩
    rw [CX1.out, CX2.out] at sv
    rw [TC.out]
    obtain ⟨Pc, cc, Qc, dc, rfl⟩ := sv.lens SFc.out.lr SFc.out.lu
    have NR := Lib.hid sv; clear sv
    have s11 := b1.size
    replace Vs := Lib.hid (Vs.out.keep b1 Vs.out.top)
    replace Bs := Lib.hid (Bs.out.keep b1 Bs.out.lt)
    replace Ll := Lib.hid (Ll.out.keep b1 Ll.out.top)
    replace Vx := Lib.hid (Vx.out.keep b1 Vx.out.top)
    replace Bx := Lib.hid (Bx.out.keep b1 Bx.out.lt)
    replace Vy := Lib.hid (Vy.out.keep b1 Vy.out.top)
    replace By := Lib.hid (By.out.keep b1 By.out.lt)
    replace Vz := Lib.hid (Vz.out.keep b1 Vz.out.top)
    replace Bz := Lib.hid (Bz.out.keep b1 Bz.out.lt)
    replace BB := Lib.hid (BB.out.trans (b1.mono BB.out.size))
    clear b1
    clear Bs_0 Bs_1
    have Bs_0 := Bs.out.cell (k := 0) rfl
    have Bs_1 := Bs.out.cell (k := 1) rfl
    clear Bx_0 Bx_1
    have Bx_0 := Bx.out.cell (k := 0) rfl
    have Bx_1 := Bx.out.cell (k := 1) rfl
    clear By_0 By_1
    have By_0 := By.out.cell (k := 0) rfl
    have By_1 := By.out.cell (k := 1) rfl
    clear Bz_0 Bz_1
    have Bz_0 := Bz.out.cell (k := 0) rfl
    have Bz_1 := Bz.out.cell (k := 1) rfl
    have Vc := NR; clear NR
    clear TC CX1 CX2
    go_wp2_with (refine wpList_store_row rfl 25 _ _ rfl w11_.heap.size #[.slice Pc N cc, .slice Qc N dc] rfl rfl 25 #[.slice none 0 0, .slice none 0 0] (Arr.new w11_ [.slice none 0 0, .slice none 0 0] _ rfl) size2 rfl (by simp [Value.oneCell']) ?_; generalize hw : (w11_.alloc (.cells #[.slice none 0 0, .slice none 0 0] 25)).setRow w11_.heap.size #[.slice Pc N cc, .slice Qc N dc] = w12_; have NB : Hid (Arr w12_ w11_.heap.size [.slice Pc N cc, .slice Qc N dc] 25) := Lib.hid (by rw [← hw]; exact (Arr.new w11_ [.slice none 0 0, .slice none 0 0] _ rfl).row); have b1 : Below w11_.heap.size w11_ w12_ := (by rw [← hw]; exact below_setRow ((Below.refl _ _).alloc (Nat.le_refl _) _) (Nat.le_refl _) _); have t12 : w11_.heap.size + 1 ≤ w12_.heap.size := (by rw [← hw]; simp); clear hw; have s12 := b1.size; replace Vs := Lib.hid (Vs.out.keep b1 Vs.out.top); replace Bs := Lib.hid (Bs.out.keep b1 Bs.out.lt); replace Ll := Lib.hid (Ll.out.keep b1 Ll.out.top); replace Vx := Lib.hid (Vx.out.keep b1 Vx.out.top); replace Bx := Lib.hid (Bx.out.keep b1 Bx.out.lt); replace Vy := Lib.hid (Vy.out.keep b1 Vy.out.top); replace By := Lib.hid (By.out.keep b1 By.out.lt); replace Vz := Lib.hid (Vz.out.keep b1 Vz.out.top); replace Bz := Lib.hid (Bz.out.keep b1 Bz.out.lt); replace Vc := Lib.hid (Vc.out.keep b1 Vc.out.top); replace BB := Lib.hid (BB.out.trans (b1.mono BB.out.size)); clear b1; clear Bs_0 Bs_1; have Bs_0 := Bs.out.cell (k := 0) rfl; have Bs_1 := Bs.out.cell (k := 1) rfl; clear Bx_0 Bx_1; have Bx_0 := Bx.out.cell (k := 0) rfl; have Bx_1 := Bx.out.cell (k := 1) rfl; clear By_0 By_1; have By_0 := By.out.cell (k := 0) rfl; have By_1 := By.out.cell (k := 1) rfl; clear Bz_0 Bz_1; have Bz_0 := Bz.out.cell (k := 0) rfl; have Bz_1 := Bz.out.cell (k := 1) rfl; have Bc := NB; clear NB; have Bc_0 := Bc.out.cell (k := 0) rfl; have Bc_1 := Bc.out.cell (k := 1) rfl)
    have LLn : Hid (((q.1.length : Int) == (q.1.length : Int)) = true) := Lib.hid (by simp)
    go_wp2_with fail
    refine (iso_impl (.agg #[.slice Py N cy, .slice Qy N dy]) yr yu (.agg #[.slice Px N cx, .slice Qx N dx]) xr xu _ _ _ Vy.out.rd Vx.out (by rw [SFy.out.lr]; omega) (by rw [SFy.out.lu]; omega) (by rw [SFx.out.lr]; omega) (by rw [SFx.out.lu]; omega)).mono ?_
    rintro e w13_ ⟨rfl, b1⟩
    rw [ISW.out]
    have s13 := b1.size
    replace Vs := Lib.hid (Vs.out.keep b1 Vs.out.top)
    replace Bs := Lib.hid (Bs.out.keep b1 Bs.out.lt)
    replace Ll := Lib.hid (Ll.out.keep b1 Ll.out.top)
    replace Vx := Lib.hid (Vx.out.keep b1 Vx.out.top)
    replace Bx := Lib.hid (Bx.out.keep b1 Bx.out.lt)
    replace Vy := Lib.hid (Vy.out.keep b1 Vy.out.top)
    replace By := Lib.hid (By.out.keep b1 By.out.lt)
    replace Vz := Lib.hid (Vz.out.keep b1 Vz.out.top)
    replace Bz := Lib.hid (Bz.out.keep b1 Bz.out.lt)
    replace Vc := Lib.hid (Vc.out.keep b1 Vc.out.top)
    replace Bc := Lib.hid (Bc.out.keep b1 Bc.out.lt)
    replace BB := Lib.hid (BB.out.trans (b1.mono BB.out.size))
    clear b1
    clear Bs_0 Bs_1
    have Bs_0 := Bs.out.cell (k := 0) rfl
    have Bs_1 := Bs.out.cell (k := 1) rfl
    clear Bx_0 Bx_1
    have Bx_0 := Bx.out.cell (k := 0) rfl
    have Bx_1 := Bx.out.cell (k := 1) rfl
    clear By_0 By_1
    have By_0 := By.out.cell (k := 0) rfl
    have By_1 := By.out.cell (k := 1) rfl
    clear Bz_0 Bz_1
    have Bz_0 := Bz.out.cell (k := 0) rfl
    have Bz_1 := Bz.out.cell (k := 1) rfl
    clear Bc_0 Bc_1
    have Bc_0 := Bc.out.cell (k := 0) rfl
    have Bc_1 := Bc.out.cell (k := 1) rfl
    clear Vy
    clear By
    clear By_0 By_1 ISW SFy
    go_wp2_with fail
    refine (same_impl (.agg #[.slice Pc N cc, .slice Qc N dc]) xr xu (.agg #[.slice Px N cx, .slice Qx N dx]) xr xu _ _ _ Vc.out.rd Vx.out (by rw [SFc.out.lr]; omega) (by rw [SFc.out.lu]; omega) (by rw [SFx.out.lr]; omega) (by rw [SFx.out.lu]; omega)).mono ?_
    rintro e w14_ ⟨rfl, b1⟩
    rw [SXX.out]
    have s14 := b1.size
    replace Vs := Lib.hid (Vs.out.keep b1 Vs.out.top)
    replace Bs := Lib.hid (Bs.out.keep b1 Bs.out.lt)
    replace Ll := Lib.hid (Ll.out.keep b1 Ll.out.top)
    replace Vx := Lib.hid (Vx.out.keep b1 Vx.out.top)
    replace Bx := Lib.hid (Bx.out.keep b1 Bx.out.lt)
    replace Vz := Lib.hid (Vz.out.keep b1 Vz.out.top)
    replace Bz := Lib.hid (Bz.out.keep b1 Bz.out.lt)
    replace Vc := Lib.hid (Vc.out.keep b1 Vc.out.top)
    replace Bc := Lib.hid (Bc.out.keep b1 Bc.out.lt)
    replace BB := Lib.hid (BB.out.trans (b1.mono BB.out.size))
    clear b1
    clear Bs_0 Bs_1
    have Bs_0 := Bs.out.cell (k := 0) rfl
    have Bs_1 := Bs.out.cell (k := 1) rfl
    clear Bx_0 Bx_1
    have Bx_0 := Bx.out.cell (k := 0) rfl
    have Bx_1 := Bx.out.cell (k := 1) rfl
    clear Bz_0 Bz_1
    have Bz_0 := Bz.out.cell (k := 0) rfl
    have Bz_1 := Bz.out.cell (k := 1) rfl
    clear Bc_0 Bc_1
    have Bc_0 := Bc.out.cell (k := 0) rfl
    have Bc_1 := Bc.out.cell (k := 1) rfl
    clear Vc
    clear Bc
    clear Bc_0 Bc_1 SXX SFc
    go_wp2_with fail
    refine (orb.so_impl (.agg #[.slice Ps N cs, .slice Qs N ds]) r u (.agg #[.slice Pz N cz, .slice Qz N dz]) zr zu _ _ _ Vs.out.rd Vz.out.rd (by rw [SFs.out.lr]; omega) (by rw [SFs.out.lu]; omega) (by rw [SFz.out.lr]; omega) (by rw [SFz.out.lu]; omega)).mono ?_
    rintro e w15_ ⟨rfl, b1⟩
    rw [SO1.out]
    have s15 := b1.size
    replace Vs := Lib.hid (Vs.out.keep b1 Vs.out.top)
    replace Bs := Lib.hid (Bs.out.keep b1 Bs.out.lt)
    replace Ll := Lib.hid (Ll.out.keep b1 Ll.out.top)
    replace Vx := Lib.hid (Vx.out.keep b1 Vx.out.top)
    replace Bx := Lib.hid (Bx.out.keep b1 Bx.out.lt)
    replace Vz := Lib.hid (Vz.out.keep b1 Vz.out.top)
    replace Bz := Lib.hid (Bz.out.keep b1 Bz.out.lt)
    replace BB := Lib.hid (BB.out.trans (b1.mono BB.out.size))
    clear b1
    clear Bs_0 Bs_1
    have Bs_0 := Bs.out.cell (k := 0) rfl
    have Bs_1 := Bs.out.cell (k := 1) rfl
    clear Bx_0 Bx_1
    have Bx_0 := Bx.out.cell (k := 0) rfl
    have Bx_1 := Bx.out.cell (k := 1) rfl
    clear Bz_0 Bz_1
    have Bz_0 := Bz.out.cell (k := 0) rfl
    have Bz_1 := Bz.out.cell (k := 1) rfl
    go_wp2_with fail
    refine (orb.so_impl (.agg #[.slice Pz N cz, .slice Qz N dz]) zr zu (.agg #[.slice Ps N cs, .slice Qs N ds]) r u _ _ _ Vz.out.rd Vs.out.rd (by rw [SFz.out.lr]; omega) (by rw [SFz.out.lu]; omega) (by rw [SFs.out.lr]; omega) (by rw [SFs.out.lu]; omega)).mono ?_
    rintro e w16_ ⟨rfl, b1⟩
    rw [SO2.out]
    have s16 := b1.size
    replace Vs := Lib.hid (Vs.out.keep b1 Vs.out.top)
    replace Bs := Lib.hid (Bs.out.keep b1 Bs.out.lt)
    replace Ll := Lib.hid (Ll.out.keep b1 Ll.out.top)
    replace Vx := Lib.hid (Vx.out.keep b1 Vx.out.top)
    replace Bx := Lib.hid (Bx.out.keep b1 Bx.out.lt)
    replace Vz := Lib.hid (Vz.out.keep b1 Vz.out.top)
    replace Bz := Lib.hid (Bz.out.keep b1 Bz.out.lt)
    replace BB := Lib.hid (BB.out.trans (b1.mono BB.out.size))
    clear b1
    clear Bs_0 Bs_1
    have Bs_0 := Bs.out.cell (k := 0) rfl
    have Bs_1 := Bs.out.cell (k := 1) rfl
    clear Bx_0 Bx_1
    have Bx_0 := Bx.out.cell (k := 0) rfl
    have Bx_1 := Bx.out.cell (k := 1) rfl
    clear Bz_0 Bz_1
    have Bz_0 := Bz.out.cell (k := 0) rfl
    have Bz_1 := Bz.out.cell (k := 1) rfl
    clear Vz
    clear Bz
    clear Bz_0 Bz_1 SO1 SO2 SFz
    clear Vs
    clear Bs
    clear Bs_0 Bs_1
    go_wp2_with fail
    refine (orb.idx_impl (.agg #[.slice Px N cx, .slice Qx N dx]) xr xu _ _ Vx.out (by rw [SFx.out.lr]; omega) (by rw [SFx.out.lu]; omega)).mono ?_
    rintro e w17_ ⟨rfl, b1⟩
    rw [IX.out]
    have s17 := b1.size
    replace Ll := Lib.hid (Ll.out.keep b1 Ll.out.top)
    replace Vx := Lib.hid (Vx.out.keep b1 Vx.out.top)
    replace Bx := Lib.hid (Bx.out.keep b1 Bx.out.lt)
    replace BB := Lib.hid (BB.out.trans (b1.mono BB.out.size))
    clear b1
    clear Bx_0 Bx_1
    have Bx_0 := Bx.out.cell (k := 0) rfl
    have Bx_1 := Bx.out.cell (k := 1) rfl
    clear Vx
    clear Bx
    clear Bx_0 Bx_1 IX SFx
    have hcl : q.1.length ≤ cl := by obtain ⟨A', n', c', e', h1', h2', _⟩ := Ll.out.lrd; injection e' with i1 i2 i3; omega
    go_wp2_with fail
    go_loopw [122] (fun i wr => ∃ k : Nat, k ≤ q.1.length ∧ i = .int .i64 k ∧ Hid (orb.Lo wr w2_.heap.size w3_.heap.size (.slice (some ⟨gx, offx, none⟩) q.1.length cl) q.1) ∧ Hid (Below w.heap.size w wr)) (fun i _ => q.1.length - (intOf i).toNat)
    case atStart => exact ⟨0, Nat.zero_le _, rfl, Ll, BB⟩
    case round =>
      clear Ll BB
      obtain ⟨k, hk, rfl, Ll, BB⟩ := hrel
      obtain ⟨w18_, hwr⟩ : ∃ q, q = wr := ⟨_, rfl⟩
      rw [← hwr] at Ll BB ⊢; clear hwr
      by_cases hlt : k < q.1.length
      · obtain ⟨ga, offa, a, Pa, p2, ca, Qa, q2, da, eA, hga, hak, c0a, c1a, xs⟩ := (Ll.out.lrd).at_ (k := k) hlt
        simp only [Option.some.injEq, Addr.mk.injEq, and_true] at eA
        obtain ⟨e1, e2⟩ := eA; rw [← e1, ← e2] at c0a c1a; clear e1 e2 hga
        have SFa := Lib.hid (JQ.out.oi.sf _ (List.mem_of_getElem? hak)); have HAK := Lib.hid hak; have XS := Lib.hid xs; clear xs hak
        obtain ⟨ar, au⟩ := a
        obtain ⟨eN1, eN2⟩ : p2 = N ∧ q2 = N := by obtain ⟨P', n', c', Q', m', d', e', a', b', _⟩ := XS.out; simp at e'; obtain ⟨⟨_, rfl, _⟩, _, rfl, _⟩ := e'; have h1 := a'.1; have h2 := b'.1; simp [V] at h1 h2; exact ⟨by rw [← h1]; exact SFa.out.lr, by rw [← h2]; exact SFa.out.lu⟩
        rw [eN1] at c0a XS; rw [eN2] at c1a XS; clear eN1 eN2
        have Va := XS; clear XS
        go_wp2_with (refine wpList_store_row rfl 25 _ _ rfl w18_.heap.size #[.slice Pa N ca, .slice Qa N da] rfl rfl 25 #[.slice none 0 0, .slice none 0 0] (Arr.new w18_ [.slice none 0 0, .slice none 0 0] _ rfl) size2 rfl (by simp [Value.oneCell']) ?_; generalize hw : (w18_.alloc (.cells #[.slice none 0 0, .slice none 0 0] 25)).setRow w18_.heap.size #[.slice Pa N ca, .slice Qa N da] = w19_; have NB : Hid (Arr w19_ w18_.heap.size [.slice Pa N ca, .slice Qa N da] 25) := Lib.hid (by rw [← hw]; exact (Arr.new w18_ [.slice none 0 0, .slice none 0 0] _ rfl).row); have b1 : Below w18_.heap.size w18_ w19_ := (by rw [← hw]; exact below_setRow ((Below.refl _ _).alloc (Nat.le_refl _) _) (Nat.le_refl _) _); have t19 : w18_.heap.size + 1 ≤ w19_.heap.size := (by rw [← hw]; simp); clear hw; have s19 := b1.size; replace Ll := Lib.hid (Ll.out.keep b1 Ll.out.top); replace Va := Lib.hid (Va.out.keep b1 Va.out.top); replace BB := Lib.hid (BB.out.trans (b1.mono BB.out.size)); clear b1; have Ba := NB; clear NB; have Ba_0 := Ba.out.cell (k := 0) rfl; have Ba_1 := Ba.out.cell (k := 1) rfl)
        clear c0a c1a
        go_wp2_with fail
        go_loopw [131] (fun i wr => ∃ j : Nat, j ≤ k ∧ i = .int .i64 j ∧ Hid (orb.Lo wr w2_.heap.size w3_.heap.size (.slice (some ⟨gx, offx, none⟩) q.1.length cl) q.1) ∧ Hid (Below w.heap.size w wr) ∧ Hid (Arr wr w18_.heap.size [.slice Pa N ca, .slice Qa N da] 25) ∧ Hid (Srd wr w18_.heap.size (.agg #[.slice Pa N ca, .slice Qa N da]) ar au)) (fun i _ => k - (intOf i).toNat)
        case atStart => exact ⟨0, Nat.zero_le _, rfl, Ll, BB, Ba, Va⟩
        case round =>
          clear Ba_0 Ba_1 Ll BB Ba Va
          obtain ⟨j, hj, rfl, Ll, BB, Ba, Va⟩ := hrel
          obtain ⟨w20_, hwr⟩ : ∃ q, q = wr := ⟨_, rfl⟩
          rw [← hwr] at Ll BB Ba Va ⊢; clear hwr
          have Ba_0 := Ba.out.cell (k := 0) rfl
          have Ba_1 := Ba.out.cell (k := 1) rfl
          by_cases hlt2 : j < k
          · obtain ⟨gb, offb, b, Pb, p2, cb, Qb, q2, db, eA, hgb, hbk, c0b, c1b, xs⟩ := (Ll.out.lrd).at_ (k := j) (by omega)
            simp only [Option.some.injEq, Addr.mk.injEq, and_true] at eA
            obtain ⟨e1, e2⟩ := eA; rw [← e1, ← e2] at c0b c1b; clear e1 e2 hgb
            have SFb := Lib.hid (JQ.out.oi.sf _ (List.mem_of_getElem? hbk)); have HBK := Lib.hid hbk; have XS := Lib.hid xs; clear xs hbk
            obtain ⟨br, bu⟩ := b
            obtain ⟨eN1, eN2⟩ : p2 = N ∧ q2 = N := by obtain ⟨P', n', c', Q', m', d', e', a', b', _⟩ := XS.out; simp at e'; obtain ⟨⟨_, rfl, _⟩, _, rfl, _⟩ := e'; have h1 := a'.1; have h2 := b'.1; simp [V] at h1 h2; exact ⟨by rw [← h1]; exact SFb.out.lr, by rw [← h2]; exact SFb.out.lu⟩
            rw [eN1] at c0b XS; rw [eN2] at c1b XS; clear eN1 eN2
            have Vb := XS; clear XS
            go_wp2_with (refine wpList_store_row rfl 25 _ _ rfl w20_.heap.size #[.slice Pb N cb, .slice Qb N db] rfl rfl 25 #[.slice none 0 0, .slice none 0 0] (Arr.new w20_ [.slice none 0 0, .slice none 0 0] _ rfl) size2 rfl (by simp [Value.oneCell']) ?_; generalize hw : (w20_.alloc (.cells #[.slice none 0 0, .slice none 0 0] 25)).setRow w20_.heap.size #[.slice Pb N cb, .slice Qb N db] = w21_; have NB : Hid (Arr w21_ w20_.heap.size [.slice Pb N cb, .slice Qb N db] 25) := Lib.hid (by rw [← hw]; exact (Arr.new w20_ [.slice none 0 0, .slice none 0 0] _ rfl).row); have b1 : Below w20_.heap.size w20_ w21_ := (by rw [← hw]; exact below_setRow ((Below.refl _ _).alloc (Nat.le_refl _) _) (Nat.le_refl _) _); have t21 : w20_.heap.size + 1 ≤ w21_.heap.size := (by rw [← hw]; simp); clear hw; have s21 := b1.size; replace Ll := Lib.hid (Ll.out.keep b1 Ll.out.top); replace Va := Lib.hid (Va.out.keep b1 Va.out.top); replace Ba := Lib.hid (Ba.out.keep b1 Ba.out.lt); replace Vb := Lib.hid (Vb.out.keep b1 Vb.out.top); replace BB := Lib.hid (BB.out.trans (b1.mono BB.out.size)); clear b1; clear Ba_0 Ba_1; have Ba_0 := Ba.out.cell (k := 0) rfl; have Ba_1 := Ba.out.cell (k := 1) rfl; have Bb := NB; clear NB; have Bb_0 := Bb.out.cell (k := 0) rfl; have Bb_1 := Bb.out.cell (k := 1) rfl)
            clear c0b c1b
            have NE : Hid (sameF ar au br bu = false) := Lib.hid (by rw [orb.same_eq, decide_eq_false_iff_not]; intro e; have h1 := HAK.out; rw [e] at h1; have := orb.nd_at JQ.out.nd h1 HBK.out; omega)
            go_wp2_with fail
            refine (same_impl (.agg #[.slice Pa N ca, .slice Qa N da]) ar au (.agg #[.slice Pb N cb, .slice Qb N db]) br bu _ _ _ Va.out Vb.out (by rw [SFa.out.lr]; omega) (by rw [SFa.out.lu]; omega) (by rw [SFb.out.lr]; omega) (by rw [SFb.out.lu]; omega)).mono ?_
            rintro e w22_ ⟨rfl, b1⟩
            rw [NE.out]
            have s22 := b1.size
            replace Ll := Lib.hid (Ll.out.keep b1 Ll.out.top)
            replace Va := Lib.hid (Va.out.keep b1 Va.out.top)
            replace Ba := Lib.hid (Ba.out.keep b1 Ba.out.lt)
            replace Vb := Lib.hid (Vb.out.keep b1 Vb.out.top)
            replace Bb := Lib.hid (Bb.out.keep b1 Bb.out.lt)
            replace BB := Lib.hid (BB.out.trans (b1.mono BB.out.size))
            clear b1
            clear Ba_0 Ba_1
            have Ba_0 := Ba.out.cell (k := 0) rfl
            have Ba_1 := Ba.out.cell (k := 1) rfl
            clear Bb_0 Bb_1
            have Bb_0 := Bb.out.cell (k := 0) rfl
            have Bb_1 := Bb.out.cell (k := 1) rfl
            go_wp2_with fail
            go_roundw
            case rel => exact ⟨j + 1, by omega, by go_num, Ll, BB, Ba, Va⟩
            case measure => simp [intOf]; omega
          · obtain rfl : j = k := by omega
            go_wp2_with fail
            go_roundw
            case rel => exact ⟨j + 1, by omega, by go_num, Ll, BB⟩
            case measure => simp [intOf]; omega
      · obtain rfl : k = q.1.length := by omega
        go_wp2_with fail
        go_ret
        exact ⟨rfl, BB.out⟩
set_option maxRecDepth 100000 in
theorem lifted (os : Os) (started : os.Started) (H : Type) (enc : TypeId × Value → H) :
    ReturnsInLeavingWide {} Try.checked os 3 .any (Rows.fnOrbitsSpec.pre6 enc Try.prog Try.f3 Rows.fnOrbitsRow.domain false) (Rows.fnOrbitsSpec.post enc Try.prog Try.f3 false true false false) := by
  refine returnsInLeavingWide_of_change_sized (C := Try.checked) own started Try.func3
    (ChangeSpec.witness6 (enc := enc) (C := Try.checked) false ⟨#[], #[.slice none 0 0], []⟩ 8 (by kernel_rfl) (by kernel_rfl) (by kernel_rfl) (by kernel_rfl)) ?_
  intro W base args ds gs before hval0 hW hcnd _ _
  have hval : ∀ (j : Nat) t v, Try.f3.params[j]? = some t → args[j]? = some v → Value.okWide Try.prog W .any base t v := hval0
  have hW' := hW
  obtain ⟨p, q, hA0, hV, rfl, hfz, hnd⟩ := hW
  have hA : DataW.TrodAll enc Try.prog W 0 (fun _ => true) true Try.f3.params.toList args.toList ds p := hA0
  rw [Try.params3] at hA hval
  obtain ⟨v0, vs0, d0, ds0, p0, q0, hargs, rfl, rfl, h0, r0⟩ := trodAll_cons hA
  obtain ⟨rfl, rfl, rfl⟩ := trodAll_nil r0
  obtain rfl : args = #[v0] := by cases args; simp_all
  obtain ⟨rfl, rfl⟩ := trodVars_none hV
  obtain ⟨A0, n0, c0, rfl⟩ := okWide_slice Try.underlying22 (hval 0 22 v0 rfl rfl)
  have lt0 : ∀ x ∈ p0, x.block < W.heap.size := by obtain ⟨m, hm⟩ := h0; exact DataW.trod_lt m _ _ _ hm
  obtain ⟨x0, rd0, cn0, cm0, el0⟩ := open_B Try.underlying22 Try.underlying5 (by kernel_rfl) h0
  clear hA0 hval0
  obtain ⟨m0, A0q, wn0, sr0⟩ := sqb.bytes_new (sq.wn_nil W) rd0 (hval 0 22 _ rfl rfl)
  have q0q := sr0 #[]
  rw [Array.append_empty] at q0q
  obtain ⟨M, last, oc, wl, tl, k1, k2, k3, k4⟩ := sqw.run (g := 3) (by decide +kernel) (args := #[.slice A0q n0 c0]) (args' := #[.slice A0 n0 c0]) (ws := #[] ++ m0) wn0 (fun C => @AR.one C _ _ _ (q0q.2.1 C)) (fun C => @AR.one C _ _ _ (q0q.2.2 C))
    (fun τ => (walk (w := sq.retape τ (sq.wnW W (#[] ++ m0))) A0q n0 c0 x0 (q0q.1 τ) cn0 cm0 el0).mono fun e w' he => he.1)
  refine ⟨M, last, oc, wl, tl, k1, k2, k3, k4.mono fun v ⟨hv, bel⟩ => ?_⟩
  subst hv
  exact ⟨_, _, _, [], _, [], hW', trodAll_mk1 (shut_bool Try.underlying4 _), (trodAll_cons_mk (Below.trod laidOut (by kernel_rfl) (of_decide_eq_true (by kernel_rfl)) h0 bel lt0) trodAll_mk0), rfl, bel.frame _, fun h => by cases h⟩
theorem over : Rows.fnOrbitsRow.holds Try.pinned (OpenSpec.ofChange Rows.fnOrbitsSpec) :=
  OpenClaim.holds_of_wide_leaving 3 Try.f3 rfl rfl rfl rfl rfl rfl rfl ⟨rfl, rfl, rfl, rfl, rfl⟩ rfl rfl rfl rfl rfl (by kernel_rfl) Try.func3 (by kernel_rfl)
    (of_decide_eq_true (by kernel_rfl)) (by unfold Func.isWrapper; first | (rw [if_pos (by decide +kernel)]; kernel_rfl) | (rw [if_neg (by decide +kernel)]; exact ⟨rfl, rfl⟩))
    (fun os started H enc _ => lifted os started H enc)
theorem proved : Rows.FnOrbitsSaid :=
  over
#print axioms proved
end Go.Proofs.Ytgcnemkhppkkcaa.fnOrbits
