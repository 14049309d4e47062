/-
  FnActions: at every argument the law FnActions returns true, and its arguments read as before. No condition.
-/
import Derived.Test.YtdoohnphgembdaaRows
import Derived.WalkKit
import Derived.ProofKit
import Derived.OpenShut
import Derived.ShutString
import Derived.ChangeOld
import Derived.Below
import Derived.Test.YtdoohnphgembdaaME
import Derived.Test.YtdoohnphgembdaaActM
import Derived.Test.YtdoohnphgembdaaMw
import Derived.Test.YtdoohnphgembdaaMC
import Derived.Deep.CutRange
namespace Go.Proofs.Ytdoohnphgembdaa.fnActions
open Go.ChangeShapes Go.WideShapes Go.ChangeAt Go.RowKit
open Go.ChangeMaps (open_string shut_string)
open Go.Proofs.Ytdoohnphgembdaa.mem Go.Proofs.Ytdoohnphgembdaa.ints Go.Proofs.Ytdoohnphgembdaa.arr Go.Proofs.Ytdoohnphgembdaa.sf Go.Proofs.Ytdoohnphgembdaa.pm Go.Proofs.Ytdoohnphgembdaa.permOk Go.Proofs.Ytdoohnphgembdaa.permOf Go.Proofs.Ytdoohnphgembdaa.fns Go.Proofs.Ytdoohnphgembdaa.gl Go.Proofs.Ytdoohnphgembdaa.cur Go.Proofs.Ytdoohnphgembdaa.cn Go.Proofs.Ytdoohnphgembdaa.mk Go.Proofs.Ytdoohnphgembdaa.lw Go.Proofs.Ytdoohnphgembdaa.am Go.Proofs.Ytdoohnphgembdaa.rw
set_option linter.unusedVariables false
set_option maxRecDepth 100000

theorem own : ownKnob Try.prog.godebug = none := by kernel_rfl
theorem laidOut : laidOutB Try.prog = true := by kernel_rfl

set_option maxRecDepth 100000 in
set_option maxHeartbeats 4000000 in
theorem walk (w : World) (A : Option Addr) (n c : Nat) (l : List Int) (rd : Rd w w.heap.size A n (U l)) (cn : n ≤ c) (cm : c ≤ maxLen) (el : Bytes l) :
    Calls Try.prog 3 #[.slice A n c] w fun e w' => e = .returned (.bool true) ∧ Below w.heap.size w w' := by
  have RD := Lib.hid rd; have EL := Lib.hid el; clear rd el
  unfold maxLen at cm
  by_cases b0 : 1048576 < n
  · clear RD EL
    go_enter Try.func3, Try.ntmps3
    go_wp2_with fail
    go_ret
    exact ⟨rfl, Below.refl _ _⟩
  have hd0 : decide (1048576 < (n : Int)) = false := by simp; omega
  have HC := Lib.hid (cur.Code.mk RD.out EL.out (by omega)); clear RD EL
  have BB := Lib.hid (Below.refl w.heap.size w)
  go_enter Try.func3, Try.ntmps3
  go_wp2_with fail
  refine (mk.make_any _ _ A n c l HC.out).mono ?_
  rintro e w1_ ⟨v, r, u, N, hN, sf, rfl, sv, b1⟩
  have SFs := Lib.hid sf; clear sf
  have N1 : 1 ≤ N := SFs.out.pos
  obtain ⟨Ps, cs, Qs, ds, rfl⟩ := sv.lens SFs.out.lr SFs.out.lu
  have NR := Lib.hid sv; clear sv
  have s1 := b1.size
  replace BB := Lib.hid (BB.out.trans (b1.mono BB.out.size))
  clear b1
  have Vs := NR; clear NR
  go_wp2_with (refine wpList_store_row rfl 25 _ _ rfl w1_.heap.size #[.slice Ps N cs, .slice Qs N ds] rfl rfl 25 #[.slice none 0 0, .slice none 0 0] (Arr.new w1_ [.slice none 0 0, .slice none 0 0] _ rfl) size2 rfl (by simp [Value.oneCell']) ?_; generalize hw : (w1_.alloc (.cells #[.slice none 0 0, .slice none 0 0] 25)).setRow w1_.heap.size #[.slice Ps N cs, .slice Qs N ds] = w2_; have NB : Hid (Arr w2_ w1_.heap.size [.slice Ps N cs, .slice Qs N ds] 25) := Lib.hid (by rw [← hw]; exact (Arr.new w1_ [.slice none 0 0, .slice none 0 0] _ rfl).row); have b1 : Below w1_.heap.size w1_ w2_ := (by rw [← hw]; exact below_setRow ((Below.refl _ _).alloc (Nat.le_refl _) _) (Nat.le_refl _) _); have t2 : w1_.heap.size + 1 ≤ w2_.heap.size := (by rw [← hw]; simp); clear hw; have s2 := b1.size; replace Vs := Lib.hid (Vs.out.keep b1 Vs.out.top); replace BB := Lib.hid (BB.out.trans (b1.mono BB.out.size)); clear b1; have Bs := NB; clear NB; have Bs_0 := Bs.out.cell (k := 0) rfl; have Bs_1 := Bs.out.cell (k := 1) rfl)
  go_wp2_with fail
  refine (makeW_any _ _ A n c l 40 (by omega) (HC.out.keep BB.out (Nat.le_refl _))).mono ?_
  rintro e w3_ ⟨wd0, hwd, rfl, b1⟩
  have hw6 : wd0.size ≤ 6 := hwd.1
  have WK := Lib.hid (hwd.ok (by omega)); clear hwd
  have s3 := b1.size
  replace Vs := Lib.hid (Vs.out.keep b1 Vs.out.top)
  replace Bs := Lib.hid (Bs.out.keep b1 Bs.out.lt)
  replace BB := Lib.hid (BB.out.trans (b1.mono BB.out.size))
  clear b1
  clear Bs_0 Bs_1
  have Bs_0 := Bs.out.cell (k := 0) rfl
  have Bs_1 := Bs.out.cell (k := 1) rfl
  obtain ⟨rx, ux, sx, x1, x2, x3, y1, y2, y3⟩ := am_x SFs.out WK.out
  have SFx := Lib.hid sx; have X1 := Lib.hid x1; have X2 := Lib.hid x2; have X3 := Lib.hid x3; have Y1 := Lib.hid y1; have Y2 := Lib.hid y2; have Y3 := Lib.hid y3; clear sx x1 x2 x3 y1 y2 y3
  go_wp2_with fail
  refine (rw.rw_impl (.agg #[.slice Ps N cs, .slice Qs N ds]) r u wd0 _ _ Vs.out.rd (by rw [SFs.out.lr]; omega) (by rw [SFs.out.lu]; omega) (by omega)).mono ?_
  rintro e w4_ ⟨v, rfl, sv, b1⟩
  rw [X1.out]
  rw [X2.out, X3.out] at sv
  obtain ⟨Px, cx, Qx, dx, rfl⟩ := sv.lens SFx.out.lr SFx.out.lu
  have NR := Lib.hid sv; clear sv
  have s4 := b1.size
  replace Vs := Lib.hid (Vs.out.keep b1 Vs.out.top)
  replace Bs := Lib.hid (Bs.out.keep b1 Bs.out.lt)
  replace BB := Lib.hid (BB.out.trans (b1.mono BB.out.size))
  clear b1
  clear Bs_0 Bs_1
  have Bs_0 := Bs.out.cell (k := 0) rfl
  have Bs_1 := Bs.out.cell (k := 1) rfl
  have Vx := NR; clear NR
  go_wp2_with (refine wpList_store_row rfl 25 _ _ rfl w4_.heap.size #[.slice Px N cx, .slice Qx N dx] rfl rfl 25 #[.slice none 0 0, .slice none 0 0] (Arr.new w4_ [.slice none 0 0, .slice none 0 0] _ rfl) size2 rfl (by simp [Value.oneCell']) ?_; generalize hw : (w4_.alloc (.cells #[.slice none 0 0, .slice none 0 0] 25)).setRow w4_.heap.size #[.slice Px N cx, .slice Qx N dx] = w5_; have NB : Hid (Arr w5_ w4_.heap.size [.slice Px N cx, .slice Qx N dx] 25) := Lib.hid (by rw [← hw]; exact (Arr.new w4_ [.slice none 0 0, .slice none 0 0] _ rfl).row); have b1 : Below w4_.heap.size w4_ w5_ := (by rw [← hw]; exact below_setRow ((Below.refl _ _).alloc (Nat.le_refl _) _) (Nat.le_refl _) _); have t5 : w4_.heap.size + 1 ≤ w5_.heap.size := (by rw [← hw]; simp); clear hw; have s5 := b1.size; replace Vs := Lib.hid (Vs.out.keep b1 Vs.out.top); replace Bs := Lib.hid (Bs.out.keep b1 Bs.out.lt); replace Vx := Lib.hid (Vx.out.keep b1 Vx.out.top); replace BB := Lib.hid (BB.out.trans (b1.mono BB.out.size)); clear b1; clear Bs_0 Bs_1; have Bs_0 := Bs.out.cell (k := 0) rfl; have Bs_1 := Bs.out.cell (k := 1) rfl; have Bx := NB; clear NB; have Bx_0 := Bx.out.cell (k := 0) rfl; have Bx_1 := Bx.out.cell (k := 1) rfl)
  go_wp2_with fail
  have hsz : 0 ≤ w5_.heap.size := Nat.zero_le _
  go_cut [7, 8] from 38 to 44 (fun p q wx => ∃ g Py cy Qy dy lo hi, p = .pointer (some ⟨g, 0, none⟩) ∧ q = .bool true ∧ w5_.heap.size ≤ g ∧ w5_.heap.size ≤ lo ∧ Hid (Arr wx g [.slice Py N cy, .slice Qy N dy] 25) ∧ Hid (Svl wx lo hi (.agg #[.slice Py N cy, .slice Qy N dy]) r u) ∧ Hid (Below w5_.heap.size w5_ wx))
  case first =>
    refine wp_region_held_drew (S := Hld w5_.heap.size w5_.heap.size w5_ [(w4_.heap.size, [.slice Px N cx, .slice Qx N dx])]) (by kernel_rfl) (Hld.start1 Bx.out) (fun hHeld => ?_)
    have b0 : Below w5_.heap.size w5_ w5_.drew := ⟨rfl, rfl, rfl, Nat.le_refl _, fun _ _ => rfl⟩
    generalize w5_.drew = v0 at *
    have s_0 := b0.size
    replace Vx := Lib.hid (Vx.out.keep b0 Vx.out.top)
    have BW := Lib.hid b0; clear b0
    refine wpAnyH_take (i := 0) (v := .agg #[.slice Px N cx, .slice Qx N dx]) rfl (by kernel_rfl) (by kernel_rfl) (by kernel_rfl) (fun _ _ _ h => h) (Or.inl ⟨by rfl, fun w hSw => by have h0 := hSw.c0; have h1 := hSw.c1; go_simp⟩) hHeld ?_
    refine wpAnyH_take (i := 1) (v := .string wd0) rfl (by kernel_rfl) (by kernel_rfl) (by kernel_rfl) (fun _ _ _ h => h) (Or.inl ⟨by rfl, fun w hSw => by go_simp⟩) hHeld ?_
    refine wpAnyH_ready (rs := [2, 7]) (by kernel_rfl) (by simp) (AllReadyH.cons rfl (fun K hK => ?_) (AllReadyH.cons rfl (fun K hK => ?_) AllReadyH.nil))
    · go_simp
      refine (iw.iw_impl wd0 _ (by omega)).mono ?_
      rintro e v1 ⟨rfl, b1⟩
      have s_1 := b1.size
      replace BW := Lib.hid (BW.out.trans (b1.mono BW.out.size))
      replace Vx := Lib.hid (Vx.out.keep b1 Vx.out.top)
      go_wp2_with fail
      have hHeld2 := hHeld.later b1 (by omega); clear b1 hHeld
      refine hK.out _ _ hHeld2 (fun hHeld => ?_)
      clear hK K hHeld2
      refine wpAnyH_ready (rs := [3, 7]) (by kernel_rfl) (by simp) (AllReadyH.cons rfl (fun K hK => ?_) (AllReadyH.cons rfl (fun K hK => ?_) AllReadyH.nil))
      · go_simp
        refine (rw.rw_impl (.agg #[.slice Px N cx, .slice Qx N dx]) rx ux (iw.iwF wd0) _ _ Vx.out.rd (by rw [SFx.out.lr]; omega) (by rw [SFx.out.lu]; omega) (iw_small WK.out)).mono ?_
        rintro e v2 ⟨v, rfl, sv, b1⟩
        rw [Y1.out]
        rw [Y2.out, Y3.out] at sv
        obtain ⟨Py, cy, Qy, dy, rfl⟩ := sv.lens SFs.out.lr SFs.out.lu
        have VY := Lib.hid sv; clear sv
        have s_2 := b1.size
        replace BW := Lib.hid (BW.out.trans (b1.mono BW.out.size))
        replace Vx := Lib.hid (Vx.out.keep b1 Vx.out.top)
        go_wp2_with fail
        have hHeld2 := hHeld.later b1 (by omega); clear b1 hHeld
        refine hK.out _ _ hHeld2 (fun hHeld => ?_)
        clear hK K hHeld2
        refine wpAnyH_take (i := 4) (v := .tuple #[.agg #[.slice Py N cy, .slice Qy N dy], .bool true]) rfl (by kernel_rfl) (by kernel_rfl) (by kernel_rfl) (fun _ _ _ h => h) (Or.inl ⟨by kernel_rfl, fun w hSw => by go_simp⟩) hHeld ?_
        refine wpAnyH_take (i := 5) (v := .agg #[.slice Py N cy, .slice Qy N dy]) rfl (by kernel_rfl) (by kernel_rfl) (by kernel_rfl) (fun _ _ _ h => h) (Or.inl ⟨by kernel_rfl, fun w hSw => by go_simp⟩) hHeld ?_
        refine wpAnyH_take (i := 6) (v := .bool true) rfl (by kernel_rfl) (by kernel_rfl) (by kernel_rfl) (fun _ _ _ h => h) (Or.inl ⟨by kernel_rfl, fun w hSw => by go_simp⟩) hHeld ?_
        refine wpAnyH_ready (rs := [7]) (by kernel_rfl) (by simp) (AllReadyH.cons rfl (fun K hK => ?_) AllReadyH.nil)
        go_simp
        generalize hwa : v2.alloc (.cells #[.slice none 0 0, .slice none 0 0] 25) = v3
        have b1 : Below v2.heap.size v2 v3 := by rw [← hwa]; exact (Below.refl _ _).alloc (Nat.le_refl _) _
        have AL : Hid (Arr v3 v2.heap.size [.slice none 0 0, .slice none 0 0] 25) := Lib.hid (by rw [← hwa]; exact Arr.new _ _ _ rfl)
        have s_3 : v2.heap.size + 1 ≤ v3.heap.size := by rw [← hwa]; simp
        clear hwa
        replace BW := Lib.hid (BW.out.trans (b1.mono BW.out.size))
        replace Vx := Lib.hid (Vx.out.keep b1 Vx.out.top)
        replace VY := Lib.hid (VY.out.keep b1 VY.out.top)
        have hHeld2 := hHeld.later b1 (by omega); clear b1 hHeld
        refine hK.out _ _ hHeld2 (fun hHeld => ?_)
        clear hK K hHeld2
        refine wpAnyH_ready (rs := [8]) (by kernel_rfl) (by simp) (AllReadyH.cons rfl (fun K hK => ?_) AllReadyH.nil)
        refine step_store_row rfl 25 _ _ rfl (v2.heap.size) #[.slice Py N cy, .slice Qy N dy] rfl rfl 25 #[.slice none 0 0, .slice none 0 0] AL.out size2 rfl (by simp [Value.oneCell']) ?_
        change K (Act.put _ none _) _
        simp only [Act.put]
        refine hK.out _ _ (hHeld.other (by omega) (by simp; omega) _) (fun hHeld2 => ?_)
        clear hK K hHeld
        refine wpAnyH_take (i := 9) (v := .bool true) rfl (by kernel_rfl) (by kernel_rfl) (by kernel_rfl) (fun _ _ _ h => h) (Or.inl ⟨by kernel_rfl, fun w hSw => by go_simp⟩) hHeld2 ?_
        refine wpAnyH_done (by kernel_rfl) ?_ _
        clear hHeld2
        go_wp2_with fail
        go_meet
        exact ⟨_, _, _, _, _, _, _, rfl, rfl, by omega, by omega, Lib.hid AL.out.row, Lib.hid (VY.out.out ((Out.refl (v2.heap.size) (v2.heap.size + 1) _).row_ (Nat.le_refl _) (Nat.lt_succ_self _) _) (by omega)), Lib.hid (below_setRow BW.out (by omega) _)⟩
      · go_simp
        generalize hwa : v1.alloc (.cells #[.slice none 0 0, .slice none 0 0] 25) = v2
        have b1 : Below v1.heap.size v1 v2 := by rw [← hwa]; exact (Below.refl _ _).alloc (Nat.le_refl _) _
        have AL : Hid (Arr v2 v1.heap.size [.slice none 0 0, .slice none 0 0] 25) := Lib.hid (by rw [← hwa]; exact Arr.new _ _ _ rfl)
        have s_2 : v1.heap.size + 1 ≤ v2.heap.size := by rw [← hwa]; simp
        clear hwa
        replace BW := Lib.hid (BW.out.trans (b1.mono BW.out.size))
        replace Vx := Lib.hid (Vx.out.keep b1 Vx.out.top)
        have hHeld2 := hHeld.later b1 (by omega); clear b1 hHeld
        refine hK.out _ _ hHeld2 (fun hHeld => ?_)
        clear hK K hHeld2
        refine wpAnyH_ready (rs := [3]) (by kernel_rfl) (by simp) (AllReadyH.cons rfl (fun K hK => ?_) AllReadyH.nil)
        go_simp
        refine (rw.rw_impl (.agg #[.slice Px N cx, .slice Qx N dx]) rx ux (iw.iwF wd0) _ _ Vx.out.rd (by rw [SFx.out.lr]; omega) (by rw [SFx.out.lu]; omega) (iw_small WK.out)).mono ?_
        rintro e v3 ⟨v, rfl, sv, b1⟩
        rw [Y1.out]
        rw [Y2.out, Y3.out] at sv
        obtain ⟨Py, cy, Qy, dy, rfl⟩ := sv.lens SFs.out.lr SFs.out.lu
        have VY := Lib.hid sv; clear sv
        have s_3 := b1.size
        replace BW := Lib.hid (BW.out.trans (b1.mono BW.out.size))
        replace Vx := Lib.hid (Vx.out.keep b1 Vx.out.top)
        replace AL := Lib.hid (AL.out.keep b1 AL.out.lt)
        go_wp2_with fail
        have hHeld2 := hHeld.later b1 (by omega); clear b1 hHeld
        refine hK.out _ _ hHeld2 (fun hHeld => ?_)
        clear hK K hHeld2
        refine wpAnyH_take (i := 4) (v := .tuple #[.agg #[.slice Py N cy, .slice Qy N dy], .bool true]) rfl (by kernel_rfl) (by kernel_rfl) (by kernel_rfl) (fun _ _ _ h => h) (Or.inl ⟨by kernel_rfl, fun w hSw => by go_simp⟩) hHeld ?_
        refine wpAnyH_take (i := 5) (v := .agg #[.slice Py N cy, .slice Qy N dy]) rfl (by kernel_rfl) (by kernel_rfl) (by kernel_rfl) (fun _ _ _ h => h) (Or.inl ⟨by kernel_rfl, fun w hSw => by go_simp⟩) hHeld ?_
        refine wpAnyH_take (i := 6) (v := .bool true) rfl (by kernel_rfl) (by kernel_rfl) (by kernel_rfl) (fun _ _ _ h => h) (Or.inl ⟨by kernel_rfl, fun w hSw => by go_simp⟩) hHeld ?_
        refine wpAnyH_ready (rs := [8]) (by kernel_rfl) (by simp) (AllReadyH.cons rfl (fun K hK => ?_) AllReadyH.nil)
        refine step_store_row rfl 25 _ _ rfl (v1.heap.size) #[.slice Py N cy, .slice Qy N dy] rfl rfl 25 #[.slice none 0 0, .slice none 0 0] AL.out size2 rfl (by simp [Value.oneCell']) ?_
        change K (Act.put (Act.put (Act.put (Act.put _ (some 38) _) (some 43) _) (some 44) _) none _) _
        simp only [Act.put, List.setIfInBounds_toArray, List.set_cons_zero, List.set_cons_succ]
        refine hK.out _ _ (hHeld.other (by omega) (by simp; omega) _) (fun hHeld2 => ?_)
        clear hK K hHeld
        refine wpAnyH_take (i := 9) (v := .bool true) rfl (by kernel_rfl) (by kernel_rfl) (by kernel_rfl) (fun _ _ _ h => h) (Or.inl ⟨by kernel_rfl, fun w hSw => by go_simp⟩) hHeld2 ?_
        refine wpAnyH_done (by kernel_rfl) ?_ _
        clear hHeld2
        go_wp2_with fail
        go_meet
        exact ⟨_, _, _, _, _, _, _, rfl, rfl, by omega, by omega, Lib.hid AL.out.row, Lib.hid (VY.out.out ((Out.refl (v1.heap.size) (v1.heap.size + 1) _).row_ (Nat.le_refl _) (Nat.lt_succ_self _) _) (by omega)), Lib.hid (below_setRow BW.out (by omega) _)⟩
    · go_simp
      generalize hwa : v0.alloc (.cells #[.slice none 0 0, .slice none 0 0] 25) = v1
      have b1 : Below v0.heap.size v0 v1 := by rw [← hwa]; exact (Below.refl _ _).alloc (Nat.le_refl _) _
      have AL : Hid (Arr v1 v0.heap.size [.slice none 0 0, .slice none 0 0] 25) := Lib.hid (by rw [← hwa]; exact Arr.new _ _ _ rfl)
      have s_1 : v0.heap.size + 1 ≤ v1.heap.size := by rw [← hwa]; simp
      clear hwa
      replace BW := Lib.hid (BW.out.trans (b1.mono BW.out.size))
      replace Vx := Lib.hid (Vx.out.keep b1 Vx.out.top)
      have hHeld2 := hHeld.later b1 (by omega); clear b1 hHeld
      refine hK.out _ _ hHeld2 (fun hHeld => ?_)
      clear hK K hHeld2
      refine wpAnyH_ready (rs := [2]) (by kernel_rfl) (by simp) (AllReadyH.cons rfl (fun K hK => ?_) AllReadyH.nil)
      go_simp
      refine (iw.iw_impl wd0 _ (by omega)).mono ?_
      rintro e v2 ⟨rfl, b1⟩
      have s_2 := b1.size
      replace BW := Lib.hid (BW.out.trans (b1.mono BW.out.size))
      replace Vx := Lib.hid (Vx.out.keep b1 Vx.out.top)
      replace AL := Lib.hid (AL.out.keep b1 AL.out.lt)
      go_wp2_with fail
      have hHeld2 := hHeld.later b1 (by omega); clear b1 hHeld
      refine hK.out _ _ hHeld2 (fun hHeld => ?_)
      clear hK K hHeld2
      refine wpAnyH_ready (rs := [3]) (by kernel_rfl) (by simp) (AllReadyH.cons rfl (fun K hK => ?_) AllReadyH.nil)
      go_simp
      refine (rw.rw_impl (.agg #[.slice Px N cx, .slice Qx N dx]) rx ux (iw.iwF wd0) _ _ Vx.out.rd (by rw [SFx.out.lr]; omega) (by rw [SFx.out.lu]; omega) (iw_small WK.out)).mono ?_
      rintro e v3 ⟨v, rfl, sv, b1⟩
      rw [Y1.out]
      rw [Y2.out, Y3.out] at sv
      obtain ⟨Py, cy, Qy, dy, rfl⟩ := sv.lens SFs.out.lr SFs.out.lu
      have VY := Lib.hid sv; clear sv
      have s_3 := b1.size
      replace BW := Lib.hid (BW.out.trans (b1.mono BW.out.size))
      replace Vx := Lib.hid (Vx.out.keep b1 Vx.out.top)
      replace AL := Lib.hid (AL.out.keep b1 AL.out.lt)
      go_wp2_with fail
      have hHeld2 := hHeld.later b1 (by omega); clear b1 hHeld
      refine hK.out _ _ hHeld2 (fun hHeld => ?_)
      clear hK K hHeld2
      refine wpAnyH_take (i := 4) (v := .tuple #[.agg #[.slice Py N cy, .slice Qy N dy], .bool true]) rfl (by kernel_rfl) (by kernel_rfl) (by kernel_rfl) (fun _ _ _ h => h) (Or.inl ⟨by kernel_rfl, fun w hSw => by go_simp⟩) hHeld ?_
      refine wpAnyH_take (i := 5) (v := .agg #[.slice Py N cy, .slice Qy N dy]) rfl (by kernel_rfl) (by kernel_rfl) (by kernel_rfl) (fun _ _ _ h => h) (Or.inl ⟨by kernel_rfl, fun w hSw => by go_simp⟩) hHeld ?_
      refine wpAnyH_take (i := 6) (v := .bool true) rfl (by kernel_rfl) (by kernel_rfl) (by kernel_rfl) (fun _ _ _ h => h) (Or.inl ⟨by kernel_rfl, fun w hSw => by go_simp⟩) hHeld ?_
      refine wpAnyH_ready (rs := [8]) (by kernel_rfl) (by simp) (AllReadyH.cons rfl (fun K hK => ?_) AllReadyH.nil)
      refine step_store_row rfl 25 _ _ rfl (v0.heap.size) #[.slice Py N cy, .slice Qy N dy] rfl rfl 25 #[.slice none 0 0, .slice none 0 0] AL.out size2 rfl (by simp [Value.oneCell']) ?_
      change K (Act.put (Act.put (Act.put (Act.put _ (some 38) _) (some 43) _) (some 44) _) none _) _
      simp only [Act.put, List.setIfInBounds_toArray, List.set_cons_zero, List.set_cons_succ]
      refine hK.out _ _ (hHeld.other (by omega) (by simp; omega) _) (fun hHeld2 => ?_)
      clear hK K hHeld
      refine wpAnyH_take (i := 9) (v := .bool true) rfl (by kernel_rfl) (by kernel_rfl) (by kernel_rfl) (fun _ _ _ h => h) (Or.inl ⟨by kernel_rfl, fun w hSw => by go_simp⟩) hHeld2 ?_
      refine wpAnyH_done (by kernel_rfl) ?_ _
      clear hHeld2
      go_wp2_with fail
      go_meet
      exact ⟨_, _, _, _, _, _, _, rfl, rfl, by omega, by omega, Lib.hid AL.out.row, Lib.hid (VY.out.out ((Out.refl (v0.heap.size) (v0.heap.size + 1) _).row_ (Nat.le_refl _) (Nat.lt_succ_self _) _) (by omega)), Lib.hid (below_setRow BW.out (by omega) _)⟩
  case rest =>
    obtain ⟨gy, Py, cy, Qy, dy, loy, hiy, rfl, rfl, hgy, hloy, NBy, NVy, b1h⟩ := hcut
    obtain ⟨w6_, hwc⟩ : ∃ q, q = wc := ⟨_, rfl⟩
    rw [← hwc] at NBy NVy b1h ⊢
    clear hwc
    have b1 := b1h.out; clear b1h hsz
    clear Vx
    clear Bx
    clear Bx_0 Bx_1 X1 X2 X3 Y1 Y2 Y3 SFx
    have s6 := b1.size
    replace Vs := Lib.hid (Vs.out.keep b1 Vs.out.top)
    replace Bs := Lib.hid (Bs.out.keep b1 Bs.out.lt)
    replace BB := Lib.hid (BB.out.trans (b1.mono BB.out.size))
    clear b1
    clear Bs_0 Bs_1
    have Bs_0 := Bs.out.cell (k := 0) rfl
    have Bs_1 := Bs.out.cell (k := 1) rfl
    have Vy := NVy; clear NVy; have By := NBy; clear NBy
    have By_0 := By.out.cell (k := 0) rfl; have By_1 := By.out.cell (k := 1) rfl
    have SFy := SFs
    obtain ⟨q1, q2, q3⟩ := am_q SFs.out
    have Q1 := Lib.hid q1; have Q2 := Lib.hid q2; have Q3 := Lib.hid q3; clear q1 q2 q3; have SFq := SFs
    go_wp2_with fail
    refine (rw.rw_impl (.agg #[.slice Ps N cs, .slice Qs N ds]) r u am.kSSSS _ _ Vs.out.rd (by rw [SFs.out.lr]; omega) (by rw [SFs.out.lu]; omega) (by decide)).mono ?_
    rintro e w7_ ⟨v, rfl, sv, b1⟩
    rw [Q1.out]
    rw [Q2.out, Q3.out] at sv
    obtain ⟨Pq, cq, Qq, dq, rfl⟩ := sv.lens SFq.out.lr SFq.out.lu
    have NR := Lib.hid sv; clear sv
    have s7 := b1.size
    replace Vs := Lib.hid (Vs.out.keep b1 Vs.out.top)
    replace Bs := Lib.hid (Bs.out.keep b1 Bs.out.lt)
    replace Vy := Lib.hid (Vy.out.keep b1 Vy.out.top)
    replace By := Lib.hid (By.out.keep b1 By.out.lt)
    replace BB := Lib.hid (BB.out.trans (b1.mono BB.out.size))
    clear b1
    clear Bs_0 Bs_1
    have Bs_0 := Bs.out.cell (k := 0) rfl
    have Bs_1 := Bs.out.cell (k := 1) rfl
    clear By_0 By_1
    have By_0 := By.out.cell (k := 0) rfl
    have By_1 := By.out.cell (k := 1) rfl
    have Vq := NR; clear NR
    go_wp2_with (refine wpList_store_row rfl 25 _ _ rfl w7_.heap.size #[.slice Pq N cq, .slice Qq N dq] rfl rfl 25 #[.slice none 0 0, .slice none 0 0] (Arr.new w7_ [.slice none 0 0, .slice none 0 0] _ rfl) size2 rfl (by simp [Value.oneCell']) ?_; generalize hw : (w7_.alloc (.cells #[.slice none 0 0, .slice none 0 0] 25)).setRow w7_.heap.size #[.slice Pq N cq, .slice Qq N dq] = w8_; have NB : Hid (Arr w8_ w7_.heap.size [.slice Pq N cq, .slice Qq N dq] 25) := Lib.hid (by rw [← hw]; exact (Arr.new w7_ [.slice none 0 0, .slice none 0 0] _ rfl).row); have b1 : Below w7_.heap.size w7_ w8_ := (by rw [← hw]; exact below_setRow ((Below.refl _ _).alloc (Nat.le_refl _) _) (Nat.le_refl _) _); have t8 : w7_.heap.size + 1 ≤ w8_.heap.size := (by rw [← hw]; simp); clear hw; have s8 := b1.size; replace Vs := Lib.hid (Vs.out.keep b1 Vs.out.top); replace Bs := Lib.hid (Bs.out.keep b1 Bs.out.lt); replace Vy := Lib.hid (Vy.out.keep b1 Vy.out.top); replace By := Lib.hid (By.out.keep b1 By.out.lt); replace Vq := Lib.hid (Vq.out.keep b1 Vq.out.top); replace BB := Lib.hid (BB.out.trans (b1.mono BB.out.size)); clear b1; clear Bs_0 Bs_1; have Bs_0 := Bs.out.cell (k := 0) rfl; have Bs_1 := Bs.out.cell (k := 1) rfl; clear By_0 By_1; have By_0 := By.out.cell (k := 0) rfl; have By_1 := By.out.cell (k := 1) rfl; have Bq := NB; clear NB; have Bq_0 := Bq.out.cell (k := 0) rfl; have Bq_1 := Bq.out.cell (k := 1) rfl)
    clear Q1 Q2 Q3
    obtain ⟨ra, ua, rb, ub, ns, sa, sb, iso, q1, q2, q3, q4, q5, q6⟩ := am_ab SFs.out
    have SFa := Lib.hid sa; have SFb := Lib.hid sb; have ISO := Lib.hid iso; have Q1 := Lib.hid q1; have Q2 := Lib.hid q2; have Q3 := Lib.hid q3; have Q4 := Lib.hid q4; have Q5 := Lib.hid q5; have Q6 := Lib.hid q6; clear sa sb iso q1 q2 q3 q4 q5 q6
    go_wp2_with fail
    refine (rw.rw_impl (.agg #[.slice Ps N cs, .slice Qs N ds]) r u am.kSTSTST _ _ Vs.out.rd (by rw [SFs.out.lr]; omega) (by rw [SFs.out.lu]; omega) (by decide)).mono ?_
    rintro e w9_ ⟨v, rfl, sv, b1⟩
    rw [Q1.out]
    rw [Q2.out, Q3.out] at sv
    obtain ⟨Pa, ca, Qa, da, rfl⟩ := sv.lens SFa.out.lr SFa.out.lu
    have NR := Lib.hid sv; clear sv
    have s9 := b1.size
    replace Vs := Lib.hid (Vs.out.keep b1 Vs.out.top)
    replace Bs := Lib.hid (Bs.out.keep b1 Bs.out.lt)
    replace Vy := Lib.hid (Vy.out.keep b1 Vy.out.top)
    replace By := Lib.hid (By.out.keep b1 By.out.lt)
    replace Vq := Lib.hid (Vq.out.keep b1 Vq.out.top)
    replace Bq := Lib.hid (Bq.out.keep b1 Bq.out.lt)
    replace BB := Lib.hid (BB.out.trans (b1.mono BB.out.size))
    clear b1
    clear Bs_0 Bs_1
    have Bs_0 := Bs.out.cell (k := 0) rfl
    have Bs_1 := Bs.out.cell (k := 1) rfl
    clear By_0 By_1
    have By_0 := By.out.cell (k := 0) rfl
    have By_1 := By.out.cell (k := 1) rfl
    clear Bq_0 Bq_1
    have Bq_0 := Bq.out.cell (k := 0) rfl
    have Bq_1 := Bq.out.cell (k := 1) rfl
    have Va := NR; clear NR
    go_wp2_with (refine wpList_store_row rfl 25 _ _ rfl w9_.heap.size #[.slice Pa N ca, .slice Qa N da] rfl rfl 25 #[.slice none 0 0, .slice none 0 0] (Arr.new w9_ [.slice none 0 0, .slice none 0 0] _ rfl) size2 rfl (by simp [Value.oneCell']) ?_; generalize hw : (w9_.alloc (.cells #[.slice none 0 0, .slice none 0 0] 25)).setRow w9_.heap.size #[.slice Pa N ca, .slice Qa N da] = w10_; have NB : Hid (Arr w10_ w9_.heap.size [.slice Pa N ca, .slice Qa N da] 25) := Lib.hid (by rw [← hw]; exact (Arr.new w9_ [.slice none 0 0, .slice none 0 0] _ rfl).row); have b1 : Below w9_.heap.size w9_ w10_ := (by rw [← hw]; exact below_setRow ((Below.refl _ _).alloc (Nat.le_refl _) _) (Nat.le_refl _) _); have t10 : w9_.heap.size + 1 ≤ w10_.heap.size := (by rw [← hw]; simp); clear hw; have s10 := b1.size; replace Vs := Lib.hid (Vs.out.keep b1 Vs.out.top); replace Bs := Lib.hid (Bs.out.keep b1 Bs.out.lt); replace Vy := Lib.hid (Vy.out.keep b1 Vy.out.top); replace By := Lib.hid (By.out.keep b1 By.out.lt); replace Vq := Lib.hid (Vq.out.keep b1 Vq.out.top); replace Bq := Lib.hid (Bq.out.keep b1 Bq.out.lt); replace Va := Lib.hid (Va.out.keep b1 Va.out.top); replace BB := Lib.hid (BB.out.trans (b1.mono BB.out.size)); clear b1; clear Bs_0 Bs_1; have Bs_0 := Bs.out.cell (k := 0) rfl; have Bs_1 := Bs.out.cell (k := 1) rfl; clear By_0 By_1; have By_0 := By.out.cell (k := 0) rfl; have By_1 := By.out.cell (k := 1) rfl; clear Bq_0 Bq_1; have Bq_0 := Bq.out.cell (k := 0) rfl; have Bq_1 := Bq.out.cell (k := 1) rfl; have Ba := NB; clear NB; have Ba_0 := Ba.out.cell (k := 0) rfl; have Ba_1 := Ba.out.cell (k := 1) rfl)
    go_wp2_with fail
    refine (rw.rw_impl (.agg #[.slice Ps N cs, .slice Qs N ds]) r u am.kSS _ _ Vs.out.rd (by rw [SFs.out.lr]; omega) (by rw [SFs.out.lu]; omega) (by decide)).mono ?_
    rintro e w11_ ⟨v, rfl, sv, b1⟩
    rw [Q4.out]
    rw [Q5.out, Q6.out] at sv
    obtain ⟨Pb, cb, Qb, db, rfl⟩ := sv.lens SFb.out.lr SFb.out.lu
    have NR := Lib.hid sv; clear sv
    have s11 := b1.size
    replace Vs := Lib.hid (Vs.out.keep b1 Vs.out.top)
    replace Bs := Lib.hid (Bs.out.keep b1 Bs.out.lt)
    replace Vy := Lib.hid (Vy.out.keep b1 Vy.out.top)
    replace By := Lib.hid (By.out.keep b1 By.out.lt)
    replace Vq := Lib.hid (Vq.out.keep b1 Vq.out.top)
    replace Bq := Lib.hid (Bq.out.keep b1 Bq.out.lt)
    replace Va := Lib.hid (Va.out.keep b1 Va.out.top)
    replace Ba := Lib.hid (Ba.out.keep b1 Ba.out.lt)
    replace BB := Lib.hid (BB.out.trans (b1.mono BB.out.size))
    clear b1
    clear Bs_0 Bs_1
    have Bs_0 := Bs.out.cell (k := 0) rfl
    have Bs_1 := Bs.out.cell (k := 1) rfl
    clear By_0 By_1
    have By_0 := By.out.cell (k := 0) rfl
    have By_1 := By.out.cell (k := 1) rfl
    clear Bq_0 Bq_1
    have Bq_0 := Bq.out.cell (k := 0) rfl
    have Bq_1 := Bq.out.cell (k := 1) rfl
    clear Ba_0 Ba_1
    have Ba_0 := Ba.out.cell (k := 0) rfl
    have Ba_1 := Ba.out.cell (k := 1) rfl
    have Vb := NR; clear NR
    go_wp2_with (refine wpList_store_row rfl 25 _ _ rfl w11_.heap.size #[.slice Pb N cb, .slice Qb N db] rfl rfl 25 #[.slice none 0 0, .slice none 0 0] (Arr.new w11_ [.slice none 0 0, .slice none 0 0] _ rfl) size2 rfl (by simp [Value.oneCell']) ?_; generalize hw : (w11_.alloc (.cells #[.slice none 0 0, .slice none 0 0] 25)).setRow w11_.heap.size #[.slice Pb N cb, .slice Qb N db] = w12_; have NB : Hid (Arr w12_ w11_.heap.size [.slice Pb N cb, .slice Qb N db] 25) := Lib.hid (by rw [← hw]; exact (Arr.new w11_ [.slice none 0 0, .slice none 0 0] _ rfl).row); have b1 : Below w11_.heap.size w11_ w12_ := (by rw [← hw]; exact below_setRow ((Below.refl _ _).alloc (Nat.le_refl _) _) (Nat.le_refl _) _); have t12 : w11_.heap.size + 1 ≤ w12_.heap.size := (by rw [← hw]; simp); clear hw; have s12 := b1.size; replace Vs := Lib.hid (Vs.out.keep b1 Vs.out.top); replace Bs := Lib.hid (Bs.out.keep b1 Bs.out.lt); replace Vy := Lib.hid (Vy.out.keep b1 Vy.out.top); replace By := Lib.hid (By.out.keep b1 By.out.lt); replace Vq := Lib.hid (Vq.out.keep b1 Vq.out.top); replace Bq := Lib.hid (Bq.out.keep b1 Bq.out.lt); replace Va := Lib.hid (Va.out.keep b1 Va.out.top); replace Ba := Lib.hid (Ba.out.keep b1 Ba.out.lt); replace Vb := Lib.hid (Vb.out.keep b1 Vb.out.top); replace BB := Lib.hid (BB.out.trans (b1.mono BB.out.size)); clear b1; clear Bs_0 Bs_1; have Bs_0 := Bs.out.cell (k := 0) rfl; have Bs_1 := Bs.out.cell (k := 1) rfl; clear By_0 By_1; have By_0 := By.out.cell (k := 0) rfl; have By_1 := By.out.cell (k := 1) rfl; clear Bq_0 Bq_1; have Bq_0 := Bq.out.cell (k := 0) rfl; have Bq_1 := Bq.out.cell (k := 1) rfl; clear Ba_0 Ba_1; have Ba_0 := Ba.out.cell (k := 0) rfl; have Ba_1 := Ba.out.cell (k := 1) rfl; have Bb := NB; clear NB; have Bb_0 := Bb.out.cell (k := 0) rfl; have Bb_1 := Bb.out.cell (k := 1) rfl)
    clear Q1 Q2 Q3 Q4 Q5 Q6
    obtain ⟨rt, ut, st, q1, q2, q3, q4, q5, q6, q7⟩ := am_t SFs.out
    have SFt := Lib.hid st; have Q1 := Lib.hid q1; have Q2 := Lib.hid q2; have Q3 := Lib.hid q3; have Q4 := Lib.hid q4; have Q5 := Lib.hid q5; have Q6 := Lib.hid q6; have Q7 := Lib.hid q7; have TS := Lib.hid (cn_t SFs.out); have TT := Lib.hid (cn_t st); clear st q1 q2 q3 q4 q5 q6 q7
    go_wp2_with fail
    refine (la.sh_impl (.agg #[.slice Ps N cs, .slice Qs N ds]) r u _ _ Vs.out.rd (by rw [SFs.out.lr]; omega) (by rw [SFs.out.lu]; omega)).mono ?_
    rintro e w13_ ⟨v, rfl, sv, b1⟩
    rw [TS.out]
    rw [Q1.out, Q2.out] at sv
    obtain ⟨Pt, ct, Qt, dt, rfl⟩ := sv.lens SFt.out.lr SFt.out.lu
    have NR := Lib.hid sv; clear sv
    have s13 := b1.size
    replace Vs := Lib.hid (Vs.out.keep b1 Vs.out.top)
    replace Bs := Lib.hid (Bs.out.keep b1 Bs.out.lt)
    replace Vy := Lib.hid (Vy.out.keep b1 Vy.out.top)
    replace By := Lib.hid (By.out.keep b1 By.out.lt)
    replace Vq := Lib.hid (Vq.out.keep b1 Vq.out.top)
    replace Bq := Lib.hid (Bq.out.keep b1 Bq.out.lt)
    replace Va := Lib.hid (Va.out.keep b1 Va.out.top)
    replace Ba := Lib.hid (Ba.out.keep b1 Ba.out.lt)
    replace Vb := Lib.hid (Vb.out.keep b1 Vb.out.top)
    replace Bb := Lib.hid (Bb.out.keep b1 Bb.out.lt)
    replace BB := Lib.hid (BB.out.trans (b1.mono BB.out.size))
    clear b1
    clear Bs_0 Bs_1
    have Bs_0 := Bs.out.cell (k := 0) rfl
    have Bs_1 := Bs.out.cell (k := 1) rfl
    clear By_0 By_1
    have By_0 := By.out.cell (k := 0) rfl
    have By_1 := By.out.cell (k := 1) rfl
    clear Bq_0 Bq_1
    have Bq_0 := Bq.out.cell (k := 0) rfl
    have Bq_1 := Bq.out.cell (k := 1) rfl
    clear Ba_0 Ba_1
    have Ba_0 := Ba.out.cell (k := 0) rfl
    have Ba_1 := Ba.out.cell (k := 1) rfl
    clear Bb_0 Bb_1
    have Bb_0 := Bb.out.cell (k := 0) rfl
    have Bb_1 := Bb.out.cell (k := 1) rfl
    have Vt := NR; clear NR
    go_wp2_with (refine wpList_store_row rfl 25 _ _ rfl w13_.heap.size #[.slice Pt N ct, .slice Qt N dt] rfl rfl 25 #[.slice none 0 0, .slice none 0 0] (Arr.new w13_ [.slice none 0 0, .slice none 0 0] _ rfl) size2 rfl (by simp [Value.oneCell']) ?_; generalize hw : (w13_.alloc (.cells #[.slice none 0 0, .slice none 0 0] 25)).setRow w13_.heap.size #[.slice Pt N ct, .slice Qt N dt] = w14_; have NB : Hid (Arr w14_ w13_.heap.size [.slice Pt N ct, .slice Qt N dt] 25) := Lib.hid (by rw [← hw]; exact (Arr.new w13_ [.slice none 0 0, .slice none 0 0] _ rfl).row); have b1 : Below w13_.heap.size w13_ w14_ := (by rw [← hw]; exact below_setRow ((Below.refl _ _).alloc (Nat.le_refl _) _) (Nat.le_refl _) _); have t14 : w13_.heap.size + 1 ≤ w14_.heap.size := (by rw [← hw]; simp); clear hw; have s14 := b1.size; replace Vs := Lib.hid (Vs.out.keep b1 Vs.out.top); replace Bs := Lib.hid (Bs.out.keep b1 Bs.out.lt); replace Vy := Lib.hid (Vy.out.keep b1 Vy.out.top); replace By := Lib.hid (By.out.keep b1 By.out.lt); replace Vq := Lib.hid (Vq.out.keep b1 Vq.out.top); replace Bq := Lib.hid (Bq.out.keep b1 Bq.out.lt); replace Va := Lib.hid (Va.out.keep b1 Va.out.top); replace Ba := Lib.hid (Ba.out.keep b1 Ba.out.lt); replace Vb := Lib.hid (Vb.out.keep b1 Vb.out.top); replace Bb := Lib.hid (Bb.out.keep b1 Bb.out.lt); replace Vt := Lib.hid (Vt.out.keep b1 Vt.out.top); replace BB := Lib.hid (BB.out.trans (b1.mono BB.out.size)); clear b1; clear Bs_0 Bs_1; have Bs_0 := Bs.out.cell (k := 0) rfl; have Bs_1 := Bs.out.cell (k := 1) rfl; clear By_0 By_1; have By_0 := By.out.cell (k := 0) rfl; have By_1 := By.out.cell (k := 1) rfl; clear Bq_0 Bq_1; have Bq_0 := Bq.out.cell (k := 0) rfl; have Bq_1 := Bq.out.cell (k := 1) rfl; clear Ba_0 Ba_1; have Ba_0 := Ba.out.cell (k := 0) rfl; have Ba_1 := Ba.out.cell (k := 1) rfl; clear Bb_0 Bb_1; have Bb_0 := Bb.out.cell (k := 0) rfl; have Bb_1 := Bb.out.cell (k := 1) rfl; have Bt := NB; clear NB; have Bt_0 := Bt.out.cell (k := 0) rfl; have Bt_1 := Bt.out.cell (k := 1) rfl)
    have SFu := SFt
    go_wp2_with fail
    refine (rw.rw_impl (.agg #[.slice Ps N cs, .slice Qs N ds]) r u am.kT _ _ Vs.out.rd (by rw [SFs.out.lr]; omega) (by rw [SFs.out.lu]; omega) (by decide)).mono ?_
    rintro e w15_ ⟨v, rfl, sv, b1⟩
    rw [Q3.out]
    rw [Q4.out, Q5.out] at sv
    obtain ⟨Pu, cu, Qu, du, rfl⟩ := sv.lens SFu.out.lr SFu.out.lu
    have NR := Lib.hid sv; clear sv
    have s15 := b1.size
    replace Vs := Lib.hid (Vs.out.keep b1 Vs.out.top)
    replace Bs := Lib.hid (Bs.out.keep b1 Bs.out.lt)
    replace Vy := Lib.hid (Vy.out.keep b1 Vy.out.top)
    replace By := Lib.hid (By.out.keep b1 By.out.lt)
    replace Vq := Lib.hid (Vq.out.keep b1 Vq.out.top)
    replace Bq := Lib.hid (Bq.out.keep b1 Bq.out.lt)
    replace Va := Lib.hid (Va.out.keep b1 Va.out.top)
    replace Ba := Lib.hid (Ba.out.keep b1 Ba.out.lt)
    replace Vb := Lib.hid (Vb.out.keep b1 Vb.out.top)
    replace Bb := Lib.hid (Bb.out.keep b1 Bb.out.lt)
    replace Vt := Lib.hid (Vt.out.keep b1 Vt.out.top)
    replace Bt := Lib.hid (Bt.out.keep b1 Bt.out.lt)
    replace BB := Lib.hid (BB.out.trans (b1.mono BB.out.size))
    clear b1
    clear Bs_0 Bs_1
    have Bs_0 := Bs.out.cell (k := 0) rfl
    have Bs_1 := Bs.out.cell (k := 1) rfl
    clear By_0 By_1
    have By_0 := By.out.cell (k := 0) rfl
    have By_1 := By.out.cell (k := 1) rfl
    clear Bq_0 Bq_1
    have Bq_0 := Bq.out.cell (k := 0) rfl
    have Bq_1 := Bq.out.cell (k := 1) rfl
    clear Ba_0 Ba_1
    have Ba_0 := Ba.out.cell (k := 0) rfl
    have Ba_1 := Ba.out.cell (k := 1) rfl
    clear Bb_0 Bb_1
    have Bb_0 := Bb.out.cell (k := 0) rfl
    have Bb_1 := Bb.out.cell (k := 1) rfl
    clear Bt_0 Bt_1
    have Bt_0 := Bt.out.cell (k := 0) rfl
    have Bt_1 := Bt.out.cell (k := 1) rfl
    have Vu := NR; clear NR
    go_wp2_with (refine wpList_store_row rfl 25 _ _ rfl w15_.heap.size #[.slice Pu N cu, .slice Qu N du] rfl rfl 25 #[.slice none 0 0, .slice none 0 0] (Arr.new w15_ [.slice none 0 0, .slice none 0 0] _ rfl) size2 rfl (by simp [Value.oneCell']) ?_; generalize hw : (w15_.alloc (.cells #[.slice none 0 0, .slice none 0 0] 25)).setRow w15_.heap.size #[.slice Pu N cu, .slice Qu N du] = w16_; have NB : Hid (Arr w16_ w15_.heap.size [.slice Pu N cu, .slice Qu N du] 25) := Lib.hid (by rw [← hw]; exact (Arr.new w15_ [.slice none 0 0, .slice none 0 0] _ rfl).row); have b1 : Below w15_.heap.size w15_ w16_ := (by rw [← hw]; exact below_setRow ((Below.refl _ _).alloc (Nat.le_refl _) _) (Nat.le_refl _) _); have t16 : w15_.heap.size + 1 ≤ w16_.heap.size := (by rw [← hw]; simp); clear hw; have s16 := b1.size; replace Vs := Lib.hid (Vs.out.keep b1 Vs.out.top); replace Bs := Lib.hid (Bs.out.keep b1 Bs.out.lt); replace Vy := Lib.hid (Vy.out.keep b1 Vy.out.top); replace By := Lib.hid (By.out.keep b1 By.out.lt); replace Vq := Lib.hid (Vq.out.keep b1 Vq.out.top); replace Bq := Lib.hid (Bq.out.keep b1 Bq.out.lt); replace Va := Lib.hid (Va.out.keep b1 Va.out.top); replace Ba := Lib.hid (Ba.out.keep b1 Ba.out.lt); replace Vb := Lib.hid (Vb.out.keep b1 Vb.out.top); replace Bb := Lib.hid (Bb.out.keep b1 Bb.out.lt); replace Vt := Lib.hid (Vt.out.keep b1 Vt.out.top); replace Bt := Lib.hid (Bt.out.keep b1 Bt.out.lt); replace Vu := Lib.hid (Vu.out.keep b1 Vu.out.top); replace BB := Lib.hid (BB.out.trans (b1.mono BB.out.size)); clear b1; clear Bs_0 Bs_1; have Bs_0 := Bs.out.cell (k := 0) rfl; have Bs_1 := Bs.out.cell (k := 1) rfl; clear By_0 By_1; have By_0 := By.out.cell (k := 0) rfl; have By_1 := By.out.cell (k := 1) rfl; clear Bq_0 Bq_1; have Bq_0 := Bq.out.cell (k := 0) rfl; have Bq_1 := Bq.out.cell (k := 1) rfl; clear Ba_0 Ba_1; have Ba_0 := Ba.out.cell (k := 0) rfl; have Ba_1 := Ba.out.cell (k := 1) rfl; clear Bb_0 Bb_1; have Bb_0 := Bb.out.cell (k := 0) rfl; have Bb_1 := Bb.out.cell (k := 1) rfl; clear Bt_0 Bt_1; have Bt_0 := Bt.out.cell (k := 0) rfl; have Bt_1 := Bt.out.cell (k := 1) rfl; have Bu := NB; clear NB; have Bu_0 := Bu.out.cell (k := 0) rfl; have Bu_1 := Bu.out.cell (k := 1) rfl)
    obtain ⟨rv, uv, sv1, q1, q2, q3, q4⟩ := am_v SFs.out
    have SFv := Lib.hid sv1; have P1 := Lib.hid q1; have P2 := Lib.hid q2; have P3 := Lib.hid q3; have P4 := Lib.hid q4; have TV := Lib.hid (cn_t sv1); clear sv1 q1 q2 q3 q4
    go_wp2_with fail
    refine (la.ut_impl (.agg #[.slice Ps N cs, .slice Qs N ds]) r u _ _ Vs.out.rd (by rw [SFs.out.lr]; omega) (by rw [SFs.out.lu]; omega)).mono ?_
    rintro e w17_ ⟨v, rfl, sv, b1⟩
    rw [TS.out]
    rw [P1.out, P2.out] at sv
    obtain ⟨Pv, cv, Qv, dv, rfl⟩ := sv.lens SFv.out.lr SFv.out.lu
    have NR := Lib.hid sv; clear sv
    have s17 := b1.size
    replace Vs := Lib.hid (Vs.out.keep b1 Vs.out.top)
    replace Bs := Lib.hid (Bs.out.keep b1 Bs.out.lt)
    replace Vy := Lib.hid (Vy.out.keep b1 Vy.out.top)
    replace By := Lib.hid (By.out.keep b1 By.out.lt)
    replace Vq := Lib.hid (Vq.out.keep b1 Vq.out.top)
    replace Bq := Lib.hid (Bq.out.keep b1 Bq.out.lt)
    replace Va := Lib.hid (Va.out.keep b1 Va.out.top)
    replace Ba := Lib.hid (Ba.out.keep b1 Ba.out.lt)
    replace Vb := Lib.hid (Vb.out.keep b1 Vb.out.top)
    replace Bb := Lib.hid (Bb.out.keep b1 Bb.out.lt)
    replace Vt := Lib.hid (Vt.out.keep b1 Vt.out.top)
    replace Bt := Lib.hid (Bt.out.keep b1 Bt.out.lt)
    replace Vu := Lib.hid (Vu.out.keep b1 Vu.out.top)
    replace Bu := Lib.hid (Bu.out.keep b1 Bu.out.lt)
    replace BB := Lib.hid (BB.out.trans (b1.mono BB.out.size))
    clear b1
    clear Bs_0 Bs_1
    have Bs_0 := Bs.out.cell (k := 0) rfl
    have Bs_1 := Bs.out.cell (k := 1) rfl
    clear By_0 By_1
    have By_0 := By.out.cell (k := 0) rfl
    have By_1 := By.out.cell (k := 1) rfl
    clear Bq_0 Bq_1
    have Bq_0 := Bq.out.cell (k := 0) rfl
    have Bq_1 := Bq.out.cell (k := 1) rfl
    clear Ba_0 Ba_1
    have Ba_0 := Ba.out.cell (k := 0) rfl
    have Ba_1 := Ba.out.cell (k := 1) rfl
    clear Bb_0 Bb_1
    have Bb_0 := Bb.out.cell (k := 0) rfl
    have Bb_1 := Bb.out.cell (k := 1) rfl
    clear Bt_0 Bt_1
    have Bt_0 := Bt.out.cell (k := 0) rfl
    have Bt_1 := Bt.out.cell (k := 1) rfl
    clear Bu_0 Bu_1
    have Bu_0 := Bu.out.cell (k := 0) rfl
    have Bu_1 := Bu.out.cell (k := 1) rfl
    have Vv := NR; clear NR
    go_wp2_with (refine wpList_store_row rfl 25 _ _ rfl w17_.heap.size #[.slice Pv N cv, .slice Qv N dv] rfl rfl 25 #[.slice none 0 0, .slice none 0 0] (Arr.new w17_ [.slice none 0 0, .slice none 0 0] _ rfl) size2 rfl (by simp [Value.oneCell']) ?_; generalize hw : (w17_.alloc (.cells #[.slice none 0 0, .slice none 0 0] 25)).setRow w17_.heap.size #[.slice Pv N cv, .slice Qv N dv] = w18_; have NB : Hid (Arr w18_ w17_.heap.size [.slice Pv N cv, .slice Qv N dv] 25) := Lib.hid (by rw [← hw]; exact (Arr.new w17_ [.slice none 0 0, .slice none 0 0] _ rfl).row); have b1 : Below w17_.heap.size w17_ w18_ := (by rw [← hw]; exact below_setRow ((Below.refl _ _).alloc (Nat.le_refl _) _) (Nat.le_refl _) _); have t18 : w17_.heap.size + 1 ≤ w18_.heap.size := (by rw [← hw]; simp); clear hw; have s18 := b1.size; replace Vs := Lib.hid (Vs.out.keep b1 Vs.out.top); replace Bs := Lib.hid (Bs.out.keep b1 Bs.out.lt); replace Vy := Lib.hid (Vy.out.keep b1 Vy.out.top); replace By := Lib.hid (By.out.keep b1 By.out.lt); replace Vq := Lib.hid (Vq.out.keep b1 Vq.out.top); replace Bq := Lib.hid (Bq.out.keep b1 Bq.out.lt); replace Va := Lib.hid (Va.out.keep b1 Va.out.top); replace Ba := Lib.hid (Ba.out.keep b1 Ba.out.lt); replace Vb := Lib.hid (Vb.out.keep b1 Vb.out.top); replace Bb := Lib.hid (Bb.out.keep b1 Bb.out.lt); replace Vt := Lib.hid (Vt.out.keep b1 Vt.out.top); replace Bt := Lib.hid (Bt.out.keep b1 Bt.out.lt); replace Vu := Lib.hid (Vu.out.keep b1 Vu.out.top); replace Bu := Lib.hid (Bu.out.keep b1 Bu.out.lt); replace Vv := Lib.hid (Vv.out.keep b1 Vv.out.top); replace BB := Lib.hid (BB.out.trans (b1.mono BB.out.size)); clear b1; clear Bs_0 Bs_1; have Bs_0 := Bs.out.cell (k := 0) rfl; have Bs_1 := Bs.out.cell (k := 1) rfl; clear By_0 By_1; have By_0 := By.out.cell (k := 0) rfl; have By_1 := By.out.cell (k := 1) rfl; clear Bq_0 Bq_1; have Bq_0 := Bq.out.cell (k := 0) rfl; have Bq_1 := Bq.out.cell (k := 1) rfl; clear Ba_0 Ba_1; have Ba_0 := Ba.out.cell (k := 0) rfl; have Ba_1 := Ba.out.cell (k := 1) rfl; clear Bb_0 Bb_1; have Bb_0 := Bb.out.cell (k := 0) rfl; have Bb_1 := Bb.out.cell (k := 1) rfl; clear Bt_0 Bt_1; have Bt_0 := Bt.out.cell (k := 0) rfl; have Bt_1 := Bt.out.cell (k := 1) rfl; clear Bu_0 Bu_1; have Bu_0 := Bu.out.cell (k := 0) rfl; have Bu_1 := Bu.out.cell (k := 1) rfl; have Bv := NB; clear NB; have Bv_0 := Bv.out.cell (k := 0) rfl; have Bv_1 := Bv.out.cell (k := 1) rfl)
    have SFz := SFs; have SFr := SFs
    go_wp2_with fail
    refine (la.tu_impl (.agg #[.slice Pv N cv, .slice Qv N dv]) rv uv _ _ Vv.out.rd (by rw [SFv.out.lr]; omega) (by rw [SFv.out.lu]; omega)).mono ?_
    rintro e w19_ ⟨v, rfl, sv, b1⟩
    rw [TV.out]
    rw [P3.out, P4.out] at sv
    obtain ⟨Pz, cz, Qz, dz, rfl⟩ := sv.lens SFz.out.lr SFz.out.lu
    have NR := Lib.hid sv; clear sv
    have s19 := b1.size
    replace Vs := Lib.hid (Vs.out.keep b1 Vs.out.top)
    replace Bs := Lib.hid (Bs.out.keep b1 Bs.out.lt)
    replace Vy := Lib.hid (Vy.out.keep b1 Vy.out.top)
    replace By := Lib.hid (By.out.keep b1 By.out.lt)
    replace Vq := Lib.hid (Vq.out.keep b1 Vq.out.top)
    replace Bq := Lib.hid (Bq.out.keep b1 Bq.out.lt)
    replace Va := Lib.hid (Va.out.keep b1 Va.out.top)
    replace Ba := Lib.hid (Ba.out.keep b1 Ba.out.lt)
    replace Vb := Lib.hid (Vb.out.keep b1 Vb.out.top)
    replace Bb := Lib.hid (Bb.out.keep b1 Bb.out.lt)
    replace Vt := Lib.hid (Vt.out.keep b1 Vt.out.top)
    replace Bt := Lib.hid (Bt.out.keep b1 Bt.out.lt)
    replace Vu := Lib.hid (Vu.out.keep b1 Vu.out.top)
    replace Bu := Lib.hid (Bu.out.keep b1 Bu.out.lt)
    replace Vv := Lib.hid (Vv.out.keep b1 Vv.out.top)
    replace Bv := Lib.hid (Bv.out.keep b1 Bv.out.lt)
    replace BB := Lib.hid (BB.out.trans (b1.mono BB.out.size))
    clear b1
    clear Bs_0 Bs_1
    have Bs_0 := Bs.out.cell (k := 0) rfl
    have Bs_1 := Bs.out.cell (k := 1) rfl
    clear By_0 By_1
    have By_0 := By.out.cell (k := 0) rfl
    have By_1 := By.out.cell (k := 1) rfl
    clear Bq_0 Bq_1
    have Bq_0 := Bq.out.cell (k := 0) rfl
    have Bq_1 := Bq.out.cell (k := 1) rfl
    clear Ba_0 Ba_1
    have Ba_0 := Ba.out.cell (k := 0) rfl
    have Ba_1 := Ba.out.cell (k := 1) rfl
    clear Bb_0 Bb_1
    have Bb_0 := Bb.out.cell (k := 0) rfl
    have Bb_1 := Bb.out.cell (k := 1) rfl
    clear Bt_0 Bt_1
    have Bt_0 := Bt.out.cell (k := 0) rfl
    have Bt_1 := Bt.out.cell (k := 1) rfl
    clear Bu_0 Bu_1
    have Bu_0 := Bu.out.cell (k := 0) rfl
    have Bu_1 := Bu.out.cell (k := 1) rfl
    clear Bv_0 Bv_1
    have Bv_0 := Bv.out.cell (k := 0) rfl
    have Bv_1 := Bv.out.cell (k := 1) rfl
    have Vz := NR; clear NR
    go_wp2_with (refine wpList_store_row rfl 25 _ _ rfl w19_.heap.size #[.slice Pz N cz, .slice Qz N dz] rfl rfl 25 #[.slice none 0 0, .slice none 0 0] (Arr.new w19_ [.slice none 0 0, .slice none 0 0] _ rfl) size2 rfl (by simp [Value.oneCell']) ?_; generalize hw : (w19_.alloc (.cells #[.slice none 0 0, .slice none 0 0] 25)).setRow w19_.heap.size #[.slice Pz N cz, .slice Qz N dz] = w20_; have NB : Hid (Arr w20_ w19_.heap.size [.slice Pz N cz, .slice Qz N dz] 25) := Lib.hid (by rw [← hw]; exact (Arr.new w19_ [.slice none 0 0, .slice none 0 0] _ rfl).row); have b1 : Below w19_.heap.size w19_ w20_ := (by rw [← hw]; exact below_setRow ((Below.refl _ _).alloc (Nat.le_refl _) _) (Nat.le_refl _) _); have t20 : w19_.heap.size + 1 ≤ w20_.heap.size := (by rw [← hw]; simp); clear hw; have s20 := b1.size; replace Vs := Lib.hid (Vs.out.keep b1 Vs.out.top); replace Bs := Lib.hid (Bs.out.keep b1 Bs.out.lt); replace Vy := Lib.hid (Vy.out.keep b1 Vy.out.top); replace By := Lib.hid (By.out.keep b1 By.out.lt); replace Vq := Lib.hid (Vq.out.keep b1 Vq.out.top); replace Bq := Lib.hid (Bq.out.keep b1 Bq.out.lt); replace Va := Lib.hid (Va.out.keep b1 Va.out.top); replace Ba := Lib.hid (Ba.out.keep b1 Ba.out.lt); replace Vb := Lib.hid (Vb.out.keep b1 Vb.out.top); replace Bb := Lib.hid (Bb.out.keep b1 Bb.out.lt); replace Vt := Lib.hid (Vt.out.keep b1 Vt.out.top); replace Bt := Lib.hid (Bt.out.keep b1 Bt.out.lt); replace Vu := Lib.hid (Vu.out.keep b1 Vu.out.top); replace Bu := Lib.hid (Bu.out.keep b1 Bu.out.lt); replace Vv := Lib.hid (Vv.out.keep b1 Vv.out.top); replace Bv := Lib.hid (Bv.out.keep b1 Bv.out.lt); replace Vz := Lib.hid (Vz.out.keep b1 Vz.out.top); replace BB := Lib.hid (BB.out.trans (b1.mono BB.out.size)); clear b1; clear Bs_0 Bs_1; have Bs_0 := Bs.out.cell (k := 0) rfl; have Bs_1 := Bs.out.cell (k := 1) rfl; clear By_0 By_1; have By_0 := By.out.cell (k := 0) rfl; have By_1 := By.out.cell (k := 1) rfl; clear Bq_0 Bq_1; have Bq_0 := Bq.out.cell (k := 0) rfl; have Bq_1 := Bq.out.cell (k := 1) rfl; clear Ba_0 Ba_1; have Ba_0 := Ba.out.cell (k := 0) rfl; have Ba_1 := Ba.out.cell (k := 1) rfl; clear Bb_0 Bb_1; have Bb_0 := Bb.out.cell (k := 0) rfl; have Bb_1 := Bb.out.cell (k := 1) rfl; clear Bt_0 Bt_1; have Bt_0 := Bt.out.cell (k := 0) rfl; have Bt_1 := Bt.out.cell (k := 1) rfl; clear Bu_0 Bu_1; have Bu_0 := Bu.out.cell (k := 0) rfl; have Bu_1 := Bu.out.cell (k := 1) rfl; clear Bv_0 Bv_1; have Bv_0 := Bv.out.cell (k := 0) rfl; have Bv_1 := Bv.out.cell (k := 1) rfl; have Bz := NB; clear NB; have Bz_0 := Bz.out.cell (k := 0) rfl; have Bz_1 := Bz.out.cell (k := 1) rfl)
    clear Vv
    clear Bv
    clear Bv_0 Bv_1
    go_wp2_with fail
    refine (la.us_impl (.agg #[.slice Pt N ct, .slice Qt N dt]) rt ut _ _ Vt.out.rd (by rw [SFt.out.lr]; omega) (by rw [SFt.out.lu]; omega)).mono ?_
    rintro e w21_ ⟨v, rfl, sv, b1⟩
    rw [TT.out]
    rw [Q6.out, Q7.out] at sv
    obtain ⟨Pr, cr, Qr, dr, rfl⟩ := sv.lens SFr.out.lr SFr.out.lu
    have NR := Lib.hid sv; clear sv
    have s21 := b1.size
    replace Vs := Lib.hid (Vs.out.keep b1 Vs.out.top)
    replace Bs := Lib.hid (Bs.out.keep b1 Bs.out.lt)
    replace Vy := Lib.hid (Vy.out.keep b1 Vy.out.top)
    replace By := Lib.hid (By.out.keep b1 By.out.lt)
    replace Vq := Lib.hid (Vq.out.keep b1 Vq.out.top)
    replace Bq := Lib.hid (Bq.out.keep b1 Bq.out.lt)
    replace Va := Lib.hid (Va.out.keep b1 Va.out.top)
    replace Ba := Lib.hid (Ba.out.keep b1 Ba.out.lt)
    replace Vb := Lib.hid (Vb.out.keep b1 Vb.out.top)
    replace Bb := Lib.hid (Bb.out.keep b1 Bb.out.lt)
    replace Vt := Lib.hid (Vt.out.keep b1 Vt.out.top)
    replace Bt := Lib.hid (Bt.out.keep b1 Bt.out.lt)
    replace Vu := Lib.hid (Vu.out.keep b1 Vu.out.top)
    replace Bu := Lib.hid (Bu.out.keep b1 Bu.out.lt)
    replace Vz := Lib.hid (Vz.out.keep b1 Vz.out.top)
    replace Bz := Lib.hid (Bz.out.keep b1 Bz.out.lt)
    replace BB := Lib.hid (BB.out.trans (b1.mono BB.out.size))
    clear b1
    clear Bs_0 Bs_1
    have Bs_0 := Bs.out.cell (k := 0) rfl
    have Bs_1 := Bs.out.cell (k := 1) rfl
    clear By_0 By_1
    have By_0 := By.out.cell (k := 0) rfl
    have By_1 := By.out.cell (k := 1) rfl
    clear Bq_0 Bq_1
    have Bq_0 := Bq.out.cell (k := 0) rfl
    have Bq_1 := Bq.out.cell (k := 1) rfl
    clear Ba_0 Ba_1
    have Ba_0 := Ba.out.cell (k := 0) rfl
    have Ba_1 := Ba.out.cell (k := 1) rfl
    clear Bb_0 Bb_1
    have Bb_0 := Bb.out.cell (k := 0) rfl
    have Bb_1 := Bb.out.cell (k := 1) rfl
    clear Bt_0 Bt_1
    have Bt_0 := Bt.out.cell (k := 0) rfl
    have Bt_1 := Bt.out.cell (k := 1) rfl
    clear Bu_0 Bu_1
    have Bu_0 := Bu.out.cell (k := 0) rfl
    have Bu_1 := Bu.out.cell (k := 1) rfl
    clear Bz_0 Bz_1
    have Bz_0 := Bz.out.cell (k := 0) rfl
    have Bz_1 := Bz.out.cell (k := 1) rfl
    have Vr := NR; clear NR
    go_wp2_with (refine wpList_store_row rfl 25 _ _ rfl w21_.heap.size #[.slice Pr N cr, .slice Qr N dr] rfl rfl 25 #[.slice none 0 0, .slice none 0 0] (Arr.new w21_ [.slice none 0 0, .slice none 0 0] _ rfl) size2 rfl (by simp [Value.oneCell']) ?_; generalize hw : (w21_.alloc (.cells #[.slice none 0 0, .slice none 0 0] 25)).setRow w21_.heap.size #[.slice Pr N cr, .slice Qr N dr] = w22_; have NB : Hid (Arr w22_ w21_.heap.size [.slice Pr N cr, .slice Qr N dr] 25) := Lib.hid (by rw [← hw]; exact (Arr.new w21_ [.slice none 0 0, .slice none 0 0] _ rfl).row); have b1 : Below w21_.heap.size w21_ w22_ := (by rw [← hw]; exact below_setRow ((Below.refl _ _).alloc (Nat.le_refl _) _) (Nat.le_refl _) _); have t22 : w21_.heap.size + 1 ≤ w22_.heap.size := (by rw [← hw]; simp); clear hw; have s22 := b1.size; replace Vs := Lib.hid (Vs.out.keep b1 Vs.out.top); replace Bs := Lib.hid (Bs.out.keep b1 Bs.out.lt); replace Vy := Lib.hid (Vy.out.keep b1 Vy.out.top); replace By := Lib.hid (By.out.keep b1 By.out.lt); replace Vq := Lib.hid (Vq.out.keep b1 Vq.out.top); replace Bq := Lib.hid (Bq.out.keep b1 Bq.out.lt); replace Va := Lib.hid (Va.out.keep b1 Va.out.top); replace Ba := Lib.hid (Ba.out.keep b1 Ba.out.lt); replace Vb := Lib.hid (Vb.out.keep b1 Vb.out.top); replace Bb := Lib.hid (Bb.out.keep b1 Bb.out.lt); replace Vt := Lib.hid (Vt.out.keep b1 Vt.out.top); replace Bt := Lib.hid (Bt.out.keep b1 Bt.out.lt); replace Vu := Lib.hid (Vu.out.keep b1 Vu.out.top); replace Bu := Lib.hid (Bu.out.keep b1 Bu.out.lt); replace Vz := Lib.hid (Vz.out.keep b1 Vz.out.top); replace Bz := Lib.hid (Bz.out.keep b1 Bz.out.lt); replace Vr := Lib.hid (Vr.out.keep b1 Vr.out.top); replace BB := Lib.hid (BB.out.trans (b1.mono BB.out.size)); clear b1; clear Bs_0 Bs_1; have Bs_0 := Bs.out.cell (k := 0) rfl; have Bs_1 := Bs.out.cell (k := 1) rfl; clear By_0 By_1; have By_0 := By.out.cell (k := 0) rfl; have By_1 := By.out.cell (k := 1) rfl; clear Bq_0 Bq_1; have Bq_0 := Bq.out.cell (k := 0) rfl; have Bq_1 := Bq.out.cell (k := 1) rfl; clear Ba_0 Ba_1; have Ba_0 := Ba.out.cell (k := 0) rfl; have Ba_1 := Ba.out.cell (k := 1) rfl; clear Bb_0 Bb_1; have Bb_0 := Bb.out.cell (k := 0) rfl; have Bb_1 := Bb.out.cell (k := 1) rfl; clear Bt_0 Bt_1; have Bt_0 := Bt.out.cell (k := 0) rfl; have Bt_1 := Bt.out.cell (k := 1) rfl; clear Bu_0 Bu_1; have Bu_0 := Bu.out.cell (k := 0) rfl; have Bu_1 := Bu.out.cell (k := 1) rfl; clear Bz_0 Bz_1; have Bz_0 := Bz.out.cell (k := 0) rfl; have Bz_1 := Bz.out.cell (k := 1) rfl; have Br := NB; clear NB; have Br_0 := Br.out.cell (k := 0) rfl; have Br_1 := Br.out.cell (k := 1) rfl)
    clear Q1 Q2 Q3 Q4 Q5 Q6 Q7 P1 P2 P3 P4 TV TT TS SFv
    go_wp2_with fail
    refine (wd.wok_impl wd0 _ (by omega)).mono ?_
    rintro e w23_ ⟨rfl, b1⟩
    rw [WK.out]
    have s23 := b1.size
    replace Vs := Lib.hid (Vs.out.keep b1 Vs.out.top)
    replace Bs := Lib.hid (Bs.out.keep b1 Bs.out.lt)
    replace Vy := Lib.hid (Vy.out.keep b1 Vy.out.top)
    replace By := Lib.hid (By.out.keep b1 By.out.lt)
    replace Vq := Lib.hid (Vq.out.keep b1 Vq.out.top)
    replace Bq := Lib.hid (Bq.out.keep b1 Bq.out.lt)
    replace Va := Lib.hid (Va.out.keep b1 Va.out.top)
    replace Ba := Lib.hid (Ba.out.keep b1 Ba.out.lt)
    replace Vb := Lib.hid (Vb.out.keep b1 Vb.out.top)
    replace Bb := Lib.hid (Bb.out.keep b1 Bb.out.lt)
    replace Vt := Lib.hid (Vt.out.keep b1 Vt.out.top)
    replace Bt := Lib.hid (Bt.out.keep b1 Bt.out.lt)
    replace Vu := Lib.hid (Vu.out.keep b1 Vu.out.top)
    replace Bu := Lib.hid (Bu.out.keep b1 Bu.out.lt)
    replace Vz := Lib.hid (Vz.out.keep b1 Vz.out.top)
    replace Bz := Lib.hid (Bz.out.keep b1 Bz.out.lt)
    replace Vr := Lib.hid (Vr.out.keep b1 Vr.out.top)
    replace Br := Lib.hid (Br.out.keep b1 Br.out.lt)
    replace BB := Lib.hid (BB.out.trans (b1.mono BB.out.size))
    clear b1
    clear Bs_0 Bs_1
    have Bs_0 := Bs.out.cell (k := 0) rfl
    have Bs_1 := Bs.out.cell (k := 1) rfl
    clear By_0 By_1
    have By_0 := By.out.cell (k := 0) rfl
    have By_1 := By.out.cell (k := 1) rfl
    clear Bq_0 Bq_1
    have Bq_0 := Bq.out.cell (k := 0) rfl
    have Bq_1 := Bq.out.cell (k := 1) rfl
    clear Ba_0 Ba_1
    have Ba_0 := Ba.out.cell (k := 0) rfl
    have Ba_1 := Ba.out.cell (k := 1) rfl
    clear Bb_0 Bb_1
    have Bb_0 := Bb.out.cell (k := 0) rfl
    have Bb_1 := Bb.out.cell (k := 1) rfl
    clear Bt_0 Bt_1
    have Bt_0 := Bt.out.cell (k := 0) rfl
    have Bt_1 := Bt.out.cell (k := 1) rfl
    clear Bu_0 Bu_1
    have Bu_0 := Bu.out.cell (k := 0) rfl
    have Bu_1 := Bu.out.cell (k := 1) rfl
    clear Bz_0 Bz_1
    have Bz_0 := Bz.out.cell (k := 0) rfl
    have Bz_1 := Bz.out.cell (k := 1) rfl
    clear Br_0 Br_1
    have Br_0 := Br.out.cell (k := 0) rfl
    have Br_1 := Br.out.cell (k := 1) rfl
    have SAME := Lib.hid (cn_same (a := r) (b := u) (a' := r) (b' := u) ⟨rfl, rfl⟩); have SAMT := Lib.hid (cn_same (a := rt) (b := ut) (a' := rt) (b' := ut) ⟨rfl, rfl⟩)
    go_wp2_with fail
    refine (same_impl (.agg #[.slice Py N cy, .slice Qy N dy]) r u (.agg #[.slice Ps N cs, .slice Qs N ds]) r u _ _ _ Vy.out.rd Vs.out.rd (by rw [SFy.out.lr]; omega) (by rw [SFy.out.lu]; omega) (by rw [SFs.out.lr]; omega) (by rw [SFs.out.lu]; omega)).mono ?_
    rintro e w24_ ⟨rfl, b1⟩
    rw [SAME.out]
    have s24 := b1.size
    replace Vs := Lib.hid (Vs.out.keep b1 Vs.out.top)
    replace Bs := Lib.hid (Bs.out.keep b1 Bs.out.lt)
    replace Vy := Lib.hid (Vy.out.keep b1 Vy.out.top)
    replace By := Lib.hid (By.out.keep b1 By.out.lt)
    replace Vq := Lib.hid (Vq.out.keep b1 Vq.out.top)
    replace Bq := Lib.hid (Bq.out.keep b1 Bq.out.lt)
    replace Va := Lib.hid (Va.out.keep b1 Va.out.top)
    replace Ba := Lib.hid (Ba.out.keep b1 Ba.out.lt)
    replace Vb := Lib.hid (Vb.out.keep b1 Vb.out.top)
    replace Bb := Lib.hid (Bb.out.keep b1 Bb.out.lt)
    replace Vt := Lib.hid (Vt.out.keep b1 Vt.out.top)
    replace Bt := Lib.hid (Bt.out.keep b1 Bt.out.lt)
    replace Vu := Lib.hid (Vu.out.keep b1 Vu.out.top)
    replace Bu := Lib.hid (Bu.out.keep b1 Bu.out.lt)
    replace Vz := Lib.hid (Vz.out.keep b1 Vz.out.top)
    replace Bz := Lib.hid (Bz.out.keep b1 Bz.out.lt)
    replace Vr := Lib.hid (Vr.out.keep b1 Vr.out.top)
    replace Br := Lib.hid (Br.out.keep b1 Br.out.lt)
    replace BB := Lib.hid (BB.out.trans (b1.mono BB.out.size))
    clear b1
    clear Bs_0 Bs_1
    have Bs_0 := Bs.out.cell (k := 0) rfl
    have Bs_1 := Bs.out.cell (k := 1) rfl
    clear By_0 By_1
    have By_0 := By.out.cell (k := 0) rfl
    have By_1 := By.out.cell (k := 1) rfl
    clear Bq_0 Bq_1
    have Bq_0 := Bq.out.cell (k := 0) rfl
    have Bq_1 := Bq.out.cell (k := 1) rfl
    clear Ba_0 Ba_1
    have Ba_0 := Ba.out.cell (k := 0) rfl
    have Ba_1 := Ba.out.cell (k := 1) rfl
    clear Bb_0 Bb_1
    have Bb_0 := Bb.out.cell (k := 0) rfl
    have Bb_1 := Bb.out.cell (k := 1) rfl
    clear Bt_0 Bt_1
    have Bt_0 := Bt.out.cell (k := 0) rfl
    have Bt_1 := Bt.out.cell (k := 1) rfl
    clear Bu_0 Bu_1
    have Bu_0 := Bu.out.cell (k := 0) rfl
    have Bu_1 := Bu.out.cell (k := 1) rfl
    clear Bz_0 Bz_1
    have Bz_0 := Bz.out.cell (k := 0) rfl
    have Bz_1 := Bz.out.cell (k := 1) rfl
    clear Br_0 Br_1
    have Br_0 := Br.out.cell (k := 0) rfl
    have Br_1 := Br.out.cell (k := 1) rfl
    clear Vy
    clear By
    clear By_0 By_1
    go_wp2_with fail
    refine (same_impl (.agg #[.slice Pq N cq, .slice Qq N dq]) r u (.agg #[.slice Ps N cs, .slice Qs N ds]) r u _ _ _ Vq.out.rd Vs.out.rd (by rw [SFq.out.lr]; omega) (by rw [SFq.out.lu]; omega) (by rw [SFs.out.lr]; omega) (by rw [SFs.out.lu]; omega)).mono ?_
    rintro e w25_ ⟨rfl, b1⟩
    rw [SAME.out]
    have s25 := b1.size
    replace Vs := Lib.hid (Vs.out.keep b1 Vs.out.top)
    replace Bs := Lib.hid (Bs.out.keep b1 Bs.out.lt)
    replace Vq := Lib.hid (Vq.out.keep b1 Vq.out.top)
    replace Bq := Lib.hid (Bq.out.keep b1 Bq.out.lt)
    replace Va := Lib.hid (Va.out.keep b1 Va.out.top)
    replace Ba := Lib.hid (Ba.out.keep b1 Ba.out.lt)
    replace Vb := Lib.hid (Vb.out.keep b1 Vb.out.top)
    replace Bb := Lib.hid (Bb.out.keep b1 Bb.out.lt)
    replace Vt := Lib.hid (Vt.out.keep b1 Vt.out.top)
    replace Bt := Lib.hid (Bt.out.keep b1 Bt.out.lt)
    replace Vu := Lib.hid (Vu.out.keep b1 Vu.out.top)
    replace Bu := Lib.hid (Bu.out.keep b1 Bu.out.lt)
    replace Vz := Lib.hid (Vz.out.keep b1 Vz.out.top)
    replace Bz := Lib.hid (Bz.out.keep b1 Bz.out.lt)
    replace Vr := Lib.hid (Vr.out.keep b1 Vr.out.top)
    replace Br := Lib.hid (Br.out.keep b1 Br.out.lt)
    replace BB := Lib.hid (BB.out.trans (b1.mono BB.out.size))
    clear b1
    clear Bs_0 Bs_1
    have Bs_0 := Bs.out.cell (k := 0) rfl
    have Bs_1 := Bs.out.cell (k := 1) rfl
    clear Bq_0 Bq_1
    have Bq_0 := Bq.out.cell (k := 0) rfl
    have Bq_1 := Bq.out.cell (k := 1) rfl
    clear Ba_0 Ba_1
    have Ba_0 := Ba.out.cell (k := 0) rfl
    have Ba_1 := Ba.out.cell (k := 1) rfl
    clear Bb_0 Bb_1
    have Bb_0 := Bb.out.cell (k := 0) rfl
    have Bb_1 := Bb.out.cell (k := 1) rfl
    clear Bt_0 Bt_1
    have Bt_0 := Bt.out.cell (k := 0) rfl
    have Bt_1 := Bt.out.cell (k := 1) rfl
    clear Bu_0 Bu_1
    have Bu_0 := Bu.out.cell (k := 0) rfl
    have Bu_1 := Bu.out.cell (k := 1) rfl
    clear Bz_0 Bz_1
    have Bz_0 := Bz.out.cell (k := 0) rfl
    have Bz_1 := Bz.out.cell (k := 1) rfl
    clear Br_0 Br_1
    have Br_0 := Br.out.cell (k := 0) rfl
    have Br_1 := Br.out.cell (k := 1) rfl
    clear Vq
    clear Bq
    clear Bq_0 Bq_1
    go_wp2_with fail
    refine (iso_impl (.agg #[.slice Pa N ca, .slice Qa N da]) ra ua (.agg #[.slice Pb N cb, .slice Qb N db]) rb ub _ _ _ Va.out.rd Vb.out.rd (by rw [SFa.out.lr]; omega) (by rw [SFa.out.lu]; omega) (by rw [SFb.out.lr]; omega) (by rw [SFb.out.lu]; omega)).mono ?_
    rintro e w26_ ⟨rfl, b1⟩
    rw [(cn_iso ISO.out SFb.out).1]
    have s26 := b1.size
    replace Vs := Lib.hid (Vs.out.keep b1 Vs.out.top)
    replace Bs := Lib.hid (Bs.out.keep b1 Bs.out.lt)
    replace Va := Lib.hid (Va.out.keep b1 Va.out.top)
    replace Ba := Lib.hid (Ba.out.keep b1 Ba.out.lt)
    replace Vb := Lib.hid (Vb.out.keep b1 Vb.out.top)
    replace Bb := Lib.hid (Bb.out.keep b1 Bb.out.lt)
    replace Vt := Lib.hid (Vt.out.keep b1 Vt.out.top)
    replace Bt := Lib.hid (Bt.out.keep b1 Bt.out.lt)
    replace Vu := Lib.hid (Vu.out.keep b1 Vu.out.top)
    replace Bu := Lib.hid (Bu.out.keep b1 Bu.out.lt)
    replace Vz := Lib.hid (Vz.out.keep b1 Vz.out.top)
    replace Bz := Lib.hid (Bz.out.keep b1 Bz.out.lt)
    replace Vr := Lib.hid (Vr.out.keep b1 Vr.out.top)
    replace Br := Lib.hid (Br.out.keep b1 Br.out.lt)
    replace BB := Lib.hid (BB.out.trans (b1.mono BB.out.size))
    clear b1
    clear Bs_0 Bs_1
    have Bs_0 := Bs.out.cell (k := 0) rfl
    have Bs_1 := Bs.out.cell (k := 1) rfl
    clear Ba_0 Ba_1
    have Ba_0 := Ba.out.cell (k := 0) rfl
    have Ba_1 := Ba.out.cell (k := 1) rfl
    clear Bb_0 Bb_1
    have Bb_0 := Bb.out.cell (k := 0) rfl
    have Bb_1 := Bb.out.cell (k := 1) rfl
    clear Bt_0 Bt_1
    have Bt_0 := Bt.out.cell (k := 0) rfl
    have Bt_1 := Bt.out.cell (k := 1) rfl
    clear Bu_0 Bu_1
    have Bu_0 := Bu.out.cell (k := 0) rfl
    have Bu_1 := Bu.out.cell (k := 1) rfl
    clear Bz_0 Bz_1
    have Bz_0 := Bz.out.cell (k := 0) rfl
    have Bz_1 := Bz.out.cell (k := 1) rfl
    clear Br_0 Br_1
    have Br_0 := Br.out.cell (k := 0) rfl
    have Br_1 := Br.out.cell (k := 1) rfl
    clear Va
    clear Ba
    clear Vb
    clear Bb
    clear Ba_0 Ba_1 Bb_0 Bb_1
    go_wp2_with fail
    refine (same_impl (.agg #[.slice Pt N ct, .slice Qt N dt]) rt ut (.agg #[.slice Pu N cu, .slice Qu N du]) rt ut _ _ _ Vt.out.rd Vu.out.rd (by rw [SFt.out.lr]; omega) (by rw [SFt.out.lu]; omega) (by rw [SFu.out.lr]; omega) (by rw [SFu.out.lu]; omega)).mono ?_
    rintro e w27_ ⟨rfl, b1⟩
    rw [SAMT.out]
    have s27 := b1.size
    replace Vs := Lib.hid (Vs.out.keep b1 Vs.out.top)
    replace Bs := Lib.hid (Bs.out.keep b1 Bs.out.lt)
    replace Vt := Lib.hid (Vt.out.keep b1 Vt.out.top)
    replace Bt := Lib.hid (Bt.out.keep b1 Bt.out.lt)
    replace Vu := Lib.hid (Vu.out.keep b1 Vu.out.top)
    replace Bu := Lib.hid (Bu.out.keep b1 Bu.out.lt)
    replace Vz := Lib.hid (Vz.out.keep b1 Vz.out.top)
    replace Bz := Lib.hid (Bz.out.keep b1 Bz.out.lt)
    replace Vr := Lib.hid (Vr.out.keep b1 Vr.out.top)
    replace Br := Lib.hid (Br.out.keep b1 Br.out.lt)
    replace BB := Lib.hid (BB.out.trans (b1.mono BB.out.size))
    clear b1
    clear Bs_0 Bs_1
    have Bs_0 := Bs.out.cell (k := 0) rfl
    have Bs_1 := Bs.out.cell (k := 1) rfl
    clear Bt_0 Bt_1
    have Bt_0 := Bt.out.cell (k := 0) rfl
    have Bt_1 := Bt.out.cell (k := 1) rfl
    clear Bu_0 Bu_1
    have Bu_0 := Bu.out.cell (k := 0) rfl
    have Bu_1 := Bu.out.cell (k := 1) rfl
    clear Bz_0 Bz_1
    have Bz_0 := Bz.out.cell (k := 0) rfl
    have Bz_1 := Bz.out.cell (k := 1) rfl
    clear Br_0 Br_1
    have Br_0 := Br.out.cell (k := 0) rfl
    have Br_1 := Br.out.cell (k := 1) rfl
    clear Vt
    clear Bt
    clear Vu
    clear Bu
    clear Bt_0 Bt_1 Bu_0 Bu_1
    go_wp2_with fail
    refine (same_impl (.agg #[.slice Pz N cz, .slice Qz N dz]) r u (.agg #[.slice Ps N cs, .slice Qs N ds]) r u _ _ _ Vz.out.rd Vs.out.rd (by rw [SFz.out.lr]; omega) (by rw [SFz.out.lu]; omega) (by rw [SFs.out.lr]; omega) (by rw [SFs.out.lu]; omega)).mono ?_
    rintro e w28_ ⟨rfl, b1⟩
    rw [SAME.out]
    have s28 := b1.size
    replace Vs := Lib.hid (Vs.out.keep b1 Vs.out.top)
    replace Bs := Lib.hid (Bs.out.keep b1 Bs.out.lt)
    replace Vz := Lib.hid (Vz.out.keep b1 Vz.out.top)
    replace Bz := Lib.hid (Bz.out.keep b1 Bz.out.lt)
    replace Vr := Lib.hid (Vr.out.keep b1 Vr.out.top)
    replace Br := Lib.hid (Br.out.keep b1 Br.out.lt)
    replace BB := Lib.hid (BB.out.trans (b1.mono BB.out.size))
    clear b1
    clear Bs_0 Bs_1
    have Bs_0 := Bs.out.cell (k := 0) rfl
    have Bs_1 := Bs.out.cell (k := 1) rfl
    clear Bz_0 Bz_1
    have Bz_0 := Bz.out.cell (k := 0) rfl
    have Bz_1 := Bz.out.cell (k := 1) rfl
    clear Br_0 Br_1
    have Br_0 := Br.out.cell (k := 0) rfl
    have Br_1 := Br.out.cell (k := 1) rfl
    clear Vz
    clear Bz
    clear Bz_0 Bz_1
    go_wp2_with fail
    refine (same_impl (.agg #[.slice Pr N cr, .slice Qr N dr]) r u (.agg #[.slice Ps N cs, .slice Qs N ds]) r u _ _ _ Vr.out.rd Vs.out.rd (by rw [SFr.out.lr]; omega) (by rw [SFr.out.lu]; omega) (by rw [SFs.out.lr]; omega) (by rw [SFs.out.lu]; omega)).mono ?_
    rintro e w29_ ⟨rfl, b1⟩
    rw [SAME.out]
    have s29 := b1.size
    replace Vs := Lib.hid (Vs.out.keep b1 Vs.out.top)
    replace Bs := Lib.hid (Bs.out.keep b1 Bs.out.lt)
    replace Vr := Lib.hid (Vr.out.keep b1 Vr.out.top)
    replace Br := Lib.hid (Br.out.keep b1 Br.out.lt)
    replace BB := Lib.hid (BB.out.trans (b1.mono BB.out.size))
    clear b1
    clear Bs_0 Bs_1
    have Bs_0 := Bs.out.cell (k := 0) rfl
    have Bs_1 := Bs.out.cell (k := 1) rfl
    clear Br_0 Br_1
    have Br_0 := Br.out.cell (k := 0) rfl
    have Br_1 := Br.out.cell (k := 1) rfl
    go_wp2_with fail
    go_ret
    exact ⟨rfl, BB.out⟩

set_option maxRecDepth 100000 in
theorem lifted (os : Os) (started : os.Started) (H : Type) (enc : TypeId × Value → H) :
    ReturnsInHanded {} Try.checked os 3 .any (Rows.fnActionsSpec.pre6 enc Try.prog Try.f3 Rows.fnActionsRow.domain false) (Rows.fnActionsSpec.post enc Try.prog Try.f3 false true false false) := by
  refine returnsInHanded_of_change (C := Try.checked) own started (by kernel_rfl) Try.func3
    (ChangeSpec.witness6 (enc := enc) (C := Try.checked) false ⟨#[], #[.slice none 0 0], []⟩ 8 (by kernel_rfl) (by kernel_rfl) (by kernel_rfl) (by kernel_rfl)) ?_
  intro W base args ds gs before hval0 hW hcnd _
  have hval : ∀ (j : Nat) t v, Try.f3.params[j]? = some t → args[j]? = some v → Value.okWide Try.prog W .any base t v := hval0
  have hW' := hW
  obtain ⟨p, q, hA0, hV, rfl, hfz, hnd⟩ := hW
  have hA : DataW.TrodAll enc Try.prog W 0 (fun _ => true) true Try.f3.params.toList args.toList ds p := hA0
  rw [Try.params3] at hA hval
  obtain ⟨v0, vs0, d0, ds0, p0, q0, hargs, rfl, rfl, h0, r0⟩ := trodAll_cons hA
  obtain ⟨rfl, rfl, rfl⟩ := trodAll_nil r0
  obtain rfl : args = #[v0] := by cases args; simp_all
  obtain ⟨rfl, rfl⟩ := trodVars_none hV
  obtain ⟨A0, n0, c0, rfl⟩ := okWide_slice Try.underlying22 (hval 0 22 v0 rfl rfl)
  have lt0 : ∀ x ∈ p0, x.block < W.heap.size := by obtain ⟨m, hm⟩ := h0; exact DataW.trod_lt m _ _ _ hm
  obtain ⟨x0, rd0, cn0, cm0, el0⟩ := open_B Try.underlying22 Try.underlying5 (by kernel_rfl) h0
  clear hA0 hval0
  refine (walk (w := W) A0 n0 c0 x0 rd0 cn0 cm0 el0).mono fun e W' ⟨he, bel⟩ => ?_
  subst he
  exact ⟨_, rfl, _, _, _, [], _, [], hW', trodAll_mk1 (shut_bool Try.underlying4 _), (trodAll_cons_mk (Below.trod laidOut (by kernel_rfl) (of_decide_eq_true (by kernel_rfl)) h0 bel lt0) trodAll_mk0), rfl, bel.frame _, fun h => by cases h⟩

theorem over : Rows.fnActionsRow.holds Try.pinned (OpenSpec.ofChange Rows.fnActionsSpec) :=
  OpenClaim.holds_of_wide 3 Try.f3 rfl rfl rfl rfl rfl rfl rfl ⟨rfl, rfl, rfl, rfl, rfl⟩ rfl rfl rfl rfl rfl (by kernel_rfl) Try.func3 (by kernel_rfl)
    (of_decide_eq_true (by kernel_rfl)) (by unfold Func.isWrapper; first | (rw [if_pos (by decide +kernel)]; kernel_rfl) | (rw [if_neg (by decide +kernel)]; exact ⟨rfl, rfl⟩))
    (fun os started H enc _ => lifted os started H enc)

theorem proved : Rows.FnActionsSaid :=
  over
#print axioms proved
end Go.Proofs.Ytdoohnphgembdaa.fnActions
