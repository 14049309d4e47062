/-
  FnKept: at every argument the law FnKept returns true, and its arguments read as before. No condition.
-/
import Derived.Test.YtpmojmhamgcfmaaRows
import Derived.WalkKit
import Derived.ProofKit
import Derived.OpenShut
import Derived.ShutString
import Derived.ChangeOld
import Derived.Below
import Derived.Test.YtpmojmhamgcfmaaWMk
import Derived.Test.YtpmojmhamgcfmaaWCorM
import Derived.Test.YtpmojmhamgcfmaaWHb
import Derived.Test.YtpmojmhamgcfmaaWHg
import Derived.Test.YtpmojmhamgcfmaaY21
import Derived.Test.YtpmojmhamgcfmaaWAp
import Derived.Test.YtpmojmhamgcfmaaWCt
import Derived.Test.YtpmojmhamgcfmaaWFx
import Derived.Test.YtpmojmhamgcfmaaWMw
import Derived.Test.YtpmojmhamgcfmaaY09
import Derived.Test.YtpmojmhamgcfmaaY11
import Derived.Test.YtpmojmhamgcfmaaWOpenB
import Derived.Test.YtpmojmhamgcfmaaWRx
import Derived.Test.YtpmojmhamgcfmaaY02
namespace Go.Proofs.Ytpmojmhamgcfmaa.fnKept
open Go.ChangeShapes Go.WideShapes Go.ChangeAt Go.RowKit
open Go.ChangeMaps (open_string shut_string)
open Go.Proofs.Ytpmojmhamgcfmaa.mem Go.Proofs.Ytpmojmhamgcfmaa.ints Go.Proofs.Ytpmojmhamgcfmaa.arr Go.Proofs.Ytpmojmhamgcfmaa.sf Go.Proofs.Ytpmojmhamgcfmaa.pm Go.Proofs.Ytpmojmhamgcfmaa.permOk Go.Proofs.Ytpmojmhamgcfmaa.permOf Go.Proofs.Ytpmojmhamgcfmaa.inv Go.Proofs.Ytpmojmhamgcfmaa.fns Go.Proofs.Ytpmojmhamgcfmaa.mat Go.Proofs.Ytpmojmhamgcfmaa.gl Go.Proofs.Ytpmojmhamgcfmaa.cur
set_option linter.unusedVariables false
set_option maxRecDepth 100000

theorem own : ownKnob Try.prog.godebug = none := by kernel_rfl
theorem laidOut : laidOutB Try.prog = true := by kernel_rfl

set_option maxRecDepth 100000 in
set_option maxHeartbeats 4000000 in
theorem walk (w : World) (A : Option Addr) (n c : Nat) (l : List Int) (rd : Rd w w.heap.size A n (U l)) (cn : n ≤ c) (cm : c ≤ maxLen) (el : Bytes l) :
    Calls Try.prog 3 #[.slice A n c] w fun e w' => e = .returned (.bool true) ∧ Below w.heap.size w w' := by
  have RD := Lib.hid rd; have EL := Lib.hid el; clear rd el
  unfold maxLen at cm
  by_cases b0 : 1048576 < n
  · clear RD EL
    go_enter Try.func3, Try.ntmps3
    go_wp2_with fail
    go_ret
    exact ⟨rfl, Below.refl _ _⟩
  have hd0 : decide (1048576 < (n : Int)) = false := by simp; omega
  have HC := Lib.hid (cur.Code.mk RD.out EL.out (by omega)); clear RD EL
  have BB := Lib.hid (Below.refl w.heap.size w)
  go_enter Try.func3, Try.ntmps3
  go_wp2_with fail
  refine (mk.make_any _ _ A n c l HC.out).mono ?_
  rintro e w1_ ⟨v, r, u, N, hN, sf, rfl, sv, b1⟩
  have SFs := Lib.hid sf; clear sf
  have N1 : 1 ≤ N := SFs.out.pos
  obtain ⟨Ps, cs, Qs, ds, rfl⟩ := sv.lens SFs.out.lr SFs.out.lu
  have NR := Lib.hid sv; clear sv
  have s1 := b1.size
  replace BB := Lib.hid (BB.out.trans (b1.mono BB.out.size))
  clear b1
  have Vs := NR; clear NR
  go_wp2_with (refine wpList_store_row rfl 25 _ _ rfl w1_.heap.size #[.slice Ps N cs, .slice Qs N ds] rfl rfl 25 #[.slice none 0 0, .slice none 0 0] (Arr.new w1_ [.slice none 0 0, .slice none 0 0] _ rfl) size2 rfl (by simp [Value.oneCell']) ?_; generalize hw : (w1_.alloc (.cells #[.slice none 0 0, .slice none 0 0] 25)).setRow w1_.heap.size #[.slice Ps N cs, .slice Qs N ds] = w2_; have NB : Hid (Arr w2_ w1_.heap.size [.slice Ps N cs, .slice Qs N ds] 25) := Lib.hid (by rw [← hw]; exact (Arr.new w1_ [.slice none 0 0, .slice none 0 0] _ rfl).row); have b1 : Below w1_.heap.size w1_ w2_ := (by rw [← hw]; exact below_setRow ((Below.refl _ _).alloc (Nat.le_refl _) _) (Nat.le_refl _) _); have t2 : w1_.heap.size + 1 ≤ w2_.heap.size := (by rw [← hw]; simp); clear hw; have s2 := b1.size; replace Vs := Lib.hid (Vs.out.keep b1 Vs.out.top); replace BB := Lib.hid (BB.out.trans (b1.mono BB.out.size)); clear b1; have Bs := NB; clear NB; have Bs_0 := Bs.out.cell (k := 0) rfl; have Bs_1 := Bs.out.cell (k := 1) rfl)
  go_wp2_with fail
  simp only [Act.put]
  go_cut [4, 5] from 11 to 17 (fun p q' wx => ∃ g Px cx Qx dx lo hi wd2, p = .pointer (some ⟨g, 0, none⟩) ∧ q' = .bool true ∧ w2_.heap.size ≤ g ∧ w2_.heap.size ≤ lo ∧ Hid (Arr wx g [.slice Px N cx, .slice Qx N dx] 25) ∧ Hid (Svl wx lo hi (.agg #[.slice Px N cx, .slice Qx N dx]) (rw.rwR r u wd2) (rw.rwU r u wd2)) ∧ Hid (wd.wok wd2 = true) ∧ Hid (Below w2_.heap.size w2_ wx))
  case first =>
    refine wp_region_held_drew (S := Hld w2_.heap.size w2_.heap.size w2_ [(w1_.heap.size, [.slice Ps N cs, .slice Qs N ds])]) (by kernel_rfl) (Hld.start1 Bs.out) (fun hHeld => ?_)
    have b0 : Below w2_.heap.size w2_ w2_.drew := ⟨rfl, rfl, rfl, Nat.le_refl _, fun _ _ => rfl⟩
    generalize w2_.drew = v0 at *
    have s_0 := b0.size
    replace Vs := Lib.hid (Vs.out.keep b0 Vs.out.top)
    have BW := Lib.hid b0; clear b0
    refine wpAnyH_take (i := 0) (v := .agg #[.slice Ps N cs, .slice Qs N ds]) rfl (by kernel_rfl) (by kernel_rfl) (by kernel_rfl) (fun _ _ _ h => h) (Or.inl ⟨by rfl, fun w hSw => by have h0 := hSw.c0; have h1 := hSw.c1; go_simp⟩) hHeld ?_
    refine wpAnyH_take (i := 1) (v := .slice A n c) rfl (by kernel_rfl) (by kernel_rfl) (by kernel_rfl) (fun _ _ _ h => h) (Or.inl ⟨by rfl, fun w hSw => by go_simp⟩) hHeld ?_
    refine wpAnyH_ready (rs := [2, 7]) (by kernel_rfl) (by simp) (AllReadyH.cons rfl (fun K hK => ?_) (AllReadyH.cons rfl (fun K hK => ?_) AllReadyH.nil))
    · go_simp
      refine (makeW_any _ _ A n c l 40 (by omega) (HC.out.keep (BB.out.trans (BW.out.mono BB.out.size)) (Nat.le_refl _))).mono ?_
      rintro e v1 ⟨wd2, hwd, rfl, b1⟩
      have hw6 : wd2.size ≤ 6 := hwd.1
      have WK := Lib.hid (hwd.ok (by omega)); clear hwd
      have s_1 := b1.size
      replace BW := Lib.hid (BW.out.trans (b1.mono BW.out.size))
      replace Vs := Lib.hid (Vs.out.keep b1 Vs.out.top)
      go_wp2_with fail
      have hHeld2 := hHeld.later b1 (by omega); clear b1 hHeld
      refine hK.out _ _ hHeld2 (fun hHeld => ?_)
      clear hK K hHeld2
      refine wpAnyH_ready (rs := [3, 7]) (by kernel_rfl) (by simp) (AllReadyH.cons rfl (fun K hK => ?_) (AllReadyH.cons rfl (fun K hK => ?_) AllReadyH.nil))
      · go_simp
        refine (rw.rw_impl (.agg #[.slice Ps N cs, .slice Qs N ds]) r u wd2 _ _ Vs.out.rd (by rw [SFs.out.lr]; omega) (by rw [SFs.out.lu]; omega) (by omega)).mono ?_
        rintro e v2 ⟨v, rfl, sv, b1⟩
        obtain ⟨e1, e2, _⟩ := ht.kp_x SFs.out WK.out
        rw [e1]
        obtain ⟨Px, cx, Qx, dx, rfl⟩ := sv.lens e2.lr e2.lu
        have VZ := Lib.hid sv; clear sv e1 e2
        have s_2 := b1.size
        replace BW := Lib.hid (BW.out.trans (b1.mono BW.out.size))
        replace Vs := Lib.hid (Vs.out.keep b1 Vs.out.top)
        go_wp2_with fail
        have hHeld2 := hHeld.later b1 (by omega); clear b1 hHeld
        refine hK.out _ _ hHeld2 (fun hHeld => ?_)
        clear hK K hHeld2
        refine wpAnyH_take (i := 4) (v := .tuple #[.agg #[.slice Px N cx, .slice Qx N dx], .bool true]) rfl (by kernel_rfl) (by kernel_rfl) (by kernel_rfl) (fun _ _ _ h => h) (Or.inl ⟨by kernel_rfl, fun w hSw => by go_simp⟩) hHeld ?_
        refine wpAnyH_take (i := 5) (v := .agg #[.slice Px N cx, .slice Qx N dx]) rfl (by kernel_rfl) (by kernel_rfl) (by kernel_rfl) (fun _ _ _ h => h) (Or.inl ⟨by kernel_rfl, fun w hSw => by go_simp⟩) hHeld ?_
        refine wpAnyH_take (i := 6) (v := .bool true) rfl (by kernel_rfl) (by kernel_rfl) (by kernel_rfl) (fun _ _ _ h => h) (Or.inl ⟨by kernel_rfl, fun w hSw => by go_simp⟩) hHeld ?_
        refine wpAnyH_ready (rs := [7]) (by kernel_rfl) (by simp) (AllReadyH.cons rfl (fun K hK => ?_) AllReadyH.nil)
        go_simp
        generalize hwa : v2.alloc (.cells #[.slice none 0 0, .slice none 0 0] 25) = v3
        have b1 : Below v2.heap.size v2 v3 := by rw [← hwa]; exact (Below.refl _ _).alloc (Nat.le_refl _) _
        have AL : Hid (Arr v3 v2.heap.size [.slice none 0 0, .slice none 0 0] 25) := Lib.hid (by rw [← hwa]; exact Arr.new _ _ _ rfl)
        have s_3 : v2.heap.size + 1 ≤ v3.heap.size := by rw [← hwa]; simp
        clear hwa
        replace BW := Lib.hid (BW.out.trans (b1.mono BW.out.size))
        replace Vs := Lib.hid (Vs.out.keep b1 Vs.out.top)
        replace VZ := Lib.hid (VZ.out.keep b1 VZ.out.top)
        have hHeld2 := hHeld.later b1 (by omega); clear b1 hHeld
        refine hK.out _ _ hHeld2 (fun hHeld => ?_)
        clear hK K hHeld2
        refine wpAnyH_ready (rs := [8]) (by kernel_rfl) (by simp) (AllReadyH.cons rfl (fun K hK => ?_) AllReadyH.nil)
        refine step_store_row rfl 25 _ _ rfl (v2.heap.size) #[.slice Px N cx, .slice Qx N dx] rfl rfl 25 #[.slice none 0 0, .slice none 0 0] AL.out size2 rfl (by simp [Value.oneCell']) ?_
        change K (Act.put _ none _) _
        simp only [Act.put]
        refine hK.out _ _ (hHeld.other (by omega) (by simp; omega) _) (fun hHeld2 => ?_)
        clear hK K hHeld
        refine wpAnyH_take (i := 9) (v := .bool true) rfl (by kernel_rfl) (by kernel_rfl) (by kernel_rfl) (fun _ _ _ h => h) (Or.inl ⟨by kernel_rfl, fun w hSw => by go_simp⟩) hHeld2 ?_
        refine wpAnyH_done (by kernel_rfl) ?_ _
        clear hHeld2
        go_wp2_with fail
        go_meet
        exact ⟨_, _, _, _, _, _, _, wd2, rfl, rfl, by omega, by omega, Lib.hid AL.out.row, Lib.hid (VZ.out.out ((Out.refl (v2.heap.size) (v2.heap.size + 1) _).row_ (Nat.le_refl _) (Nat.lt_succ_self _) _) (by omega)), WK, Lib.hid (below_setRow BW.out (by omega) _)⟩
      · go_simp
        generalize hwa : v1.alloc (.cells #[.slice none 0 0, .slice none 0 0] 25) = v2
        have b1 : Below v1.heap.size v1 v2 := by rw [← hwa]; exact (Below.refl _ _).alloc (Nat.le_refl _) _
        have AL : Hid (Arr v2 v1.heap.size [.slice none 0 0, .slice none 0 0] 25) := Lib.hid (by rw [← hwa]; exact Arr.new _ _ _ rfl)
        have s_2 : v1.heap.size + 1 ≤ v2.heap.size := by rw [← hwa]; simp
        clear hwa
        replace BW := Lib.hid (BW.out.trans (b1.mono BW.out.size))
        replace Vs := Lib.hid (Vs.out.keep b1 Vs.out.top)
        have hHeld2 := hHeld.later b1 (by omega); clear b1 hHeld
        refine hK.out _ _ hHeld2 (fun hHeld => ?_)
        clear hK K hHeld2
        refine wpAnyH_ready (rs := [3]) (by kernel_rfl) (by simp) (AllReadyH.cons rfl (fun K hK => ?_) AllReadyH.nil)
        go_simp
        refine (rw.rw_impl (.agg #[.slice Ps N cs, .slice Qs N ds]) r u wd2 _ _ Vs.out.rd (by rw [SFs.out.lr]; omega) (by rw [SFs.out.lu]; omega) (by omega)).mono ?_
        rintro e v3 ⟨v, rfl, sv, b1⟩
        obtain ⟨e1, e2, _⟩ := ht.kp_x SFs.out WK.out
        rw [e1]
        obtain ⟨Px, cx, Qx, dx, rfl⟩ := sv.lens e2.lr e2.lu
        have VZ := Lib.hid sv; clear sv e1 e2
        have s_3 := b1.size
        replace BW := Lib.hid (BW.out.trans (b1.mono BW.out.size))
        replace Vs := Lib.hid (Vs.out.keep b1 Vs.out.top)
        replace AL := Lib.hid (AL.out.keep b1 AL.out.lt)
        go_wp2_with fail
        have hHeld2 := hHeld.later b1 (by omega); clear b1 hHeld
        refine hK.out _ _ hHeld2 (fun hHeld => ?_)
        clear hK K hHeld2
        refine wpAnyH_take (i := 4) (v := .tuple #[.agg #[.slice Px N cx, .slice Qx N dx], .bool true]) rfl (by kernel_rfl) (by kernel_rfl) (by kernel_rfl) (fun _ _ _ h => h) (Or.inl ⟨by kernel_rfl, fun w hSw => by go_simp⟩) hHeld ?_
        refine wpAnyH_take (i := 5) (v := .agg #[.slice Px N cx, .slice Qx N dx]) rfl (by kernel_rfl) (by kernel_rfl) (by kernel_rfl) (fun _ _ _ h => h) (Or.inl ⟨by kernel_rfl, fun w hSw => by go_simp⟩) hHeld ?_
        refine wpAnyH_take (i := 6) (v := .bool true) rfl (by kernel_rfl) (by kernel_rfl) (by kernel_rfl) (fun _ _ _ h => h) (Or.inl ⟨by kernel_rfl, fun w hSw => by go_simp⟩) hHeld ?_
        refine wpAnyH_ready (rs := [8]) (by kernel_rfl) (by simp) (AllReadyH.cons rfl (fun K hK => ?_) AllReadyH.nil)
        refine step_store_row rfl 25 _ _ rfl (v1.heap.size) #[.slice Px N cx, .slice Qx N dx] rfl rfl 25 #[.slice none 0 0, .slice none 0 0] AL.out size2 rfl (by simp [Value.oneCell']) ?_
        change K (Act.put (Act.put (Act.put (Act.put _ (some 11) _) (some 16) _) (some 17) _) none _) _
        simp only [Act.put, List.setIfInBounds_toArray, List.set_cons_zero, List.set_cons_succ]
        refine hK.out _ _ (hHeld.other (by omega) (by simp; omega) _) (fun hHeld2 => ?_)
        clear hK K hHeld
        refine wpAnyH_take (i := 9) (v := .bool true) rfl (by kernel_rfl) (by kernel_rfl) (by kernel_rfl) (fun _ _ _ h => h) (Or.inl ⟨by kernel_rfl, fun w hSw => by go_simp⟩) hHeld2 ?_
        refine wpAnyH_done (by kernel_rfl) ?_ _
        clear hHeld2
        go_wp2_with fail
        go_meet
        exact ⟨_, _, _, _, _, _, _, wd2, rfl, rfl, by omega, by omega, Lib.hid AL.out.row, Lib.hid (VZ.out.out ((Out.refl (v1.heap.size) (v1.heap.size + 1) _).row_ (Nat.le_refl _) (Nat.lt_succ_self _) _) (by omega)), WK, Lib.hid (below_setRow BW.out (by omega) _)⟩
    · go_simp
      generalize hwa : v0.alloc (.cells #[.slice none 0 0, .slice none 0 0] 25) = v1
      have b1 : Below v0.heap.size v0 v1 := by rw [← hwa]; exact (Below.refl _ _).alloc (Nat.le_refl _) _
      have AL : Hid (Arr v1 v0.heap.size [.slice none 0 0, .slice none 0 0] 25) := Lib.hid (by rw [← hwa]; exact Arr.new _ _ _ rfl)
      have s_1 : v0.heap.size + 1 ≤ v1.heap.size := by rw [← hwa]; simp
      clear hwa
      replace BW := Lib.hid (BW.out.trans (b1.mono BW.out.size))
      replace Vs := Lib.hid (Vs.out.keep b1 Vs.out.top)
      have hHeld2 := hHeld.later b1 (by omega); clear b1 hHeld
      refine hK.out _ _ hHeld2 (fun hHeld => ?_)
      clear hK K hHeld2
      refine wpAnyH_ready (rs := [2]) (by kernel_rfl) (by simp) (AllReadyH.cons rfl (fun K hK => ?_) AllReadyH.nil)
      go_simp
      refine (makeW_any _ _ A n c l 40 (by omega) (HC.out.keep (BB.out.trans (BW.out.mono BB.out.size)) (Nat.le_refl _))).mono ?_
      rintro e v2 ⟨wd2, hwd, rfl, b1⟩
      have hw6 : wd2.size ≤ 6 := hwd.1
      have WK := Lib.hid (hwd.ok (by omega)); clear hwd
      have s_2 := b1.size
      replace BW := Lib.hid (BW.out.trans (b1.mono BW.out.size))
      replace Vs := Lib.hid (Vs.out.keep b1 Vs.out.top)
      replace AL := Lib.hid (AL.out.keep b1 AL.out.lt)
      go_wp2_with fail
      have hHeld2 := hHeld.later b1 (by omega); clear b1 hHeld
      refine hK.out _ _ hHeld2 (fun hHeld => ?_)
      clear hK K hHeld2
      refine wpAnyH_ready (rs := [3]) (by kernel_rfl) (by simp) (AllReadyH.cons rfl (fun K hK => ?_) AllReadyH.nil)
      go_simp
      refine (rw.rw_impl (.agg #[.slice Ps N cs, .slice Qs N ds]) r u wd2 _ _ Vs.out.rd (by rw [SFs.out.lr]; omega) (by rw [SFs.out.lu]; omega) (by omega)).mono ?_
      rintro e v3 ⟨v, rfl, sv, b1⟩
      obtain ⟨e1, e2, _⟩ := ht.kp_x SFs.out WK.out
      rw [e1]
      obtain ⟨Px, cx, Qx, dx, rfl⟩ := sv.lens e2.lr e2.lu
      have VZ := Lib.hid sv; clear sv e1 e2
      have s_3 := b1.size
      replace BW := Lib.hid (BW.out.trans (b1.mono BW.out.size))
      replace Vs := Lib.hid (Vs.out.keep b1 Vs.out.top)
      replace AL := Lib.hid (AL.out.keep b1 AL.out.lt)
      go_wp2_with fail
      have hHeld2 := hHeld.later b1 (by omega); clear b1 hHeld
      refine hK.out _ _ hHeld2 (fun hHeld => ?_)
      clear hK K hHeld2
      refine wpAnyH_take (i := 4) (v := .tuple #[.agg #[.slice Px N cx, .slice Qx N dx], .bool true]) rfl (by kernel_rfl) (by kernel_rfl) (by kernel_rfl) (fun _ _ _ h => h) (Or.inl ⟨by kernel_rfl, fun w hSw => by go_simp⟩) hHeld ?_
      refine wpAnyH_take (i := 5) (v := .agg #[.slice Px N cx, .slice Qx N dx]) rfl (by kernel_rfl) (by kernel_rfl) (by kernel_rfl) (fun _ _ _ h => h) (Or.inl ⟨by kernel_rfl, fun w hSw => by go_simp⟩) hHeld ?_
      refine wpAnyH_take (i := 6) (v := .bool true) rfl (by kernel_rfl) (by kernel_rfl) (by kernel_rfl) (fun _ _ _ h => h) (Or.inl ⟨by kernel_rfl, fun w hSw => by go_simp⟩) hHeld ?_
      refine wpAnyH_ready (rs := [8]) (by kernel_rfl) (by simp) (AllReadyH.cons rfl (fun K hK => ?_) AllReadyH.nil)
      refine step_store_row rfl 25 _ _ rfl (v0.heap.size) #[.slice Px N cx, .slice Qx N dx] rfl rfl 25 #[.slice none 0 0, .slice none 0 0] AL.out size2 rfl (by simp [Value.oneCell']) ?_
      change K (Act.put (Act.put (Act.put (Act.put _ (some 11) _) (some 16) _) (some 17) _) none _) _
      simp only [Act.put, List.setIfInBounds_toArray, List.set_cons_zero, List.set_cons_succ]
      refine hK.out _ _ (hHeld.other (by omega) (by simp; omega) _) (fun hHeld2 => ?_)
      clear hK K hHeld
      refine wpAnyH_take (i := 9) (v := .bool true) rfl (by kernel_rfl) (by kernel_rfl) (by kernel_rfl) (fun _ _ _ h => h) (Or.inl ⟨by kernel_rfl, fun w hSw => by go_simp⟩) hHeld2 ?_
      refine wpAnyH_done (by kernel_rfl) ?_ _
      clear hHeld2
      go_wp2_with fail
      go_meet
      exact ⟨_, _, _, _, _, _, _, wd2, rfl, rfl, by omega, by omega, Lib.hid AL.out.row, Lib.hid (VZ.out.out ((Out.refl (v0.heap.size) (v0.heap.size + 1) _).row_ (Nat.le_refl _) (Nat.lt_succ_self _) _) (by omega)), WK, Lib.hid (below_setRow BW.out (by omega) _)⟩
  case rest =>
    obtain ⟨gx, Px, cx, Qx, dx, lox, hix, wd2, rfl, rfl, hgx, hlox, NBx, NVx, WK, b1h⟩ := hcut
    obtain ⟨w3_, hwc⟩ : ∃ q, q = wc := ⟨_, rfl⟩
    rw [← hwc] at NBx NVx b1h ⊢
    clear hwc
    have b1 := b1h.out; clear b1h
    have s3 := b1.size
    replace Vs := Lib.hid (Vs.out.keep b1 Vs.out.top)
    replace Bs := Lib.hid (Bs.out.keep b1 Bs.out.lt)
    replace BB := Lib.hid (BB.out.trans (b1.mono BB.out.size))
    clear b1
    clear Bs_0 Bs_1
    have Bs_0 := Bs.out.cell (k := 0) rfl
    have Bs_1 := Bs.out.cell (k := 1) rfl
    have Vx := NVx; clear NVx; have Bx := NBx; clear NBx
    have Bx_0 := Bx.out.cell (k := 0) rfl; have Bx_1 := Bx.out.cell (k := 1) rfl
    obtain ⟨_, sfx, kp⟩ := ht.kp_x SFs.out WK.out
    have SFx := Lib.hid sfx; have KP := Lib.hid kp; clear sfx kp
    generalize rw.rwR r u wd2 = xr at *; generalize rw.rwU r u wd2 = xu at *
    obtain ⟨ka, ks, kg, kc, kh, kt, kn⟩ := ht.kp_all SFs.out SFx.out KP.out
    have KA := Lib.hid ka; have KS := Lib.hid ks; have KG := Lib.hid kg; have KC := Lib.hid kc; have KH := Lib.hid kh; have KT := Lib.hid kt; have KN := Lib.hid kn; clear ka ks kg kc kh kt kn KP WK
    have TX : Hid (transB xr xu = true) := Lib.hid (cr_t SFx.out)
    have AL24 : (angF r u).length ≤ 24 := by rw [cr_len]; have := cr_le SFs.out; omega
    have SL24 : (strF r u).length ≤ 24 := Nat.le_trans (strL_len _) AL24
    have TL24 : (ht.tuF r u).length ≤ 24 := by have := ht.tuF_le SFs.out; omega
    go_wp2_with fail
    refine (ok_impl (.agg #[.slice Px N cx, .slice Qx N dx]) xr xu _ _ Vx.out.rd (by rw [SFx.out.lr]; omega) (by rw [SFx.out.lu]; omega)).mono ?_
    rintro e w4_ ⟨rfl, b1⟩
    rw [TX.out]
    have s4 := b1.size
    replace Vs := Lib.hid (Vs.out.keep b1 Vs.out.top)
    replace Bs := Lib.hid (Bs.out.keep b1 Bs.out.lt)
    replace Vx := Lib.hid (Vx.out.keep b1 Vx.out.top)
    replace Bx := Lib.hid (Bx.out.keep b1 Bx.out.lt)
    replace BB := Lib.hid (BB.out.trans (b1.mono BB.out.size))
    clear b1
    clear Bs_0 Bs_1
    have Bs_0 := Bs.out.cell (k := 0) rfl
    have Bs_1 := Bs.out.cell (k := 1) rfl
    clear Bx_0 Bx_1
    have Bx_0 := Bx.out.cell (k := 0) rfl
    have Bx_1 := Bx.out.cell (k := 1) rfl
    go_wp2_with fail
    refine wp_region_held_drew (S := Hld w4_.heap.size w4_.heap.size w4_ [(w1_.heap.size, [.slice Ps N cs, .slice Qs N ds]), (gx, [.slice Px N cx, .slice Qx N dx])]) (by kernel_rfl) (Hld.start2 Bs.out Bx.out) (fun hHeld => ?_)
    have b1 : Below w4_.heap.size w4_ w4_.drew := ⟨rfl, rfl, rfl, Nat.le_refl _, fun _ _ => rfl⟩
    generalize w4_.drew = w5_ at *
    have s5 := b1.size
    replace Vs := Lib.hid (Vs.out.keep b1 Vs.out.top)
    replace Bs := Lib.hid (Bs.out.keep b1 Bs.out.lt)
    replace Vx := Lib.hid (Vx.out.keep b1 Vx.out.top)
    replace Bx := Lib.hid (Bx.out.keep b1 Bx.out.lt)
    replace BB := Lib.hid (BB.out.trans (b1.mono BB.out.size))
    clear b1
    clear Bs_0 Bs_1
    have Bs_0 := Bs.out.cell (k := 0) rfl
    have Bs_1 := Bs.out.cell (k := 1) rfl
    clear Bx_0 Bx_1
    have Bx_0 := Bx.out.cell (k := 0) rfl
    have Bx_1 := Bx.out.cell (k := 1) rfl
    clear Bs_0 Bs_1 Bx_0 Bx_1
    clear Bs Bx
    refine wpAnyH_take (i := 0) (v := .agg #[.slice Px N cx, .slice Qx N dx]) rfl (by kernel_rfl) (by kernel_rfl) (by kernel_rfl) (fun _ _ _ h => h) (yieldsIf_load_mid (by kernel_rfl) _ _ rfl gx 0 rfl [.slice Px N cx, .slice Qx N dx] _ (fun w h => h.snd) Try.underlying25 rfl (sizeS _ _)) hHeld ?_
    refine wpAnyH_take (i := 2) (v := .pointer (some ⟨w1_.heap.size, 0, none⟩)) rfl (by kernel_rfl) (by kernel_rfl) (by kernel_rfl) (fun _ _ _ h => h) (Or.inl ⟨by kernel_rfl, fun w hSw => by go_simp⟩) hHeld ?_
    refine wpAnyH_take (i := 3) (v := .slice Ps N cs) rfl (by kernel_rfl) (by kernel_rfl) (by kernel_rfl) (fun _ _ _ h => h) (Or.inl ⟨by kernel_rfl, fun w hSw => by have h0 := hSw.c0; go_simp⟩) hHeld ?_
    refine wpAnyH_take (i := 4) (v := .int .i64 (N : Int)) rfl (by kernel_rfl) (by kernel_rfl) (by kernel_rfl) (fun _ _ _ h => h) (Or.inl ⟨by kernel_rfl, fun w hSw => by go_simp⟩) hHeld ?_
    refine wpAnyH_ready (rs := [1]) (by kernel_rfl) (by simp) (AllReadyH.cons rfl (fun K' hK => ?_) AllReadyH.nil)
    go_simp
    refine (cnt_impl (.agg #[.slice Px N cx, .slice Qx N dx]) xr xu _ _ Vx.out.rd (by rw [SFx.out.lr]; omega) (by rw [SFx.out.lu]; omega)).mono ?_
    rintro e w6_ ⟨rfl, b1⟩
    rw [KN.out]
    have hHeld2 := hHeld.later b1 (by omega); clear hHeld
    have s6 := b1.size
    replace Vs := Lib.hid (Vs.out.keep b1 Vs.out.top)
    replace Vx := Lib.hid (Vx.out.keep b1 Vx.out.top)
    replace BB := Lib.hid (BB.out.trans (b1.mono BB.out.size))
    clear b1
    go_wp2_with fail
    refine hK.out _ _ hHeld2 (fun hHeld => ?_)
    clear hK K' hHeld2
    refine wpAnyH_take (i := 5) (v := .bool true) rfl (by kernel_rfl) (by kernel_rfl) (by kernel_rfl) (fun _ _ _ h => h) (Or.inl ⟨by kernel_rfl, fun w hSw => by go_simp⟩) hHeld ?_
    refine wpAnyH_take (i := 6) (v := .bool true) rfl (by kernel_rfl) (by kernel_rfl) (by kernel_rfl) (fun _ _ _ h => h) (Or.inl ⟨by kernel_rfl, fun w hSw => by go_simp⟩) hHeld ?_
    refine wpAnyH_take (i := 7) (v := .agg #[.slice Px N cx, .slice Qx N dx]) rfl (by kernel_rfl) (by kernel_rfl) (by kernel_rfl) (fun _ _ _ h => h) (yieldsIf_load_mid (by kernel_rfl) _ _ rfl gx 0 rfl [.slice Px N cx, .slice Qx N dx] _ (fun w h => h.snd) Try.underlying25 rfl (sizeS _ _)) hHeld ?_
    refine wpAnyH_take (i := 9) (v := .agg #[.slice Ps N cs, .slice Qs N ds]) rfl (by kernel_rfl) (by kernel_rfl) (by kernel_rfl) (fun _ _ _ h => h) (yieldsIf_load_mid (by kernel_rfl) _ _ rfl w1_.heap.size 0 rfl [.slice Ps N cs, .slice Qs N ds] _ (fun w h => h.fst) Try.underlying25 rfl (sizeS _ _)) hHeld ?_
    refine wpAnyH_ready (rs := [8]) (by kernel_rfl) (by simp) (AllReadyH.cons rfl (fun K' hK => ?_) AllReadyH.nil)
    go_simp
    refine (an_impl (.agg #[.slice Px N cx, .slice Qx N dx]) xr xu _ _ Vx.out.rd (by rw [SFx.out.lr]; omega) (by rw [SFx.out.lu]; omega)).mono ?_
    rintro e w7_ ⟨v, rfl, o1, b1⟩
    rw [KA.out] at o1
    obtain ⟨P1, c1, rfl⟩ := own_form o1
    have NR := Lib.hid (Row.of_own o1); clear o1
    have hHeld2 := hHeld.later b1 (by omega); clear hHeld
    have s7 := b1.size
    replace Vs := Lib.hid (Vs.out.keep b1 Vs.out.top)
    replace Vx := Lib.hid (Vx.out.keep b1 Vx.out.top)
    replace BB := Lib.hid (BB.out.trans (b1.mono BB.out.size))
    clear b1
    have R1 := NR; clear NR
    go_wp2_with fail
    refine hK.out _ _ hHeld2 (fun hHeld => ?_)
    clear hK K' hHeld2
    refine wpAnyH_ready (rs := [10]) (by kernel_rfl) (by simp) (AllReadyH.cons rfl (fun K' hK => ?_) AllReadyH.nil)
    go_simp
    refine (an_impl (.agg #[.slice Ps N cs, .slice Qs N ds]) r u _ _ Vs.out.rd (by rw [SFs.out.lr]; omega) (by rw [SFs.out.lu]; omega)).mono ?_
    rintro e w8_ ⟨v, rfl, o1, b1⟩
    obtain ⟨P2, c2, rfl⟩ := own_form o1
    have NR := Lib.hid (Row.of_own o1); clear o1
    have hHeld2 := hHeld.later b1 (by omega); clear hHeld
    have s8 := b1.size
    replace Vs := Lib.hid (Vs.out.keep b1 Vs.out.top)
    replace Vx := Lib.hid (Vx.out.keep b1 Vx.out.top)
    replace R1 := Lib.hid (R1.out.keep b1 R1.out.2.1)
    replace BB := Lib.hid (BB.out.trans (b1.mono BB.out.size))
    clear b1
    have R2 := NR; clear NR
    go_wp2_with fail
    refine hK.out _ _ hHeld2 (fun hHeld => ?_)
    clear hK K' hHeld2
    refine wpAnyH_ready (rs := [11]) (by kernel_rfl) (by simp) (AllReadyH.cons rfl (fun K' hK => ?_) AllReadyH.nil)
    go_simp
    refine (same_any P1 (angF r u).length c1 P2 (angF r u).length c2 (angF r u) (angF r u) _ _ _ R1.out.rd R2.out.rd (by unfold maxLen; omega) (by unfold maxLen; omega)).mono ?_
    rintro e w9_ ⟨rfl, hdr⟩
    have b1 := mat.drawn_below hdr; clear hdr
    have he : eqi (angF r u) (angF r u) = true := by simp [eqi]
    rw [he]; clear he
    have hHeld2 := hHeld.later b1 (by omega); clear hHeld
    have s9 := b1.size
    replace Vs := Lib.hid (Vs.out.keep b1 Vs.out.top)
    replace Vx := Lib.hid (Vx.out.keep b1 Vx.out.top)
    replace R1 := Lib.hid (R1.out.keep b1 R1.out.2.1)
    replace R2 := Lib.hid (R2.out.keep b1 R2.out.2.1)
    replace BB := Lib.hid (BB.out.trans (b1.mono BB.out.size))
    clear b1
    go_wp2_with fail
    refine hK.out _ _ hHeld2 (fun hHeld => ?_)
    clear hK K' hHeld2
    clear R1
    clear R2
    refine wpAnyH_take (i := 12) (v := .bool true) rfl (by kernel_rfl) (by kernel_rfl) (by kernel_rfl) (fun _ _ _ h => h) (Or.inl ⟨by kernel_rfl, fun w hSw => by go_simp⟩) hHeld ?_
    refine wpAnyH_take (i := 13) (v := .bool true) rfl (by kernel_rfl) (by kernel_rfl) (by kernel_rfl) (fun _ _ _ h => h) (Or.inl ⟨by kernel_rfl, fun w hSw => by go_simp⟩) hHeld ?_
    refine wpAnyH_take (i := 14) (v := .agg #[.slice Px N cx, .slice Qx N dx]) rfl (by kernel_rfl) (by kernel_rfl) (by kernel_rfl) (fun _ _ _ h => h) (yieldsIf_load_mid (by kernel_rfl) _ _ rfl gx 0 rfl [.slice Px N cx, .slice Qx N dx] _ (fun w h => h.snd) Try.underlying25 rfl (sizeS _ _)) hHeld ?_
    refine wpAnyH_take (i := 16) (v := .agg #[.slice Ps N cs, .slice Qs N ds]) rfl (by kernel_rfl) (by kernel_rfl) (by kernel_rfl) (fun _ _ _ h => h) (yieldsIf_load_mid (by kernel_rfl) _ _ rfl w1_.heap.size 0 rfl [.slice Ps N cs, .slice Qs N ds] _ (fun w h => h.fst) Try.underlying25 rfl (sizeS _ _)) hHeld ?_
    refine wpAnyH_ready (rs := [15]) (by kernel_rfl) (by simp) (AllReadyH.cons rfl (fun K' hK => ?_) AllReadyH.nil)
    go_simp
    refine (st_impl (.agg #[.slice Px N cx, .slice Qx N dx]) xr xu _ _ Vx.out.rd (by rw [SFx.out.lr]; omega) (by rw [SFx.out.lu]; omega)).mono ?_
    rintro e w10_ ⟨v, rfl, o1, b1⟩
    rw [KS.out] at o1
    obtain ⟨P1, c1, rfl⟩ := own_form o1
    have NR := Lib.hid (Row.of_own o1); clear o1
    have hHeld2 := hHeld.later b1 (by omega); clear hHeld
    have s10 := b1.size
    replace Vs := Lib.hid (Vs.out.keep b1 Vs.out.top)
    replace Vx := Lib.hid (Vx.out.keep b1 Vx.out.top)
    replace BB := Lib.hid (BB.out.trans (b1.mono BB.out.size))
    clear b1
    have R1 := NR; clear NR
    go_wp2_with fail
    refine hK.out _ _ hHeld2 (fun hHeld => ?_)
    clear hK K' hHeld2
    refine wpAnyH_ready (rs := [17]) (by kernel_rfl) (by simp) (AllReadyH.cons rfl (fun K' hK => ?_) AllReadyH.nil)
    go_simp
    refine (st_impl (.agg #[.slice Ps N cs, .slice Qs N ds]) r u _ _ Vs.out.rd (by rw [SFs.out.lr]; omega) (by rw [SFs.out.lu]; omega)).mono ?_
    rintro e w11_ ⟨v, rfl, o1, b1⟩
    obtain ⟨P2, c2, rfl⟩ := own_form o1
    have NR := Lib.hid (Row.of_own o1); clear o1
    have hHeld2 := hHeld.later b1 (by omega); clear hHeld
    have s11 := b1.size
    replace Vs := Lib.hid (Vs.out.keep b1 Vs.out.top)
    replace Vx := Lib.hid (Vx.out.keep b1 Vx.out.top)
    replace R1 := Lib.hid (R1.out.keep b1 R1.out.2.1)
    replace BB := Lib.hid (BB.out.trans (b1.mono BB.out.size))
    clear b1
    have R2 := NR; clear NR
    go_wp2_with fail
    refine hK.out _ _ hHeld2 (fun hHeld => ?_)
    clear hK K' hHeld2
    refine wpAnyH_ready (rs := [18]) (by kernel_rfl) (by simp) (AllReadyH.cons rfl (fun K' hK => ?_) AllReadyH.nil)
    go_simp
    refine (same_any P1 (strF r u).length c1 P2 (strF r u).length c2 (strF r u) (strF r u) _ _ _ R1.out.rd R2.out.rd (by unfold maxLen; omega) (by unfold maxLen; omega)).mono ?_
    rintro e w12_ ⟨rfl, hdr⟩
    have b1 := mat.drawn_below hdr; clear hdr
    have he : eqi (strF r u) (strF r u) = true := by simp [eqi]
    rw [he]; clear he
    have hHeld2 := hHeld.later b1 (by omega); clear hHeld
    have s12 := b1.size
    replace Vs := Lib.hid (Vs.out.keep b1 Vs.out.top)
    replace Vx := Lib.hid (Vx.out.keep b1 Vx.out.top)
    replace R1 := Lib.hid (R1.out.keep b1 R1.out.2.1)
    replace R2 := Lib.hid (R2.out.keep b1 R2.out.2.1)
    replace BB := Lib.hid (BB.out.trans (b1.mono BB.out.size))
    clear b1
    go_wp2_with fail
    refine hK.out _ _ hHeld2 (fun hHeld => ?_)
    clear hK K' hHeld2
    clear R1
    clear R2
    refine wpAnyH_take (i := 19) (v := .bool true) rfl (by kernel_rfl) (by kernel_rfl) (by kernel_rfl) (fun _ _ _ h => h) (Or.inl ⟨by kernel_rfl, fun w hSw => by go_simp⟩) hHeld ?_
    refine wpAnyH_take (i := 20) (v := .bool true) rfl (by kernel_rfl) (by kernel_rfl) (by kernel_rfl) (fun _ _ _ h => h) (Or.inl ⟨by kernel_rfl, fun w hSw => by go_simp⟩) hHeld ?_
    refine wpAnyH_take (i := 21) (v := .agg #[.slice Px N cx, .slice Qx N dx]) rfl (by kernel_rfl) (by kernel_rfl) (by kernel_rfl) (fun _ _ _ h => h) (yieldsIf_load_mid (by kernel_rfl) _ _ rfl gx 0 rfl [.slice Px N cx, .slice Qx N dx] _ (fun w h => h.snd) Try.underlying25 rfl (sizeS _ _)) hHeld ?_
    refine wpAnyH_take (i := 23) (v := .agg #[.slice Ps N cs, .slice Qs N ds]) rfl (by kernel_rfl) (by kernel_rfl) (by kernel_rfl) (fun _ _ _ h => h) (yieldsIf_load_mid (by kernel_rfl) _ _ rfl w1_.heap.size 0 rfl [.slice Ps N cs, .slice Qs N ds] _ (fun w h => h.fst) Try.underlying25 rfl (sizeS _ _)) hHeld ?_
    refine wpAnyH_ready (rs := [22]) (by kernel_rfl) (by simp) (AllReadyH.cons rfl (fun K' hK => ?_) AllReadyH.nil)
    go_simp
    refine (ge_impl (.agg #[.slice Px N cx, .slice Qx N dx]) xr xu _ _ Vx.out.rd (by rw [SFx.out.lr]; omega) (by rw [SFx.out.lu]; omega)).mono ?_
    rintro e w13_ ⟨rfl, b1⟩
    rw [KG.out]
    have hHeld2 := hHeld.later b1 (by omega); clear hHeld
    have s13 := b1.size
    replace Vs := Lib.hid (Vs.out.keep b1 Vs.out.top)
    replace Vx := Lib.hid (Vx.out.keep b1 Vx.out.top)
    replace BB := Lib.hid (BB.out.trans (b1.mono BB.out.size))
    clear b1
    go_wp2_with fail
    refine hK.out _ _ hHeld2 (fun hHeld => ?_)
    clear hK K' hHeld2
    refine wpAnyH_ready (rs := [24]) (by kernel_rfl) (by simp) (AllReadyH.cons rfl (fun K' hK => ?_) AllReadyH.nil)
    go_simp
    refine (ge_impl (.agg #[.slice Ps N cs, .slice Qs N ds]) r u _ _ Vs.out.rd (by rw [SFs.out.lr]; omega) (by rw [SFs.out.lu]; omega)).mono ?_
    rintro e w14_ ⟨rfl, b1⟩
    have hHeld2 := hHeld.later b1 (by omega); clear hHeld
    have s14 := b1.size
    replace Vs := Lib.hid (Vs.out.keep b1 Vs.out.top)
    replace Vx := Lib.hid (Vx.out.keep b1 Vx.out.top)
    replace BB := Lib.hid (BB.out.trans (b1.mono BB.out.size))
    clear b1
    go_wp2_with fail
    refine hK.out _ _ hHeld2 (fun hHeld => ?_)
    clear hK K' hHeld2
    refine wpAnyH_take (i := 25) (v := .bool true) rfl (by kernel_rfl) (by kernel_rfl) (by kernel_rfl) (fun _ _ _ h => h) (Or.inl ⟨by kernel_rfl, fun w hSw => by go_simp⟩) hHeld ?_
    refine wpAnyH_take (i := 26) (v := .bool true) rfl (by kernel_rfl) (by kernel_rfl) (by kernel_rfl) (fun _ _ _ h => h) (Or.inl ⟨by kernel_rfl, fun w hSw => by go_simp⟩) hHeld ?_
    refine wpAnyH_take (i := 27) (v := .bool true) rfl (by kernel_rfl) (by kernel_rfl) (by kernel_rfl) (fun _ _ _ h => h) (Or.inl ⟨by kernel_rfl, fun w hSw => by go_simp⟩) hHeld ?_
    refine wpAnyH_take (i := 28) (v := .agg #[.slice Px N cx, .slice Qx N dx]) rfl (by kernel_rfl) (by kernel_rfl) (by kernel_rfl) (fun _ _ _ h => h) (yieldsIf_load_mid (by kernel_rfl) _ _ rfl gx 0 rfl [.slice Px N cx, .slice Qx N dx] _ (fun w h => h.snd) Try.underlying25 rfl (sizeS _ _)) hHeld ?_
    refine wpAnyH_take (i := 30) (v := .agg #[.slice Ps N cs, .slice Qs N ds]) rfl (by kernel_rfl) (by kernel_rfl) (by kernel_rfl) (fun _ _ _ h => h) (yieldsIf_load_mid (by kernel_rfl) _ _ rfl w1_.heap.size 0 rfl [.slice Ps N cs, .slice Qs N ds] _ (fun w h => h.fst) Try.underlying25 rfl (sizeS _ _)) hHeld ?_
    refine wpAnyH_ready (rs := [29]) (by kernel_rfl) (by simp) (AllReadyH.cons rfl (fun K' hK => ?_) AllReadyH.nil)
    go_simp
    refine (cs_impl (.agg #[.slice Px N cx, .slice Qx N dx]) xr xu _ _ Vx.out.rd (by rw [SFx.out.lr]; omega) (by rw [SFx.out.lu]; omega)).mono ?_
    rintro e w15_ ⟨rfl, b1⟩
    rw [KC.out]
    have hHeld2 := hHeld.later b1 (by omega); clear hHeld
    have s15 := b1.size
    replace Vs := Lib.hid (Vs.out.keep b1 Vs.out.top)
    replace Vx := Lib.hid (Vx.out.keep b1 Vx.out.top)
    replace BB := Lib.hid (BB.out.trans (b1.mono BB.out.size))
    clear b1
    go_wp2_with fail
    refine hK.out _ _ hHeld2 (fun hHeld => ?_)
    clear hK K' hHeld2
    refine wpAnyH_ready (rs := [31]) (by kernel_rfl) (by simp) (AllReadyH.cons rfl (fun K' hK => ?_) AllReadyH.nil)
    go_simp
    refine (cs_impl (.agg #[.slice Ps N cs, .slice Qs N ds]) r u _ _ Vs.out.rd (by rw [SFs.out.lr]; omega) (by rw [SFs.out.lu]; omega)).mono ?_
    rintro e w16_ ⟨rfl, b1⟩
    have hHeld2 := hHeld.later b1 (by omega); clear hHeld
    have s16 := b1.size
    replace Vs := Lib.hid (Vs.out.keep b1 Vs.out.top)
    replace Vx := Lib.hid (Vx.out.keep b1 Vx.out.top)
    replace BB := Lib.hid (BB.out.trans (b1.mono BB.out.size))
    clear b1
    go_wp2_with fail
    refine hK.out _ _ hHeld2 (fun hHeld => ?_)
    clear hK K' hHeld2
    refine wpAnyH_take (i := 32) (v := .bool true) rfl (by kernel_rfl) (by kernel_rfl) (by kernel_rfl) (fun _ _ _ h => h) (Or.inl ⟨by kernel_rfl, fun w hSw => by go_simp⟩) hHeld ?_
    refine wpAnyH_take (i := 33) (v := .bool true) rfl (by kernel_rfl) (by kernel_rfl) (by kernel_rfl) (fun _ _ _ h => h) (Or.inl ⟨by kernel_rfl, fun w hSw => by go_simp⟩) hHeld ?_
    refine wpAnyH_take (i := 34) (v := .bool true) rfl (by kernel_rfl) (by kernel_rfl) (by kernel_rfl) (fun _ _ _ h => h) (Or.inl ⟨by kernel_rfl, fun w hSw => by go_simp⟩) hHeld ?_
    refine wpAnyH_take (i := 35) (v := .agg #[.slice Px N cx, .slice Qx N dx]) rfl (by kernel_rfl) (by kernel_rfl) (by kernel_rfl) (fun _ _ _ h => h) (yieldsIf_load_mid (by kernel_rfl) _ _ rfl gx 0 rfl [.slice Px N cx, .slice Qx N dx] _ (fun w h => h.snd) Try.underlying25 rfl (sizeS _ _)) hHeld ?_
    refine wpAnyH_take (i := 37) (v := .agg #[.slice Ps N cs, .slice Qs N ds]) rfl (by kernel_rfl) (by kernel_rfl) (by kernel_rfl) (fun _ _ _ h => h) (yieldsIf_load_mid (by kernel_rfl) _ _ rfl w1_.heap.size 0 rfl [.slice Ps N cs, .slice Qs N ds] _ (fun w h => h.fst) Try.underlying25 rfl (sizeS _ _)) hHeld ?_
    refine wpAnyH_ready (rs := [36]) (by kernel_rfl) (by simp) (AllReadyH.cons rfl (fun K' hK => ?_) AllReadyH.nil)
    go_simp
    refine (rw.half_impl (.agg #[.slice Px N cx, .slice Qx N dx]) xr xu _ _ Vx.out.rd (by rw [SFx.out.lr]; omega) (by rw [SFx.out.lu]; omega)).mono ?_
    rintro e w17_ ⟨rfl, b1⟩
    rw [KH.out]
    have hHeld2 := hHeld.later b1 (by omega); clear hHeld
    have s17 := b1.size
    replace Vs := Lib.hid (Vs.out.keep b1 Vs.out.top)
    replace Vx := Lib.hid (Vx.out.keep b1 Vx.out.top)
    replace BB := Lib.hid (BB.out.trans (b1.mono BB.out.size))
    clear b1
    go_wp2_with fail
    refine hK.out _ _ hHeld2 (fun hHeld => ?_)
    clear hK K' hHeld2
    refine wpAnyH_ready (rs := [38]) (by kernel_rfl) (by simp) (AllReadyH.cons rfl (fun K' hK => ?_) AllReadyH.nil)
    go_simp
    refine (rw.half_impl (.agg #[.slice Ps N cs, .slice Qs N ds]) r u _ _ Vs.out.rd (by rw [SFs.out.lr]; omega) (by rw [SFs.out.lu]; omega)).mono ?_
    rintro e w18_ ⟨rfl, b1⟩
    have hHeld2 := hHeld.later b1 (by omega); clear hHeld
    have s18 := b1.size
    replace Vs := Lib.hid (Vs.out.keep b1 Vs.out.top)
    replace Vx := Lib.hid (Vx.out.keep b1 Vx.out.top)
    replace BB := Lib.hid (BB.out.trans (b1.mono BB.out.size))
    clear b1
    go_wp2_with fail
    refine hK.out _ _ hHeld2 (fun hHeld => ?_)
    clear hK K' hHeld2
    refine wpAnyH_take (i := 39) (v := .bool true) rfl (by kernel_rfl) (by kernel_rfl) (by kernel_rfl) (fun _ _ _ h => h) (Or.inl ⟨by kernel_rfl, fun w hSw => by go_simp⟩) hHeld ?_
    refine wpAnyH_take (i := 40) (v := .bool true) rfl (by kernel_rfl) (by kernel_rfl) (by kernel_rfl) (fun _ _ _ h => h) (Or.inl ⟨by kernel_rfl, fun w hSw => by go_simp⟩) hHeld ?_
    refine wpAnyH_take (i := 41) (v := .bool true) rfl (by kernel_rfl) (by kernel_rfl) (by kernel_rfl) (fun _ _ _ h => h) (Or.inl ⟨by kernel_rfl, fun w hSw => by go_simp⟩) hHeld ?_
    refine wpAnyH_take (i := 42) (v := .agg #[.slice Px N cx, .slice Qx N dx]) rfl (by kernel_rfl) (by kernel_rfl) (by kernel_rfl) (fun _ _ _ h => h) (yieldsIf_load_mid (by kernel_rfl) _ _ rfl gx 0 rfl [.slice Px N cx, .slice Qx N dx] _ (fun w h => h.snd) Try.underlying25 rfl (sizeS _ _)) hHeld ?_
    refine wpAnyH_take (i := 45) (v := .agg #[.slice Ps N cs, .slice Qs N ds]) rfl (by kernel_rfl) (by kernel_rfl) (by kernel_rfl) (fun _ _ _ h => h) (yieldsIf_load_mid (by kernel_rfl) _ _ rfl w1_.heap.size 0 rfl [.slice Ps N cs, .slice Qs N ds] _ (fun w h => h.fst) Try.underlying25 rfl (sizeS _ _)) hHeld ?_
    refine wpAnyH_ready (rs := [43]) (by kernel_rfl) (by simp) (AllReadyH.cons rfl (fun K' hK => ?_) AllReadyH.nil)
    go_simp
    refine (ht.tu_impl (.agg #[.slice Px N cx, .slice Qx N dx]) xr xu _ _ Vx.out.rd (by rw [SFx.out.lr]; omega) (by rw [SFx.out.lu]; omega)).mono ?_
    rintro e w19_ ⟨P3, c3, rfl, o1, b1⟩
    clear o1
    rw [KT.out]
    have hHeld2 := hHeld.later b1 (by omega); clear hHeld
    have s19 := b1.size
    replace Vs := Lib.hid (Vs.out.keep b1 Vs.out.top)
    replace Vx := Lib.hid (Vx.out.keep b1 Vx.out.top)
    replace BB := Lib.hid (BB.out.trans (b1.mono BB.out.size))
    clear b1
    go_wp2_with fail
    refine hK.out _ _ hHeld2 (fun hHeld => ?_)
    clear hK K' hHeld2
    refine wpAnyH_take (i := 44) (v := .int .i64 ((ht.tuF r u).length : Int)) rfl (by kernel_rfl) (by kernel_rfl) (by kernel_rfl) (fun _ _ _ h => h) (Or.inl ⟨by kernel_rfl, fun w hSw => by go_simp⟩) hHeld ?_
    refine wpAnyH_ready (rs := [46]) (by kernel_rfl) (by simp) (AllReadyH.cons rfl (fun K' hK => ?_) AllReadyH.nil)
    go_simp
    refine (ht.tu_impl (.agg #[.slice Ps N cs, .slice Qs N ds]) r u _ _ Vs.out.rd (by rw [SFs.out.lr]; omega) (by rw [SFs.out.lu]; omega)).mono ?_
    rintro e w20_ ⟨P4, c4, rfl, o1, b1⟩
    clear o1
    have hHeld2 := hHeld.later b1 (by omega); clear hHeld
    have s20 := b1.size
    replace Vs := Lib.hid (Vs.out.keep b1 Vs.out.top)
    replace Vx := Lib.hid (Vx.out.keep b1 Vx.out.top)
    replace BB := Lib.hid (BB.out.trans (b1.mono BB.out.size))
    clear b1
    go_wp2_with fail
    refine hK.out _ _ hHeld2 (fun hHeld => ?_)
    clear hK K' hHeld2
    refine wpAnyH_take (i := 47) (v := .int .i64 ((ht.tuF r u).length : Int)) rfl (by kernel_rfl) (by kernel_rfl) (by kernel_rfl) (fun _ _ _ h => h) (Or.inl ⟨by kernel_rfl, fun w hSw => by go_simp⟩) hHeld ?_
    refine wpAnyH_take (i := 48) (v := .bool true) rfl (by kernel_rfl) (by kernel_rfl) (by kernel_rfl) (fun _ _ _ h => h) (Or.inl ⟨by kernel_rfl, fun w hSw => by go_simp⟩) hHeld ?_
    refine wpAnyH_take (i := 49) (v := .bool true) rfl (by kernel_rfl) (by kernel_rfl) (by kernel_rfl) (fun _ _ _ h => h) (Or.inl ⟨by kernel_rfl, fun w hSw => by go_simp⟩) hHeld ?_
    refine wpAnyH_ready (rs := [50]) (by kernel_rfl) (by simp) (AllReadyH.cons rfl (fun K' hK => ?_) AllReadyH.nil)
    go_simp
    refine hK.out _ _ hHeld (fun hHeld2 => ?_)
    clear hK K' hHeld hHeld2
    refine wpAnyH_done (by kernel_rfl) ?_ _
    go_wp2_with fail
    go_ret
    exact ⟨rfl, BB.out⟩

set_option maxRecDepth 100000 in
theorem lifted (os : Os) (started : os.Started) (H : Type) (enc : TypeId × Value → H) :
    ReturnsInHanded {} Try.checked os 3 .any (Rows.fnKeptSpec.pre6 enc Try.prog Try.f3 Rows.fnKeptRow.domain false) (Rows.fnKeptSpec.post enc Try.prog Try.f3 false true false false) := by
  refine returnsInHanded_of_change (C := Try.checked) own started (by kernel_rfl) Try.func3
    (ChangeSpec.witness6 (enc := enc) (C := Try.checked) false ⟨#[], #[.slice none 0 0], []⟩ 8 (by kernel_rfl) (by kernel_rfl) (by kernel_rfl) (by kernel_rfl)) ?_
  intro W base args ds gs before hval0 hW hcnd _
  have hval : ∀ (j : Nat) t v, Try.f3.params[j]? = some t → args[j]? = some v → Value.okWide Try.prog W .any base t v := hval0
  have hW' := hW
  obtain ⟨p, q, hA0, hV, rfl, hfz, hnd⟩ := hW
  have hA : DataW.TrodAll enc Try.prog W 0 (fun _ => true) true Try.f3.params.toList args.toList ds p := hA0
  rw [Try.params3] at hA hval
  obtain ⟨v0, vs0, d0, ds0, p0, q0, hargs, rfl, rfl, h0, r0⟩ := trodAll_cons hA
  obtain ⟨rfl, rfl, rfl⟩ := trodAll_nil r0
  obtain rfl : args = #[v0] := by cases args; simp_all
  obtain ⟨rfl, rfl⟩ := trodVars_none hV
  obtain ⟨A0, n0, c0, rfl⟩ := okWide_slice Try.underlying22 (hval 0 22 v0 rfl rfl)
  have lt0 : ∀ x ∈ p0, x.block < W.heap.size := by obtain ⟨m, hm⟩ := h0; exact DataW.trod_lt m _ _ _ hm
  obtain ⟨x0, rd0, cn0, cm0, el0⟩ := open_B Try.underlying22 Try.underlying5 (by kernel_rfl) h0
  clear hA0 hval0
  refine (walk (w := W) A0 n0 c0 x0 rd0 cn0 cm0 el0).mono fun e W' ⟨he, bel⟩ => ?_
  subst he
  exact ⟨_, rfl, _, _, _, [], _, [], hW', trodAll_mk1 (shut_bool Try.underlying4 _), (trodAll_cons_mk (Below.trod laidOut (by kernel_rfl) (of_decide_eq_true (by kernel_rfl)) h0 bel lt0) trodAll_mk0), rfl, bel.frame _, fun h => by cases h⟩

theorem over : Rows.fnKeptRow.holds Try.pinned (OpenSpec.ofChange Rows.fnKeptSpec) :=
  OpenClaim.holds_of_wide 3 Try.f3 rfl rfl rfl rfl rfl rfl rfl ⟨rfl, rfl, rfl, rfl, rfl⟩ rfl rfl rfl rfl rfl (by kernel_rfl) Try.func3 (by kernel_rfl)
    (of_decide_eq_true (by kernel_rfl)) (by unfold Func.isWrapper; first | (rw [if_pos (by decide +kernel)]; kernel_rfl) | (rw [if_neg (by decide +kernel)]; exact ⟨rfl, rfl⟩))
    (fun os started H enc _ => lifted os started H enc)

theorem proved : Rows.FnKeptSaid :=
  over
#print axioms proved
end Go.Proofs.Ytpmojmhamgcfmaa.fnKept
