/-
  FnExactTimesMatrix: at every argument the law FnExactTimesMatrix returns true, and its arguments read as before. No condition.
-/
import Derived.Test.YtdoohnphgembdaaRows
import Derived.WalkKit
import Derived.ProofKit
import Derived.OpenShut
import Derived.ShutString
import Derived.ChangeOld
import Derived.Below
import Derived.Test.YtdoohnphgembdaaMq
import Derived.Test.YtdoohnphgembdaaGs
import Derived.Deep.CutRange
namespace Go.Proofs.Ytdoohnphgembdaa.fnExactTimesMatrix
open Go.ChangeShapes Go.WideShapes Go.ChangeAt Go.RowKit
open Go.ChangeMaps (open_string shut_string)
open Go.Proofs.Ytdoohnphgembdaa.mem Go.Proofs.Ytdoohnphgembdaa.ints Go.Proofs.Ytdoohnphgembdaa.arr Go.Proofs.Ytdoohnphgembdaa.sf Go.Proofs.Ytdoohnphgembdaa.gl Go.Proofs.Ytdoohnphgembdaa.permOf
set_option linter.unusedVariables false
set_option maxRecDepth 100000

theorem own : ownKnob Try.prog.godebug = none := by kernel_rfl
theorem laidOut : laidOutB Try.prog = true := by kernel_rfl

set_option maxRecDepth 100000 in
set_option maxHeartbeats 4000000 in
theorem walk (w : World) (x0 x1 : mx.Mx) (lx0 : mx.Fit x0) (lx1 : mx.Fit x1) :
    Calls Try.prog 11 #[mx.mv x0, mx.mv x1] w fun e w' => e = .returned (.bool true) ∧ Below w.heap.size w w' := by
  have HM := Lib.hid lx0; have HN := Lib.hid lx1; clear lx0 lx1
  unfold mx.mv
  go_enter Try.func11, Try.ntmps11
  go_wp2_with fail
  generalize hw1 : (w.alloc (.cells #[.int .i64 x0.1, .int .i64 x0.2.1, .int .i64 x0.2.2.1, .int .i64 x0.2.2.2] 42)).alloc (.cells #[.int .i64 x1.1, .int .i64 x1.2.1, .int .i64 x1.2.2.1, .int .i64 x1.2.2.2] 42) = w1
  have A0 : Hid (Arr w1 w.heap.size (V (mx.ents x0)) 42) := Lib.hid (by rw [← hw1]; exact (Arr.new w _ _ rfl).alloc _)
  have A1 : Hid (Arr w1 (w.heap.size + 1) (V (mx.ents x1)) 42) := Lib.hid (by rw [← hw1]; exact Arr.new _ _ _ (by simp))
  have B1 : Hid (Below w.heap.size w w1) := Lib.hid (by rw [← hw1]; exact ((Below.refl _ _).alloc (Nat.le_refl _) _).alloc (by simp) _)
  have s1 : w.heap.size + 2 ≤ w1.heap.size := by rw [← hw1]; simp
  clear hw1
  go_cut [5, 6] from 9 to 16 (fun p q wx => ∃ g, p = .pointer (some ⟨g, 0, none⟩) ∧ q = .bool (mx.okM x0 x1) ∧ w.heap.size + 2 ≤ g ∧ Hid (Arr wx w.heap.size (V (mx.ents x0)) 42) ∧ Hid (Arr wx (w.heap.size + 1) (V (mx.ents x1)) 42) ∧ Hid (Arr wx g (V (mx.ents (mx.tmF x0 x1))) 43) ∧ Hid (Below w.heap.size w wx))
  case first =>
    refine wp_region_held_drew (S := Hld w1.heap.size w1.heap.size w1 [(w.heap.size, V (mx.ents x0)), (w.heap.size + 1, V (mx.ents x1))]) (by kernel_rfl) (Hld.start2 A0.out A1.out) (fun hHeld => ?_)
    have b1 : Below w1.heap.size w1 w1.drew := ⟨rfl, rfl, rfl, Nat.le_refl _, fun _ _ => rfl⟩
    generalize w1.drew = w1a at *
    have sw1 := b1.size
    replace A0 := Lib.hid (A0.out.keep b1 A0.out.lt)
    replace A1 := Lib.hid (A1.out.keep b1 A1.out.lt)
    replace B1 := Lib.hid (B1.out.trans (b1.mono B1.out.size))
    clear b1
    refine wpAnyH_take (i := 0) (v := mx.mv x0) rfl (by kernel_rfl) (by kernel_rfl) (by kernel_rfl) (fun _ _ _ h => h) (yieldsIf_load_mid (by rfl) _ _ rfl (w.heap.size) 0 rfl (V (mx.ents x0)) _ (fun w h => h.fst) Try.underlying42 rfl (mx.sizeT x0)) hHeld ?_
    refine wpAnyH_take (i := 2) (v := mx.mv x1) rfl (by kernel_rfl) (by kernel_rfl) (by kernel_rfl) (fun _ _ _ h => h) (yieldsIf_load_mid (by rfl) _ _ rfl (w.heap.size + 1) 0 rfl (V (mx.ents x1)) _ (fun w h => h.snd) Try.underlying42 rfl (mx.sizeT x1)) hHeld ?_
    refine wpAnyH_ready (rs := [1, 8]) (by kernel_rfl) (by simp) (AllReadyH.cons rfl (fun K hK => ?_) (AllReadyH.cons rfl (fun K hK => ?_) AllReadyH.nil))
    · go_simp
      refine (mx.toM_any x0 _).mono ?_
      rintro e v1 ⟨rfl, b1⟩
      have sv1 := b1.size
      replace A0 := Lib.hid (A0.out.keep b1 A0.out.lt)
      replace A1 := Lib.hid (A1.out.keep b1 A1.out.lt)
      replace B1 := Lib.hid (B1.out.trans (b1.mono B1.out.size))
      go_wp2_with fail
      have hHeld2 := hHeld.later b1 (by omega); clear b1 hHeld
      refine hK.out _ _ hHeld2 (fun hHeld => ?_)
      clear hK K hHeld2
      refine wpAnyH_ready (rs := [3, 8]) (by kernel_rfl) (by simp) (AllReadyH.cons rfl (fun K hK => ?_) (AllReadyH.cons rfl (fun K hK => ?_) AllReadyH.nil))
      · go_simp
        refine (mx.toM_any x1 _).mono ?_
        rintro e v2 ⟨rfl, b1⟩
        have sv2 := b1.size
        replace A0 := Lib.hid (A0.out.keep b1 A0.out.lt)
        replace A1 := Lib.hid (A1.out.keep b1 A1.out.lt)
        replace B1 := Lib.hid (B1.out.trans (b1.mono B1.out.size))
        go_wp2_with fail
        have hHeld2 := hHeld.later b1 (by omega); clear b1 hHeld
        refine hK.out _ _ hHeld2 (fun hHeld => ?_)
        clear hK K hHeld2
        refine wpAnyH_ready (rs := [4, 8]) (by kernel_rfl) (by simp) (AllReadyH.cons rfl (fun K hK => ?_) (AllReadyH.cons rfl (fun K hK => ?_) AllReadyH.nil))
        · go_simp
          refine (mx.tm_spec x0 x1 _ HM.out HN.out).mono ?_
          rintro e v3 ⟨rfl, b1⟩
          have sv3 := b1.size
          replace A0 := Lib.hid (A0.out.keep b1 A0.out.lt)
          replace A1 := Lib.hid (A1.out.keep b1 A1.out.lt)
          replace B1 := Lib.hid (B1.out.trans (b1.mono B1.out.size))
          go_wp2_with fail
          have hHeld2 := hHeld.later b1 (by omega); clear b1 hHeld
          refine hK.out _ _ hHeld2 (fun hHeld => ?_)
          clear hK K hHeld2
          refine wpAnyH_take (i := 5) (v := .tuple #[mx.mv (mx.tmF x0 x1), .bool (mx.okM x0 x1)]) rfl (by kernel_rfl) (by kernel_rfl) (by kernel_rfl) (fun _ _ _ h => h) (Or.inl ⟨by kernel_rfl, fun w hSw => by go_simp⟩) hHeld ?_
          refine wpAnyH_take (i := 6) (v := mx.mv (mx.tmF x0 x1)) rfl (by kernel_rfl) (by kernel_rfl) (by kernel_rfl) (fun _ _ _ h => h) (Or.inl ⟨by kernel_rfl, fun w hSw => by go_simp⟩) hHeld ?_
          refine wpAnyH_take (i := 7) (v := .bool (mx.okM x0 x1)) rfl (by kernel_rfl) (by kernel_rfl) (by kernel_rfl) (fun _ _ _ h => h) (Or.inl ⟨by kernel_rfl, fun w hSw => by go_simp⟩) hHeld ?_
          refine wpAnyH_ready (rs := [8]) (by kernel_rfl) (by simp) (AllReadyH.cons rfl (fun K hK => ?_) AllReadyH.nil)
          go_simp
          generalize hwa : v3.alloc (.cells #[.int .i64 0, .int .i64 0, .int .i64 0, .int .i64 0] 43) = v4
          have b1 : Below v3.heap.size v3 v4 := by rw [← hwa]; exact (Below.refl _ _).alloc (Nat.le_refl _) _
          have AL : Hid (Arr v4 v3.heap.size (V (mx.ents mx.zM)) 43) := Lib.hid (by rw [← hwa]; exact Arr.new _ _ _ rfl)
          have sv4 : v3.heap.size + 1 ≤ v4.heap.size := by rw [← hwa]; simp
          clear hwa
          replace A0 := Lib.hid (A0.out.keep b1 A0.out.lt)
          replace A1 := Lib.hid (A1.out.keep b1 A1.out.lt)
          replace B1 := Lib.hid (B1.out.trans (b1.mono B1.out.size))
          have hHeld2 := hHeld.later b1 (by omega); clear b1 hHeld
          refine hK.out _ _ hHeld2 (fun hHeld => ?_)
          clear hK K hHeld2
          refine wpAnyH_ready (rs := [9]) (by kernel_rfl) (by simp) (AllReadyH.cons rfl (fun K hK => ?_) AllReadyH.nil)
          refine step_store_row rfl 43 _ _ rfl (v3.heap.size) #[.int .i64 (mx.tmF x0 x1).1, .int .i64 (mx.tmF x0 x1).2.1, .int .i64 (mx.tmF x0 x1).2.2.1, .int .i64 (mx.tmF x0 x1).2.2.2] rfl rfl 43 #[.int .i64 mx.zM.1, .int .i64 mx.zM.2.1, .int .i64 mx.zM.2.2.1, .int .i64 mx.zM.2.2.2] AL.out (mx.sizeM _) rfl (by simp [Value.oneCell']) ?_
          change K (Act.put _ none _) _
          simp only [Act.put]
          refine hK.out _ _ (hHeld.other (by omega) (by simp; omega) _) (fun hHeld2 => ?_)
          clear hK K hHeld
          refine wpAnyH_take (i := 10) (v := .bool (mx.okM x0 x1)) rfl (by kernel_rfl) (by kernel_rfl) (by kernel_rfl) (fun _ _ _ h => h) (Or.inl ⟨by kernel_rfl, fun w hSw => by go_simp⟩) hHeld2 ?_
          refine wpAnyH_done (by kernel_rfl) ?_ _
          clear hHeld2
          go_wp2_with fail
          go_meet
          exact ⟨_, rfl, rfl, by omega, Lib.hid (A0.out.rowOther (by omega)), Lib.hid (A1.out.rowOther (by omega)), Lib.hid AL.out.row, Lib.hid (below_setRow B1.out (by omega) _)⟩
        · go_simp
          generalize hwa : v2.alloc (.cells #[.int .i64 0, .int .i64 0, .int .i64 0, .int .i64 0] 43) = v3
          have b1 : Below v2.heap.size v2 v3 := by rw [← hwa]; exact (Below.refl _ _).alloc (Nat.le_refl _) _
          have AL : Hid (Arr v3 v2.heap.size (V (mx.ents mx.zM)) 43) := Lib.hid (by rw [← hwa]; exact Arr.new _ _ _ rfl)
          have sv3 : v2.heap.size + 1 ≤ v3.heap.size := by rw [← hwa]; simp
          clear hwa
          replace A0 := Lib.hid (A0.out.keep b1 A0.out.lt)
          replace A1 := Lib.hid (A1.out.keep b1 A1.out.lt)
          replace B1 := Lib.hid (B1.out.trans (b1.mono B1.out.size))
          have hHeld2 := hHeld.later b1 (by omega); clear b1 hHeld
          refine hK.out _ _ hHeld2 (fun hHeld => ?_)
          clear hK K hHeld2
          refine wpAnyH_ready (rs := [4]) (by kernel_rfl) (by simp) (AllReadyH.cons rfl (fun K hK => ?_) AllReadyH.nil)
          go_simp
          refine (mx.tm_spec x0 x1 _ HM.out HN.out).mono ?_
          rintro e v4 ⟨rfl, b1⟩
          have sv4 := b1.size
          replace A0 := Lib.hid (A0.out.keep b1 A0.out.lt)
          replace A1 := Lib.hid (A1.out.keep b1 A1.out.lt)
          replace AL := Lib.hid (AL.out.keep b1 AL.out.lt)
          replace B1 := Lib.hid (B1.out.trans (b1.mono B1.out.size))
          go_wp2_with fail
          have hHeld2 := hHeld.later b1 (by omega); clear b1 hHeld
          refine hK.out _ _ hHeld2 (fun hHeld => ?_)
          clear hK K hHeld2
          refine wpAnyH_take (i := 5) (v := .tuple #[mx.mv (mx.tmF x0 x1), .bool (mx.okM x0 x1)]) rfl (by kernel_rfl) (by kernel_rfl) (by kernel_rfl) (fun _ _ _ h => h) (Or.inl ⟨by kernel_rfl, fun w hSw => by go_simp⟩) hHeld ?_
          refine wpAnyH_take (i := 6) (v := mx.mv (mx.tmF x0 x1)) rfl (by kernel_rfl) (by kernel_rfl) (by kernel_rfl) (fun _ _ _ h => h) (Or.inl ⟨by kernel_rfl, fun w hSw => by go_simp⟩) hHeld ?_
          refine wpAnyH_take (i := 7) (v := .bool (mx.okM x0 x1)) rfl (by kernel_rfl) (by kernel_rfl) (by kernel_rfl) (fun _ _ _ h => h) (Or.inl ⟨by kernel_rfl, fun w hSw => by go_simp⟩) hHeld ?_
          refine wpAnyH_ready (rs := [9]) (by kernel_rfl) (by simp) (AllReadyH.cons rfl (fun K hK => ?_) AllReadyH.nil)
          refine step_store_row rfl 43 _ _ rfl (v2.heap.size) #[.int .i64 (mx.tmF x0 x1).1, .int .i64 (mx.tmF x0 x1).2.1, .int .i64 (mx.tmF x0 x1).2.2.1, .int .i64 (mx.tmF x0 x1).2.2.2] rfl rfl 43 #[.int .i64 mx.zM.1, .int .i64 mx.zM.2.1, .int .i64 mx.zM.2.2.1, .int .i64 mx.zM.2.2.2] AL.out (mx.sizeM _) rfl (by simp [Value.oneCell']) ?_
          change K (Act.put (Act.put (Act.put (Act.put _ (some 9) _) (some 15) _) (some 16) _) none _) _
          simp only [Act.put, List.setIfInBounds_toArray, List.set_cons_zero, List.set_cons_succ]
          refine hK.out _ _ (hHeld.other (by omega) (by simp; omega) _) (fun hHeld2 => ?_)
          clear hK K hHeld
          refine wpAnyH_take (i := 10) (v := .bool (mx.okM x0 x1)) rfl (by kernel_rfl) (by kernel_rfl) (by kernel_rfl) (fun _ _ _ h => h) (Or.inl ⟨by kernel_rfl, fun w hSw => by go_simp⟩) hHeld2 ?_
          refine wpAnyH_done (by kernel_rfl) ?_ _
          clear hHeld2
          go_wp2_with fail
          go_meet
          exact ⟨_, rfl, rfl, by omega, Lib.hid (A0.out.rowOther (by omega)), Lib.hid (A1.out.rowOther (by omega)), Lib.hid AL.out.row, Lib.hid (below_setRow B1.out (by omega) _)⟩
      · go_simp
        generalize hwa : v1.alloc (.cells #[.int .i64 0, .int .i64 0, .int .i64 0, .int .i64 0] 43) = v2
        have b1 : Below v1.heap.size v1 v2 := by rw [← hwa]; exact (Below.refl _ _).alloc (Nat.le_refl _) _
        have AL : Hid (Arr v2 v1.heap.size (V (mx.ents mx.zM)) 43) := Lib.hid (by rw [← hwa]; exact Arr.new _ _ _ rfl)
        have sv2 : v1.heap.size + 1 ≤ v2.heap.size := by rw [← hwa]; simp
        clear hwa
        replace A0 := Lib.hid (A0.out.keep b1 A0.out.lt)
        replace A1 := Lib.hid (A1.out.keep b1 A1.out.lt)
        replace B1 := Lib.hid (B1.out.trans (b1.mono B1.out.size))
        have hHeld2 := hHeld.later b1 (by omega); clear b1 hHeld
        refine hK.out _ _ hHeld2 (fun hHeld => ?_)
        clear hK K hHeld2
        refine wpAnyH_ready (rs := [3]) (by kernel_rfl) (by simp) (AllReadyH.cons rfl (fun K hK => ?_) AllReadyH.nil)
        go_simp
        refine (mx.toM_any x1 _).mono ?_
        rintro e v3 ⟨rfl, b1⟩
        have sv3 := b1.size
        replace A0 := Lib.hid (A0.out.keep b1 A0.out.lt)
        replace A1 := Lib.hid (A1.out.keep b1 A1.out.lt)
        replace AL := Lib.hid (AL.out.keep b1 AL.out.lt)
        replace B1 := Lib.hid (B1.out.trans (b1.mono B1.out.size))
        go_wp2_with fail
        have hHeld2 := hHeld.later b1 (by omega); clear b1 hHeld
        refine hK.out _ _ hHeld2 (fun hHeld => ?_)
        clear hK K hHeld2
        refine wpAnyH_ready (rs := [4]) (by kernel_rfl) (by simp) (AllReadyH.cons rfl (fun K hK => ?_) AllReadyH.nil)
        go_simp
        refine (mx.tm_spec x0 x1 _ HM.out HN.out).mono ?_
        rintro e v4 ⟨rfl, b1⟩
        have sv4 := b1.size
        replace A0 := Lib.hid (A0.out.keep b1 A0.out.lt)
        replace A1 := Lib.hid (A1.out.keep b1 A1.out.lt)
        replace AL := Lib.hid (AL.out.keep b1 AL.out.lt)
        replace B1 := Lib.hid (B1.out.trans (b1.mono B1.out.size))
        go_wp2_with fail
        have hHeld2 := hHeld.later b1 (by omega); clear b1 hHeld
        refine hK.out _ _ hHeld2 (fun hHeld => ?_)
        clear hK K hHeld2
        refine wpAnyH_take (i := 5) (v := .tuple #[mx.mv (mx.tmF x0 x1), .bool (mx.okM x0 x1)]) rfl (by kernel_rfl) (by kernel_rfl) (by kernel_rfl) (fun _ _ _ h => h) (Or.inl ⟨by kernel_rfl, fun w hSw => by go_simp⟩) hHeld ?_
        refine wpAnyH_take (i := 6) (v := mx.mv (mx.tmF x0 x1)) rfl (by kernel_rfl) (by kernel_rfl) (by kernel_rfl) (fun _ _ _ h => h) (Or.inl ⟨by kernel_rfl, fun w hSw => by go_simp⟩) hHeld ?_
        refine wpAnyH_take (i := 7) (v := .bool (mx.okM x0 x1)) rfl (by kernel_rfl) (by kernel_rfl) (by kernel_rfl) (fun _ _ _ h => h) (Or.inl ⟨by kernel_rfl, fun w hSw => by go_simp⟩) hHeld ?_
        refine wpAnyH_ready (rs := [9]) (by kernel_rfl) (by simp) (AllReadyH.cons rfl (fun K hK => ?_) AllReadyH.nil)
        refine step_store_row rfl 43 _ _ rfl (v1.heap.size) #[.int .i64 (mx.tmF x0 x1).1, .int .i64 (mx.tmF x0 x1).2.1, .int .i64 (mx.tmF x0 x1).2.2.1, .int .i64 (mx.tmF x0 x1).2.2.2] rfl rfl 43 #[.int .i64 mx.zM.1, .int .i64 mx.zM.2.1, .int .i64 mx.zM.2.2.1, .int .i64 mx.zM.2.2.2] AL.out (mx.sizeM _) rfl (by simp [Value.oneCell']) ?_
        change K (Act.put (Act.put (Act.put (Act.put _ (some 9) _) (some 15) _) (some 16) _) none _) _
        simp only [Act.put, List.setIfInBounds_toArray, List.set_cons_zero, List.set_cons_succ]
        refine hK.out _ _ (hHeld.other (by omega) (by simp; omega) _) (fun hHeld2 => ?_)
        clear hK K hHeld
        refine wpAnyH_take (i := 10) (v := .bool (mx.okM x0 x1)) rfl (by kernel_rfl) (by kernel_rfl) (by kernel_rfl) (fun _ _ _ h => h) (Or.inl ⟨by kernel_rfl, fun w hSw => by go_simp⟩) hHeld2 ?_
        refine wpAnyH_done (by kernel_rfl) ?_ _
        clear hHeld2
        go_wp2_with fail
        go_meet
        exact ⟨_, rfl, rfl, by omega, Lib.hid (A0.out.rowOther (by omega)), Lib.hid (A1.out.rowOther (by omega)), Lib.hid AL.out.row, Lib.hid (below_setRow B1.out (by omega) _)⟩
    · go_simp
      generalize hwa : w1a.alloc (.cells #[.int .i64 0, .int .i64 0, .int .i64 0, .int .i64 0] 43) = v1
      have b1 : Below w1a.heap.size w1a v1 := by rw [← hwa]; exact (Below.refl _ _).alloc (Nat.le_refl _) _
      have AL : Hid (Arr v1 w1a.heap.size (V (mx.ents mx.zM)) 43) := Lib.hid (by rw [← hwa]; exact Arr.new _ _ _ rfl)
      have sv1 : w1a.heap.size + 1 ≤ v1.heap.size := by rw [← hwa]; simp
      clear hwa
      replace A0 := Lib.hid (A0.out.keep b1 A0.out.lt)
      replace A1 := Lib.hid (A1.out.keep b1 A1.out.lt)
      replace B1 := Lib.hid (B1.out.trans (b1.mono B1.out.size))
      have hHeld2 := hHeld.later b1 (by omega); clear b1 hHeld
      refine hK.out _ _ hHeld2 (fun hHeld => ?_)
      clear hK K hHeld2
      refine wpAnyH_ready (rs := [1]) (by kernel_rfl) (by simp) (AllReadyH.cons rfl (fun K hK => ?_) AllReadyH.nil)
      go_simp
      refine (mx.toM_any x0 _).mono ?_
      rintro e v2 ⟨rfl, b1⟩
      have sv2 := b1.size
      replace A0 := Lib.hid (A0.out.keep b1 A0.out.lt)
      replace A1 := Lib.hid (A1.out.keep b1 A1.out.lt)
      replace AL := Lib.hid (AL.out.keep b1 AL.out.lt)
      replace B1 := Lib.hid (B1.out.trans (b1.mono B1.out.size))
      go_wp2_with fail
      have hHeld2 := hHeld.later b1 (by omega); clear b1 hHeld
      refine hK.out _ _ hHeld2 (fun hHeld => ?_)
      clear hK K hHeld2
      refine wpAnyH_ready (rs := [3]) (by kernel_rfl) (by simp) (AllReadyH.cons rfl (fun K hK => ?_) AllReadyH.nil)
      go_simp
      refine (mx.toM_any x1 _).mono ?_
      rintro e v3 ⟨rfl, b1⟩
      have sv3 := b1.size
      replace A0 := Lib.hid (A0.out.keep b1 A0.out.lt)
      replace A1 := Lib.hid (A1.out.keep b1 A1.out.lt)
      replace AL := Lib.hid (AL.out.keep b1 AL.out.lt)
      replace B1 := Lib.hid (B1.out.trans (b1.mono B1.out.size))
      go_wp2_with fail
      have hHeld2 := hHeld.later b1 (by omega); clear b1 hHeld
      refine hK.out _ _ hHeld2 (fun hHeld => ?_)
      clear hK K hHeld2
      refine wpAnyH_ready (rs := [4]) (by kernel_rfl) (by simp) (AllReadyH.cons rfl (fun K hK => ?_) AllReadyH.nil)
      go_simp
      refine (mx.tm_spec x0 x1 _ HM.out HN.out).mono ?_
      rintro e v4 ⟨rfl, b1⟩
      have sv4 := b1.size
      replace A0 := Lib.hid (A0.out.keep b1 A0.out.lt)
      replace A1 := Lib.hid (A1.out.keep b1 A1.out.lt)
      replace AL := Lib.hid (AL.out.keep b1 AL.out.lt)
      replace B1 := Lib.hid (B1.out.trans (b1.mono B1.out.size))
      go_wp2_with fail
      have hHeld2 := hHeld.later b1 (by omega); clear b1 hHeld
      refine hK.out _ _ hHeld2 (fun hHeld => ?_)
      clear hK K hHeld2
      refine wpAnyH_take (i := 5) (v := .tuple #[mx.mv (mx.tmF x0 x1), .bool (mx.okM x0 x1)]) rfl (by kernel_rfl) (by kernel_rfl) (by kernel_rfl) (fun _ _ _ h => h) (Or.inl ⟨by kernel_rfl, fun w hSw => by go_simp⟩) hHeld ?_
      refine wpAnyH_take (i := 6) (v := mx.mv (mx.tmF x0 x1)) rfl (by kernel_rfl) (by kernel_rfl) (by kernel_rfl) (fun _ _ _ h => h) (Or.inl ⟨by kernel_rfl, fun w hSw => by go_simp⟩) hHeld ?_
      refine wpAnyH_take (i := 7) (v := .bool (mx.okM x0 x1)) rfl (by kernel_rfl) (by kernel_rfl) (by kernel_rfl) (fun _ _ _ h => h) (Or.inl ⟨by kernel_rfl, fun w hSw => by go_simp⟩) hHeld ?_
      refine wpAnyH_ready (rs := [9]) (by kernel_rfl) (by simp) (AllReadyH.cons rfl (fun K hK => ?_) AllReadyH.nil)
      refine step_store_row rfl 43 _ _ rfl (w1a.heap.size) #[.int .i64 (mx.tmF x0 x1).1, .int .i64 (mx.tmF x0 x1).2.1, .int .i64 (mx.tmF x0 x1).2.2.1, .int .i64 (mx.tmF x0 x1).2.2.2] rfl rfl 43 #[.int .i64 mx.zM.1, .int .i64 mx.zM.2.1, .int .i64 mx.zM.2.2.1, .int .i64 mx.zM.2.2.2] AL.out (mx.sizeM _) rfl (by simp [Value.oneCell']) ?_
      change K (Act.put (Act.put (Act.put (Act.put _ (some 9) _) (some 15) _) (some 16) _) none _) _
      simp only [Act.put, List.setIfInBounds_toArray, List.set_cons_zero, List.set_cons_succ]
      refine hK.out _ _ (hHeld.other (by omega) (by simp; omega) _) (fun hHeld2 => ?_)
      clear hK K hHeld
      refine wpAnyH_take (i := 10) (v := .bool (mx.okM x0 x1)) rfl (by kernel_rfl) (by kernel_rfl) (by kernel_rfl) (fun _ _ _ h => h) (Or.inl ⟨by kernel_rfl, fun w hSw => by go_simp⟩) hHeld2 ?_
      refine wpAnyH_done (by kernel_rfl) ?_ _
      clear hHeld2
      go_wp2_with fail
      go_meet
      exact ⟨_, rfl, rfl, by omega, Lib.hid (A0.out.rowOther (by omega)), Lib.hid (A1.out.rowOther (by omega)), Lib.hid AL.out.row, Lib.hid (below_setRow B1.out (by omega) _)⟩
  case rest =>
    clear A0 A1 B1 s1
    obtain ⟨g1, rfl, rfl, hg1, A0, A1, G1, B1⟩ := hcut
    obtain ⟨w3, rfl⟩ : ∃ w3, w3 = wc := ⟨_, rfl⟩
    have s3 := G1.out.lt
    go_wp2_with fail
    go_cut [7, 8] from 17 to 24 (fun p q wx => ∃ g, p = .pointer (some ⟨g, 0, none⟩) ∧ q = .bool (mx.okM x0 x1) ∧ w.heap.size + 2 ≤ g ∧ Hid (Arr wx w.heap.size (V (mx.ents x0)) 42) ∧ Hid (Arr wx (w.heap.size + 1) (V (mx.ents x1)) 42) ∧ Hid (Arr wx g (V (mx.ents (mx.tmF x0 x1))) 43) ∧ g1 < g ∧ Hid (Arr wx g1 (V (mx.ents (mx.tmF x0 x1))) 43) ∧ Hid (Below w.heap.size w wx))
    case first =>
      refine wp_region_held_drew (S := Hld w3.heap.size w3.heap.size w3 [(w.heap.size, V (mx.ents x0)), (w.heap.size + 1, V (mx.ents x1))]) (by kernel_rfl) (Hld.start2 A0.out A1.out) (fun hHeld => ?_)
      have b1 : Below w3.heap.size w3 w3.drew := ⟨rfl, rfl, rfl, Nat.le_refl _, fun _ _ => rfl⟩
      generalize w3.drew = w3a at *
      have sw3 := b1.size
      replace A0 := Lib.hid (A0.out.keep b1 A0.out.lt)
      replace A1 := Lib.hid (A1.out.keep b1 A1.out.lt)
      replace G1 := Lib.hid (G1.out.keep b1 G1.out.lt)
      replace B1 := Lib.hid (B1.out.trans (b1.mono B1.out.size))
      clear b1
      refine wpAnyH_take (i := 0) (v := mx.mv x0) rfl (by kernel_rfl) (by kernel_rfl) (by kernel_rfl) (fun _ _ _ h => h) (yieldsIf_load_mid (by rfl) _ _ rfl (w.heap.size) 0 rfl (V (mx.ents x0)) _ (fun w h => h.fst) Try.underlying42 rfl (mx.sizeT x0)) hHeld ?_
      refine wpAnyH_take (i := 2) (v := mx.mv x1) rfl (by kernel_rfl) (by kernel_rfl) (by kernel_rfl) (fun _ _ _ h => h) (yieldsIf_load_mid (by rfl) _ _ rfl (w.heap.size + 1) 0 rfl (V (mx.ents x1)) _ (fun w h => h.snd) Try.underlying42 rfl (mx.sizeT x1)) hHeld ?_
      refine wpAnyH_ready (rs := [1, 8]) (by kernel_rfl) (by simp) (AllReadyH.cons rfl (fun K hK => ?_) (AllReadyH.cons rfl (fun K hK => ?_) AllReadyH.nil))
      · go_simp
        refine (mx.toM_any x0 _).mono ?_
        rintro e v1 ⟨rfl, b1⟩
        have sv1 := b1.size
        replace A0 := Lib.hid (A0.out.keep b1 A0.out.lt)
        replace A1 := Lib.hid (A1.out.keep b1 A1.out.lt)
        replace G1 := Lib.hid (G1.out.keep b1 G1.out.lt)
        replace B1 := Lib.hid (B1.out.trans (b1.mono B1.out.size))
        go_wp2_with fail
        have hHeld2 := hHeld.later b1 (by omega); clear b1 hHeld
        refine hK.out _ _ hHeld2 (fun hHeld => ?_)
        clear hK K hHeld2
        refine wpAnyH_ready (rs := [3, 8]) (by kernel_rfl) (by simp) (AllReadyH.cons rfl (fun K hK => ?_) (AllReadyH.cons rfl (fun K hK => ?_) AllReadyH.nil))
        · go_simp
          refine (mx.toM_any x1 _).mono ?_
          rintro e v2 ⟨rfl, b1⟩
          have sv2 := b1.size
          replace A0 := Lib.hid (A0.out.keep b1 A0.out.lt)
          replace A1 := Lib.hid (A1.out.keep b1 A1.out.lt)
          replace G1 := Lib.hid (G1.out.keep b1 G1.out.lt)
          replace B1 := Lib.hid (B1.out.trans (b1.mono B1.out.size))
          go_wp2_with fail
          have hHeld2 := hHeld.later b1 (by omega); clear b1 hHeld
          refine hK.out _ _ hHeld2 (fun hHeld => ?_)
          clear hK K hHeld2
          refine wpAnyH_ready (rs := [4, 8]) (by kernel_rfl) (by simp) (AllReadyH.cons rfl (fun K hK => ?_) (AllReadyH.cons rfl (fun K hK => ?_) AllReadyH.nil))
          · go_simp
            refine (mx.tm_impl x0 x1 _ HM.out HN.out).mono ?_
            rintro e v3 ⟨rfl, b1⟩
            have sv3 := b1.size
            replace A0 := Lib.hid (A0.out.keep b1 A0.out.lt)
            replace A1 := Lib.hid (A1.out.keep b1 A1.out.lt)
            replace G1 := Lib.hid (G1.out.keep b1 G1.out.lt)
            replace B1 := Lib.hid (B1.out.trans (b1.mono B1.out.size))
            go_wp2_with fail
            have hHeld2 := hHeld.later b1 (by omega); clear b1 hHeld
            refine hK.out _ _ hHeld2 (fun hHeld => ?_)
            clear hK K hHeld2
            refine wpAnyH_take (i := 5) (v := .tuple #[mx.mv (mx.tmF x0 x1), .bool (mx.okM x0 x1)]) rfl (by kernel_rfl) (by kernel_rfl) (by kernel_rfl) (fun _ _ _ h => h) (Or.inl ⟨by kernel_rfl, fun w hSw => by go_simp⟩) hHeld ?_
            refine wpAnyH_take (i := 6) (v := mx.mv (mx.tmF x0 x1)) rfl (by kernel_rfl) (by kernel_rfl) (by kernel_rfl) (fun _ _ _ h => h) (Or.inl ⟨by kernel_rfl, fun w hSw => by go_simp⟩) hHeld ?_
            refine wpAnyH_take (i := 7) (v := .bool (mx.okM x0 x1)) rfl (by kernel_rfl) (by kernel_rfl) (by kernel_rfl) (fun _ _ _ h => h) (Or.inl ⟨by kernel_rfl, fun w hSw => by go_simp⟩) hHeld ?_
            refine wpAnyH_ready (rs := [8]) (by kernel_rfl) (by simp) (AllReadyH.cons rfl (fun K hK => ?_) AllReadyH.nil)
            go_simp
            generalize hwa : v3.alloc (.cells #[.int .i64 0, .int .i64 0, .int .i64 0, .int .i64 0] 43) = v4
            have b1 : Below v3.heap.size v3 v4 := by rw [← hwa]; exact (Below.refl _ _).alloc (Nat.le_refl _) _
            have AL : Hid (Arr v4 v3.heap.size (V (mx.ents mx.zM)) 43) := Lib.hid (by rw [← hwa]; exact Arr.new _ _ _ rfl)
            have sv4 : v3.heap.size + 1 ≤ v4.heap.size := by rw [← hwa]; simp
            clear hwa
            replace A0 := Lib.hid (A0.out.keep b1 A0.out.lt)
            replace A1 := Lib.hid (A1.out.keep b1 A1.out.lt)
            replace G1 := Lib.hid (G1.out.keep b1 G1.out.lt)
            replace B1 := Lib.hid (B1.out.trans (b1.mono B1.out.size))
            have hHeld2 := hHeld.later b1 (by omega); clear b1 hHeld
            refine hK.out _ _ hHeld2 (fun hHeld => ?_)
            clear hK K hHeld2
            refine wpAnyH_ready (rs := [9]) (by kernel_rfl) (by simp) (AllReadyH.cons rfl (fun K hK => ?_) AllReadyH.nil)
            refine step_store_row rfl 43 _ _ rfl (v3.heap.size) #[.int .i64 (mx.tmF x0 x1).1, .int .i64 (mx.tmF x0 x1).2.1, .int .i64 (mx.tmF x0 x1).2.2.1, .int .i64 (mx.tmF x0 x1).2.2.2] rfl rfl 43 #[.int .i64 mx.zM.1, .int .i64 mx.zM.2.1, .int .i64 mx.zM.2.2.1, .int .i64 mx.zM.2.2.2] AL.out (mx.sizeM _) rfl (by simp [Value.oneCell']) ?_
            change K (Act.put _ none _) _
            simp only [Act.put]
            refine hK.out _ _ (hHeld.other (by omega) (by simp; omega) _) (fun hHeld2 => ?_)
            clear hK K hHeld
            refine wpAnyH_take (i := 10) (v := .bool (mx.okM x0 x1)) rfl (by kernel_rfl) (by kernel_rfl) (by kernel_rfl) (fun _ _ _ h => h) (Or.inl ⟨by kernel_rfl, fun w hSw => by go_simp⟩) hHeld2 ?_
            refine wpAnyH_done (by kernel_rfl) ?_ _
            clear hHeld2
            go_wp2_with fail
            go_meet
            exact ⟨_, rfl, rfl, by omega, Lib.hid (A0.out.rowOther (by omega)), Lib.hid (A1.out.rowOther (by omega)), Lib.hid AL.out.row, by omega, Lib.hid (G1.out.rowOther (by omega)), Lib.hid (below_setRow B1.out (by omega) _)⟩
          · go_simp
            generalize hwa : v2.alloc (.cells #[.int .i64 0, .int .i64 0, .int .i64 0, .int .i64 0] 43) = v3
            have b1 : Below v2.heap.size v2 v3 := by rw [← hwa]; exact (Below.refl _ _).alloc (Nat.le_refl _) _
            have AL : Hid (Arr v3 v2.heap.size (V (mx.ents mx.zM)) 43) := Lib.hid (by rw [← hwa]; exact Arr.new _ _ _ rfl)
            have sv3 : v2.heap.size + 1 ≤ v3.heap.size := by rw [← hwa]; simp
            clear hwa
            replace A0 := Lib.hid (A0.out.keep b1 A0.out.lt)
            replace A1 := Lib.hid (A1.out.keep b1 A1.out.lt)
            replace G1 := Lib.hid (G1.out.keep b1 G1.out.lt)
            replace B1 := Lib.hid (B1.out.trans (b1.mono B1.out.size))
            have hHeld2 := hHeld.later b1 (by omega); clear b1 hHeld
            refine hK.out _ _ hHeld2 (fun hHeld => ?_)
            clear hK K hHeld2
            refine wpAnyH_ready (rs := [4]) (by kernel_rfl) (by simp) (AllReadyH.cons rfl (fun K hK => ?_) AllReadyH.nil)
            go_simp
            refine (mx.tm_impl x0 x1 _ HM.out HN.out).mono ?_
            rintro e v4 ⟨rfl, b1⟩
            have sv4 := b1.size
            replace A0 := Lib.hid (A0.out.keep b1 A0.out.lt)
            replace A1 := Lib.hid (A1.out.keep b1 A1.out.lt)
            replace G1 := Lib.hid (G1.out.keep b1 G1.out.lt)
            replace AL := Lib.hid (AL.out.keep b1 AL.out.lt)
            replace B1 := Lib.hid (B1.out.trans (b1.mono B1.out.size))
            go_wp2_with fail
            have hHeld2 := hHeld.later b1 (by omega); clear b1 hHeld
            refine hK.out _ _ hHeld2 (fun hHeld => ?_)
            clear hK K hHeld2
            refine wpAnyH_take (i := 5) (v := .tuple #[mx.mv (mx.tmF x0 x1), .bool (mx.okM x0 x1)]) rfl (by kernel_rfl) (by kernel_rfl) (by kernel_rfl) (fun _ _ _ h => h) (Or.inl ⟨by kernel_rfl, fun w hSw => by go_simp⟩) hHeld ?_
            refine wpAnyH_take (i := 6) (v := mx.mv (mx.tmF x0 x1)) rfl (by kernel_rfl) (by kernel_rfl) (by kernel_rfl) (fun _ _ _ h => h) (Or.inl ⟨by kernel_rfl, fun w hSw => by go_simp⟩) hHeld ?_
            refine wpAnyH_take (i := 7) (v := .bool (mx.okM x0 x1)) rfl (by kernel_rfl) (by kernel_rfl) (by kernel_rfl) (fun _ _ _ h => h) (Or.inl ⟨by kernel_rfl, fun w hSw => by go_simp⟩) hHeld ?_
            refine wpAnyH_ready (rs := [9]) (by kernel_rfl) (by simp) (AllReadyH.cons rfl (fun K hK => ?_) AllReadyH.nil)
            refine step_store_row rfl 43 _ _ rfl (v2.heap.size) #[.int .i64 (mx.tmF x0 x1).1, .int .i64 (mx.tmF x0 x1).2.1, .int .i64 (mx.tmF x0 x1).2.2.1, .int .i64 (mx.tmF x0 x1).2.2.2] rfl rfl 43 #[.int .i64 mx.zM.1, .int .i64 mx.zM.2.1, .int .i64 mx.zM.2.2.1, .int .i64 mx.zM.2.2.2] AL.out (mx.sizeM _) rfl (by simp [Value.oneCell']) ?_
            change K (Act.put (Act.put (Act.put (Act.put _ (some 17) _) (some 23) _) (some 24) _) none _) _
            simp only [Act.put, List.setIfInBounds_toArray, List.set_cons_zero, List.set_cons_succ]
            refine hK.out _ _ (hHeld.other (by omega) (by simp; omega) _) (fun hHeld2 => ?_)
            clear hK K hHeld
            refine wpAnyH_take (i := 10) (v := .bool (mx.okM x0 x1)) rfl (by kernel_rfl) (by kernel_rfl) (by kernel_rfl) (fun _ _ _ h => h) (Or.inl ⟨by kernel_rfl, fun w hSw => by go_simp⟩) hHeld2 ?_
            refine wpAnyH_done (by kernel_rfl) ?_ _
            clear hHeld2
            go_wp2_with fail
            go_meet
            exact ⟨_, rfl, rfl, by omega, Lib.hid (A0.out.rowOther (by omega)), Lib.hid (A1.out.rowOther (by omega)), Lib.hid AL.out.row, by omega, Lib.hid (G1.out.rowOther (by omega)), Lib.hid (below_setRow B1.out (by omega) _)⟩
        · go_simp
          generalize hwa : v1.alloc (.cells #[.int .i64 0, .int .i64 0, .int .i64 0, .int .i64 0] 43) = v2
          have b1 : Below v1.heap.size v1 v2 := by rw [← hwa]; exact (Below.refl _ _).alloc (Nat.le_refl _) _
          have AL : Hid (Arr v2 v1.heap.size (V (mx.ents mx.zM)) 43) := Lib.hid (by rw [← hwa]; exact Arr.new _ _ _ rfl)
          have sv2 : v1.heap.size + 1 ≤ v2.heap.size := by rw [← hwa]; simp
          clear hwa
          replace A0 := Lib.hid (A0.out.keep b1 A0.out.lt)
          replace A1 := Lib.hid (A1.out.keep b1 A1.out.lt)
          replace G1 := Lib.hid (G1.out.keep b1 G1.out.lt)
          replace B1 := Lib.hid (B1.out.trans (b1.mono B1.out.size))
          have hHeld2 := hHeld.later b1 (by omega); clear b1 hHeld
          refine hK.out _ _ hHeld2 (fun hHeld => ?_)
          clear hK K hHeld2
          refine wpAnyH_ready (rs := [3]) (by kernel_rfl) (by simp) (AllReadyH.cons rfl (fun K hK => ?_) AllReadyH.nil)
          go_simp
          refine (mx.toM_any x1 _).mono ?_
          rintro e v3 ⟨rfl, b1⟩
          have sv3 := b1.size
          replace A0 := Lib.hid (A0.out.keep b1 A0.out.lt)
          replace A1 := Lib.hid (A1.out.keep b1 A1.out.lt)
          replace G1 := Lib.hid (G1.out.keep b1 G1.out.lt)
          replace AL := Lib.hid (AL.out.keep b1 AL.out.lt)
          replace B1 := Lib.hid (B1.out.trans (b1.mono B1.out.size))
          go_wp2_with fail
          have hHeld2 := hHeld.later b1 (by omega); clear b1 hHeld
          refine hK.out _ _ hHeld2 (fun hHeld => ?_)
          clear hK K hHeld2
          refine wpAnyH_ready (rs := [4]) (by kernel_rfl) (by simp) (AllReadyH.cons rfl (fun K hK => ?_) AllReadyH.nil)
          go_simp
          refine (mx.tm_impl x0 x1 _ HM.out HN.out).mono ?_
          rintro e v4 ⟨rfl, b1⟩
          have sv4 := b1.size
          replace A0 := Lib.hid (A0.out.keep b1 A0.out.lt)
          replace A1 := Lib.hid (A1.out.keep b1 A1.out.lt)
          replace G1 := Lib.hid (G1.out.keep b1 G1.out.lt)
          replace AL := Lib.hid (AL.out.keep b1 AL.out.lt)
          replace B1 := Lib.hid (B1.out.trans (b1.mono B1.out.size))
          go_wp2_with fail
          have hHeld2 := hHeld.later b1 (by omega); clear b1 hHeld
          refine hK.out _ _ hHeld2 (fun hHeld => ?_)
          clear hK K hHeld2
          refine wpAnyH_take (i := 5) (v := .tuple #[mx.mv (mx.tmF x0 x1), .bool (mx.okM x0 x1)]) rfl (by kernel_rfl) (by kernel_rfl) (by kernel_rfl) (fun _ _ _ h => h) (Or.inl ⟨by kernel_rfl, fun w hSw => by go_simp⟩) hHeld ?_
          refine wpAnyH_take (i := 6) (v := mx.mv (mx.tmF x0 x1)) rfl (by kernel_rfl) (by kernel_rfl) (by kernel_rfl) (fun _ _ _ h => h) (Or.inl ⟨by kernel_rfl, fun w hSw => by go_simp⟩) hHeld ?_
          refine wpAnyH_take (i := 7) (v := .bool (mx.okM x0 x1)) rfl (by kernel_rfl) (by kernel_rfl) (by kernel_rfl) (fun _ _ _ h => h) (Or.inl ⟨by kernel_rfl, fun w hSw => by go_simp⟩) hHeld ?_
          refine wpAnyH_ready (rs := [9]) (by kernel_rfl) (by simp) (AllReadyH.cons rfl (fun K hK => ?_) AllReadyH.nil)
          refine step_store_row rfl 43 _ _ rfl (v1.heap.size) #[.int .i64 (mx.tmF x0 x1).1, .int .i64 (mx.tmF x0 x1).2.1, .int .i64 (mx.tmF x0 x1).2.2.1, .int .i64 (mx.tmF x0 x1).2.2.2] rfl rfl 43 #[.int .i64 mx.zM.1, .int .i64 mx.zM.2.1, .int .i64 mx.zM.2.2.1, .int .i64 mx.zM.2.2.2] AL.out (mx.sizeM _) rfl (by simp [Value.oneCell']) ?_
          change K (Act.put (Act.put (Act.put (Act.put _ (some 17) _) (some 23) _) (some 24) _) none _) _
          simp only [Act.put, List.setIfInBounds_toArray, List.set_cons_zero, List.set_cons_succ]
          refine hK.out _ _ (hHeld.other (by omega) (by simp; omega) _) (fun hHeld2 => ?_)
          clear hK K hHeld
          refine wpAnyH_take (i := 10) (v := .bool (mx.okM x0 x1)) rfl (by kernel_rfl) (by kernel_rfl) (by kernel_rfl) (fun _ _ _ h => h) (Or.inl ⟨by kernel_rfl, fun w hSw => by go_simp⟩) hHeld2 ?_
          refine wpAnyH_done (by kernel_rfl) ?_ _
          clear hHeld2
          go_wp2_with fail
          go_meet
          exact ⟨_, rfl, rfl, by omega, Lib.hid (A0.out.rowOther (by omega)), Lib.hid (A1.out.rowOther (by omega)), Lib.hid AL.out.row, by omega, Lib.hid (G1.out.rowOther (by omega)), Lib.hid (below_setRow B1.out (by omega) _)⟩
      · go_simp
        generalize hwa : w3a.alloc (.cells #[.int .i64 0, .int .i64 0, .int .i64 0, .int .i64 0] 43) = v1
        have b1 : Below w3a.heap.size w3a v1 := by rw [← hwa]; exact (Below.refl _ _).alloc (Nat.le_refl _) _
        have AL : Hid (Arr v1 w3a.heap.size (V (mx.ents mx.zM)) 43) := Lib.hid (by rw [← hwa]; exact Arr.new _ _ _ rfl)
        have sv1 : w3a.heap.size + 1 ≤ v1.heap.size := by rw [← hwa]; simp
        clear hwa
        replace A0 := Lib.hid (A0.out.keep b1 A0.out.lt)
        replace A1 := Lib.hid (A1.out.keep b1 A1.out.lt)
        replace G1 := Lib.hid (G1.out.keep b1 G1.out.lt)
        replace B1 := Lib.hid (B1.out.trans (b1.mono B1.out.size))
        have hHeld2 := hHeld.later b1 (by omega); clear b1 hHeld
        refine hK.out _ _ hHeld2 (fun hHeld => ?_)
        clear hK K hHeld2
        refine wpAnyH_ready (rs := [1]) (by kernel_rfl) (by simp) (AllReadyH.cons rfl (fun K hK => ?_) AllReadyH.nil)
        go_simp
        refine (mx.toM_any x0 _).mono ?_
        rintro e v2 ⟨rfl, b1⟩
        have sv2 := b1.size
        replace A0 := Lib.hid (A0.out.keep b1 A0.out.lt)
        replace A1 := Lib.hid (A1.out.keep b1 A1.out.lt)
        replace G1 := Lib.hid (G1.out.keep b1 G1.out.lt)
        replace AL := Lib.hid (AL.out.keep b1 AL.out.lt)
        replace B1 := Lib.hid (B1.out.trans (b1.mono B1.out.size))
        go_wp2_with fail
        have hHeld2 := hHeld.later b1 (by omega); clear b1 hHeld
        refine hK.out _ _ hHeld2 (fun hHeld => ?_)
        clear hK K hHeld2
        refine wpAnyH_ready (rs := [3]) (by kernel_rfl) (by simp) (AllReadyH.cons rfl (fun K hK => ?_) AllReadyH.nil)
        go_simp
        refine (mx.toM_any x1 _).mono ?_
        rintro e v3 ⟨rfl, b1⟩
        have sv3 := b1.size
        replace A0 := Lib.hid (A0.out.keep b1 A0.out.lt)
        replace A1 := Lib.hid (A1.out.keep b1 A1.out.lt)
        replace G1 := Lib.hid (G1.out.keep b1 G1.out.lt)
        replace AL := Lib.hid (AL.out.keep b1 AL.out.lt)
        replace B1 := Lib.hid (B1.out.trans (b1.mono B1.out.size))
        go_wp2_with fail
        have hHeld2 := hHeld.later b1 (by omega); clear b1 hHeld
        refine hK.out _ _ hHeld2 (fun hHeld => ?_)
        clear hK K hHeld2
        refine wpAnyH_ready (rs := [4]) (by kernel_rfl) (by simp) (AllReadyH.cons rfl (fun K hK => ?_) AllReadyH.nil)
        go_simp
        refine (mx.tm_impl x0 x1 _ HM.out HN.out).mono ?_
        rintro e v4 ⟨rfl, b1⟩
        have sv4 := b1.size
        replace A0 := Lib.hid (A0.out.keep b1 A0.out.lt)
        replace A1 := Lib.hid (A1.out.keep b1 A1.out.lt)
        replace G1 := Lib.hid (G1.out.keep b1 G1.out.lt)
        replace AL := Lib.hid (AL.out.keep b1 AL.out.lt)
        replace B1 := Lib.hid (B1.out.trans (b1.mono B1.out.size))
        go_wp2_with fail
        have hHeld2 := hHeld.later b1 (by omega); clear b1 hHeld
        refine hK.out _ _ hHeld2 (fun hHeld => ?_)
        clear hK K hHeld2
        refine wpAnyH_take (i := 5) (v := .tuple #[mx.mv (mx.tmF x0 x1), .bool (mx.okM x0 x1)]) rfl (by kernel_rfl) (by kernel_rfl) (by kernel_rfl) (fun _ _ _ h => h) (Or.inl ⟨by kernel_rfl, fun w hSw => by go_simp⟩) hHeld ?_
        refine wpAnyH_take (i := 6) (v := mx.mv (mx.tmF x0 x1)) rfl (by kernel_rfl) (by kernel_rfl) (by kernel_rfl) (fun _ _ _ h => h) (Or.inl ⟨by kernel_rfl, fun w hSw => by go_simp⟩) hHeld ?_
        refine wpAnyH_take (i := 7) (v := .bool (mx.okM x0 x1)) rfl (by kernel_rfl) (by kernel_rfl) (by kernel_rfl) (fun _ _ _ h => h) (Or.inl ⟨by kernel_rfl, fun w hSw => by go_simp⟩) hHeld ?_
        refine wpAnyH_ready (rs := [9]) (by kernel_rfl) (by simp) (AllReadyH.cons rfl (fun K hK => ?_) AllReadyH.nil)
        refine step_store_row rfl 43 _ _ rfl (w3a.heap.size) #[.int .i64 (mx.tmF x0 x1).1, .int .i64 (mx.tmF x0 x1).2.1, .int .i64 (mx.tmF x0 x1).2.2.1, .int .i64 (mx.tmF x0 x1).2.2.2] rfl rfl 43 #[.int .i64 mx.zM.1, .int .i64 mx.zM.2.1, .int .i64 mx.zM.2.2.1, .int .i64 mx.zM.2.2.2] AL.out (mx.sizeM _) rfl (by simp [Value.oneCell']) ?_
        change K (Act.put (Act.put (Act.put (Act.put _ (some 17) _) (some 23) _) (some 24) _) none _) _
        simp only [Act.put, List.setIfInBounds_toArray, List.set_cons_zero, List.set_cons_succ]
        refine hK.out _ _ (hHeld.other (by omega) (by simp; omega) _) (fun hHeld2 => ?_)
        clear hK K hHeld
        refine wpAnyH_take (i := 10) (v := .bool (mx.okM x0 x1)) rfl (by kernel_rfl) (by kernel_rfl) (by kernel_rfl) (fun _ _ _ h => h) (Or.inl ⟨by kernel_rfl, fun w hSw => by go_simp⟩) hHeld2 ?_
        refine wpAnyH_done (by kernel_rfl) ?_ _
        clear hHeld2
        go_wp2_with fail
        go_meet
        exact ⟨_, rfl, rfl, by omega, Lib.hid (A0.out.rowOther (by omega)), Lib.hid (A1.out.rowOther (by omega)), Lib.hid AL.out.row, by omega, Lib.hid (G1.out.rowOther (by omega)), Lib.hid (below_setRow B1.out (by omega) _)⟩
    case rest =>
      clear A0 A1 B1 G1 s3
      obtain ⟨g2, rfl, rfl, hg2, A0, A1, G2, hgg, G1, B1⟩ := hcut
      have c10 := G1.out.cell (k := 0) rfl; have c11 := G1.out.cell (k := 1) rfl; have c12 := G1.out.cell (k := 2) rfl; have c13 := G1.out.cell (k := 3) rfl
      have c20 := G2.out.cell (k := 0) rfl; have c21 := G2.out.cell (k := 1) rfl; have c22 := G2.out.cell (k := 2) rfl; have c23 := G2.out.cell (k := 3) rfl
      have hqq : (mx.okM x0 x1 != mx.okM x0 x1) = false := by simp
      clear A0 A1 HM HN
      go_wp2_with fail
      refine (mx.eqM_any (mx.tmF x0 x1) _).mono ?_
      rintro e w9 ⟨rfl, b1⟩
      replace B1 := Lib.hid (B1.out.trans (b1.mono B1.out.size))
      clear b1 c10 c11 c12 c13 c20 c21 c22 c23
      go_wp2_with fail
      go_ret
      exact ⟨rfl, B1.out⟩

set_option maxRecDepth 100000 in
theorem lifted (os : Os) (started : os.Started) (H : Type) (enc : TypeId × Value → H) :
    ReturnsInHanded {} Try.checked os 11 .any (Rows.fnExactTimesMatrixSpec.pre6 enc Try.prog Try.f11 Rows.fnExactTimesMatrixRow.domain false) (Rows.fnExactTimesMatrixSpec.post enc Try.prog Try.f11 false true false false) := by
  refine returnsInHanded_of_change (C := Try.checked) own started (by kernel_rfl) Try.func11
    (ChangeSpec.witness6 (enc := enc) (C := Try.checked) false ⟨#[], #[.agg #[.int .i64 0, .int .i64 0, .int .i64 0, .int .i64 0], .agg #[.int .i64 0, .int .i64 0, .int .i64 0, .int .i64 0]], []⟩ 8 (by kernel_rfl) (by kernel_rfl) (by kernel_rfl) (by kernel_rfl)) ?_
  intro W base args ds gs before hval0 hW hcnd _
  have hval : ∀ (j : Nat) t v, Try.f11.params[j]? = some t → args[j]? = some v → Value.okWide Try.prog W .any base t v := hval0
  have hW' := hW
  obtain ⟨p, q, hA0, hV, rfl, hfz, hnd⟩ := hW
  have hA : DataW.TrodAll enc Try.prog W 0 (fun _ => true) true Try.f11.params.toList args.toList ds p := hA0
  rw [Try.params11] at hA hval
  obtain ⟨v0, vs0, d0, ds0, p0, q0, hargs, rfl, rfl, h0, r0⟩ := trodAll_cons hA
  obtain ⟨v1, vs1, d1, ds1, p1, q1, rfl, rfl, rfl, h1, r1⟩ := trodAll_cons r0
  obtain ⟨rfl, rfl, rfl⟩ := trodAll_nil r1
  obtain rfl : args = #[v0, v1] := by cases args; simp_all
  obtain ⟨rfl, rfl⟩ := trodVars_none hV
  have lt0 : ∀ x ∈ p0, x.block < W.heap.size := by obtain ⟨m, hm⟩ := h0; exact DataW.trod_lt m _ _ _ hm
  obtain ⟨x0, rfl, lx0⟩ := mx.open_M Try.underlying42 (by kernel_rfl) (by kernel_rfl) Try.underlying3 Try.underlying3 Try.underlying3 Try.underlying3 (hval 0 42 v0 rfl rfl) h0
  have lt1 : ∀ x ∈ p1, x.block < W.heap.size := by obtain ⟨m, hm⟩ := h1; exact DataW.trod_lt m _ _ _ hm
  obtain ⟨x1, rfl, lx1⟩ := mx.open_M Try.underlying42 (by kernel_rfl) (by kernel_rfl) Try.underlying3 Try.underlying3 Try.underlying3 Try.underlying3 (hval 1 42 v1 rfl rfl) h1
  clear hA0 hval0
  refine (walk (w := W) x0 x1 lx0 lx1).mono fun e W' ⟨he, bel⟩ => ?_
  subst he
  exact ⟨_, rfl, _, _, _, [], _, [], hW', trodAll_mk1 (shut_bool Try.underlying4 _), (trodAll_cons_mk (Below.trod laidOut (by kernel_rfl) (of_decide_eq_true (by kernel_rfl)) h0 bel lt0) (trodAll_cons_mk (Below.trod laidOut (by kernel_rfl) (of_decide_eq_true (by kernel_rfl)) h1 bel lt1) trodAll_mk0)), rfl, bel.frame _, fun h => by cases h⟩

theorem over : Rows.fnExactTimesMatrixRow.holds Try.pinned (OpenSpec.ofChange Rows.fnExactTimesMatrixSpec) :=
  OpenClaim.holds_of_wide 11 Try.f11 rfl rfl rfl rfl rfl rfl rfl ⟨rfl, rfl, rfl, rfl, rfl⟩ rfl rfl rfl rfl rfl (by kernel_rfl) Try.func11 (by kernel_rfl)
    (of_decide_eq_true (by kernel_rfl)) (by unfold Func.isWrapper; first | (rw [if_pos (by decide +kernel)]; kernel_rfl) | (rw [if_neg (by decide +kernel)]; exact ⟨rfl, rfl⟩))
    (fun os started H enc _ => lifted os started H enc)

theorem proved : Rows.FnExactTimesMatrixSaid :=
  over
#print axioms proved
end Go.Proofs.Ytdoohnphgembdaa.fnExactTimesMatrix
