import Derived.Test.YtpmojmhamgcfmaaY20
import Derived.Test.YtpmojmhamgcfmaaY13
import Derived.Deep.CutRange
/-
  TurnsOf: contract of the program's function.
-/
namespace Go.Proofs.Ytpmojmhamgcfmaa.ht
open Go.ChangeShapes Go.WideShapes Go.ChangeAt Go.RowKit
open Go.Proofs.Ytpmojmhamgcfmaa.mem Go.Proofs.Ytpmojmhamgcfmaa.ints Go.Proofs.Ytpmojmhamgcfmaa.arr Go.Proofs.Ytpmojmhamgcfmaa.pm Go.Proofs.Ytpmojmhamgcfmaa.permOk Go.Proofs.Ytpmojmhamgcfmaa.permOf Go.Proofs.Ytpmojmhamgcfmaa.inv Go.Proofs.Ytpmojmhamgcfmaa.fns Go.Proofs.Ytpmojmhamgcfmaa.sf Go.Proofs.Ytpmojmhamgcfmaa.gl Go.Proofs.Ytpmojmhamgcfmaa.mat Go.Proofs.Ytpmojmhamgcfmaa.la
set_option linter.unusedVariables false
set_option maxRecDepth 100000

/-- Behind the boxes, the rows that grow. -/
structure Tg (w wr : World) (v : Value) (xss : List (List Int)) : Prop where
  below : Below w.heap.size w wr
  mg : Mg wr w.heap.size w.heap.size 0 v xss
set_option maxHeartbeats 8000000 in
theorem tu_impl (v : Value) (r u : List Int) (hi : Nat) (w : World) (hx : Srd w hi v r u) (hn : r.length ≤ 1048576) (hm : u.length ≤ 1048576) :
    Calls Try.prog 17 #[v] w (MGives (tuF r u) w) := by
  have HX := Lib.hid hx; clear hx
  obtain ⟨P, n, c, Q, m, d, rfl, q1, q2, e1, e2, ht, HR⟩ := HX.out.open
  obtain ⟨i0, hi0, hz0, hz1, hz2⟩ := info_parts infoII
  have L1 := Lib.hid q1
  clear HR
  go_enter Try.func17, Try.ntmps17
  go_wp2_with fail
  refine (gluingOf_any _ r u hi _ (HX.out.keep ((Below.refl hi w).alloc ht _) (Nat.le_refl _)) hn hm).mono ?_
  rintro e w1 ⟨rfl, b1⟩
  have s1 : w.heap.size + 1 ≤ w1.heap.size := by have := b1.size; simpa using this
  have B1 := Lib.hid (below1 _ _ b1); clear b1
  cases hq : transB r u
  · have HF := Lib.hid (tuF_no hq); clear hq
    go_wp2_with (refine wpList_store_row rfl 63 _ _ rfl w1.heap.size (V (glv r u)).toArray rfl rfl 63 (V zero49).toArray (Arr.new w1 (V zero49) _ rfl) (size49 (glv_len _ _)) (by simp [V_len, glv_len, zero49]) (one_V _) ?_; generalize hw_ : (w1.alloc (.cells #[.int .i64 0, .int .i64 0, .int .i64 0, .int .i64 0, .int .i64 0, .int .i64 0, .int .i64 0, .int .i64 0, .int .i64 0, .int .i64 0, .int .i64 0, .int .i64 0, .int .i64 0, .int .i64 0, .int .i64 0, .int .i64 0, .int .i64 0, .int .i64 0, .int .i64 0, .int .i64 0, .int .i64 0, .int .i64 0, .int .i64 0, .int .i64 0, .int .i64 0, .int .i64 0, .int .i64 0, .int .i64 0, .int .i64 0, .int .i64 0, .int .i64 0, .int .i64 0, .int .i64 0, .int .i64 0, .int .i64 0, .int .i64 0, .int .i64 0, .int .i64 0, .int .i64 0, .int .i64 0, .int .i64 0, .int .i64 0, .int .i64 0, .int .i64 0, .int .i64 0, .int .i64 0, .int .i64 0, .int .i64 0, .int .i64 0] 63)).setRow w1.heap.size (V (glv r u)).toArray = w2; have A2 : Hid (Arr w2 w1.heap.size (V (glv r u)) 63) := Lib.hid (by rw [← hw_]; exact (Arr.new w1 (V zero49) _ rfl).row); have b1 : Below w1.heap.size w1 w2 := (by rw [← hw_]; exact arr.below_setRow ((Below.refl _ _).alloc (Nat.le_refl _) _) (Nat.le_refl _) _); have t_w2 : w1.heap.size + 1 ≤ w2.heap.size := (by rw [← hw_]; simp); clear hw_; replace B1 := Lib.hid (B1.out.trans (b1.mono B1.out.size)); clear b1)
    go_ret
    exact mgives_eq HF.out (mgives_nil B1.out)
  · have HS : Hid (Sf n r u) := Lib.hid (by have := transB_iff.1 hq; rwa [L1.out] at this)
    have HF := Lib.hid (tuF_yes hq L1.out)
    have HG : Hid (glv r u = gl (ext r) (ext u) n) := Lib.hid (by rw [glv_yes hq, L1.out])
    have hN24 : n ≤ 24 := by have := HS.out.r.len; rw [HS.out.lr] at this; omega
    have hN0 : 0 < n := HS.out.pos
    have RS := Lib.hid HS.out.r.sq; have US := Lib.hid HS.out.u.sq
    have TS : Hid (Sf n (Inv r) (Inv u)) := Lib.hid (back_sf HS.out)
    have NE : Hid (nmsF (ext r) (ext u) ((0 : Nat) : Int) = ext (nm r u 0)) := Lib.hid (nmsF_eq HS.out (f := ((0 : Nat) : Int)) (by omega) (by omega))
    have NK := Lib.hid (HS.out.nok (f := 0) (by omega) (by omega))
    clear hq
    rw [HG.out]
    go_wp2_with (first | (refine wpList_store_row rfl 63 _ _ rfl w1.heap.size (V (gl (ext r) (ext u) n)).toArray rfl rfl 63 (V zero49).toArray (Arr.new w1 (V zero49) _ rfl) (size49 (gl_len (ext_len _) (ext_len _) n)) (by simp [V_len, gl_len, ext_len, zero49]) (one_V _) ?_; generalize hw_ : (w1.alloc (.cells #[.int .i64 0, .int .i64 0, .int .i64 0, .int .i64 0, .int .i64 0, .int .i64 0, .int .i64 0, .int .i64 0, .int .i64 0, .int .i64 0, .int .i64 0, .int .i64 0, .int .i64 0, .int .i64 0, .int .i64 0, .int .i64 0, .int .i64 0, .int .i64 0, .int .i64 0, .int .i64 0, .int .i64 0, .int .i64 0, .int .i64 0, .int .i64 0, .int .i64 0, .int .i64 0, .int .i64 0, .int .i64 0, .int .i64 0, .int .i64 0, .int .i64 0, .int .i64 0, .int .i64 0, .int .i64 0, .int .i64 0, .int .i64 0, .int .i64 0, .int .i64 0, .int .i64 0, .int .i64 0, .int .i64 0, .int .i64 0, .int .i64 0, .int .i64 0, .int .i64 0, .int .i64 0, .int .i64 0, .int .i64 0, .int .i64 0] 63)).setRow w1.heap.size (V (gl (ext r) (ext u) n)).toArray = w2; have A3 : Hid (Arr w2 w1.heap.size (V (gl (ext r) (ext u) n)) 63) := Lib.hid (by rw [← hw_]; exact (Arr.new w1 (V zero49) _ rfl).row); have b1 : Below w1.heap.size w1 w2 := (by rw [← hw_]; exact arr.below_setRow ((Below.refl _ _).alloc (Nat.le_refl _) _) (Nat.le_refl _) _); have t_w2 : w1.heap.size + 1 ≤ w2.heap.size := (by rw [← hw_]; simp); clear hw_; replace B1 := Lib.hid (B1.out.trans (b1.mono B1.out.size)); clear b1) | (refine wpList_load_row rfl 63 _ rfl w1.heap.size rfl 63 (V (gl (ext r) (ext u) n)).toArray (0, 0) _ A3.out Try.underlying63 rfl (size49 (gl_len (ext_len _) (ext_len _) _)) ?_) | fail)
    refine (names_any (ext r) (ext u) n 0 _ RS.out US.out (by omega)).mono ?_
    rintro e w3 ⟨rfl, b1⟩
    rw [NE.out]
    have s3 := b1.size
    replace A3 := Lib.hid (A3.out.keep b1 A3.out.lt)
    replace B1 := Lib.hid (B1.out.trans (b1.mono B1.out.size))
    clear b1
    go_wp2_with (first | (refine wpList_store_row rfl 61 _ _ rfl w3.heap.size (V (ext (nm r u 0))).toArray rfl rfl 61 (V zeros).toArray (Arr.new w3 (V zeros) _ rfl) (size_V (ext_len _)) (by simp [V_len, ext_len, zeros]) (one_V _) ?_; generalize hw_ : (w3.alloc (.cells #[.int .i64 0, .int .i64 0, .int .i64 0, .int .i64 0, .int .i64 0, .int .i64 0, .int .i64 0, .int .i64 0, .int .i64 0, .int .i64 0, .int .i64 0, .int .i64 0, .int .i64 0, .int .i64 0, .int .i64 0, .int .i64 0, .int .i64 0, .int .i64 0, .int .i64 0, .int .i64 0, .int .i64 0, .int .i64 0, .int .i64 0, .int .i64 0] 61)).setRow w3.heap.size (V (ext (nm r u 0))).toArray = w4; have A5 : Hid (Arr w4 w3.heap.size (V (ext (nm r u 0))) 61) := Lib.hid (by rw [← hw_]; exact (Arr.new w3 (V zeros) _ rfl).row); have b1 : Below w3.heap.size w3 w4 := (by rw [← hw_]; exact arr.below_setRow ((Below.refl _ _).alloc (Nat.le_refl _) _) (Nat.le_refl _) _); have t_w4 : w3.heap.size + 1 ≤ w4.heap.size := (by rw [← hw_]; simp); clear hw_; replace A3 := Lib.hid (A3.out.keep b1 A3.out.lt); replace B1 := Lib.hid (B1.out.trans (b1.mono B1.out.size)); clear b1) | (refine wpList_load_row rfl 63 _ rfl w1.heap.size rfl 63 (V (gl (ext r) (ext u) n)).toArray (0, 0) _ A3.out Try.underlying63 rfl (size49 (gl_len (ext_len _) (ext_len _) _)) ?_) | fail)
    have RD := Lib.hid (rd_two w4 2 2 w4.heap.size rfl)
    have b1 : Below w4.heap.size w4 (w4.alloc (.cells #[.int .i64 2, .int .i64 2] 73)) := (Below.refl _ _).alloc (Nat.le_refl _) _
    have s4 : (w4.alloc (.cells #[.int .i64 2, .int .i64 2] 73)).heap.size = w4.heap.size + 1 := by simp
    replace A3 := Lib.hid (A3.out.keep b1 A3.out.lt)
    replace A5 := Lib.hid (A5.out.keep b1 A5.out.lt)
    replace B1 := Lib.hid (B1.out.trans (b1.mono B1.out.size))
    clear b1
    generalize w4.alloc (.cells #[.int .i64 2, .int .i64 2] 73) = w5 at *
    refine (after_any r u n _ 2 2 [2, 2] (w4.heap.size + 1) _ RD.out (by omega) (by simp) HS.out (by omega)).mono ?_
    rintro e w6 ⟨rfl, b1⟩
    rw [rn_two]
    have s6 := b1.size
    replace A3 := Lib.hid (A3.out.keep b1 A3.out.lt)
    replace A5 := Lib.hid (A5.out.keep b1 A5.out.lt)
    replace B1 := Lib.hid (B1.out.trans (b1.mono B1.out.size))
    clear b1 RD
    go_wp2_with (first | (refine wpList_store_row rfl 63 _ _ rfl w6.heap.size (V (gl (ext (Inv r)) (ext (Inv u)) n)).toArray rfl rfl 63 (V zero49).toArray (Arr.new w6 (V zero49) _ rfl) (size49 (gl_len (ext_len _) (ext_len _) n)) (by simp [V_len, gl_len, ext_len, zero49]) (one_V _) ?_; generalize hw_ : (w6.alloc (.cells #[.int .i64 0, .int .i64 0, .int .i64 0, .int .i64 0, .int .i64 0, .int .i64 0, .int .i64 0, .int .i64 0, .int .i64 0, .int .i64 0, .int .i64 0, .int .i64 0, .int .i64 0, .int .i64 0, .int .i64 0, .int .i64 0, .int .i64 0, .int .i64 0, .int .i64 0, .int .i64 0, .int .i64 0, .int .i64 0, .int .i64 0, .int .i64 0, .int .i64 0, .int .i64 0, .int .i64 0, .int .i64 0, .int .i64 0, .int .i64 0, .int .i64 0, .int .i64 0, .int .i64 0, .int .i64 0, .int .i64 0, .int .i64 0, .int .i64 0, .int .i64 0, .int .i64 0, .int .i64 0, .int .i64 0, .int .i64 0, .int .i64 0, .int .i64 0, .int .i64 0, .int .i64 0, .int .i64 0, .int .i64 0, .int .i64 0] 63)).setRow w6.heap.size (V (gl (ext (Inv r)) (ext (Inv u)) n)).toArray = w7; have A7 : Hid (Arr w7 w6.heap.size (V (gl (ext (Inv r)) (ext (Inv u)) n)) 63) := Lib.hid (by rw [← hw_]; exact (Arr.new w6 (V zero49) _ rfl).row); have b1 : Below w6.heap.size w6 w7 := (by rw [← hw_]; exact arr.below_setRow ((Below.refl _ _).alloc (Nat.le_refl _) _) (Nat.le_refl _) _); have t_w7 : w6.heap.size + 1 ≤ w7.heap.size := (by rw [← hw_]; simp); clear hw_; replace A3 := Lib.hid (A3.out.keep b1 A3.out.lt); replace A5 := Lib.hid (A5.out.keep b1 A5.out.lt); replace B1 := Lib.hid (B1.out.trans (b1.mono B1.out.size)); clear b1; have hct := gl_count (ext_len r) (ext_len u) A3.out) | fail)
    clear hct
    have T0 : Hid (Tg w7 w7 (.slice none 0 0) (tuK r u 0)) := Lib.hid ⟨Below.refl _ _, Mg.nil _ _ _ _⟩
    have tw3 := A3.out.lt
    go_loopw [7, 24] (fun v i wr => ∃ k : Nat, k ≤ n ∧ i = .int .i64 k ∧ Tg w7 wr v (tuK r u k)) (fun _ i _ => n - (intOf i).toNat)
    case atStart => exact ⟨0, Nat.zero_le _, rfl, T0.out⟩
    case round =>
      clear T0
      obtain ⟨k, hk, rfl, hm⟩ := hrel
      obtain ⟨wo, rfl⟩ : ∃ wo : World, wo = wr := ⟨_, rfl⟩
      obtain ⟨C, cc, rfl⟩ := hm.mg.form
      have TR := Lib.hid hm; clear hm
      have hso := TR.out.below.size
      by_cases hlt : k < n
      · have NX := Lib.hid (tuK_succ (u := u) HS.out.lr hlt)
        have IM := Lib.hid (im_ok HS.out (j := (k : Int)) (by omega) (by omega))
        have KL := (tuK_len HS.out k).1
        have TE : Hid (nmsF (ext (Inv r)) (ext (Inv u)) (k : Int) = ext (nm (Inv r) (Inv u) k)) := Lib.hid (nmsF_eq TS.out (f := (k : Int)) (by omega) (by omega))
        have TN := Lib.hid (TS.out.nok (f := (k : Int)) (by omega) (by omega))
        have TI : Hid (invTo 24 (ext (nm (Inv r) (Inv u) k)) 24 = ext (reach (Inv r) (Inv u) k)) := Lib.hid (by rw [inv_ext TN.out.1]; unfold nm; rw [Inv_Inv (TS.out.rok (by omega) (by omega))])
        have TT : Hid (thenL (ext (nm r u 0)) (ext (reach (Inv r) (Inv u) k)) = ext (imF r u k)) := Lib.hid (by rw [thn_ext NK.out.1 (TS.out.rok (by omega) (by omega)) (by rw [NK.out.2, TS.out.flen (by omega) (by omega)])]; rfl)
        have W3 : Hid (Arr wo w1.heap.size (V (gl (ext r) (ext u) n)) 63) := Lib.hid (A3.out.keep TR.out.below A3.out.lt)
        have W5 : Hid (Arr wo w3.heap.size (V (ext (nm r u 0))) 61) := Lib.hid (A5.out.keep TR.out.below A5.out.lt)
        have W7 : Hid (Arr wo w6.heap.size (V (gl (ext (Inv r)) (ext (Inv u)) n)) 63) := Lib.hid (A7.out.keep TR.out.below A7.out.lt)
        have IS : Hid (itB r u (imF r u k) = htB r u (imF r u k)) := Lib.hid (it_yes (transB_iff.2 (by rw [L1.out]; exact HS.out)) IM.out.1.b (by rw [IM.out.2, L1.out]))
        generalize hfk : imF r u (k : Int) = fk at NX IM TT IS
        generalize hK : tuK r u k = xk at *
        have SN := Lib.hid NK.out.1.sq; have SI := Lib.hid TN.out.1.sq; have SR : Hid (Sq (ext (reach (Inv r) (Inv u) k))) := Lib.hid (TS.out.rok (by omega) (by omega)).sq
        have SI1 := Lib.hid TS.out.r.sq; have SI2 := Lib.hid TS.out.u.sq
        clear hfk
        go_wp2_with fail
        go_cut [9] from 27 to 32 (fun p wx => ∃ B9, p = .pointer (some ⟨B9, 0, none⟩) ∧ wo.heap.size ≤ B9 ∧ Hid (Arr wx B9 (V (ext fk)) 61) ∧ Hid (Below wo.heap.size wo wx))
        case first =>
          refine wp_region_held_drew (S := Hld wo.heap.size wo.heap.size wo [(w3.heap.size, V (ext (nm r u 0))), (w6.heap.size, (V (gl (ext (Inv r)) (ext (Inv u)) n)))]) (by kernel_rfl) (Hld.start2 W5.out W7.out) (fun hHeld => ?_)
          have BO : Hid (Below wo.heap.size wo wo.drew) := Lib.hid ⟨rfl, rfl, rfl, Nat.le_refl _, fun _ _ => rfl⟩
          have so := BO.out.size
          generalize wo.drew = wd at *
          refine wpAnyH_take (i := 0) (v := .agg (V (ext (nm r u 0))).toArray) rfl (by kernel_rfl) (by kernel_rfl) (by kernel_rfl) (fun _ _ _ h => h) (yieldsIf_load_mid (by rfl) _ _ rfl w3.heap.size 0 rfl (V (ext (nm r u 0))) _ (fun w h => h.fst) Try.underlying61 rfl (hi24 (ext_len _))) hHeld ?_
          refine wpAnyH_take (i := 1) (v := .agg (V (gl (ext (Inv r)) (ext (Inv u)) n)).toArray) rfl (by kernel_rfl) (by kernel_rfl) (by kernel_rfl) (fun _ _ _ h => h) (yieldsIf_load_mid (by rfl) _ _ rfl w6.heap.size 0 rfl (V (gl (ext (Inv r)) (ext (Inv u)) n)) _ (fun w h => h.snd) Try.underlying63 rfl (hi49 (gl_len (ext_len _) (ext_len _) _))) hHeld ?_
          refine wpAnyH_take (i := 2) (v := .int .i64 (k : Int)) rfl (by kernel_rfl) (by kernel_rfl) (by kernel_rfl) (fun _ _ _ h => h) (Or.inl ⟨by rfl, fun w hSw => by go_simp⟩) hHeld ?_
          refine wpAnyH_ready (rs := [3, 6]) (by kernel_rfl) (by simp) (AllReadyH.cons rfl (fun K hK => ?_) (AllReadyH.cons rfl (fun K hK => ?_) AllReadyH.nil))
          · go_simp
            refine (names_any (ext (Inv r)) (ext (Inv u)) n k _ SI1.out SI2.out (by omega)).mono ?_
            rintro e wn ⟨rfl, b1⟩
            rw [TE.out]
            have sn := b1.size
            replace BO := Lib.hid (BO.out.trans (b1.mono BO.out.size))
            go_wp2_with fail
            have hHeld2 := hHeld.later b1 (by omega); clear b1 hHeld
            refine hK.out _ _ hHeld2 (fun hHeld => ?_)
            clear hK K hHeld2
            refine wpAnyH_ready (rs := [4, 6]) (by kernel_rfl) (by simp) (AllReadyH.cons rfl (fun K hK => ?_) (AllReadyH.cons rfl (fun K hK => ?_) AllReadyH.nil))
            · go_simp
              refine (inverse_any (ext (nm (Inv r) (Inv u) k)) _ SI.out).mono ?_
              rintro e wi ⟨rfl, b1⟩
              rw [TI.out]
              have si := b1.size
              replace BO := Lib.hid (BO.out.trans (b1.mono BO.out.size))
              go_wp2_with fail
              have hHeld2 := hHeld.later b1 (by omega); clear b1 hHeld
              refine hK.out _ _ hHeld2 (fun hHeld => ?_)
              clear hK K hHeld2
              refine wpAnyH_ready (rs := [5, 6]) (by kernel_rfl) (by simp) (AllReadyH.cons rfl (fun K hK => ?_) (AllReadyH.cons rfl (fun K hK => ?_) AllReadyH.nil))
              · go_simp
                refine (inv.then_any (ext (nm r u 0)) (ext (reach (Inv r) (Inv u) k)) _ SN.out SR.out).mono ?_
                rintro e wt ⟨rfl, b1⟩
                rw [TT.out]
                have st := b1.size
                replace BO := Lib.hid (BO.out.trans (b1.mono BO.out.size))
                go_wp2_with fail
                have hHeld2 := hHeld.later b1 (by omega); clear b1 hHeld
                refine hK.out _ _ hHeld2 (fun hHeld => ?_)
                clear hK K hHeld2
                refine wpAnyH_ready (rs := [6]) (by kernel_rfl) (by simp) (AllReadyH.cons rfl (fun K hK => ?_) AllReadyH.nil)
                go_simp
                generalize hwa : wt.alloc (.cells #[.int .i64 0, .int .i64 0, .int .i64 0, .int .i64 0, .int .i64 0, .int .i64 0, .int .i64 0, .int .i64 0, .int .i64 0, .int .i64 0, .int .i64 0, .int .i64 0, .int .i64 0, .int .i64 0, .int .i64 0, .int .i64 0, .int .i64 0, .int .i64 0, .int .i64 0, .int .i64 0, .int .i64 0, .int .i64 0, .int .i64 0, .int .i64 0] 61) = wa
                have b1 : Below wt.heap.size wt wa := by rw [← hwa]; exact (Below.refl _ _).alloc (Nat.le_refl _) _
                have AL : Hid (Arr wa wt.heap.size (V zeros) 61) := Lib.hid (by rw [← hwa]; exact Arr.new _ (V zeros) _ rfl)
                have sa : wt.heap.size + 1 ≤ wa.heap.size := by rw [← hwa]; simp
                clear hwa
                replace BO := Lib.hid (BO.out.trans (b1.mono BO.out.size))
                have hHeld2 := hHeld.later b1 (by omega); clear b1 hHeld
                refine hK.out _ _ hHeld2 (fun hHeld => ?_)
                clear hK K hHeld2
                refine wpAnyH_ready (rs := [7]) (by kernel_rfl) (by simp) (AllReadyH.cons rfl (fun K hK => ?_) AllReadyH.nil)
                refine step_store_row rfl 61 _ _ rfl wt.heap.size (V (ext fk)).toArray rfl rfl 61 (V zeros).toArray AL.out (size_V (ext_len _)) (by simp [V_len, ext_len, zeros]) (one_V _) ?_
                change K (Act.put _ none _) _
                simp only [Act.put]
                refine hK.out _ _ (hHeld.other (by omega) (by simp; omega) _) (fun hHeld2 => ?_)
                clear hK K hHeld2
                refine wpAnyH_done (by kernel_rfl) ?_ _
                go_wp2_with fail
                go_meet
                exact ⟨_, rfl, by omega, Lib.hid AL.out.row, Lib.hid (below_setRow BO.out (by omega) _)⟩
              · go_simp
                generalize hwa : wi.alloc (.cells #[.int .i64 0, .int .i64 0, .int .i64 0, .int .i64 0, .int .i64 0, .int .i64 0, .int .i64 0, .int .i64 0, .int .i64 0, .int .i64 0, .int .i64 0, .int .i64 0, .int .i64 0, .int .i64 0, .int .i64 0, .int .i64 0, .int .i64 0, .int .i64 0, .int .i64 0, .int .i64 0, .int .i64 0, .int .i64 0, .int .i64 0, .int .i64 0] 61) = wa
                have b1 : Below wi.heap.size wi wa := by rw [← hwa]; exact (Below.refl _ _).alloc (Nat.le_refl _) _
                have AL : Hid (Arr wa wi.heap.size (V zeros) 61) := Lib.hid (by rw [← hwa]; exact Arr.new _ (V zeros) _ rfl)
                have sa : wi.heap.size + 1 ≤ wa.heap.size := by rw [← hwa]; simp
                clear hwa
                replace BO := Lib.hid (BO.out.trans (b1.mono BO.out.size))
                have hHeld2 := hHeld.later b1 (by omega); clear b1 hHeld
                refine hK.out _ _ hHeld2 (fun hHeld => ?_)
                clear hK K hHeld2
                refine wpAnyH_ready (rs := [5]) (by kernel_rfl) (by simp) (AllReadyH.cons rfl (fun K hK => ?_) AllReadyH.nil)
                go_simp
                refine (inv.then_any (ext (nm r u 0)) (ext (reach (Inv r) (Inv u) k)) _ SN.out SR.out).mono ?_
                rintro e wt ⟨rfl, b1⟩
                rw [TT.out]
                have st := b1.size
                replace BO := Lib.hid (BO.out.trans (b1.mono BO.out.size))
                replace AL := Lib.hid (AL.out.keep b1 AL.out.lt)
                go_wp2_with fail
                have hHeld2 := hHeld.later b1 (by omega); clear b1 hHeld
                refine hK.out _ _ hHeld2 (fun hHeld => ?_)
                clear hK K hHeld2
                refine wpAnyH_ready (rs := [7]) (by kernel_rfl) (by simp) (AllReadyH.cons rfl (fun K hK => ?_) AllReadyH.nil)
                refine step_store_row rfl 61 _ _ rfl wi.heap.size (V (ext fk)).toArray rfl rfl 61 (V zeros).toArray AL.out (size_V (ext_len _)) (by simp [V_len, ext_len, zeros]) (one_V _) ?_
                change K (Act.put _ none _) _
                simp only [Act.put]
                refine hK.out _ _ (hHeld.other (by omega) (by simp; omega) _) (fun hHeld2 => ?_)
                clear hK K hHeld2
                refine wpAnyH_done (by kernel_rfl) ?_ _
                go_wp2_with fail
                go_meet
                exact ⟨_, rfl, by omega, Lib.hid AL.out.row, Lib.hid (below_setRow BO.out (by omega) _)⟩
            · go_simp
              generalize hwa : wn.alloc (.cells #[.int .i64 0, .int .i64 0, .int .i64 0, .int .i64 0, .int .i64 0, .int .i64 0, .int .i64 0, .int .i64 0, .int .i64 0, .int .i64 0, .int .i64 0, .int .i64 0, .int .i64 0, .int .i64 0, .int .i64 0, .int .i64 0, .int .i64 0, .int .i64 0, .int .i64 0, .int .i64 0, .int .i64 0, .int .i64 0, .int .i64 0, .int .i64 0] 61) = wa
              have b1 : Below wn.heap.size wn wa := by rw [← hwa]; exact (Below.refl _ _).alloc (Nat.le_refl _) _
              have AL : Hid (Arr wa wn.heap.size (V zeros) 61) := Lib.hid (by rw [← hwa]; exact Arr.new _ (V zeros) _ rfl)
              have sa : wn.heap.size + 1 ≤ wa.heap.size := by rw [← hwa]; simp
              clear hwa
              replace BO := Lib.hid (BO.out.trans (b1.mono BO.out.size))
              have hHeld2 := hHeld.later b1 (by omega); clear b1 hHeld
              refine hK.out _ _ hHeld2 (fun hHeld => ?_)
              clear hK K hHeld2
              refine wpAnyH_ready (rs := [4]) (by kernel_rfl) (by simp) (AllReadyH.cons rfl (fun K hK => ?_) AllReadyH.nil)
              go_simp
              refine (inverse_any (ext (nm (Inv r) (Inv u) k)) _ SI.out).mono ?_
              rintro e wi ⟨rfl, b1⟩
              rw [TI.out]
              have si := b1.size
              replace BO := Lib.hid (BO.out.trans (b1.mono BO.out.size))
              replace AL := Lib.hid (AL.out.keep b1 AL.out.lt)
              go_wp2_with fail
              have hHeld2 := hHeld.later b1 (by omega); clear b1 hHeld
              refine hK.out _ _ hHeld2 (fun hHeld => ?_)
              clear hK K hHeld2
              refine wpAnyH_ready (rs := [5]) (by kernel_rfl) (by simp) (AllReadyH.cons rfl (fun K hK => ?_) AllReadyH.nil)
              go_simp
              refine (inv.then_any (ext (nm r u 0)) (ext (reach (Inv r) (Inv u) k)) _ SN.out SR.out).mono ?_
              rintro e wt ⟨rfl, b1⟩
              rw [TT.out]
              have st := b1.size
              replace BO := Lib.hid (BO.out.trans (b1.mono BO.out.size))
              replace AL := Lib.hid (AL.out.keep b1 AL.out.lt)
              go_wp2_with fail
              have hHeld2 := hHeld.later b1 (by omega); clear b1 hHeld
              refine hK.out _ _ hHeld2 (fun hHeld => ?_)
              clear hK K hHeld2
              refine wpAnyH_ready (rs := [7]) (by kernel_rfl) (by simp) (AllReadyH.cons rfl (fun K hK => ?_) AllReadyH.nil)
              refine step_store_row rfl 61 _ _ rfl wn.heap.size (V (ext fk)).toArray rfl rfl 61 (V zeros).toArray AL.out (size_V (ext_len _)) (by simp [V_len, ext_len, zeros]) (one_V _) ?_
              change K (Act.put _ none _) _
              simp only [Act.put]
              refine hK.out _ _ (hHeld.other (by omega) (by simp; omega) _) (fun hHeld2 => ?_)
              clear hK K hHeld2
              refine wpAnyH_done (by kernel_rfl) ?_ _
              go_wp2_with fail
              go_meet
              exact ⟨_, rfl, by omega, Lib.hid AL.out.row, Lib.hid (below_setRow BO.out (by omega) _)⟩
          · go_simp
            generalize hwa : wd.alloc (.cells #[.int .i64 0, .int .i64 0, .int .i64 0, .int .i64 0, .int .i64 0, .int .i64 0, .int .i64 0, .int .i64 0, .int .i64 0, .int .i64 0, .int .i64 0, .int .i64 0, .int .i64 0, .int .i64 0, .int .i64 0, .int .i64 0, .int .i64 0, .int .i64 0, .int .i64 0, .int .i64 0, .int .i64 0, .int .i64 0, .int .i64 0, .int .i64 0] 61) = wa
            have b1 : Below wd.heap.size wd wa := by rw [← hwa]; exact (Below.refl _ _).alloc (Nat.le_refl _) _
            have AL : Hid (Arr wa wd.heap.size (V zeros) 61) := Lib.hid (by rw [← hwa]; exact Arr.new _ (V zeros) _ rfl)
            have sa : wd.heap.size + 1 ≤ wa.heap.size := by rw [← hwa]; simp
            clear hwa
            replace BO := Lib.hid (BO.out.trans (b1.mono BO.out.size))
            have hHeld2 := hHeld.later b1 (by omega); clear b1 hHeld
            refine hK.out _ _ hHeld2 (fun hHeld => ?_)
            clear hK K hHeld2
            refine wpAnyH_ready (rs := [3]) (by kernel_rfl) (by simp) (AllReadyH.cons rfl (fun K hK => ?_) AllReadyH.nil)
            go_simp
            refine (names_any (ext (Inv r)) (ext (Inv u)) n k _ SI1.out SI2.out (by omega)).mono ?_
            rintro e wn ⟨rfl, b1⟩
            rw [TE.out]
            have sn := b1.size
            replace BO := Lib.hid (BO.out.trans (b1.mono BO.out.size))
            replace AL := Lib.hid (AL.out.keep b1 AL.out.lt)
            go_wp2_with fail
            have hHeld2 := hHeld.later b1 (by omega); clear b1 hHeld
            refine hK.out _ _ hHeld2 (fun hHeld => ?_)
            clear hK K hHeld2
            refine wpAnyH_ready (rs := [4]) (by kernel_rfl) (by simp) (AllReadyH.cons rfl (fun K hK => ?_) AllReadyH.nil)
            go_simp
            refine (inverse_any (ext (nm (Inv r) (Inv u) k)) _ SI.out).mono ?_
            rintro e wi ⟨rfl, b1⟩
            rw [TI.out]
            have si := b1.size
            replace BO := Lib.hid (BO.out.trans (b1.mono BO.out.size))
            replace AL := Lib.hid (AL.out.keep b1 AL.out.lt)
            go_wp2_with fail
            have hHeld2 := hHeld.later b1 (by omega); clear b1 hHeld
            refine hK.out _ _ hHeld2 (fun hHeld => ?_)
            clear hK K hHeld2
            refine wpAnyH_ready (rs := [5]) (by kernel_rfl) (by simp) (AllReadyH.cons rfl (fun K hK => ?_) AllReadyH.nil)
            go_simp
            refine (inv.then_any (ext (nm r u 0)) (ext (reach (Inv r) (Inv u) k)) _ SN.out SR.out).mono ?_
            rintro e wt ⟨rfl, b1⟩
            rw [TT.out]
            have st := b1.size
            replace BO := Lib.hid (BO.out.trans (b1.mono BO.out.size))
            replace AL := Lib.hid (AL.out.keep b1 AL.out.lt)
            go_wp2_with fail
            have hHeld2 := hHeld.later b1 (by omega); clear b1 hHeld
            refine hK.out _ _ hHeld2 (fun hHeld => ?_)
            clear hK K hHeld2
            refine wpAnyH_ready (rs := [7]) (by kernel_rfl) (by simp) (AllReadyH.cons rfl (fun K hK => ?_) AllReadyH.nil)
            refine step_store_row rfl 61 _ _ rfl wd.heap.size (V (ext fk)).toArray rfl rfl 61 (V zeros).toArray AL.out (size_V (ext_len _)) (by simp [V_len, ext_len, zeros]) (one_V _) ?_
            change K (Act.put _ none _) _
            simp only [Act.put]
            refine hK.out _ _ (hHeld.other (by omega) (by simp; omega) _) (fun hHeld2 => ?_)
            clear hK K hHeld2
            refine wpAnyH_done (by kernel_rfl) ?_ _
            go_wp2_with fail
            go_meet
            exact ⟨_, rfl, by omega, Lib.hid AL.out.row, Lib.hid (below_setRow BO.out (by omega) _)⟩
        case rest =>
          obtain ⟨B9, rfl, hB9, A9, B8⟩ := hcut
          have W3' : Hid (Arr wc w1.heap.size (V (gl (ext r) (ext u) n)) 63) := Lib.hid (W3.out.keep B8.out (by omega))
          have hct := gl_count (ext_len r) (ext_len u) W3'.out
          have s8 := B8.out.size
          clear W3 W5 W7
          go_wp2_with (first | (refine wpList_load_row rfl 63 _ rfl w1.heap.size rfl 63 (V (gl (ext r) (ext u) n)).toArray (0, 0) _ W3'.out Try.underlying63 rfl (size49 (gl_len (ext_len _) (ext_len _) _)) ?_) | (refine wpList_load_row rfl 61 _ rfl B9 rfl 61 (V (ext fk)).toArray (0, 0) _ A9.out Try.underlying61 rfl (size_V (ext_len _)) ?_) | fail)
          refine (isTurn_any r u fk n _ HS.out IM.out.1 IM.out.2).mono ?_
          rintro e wj ⟨rfl, b1⟩
          rw [← IS.out]
          have sj := b1.size
          have W3j : Hid (Arr wj w1.heap.size (V (gl (ext r) (ext u) n)) 63) := Lib.hid (W3'.out.keep b1 W3'.out.lt)
          have A9j : Hid (Arr wj B9 (V (ext fk)) 61) := Lib.hid (A9.out.keep b1 A9.out.lt)
          have BJ : Hid (Below wo.heap.size wo wj) := Lib.hid (B8.out.trans (b1.mono B8.out.size))
          clear b1 hct W3' A9 B8
          have hct := gl_count (ext_len r) (ext_len u) W3j.out
          cases hq : itB r u fk
          · have NX' : Hid (tuK r u (k + 1) = xk) := Lib.hid (by rw [NX.out, hq]; simp)
            have TN2 : Hid (Tg w7 wj (.slice C xk.length cc) (tuK r u (k + 1))) := Lib.hid (by
              rw [NX'.out]
              exact ⟨TR.out.below.trans (BJ.out.mono (by omega)), TR.out.mg.keep BJ.out.size (Nat.le_refl _) (by omega) (fun b q1 q2 q3 => BJ.out.block b q2)⟩)
            go_wp2_with fail
            go_roundw
            case rel => exact ⟨k + 1, by omega, by go_num, TN2.out⟩
            case measure => simp [intOf]; omega
          · have NX' : Hid (tuK r u (k + 1) = xk ++ [fk]) := Lib.hid (by rw [NX.out, hq]; simp)
            have TK : Hid ((ext fk).take n = fk) := Lib.hid (by have := take_ext fk (by rw [IM.out.2]; exact hN24); rwa [IM.out.2] at this)
            go_wp2_with (first | (refine wpList_load_row rfl 61 _ rfl B9 rfl 61 (V (ext fk)).toArray (0, 0) _ A9j.out Try.underlying61 rfl (size_V (ext_len _)) ?_) | fail)
            refine (list_gives (ext fk) n _ (ext_len _) hN24).mono ?_
            rintro e wl ⟨v1, rfl, o1, b1⟩
            rw [TK.out] at o1
            obtain ⟨P1, c1, rfl⟩ := own_form o1
            have BL : Hid (Below wo.heap.size wo wl) := Lib.hid (BJ.out.trans (b1.mono BJ.out.size))
            have O4 : Hid (wl.ownsRow wo.heap.size 3 1 (.slice P1 fk.length c1) fk.length (V fk)) := Lib.hid (own_base o1 BJ.out.size)
            clear o1 b1 hct
            have LF := IM.out.2
            obtain ⟨hs, own, hln, push⟩ := Mg.ready TR.out.mg rfl BL.out (Nat.le_refl _) hso (by omega) O4.out (by rw [LF]; exact hN0)
            rw [LF] at push
            rw [LF]
            have sl := BL.out.size
            have OWN := Lib.hid own; have PUSH := Lib.hid push; clear own push hq NX hln LF
            go_wp2_with (at_builtin; refine wpList_append_one2 wl _ _ rfl _ _ 34 rfl w7.heap.size 23 i0 _ 24 1 Try.underlying34 hi0 hz0 hz1 rfl hz2 rfl _ _ _ rfl OWN.out rfl rfl ?c4 (by decide) (by omega) ?_)
            case c4 => omega
            intro v' w' ho hg hb
            obtain ⟨mg, bl⟩ := PUSH.out v' w' ho hg hb
            have TN2 : Hid (Tg w7 w' v' (tuK r u (k + 1))) := Lib.hid (by
              rw [NX'.out]
              exact ⟨(TR.out.below.trans (BL.out.mono (by omega))).trans bl, mg⟩)
            clear ho hg hb mg bl PUSH OWN TR
            go_wp2_with fail
            go_roundw
            case rel => exact ⟨k + 1, by omega, by go_num, TN2.out⟩
            case measure => simp [intOf]; omega
      · obtain rfl : k = n := by omega
        go_wp2
        go_ret
        exact mgives_eq HF.out ⟨C, cc, rfl, TR.out.mg.mat (B := w.heap.size) (by have := B1.out.size; omega) (by have := B1.out.size; omega), B1.out.trans (TR.out.below.mono B1.out.size)⟩
theorem tot_same {n : Nat} : ∀ (l : List (List Int)), (∀ x ∈ l, x.length = n) → tot l = l.length * n := by
  intro l
  induction l with
  | nil => intro _; simp [tot]
  | cons a l ih =>
    intro h
    have i := ih (fun x hx => h x (List.mem_cons_of_mem _ hx))
    have a1 := h a (List.mem_cons_self ..)
    have e : tot (a :: l) = a.length + tot l := by simp [tot]
    rw [e, i, a1, List.length_cons, Nat.succ_mul]; omega
theorem tuF_bnd (r u : List Int) : (tuF r u).length ≤ 1048576 ∧ tot (tuF r u) ≤ 1048576 := by
  unfold tuF
  split
  · rename_i h
    have s := transB_iff.1 h
    have h24 := s.r.len
    obtain ⟨a, b⟩ := tuK_len s r.length
    rw [tot_same _ b]
    have : (tuK r u r.length).length * r.length ≤ 24 * 24 := Nat.mul_le_mul (by omega) h24
    omega
  · simp [tot]
end Go.Proofs.Ytpmojmhamgcfmaa.ht
