/-
  FnRatios: at every argument the law FnRatios returns true, and its arguments read as before. No condition.
-/
import Derived.Test.YtngglhbcpeigcaaRows
import Derived.WalkKit
import Derived.ProofKit
import Derived.OpenShut
import Derived.ShutString
import Derived.ChangeOld
import Derived.Below
import Derived.Test.YtngglhbcpeigcaaY02
import Derived.Test.YtngglhbcpeigcaaY21
import Derived.Test.YtngglhbcpeigcaaY22
import Derived.Test.YtngglhbcpeigcaaY25
namespace Go.Proofs.Ytngglhbcpeigcaa.fnRatios
open Go.ChangeShapes Go.WideShapes Go.ChangeAt Go.RowKit
open Go.ChangeMaps (open_string shut_string)
open Go.Proofs.Ytngglhbcpeigcaa.mem Go.Proofs.Ytngglhbcpeigcaa.ints Go.Proofs.Ytngglhbcpeigcaa.arr Go.Proofs.Ytngglhbcpeigcaa.sf Go.Proofs.Ytngglhbcpeigcaa.pm Go.Proofs.Ytngglhbcpeigcaa.gl Go.Proofs.Ytngglhbcpeigcaa.cy Go.Proofs.Ytngglhbcpeigcaa.cur Go.Proofs.Ytngglhbcpeigcaa.rat
set_option linter.unusedVariables false
set_option linter.unusedSimpArgs false
set_option maxRecDepth 100000

theorem own : ownKnob Try.prog.godebug = none := by kernel_rfl
theorem laidOut : laidOutB Try.prog = true := by kernel_rfl

set_option maxRecDepth 100000 in
set_option maxHeartbeats 8000000 in
theorem walk (w : World) (A : Option Addr) (n c : Nat) (l : List Int) (rd : Rd w w.heap.size A n (U l)) (cn : n ≤ c) (cm : c ≤ maxLen) (el : Bytes l) :
    Calls Try.prog 3 #[.slice A n c] w fun e w' => e = .returned (.bool true) ∧ Below w.heap.size w w' := by
  have RD := Lib.hid rd; have EL := Lib.hid el; clear rd el
  unfold maxLen at cm
  by_cases b0 : 1048576 < n
  · clear RD EL
    go_enter Try.func3, Try.ntmps3
    go_wp2_with fail
    go_ret
    exact ⟨rfl, Below.refl _ _⟩
  have hd0 : decide (1048576 < (n : Int)) = false := by simp; omega
  have HC := Lib.hid (cur.Code.mk RD.out EL.out (by omega)); clear RD EL
  have BB := Lib.hid (Below.refl w.heap.size w)
  go_enter Try.func3, Try.ntmps3
  go_wp2_with fail
  refine (mr_any _ w.heap.size A n c l 60 (by omega) (by omega) (HC.out.keep BB.out (Nat.le_refl _))).mono ?_
  rintro e w1_ ⟨⟨an, ad⟩, rfl, va, ma, b1⟩
  have s1 := b1.size
  replace BB := Lib.hid (BB.out.trans (b1.mono BB.out.size))
  clear b1
  have Va := Lib.hid va; have Ma := Lib.hid ma; clear va ma
  unfold rv
  go_wp2_with (first | (refine wpList_store_row rfl 24 _ _ rfl w1_.heap.size #[.int .i64 an, .int .i64 ad] rfl rfl 24 #[.int .i64 0, .int .i64 0] (Arr.new w1_ [.int .i64 0, .int .i64 0] _ rfl) (sizeR _ _) rfl (by simp [Value.oneCell']) ?_; generalize hw : (w1_.alloc (.cells #[.int .i64 0, .int .i64 0] 24)).setRow w1_.heap.size #[.int .i64 an, .int .i64 ad] = w2_; have NB : Hid (Arr w2_ w1_.heap.size [.int .i64 an, .int .i64 ad] 24) := Lib.hid (by rw [← hw]; exact (Arr.new w1_ [.int .i64 0, .int .i64 0] _ rfl).row); have b1 : Below w1_.heap.size w1_ w2_ := (by rw [← hw]; exact arr.below_setRow ((Below.refl _ _).alloc (Nat.le_refl _) _) (Nat.le_refl _) _); have t2 : w1_.heap.size + 1 ≤ w2_.heap.size := (by rw [← hw]; simp); clear hw; have s2 := b1.size; replace BB := Lib.hid (BB.out.trans (b1.mono BB.out.size)); clear b1; have Xa := NB; clear NB))
  refine (mr_any _ w.heap.size A n c l 64 (by omega) (by omega) (HC.out.keep BB.out (Nat.le_refl _))).mono ?_
  rintro e w3_ ⟨⟨bn, bd⟩, rfl, vb, mb, b1⟩
  have s3 := b1.size
  replace Xa := Lib.hid (Xa.out.keep b1 Xa.out.lt)
  replace BB := Lib.hid (BB.out.trans (b1.mono BB.out.size))
  clear b1
  have Vb := Lib.hid vb; have Mb := Lib.hid mb; clear vb mb
  unfold rv
  go_wp2_with (first | (refine wpList_store_row rfl 24 _ _ rfl w3_.heap.size #[.int .i64 bn, .int .i64 bd] rfl rfl 24 #[.int .i64 0, .int .i64 0] (Arr.new w3_ [.int .i64 0, .int .i64 0] _ rfl) (sizeR _ _) rfl (by simp [Value.oneCell']) ?_; generalize hw : (w3_.alloc (.cells #[.int .i64 0, .int .i64 0] 24)).setRow w3_.heap.size #[.int .i64 bn, .int .i64 bd] = w4_; have NB : Hid (Arr w4_ w3_.heap.size [.int .i64 bn, .int .i64 bd] 24) := Lib.hid (by rw [← hw]; exact (Arr.new w3_ [.int .i64 0, .int .i64 0] _ rfl).row); have b1 : Below w3_.heap.size w3_ w4_ := (by rw [← hw]; exact arr.below_setRow ((Below.refl _ _).alloc (Nat.le_refl _) _) (Nat.le_refl _) _); have t4 : w3_.heap.size + 1 ≤ w4_.heap.size := (by rw [← hw]; simp); clear hw; have s4 := b1.size; replace Xa := Lib.hid (Xa.out.keep b1 Xa.out.lt); replace BB := Lib.hid (BB.out.trans (b1.mono BB.out.size)); clear b1; have Xb := NB; clear NB))
  refine (mr_any _ w.heap.size A n c l 68 (by omega) (by omega) (HC.out.keep BB.out (Nat.le_refl _))).mono ?_
  rintro e w5_ ⟨⟨cn, cd⟩, rfl, vc, mc, b1⟩
  have s5 := b1.size
  replace Xa := Lib.hid (Xa.out.keep b1 Xa.out.lt)
  replace Xb := Lib.hid (Xb.out.keep b1 Xb.out.lt)
  replace BB := Lib.hid (BB.out.trans (b1.mono BB.out.size))
  clear b1
  have Vc := Lib.hid vc; have Mc := Lib.hid mc; clear vc mc
  unfold rv
  go_wp2_with (first | (refine wpList_store_row rfl 24 _ _ rfl w5_.heap.size #[.int .i64 cn, .int .i64 cd] rfl rfl 24 #[.int .i64 0, .int .i64 0] (Arr.new w5_ [.int .i64 0, .int .i64 0] _ rfl) (sizeR _ _) rfl (by simp [Value.oneCell']) ?_; generalize hw : (w5_.alloc (.cells #[.int .i64 0, .int .i64 0] 24)).setRow w5_.heap.size #[.int .i64 cn, .int .i64 cd] = w6_; have NB : Hid (Arr w6_ w5_.heap.size [.int .i64 cn, .int .i64 cd] 24) := Lib.hid (by rw [← hw]; exact (Arr.new w5_ [.int .i64 0, .int .i64 0] _ rfl).row); have b1 : Below w5_.heap.size w5_ w6_ := (by rw [← hw]; exact arr.below_setRow ((Below.refl _ _).alloc (Nat.le_refl _) _) (Nat.le_refl _) _); have t6 : w5_.heap.size + 1 ≤ w6_.heap.size := (by rw [← hw]; simp); clear hw; have s6 := b1.size; replace Xa := Lib.hid (Xa.out.keep b1 Xa.out.lt); replace Xb := Lib.hid (Xb.out.keep b1 Xb.out.lt); replace BB := Lib.hid (BB.out.trans (b1.mono BB.out.size)); clear b1; have Xc := NB; clear NB))
  refine (mk.make_any _ _ A n c l (HC.out.keep BB.out (Nat.le_refl _))).mono ?_
  rintro e w7_ ⟨v, r, u, N, hN, sf, rfl, sv, b1⟩
  have s7 := b1.size
  replace Xa := Lib.hid (Xa.out.keep b1 Xa.out.lt)
  replace Xb := Lib.hid (Xb.out.keep b1 Xb.out.lt)
  replace Xc := Lib.hid (Xc.out.keep b1 Xc.out.lt)
  replace BB := Lib.hid (BB.out.trans (b1.mono BB.out.size))
  clear b1
  have SFs := Lib.hid sf; clear sf
  obtain ⟨Ps, cs, Qs, ds, rfl⟩ := sv.lens SFs.out.lr SFs.out.lu
  have HT : Hid (transB r u = true) := Lib.hid (transB_iff.2 (by rw [SFs.out.lr]; exact SFs.out))
  have SV := Lib.hid sv; clear sv HC
  go_wp2_with (first | (refine wpList_store_row rfl 28 _ _ rfl w7_.heap.size #[.slice Ps N cs, .slice Qs N ds] rfl rfl 28 #[.slice none 0 0, .slice none 0 0] (Arr.new w7_ [.slice none 0 0, .slice none 0 0] _ rfl) size2 rfl (by simp [Value.oneCell']) ?_; generalize hw : (w7_.alloc (.cells #[.slice none 0 0, .slice none 0 0] 28)).setRow w7_.heap.size #[.slice Ps N cs, .slice Qs N ds] = w8_; have NB : Hid (Arr w8_ w7_.heap.size [.slice Ps N cs, .slice Qs N ds] 28) := Lib.hid (by rw [← hw]; exact (Arr.new w7_ [.slice none 0 0, .slice none 0 0] _ rfl).row); have b1 : Below w7_.heap.size w7_ w8_ := (by rw [← hw]; exact arr.below_setRow ((Below.refl _ _).alloc (Nat.le_refl _) _) (Nat.le_refl _) _); have t8 : w7_.heap.size + 1 ≤ w8_.heap.size := (by rw [← hw]; simp); clear hw; have s8 := b1.size; replace Xa := Lib.hid (Xa.out.keep b1 Xa.out.lt); replace Xb := Lib.hid (Xb.out.keep b1 Xb.out.lt); replace Xc := Lib.hid (Xc.out.keep b1 Xc.out.lt); replace SV := Lib.hid (SV.out.keep b1 SV.out.top); replace BB := Lib.hid (BB.out.trans (b1.mono BB.out.size)); clear b1; have BX := NB; clear NB) | (refine wpList_load_row rfl 28 _ rfl w7_.heap.size rfl 28 #[.slice Ps N cs, .slice Qs N ds] (0, 0) _ BX.out Try.underlying28 rfl (sizeS _ _) ?_))
  refine (cyo_impl _ r u _ _ SV.out.rd (by rw [SFs.out.lr]; omega) (by rw [SFs.out.lu]; omega)).mono ?_
  rintro e w9_ ⟨CA, cca, rfl, oL, b1⟩
  rw [HT.out]
  have s9 := b1.size
  replace Xa := Lib.hid (Xa.out.keep b1 Xa.out.lt)
  replace Xb := Lib.hid (Xb.out.keep b1 Xb.out.lt)
  replace Xc := Lib.hid (Xc.out.keep b1 Xc.out.lt)
  replace SV := Lib.hid (SV.out.keep b1 SV.out.top)
  replace BX := Lib.hid (BX.out.keep b1 BX.out.lt)
  replace BB := Lib.hid (BB.out.trans (b1.mono BB.out.size))
  clear b1
  have OL := Lib.hid oL; clear oL
  have FIN : Hid (modF r u = mdK (cyF r u) (cyF r u).length) := Lib.hid (modF_yes HT.out)
  have VAL := Lib.hid (mod_valid HT.out)
  have ALL := Lib.hid (cy_all HT.out)
  generalize cyF r u = L at *
  have L24 := ALL.out.2.2
  have K0 : mdK L 0 = (0, 1) := rfl
  go_wp2_with (first | (refine wpList_store_row rfl 24 _ _ rfl w9_.heap.size #[.int .i64 0, .int .i64 1] rfl rfl 24 #[.int .i64 0, .int .i64 0] (Arr.new w9_ [.int .i64 0, .int .i64 0] _ rfl) (sizeR _ _) rfl (by simp [Value.oneCell']) ?_; generalize hw : (w9_.alloc (.cells #[.int .i64 0, .int .i64 0] 24)).setRow w9_.heap.size #[.int .i64 0, .int .i64 1] = w10_; have NB : Hid (Arr w10_ w9_.heap.size [.int .i64 0, .int .i64 1] 24) := Lib.hid (by rw [← hw]; exact (Arr.new w9_ [.int .i64 0, .int .i64 0] _ rfl).row); have b1 : Below w9_.heap.size w9_ w10_ := (by rw [← hw]; exact arr.below_setRow ((Below.refl _ _).alloc (Nat.le_refl _) _) (Nat.le_refl _) _); have t10 : w9_.heap.size + 1 ≤ w10_.heap.size := (by rw [← hw]; simp); clear hw; have s10 := b1.size; replace Xa := Lib.hid (Xa.out.keep b1 Xa.out.lt); replace Xb := Lib.hid (Xb.out.keep b1 Xb.out.lt); replace Xc := Lib.hid (Xc.out.keep b1 Xc.out.lt); replace SV := Lib.hid (SV.out.keep b1 SV.out.top); replace BX := Lib.hid (BX.out.keep b1 BX.out.lt); replace OL := Lib.hid (OL.out.keep b1 OL.out.top); replace BB := Lib.hid (BB.out.trans (b1.mono BB.out.size)); clear b1; have XS := NB; clear NB) | (refine wpList_build rfl 24 _ rfl [(1, .int .i64 1)] rfl #[.int .i64 0, .int .i64 1] builtR1 ?_))
  go_loopw [32] (fun i wr => ∃ k : Nat, k ≤ L.length ∧ i = .int .i64 k ∧ Arr wr w9_.heap.size [.int .i64 (mdK L k).1, .int .i64 (mdK L k).2] 24 ∧ Below w9_.heap.size w10_ wr) (fun i _ => L.length - (intOf i).toNat)
  case atStart => exact ⟨0, Nat.zero_le _, rfl, XS.out, Below.refl _ _⟩
  case round =>
    clear XS
    obtain ⟨k, hk, rfl, ha, hb⟩ := hrel
    have XS := Lib.hid ha; have BL := Lib.hid hb; clear ha hb
    have swr := BL.out.size
    have hXL := XS.out.lt
    by_cases hlt : k < L.length
    · have ft := mdK_fit L k
      obtain ⟨g, off, x, rfl, hg, hsk, c0, c1⟩ := (OL.out.rd.keep BL.out (by omega)).at_ hlt
      obtain ⟨ww, hh, rfl, w1', w24, h24⟩ := ALL.out.1 x (List.mem_of_getElem? hsk)
      have NXT := Lib.hid (md_step ALL.out.1 ALL.out.2.1 ALL.out.2.2 hsk)
      have NX := Lib.hid (mdK_succ hsk)
      have RX := Lib.hid (two_cells c0 c1)
      clear hsk c0 c1
      obtain ⟨⟨sn, sd⟩, hs⟩ : ∃ q, q = mdK L k := ⟨_, rfl⟩
      rw [← hs] at XS NX ft NXT
      clear hs
      obtain ⟨⟨on, od⟩, ho⟩ : ∃ q, q = ofF (hh : Int) (ww : Int) := ⟨_, rfl⟩
      have fo := ofF_fit (hh : Int) (ww : Int)
      have NX2 : Hid (mdK L (k + 1) = rsF sn sd on od) := Lib.hid (by rw [NX.out, mdS, ← ho])
      have HO := Lib.hid ho
      rw [← ho] at fo NXT
      clear ho NX
      obtain ⟨f1, f2⟩ := ft
      obtain ⟨f3, f4⟩ := fo
      dsimp only at f1 f2 f3 f4 XS
      go_wp2_with (first | (refine wpList_load_mid rfl 34 _ rfl g (off + k * 2) rfl [.int .i64 ww, .int .i64 hh] _ RX.out Try.underlying34 rfl (sizeCy _ _) ?_) | fail)
      have NB : Hid (Arr (wr.alloc (.cells #[.int .i64 ww, .int .i64 hh] 34)) wr.heap.size [.int .i64 ww, .int .i64 hh] 34) := Lib.hid (Arr.new wr _ _ rfl)
      have b1 : Below wr.heap.size wr (wr.alloc (.cells #[.int .i64 ww, .int .i64 hh] 34)) := (Below.refl _ _).alloc (Nat.le_refl _) _
      generalize wr.alloc (.cells #[.int .i64 ww, .int .i64 hh] 34) = wa at *
      have sa := b1.size
      replace XS := Lib.hid (XS.out.keep b1 XS.out.lt)
      have BA := Lib.hid (BL.out.trans (b1.mono (by omega)))
      have h5 := XS.out.lt; have hb := NB.out.lt
      clear RX b1
      refine wp_region_held_drew (S := Hld w9_.heap.size wa.heap.size wa [(wr.heap.size, [.int .i64 ww, .int .i64 hh])]) (by kernel_rfl) ((Hld.start1 NB.out).lower (by omega)) (fun hHeld => ?_)
      have b1 : Below wa.heap.size wa wa.drew := ⟨rfl, rfl, rfl, Nat.le_refl _, fun _ _ => rfl⟩
      generalize wa.drew = wd at *
      have sd_ := b1.size
      replace XS := Lib.hid (XS.out.keep b1 XS.out.lt)
      replace BA := Lib.hid (BA.out.trans (b1.mono (by omega)))
      clear b1 NB
      refine wpAnyH_take (i := 1) (v := .pointer (some ⟨wr.heap.size, 1, none⟩)) rfl (by kernel_rfl) (by kernel_rfl) (by kernel_rfl) (fun _ _ _ h => h) (Or.inl ⟨by first | rfl | kernel_rfl, fun w hSw => by go_simp⟩) hHeld ?_
      refine wpAnyH_take (i := 2) (v := .int .i64 (hh : Int)) rfl (by kernel_rfl) (by kernel_rfl) (by kernel_rfl) (fun _ _ _ h => h) (Or.inl ⟨by first | rfl | kernel_rfl, fun w hSw => by have h := hSw.c1; go_simp⟩) hHeld ?_
      refine wpAnyH_take (i := 3) (v := .pointer (some ⟨wr.heap.size, 0, none⟩)) rfl (by kernel_rfl) (by kernel_rfl) (by kernel_rfl) (fun _ _ _ h => h) (Or.inl ⟨by first | rfl | kernel_rfl, fun w hSw => by go_simp⟩) hHeld ?_
      refine wpAnyH_take (i := 4) (v := .int .i64 (ww : Int)) rfl (by kernel_rfl) (by kernel_rfl) (by kernel_rfl) (fun _ _ _ h => h) (Or.inl ⟨by first | rfl | kernel_rfl, fun w hSw => by have h := hSw.c0; go_simp⟩) hHeld ?_
      refine wpAnyH_ready (rs := [0, 5]) (by kernel_rfl) (by simp) (AllReadyH.cons rfl (fun K hK => ?_) (AllReadyH.cons rfl (fun K hK => ?_) AllReadyH.nil))
      · refine permOf.step_load_row rfl 24 _ rfl w9_.heap.size rfl 24 #[.int .i64 sn, .int .i64 sd] (0, 0) _ XS.out Try.underlying24 rfl (sizeR _ _) ?_
        refine hK.out _ _ hHeld (fun hHeld2 => ?_)
        clear hK K hHeld
        have hHeld := hHeld2; clear hHeld2
        refine wpAnyH_ready (rs := [5]) (by kernel_rfl) (by simp) (AllReadyH.cons rfl (fun K hK => ?_) AllReadyH.nil)
        go_simp
        refine (rof_impl (hh : Int) (ww : Int) _ (by omega) (by omega) (by omega) (by omega)).mono ?_
        rintro e we ⟨rfl, b1⟩
        have se := b1.size
        rw [← HO.out]
        replace XS := Lib.hid (XS.out.keep b1 XS.out.lt)
        replace BA := Lib.hid (BA.out.trans (b1.mono (by omega)))
        have hHeld2 := hHeld.later b1 (by omega); clear b1 hHeld
        unfold rv
        go_wp2_with fail
        refine hK.out _ _ hHeld2 (fun hHeld => ?_)
        clear hK K hHeld2
        refine wpAnyH_ready (rs := [6]) (by kernel_rfl) (by simp) (AllReadyH.cons rfl (fun K hK => ?_) AllReadyH.nil)
        go_simp
        refine (rsum_impl sn sd on od _ NXT.out.1 NXT.out.2.1 NXT.out.2.2.1 NXT.out.2.2.2).mono ?_
        rintro e wf ⟨rfl, b1⟩
        have sf_ := b1.size
        rw [← NX2.out]
        obtain ⟨⟨tn, td⟩, hs⟩ : ∃ q, q = mdK L (k + 1) := ⟨_, rfl⟩
        rw [← hs]
        have HS := Lib.hid hs; clear hs
        replace XS := Lib.hid (XS.out.keep b1 XS.out.lt)
        replace BA := Lib.hid (BA.out.trans (b1.mono (by omega)))
        have hHeld2 := hHeld.later b1 (by omega); clear b1 hHeld
        unfold rv
        go_wp2_with fail
        refine hK.out _ _ hHeld2 (fun hHeld => ?_)
        clear hK K hHeld2
        try dsimp only [List.getElem_toArray, List.getElem_cons_zero, List.getElem_cons_succ]
        try simp only [Act.put, List.setIfInBounds_toArray, List.set_cons_zero, List.set_cons_succ]
        refine wpAnyH_ready (rs := [7]) (by kernel_rfl) (by simp) (AllReadyH.cons rfl (fun K hK => ?_) AllReadyH.nil)
        refine permOf.step_store_row rfl 24 _ _ rfl w9_.heap.size #[.int .i64 tn, .int .i64 td] rfl rfl 24 #[.int .i64 sn, .int .i64 sd] XS.out (sizeR _ _) rfl (by simp [Value.oneCell']) ?_
        refine hK.out _ _ (hHeld.other (by omega) (by simp; omega) _) (fun hHeld2 => ?_)
        clear hK K hHeld2
        refine wpAnyH_done (by kernel_rfl) ?_ _
        try dsimp only [List.getElem_toArray, List.getElem_cons_zero, List.getElem_cons_succ]
        try simp only [Act.put, List.setIfInBounds_toArray, List.set_cons_zero, List.set_cons_succ]
        have A6 : Hid (Arr (wf.setRow w9_.heap.size #[.int .i64 tn, .int .i64 td]) w9_.heap.size [.int .i64 (mdK L (k + 1)).1, .int .i64 (mdK L (k + 1)).2] 24) := Lib.hid (by rw [← HS.out]; exact XS.out.row)
        have B6 : Hid (Below w9_.heap.size w10_ (wf.setRow w9_.heap.size #[.int .i64 tn, .int .i64 td])) := Lib.hid (below_setRow BA.out (Nat.le_refl _) _)
        generalize wf.setRow w9_.heap.size #[.int .i64 tn, .int .i64 td] = wg at *
        clear XS BA BL HO NX2 HS hHeld
        go_wp2_with fail
        go_roundw
        case rel => exact ⟨k + 1, by omega, by go_num, A6.out, B6.out⟩
        case measure => simp [intOf]; omega
      · go_simp
        refine (rof_impl (hh : Int) (ww : Int) _ (by omega) (by omega) (by omega) (by omega)).mono ?_
        rintro e we ⟨rfl, b1⟩
        have se := b1.size
        rw [← HO.out]
        replace XS := Lib.hid (XS.out.keep b1 XS.out.lt)
        replace BA := Lib.hid (BA.out.trans (b1.mono (by omega)))
        have hHeld2 := hHeld.later b1 (by omega); clear b1 hHeld
        unfold rv
        go_wp2_with fail
        refine hK.out _ _ hHeld2 (fun hHeld => ?_)
        clear hK K hHeld2
        refine wpAnyH_ready (rs := [0]) (by kernel_rfl) (by simp) (AllReadyH.cons rfl (fun K hK => ?_) AllReadyH.nil)
        refine permOf.step_load_row rfl 24 _ rfl w9_.heap.size rfl 24 #[.int .i64 sn, .int .i64 sd] (0, 0) _ XS.out Try.underlying24 rfl (sizeR _ _) ?_
        refine hK.out _ _ hHeld (fun hHeld2 => ?_)
        clear hK K hHeld
        have hHeld := hHeld2; clear hHeld2
        refine wpAnyH_ready (rs := [6]) (by kernel_rfl) (by simp) (AllReadyH.cons rfl (fun K hK => ?_) AllReadyH.nil)
        go_simp
        refine (rsum_impl sn sd on od _ NXT.out.1 NXT.out.2.1 NXT.out.2.2.1 NXT.out.2.2.2).mono ?_
        rintro e wf ⟨rfl, b1⟩
        have sf_ := b1.size
        rw [← NX2.out]
        obtain ⟨⟨tn, td⟩, hs⟩ : ∃ q, q = mdK L (k + 1) := ⟨_, rfl⟩
        rw [← hs]
        have HS := Lib.hid hs; clear hs
        replace XS := Lib.hid (XS.out.keep b1 XS.out.lt)
        replace BA := Lib.hid (BA.out.trans (b1.mono (by omega)))
        have hHeld2 := hHeld.later b1 (by omega); clear b1 hHeld
        unfold rv
        go_wp2_with fail
        refine hK.out _ _ hHeld2 (fun hHeld => ?_)
        clear hK K hHeld2
        try dsimp only [List.getElem_toArray, List.getElem_cons_zero, List.getElem_cons_succ]
        try simp only [Act.put, List.setIfInBounds_toArray, List.set_cons_zero, List.set_cons_succ]
        refine wpAnyH_ready (rs := [7]) (by kernel_rfl) (by simp) (AllReadyH.cons rfl (fun K hK => ?_) AllReadyH.nil)
        refine permOf.step_store_row rfl 24 _ _ rfl w9_.heap.size #[.int .i64 tn, .int .i64 td] rfl rfl 24 #[.int .i64 sn, .int .i64 sd] XS.out (sizeR _ _) rfl (by simp [Value.oneCell']) ?_
        refine hK.out _ _ (hHeld.other (by omega) (by simp; omega) _) (fun hHeld2 => ?_)
        clear hK K hHeld2
        refine wpAnyH_done (by kernel_rfl) ?_ _
        try dsimp only [List.getElem_toArray, List.getElem_cons_zero, List.getElem_cons_succ]
        try simp only [Act.put, List.setIfInBounds_toArray, List.set_cons_zero, List.set_cons_succ]
        have A6 : Hid (Arr (wf.setRow w9_.heap.size #[.int .i64 tn, .int .i64 td]) w9_.heap.size [.int .i64 (mdK L (k + 1)).1, .int .i64 (mdK L (k + 1)).2] 24) := Lib.hid (by rw [← HS.out]; exact XS.out.row)
        have B6 : Hid (Below w9_.heap.size w10_ (wf.setRow w9_.heap.size #[.int .i64 tn, .int .i64 td])) := Lib.hid (below_setRow BA.out (Nat.le_refl _) _)
        generalize wf.setRow w9_.heap.size #[.int .i64 tn, .int .i64 td] = wg at *
        clear XS BA BL HO NX2 HS hHeld
        go_wp2_with fail
        go_roundw
        case rel => exact ⟨k + 1, by omega, by go_num, A6.out, B6.out⟩
        case measure => simp [intOf]; omega
    · obtain rfl : k = L.length := by omega
      have BB := Lib.hid (BB.out.trans (BL.out.mono (by omega)))
      replace Xa := Lib.hid (Xa.out.keep BL.out (by omega))
      replace Xb := Lib.hid (Xb.out.keep BL.out (by omega))
      replace Xc := Lib.hid (Xc.out.keep BL.out (by omega))
      replace BX := Lib.hid (BX.out.keep BL.out (by omega))
      replace SV := Lib.hid (SV.out.keep BL.out (by omega))
      obtain ⟨⟨pn, pd⟩, ⟨qn, qd⟩, ⟨xn, xd⟩, rt⟩ := rt_all Va.out Vb.out Vc.out Ma.out Mb.out Mc.out
      have RT := Lib.hid rt; clear rt
      obtain ⟨⟨sn, sd⟩, hs⟩ : ∃ q, q = mdK L L.length := ⟨_, rfl⟩
      rw [← hs] at XS FIN VAL
      clear hs OL ALL K0 BL hXL
      have hXa := Xa.out.lt
      have hXb := Xb.out.lt
      have hXc := Xc.out.lt
      go_wp2_with fail
      try simp only [Act.put]
      go_cut [12] from 14 to 15 (fun p wx => ∃ g, p = .pointer (some ⟨g, 0, none⟩) ∧ wr.heap.size ≤ g ∧ Hid (Arr wx g [.int .i64 xn, .int .i64 xd] 24) ∧ Hid (Below wr.heap.size wr wx))
      case first =>
        refine wp_region_held_drew (S := Hld wr.heap.size wr.heap.size wr [(w1_.heap.size, [.int .i64 an, .int .i64 ad]), (w3_.heap.size, [.int .i64 bn, .int .i64 bd]), (w5_.heap.size, [.int .i64 cn, .int .i64 cd])]) (by kernel_rfl) (Hld.start3 Xa.out Xb.out Xc.out) (fun hHeld => ?_)
        have b0 : Below wr.heap.size wr wr.drew := ⟨rfl, rfl, rfl, Nat.le_refl _, fun _ _ => rfl⟩
        generalize wr.drew = v0 at *
        have s_0 := b0.size
        have BW := Lib.hid b0; clear b0
        refine wpAnyH_take (i := 0) (v := .agg #[.int .i64 an, .int .i64 ad]) rfl (by kernel_rfl) (by kernel_rfl) (by kernel_rfl) (fun _ _ _ h => h) (yieldsIf_load_mid (by rfl) _ _ rfl (w1_.heap.size) 0 rfl [.int .i64 an, .int .i64 ad] _ (fun w h => (h.at_ (w1_.heap.size, [.int .i64 an, .int .i64 ad]) (by simp)).2) Try.underlying24 rfl (sizeRL _ _)) hHeld ?_
        refine wpAnyH_take (i := 1) (v := .agg #[.int .i64 bn, .int .i64 bd]) rfl (by kernel_rfl) (by kernel_rfl) (by kernel_rfl) (fun _ _ _ h => h) (yieldsIf_load_mid (by rfl) _ _ rfl (w3_.heap.size) 0 rfl [.int .i64 bn, .int .i64 bd] _ (fun w h => (h.at_ (w3_.heap.size, [.int .i64 bn, .int .i64 bd]) (by simp)).2) Try.underlying24 rfl (sizeRL _ _)) hHeld ?_
        refine wpAnyH_take (i := 3) (v := .agg #[.int .i64 cn, .int .i64 cd]) rfl (by kernel_rfl) (by kernel_rfl) (by kernel_rfl) (fun _ _ _ h => h) (yieldsIf_load_mid (by rfl) _ _ rfl (w5_.heap.size) 0 rfl [.int .i64 cn, .int .i64 cd] _ (fun w h => (h.at_ (w5_.heap.size, [.int .i64 cn, .int .i64 cd]) (by simp)).2) Try.underlying24 rfl (sizeRL _ _)) hHeld ?_
        refine wpAnyH_ready (rs := [2, 5]) (by kernel_rfl) (by simp) (AllReadyH.cons rfl (fun K hK => ?_) (AllReadyH.cons rfl (fun K hK => ?_) AllReadyH.nil))
        · go_simp
          refine (rsum_impl an ad bn bd _ RT.out.nab.1 RT.out.nab.2.1 RT.out.nab.2.2.1 RT.out.nab.2.2.2).mono ?_
          rintro e v1 ⟨rfl, b1⟩
          rw [show rsF an ad bn bd = _ from RT.out.ab]
          have s_1 := b1.size
          replace BW := Lib.hid (BW.out.trans (b1.mono BW.out.size))
          unfold rv
          go_wp2_with fail
          have hHeld2 := hHeld.later b1 (by omega); clear b1 hHeld
          refine hK.out _ _ hHeld2 (fun hHeld => ?_)
          clear hK K hHeld2
          refine wpAnyH_ready (rs := [4, 5]) (by kernel_rfl) (by simp) (AllReadyH.cons rfl (fun K hK => ?_) (AllReadyH.cons rfl (fun K hK => ?_) AllReadyH.nil))
          · go_simp
            refine (rsum_impl pn pd cn cd _ RT.out.npc.1 RT.out.npc.2.1 RT.out.npc.2.2.1 RT.out.npc.2.2.2).mono ?_
            rintro e v2 ⟨rfl, b1⟩
            rw [show rsF pn pd cn cd = _ from RT.out.pc]
            have s_2 := b1.size
            replace BW := Lib.hid (BW.out.trans (b1.mono BW.out.size))
            unfold rv
            go_wp2_with fail
            have hHeld2 := hHeld.later b1 (by omega); clear b1 hHeld
            refine hK.out _ _ hHeld2 (fun hHeld => ?_)
            clear hK K hHeld2
            refine wpAnyH_ready (rs := [5]) (by kernel_rfl) (by simp) (AllReadyH.cons rfl (fun K hK => ?_) AllReadyH.nil)
            go_simp
            generalize hwa : v2.alloc (.cells #[.int .i64 0, .int .i64 0] 24) = v3
            have b1 : Below v2.heap.size v2 v3 := by rw [← hwa]; exact (Below.refl _ _).alloc (Nat.le_refl _) _
            have AL : Hid (Arr v3 v2.heap.size [.int .i64 0, .int .i64 0] 24) := Lib.hid (by rw [← hwa]; exact Arr.new _ _ _ rfl)
            have s_3 : v2.heap.size + 1 ≤ v3.heap.size := by rw [← hwa]; simp
            clear hwa
            replace BW := Lib.hid (BW.out.trans (b1.mono BW.out.size))
            have hHeld2 := hHeld.later b1 (by omega); clear b1 hHeld
            refine hK.out _ _ hHeld2 (fun hHeld => ?_)
            clear hK K hHeld2
            try dsimp only [List.getElem_toArray, List.getElem_cons_zero, List.getElem_cons_succ]
            try simp only [Act.put, List.setIfInBounds_toArray, List.set_cons_zero, List.set_cons_succ]
            refine wpAnyH_ready (rs := [6]) (by kernel_rfl) (by simp) (AllReadyH.cons rfl (fun K hK => ?_) AllReadyH.nil)
            refine permOf.step_store_row rfl 24 _ _ rfl (v2.heap.size) #[.int .i64 xn, .int .i64 xd] rfl rfl 24 #[.int .i64 0, .int .i64 0] AL.out (sizeR _ _) rfl (by simp [Value.oneCell']) ?_
            refine hK.out _ _ (hHeld.other (by omega) (by simp; omega) _) (fun hHeld2 => ?_)
            clear hK K hHeld
            refine wpAnyH_done (by kernel_rfl) ?_ _
            clear hHeld2
            try dsimp only [List.getElem_toArray, List.getElem_cons_zero, List.getElem_cons_succ]
            try simp only [Act.put, List.setIfInBounds_toArray, List.set_cons_zero, List.set_cons_succ]
            go_wp2_with fail
            go_meet
            exact ⟨_, rfl, by omega, Lib.hid AL.out.row, Lib.hid (below_setRow BW.out (by omega) _)⟩
          · go_simp
            generalize hwa : v1.alloc (.cells #[.int .i64 0, .int .i64 0] 24) = v2
            have b1 : Below v1.heap.size v1 v2 := by rw [← hwa]; exact (Below.refl _ _).alloc (Nat.le_refl _) _
            have AL : Hid (Arr v2 v1.heap.size [.int .i64 0, .int .i64 0] 24) := Lib.hid (by rw [← hwa]; exact Arr.new _ _ _ rfl)
            have s_2 : v1.heap.size + 1 ≤ v2.heap.size := by rw [← hwa]; simp
            clear hwa
            replace BW := Lib.hid (BW.out.trans (b1.mono BW.out.size))
            have hHeld2 := hHeld.later b1 (by omega); clear b1 hHeld
            refine hK.out _ _ hHeld2 (fun hHeld => ?_)
            clear hK K hHeld2
            refine wpAnyH_ready (rs := [4]) (by kernel_rfl) (by simp) (AllReadyH.cons rfl (fun K hK => ?_) AllReadyH.nil)
            go_simp
            refine (rsum_impl pn pd cn cd _ RT.out.npc.1 RT.out.npc.2.1 RT.out.npc.2.2.1 RT.out.npc.2.2.2).mono ?_
            rintro e v3 ⟨rfl, b1⟩
            rw [show rsF pn pd cn cd = _ from RT.out.pc]
            have s_3 := b1.size
            replace BW := Lib.hid (BW.out.trans (b1.mono BW.out.size))
            replace AL := Lib.hid (AL.out.keep b1 AL.out.lt)
            unfold rv
            go_wp2_with fail
            have hHeld2 := hHeld.later b1 (by omega); clear b1 hHeld
            refine hK.out _ _ hHeld2 (fun hHeld => ?_)
            clear hK K hHeld2
            try dsimp only [List.getElem_toArray, List.getElem_cons_zero, List.getElem_cons_succ]
            try simp only [Act.put, List.setIfInBounds_toArray, List.set_cons_zero, List.set_cons_succ]
            refine wpAnyH_ready (rs := [6]) (by kernel_rfl) (by simp) (AllReadyH.cons rfl (fun K hK => ?_) AllReadyH.nil)
            refine permOf.step_store_row rfl 24 _ _ rfl (v1.heap.size) #[.int .i64 xn, .int .i64 xd] rfl rfl 24 #[.int .i64 0, .int .i64 0] AL.out (sizeR _ _) rfl (by simp [Value.oneCell']) ?_
            refine hK.out _ _ (hHeld.other (by omega) (by simp; omega) _) (fun hHeld2 => ?_)
            clear hK K hHeld
            refine wpAnyH_done (by kernel_rfl) ?_ _
            clear hHeld2
            try dsimp only [List.getElem_toArray, List.getElem_cons_zero, List.getElem_cons_succ]
            try simp only [Act.put, List.setIfInBounds_toArray, List.set_cons_zero, List.set_cons_succ]
            go_wp2_with fail
            go_meet
            exact ⟨_, rfl, by omega, Lib.hid AL.out.row, Lib.hid (below_setRow BW.out (by omega) _)⟩
        · go_simp
          generalize hwa : v0.alloc (.cells #[.int .i64 0, .int .i64 0] 24) = v1
          have b1 : Below v0.heap.size v0 v1 := by rw [← hwa]; exact (Below.refl _ _).alloc (Nat.le_refl _) _
          have AL : Hid (Arr v1 v0.heap.size [.int .i64 0, .int .i64 0] 24) := Lib.hid (by rw [← hwa]; exact Arr.new _ _ _ rfl)
          have s_1 : v0.heap.size + 1 ≤ v1.heap.size := by rw [← hwa]; simp
          clear hwa
          replace BW := Lib.hid (BW.out.trans (b1.mono BW.out.size))
          have hHeld2 := hHeld.later b1 (by omega); clear b1 hHeld
          refine hK.out _ _ hHeld2 (fun hHeld => ?_)
          clear hK K hHeld2
          refine wpAnyH_ready (rs := [2]) (by kernel_rfl) (by simp) (AllReadyH.cons rfl (fun K hK => ?_) AllReadyH.nil)
          go_simp
          refine (rsum_impl an ad bn bd _ RT.out.nab.1 RT.out.nab.2.1 RT.out.nab.2.2.1 RT.out.nab.2.2.2).mono ?_
          rintro e v2 ⟨rfl, b1⟩
          rw [show rsF an ad bn bd = _ from RT.out.ab]
          have s_2 := b1.size
          replace BW := Lib.hid (BW.out.trans (b1.mono BW.out.size))
          replace AL := Lib.hid (AL.out.keep b1 AL.out.lt)
          unfold rv
          go_wp2_with fail
          have hHeld2 := hHeld.later b1 (by omega); clear b1 hHeld
          refine hK.out _ _ hHeld2 (fun hHeld => ?_)
          clear hK K hHeld2
          refine wpAnyH_ready (rs := [4]) (by kernel_rfl) (by simp) (AllReadyH.cons rfl (fun K hK => ?_) AllReadyH.nil)
          go_simp
          refine (rsum_impl pn pd cn cd _ RT.out.npc.1 RT.out.npc.2.1 RT.out.npc.2.2.1 RT.out.npc.2.2.2).mono ?_
          rintro e v3 ⟨rfl, b1⟩
          rw [show rsF pn pd cn cd = _ from RT.out.pc]
          have s_3 := b1.size
          replace BW := Lib.hid (BW.out.trans (b1.mono BW.out.size))
          replace AL := Lib.hid (AL.out.keep b1 AL.out.lt)
          unfold rv
          go_wp2_with fail
          have hHeld2 := hHeld.later b1 (by omega); clear b1 hHeld
          refine hK.out _ _ hHeld2 (fun hHeld => ?_)
          clear hK K hHeld2
          try dsimp only [List.getElem_toArray, List.getElem_cons_zero, List.getElem_cons_succ]
          try simp only [Act.put, List.setIfInBounds_toArray, List.set_cons_zero, List.set_cons_succ]
          refine wpAnyH_ready (rs := [6]) (by kernel_rfl) (by simp) (AllReadyH.cons rfl (fun K hK => ?_) AllReadyH.nil)
          refine permOf.step_store_row rfl 24 _ _ rfl (v0.heap.size) #[.int .i64 xn, .int .i64 xd] rfl rfl 24 #[.int .i64 0, .int .i64 0] AL.out (sizeR _ _) rfl (by simp [Value.oneCell']) ?_
          refine hK.out _ _ (hHeld.other (by omega) (by simp; omega) _) (fun hHeld2 => ?_)
          clear hK K hHeld
          refine wpAnyH_done (by kernel_rfl) ?_ _
          clear hHeld2
          try dsimp only [List.getElem_toArray, List.getElem_cons_zero, List.getElem_cons_succ]
          try simp only [Act.put, List.setIfInBounds_toArray, List.set_cons_zero, List.set_cons_succ]
          go_wp2_with fail
          go_meet
          exact ⟨_, rfl, by omega, Lib.hid AL.out.row, Lib.hid (below_setRow BW.out (by omega) _)⟩
      case rest =>
        obtain ⟨gX, rfl, hgX, AX, b1h⟩ := hcut
        have b1 := b1h.out; clear b1h
        replace Xa := Lib.hid (Xa.out.keep b1 Xa.out.lt)
        replace Xb := Lib.hid (Xb.out.keep b1 Xb.out.lt)
        replace Xc := Lib.hid (Xc.out.keep b1 Xc.out.lt)
        replace BX := Lib.hid (BX.out.keep b1 BX.out.lt)
        replace XS := Lib.hid (XS.out.keep b1 XS.out.lt)
        replace SV := Lib.hid (SV.out.keep b1 SV.out.top)
        replace BB := Lib.hid (BB.out.trans (b1.mono BB.out.size))
        clear b1
        go_wp2_with fail
        refine wp_region_held_drew (S := Hld wc.heap.size wc.heap.size wc [(gX, [.int .i64 xn, .int .i64 xd]), (w1_.heap.size, [.int .i64 an, .int .i64 ad]), (w3_.heap.size, [.int .i64 bn, .int .i64 bd]), (w5_.heap.size, [.int .i64 cn, .int .i64 cd]), (w9_.heap.size, [.int .i64 sn, .int .i64 sd]), (w7_.heap.size, [.slice Ps N cs, .slice Qs N ds])]) (by kernel_rfl) (start_all (fun p hp => by simp only [List.mem_cons, List.not_mem_nil, or_false] at hp; rcases hp with rfl | rfl | rfl | rfl | rfl | rfl <;> first | exact ⟨_, AX.out⟩ | exact ⟨_, Xa.out⟩ | exact ⟨_, Xb.out⟩ | exact ⟨_, Xc.out⟩ | exact ⟨_, XS.out⟩ | exact ⟨_, BX.out⟩)) (fun hHeld => ?_)
        have b1 : Below wc.heap.size wc wc.drew := ⟨rfl, rfl, rfl, Nat.le_refl _, fun _ _ => rfl⟩
        generalize wc.drew = v0 at *
        have s_0 := b1.size
        replace SV := Lib.hid (SV.out.keep b1 SV.out.top)
        replace BB := Lib.hid (BB.out.trans (b1.mono BB.out.size))
        clear b1
        clear Xa Xb Xc BX XS AX hXa hXb hXc
        obtain ⟨o1, o2, _⟩ := okR_facts RT.out.ok
        obtain ⟨o3, o4, _⟩ := okR_facts VAL.out
        refine wpAnyH_take (i := 0) (v := .bool true) rfl (by kernel_rfl) (by kernel_rfl) (by kernel_rfl) (fun _ _ _ h => h) (Or.inl ⟨by kernel_rfl, fun w hSw => by go_simp⟩) hHeld ?_
        refine wpAnyH_take (i := 1) (v := .bool true) rfl (by kernel_rfl) (by kernel_rfl) (by kernel_rfl) (fun _ _ _ h => h) (Or.inl ⟨by kernel_rfl, fun w hSw => by go_simp⟩) hHeld ?_
        refine wpAnyH_take (i := 2) (v := .agg #[.int .i64 xn, .int .i64 xd]) rfl (by kernel_rfl) (by kernel_rfl) (by kernel_rfl) (fun _ _ _ h => h) (yieldsIf_load_mid (by rfl) _ _ rfl (gX) 0 rfl [.int .i64 xn, .int .i64 xd] _ (fun w h => (h.at_ (gX, [.int .i64 xn, .int .i64 xd]) (by simp)).2) Try.underlying24 rfl (sizeRL _ _)) hHeld ?_
        refine wpAnyH_ready (rs := [3]) (by kernel_rfl) (by simp) (AllReadyH.cons rfl (fun K hK => ?_) AllReadyH.nil)
        go_simp
        refine (rok_impl xn xd _ (by omega) (by omega) (by omega) (by omega)).mono ?_
        rintro e v1 ⟨rfl, b1⟩
        rw [show okR xn xd = true from RT.out.ok]
        have s_1 := b1.size
        have hHeld2 := hHeld.later b1 (by omega); clear hHeld
        replace SV := Lib.hid (SV.out.keep b1 SV.out.top)
        replace BB := Lib.hid (BB.out.trans (b1.mono BB.out.size))
        clear b1
        try unfold rv
        go_wp2_with fail
        refine hK.out _ _ hHeld2 (fun hHeld => ?_)
        clear hK K hHeld2
        refine wpAnyH_take (i := 4) (v := .bool true) rfl (by kernel_rfl) (by kernel_rfl) (by kernel_rfl) (fun _ _ _ h => h) (Or.inl ⟨by kernel_rfl, fun w hSw => by go_simp⟩) hHeld ?_
        refine wpAnyH_take (i := 5) (v := .bool true) rfl (by kernel_rfl) (by kernel_rfl) (by kernel_rfl) (fun _ _ _ h => h) (Or.inl ⟨by kernel_rfl, fun w hSw => by go_simp⟩) hHeld ?_
        refine wpAnyH_take (i := 6) (v := .agg #[.int .i64 xn, .int .i64 xd]) rfl (by kernel_rfl) (by kernel_rfl) (by kernel_rfl) (fun _ _ _ h => h) (yieldsIf_load_mid (by rfl) _ _ rfl (gX) 0 rfl [.int .i64 xn, .int .i64 xd] _ (fun w h => (h.at_ (gX, [.int .i64 xn, .int .i64 xd]) (by simp)).2) Try.underlying24 rfl (sizeRL _ _)) hHeld ?_
        refine wpAnyH_take (i := 7) (v := .agg #[.int .i64 an, .int .i64 ad]) rfl (by kernel_rfl) (by kernel_rfl) (by kernel_rfl) (fun _ _ _ h => h) (yieldsIf_load_mid (by rfl) _ _ rfl (w1_.heap.size) 0 rfl [.int .i64 an, .int .i64 ad] _ (fun w h => (h.at_ (w1_.heap.size, [.int .i64 an, .int .i64 ad]) (by simp)).2) Try.underlying24 rfl (sizeRL _ _)) hHeld ?_
        refine wpAnyH_take (i := 8) (v := .agg #[.int .i64 bn, .int .i64 bd]) rfl (by kernel_rfl) (by kernel_rfl) (by kernel_rfl) (fun _ _ _ h => h) (yieldsIf_load_mid (by rfl) _ _ rfl (w3_.heap.size) 0 rfl [.int .i64 bn, .int .i64 bd] _ (fun w h => (h.at_ (w3_.heap.size, [.int .i64 bn, .int .i64 bd]) (by simp)).2) Try.underlying24 rfl (sizeRL _ _)) hHeld ?_
        refine wpAnyH_take (i := 9) (v := .agg #[.int .i64 cn, .int .i64 cd]) rfl (by kernel_rfl) (by kernel_rfl) (by kernel_rfl) (fun _ _ _ h => h) (yieldsIf_load_mid (by rfl) _ _ rfl (w5_.heap.size) 0 rfl [.int .i64 cn, .int .i64 cd] _ (fun w h => (h.at_ (w5_.heap.size, [.int .i64 cn, .int .i64 cd]) (by simp)).2) Try.underlying24 rfl (sizeRL _ _)) hHeld ?_
        refine wpAnyH_ready (rs := [10]) (by kernel_rfl) (by simp) (AllReadyH.cons rfl (fun K hK => ?_) AllReadyH.nil)
        go_simp
        refine (rsum_impl bn bd cn cd _ RT.out.nbc.1 RT.out.nbc.2.1 RT.out.nbc.2.2.1 RT.out.nbc.2.2.2).mono ?_
        rintro e v2 ⟨rfl, b1⟩
        rw [show rsF bn bd cn cd = _ from RT.out.bc]
        have s_2 := b1.size
        have hHeld2 := hHeld.later b1 (by omega); clear hHeld
        replace SV := Lib.hid (SV.out.keep b1 SV.out.top)
        replace BB := Lib.hid (BB.out.trans (b1.mono BB.out.size))
        clear b1
        try unfold rv
        go_wp2_with fail
        refine hK.out _ _ hHeld2 (fun hHeld => ?_)
        clear hK K hHeld2
        refine wpAnyH_ready (rs := [11]) (by kernel_rfl) (by simp) (AllReadyH.cons rfl (fun K hK => ?_) AllReadyH.nil)
        go_simp
        refine (rsum_impl an ad qn qd _ RT.out.naq.1 RT.out.naq.2.1 RT.out.naq.2.2.1 RT.out.naq.2.2.2).mono ?_
        rintro e v3 ⟨rfl, b1⟩
        rw [show rsF an ad qn qd = _ from RT.out.aq]
        have s_3 := b1.size
        have hHeld2 := hHeld.later b1 (by omega); clear hHeld
        replace SV := Lib.hid (SV.out.keep b1 SV.out.top)
        replace BB := Lib.hid (BB.out.trans (b1.mono BB.out.size))
        clear b1
        try unfold rv
        go_wp2_with fail
        refine hK.out _ _ hHeld2 (fun hHeld => ?_)
        clear hK K hHeld2
        refine wpAnyH_take (i := 12) (v := .bool true) rfl (by kernel_rfl) (by kernel_rfl) (by kernel_rfl) (fun _ _ _ h => h) (Or.inl ⟨by kernel_rfl, fun w hSw => by have e := eqv_R xn xd w; have hm := eqg_R; go_simp⟩) hHeld ?_
        refine wpAnyH_take (i := 13) (v := .bool true) rfl (by kernel_rfl) (by kernel_rfl) (by kernel_rfl) (fun _ _ _ h => h) (Or.inl ⟨by kernel_rfl, fun w hSw => by go_simp⟩) hHeld ?_
        refine wpAnyH_take (i := 14) (v := .bool true) rfl (by kernel_rfl) (by kernel_rfl) (by kernel_rfl) (fun _ _ _ h => h) (Or.inl ⟨by kernel_rfl, fun w hSw => by go_simp⟩) hHeld ?_
        refine wpAnyH_take (i := 15) (v := .agg #[.int .i64 an, .int .i64 ad]) rfl (by kernel_rfl) (by kernel_rfl) (by kernel_rfl) (fun _ _ _ h => h) (yieldsIf_load_mid (by rfl) _ _ rfl (w1_.heap.size) 0 rfl [.int .i64 an, .int .i64 ad] _ (fun w h => (h.at_ (w1_.heap.size, [.int .i64 an, .int .i64 ad]) (by simp)).2) Try.underlying24 rfl (sizeRL _ _)) hHeld ?_
        refine wpAnyH_take (i := 16) (v := .agg #[.int .i64 bn, .int .i64 bd]) rfl (by kernel_rfl) (by kernel_rfl) (by kernel_rfl) (fun _ _ _ h => h) (yieldsIf_load_mid (by rfl) _ _ rfl (w3_.heap.size) 0 rfl [.int .i64 bn, .int .i64 bd] _ (fun w h => (h.at_ (w3_.heap.size, [.int .i64 bn, .int .i64 bd]) (by simp)).2) Try.underlying24 rfl (sizeRL _ _)) hHeld ?_
        refine wpAnyH_take (i := 18) (v := .agg #[.int .i64 bn, .int .i64 bd]) rfl (by kernel_rfl) (by kernel_rfl) (by kernel_rfl) (fun _ _ _ h => h) (yieldsIf_load_mid (by rfl) _ _ rfl (w3_.heap.size) 0 rfl [.int .i64 bn, .int .i64 bd] _ (fun w h => (h.at_ (w3_.heap.size, [.int .i64 bn, .int .i64 bd]) (by simp)).2) Try.underlying24 rfl (sizeRL _ _)) hHeld ?_
        refine wpAnyH_take (i := 19) (v := .agg #[.int .i64 an, .int .i64 ad]) rfl (by kernel_rfl) (by kernel_rfl) (by kernel_rfl) (fun _ _ _ h => h) (yieldsIf_load_mid (by rfl) _ _ rfl (w1_.heap.size) 0 rfl [.int .i64 an, .int .i64 ad] _ (fun w h => (h.at_ (w1_.heap.size, [.int .i64 an, .int .i64 ad]) (by simp)).2) Try.underlying24 rfl (sizeRL _ _)) hHeld ?_
        refine wpAnyH_ready (rs := [17]) (by kernel_rfl) (by simp) (AllReadyH.cons rfl (fun K hK => ?_) AllReadyH.nil)
        go_simp
        refine (rsum_impl an ad bn bd _ RT.out.nab.1 RT.out.nab.2.1 RT.out.nab.2.2.1 RT.out.nab.2.2.2).mono ?_
        rintro e v4 ⟨rfl, b1⟩
        rw [show rsF an ad bn bd = _ from RT.out.ab]
        have s_4 := b1.size
        have hHeld2 := hHeld.later b1 (by omega); clear hHeld
        replace SV := Lib.hid (SV.out.keep b1 SV.out.top)
        replace BB := Lib.hid (BB.out.trans (b1.mono BB.out.size))
        clear b1
        try unfold rv
        go_wp2_with fail
        refine hK.out _ _ hHeld2 (fun hHeld => ?_)
        clear hK K hHeld2
        refine wpAnyH_ready (rs := [20]) (by kernel_rfl) (by simp) (AllReadyH.cons rfl (fun K hK => ?_) AllReadyH.nil)
        go_simp
        refine (rsum_impl bn bd an ad _ RT.out.nba.1 RT.out.nba.2.1 RT.out.nba.2.2.1 RT.out.nba.2.2.2).mono ?_
        rintro e v5 ⟨rfl, b1⟩
        rw [show rsF bn bd an ad = _ from RT.out.ba]
        have s_5 := b1.size
        have hHeld2 := hHeld.later b1 (by omega); clear hHeld
        replace SV := Lib.hid (SV.out.keep b1 SV.out.top)
        replace BB := Lib.hid (BB.out.trans (b1.mono BB.out.size))
        clear b1
        try unfold rv
        go_wp2_with fail
        refine hK.out _ _ hHeld2 (fun hHeld => ?_)
        clear hK K hHeld2
        refine wpAnyH_take (i := 21) (v := .bool true) rfl (by kernel_rfl) (by kernel_rfl) (by kernel_rfl) (fun _ _ _ h => h) (Or.inl ⟨by kernel_rfl, fun w hSw => by have e := eqv_R pn pd w; have hm := eqg_R; go_simp⟩) hHeld ?_
        refine wpAnyH_take (i := 22) (v := .bool true) rfl (by kernel_rfl) (by kernel_rfl) (by kernel_rfl) (fun _ _ _ h => h) (Or.inl ⟨by kernel_rfl, fun w hSw => by go_simp⟩) hHeld ?_
        refine wpAnyH_take (i := 23) (v := .bool true) rfl (by kernel_rfl) (by kernel_rfl) (by kernel_rfl) (fun _ _ _ h => h) (Or.inl ⟨by kernel_rfl, fun w hSw => by go_simp⟩) hHeld ?_
        refine wpAnyH_take (i := 24) (v := .agg #[.int .i64 sn, .int .i64 sd]) rfl (by kernel_rfl) (by kernel_rfl) (by kernel_rfl) (fun _ _ _ h => h) (yieldsIf_load_mid (by rfl) _ _ rfl (w9_.heap.size) 0 rfl [.int .i64 sn, .int .i64 sd] _ (fun w h => (h.at_ (w9_.heap.size, [.int .i64 sn, .int .i64 sd]) (by simp)).2) Try.underlying24 rfl (sizeRL _ _)) hHeld ?_
        refine wpAnyH_ready (rs := [25]) (by kernel_rfl) (by simp) (AllReadyH.cons rfl (fun K hK => ?_) AllReadyH.nil)
        go_simp
        refine (rok_impl sn sd _ (by omega) (by omega) (by omega) (by omega)).mono ?_
        rintro e v6 ⟨rfl, b1⟩
        rw [show okR sn sd = true from VAL.out]
        have s_6 := b1.size
        have hHeld2 := hHeld.later b1 (by omega); clear hHeld
        replace SV := Lib.hid (SV.out.keep b1 SV.out.top)
        replace BB := Lib.hid (BB.out.trans (b1.mono BB.out.size))
        clear b1
        try unfold rv
        go_wp2_with fail
        refine hK.out _ _ hHeld2 (fun hHeld => ?_)
        clear hK K hHeld2
        refine wpAnyH_take (i := 26) (v := .bool true) rfl (by kernel_rfl) (by kernel_rfl) (by kernel_rfl) (fun _ _ _ h => h) (Or.inl ⟨by kernel_rfl, fun w hSw => by go_simp⟩) hHeld ?_
        refine wpAnyH_take (i := 27) (v := .bool true) rfl (by kernel_rfl) (by kernel_rfl) (by kernel_rfl) (fun _ _ _ h => h) (Or.inl ⟨by kernel_rfl, fun w hSw => by go_simp⟩) hHeld ?_
        refine wpAnyH_take (i := 28) (v := .agg #[.slice Ps N cs, .slice Qs N ds]) rfl (by kernel_rfl) (by kernel_rfl) (by kernel_rfl) (fun _ _ _ h => h) (yieldsIf_load_mid (by rfl) _ _ rfl (w7_.heap.size) 0 rfl [.slice Ps N cs, .slice Qs N ds] _ (fun w h => (h.at_ (w7_.heap.size, [.slice Ps N cs, .slice Qs N ds]) (by simp)).2) Try.underlying28 rfl (sizeS _ _)) hHeld ?_
        refine wpAnyH_take (i := 30) (v := .agg #[.int .i64 sn, .int .i64 sd]) rfl (by kernel_rfl) (by kernel_rfl) (by kernel_rfl) (fun _ _ _ h => h) (yieldsIf_load_mid (by rfl) _ _ rfl (w9_.heap.size) 0 rfl [.int .i64 sn, .int .i64 sd] _ (fun w h => (h.at_ (w9_.heap.size, [.int .i64 sn, .int .i64 sd]) (by simp)).2) Try.underlying24 rfl (sizeRL _ _)) hHeld ?_
        refine wpAnyH_ready (rs := [29]) (by kernel_rfl) (by simp) (AllReadyH.cons rfl (fun K hK => ?_) AllReadyH.nil)
        go_simp
        refine (mod_impl _ r u _ _ SV.out.rd (by rw [SFs.out.lr]; omega) (by rw [SFs.out.lu]; omega)).mono ?_
        rintro e v7 ⟨rfl, b1⟩
        rw [FIN.out]
        have s_7 := b1.size
        have hHeld2 := hHeld.later b1 (by omega); clear hHeld
        replace SV := Lib.hid (SV.out.keep b1 SV.out.top)
        replace BB := Lib.hid (BB.out.trans (b1.mono BB.out.size))
        clear b1
        try unfold rv
        go_wp2_with fail
        refine hK.out _ _ hHeld2 (fun hHeld => ?_)
        clear hK K hHeld2
        refine wpAnyH_take (i := 31) (v := .bool true) rfl (by kernel_rfl) (by kernel_rfl) (by kernel_rfl) (fun _ _ _ h => h) (Or.inl ⟨by kernel_rfl, fun w hSw => by have e := eqv_R sn sd w; have hm := eqg_R; go_simp⟩) hHeld ?_
        refine wpAnyH_take (i := 32) (v := .bool true) rfl (by kernel_rfl) (by kernel_rfl) (by kernel_rfl) (fun _ _ _ h => h) (Or.inl ⟨by kernel_rfl, fun w hSw => by go_simp⟩) hHeld ?_
        refine wpAnyH_take (i := 33) (v := .bool true) rfl (by kernel_rfl) (by kernel_rfl) (by kernel_rfl) (fun _ _ _ h => h) (Or.inl ⟨by kernel_rfl, fun w hSw => by go_simp⟩) hHeld ?_
        refine wpAnyH_ready (rs := [34]) (by kernel_rfl) (by simp) (AllReadyH.cons rfl (fun K hK => ?_) AllReadyH.nil)
        go_simp
        generalize hwa : v7.alloc (.cells #[.int .i64 2] 3) = v8
        have AL : Hid (Arr v8 v7.heap.size [.int .i64 2] 3) := Lib.hid (by rw [← hwa]; exact Arr.new _ _ _ rfl)
        have b1 : Below v7.heap.size v7 v8 := by rw [← hwa]; exact (Below.refl _ _).alloc (Nat.le_refl _) _
        clear hwa
        have s_8 := b1.size
        have hHeld2 := hHeld.later b1 (by omega); clear hHeld
        replace SV := Lib.hid (SV.out.keep b1 SV.out.top)
        replace BB := Lib.hid (BB.out.trans (b1.mono BB.out.size))
        clear b1
        refine hK.out _ _ hHeld2 (fun hHeld => ?_)
        clear hK K hHeld2
        refine wpAnyH_ready (rs := [35]) (by kernel_rfl) (by simp) (AllReadyH.cons rfl (fun K hK => ?_) AllReadyH.nil)
        go_simp
        refine (st_two v7.heap.size _ AL.out).mono ?_
        rintro e v9 ⟨rfl, b1⟩
        have s_9 := b1.size
        have hHeld2 := hHeld.later b1 (by omega); clear hHeld
        replace SV := Lib.hid (SV.out.keep b1 SV.out.top)
        replace BB := Lib.hid (BB.out.trans (b1.mono BB.out.size))
        clear b1
        try unfold rv
        go_wp2_with fail
        refine hK.out _ _ hHeld2 (fun hHeld => ?_)
        clear hK K hHeld2
        refine wpAnyH_ready (rs := [36]) (by kernel_rfl) (by simp) (AllReadyH.cons rfl (fun K hK => ?_) AllReadyH.nil)
        go_simp
        refine (rof_impl 2 9 _ (by omega) (by omega) (by omega) (by omega)).mono ?_
        rintro e v10 ⟨rfl, b1⟩
        rw [of29]
        have s_10 := b1.size
        have hHeld2 := hHeld.later b1 (by omega); clear hHeld
        replace SV := Lib.hid (SV.out.keep b1 SV.out.top)
        replace BB := Lib.hid (BB.out.trans (b1.mono BB.out.size))
        clear b1
        try unfold rv
        go_wp2_with fail
        refine hK.out _ _ hHeld2 (fun hHeld => ?_)
        clear hK K hHeld2
        refine wpAnyH_take (i := 37) (v := .bool true) rfl (by kernel_rfl) (by kernel_rfl) (by kernel_rfl) (fun _ _ _ h => h) (Or.inl ⟨by kernel_rfl, fun w hSw => by have e := eqv_R 2 9 w; have hm := eqg_R; go_simp⟩) hHeld ?_
        refine wpAnyH_take (i := 38) (v := .bool true) rfl (by kernel_rfl) (by kernel_rfl) (by kernel_rfl) (fun _ _ _ h => h) (Or.inl ⟨by kernel_rfl, fun w hSw => by go_simp⟩) hHeld ?_
        refine wpAnyH_take (i := 39) (v := .bool true) rfl (by kernel_rfl) (by kernel_rfl) (by kernel_rfl) (fun _ _ _ h => h) (Or.inl ⟨by kernel_rfl, fun w hSw => by go_simp⟩) hHeld ?_
        refine wpAnyH_done (by kernel_rfl) ?_ _
        try dsimp only [List.getElem_toArray, List.getElem_cons_zero, List.getElem_cons_succ]
        try simp only [Act.put, List.setIfInBounds_toArray, List.set_cons_zero, List.set_cons_succ]
        go_wp2_with fail
        go_ret
        refine ⟨?_, BB.out⟩
        first | kernel_rfl | (go_simp; done)

set_option maxRecDepth 100000 in
theorem lifted (os : Os) (started : os.Started) (H : Type) (enc : TypeId × Value → H) :
    ReturnsInHanded {} Try.checked os 3 .any (Rows.fnRatiosSpec.pre6 enc Try.prog Try.f3 Rows.fnRatiosRow.domain false) (Rows.fnRatiosSpec.post enc Try.prog Try.f3 false true false false) := by
  refine returnsInHanded_of_change (C := Try.checked) own started (by kernel_rfl) Try.func3
    (ChangeSpec.witness6 (enc := enc) (C := Try.checked) false ⟨#[], #[.slice none 0 0], []⟩ 8 (by kernel_rfl) (by kernel_rfl) (by kernel_rfl) (by kernel_rfl)) ?_
  intro W base args ds gs before hval0 hW hcnd _
  have hval : ∀ (j : Nat) t v, Try.f3.params[j]? = some t → args[j]? = some v → Value.okWide Try.prog W .any base t v := hval0
  have hW' := hW
  obtain ⟨p, q, hA0, hV, rfl, hfz, hnd⟩ := hW
  have hA : DataW.TrodAll enc Try.prog W 0 (fun _ => true) true Try.f3.params.toList args.toList ds p := hA0
  rw [Try.params3] at hA hval
  obtain ⟨v0, vs0, d0, ds0, p0, q0, hargs, rfl, rfl, h0, r0⟩ := trodAll_cons hA
  obtain ⟨rfl, rfl, rfl⟩ := trodAll_nil r0
  obtain rfl : args = #[v0] := by cases args; simp_all
  obtain ⟨rfl, rfl⟩ := trodVars_none hV
  obtain ⟨A0, n0, c0, rfl⟩ := okWide_slice Try.underlying22 (hval 0 22 v0 rfl rfl)
  have lt0 : ∀ x ∈ p0, x.block < W.heap.size := by obtain ⟨m, hm⟩ := h0; exact DataW.trod_lt m _ _ _ hm
  obtain ⟨x0, rd0, cn0, cm0, el0⟩ := open_B Try.underlying22 Try.underlying5 (by kernel_rfl) h0
  clear hA0 hval0
  refine (walk (w := W) A0 n0 c0 x0 rd0 cn0 cm0 el0).mono fun e W' ⟨he, bel⟩ => ?_
  subst he
  exact ⟨_, rfl, _, _, _, [], _, [], hW', trodAll_mk1 (shut_bool Try.underlying4 _), (trodAll_cons_mk (Below.trod laidOut (by kernel_rfl) (of_decide_eq_true (by kernel_rfl)) h0 bel lt0) trodAll_mk0), rfl, bel.frame _, fun h => by cases h⟩

theorem over : Rows.fnRatiosRow.holds Try.pinned (OpenSpec.ofChange Rows.fnRatiosSpec) :=
  OpenClaim.holds_of_wide 3 Try.f3 rfl rfl rfl rfl rfl rfl rfl ⟨rfl, rfl, rfl, rfl, rfl⟩ rfl rfl rfl rfl rfl (by kernel_rfl) Try.func3 (by kernel_rfl)
    (of_decide_eq_true (by kernel_rfl)) (by unfold Func.isWrapper; first | (rw [if_pos (by decide +kernel)]; kernel_rfl) | (rw [if_neg (by decide +kernel)]; exact ⟨rfl, rfl⟩))
    (fun os started H enc _ => lifted os started H enc)

theorem proved : Rows.FnRatiosSaid :=
  over
#print axioms proved
end Go.Proofs.Ytngglhbcpeigcaa.fnRatios
