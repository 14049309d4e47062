/-
  FnExactVisits: at every argument the law FnExactVisits returns true, and its arguments read as before. No condition.
-/
import Derived.Test.YtkkklpchkkdhfaaRows
import Derived.WalkKit
import Derived.ProofKit
import Derived.OpenShut
import Derived.ShutString
import Derived.ChangeOld
import Derived.Below
import Derived.Test.YtkkklpchkkdhfaaRg
import Derived.Test.YtkkklpchkkdhfaaUz
namespace Go.Proofs.Ytkkklpchkkdhfaa.fnExactVisits
open Go.ChangeShapes Go.WideShapes Go.ChangeAt Go.RowKit
open Go.ChangeMaps (open_string shut_string)
open Go.Proofs.Ytkkklpchkkdhfaa.mem Go.Proofs.Ytkkklpchkkdhfaa.ints Go.Proofs.Ytkkklpchkkdhfaa.arr Go.Proofs.Ytkkklpchkkdhfaa.sf Go.Proofs.Ytkkklpchkkdhfaa.pm Go.Proofs.Ytkkklpchkkdhfaa.gl Go.Proofs.Ytkkklpchkkdhfaa.fns Go.Proofs.Ytkkklpchkkdhfaa.dr Go.Proofs.Ytkkklpchkkdhfaa.pth
set_option linter.unusedVariables false
set_option maxRecDepth 100000

theorem own : ownKnob Try.prog.godebug = none := by kernel_rfl
theorem laidOut : laidOutB Try.prog = true := by kernel_rfl

set_option maxHeartbeats 4000000 in
theorem walk (w : World) (v0 : Value) (x0 u0 : List Int) (a1 : Int) (a2 : Int) (a3 : Int) (rd0 : Srd w w.heap.size v0 x0 u0) (lx0 : x0.length ≤ maxLen) (lu0 : u0.length ≤ maxLen) (ha1 : (Lit.int .i64 a1).wf = true) (ha2 : (Lit.int .i64 a2).wf = true) (ha3 : (Lit.int .i64 a3).wf = true) :
    Calls Try.prog 8 #[v0, .int .i64 a1, .int .i64 a2, .int .i64 a3] w fun e w' => e = .returned (.bool true) ∧ Below w.heap.size w w' := by
  obtain ⟨P0, n0, c0, Q0, m0, d0, rfl, rp0, rq0, ec0, ed0⟩ := rd0
  have L0 : x0.length = n0 := by simpa [V] using rp0.1
  have M0 : u0.length = m0 := by simpa [V] using rq0.1
  have RD0 : Hid (Srd w w.heap.size (.agg #[.slice P0 n0 c0, .slice Q0 m0 d0]) x0 u0) := Lib.hid ⟨_, _, _, _, _, _, rfl, rp0, rq0, ec0, ed0⟩; clear rp0 rq0; unfold maxLen at lx0 lu0
  obtain ⟨lo1, hi1⟩ : -9223372036854775808 ≤ a1 ∧ a1 ≤ 9223372036854775807 := by simpa [Lit.wf, IntKind.min, IntKind.max, IntKind.signed, IntKind.bits] using ha1
  clear ha1
  obtain ⟨lo2, hi2⟩ : -9223372036854775808 ≤ a2 ∧ a2 ≤ 9223372036854775807 := by simpa [Lit.wf, IntKind.min, IntKind.max, IntKind.signed, IntKind.bits] using ha2
  clear ha2
  obtain ⟨lo3, hi3⟩ : -9223372036854775808 ≤ a3 ∧ a3 ≤ 9223372036854775807 := by simpa [Lit.wf, IntKind.min, IntKind.max, IntKind.signed, IntKind.bits] using ha3
  clear ha3
  have BB := Lib.hid (Below.refl w.heap.size w)
  go_enter Try.func8, Try.ntmps8
  go_wp2_with fail
  generalize hw0 : (w.alloc (.cells #[.slice P0 n0 c0, .slice Q0 m0 d0] 41)) = w1_
  have BA0 : Hid (Arr w1_ (w.heap.size) [.slice P0 n0 c0, .slice Q0 m0 d0] 41) := Lib.hid (by rw [← hw0]; exact (Arr.new w [.slice P0 n0 c0, .slice Q0 m0 d0] 41 (g := w.heap.size) (by simp <;> omega)))
  have BA0_0 := BA0.out.cell (k := 0) rfl; have BA0_1 := BA0.out.cell (k := 1) rfl
  replace BB : Hid (Below w.heap.size w w1_) := Lib.hid (by rw [← hw0]; exact ((Below.refl w.heap.size w).alloc (by simp <;> omega) _))
  have s1 : w.heap.size + 1 = w1_.heap.size := by rw [← hw0]; simp
  clear hw0
  refine (sz_any P0 n0 c0 Q0 m0 d0 (1048576) _ (by omega) (by omega) (by omega) (by omega)).mono ?_
  rintro e w2_ ⟨rfl, b1⟩
  by_cases z0 : (1048576 : Int) < (n0 : Int) + m0
  · rw [if_pos z0]
    go_wp2_with fail
    go_ret
    exact ⟨rfl, BB.out.trans (b1.mono BB.out.size)⟩
  rw [if_neg z0]
  have zz0 : decide ((1048576 : Int) - n0 - m0 < 0) = false := by simp; omega
  have s2 := b1.size
  clear BA0_0 BA0_1
  replace BA0 := Lib.hid (BA0.out.keep b1 BA0.out.lt)
  have BA0_0 := BA0.out.cell (k := 0) rfl; have BA0_1 := BA0.out.cell (k := 1) rfl
  replace BB := Lib.hid (BB.out.trans (b1.mono BB.out.size))
  clear b1
  go_wp2_with fail
  refine (toS_any _ x0 u0 _ _ (RD0.out.keep BB.out (Nat.le_refl _)) (by omega) (by omega)).mono ?_
  rintro e w3_ ⟨v, rfl, o1, b1⟩
  obtain ⟨PRS0, cRS0, QRS0, dRS0, rfl⟩ := o1.lens L0 M0
  have NR := Lib.hid o1; clear o1
  have s3 := b1.size
  clear BA0_0 BA0_1
  replace BA0 := Lib.hid (BA0.out.keep b1 BA0.out.lt)
  have BA0_0 := BA0.out.cell (k := 0) rfl; have BA0_1 := BA0.out.cell (k := 1) rfl
  replace BB := Lib.hid (BB.out.trans (b1.mono BB.out.size))
  clear b1
  have RS0 := NR; clear NR
  go_wp2_with fail
  refine (vi_spec _ x0 u0 a1 a2 a3 _ _ RS0.out.rd (by omega) (by omega) lo1 hi1 lo2 hi2 lo3 hi3).mono ?_
  rintro e w4_ ⟨v, rfl, o1, b1⟩
  obtain ⟨PRW, cRW, rfl⟩ := own_form o1
  have NR := Lib.hid (Row.of_own o1); clear o1
  have s4 := b1.size
  clear BA0_0 BA0_1
  replace BA0 := Lib.hid (BA0.out.keep b1 BA0.out.lt)
  have BA0_0 := BA0.out.cell (k := 0) rfl; have BA0_1 := BA0.out.cell (k := 1) rfl
  replace RS0 := Lib.hid (RS0.out.keep b1 RS0.out.top)
  replace BB := Lib.hid (BB.out.trans (b1.mono BB.out.size))
  clear b1
  have RW := NR; clear NR
  clear RS0
  go_wp2_with fail
  refine (toS_any _ x0 u0 _ _ (RD0.out.keep BB.out (Nat.le_refl _)) (by omega) (by omega)).mono ?_
  rintro e w5_ ⟨v, rfl, o1, b1⟩
  obtain ⟨PRX0, cRX0, QRX0, dRX0, rfl⟩ := o1.lens L0 M0
  have NR := Lib.hid o1; clear o1
  have s5 := b1.size
  clear BA0_0 BA0_1
  replace BA0 := Lib.hid (BA0.out.keep b1 BA0.out.lt)
  have BA0_0 := BA0.out.cell (k := 0) rfl; have BA0_1 := BA0.out.cell (k := 1) rfl
  replace RW := Lib.hid (RW.out.keep b1 RW.out.2.1)
  replace BB := Lib.hid (BB.out.trans (b1.mono BB.out.size))
  clear b1
  have RX0 := NR; clear NR
  go_wp2_with (refine wpList_store_row rfl 32 _ _ rfl w5_.heap.size #[.slice PRX0 n0 cRX0, .slice QRX0 m0 dRX0] rfl rfl 32 #[.slice none 0 0, .slice none 0 0] (Arr.new w5_ [.slice none 0 0, .slice none 0 0] _ rfl) size2 rfl (by simp [Value.oneCell']) ?_; generalize hw : (w5_.alloc (.cells #[.slice none 0 0, .slice none 0 0] 32)).setRow w5_.heap.size #[.slice PRX0 n0 cRX0, .slice QRX0 m0 dRX0] = w6_; have NB : Hid (Arr w6_ w5_.heap.size [.slice PRX0 n0 cRX0, .slice QRX0 m0 dRX0] 32) := Lib.hid (by rw [← hw]; exact (Arr.new w5_ [.slice none 0 0, .slice none 0 0] _ rfl).row); have b1 : Below w5_.heap.size w5_ w6_ := (by rw [← hw]; exact below_setRow ((Below.refl _ _).alloc (Nat.le_refl _) _) (Nat.le_refl _) _); have t6 : w5_.heap.size + 1 ≤ w6_.heap.size := (by rw [← hw]; simp); clear hw; have s6 := b1.size; clear BA0_0 BA0_1; replace BA0 := Lib.hid (BA0.out.keep b1 BA0.out.lt); have BA0_0 := BA0.out.cell (k := 0) rfl; have BA0_1 := BA0.out.cell (k := 1) rfl; replace RW := Lib.hid (RW.out.keep b1 RW.out.2.1); replace RX0 := Lib.hid (RX0.out.keep b1 RX0.out.top); replace BB := Lib.hid (BB.out.trans (b1.mono BB.out.size)); clear b1; have BX0 := NB; clear NB; have BX0_0 := BX0.out.cell (k := 0) rfl; have BX0_1 := BX0.out.cell (k := 1) rfl)
  go_wp2_with fail
  refine (vi_impl _ x0 u0 a1 a2 a3 _ _ RX0.out.rd (by omega) (by omega) lo1 hi1 lo2 hi2 lo3 hi3).mono ?_
  rintro e w7_ ⟨v, rfl, o1, b1⟩
  obtain ⟨PRG, cRG, rfl⟩ := own_form o1
  have NR := Lib.hid (Row.of_own o1); clear o1
  have s7 := b1.size
  clear BA0_0 BA0_1
  replace BA0 := Lib.hid (BA0.out.keep b1 BA0.out.lt)
  have BA0_0 := BA0.out.cell (k := 0) rfl; have BA0_1 := BA0.out.cell (k := 1) rfl
  replace RW := Lib.hid (RW.out.keep b1 RW.out.2.1)
  replace RX0 := Lib.hid (RX0.out.keep b1 RX0.out.top)
  clear BX0_0 BX0_1
  replace BX0 := Lib.hid (BX0.out.keep b1 BX0.out.lt)
  have BX0_0 := BX0.out.cell (k := 0) rfl; have BX0_1 := BX0.out.cell (k := 1) rfl
  replace BB := Lib.hid (BB.out.trans (b1.mono BB.out.size))
  clear b1
  have RG := NR; clear NR
  have gl : (viF x0 u0 a1 a2 a3).length ≤ 1048576 := viF_len x0 u0 a1 a2 a3
  go_wp2_with fail
  refine (eq_any PRG (viF x0 u0 a1 a2 a3).length cRG PRW (viF x0 u0 a1 a2 a3).length cRW (viF x0 u0 a1 a2 a3) (viF x0 u0 a1 a2 a3) _ _ _ RG.out.rd RW.out.rd (by unfold maxLen; omega) (by unfold maxLen; omega)).mono ?_
  rintro e w8_ ⟨rfl, hd⟩
  rw [eqi_self]
  have b1 := hd.below w7_.heap.size; clear hd
  have s8 := b1.size
  clear BA0_0 BA0_1
  replace BA0 := Lib.hid (BA0.out.keep b1 BA0.out.lt)
  have BA0_0 := BA0.out.cell (k := 0) rfl; have BA0_1 := BA0.out.cell (k := 1) rfl
  replace RW := Lib.hid (RW.out.keep b1 RW.out.2.1)
  replace RX0 := Lib.hid (RX0.out.keep b1 RX0.out.top)
  clear BX0_0 BX0_1
  replace BX0 := Lib.hid (BX0.out.keep b1 BX0.out.lt)
  have BX0_0 := BX0.out.cell (k := 0) rfl; have BX0_1 := BX0.out.cell (k := 1) rfl
  replace RG := Lib.hid (RG.out.keep b1 RG.out.2.1)
  replace BB := Lib.hid (BB.out.trans (b1.mono BB.out.size))
  clear b1
  go_wp2_with fail
  refine wp_region_held_drew (S := Hld w8_.heap.size w8_.heap.size w8_ [(w5_.heap.size, [.slice PRX0 n0 cRX0, .slice QRX0 m0 dRX0]), (w.heap.size, [.slice P0 n0 c0, .slice Q0 m0 d0])]) (by kernel_rfl) (Hld.start2 BX0.out BA0.out) (fun hHeld => ?_)
  have b1 := hHeld.below
  generalize w8_.drew = w9_ at *
  have s9 := b1.size
  clear BA0_0 BA0_1
  replace BA0 := Lib.hid (BA0.out.keep b1 BA0.out.lt)
  have BA0_0 := BA0.out.cell (k := 0) rfl; have BA0_1 := BA0.out.cell (k := 1) rfl
  replace RW := Lib.hid (RW.out.keep b1 RW.out.2.1)
  replace RX0 := Lib.hid (RX0.out.keep b1 RX0.out.top)
  clear BX0_0 BX0_1
  replace BX0 := Lib.hid (BX0.out.keep b1 BX0.out.lt)
  have BX0_0 := BX0.out.cell (k := 0) rfl; have BX0_1 := BX0.out.cell (k := 1) rfl
  replace RG := Lib.hid (RG.out.keep b1 RG.out.2.1)
  replace BB := Lib.hid (BB.out.trans (b1.mono BB.out.size))
  clear b1
  refine wpAnyH_take (i := 0) (v := .agg #[.slice PRX0 n0 cRX0, .slice QRX0 m0 dRX0]) rfl (by kernel_rfl) (by kernel_rfl) (by kernel_rfl) (fun _ _ _ h => h) (yieldsIf_load_mid (by rfl) _ _ rfl (w5_.heap.size) 0 rfl [.slice PRX0 n0 cRX0, .slice QRX0 m0 dRX0] _ (fun w h => h.fst) Try.underlying32 rfl (sizeS _ _)) hHeld ?_
  refine wpAnyH_take (i := 1) (v := .agg #[.slice P0 n0 c0, .slice Q0 m0 d0]) rfl (by kernel_rfl) (by kernel_rfl) (by kernel_rfl) (fun _ _ _ h => h) (yieldsIf_load_mid (by rfl) _ _ rfl (w.heap.size) 0 rfl [.slice P0 n0 c0, .slice Q0 m0 d0] _ (fun w h => h.snd) Try.underlying41 rfl (sizeL _ _)) hHeld ?_
  refine wpAnyH_ready (rs := [2]) (by kernel_rfl) (by simp) (AllReadyH.cons rfl (fun K hK => ?_) AllReadyH.nil)
  go_simp
  refine (toS_any _ x0 u0 _ _ (RD0.out.keep BB.out (Nat.le_refl _)) (by omega) (by omega)).mono ?_
  rintro e w10_ ⟨v, rfl, o1, b1⟩
  have hb1 := b1
  have RT := Lib.hid o1; clear o1
  have s10 := b1.size
  clear BA0_0 BA0_1
  replace BA0 := Lib.hid (BA0.out.keep b1 BA0.out.lt)
  have BA0_0 := BA0.out.cell (k := 0) rfl; have BA0_1 := BA0.out.cell (k := 1) rfl
  replace RW := Lib.hid (RW.out.keep b1 RW.out.2.1)
  replace RX0 := Lib.hid (RX0.out.keep b1 RX0.out.top)
  clear BX0_0 BX0_1
  replace BX0 := Lib.hid (BX0.out.keep b1 BX0.out.lt)
  have BX0_0 := BX0.out.cell (k := 0) rfl; have BX0_1 := BX0.out.cell (k := 1) rfl
  replace RG := Lib.hid (RG.out.keep b1 RG.out.2.1)
  replace BB := Lib.hid (BB.out.trans (b1.mono BB.out.size))
  clear b1
  go_wp2_with fail
  have hHeld2 := hHeld.later hb1 (Nat.le_refl _); clear hb1 hHeld
  refine hK.out _ _ hHeld2 (fun hHeld => ?_)
  clear hK K hHeld2
  refine wpAnyH_ready (rs := [3]) (by kernel_rfl) (by simp) (AllReadyH.cons rfl (fun K hK => ?_) AllReadyH.nil)
  go_simp
  refine (eqS_any _ _ x0 u0 x0 u0 _ _ _ RX0.out.rd RT.out.rd (by omega) (by omega) (by omega) (by omega)).mono ?_
  rintro e w11_ ⟨rfl, b1⟩
  have hb1 := b1
  have s11 := b1.size
  clear BA0_0 BA0_1
  replace BA0 := Lib.hid (BA0.out.keep b1 BA0.out.lt)
  have BA0_0 := BA0.out.cell (k := 0) rfl; have BA0_1 := BA0.out.cell (k := 1) rfl
  replace RW := Lib.hid (RW.out.keep b1 RW.out.2.1)
  replace RX0 := Lib.hid (RX0.out.keep b1 RX0.out.top)
  clear BX0_0 BX0_1
  replace BX0 := Lib.hid (BX0.out.keep b1 BX0.out.lt)
  have BX0_0 := BX0.out.cell (k := 0) rfl; have BX0_1 := BX0.out.cell (k := 1) rfl
  replace RG := Lib.hid (RG.out.keep b1 RG.out.2.1)
  replace RT := Lib.hid (RT.out.keep b1 RT.out.top)
  replace BB := Lib.hid (BB.out.trans (b1.mono BB.out.size))
  clear b1
  rw [eqi_self, eqi_self]
  go_wp2_with fail
  have hHeld2 := hHeld.later hb1 (Nat.le_refl _); clear hb1 hHeld
  refine hK.out _ _ hHeld2 (fun hHeld => ?_)
  clear hK K hHeld2
  refine wpAnyH_ready (rs := [4]) (by kernel_rfl) (by simp) (AllReadyH.cons rfl (fun K hK => ?_) AllReadyH.nil)
  go_simp
  refine hK.out _ _ hHeld (fun hHeld2 => ?_)
  clear hK K hHeld hHeld2
  refine wpAnyH_done (by kernel_rfl) ?_ _
  clear RT
  go_wp2_with fail
  refine (markS_any _ x0 u0 _ _ (1) _ RX0.out (by omega) (by omega) (by omega) (by omega)).mono ?_
  rintro e w12_ ⟨rfl, rM, oM⟩
  have s12 := oM.size
  clear BA0_0 BA0_1
  replace BA0 := Lib.hid (BA0.out.out oM (by omega))
  have BA0_0 := BA0.out.cell (k := 0) rfl; have BA0_1 := BA0.out.cell (k := 1) rfl
  replace RW := Lib.hid (RW.out.out oM (by omega))
  clear BX0_0 BX0_1
  replace BX0 := Lib.hid (BX0.out.out oM (by omega))
  have BX0_0 := BX0.out.cell (k := 0) rfl; have BX0_1 := BX0.out.cell (k := 1) rfl
  replace RG := Lib.hid (RG.out.out oM (by omega))
  replace RX0 := Lib.hid rM; clear rM
  replace BB := Lib.hid (BB.out.trans (oM.below (by omega) (by omega)))
  clear oM
  clear RX0
  clear BX0 BX0_0 BX0_1
  go_wp2_with fail
  refine (eq_any PRG (viF x0 u0 a1 a2 a3).length cRG PRW (viF x0 u0 a1 a2 a3).length cRW (viF x0 u0 a1 a2 a3) (viF x0 u0 a1 a2 a3) _ _ _ RG.out.rd RW.out.rd (by unfold maxLen; omega) (by unfold maxLen; omega)).mono ?_
  rintro e w13_ ⟨rfl, hd⟩
  rw [eqi_self]
  have b1 := hd.below w12_.heap.size; clear hd
  have s13 := b1.size
  clear BA0_0 BA0_1
  replace BA0 := Lib.hid (BA0.out.keep b1 BA0.out.lt)
  have BA0_0 := BA0.out.cell (k := 0) rfl; have BA0_1 := BA0.out.cell (k := 1) rfl
  replace RW := Lib.hid (RW.out.keep b1 RW.out.2.1)
  replace RG := Lib.hid (RG.out.keep b1 RG.out.2.1)
  replace BB := Lib.hid (BB.out.trans (b1.mono BB.out.size))
  clear b1
  go_wp2_with fail
  refine (mark_any PRG (viF x0 u0 a1 a2 a3).length cRG _ _ _ (1) _ RG.out (by omega) (by omega) (by omega)).mono ?_
  rintro e w14_ ⟨rfl, rM, oM⟩
  have s14 := oM.size
  clear BA0_0 BA0_1
  replace BA0 := Lib.hid (BA0.out.out oM (by omega))
  have BA0_0 := BA0.out.cell (k := 0) rfl; have BA0_1 := BA0.out.cell (k := 1) rfl
  replace RW := Lib.hid (RW.out.out oM (by omega))
  replace RG := Lib.hid rM; clear rM
  replace BB := Lib.hid (BB.out.trans (oM.below (by omega) (by omega)))
  clear oM
  go_wp2_with fail
  refine (held_any PRG (viF x0 u0 a1 a2 a3).length cRG _ _ 1 _ RG.out (by omega) (by omega) (by omega)).mono ?_
  rintro e w15_ ⟨rfl, hd⟩
  have b1 := hd.below w14_.heap.size; clear hd
  have s15 := b1.size
  clear BA0_0 BA0_1
  replace BA0 := Lib.hid (BA0.out.keep b1 BA0.out.lt)
  have BA0_0 := BA0.out.cell (k := 0) rfl; have BA0_1 := BA0.out.cell (k := 1) rfl
  replace RW := Lib.hid (RW.out.keep b1 RW.out.2.1)
  replace RG := Lib.hid (RG.out.keep b1 RG.out.2.1)
  replace BB := Lib.hid (BB.out.trans (b1.mono BB.out.size))
  clear b1
  go_wp2_with fail
  refine (toS_any _ x0 u0 _ _ (RD0.out.keep BB.out (Nat.le_refl _)) (by omega) (by omega)).mono ?_
  rintro e w16_ ⟨v, rfl, o1, b1⟩
  obtain ⟨PRY0, cRY0, QRY0, dRY0, rfl⟩ := o1.lens L0 M0
  have NR := Lib.hid o1; clear o1
  have s16 := b1.size
  clear BA0_0 BA0_1
  replace BA0 := Lib.hid (BA0.out.keep b1 BA0.out.lt)
  have BA0_0 := BA0.out.cell (k := 0) rfl; have BA0_1 := BA0.out.cell (k := 1) rfl
  replace RW := Lib.hid (RW.out.keep b1 RW.out.2.1)
  replace RG := Lib.hid (RG.out.keep b1 RG.out.2.1)
  replace BB := Lib.hid (BB.out.trans (b1.mono BB.out.size))
  clear b1
  have RY0 := NR; clear NR
  go_wp2_with fail
  refine (vi_impl _ x0 u0 a1 a2 a3 _ _ RY0.out.rd (by omega) (by omega) lo1 hi1 lo2 hi2 lo3 hi3).mono ?_
  rintro e w17_ ⟨v, rfl, o1, b1⟩
  obtain ⟨PRH, cRH, rfl⟩ := own_form o1
  have NR := Lib.hid (Row.of_own o1); clear o1
  have s17 := b1.size
  clear BA0_0 BA0_1
  replace BA0 := Lib.hid (BA0.out.keep b1 BA0.out.lt)
  have BA0_0 := BA0.out.cell (k := 0) rfl; have BA0_1 := BA0.out.cell (k := 1) rfl
  replace RW := Lib.hid (RW.out.keep b1 RW.out.2.1)
  replace RG := Lib.hid (RG.out.keep b1 RG.out.2.1)
  replace RY0 := Lib.hid (RY0.out.keep b1 RY0.out.top)
  replace BB := Lib.hid (BB.out.trans (b1.mono BB.out.size))
  clear b1
  have RH := NR; clear NR
  clear RY0
  go_wp2_with fail
  refine (eq_any PRH (viF x0 u0 a1 a2 a3).length cRH PRW (viF x0 u0 a1 a2 a3).length cRW (viF x0 u0 a1 a2 a3) (viF x0 u0 a1 a2 a3) _ _ _ RH.out.rd RW.out.rd (by unfold maxLen; omega) (by unfold maxLen; omega)).mono ?_
  rintro e w18_ ⟨rfl, hd⟩
  rw [eqi_self]
  have b1 := hd.below w17_.heap.size; clear hd
  have s18 := b1.size
  clear BA0_0 BA0_1
  replace BA0 := Lib.hid (BA0.out.keep b1 BA0.out.lt)
  have BA0_0 := BA0.out.cell (k := 0) rfl; have BA0_1 := BA0.out.cell (k := 1) rfl
  replace RW := Lib.hid (RW.out.keep b1 RW.out.2.1)
  replace RG := Lib.hid (RG.out.keep b1 RG.out.2.1)
  replace RH := Lib.hid (RH.out.keep b1 RH.out.2.1)
  replace BB := Lib.hid (BB.out.trans (b1.mono BB.out.size))
  clear b1
  clear RH
  clear RW
  go_wp2_with fail
  refine (held_any PRG (viF x0 u0 a1 a2 a3).length cRG _ _ 1 _ RG.out (by omega) (by omega) (by omega)).mono ?_
  rintro e w19_ ⟨rfl, hd⟩
  have b1 := hd.below w18_.heap.size; clear hd
  have s19 := b1.size
  clear BA0_0 BA0_1
  replace BA0 := Lib.hid (BA0.out.keep b1 BA0.out.lt)
  have BA0_0 := BA0.out.cell (k := 0) rfl; have BA0_1 := BA0.out.cell (k := 1) rfl
  replace RG := Lib.hid (RG.out.keep b1 RG.out.2.1)
  replace BB := Lib.hid (BB.out.trans (b1.mono BB.out.size))
  clear b1
  go_wp2_with fail
  go_ret
  exact ⟨rfl, BB.out⟩

set_option maxRecDepth 100000 in
theorem lifted (os : Os) (started : os.Started) (H : Type) (enc : TypeId × Value → H) :
    ReturnsInHanded {} Try.checked os 8 .any (Rows.fnExactVisitsSpec.pre6 enc Try.prog Try.f8 Rows.fnExactVisitsRow.domain false) (Rows.fnExactVisitsSpec.post enc Try.prog Try.f8 false true false false) := by
  refine returnsInHanded_of_change (C := Try.checked) own started (by kernel_rfl) Try.func8
    (ChangeSpec.witness6 (enc := enc) (C := Try.checked) false ⟨#[], #[.agg #[.slice none 0 0, .slice none 0 0], .int .i64 0, .int .i64 0, .int .i64 0], []⟩ 8 (by kernel_rfl) (by kernel_rfl) (by kernel_rfl) (by kernel_rfl)) ?_
  intro W base args ds gs before hval0 hW hcnd _
  have hval : ∀ (j : Nat) t v, Try.f8.params[j]? = some t → args[j]? = some v → Value.okWide Try.prog W .any base t v := hval0
  have hW' := hW
  obtain ⟨p, q, hA0, hV, rfl, hfz, hnd⟩ := hW
  have hA : DataW.TrodAll enc Try.prog W 0 (fun _ => true) true Try.f8.params.toList args.toList ds p := hA0
  rw [Try.params8] at hA hval
  obtain ⟨v0, vs0, d0, ds0, p0, q0, hargs, rfl, rfl, h0, r0⟩ := trodAll_cons hA
  obtain ⟨v1, vs1, d1, ds1, p1, q1, rfl, rfl, rfl, h1, r1⟩ := trodAll_cons r0
  obtain ⟨v2, vs2, d2, ds2, p2, q2, rfl, rfl, rfl, h2, r2⟩ := trodAll_cons r1
  obtain ⟨v3, vs3, d3, ds3, p3, q3, rfl, rfl, rfl, h3, r3⟩ := trodAll_cons r2
  obtain ⟨rfl, rfl, rfl⟩ := trodAll_nil r3
  obtain rfl : args = #[v0, v1, v2, v3] := by cases args; simp_all
  obtain ⟨rfl, rfl⟩ := trodVars_none hV
  have lt0 : ∀ x ∈ p0, x.block < W.heap.size := by obtain ⟨m, hm⟩ := h0; exact DataW.trod_lt m _ _ _ hm
  obtain ⟨x0, u0, rd0, lx0, lu0⟩ := sf.open_S Try.underlying41 (by kernel_rfl) (by kernel_rfl) Try.underlying30 Try.underlying30 Try.underlying3 (by kernel_rfl) (hval 0 41 v0 rfl rfl) h0
  obtain ⟨a1, rfl, rfl, rfl, w1⟩ := open_int Try.underlying3 (hval 1 3 v1 rfl rfl) h1
  obtain ⟨a2, rfl, rfl, rfl, w2⟩ := open_int Try.underlying3 (hval 2 3 v2 rfl rfl) h2
  obtain ⟨a3, rfl, rfl, rfl, w3⟩ := open_int Try.underlying3 (hval 3 3 v3 rfl rfl) h3
  clear hA0 hval0
  refine (walk (w := W) v0 x0 u0 a1 a2 a3 rd0 lx0 lu0 w1 w2 w3).mono fun e W' ⟨he, bel⟩ => ?_
  subst he
  exact ⟨_, rfl, _, _, _, [], _, [], hW', trodAll_mk1 (shut_bool Try.underlying4 _), (trodAll_cons_mk (Below.trod laidOut (by kernel_rfl) (of_decide_eq_true (by kernel_rfl)) h0 bel lt0) (trodAll_cons_mk (shut_int Try.underlying3 w1) (trodAll_cons_mk (shut_int Try.underlying3 w2) (trodAll_cons_mk (shut_int Try.underlying3 w3) trodAll_mk0)))), rfl, bel.frame _, fun h => by cases h⟩

theorem over : Rows.fnExactVisitsRow.holds Try.pinned (OpenSpec.ofChange Rows.fnExactVisitsSpec) :=
  OpenClaim.holds_of_wide 8 Try.f8 rfl rfl rfl rfl rfl rfl rfl ⟨rfl, rfl, rfl, rfl, rfl⟩ rfl rfl rfl rfl rfl (by kernel_rfl) Try.func8 (by kernel_rfl)
    (of_decide_eq_true (by kernel_rfl)) (by unfold Func.isWrapper; first | (rw [if_pos (by decide +kernel)]; kernel_rfl) | (rw [if_neg (by decide +kernel)]; exact ⟨rfl, rfl⟩))
    (fun os started H enc _ => lifted os started H enc)

theorem proved : Rows.FnExactVisitsSaid :=
  over
#print axioms proved
end Go.Proofs.Ytkkklpchkkdhfaa.fnExactVisits
