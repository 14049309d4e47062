/-
  FnExactOrbitWord: at every argument the law FnExactOrbitWord returns true, and its arguments read as before. No condition.
-/
import Derived.Test.YtgcnemkhppkkcaaRows
import Derived.Conc.LeavingOf
import Derived.Test.YtgcnemkhppkkcaaZ05
import Derived.WalkKit
import Derived.ProofKit
import Derived.OpenShut
import Derived.ShutString
import Derived.ChangeOld
import Derived.Below
import Derived.Test.YtgcnemkhppkkcaaZ22
namespace Go.Proofs.Ytgcnemkhppkkcaa.fnExactOrbitWord
open Go.ChangeShapes Go.WideShapes Go.ChangeAt Go.RowKit
open Go.ChangeMaps (open_string shut_string)
open mem ints arr sf pm orb
open Go.Proofs.Ytgcnemkhppkkcaa.sq (AR.one AR.push)
set_option linter.unusedVariables false
set_option maxRecDepth 100000
theorem own : ownKnob Try.prog.godebug = none := by kernel_rfl
theorem laidOut : laidOutB Try.prog = true := by kernel_rfl
set_option maxHeartbeats 4000000 in
theorem walk (w : World) (v0 : Value) (x0 u0 : List Int) (v1 : Value) (x1 u1 : List Int) (rd0 : Srd w w.heap.size v0 x0 u0) (lx0 : x0.length ≤ maxLen) (lu0 : u0.length ≤ maxLen) (rd1 : Srd w w.heap.size v1 x1 u1) (lx1 : x1.length ≤ maxLen) (lu1 : u1.length ≤ maxLen) :
    Calls sqp.prog 4 #[v0, v1] w fun e w' => e = .returned (.bool true) ∧ Below w.heap.size w w' := by
  obtain ⟨P0, n0, c0, Q0, m0, d0, rfl, rp0, rq0, ec0, ed0⟩ := rd0
  have L0 : x0.length = n0 := by simpa [V] using rp0.1
  have M0 : u0.length = m0 := by simpa [V] using rq0.1
  have RD0 : Hid (Srd w w.heap.size (.agg #[.slice P0 n0 c0, .slice Q0 m0 d0]) x0 u0) := Lib.hid ⟨_, _, _, _, _, _, rfl, rp0, rq0, ec0, ed0⟩; clear rp0 rq0; unfold maxLen at lx0 lu0
  obtain ⟨P1, n1, c1, Q1, m1, d1, rfl, rp1, rq1, ec1, ed1⟩ := rd1
  have L1 : x1.length = n1 := by simpa [V] using rp1.1
  have M1 : u1.length = m1 := by simpa [V] using rq1.1
  have RD1 : Hid (Srd w w.heap.size (.agg #[.slice P1 n1 c1, .slice Q1 m1 d1]) x1 u1) := Lib.hid ⟨_, _, _, _, _, _, rfl, rp1, rq1, ec1, ed1⟩; clear rp1 rq1; unfold maxLen at lx1 lu1
  have BB := Lib.hid (Below.refl w.heap.size w)
  go_enter sqp.func4, sqp.ntmps4
  go_wp2_with fail
  generalize hw0 : ((w.alloc (.cells #[.slice P0 n0 c0, .slice Q0 m0 d0] 40)).alloc (.cells #[.slice P1 n1 c1, .slice Q1 m1 d1] 40)) = w1_
  have BA0 : Hid (Arr w1_ (w.heap.size) [.slice P0 n0 c0, .slice Q0 m0 d0] 40) := Lib.hid (by rw [← hw0]; exact ((Arr.new w [.slice P0 n0 c0, .slice Q0 m0 d0] 40 (g := w.heap.size) (by simp <;> omega)).alloc _))
  have BA0_0 := BA0.out.cell (k := 0) rfl; have BA0_1 := BA0.out.cell (k := 1) rfl
  have BA1 : Hid (Arr w1_ (w.heap.size + 1) [.slice P1 n1 c1, .slice Q1 m1 d1] 40) := Lib.hid (by rw [← hw0]; exact (Arr.new (w.alloc (.cells #[.slice P0 n0 c0, .slice Q0 m0 d0] 40)) [.slice P1 n1 c1, .slice Q1 m1 d1] 40 (g := w.heap.size + 1) (by simp <;> omega)))
  have BA1_0 := BA1.out.cell (k := 0) rfl; have BA1_1 := BA1.out.cell (k := 1) rfl
  replace BB : Hid (Below w.heap.size w w1_) := Lib.hid (by rw [← hw0]; exact (((Below.refl w.heap.size w).alloc (by simp <;> omega) _).alloc (by simp <;> omega) _))
  have s1 : w.heap.size + 2 = w1_.heap.size := by rw [← hw0]; simp
  clear hw0
  refine (sz_any P0 n0 c0 Q0 m0 d0 (1048576) _ (by omega) (by omega) (by omega) (by omega)).mono ?_
  rintro e w2_ ⟨rfl, b1⟩
  by_cases z0 : (1048576 : Int) < (n0 : Int) + m0
  · rw [if_pos z0]
    go_wp2_with fail
    go_ret
    exact ⟨rfl, BB.out.trans (b1.mono BB.out.size)⟩
  rw [if_neg z0]
  have zz0 : decide ((1048576 : Int) - n0 - m0 < 0) = false := by simp; omega
  have s2 := b1.size
  clear BA0_0 BA0_1
  replace BA0 := Lib.hid (BA0.out.keep b1 BA0.out.lt)
  have BA0_0 := BA0.out.cell (k := 0) rfl; have BA0_1 := BA0.out.cell (k := 1) rfl
  clear BA1_0 BA1_1
  replace BA1 := Lib.hid (BA1.out.keep b1 BA1.out.lt)
  have BA1_0 := BA1.out.cell (k := 0) rfl; have BA1_1 := BA1.out.cell (k := 1) rfl
  replace BB := Lib.hid (BB.out.trans (b1.mono BB.out.size))
  clear b1
  go_wp2_with fail
  refine (sz_any P1 n1 c1 Q1 m1 d1 (1048576 - n0 - m0) _ (by omega) (by omega) (by omega) (by omega)).mono ?_
  rintro e w3_ ⟨rfl, b1⟩
  by_cases z1 : (1048576 - n0 - m0 : Int) < (n1 : Int) + m1
  · rw [if_pos z1]
    go_wp2_with fail
    go_ret
    exact ⟨rfl, BB.out.trans (b1.mono BB.out.size)⟩
  rw [if_neg z1]
  have zz1 : decide ((1048576 - n0 - m0 : Int) - n1 - m1 < 0) = false := by simp; omega
  have s3 := b1.size
  clear BA0_0 BA0_1
  replace BA0 := Lib.hid (BA0.out.keep b1 BA0.out.lt)
  have BA0_0 := BA0.out.cell (k := 0) rfl; have BA0_1 := BA0.out.cell (k := 1) rfl
  clear BA1_0 BA1_1
  replace BA1 := Lib.hid (BA1.out.keep b1 BA1.out.lt)
  have BA1_0 := BA1.out.cell (k := 0) rfl; have BA1_1 := BA1.out.cell (k := 1) rfl
  replace BB := Lib.hid (BB.out.trans (b1.mono BB.out.size))
  clear b1
  go_wp2_with fail
  refine wp_region_held_drew (S := Hld w3_.heap.size w3_.heap.size w3_ [(w.heap.size, [.slice P0 n0 c0, .slice Q0 m0 d0]), (w.heap.size + 1, [.slice P1 n1 c1, .slice Q1 m1 d1])]) (by kernel_rfl) (Hld.start2 BA0.out BA1.out) (fun hHeld => ?_)
  have b1 := hHeld.below
  generalize w3_.drew = w4_ at *
  have s4 := b1.size
  clear BA0_0 BA0_1
  replace BA0 := Lib.hid (BA0.out.keep b1 BA0.out.lt)
  have BA0_0 := BA0.out.cell (k := 0) rfl; have BA0_1 := BA0.out.cell (k := 1) rfl
  clear BA1_0 BA1_1
  replace BA1 := Lib.hid (BA1.out.keep b1 BA1.out.lt)
  have BA1_0 := BA1.out.cell (k := 0) rfl; have BA1_1 := BA1.out.cell (k := 1) rfl
  replace BB := Lib.hid (BB.out.trans (b1.mono BB.out.size))
  clear b1
  refine wpAnyH_take (i := 0) (v := .agg #[.slice P0 n0 c0, .slice Q0 m0 d0]) rfl (by kernel_rfl) (by kernel_rfl) (by kernel_rfl) (fun _ _ _ h => h) (yieldsIf_load_mid (by rfl) _ _ rfl (w.heap.size) 0 rfl [.slice P0 n0 c0, .slice Q0 m0 d0] _ (fun w h => h.fst) sqp.underlying40 rfl (sizeL _ _)) hHeld ?_
  refine wpAnyH_take (i := 2) (v := .agg #[.slice P1 n1 c1, .slice Q1 m1 d1]) rfl (by kernel_rfl) (by kernel_rfl) (by kernel_rfl) (fun _ _ _ h => h) (yieldsIf_load_mid (by rfl) _ _ rfl (w.heap.size + 1) 0 rfl [.slice P1 n1 c1, .slice Q1 m1 d1] _ (fun w h => h.snd) sqp.underlying40 rfl (sizeL _ _)) hHeld ?_
  refine wpAnyH_ready (rs := [1]) (by kernel_rfl) (by simp) (AllReadyH.cons rfl (fun K hK => ?_) AllReadyH.nil)
  go_simp
  refine (toS_any _ x0 u0 _ _ (RD0.out.keep BB.out (Nat.le_refl _)) (by omega) (by omega)).mono ?_
  rintro e w5_ ⟨v, rfl, o1, b1⟩
  have hb1 := b1
  have RS0 := Lib.hid o1; clear o1
  have s5 := b1.size
  clear BA0_0 BA0_1
  replace BA0 := Lib.hid (BA0.out.keep b1 BA0.out.lt)
  have BA0_0 := BA0.out.cell (k := 0) rfl; have BA0_1 := BA0.out.cell (k := 1) rfl
  clear BA1_0 BA1_1
  replace BA1 := Lib.hid (BA1.out.keep b1 BA1.out.lt)
  have BA1_0 := BA1.out.cell (k := 0) rfl; have BA1_1 := BA1.out.cell (k := 1) rfl
  replace BB := Lib.hid (BB.out.trans (b1.mono BB.out.size))
  clear b1
  go_wp2_with fail
  have hHeld2 := hHeld.later hb1 (Nat.le_refl _); clear hb1 hHeld
  refine hK.out _ _ hHeld2 (fun hHeld => ?_)
  clear hK K hHeld2
  refine wpAnyH_ready (rs := [3]) (by kernel_rfl) (by simp) (AllReadyH.cons rfl (fun K hK => ?_) AllReadyH.nil)
  go_simp
  refine (toS_any _ x1 u1 _ _ (RD1.out.keep BB.out (Nat.le_refl _)) (by omega) (by omega)).mono ?_
  rintro e w6_ ⟨v, rfl, o1, b1⟩
  have hb1 := b1
  have RS1 := Lib.hid o1; clear o1
  have s6 := b1.size
  clear BA0_0 BA0_1
  replace BA0 := Lib.hid (BA0.out.keep b1 BA0.out.lt)
  have BA0_0 := BA0.out.cell (k := 0) rfl; have BA0_1 := BA0.out.cell (k := 1) rfl
  clear BA1_0 BA1_1
  replace BA1 := Lib.hid (BA1.out.keep b1 BA1.out.lt)
  have BA1_0 := BA1.out.cell (k := 0) rfl; have BA1_1 := BA1.out.cell (k := 1) rfl
  replace RS0 := Lib.hid (RS0.out.keep b1 RS0.out.top)
  replace BB := Lib.hid (BB.out.trans (b1.mono BB.out.size))
  clear b1
  go_wp2_with fail
  have hHeld2 := hHeld.later hb1 (Nat.le_refl _); clear hb1 hHeld
  refine hK.out _ _ hHeld2 (fun hHeld => ?_)
  clear hK K hHeld2
  refine wpAnyH_ready (rs := [4]) (by kernel_rfl) (by simp) (AllReadyH.cons rfl (fun K hK => ?_) AllReadyH.nil)
  go_simp
  refine (orb.ow_spec _ x0 u0 _ x1 u1 _ _ _ RS0.out.rd RS1.out.rd (by omega) (by omega) (by omega) (by omega)).mono ?_
  rintro e w7_ ⟨rfl, b1⟩
  have hb1 := b1
  have s7 := b1.size
  clear BA0_0 BA0_1
  replace BA0 := Lib.hid (BA0.out.keep b1 BA0.out.lt)
  have BA0_0 := BA0.out.cell (k := 0) rfl; have BA0_1 := BA0.out.cell (k := 1) rfl
  clear BA1_0 BA1_1
  replace BA1 := Lib.hid (BA1.out.keep b1 BA1.out.lt)
  have BA1_0 := BA1.out.cell (k := 0) rfl; have BA1_1 := BA1.out.cell (k := 1) rfl
  replace RS0 := Lib.hid (RS0.out.keep b1 RS0.out.top)
  replace RS1 := Lib.hid (RS1.out.keep b1 RS1.out.top)
  replace BB := Lib.hid (BB.out.trans (b1.mono BB.out.size))
  clear b1
  go_wp2_with fail
  have hHeld2 := hHeld.later hb1 (Nat.le_refl _); clear hb1 hHeld
  refine hK.out _ _ hHeld2 (fun hHeld => ?_)
  clear hK K hHeld2
  refine wpAnyH_take (i := 5) (v := .tuple #[.string (orb.owS x0 u0 x1 u1), .bool (orb.owB x0 u0 x1 u1)]) rfl (by kernel_rfl) (by kernel_rfl) (by kernel_rfl) (fun _ _ _ h => h) (Or.inl ⟨by rfl, fun w hSw => by go_simp⟩) hHeld ?_
  refine wpAnyH_take (i := 6) (v := .string (orb.owS x0 u0 x1 u1)) rfl (by kernel_rfl) (by kernel_rfl) (by kernel_rfl) (fun _ _ _ h => h) (Or.inl ⟨by rfl, fun w hSw => by go_simp⟩) hHeld ?_
  refine wpAnyH_take (i := 7) (v := .bool (orb.owB x0 u0 x1 u1)) rfl (by kernel_rfl) (by kernel_rfl) (by kernel_rfl) (fun _ _ _ h => h) (Or.inl ⟨by rfl, fun w hSw => by go_simp⟩) hHeld ?_
  refine wpAnyH_ready (rs := [8]) (by kernel_rfl) (by simp) (AllReadyH.cons rfl (fun K hK => ?_) AllReadyH.nil)
  go_simp
  refine hK.out _ _ hHeld (fun hHeld2 => ?_)
  clear hK K hHeld
  refine wpAnyH_ready (rs := [9]) (by kernel_rfl) (by simp) (AllReadyH.cons rfl (fun K hK => ?_) AllReadyH.nil)
  go_simp
  refine hK.out _ _ hHeld2 (fun hHeld => ?_)
  clear hK K hHeld2 hHeld
  refine wpAnyH_done (by kernel_rfl) ?_ _
  clear RS0
  clear RS1
  go_wp2_with fail
  refine (toS_any _ x0 u0 _ _ (RD0.out.keep BB.out (Nat.le_refl _)) (by omega) (by omega)).mono ?_
  rintro e w8_ ⟨v, rfl, o1, b1⟩
  obtain ⟨PRX0, cRX0, QRX0, dRX0, rfl⟩ := o1.lens L0 M0
  have NR := Lib.hid o1; clear o1
  have s8 := b1.size
  clear BA0_0 BA0_1
  replace BA0 := Lib.hid (BA0.out.keep b1 BA0.out.lt)
  have BA0_0 := BA0.out.cell (k := 0) rfl; have BA0_1 := BA0.out.cell (k := 1) rfl
  clear BA1_0 BA1_1
  replace BA1 := Lib.hid (BA1.out.keep b1 BA1.out.lt)
  have BA1_0 := BA1.out.cell (k := 0) rfl; have BA1_1 := BA1.out.cell (k := 1) rfl
  replace BB := Lib.hid (BB.out.trans (b1.mono BB.out.size))
  clear b1
  have RX0 := NR; clear NR
  go_wp2_with (refine wpList_store_row rfl 25 _ _ rfl w8_.heap.size #[.slice PRX0 n0 cRX0, .slice QRX0 m0 dRX0] rfl rfl 25 #[.slice none 0 0, .slice none 0 0] (Arr.new w8_ [.slice none 0 0, .slice none 0 0] _ rfl) size2 rfl (by simp [Value.oneCell']) ?_; generalize hw : (w8_.alloc (.cells #[.slice none 0 0, .slice none 0 0] 25)).setRow w8_.heap.size #[.slice PRX0 n0 cRX0, .slice QRX0 m0 dRX0] = w9_; have NB : Hid (Arr w9_ w8_.heap.size [.slice PRX0 n0 cRX0, .slice QRX0 m0 dRX0] 25) := Lib.hid (by rw [← hw]; exact (Arr.new w8_ [.slice none 0 0, .slice none 0 0] _ rfl).row); have b1 : Below w8_.heap.size w8_ w9_ := (by rw [← hw]; exact below_setRow ((Below.refl _ _).alloc (Nat.le_refl _) _) (Nat.le_refl _) _); have t9 : w8_.heap.size + 1 ≤ w9_.heap.size := (by rw [← hw]; simp); clear hw; have s9 := b1.size; clear BA0_0 BA0_1; replace BA0 := Lib.hid (BA0.out.keep b1 BA0.out.lt); have BA0_0 := BA0.out.cell (k := 0) rfl; have BA0_1 := BA0.out.cell (k := 1) rfl; clear BA1_0 BA1_1; replace BA1 := Lib.hid (BA1.out.keep b1 BA1.out.lt); have BA1_0 := BA1.out.cell (k := 0) rfl; have BA1_1 := BA1.out.cell (k := 1) rfl; replace RX0 := Lib.hid (RX0.out.keep b1 RX0.out.top); replace BB := Lib.hid (BB.out.trans (b1.mono BB.out.size)); clear b1; have BX0 := NB; clear NB; have BX0_0 := BX0.out.cell (k := 0) rfl; have BX0_1 := BX0.out.cell (k := 1) rfl)
  go_wp2_with fail
  refine (toS_any _ x1 u1 _ _ (RD1.out.keep BB.out (Nat.le_refl _)) (by omega) (by omega)).mono ?_
  rintro e w10_ ⟨v, rfl, o1, b1⟩
  obtain ⟨PRX1, cRX1, QRX1, dRX1, rfl⟩ := o1.lens L1 M1
  have NR := Lib.hid o1; clear o1
  have s10 := b1.size
  clear BA0_0 BA0_1
  replace BA0 := Lib.hid (BA0.out.keep b1 BA0.out.lt)
  have BA0_0 := BA0.out.cell (k := 0) rfl; have BA0_1 := BA0.out.cell (k := 1) rfl
  clear BA1_0 BA1_1
  replace BA1 := Lib.hid (BA1.out.keep b1 BA1.out.lt)
  have BA1_0 := BA1.out.cell (k := 0) rfl; have BA1_1 := BA1.out.cell (k := 1) rfl
  replace RX0 := Lib.hid (RX0.out.keep b1 RX0.out.top)
  clear BX0_0 BX0_1
  replace BX0 := Lib.hid (BX0.out.keep b1 BX0.out.lt)
  have BX0_0 := BX0.out.cell (k := 0) rfl; have BX0_1 := BX0.out.cell (k := 1) rfl
  replace BB := Lib.hid (BB.out.trans (b1.mono BB.out.size))
  clear b1
  have RX1 := NR; clear NR
  go_wp2_with (refine wpList_store_row rfl 25 _ _ rfl w10_.heap.size #[.slice PRX1 n1 cRX1, .slice QRX1 m1 dRX1] rfl rfl 25 #[.slice none 0 0, .slice none 0 0] (Arr.new w10_ [.slice none 0 0, .slice none 0 0] _ rfl) size2 rfl (by simp [Value.oneCell']) ?_; generalize hw : (w10_.alloc (.cells #[.slice none 0 0, .slice none 0 0] 25)).setRow w10_.heap.size #[.slice PRX1 n1 cRX1, .slice QRX1 m1 dRX1] = w11_; have NB : Hid (Arr w11_ w10_.heap.size [.slice PRX1 n1 cRX1, .slice QRX1 m1 dRX1] 25) := Lib.hid (by rw [← hw]; exact (Arr.new w10_ [.slice none 0 0, .slice none 0 0] _ rfl).row); have b1 : Below w10_.heap.size w10_ w11_ := (by rw [← hw]; exact below_setRow ((Below.refl _ _).alloc (Nat.le_refl _) _) (Nat.le_refl _) _); have t11 : w10_.heap.size + 1 ≤ w11_.heap.size := (by rw [← hw]; simp); clear hw; have s11 := b1.size; clear BA0_0 BA0_1; replace BA0 := Lib.hid (BA0.out.keep b1 BA0.out.lt); have BA0_0 := BA0.out.cell (k := 0) rfl; have BA0_1 := BA0.out.cell (k := 1) rfl; clear BA1_0 BA1_1; replace BA1 := Lib.hid (BA1.out.keep b1 BA1.out.lt); have BA1_0 := BA1.out.cell (k := 0) rfl; have BA1_1 := BA1.out.cell (k := 1) rfl; replace RX0 := Lib.hid (RX0.out.keep b1 RX0.out.top); clear BX0_0 BX0_1; replace BX0 := Lib.hid (BX0.out.keep b1 BX0.out.lt); have BX0_0 := BX0.out.cell (k := 0) rfl; have BX0_1 := BX0.out.cell (k := 1) rfl; replace RX1 := Lib.hid (RX1.out.keep b1 RX1.out.top); replace BB := Lib.hid (BB.out.trans (b1.mono BB.out.size)); clear b1; have BX1 := NB; clear NB; have BX1_0 := BX1.out.cell (k := 0) rfl; have BX1_1 := BX1.out.cell (k := 1) rfl)
  refine (orb.ow_impl _ x0 u0 _ x1 u1 _ _ _ RX0.out.rd RX1.out.rd (by omega) (by omega) (by omega) (by omega)).mono ?_
  rintro e w12_ ⟨rfl, b1⟩
  have s12 := b1.size
  clear BA0_0 BA0_1
  replace BA0 := Lib.hid (BA0.out.keep b1 BA0.out.lt)
  have BA0_0 := BA0.out.cell (k := 0) rfl; have BA0_1 := BA0.out.cell (k := 1) rfl
  clear BA1_0 BA1_1
  replace BA1 := Lib.hid (BA1.out.keep b1 BA1.out.lt)
  have BA1_0 := BA1.out.cell (k := 0) rfl; have BA1_1 := BA1.out.cell (k := 1) rfl
  replace RX0 := Lib.hid (RX0.out.keep b1 RX0.out.top)
  clear BX0_0 BX0_1
  replace BX0 := Lib.hid (BX0.out.keep b1 BX0.out.lt)
  have BX0_0 := BX0.out.cell (k := 0) rfl; have BX0_1 := BX0.out.cell (k := 1) rfl
  replace RX1 := Lib.hid (RX1.out.keep b1 RX1.out.top)
  clear BX1_0 BX1_1
  replace BX1 := Lib.hid (BX1.out.keep b1 BX1.out.lt)
  have BX1_0 := BX1.out.cell (k := 0) rfl; have BX1_1 := BX1.out.cell (k := 1) rfl
  replace BB := Lib.hid (BB.out.trans (b1.mono BB.out.size))
  clear b1
  generalize orb.owS x0 u0 x1 u1 = qs at *
  generalize orb.owB x0 u0 x1 u1 = qq at *
  have hqq : (qq != qq) = false := by simp
  go_wp2_with fail
  refine wp_region_held_drew (S := Hld w12_.heap.size w12_.heap.size w12_ [(w8_.heap.size, [.slice PRX0 n0 cRX0, .slice QRX0 m0 dRX0]), (w.heap.size, [.slice P0 n0 c0, .slice Q0 m0 d0])]) (by kernel_rfl) (Hld.start2 BX0.out BA0.out) (fun hHeld => ?_)
  have b1 := hHeld.below
  generalize w12_.drew = w13_ at *
  have s13 := b1.size
  clear BA0_0 BA0_1
  replace BA0 := Lib.hid (BA0.out.keep b1 BA0.out.lt)
  have BA0_0 := BA0.out.cell (k := 0) rfl; have BA0_1 := BA0.out.cell (k := 1) rfl
  clear BA1_0 BA1_1
  replace BA1 := Lib.hid (BA1.out.keep b1 BA1.out.lt)
  have BA1_0 := BA1.out.cell (k := 0) rfl; have BA1_1 := BA1.out.cell (k := 1) rfl
  replace RX0 := Lib.hid (RX0.out.keep b1 RX0.out.top)
  clear BX0_0 BX0_1
  replace BX0 := Lib.hid (BX0.out.keep b1 BX0.out.lt)
  have BX0_0 := BX0.out.cell (k := 0) rfl; have BX0_1 := BX0.out.cell (k := 1) rfl
  replace RX1 := Lib.hid (RX1.out.keep b1 RX1.out.top)
  clear BX1_0 BX1_1
  replace BX1 := Lib.hid (BX1.out.keep b1 BX1.out.lt)
  have BX1_0 := BX1.out.cell (k := 0) rfl; have BX1_1 := BX1.out.cell (k := 1) rfl
  replace BB := Lib.hid (BB.out.trans (b1.mono BB.out.size))
  clear b1
  refine wpAnyH_take (i := 0) (v := .agg #[.slice PRX0 n0 cRX0, .slice QRX0 m0 dRX0]) rfl (by kernel_rfl) (by kernel_rfl) (by kernel_rfl) (fun _ _ _ h => h) (yieldsIf_load_mid (by rfl) _ _ rfl (w8_.heap.size) 0 rfl [.slice PRX0 n0 cRX0, .slice QRX0 m0 dRX0] _ (fun w h => h.fst) sqp.underlying25 rfl (sizeS _ _)) hHeld ?_
  refine wpAnyH_take (i := 1) (v := .agg #[.slice P0 n0 c0, .slice Q0 m0 d0]) rfl (by kernel_rfl) (by kernel_rfl) (by kernel_rfl) (fun _ _ _ h => h) (yieldsIf_load_mid (by rfl) _ _ rfl (w.heap.size) 0 rfl [.slice P0 n0 c0, .slice Q0 m0 d0] _ (fun w h => h.snd) sqp.underlying40 rfl (sizeL _ _)) hHeld ?_
  refine wpAnyH_ready (rs := [2]) (by kernel_rfl) (by simp) (AllReadyH.cons rfl (fun K hK => ?_) AllReadyH.nil)
  go_simp
  refine (toS_any _ x0 u0 _ _ (RD0.out.keep BB.out (Nat.le_refl _)) (by omega) (by omega)).mono ?_
  rintro e w14_ ⟨v, rfl, o1, b1⟩
  have hb1 := b1
  have RT := Lib.hid o1; clear o1
  have s14 := b1.size
  clear BA0_0 BA0_1
  replace BA0 := Lib.hid (BA0.out.keep b1 BA0.out.lt)
  have BA0_0 := BA0.out.cell (k := 0) rfl; have BA0_1 := BA0.out.cell (k := 1) rfl
  clear BA1_0 BA1_1
  replace BA1 := Lib.hid (BA1.out.keep b1 BA1.out.lt)
  have BA1_0 := BA1.out.cell (k := 0) rfl; have BA1_1 := BA1.out.cell (k := 1) rfl
  replace RX0 := Lib.hid (RX0.out.keep b1 RX0.out.top)
  clear BX0_0 BX0_1
  replace BX0 := Lib.hid (BX0.out.keep b1 BX0.out.lt)
  have BX0_0 := BX0.out.cell (k := 0) rfl; have BX0_1 := BX0.out.cell (k := 1) rfl
  replace RX1 := Lib.hid (RX1.out.keep b1 RX1.out.top)
  clear BX1_0 BX1_1
  replace BX1 := Lib.hid (BX1.out.keep b1 BX1.out.lt)
  have BX1_0 := BX1.out.cell (k := 0) rfl; have BX1_1 := BX1.out.cell (k := 1) rfl
  replace BB := Lib.hid (BB.out.trans (b1.mono BB.out.size))
  clear b1
  go_wp2_with fail
  have hHeld2 := hHeld.later hb1 (Nat.le_refl _); clear hb1 hHeld
  refine hK.out _ _ hHeld2 (fun hHeld => ?_)
  clear hK K hHeld2
  refine wpAnyH_ready (rs := [3]) (by kernel_rfl) (by simp) (AllReadyH.cons rfl (fun K hK => ?_) AllReadyH.nil)
  go_simp
  refine (eqS_any _ _ x0 u0 x0 u0 _ _ _ RX0.out.rd RT.out.rd (by omega) (by omega) (by omega) (by omega)).mono ?_
  rintro e w15_ ⟨rfl, b1⟩
  have hb1 := b1
  have s15 := b1.size
  clear BA0_0 BA0_1
  replace BA0 := Lib.hid (BA0.out.keep b1 BA0.out.lt)
  have BA0_0 := BA0.out.cell (k := 0) rfl; have BA0_1 := BA0.out.cell (k := 1) rfl
  clear BA1_0 BA1_1
  replace BA1 := Lib.hid (BA1.out.keep b1 BA1.out.lt)
  have BA1_0 := BA1.out.cell (k := 0) rfl; have BA1_1 := BA1.out.cell (k := 1) rfl
  replace RX0 := Lib.hid (RX0.out.keep b1 RX0.out.top)
  clear BX0_0 BX0_1
  replace BX0 := Lib.hid (BX0.out.keep b1 BX0.out.lt)
  have BX0_0 := BX0.out.cell (k := 0) rfl; have BX0_1 := BX0.out.cell (k := 1) rfl
  replace RX1 := Lib.hid (RX1.out.keep b1 RX1.out.top)
  clear BX1_0 BX1_1
  replace BX1 := Lib.hid (BX1.out.keep b1 BX1.out.lt)
  have BX1_0 := BX1.out.cell (k := 0) rfl; have BX1_1 := BX1.out.cell (k := 1) rfl
  replace RT := Lib.hid (RT.out.keep b1 RT.out.top)
  replace BB := Lib.hid (BB.out.trans (b1.mono BB.out.size))
  clear b1
  rw [eqi_self, eqi_self]
  go_wp2_with fail
  have hHeld2 := hHeld.later hb1 (Nat.le_refl _); clear hb1 hHeld
  refine hK.out _ _ hHeld2 (fun hHeld => ?_)
  clear hK K hHeld2
  refine wpAnyH_ready (rs := [4]) (by kernel_rfl) (by simp) (AllReadyH.cons rfl (fun K hK => ?_) AllReadyH.nil)
  go_simp
  refine hK.out _ _ hHeld (fun hHeld2 => ?_)
  clear hK K hHeld hHeld2
  refine wpAnyH_done (by kernel_rfl) ?_ _
  clear RT
  go_wp2_with fail
  refine wp_region_held_drew (S := Hld w15_.heap.size w15_.heap.size w15_ [(w10_.heap.size, [.slice PRX1 n1 cRX1, .slice QRX1 m1 dRX1]), (w.heap.size + 1, [.slice P1 n1 c1, .slice Q1 m1 d1])]) (by kernel_rfl) (Hld.start2 BX1.out BA1.out) (fun hHeld => ?_)
  have b1 := hHeld.below
  generalize w15_.drew = w16_ at *
  have s16 := b1.size
  clear BA0_0 BA0_1
  replace BA0 := Lib.hid (BA0.out.keep b1 BA0.out.lt)
  have BA0_0 := BA0.out.cell (k := 0) rfl; have BA0_1 := BA0.out.cell (k := 1) rfl
  clear BA1_0 BA1_1
  replace BA1 := Lib.hid (BA1.out.keep b1 BA1.out.lt)
  have BA1_0 := BA1.out.cell (k := 0) rfl; have BA1_1 := BA1.out.cell (k := 1) rfl
  replace RX0 := Lib.hid (RX0.out.keep b1 RX0.out.top)
  clear BX0_0 BX0_1
  replace BX0 := Lib.hid (BX0.out.keep b1 BX0.out.lt)
  have BX0_0 := BX0.out.cell (k := 0) rfl; have BX0_1 := BX0.out.cell (k := 1) rfl
  replace RX1 := Lib.hid (RX1.out.keep b1 RX1.out.top)
  clear BX1_0 BX1_1
  replace BX1 := Lib.hid (BX1.out.keep b1 BX1.out.lt)
  have BX1_0 := BX1.out.cell (k := 0) rfl; have BX1_1 := BX1.out.cell (k := 1) rfl
  replace BB := Lib.hid (BB.out.trans (b1.mono BB.out.size))
  clear b1
  refine wpAnyH_take (i := 0) (v := .agg #[.slice PRX1 n1 cRX1, .slice QRX1 m1 dRX1]) rfl (by kernel_rfl) (by kernel_rfl) (by kernel_rfl) (fun _ _ _ h => h) (yieldsIf_load_mid (by rfl) _ _ rfl (w10_.heap.size) 0 rfl [.slice PRX1 n1 cRX1, .slice QRX1 m1 dRX1] _ (fun w h => h.fst) sqp.underlying25 rfl (sizeS _ _)) hHeld ?_
  refine wpAnyH_take (i := 1) (v := .agg #[.slice P1 n1 c1, .slice Q1 m1 d1]) rfl (by kernel_rfl) (by kernel_rfl) (by kernel_rfl) (fun _ _ _ h => h) (yieldsIf_load_mid (by rfl) _ _ rfl (w.heap.size + 1) 0 rfl [.slice P1 n1 c1, .slice Q1 m1 d1] _ (fun w h => h.snd) sqp.underlying40 rfl (sizeL _ _)) hHeld ?_
  refine wpAnyH_ready (rs := [2]) (by kernel_rfl) (by simp) (AllReadyH.cons rfl (fun K hK => ?_) AllReadyH.nil)
  go_simp
  refine (toS_any _ x1 u1 _ _ (RD1.out.keep BB.out (Nat.le_refl _)) (by omega) (by omega)).mono ?_
  rintro e w17_ ⟨v, rfl, o1, b1⟩
  have hb1 := b1
  have RT := Lib.hid o1; clear o1
  have s17 := b1.size
  clear BA0_0 BA0_1
  replace BA0 := Lib.hid (BA0.out.keep b1 BA0.out.lt)
  have BA0_0 := BA0.out.cell (k := 0) rfl; have BA0_1 := BA0.out.cell (k := 1) rfl
  clear BA1_0 BA1_1
  replace BA1 := Lib.hid (BA1.out.keep b1 BA1.out.lt)
  have BA1_0 := BA1.out.cell (k := 0) rfl; have BA1_1 := BA1.out.cell (k := 1) rfl
  replace RX0 := Lib.hid (RX0.out.keep b1 RX0.out.top)
  clear BX0_0 BX0_1
  replace BX0 := Lib.hid (BX0.out.keep b1 BX0.out.lt)
  have BX0_0 := BX0.out.cell (k := 0) rfl; have BX0_1 := BX0.out.cell (k := 1) rfl
  replace RX1 := Lib.hid (RX1.out.keep b1 RX1.out.top)
  clear BX1_0 BX1_1
  replace BX1 := Lib.hid (BX1.out.keep b1 BX1.out.lt)
  have BX1_0 := BX1.out.cell (k := 0) rfl; have BX1_1 := BX1.out.cell (k := 1) rfl
  replace BB := Lib.hid (BB.out.trans (b1.mono BB.out.size))
  clear b1
  go_wp2_with fail
  have hHeld2 := hHeld.later hb1 (Nat.le_refl _); clear hb1 hHeld
  refine hK.out _ _ hHeld2 (fun hHeld => ?_)
  clear hK K hHeld2
  refine wpAnyH_ready (rs := [3]) (by kernel_rfl) (by simp) (AllReadyH.cons rfl (fun K hK => ?_) AllReadyH.nil)
  go_simp
  refine (eqS_any _ _ x1 u1 x1 u1 _ _ _ RX1.out.rd RT.out.rd (by omega) (by omega) (by omega) (by omega)).mono ?_
  rintro e w18_ ⟨rfl, b1⟩
  have hb1 := b1
  have s18 := b1.size
  clear BA0_0 BA0_1
  replace BA0 := Lib.hid (BA0.out.keep b1 BA0.out.lt)
  have BA0_0 := BA0.out.cell (k := 0) rfl; have BA0_1 := BA0.out.cell (k := 1) rfl
  clear BA1_0 BA1_1
  replace BA1 := Lib.hid (BA1.out.keep b1 BA1.out.lt)
  have BA1_0 := BA1.out.cell (k := 0) rfl; have BA1_1 := BA1.out.cell (k := 1) rfl
  replace RX0 := Lib.hid (RX0.out.keep b1 RX0.out.top)
  clear BX0_0 BX0_1
  replace BX0 := Lib.hid (BX0.out.keep b1 BX0.out.lt)
  have BX0_0 := BX0.out.cell (k := 0) rfl; have BX0_1 := BX0.out.cell (k := 1) rfl
  replace RX1 := Lib.hid (RX1.out.keep b1 RX1.out.top)
  clear BX1_0 BX1_1
  replace BX1 := Lib.hid (BX1.out.keep b1 BX1.out.lt)
  have BX1_0 := BX1.out.cell (k := 0) rfl; have BX1_1 := BX1.out.cell (k := 1) rfl
  replace RT := Lib.hid (RT.out.keep b1 RT.out.top)
  replace BB := Lib.hid (BB.out.trans (b1.mono BB.out.size))
  clear b1
  rw [eqi_self, eqi_self]
  go_wp2_with fail
  have hHeld2 := hHeld.later hb1 (Nat.le_refl _); clear hb1 hHeld
  refine hK.out _ _ hHeld2 (fun hHeld => ?_)
  clear hK K hHeld2
  refine wpAnyH_ready (rs := [4]) (by kernel_rfl) (by simp) (AllReadyH.cons rfl (fun K hK => ?_) AllReadyH.nil)
  go_simp
  refine hK.out _ _ hHeld (fun hHeld2 => ?_)
  clear hK K hHeld hHeld2
  refine wpAnyH_done (by kernel_rfl) ?_ _
  clear RT
  go_wp2_with fail
  go_ret
  exact ⟨rfl, BB.out⟩
set_option maxRecDepth 100000 in
theorem lifted (os : Os) (started : os.Started) (H : Type) (enc : TypeId × Value → H) :
    ReturnsInLeavingWide {} Try.checked os 4 .any (Rows.fnExactOrbitWordSpec.pre6 enc Try.prog Try.f4 Rows.fnExactOrbitWordRow.domain false) (Rows.fnExactOrbitWordSpec.post enc Try.prog Try.f4 false true false false) := by
  refine returnsInLeavingWide_of_change_sized (C := Try.checked) own started Try.func4
    (ChangeSpec.witness6 (enc := enc) (C := Try.checked) false ⟨#[], #[.agg #[.slice none 0 0, .slice none 0 0], .agg #[.slice none 0 0, .slice none 0 0]], []⟩ 8 (by kernel_rfl) (by kernel_rfl) (by kernel_rfl) (by kernel_rfl)) ?_
  intro W base args ds gs before hval0 hW hcnd _ _
  have hval : ∀ (j : Nat) t v, Try.f4.params[j]? = some t → args[j]? = some v → Value.okWide Try.prog W .any base t v := hval0
  have hW' := hW
  obtain ⟨p, q, hA0, hV, rfl, hfz, hnd⟩ := hW
  have hA : DataW.TrodAll enc Try.prog W 0 (fun _ => true) true Try.f4.params.toList args.toList ds p := hA0
  rw [Try.params4] at hA hval
  obtain ⟨v0, vs0, d0, ds0, p0, q0, hargs, rfl, rfl, h0, r0⟩ := trodAll_cons hA
  obtain ⟨v1, vs1, d1, ds1, p1, q1, rfl, rfl, rfl, h1, r1⟩ := trodAll_cons r0
  obtain ⟨rfl, rfl, rfl⟩ := trodAll_nil r1
  obtain rfl : args = #[v0, v1] := by cases args; simp_all
  obtain ⟨rfl, rfl⟩ := trodVars_none hV
  have lt0 : ∀ x ∈ p0, x.block < W.heap.size := by obtain ⟨m, hm⟩ := h0; exact DataW.trod_lt m _ _ _ hm
  obtain ⟨x0, u0, rd0, lx0, lu0⟩ := sf.open_S Try.underlying40 (by kernel_rfl) (by kernel_rfl) Try.underlying23 Try.underlying23 Try.underlying3 (by kernel_rfl) (hval 0 40 v0 rfl rfl) h0
  have lt1 : ∀ x ∈ p1, x.block < W.heap.size := by obtain ⟨m, hm⟩ := h1; exact DataW.trod_lt m _ _ _ hm
  obtain ⟨x1, u1, rd1, lx1, lu1⟩ := sf.open_S Try.underlying40 (by kernel_rfl) (by kernel_rfl) Try.underlying23 Try.underlying23 Try.underlying3 (by kernel_rfl) (hval 1 40 v1 rfl rfl) h1
  clear hA0 hval0
  obtain ⟨m0, y0, wn0, sr0⟩ := sqw.sur_new (sq.wn_nil W) rd0 (hval 0 40 v0 rfl rfl)
  obtain ⟨m1, y1, wn1, sr1⟩ := sqw.sur_new wn0 rd1 (hval 1 40 v1 rfl rfl)
  have q0q := sr0 (m1)
  have q1q := sr1 #[]
  rw [Array.append_empty] at q1q
  obtain ⟨M, last, oc, wl, tl, k1, k2, k3, k4⟩ := sqw.run (g := 4) (by decide +kernel) (args := #[y0, y1]) (args' := #[v0, v1]) (ws := #[] ++ m0 ++ m1) wn1 (fun C => @AR.push C _ _ _ (@AR.one C _ _ _ (q0q.2.1 C)) _ _ (q1q.2.1 C)) (fun C => @AR.push C _ _ _ (@AR.one C _ _ _ (q0q.2.2 C)) _ _ (q1q.2.2 C))
    (fun τ => (walk (w := sq.retape τ (sq.wnW W (#[] ++ m0 ++ m1))) y0 x0 u0 y1 x1 u1 (sqw.srd_on q0q.1 τ) lx0 lu0 (sqw.srd_on q1q.1 τ) lx1 lu1).mono fun e w' he => he.1)
  refine ⟨M, last, oc, wl, tl, k1, k2, k3, k4.mono fun v ⟨hv, bel⟩ => ?_⟩
  subst hv
  exact ⟨_, _, _, [], _, [], hW', trodAll_mk1 (shut_bool Try.underlying4 _), (trodAll_cons_mk (Below.trod laidOut (by kernel_rfl) (of_decide_eq_true (by kernel_rfl)) h0 bel lt0) (trodAll_cons_mk (Below.trod laidOut (by kernel_rfl) (of_decide_eq_true (by kernel_rfl)) h1 bel lt1) trodAll_mk0)), rfl, bel.frame _, fun h => by cases h⟩
theorem over : Rows.fnExactOrbitWordRow.holds Try.pinned (OpenSpec.ofChange Rows.fnExactOrbitWordSpec) :=
  OpenClaim.holds_of_wide_leaving 4 Try.f4 rfl rfl rfl rfl rfl rfl rfl ⟨rfl, rfl, rfl, rfl, rfl⟩ rfl rfl rfl rfl rfl (by kernel_rfl) Try.func4 (by kernel_rfl)
    (of_decide_eq_true (by kernel_rfl)) (by unfold Func.isWrapper; first | (rw [if_pos (by decide +kernel)]; kernel_rfl) | (rw [if_neg (by decide +kernel)]; exact ⟨rfl, rfl⟩))
    (fun os started H enc _ => lifted os started H enc)
theorem proved : Rows.FnExactOrbitWordSaid :=
  over
#print axioms proved
end Go.Proofs.Ytgcnemkhppkkcaa.fnExactOrbitWord
