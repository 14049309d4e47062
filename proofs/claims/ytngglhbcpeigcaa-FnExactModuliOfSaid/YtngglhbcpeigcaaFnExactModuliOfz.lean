/-
  FnExactModuliOf: at every argument the law FnExactModuliOf returns true, and its arguments read as before. No condition.
-/
import Derived.Test.YtngglhbcpeigcaaRows
import Derived.WalkKit
import Derived.ProofKit
import Derived.OpenShut
import Derived.ShutString
import Derived.ChangeOld
import Derived.Below
import Derived.Test.YtngglhbcpeigcaaY02
import Derived.Test.YtngglhbcpeigcaaY20
namespace Go.Proofs.Ytngglhbcpeigcaa.fnExactModuliOf
open Go.ChangeShapes Go.WideShapes Go.ChangeAt Go.RowKit
open Go.ChangeMaps (open_string shut_string)
open Go.Proofs.Ytngglhbcpeigcaa.mem Go.Proofs.Ytngglhbcpeigcaa.ints Go.Proofs.Ytngglhbcpeigcaa.arr Go.Proofs.Ytngglhbcpeigcaa.sf Go.Proofs.Ytngglhbcpeigcaa.pm Go.Proofs.Ytngglhbcpeigcaa.gl Go.Proofs.Ytngglhbcpeigcaa.mat Go.Proofs.Ytngglhbcpeigcaa.cy Go.Proofs.Ytngglhbcpeigcaa.rat
set_option linter.unusedVariables false
set_option maxRecDepth 100000

theorem own : ownKnob Try.prog.godebug = none := by kernel_rfl
theorem laidOut : laidOutB Try.prog = true := by kernel_rfl

set_option maxHeartbeats 4000000 in
theorem walk (w : World) (v0 : Value) (x0 u0 : List Int) (rd0 : Srd w w.heap.size v0 x0 u0) (lx0 : x0.length ≤ maxLen) (lu0 : u0.length ≤ maxLen) :
    Calls Try.prog 6 #[v0] w fun e w' => e = .returned (.bool true) ∧ Below w.heap.size w w' := by
  obtain ⟨P0, n0, c0, Q0, m0, d0, rfl, rp0, rq0, ec0, ed0⟩ := rd0
  have L0 : x0.length = n0 := by simpa [V] using rp0.1
  have M0 : u0.length = m0 := by simpa [V] using rq0.1
  have RD0 : Hid (Srd w w.heap.size (.agg #[.slice P0 n0 c0, .slice Q0 m0 d0]) x0 u0) := Lib.hid ⟨_, _, _, _, _, _, rfl, rp0, rq0, ec0, ed0⟩; clear rp0 rq0; unfold maxLen at lx0 lu0
  have BB := Lib.hid (Below.refl w.heap.size w)
  go_enter Try.func6, Try.ntmps6
  go_wp2_with fail
  generalize hw0 : (w.alloc (.cells #[.slice P0 n0 c0, .slice Q0 m0 d0] 46)) = w1_
  have BA0 : Hid (Arr w1_ (w.heap.size) [.slice P0 n0 c0, .slice Q0 m0 d0] 46) := Lib.hid (by rw [← hw0]; exact (Arr.new w [.slice P0 n0 c0, .slice Q0 m0 d0] 46 (g := w.heap.size) (by simp <;> omega)))
  have BA0_0 := BA0.out.cell (k := 0) rfl; have BA0_1 := BA0.out.cell (k := 1) rfl
  replace BB : Hid (Below w.heap.size w w1_) := Lib.hid (by rw [← hw0]; exact ((Below.refl w.heap.size w).alloc (by simp <;> omega) _))
  have s1 : w.heap.size + 1 = w1_.heap.size := by rw [← hw0]; simp
  clear hw0
  refine (sz_any P0 n0 c0 Q0 m0 d0 (1048576) _ (by omega) (by omega) (by omega) (by omega)).mono ?_
  rintro e w2_ ⟨rfl, b1⟩
  by_cases z0 : (1048576 : Int) < (n0 : Int) + m0
  · rw [if_pos z0]
    go_wp2_with fail
    go_ret
    exact ⟨rfl, BB.out.trans (b1.mono BB.out.size)⟩
  rw [if_neg z0]
  have zz0 : decide ((1048576 : Int) - n0 - m0 < 0) = false := by simp; omega
  have s2 := b1.size
  clear BA0_0 BA0_1
  replace BA0 := Lib.hid (BA0.out.keep b1 BA0.out.lt)
  have BA0_0 := BA0.out.cell (k := 0) rfl; have BA0_1 := BA0.out.cell (k := 1) rfl
  replace BB := Lib.hid (BB.out.trans (b1.mono BB.out.size))
  clear b1
  go_wp2_with fail
  refine (toS_any _ x0 u0 _ _ (RD0.out.keep BB.out (Nat.le_refl _)) (by omega) (by omega)).mono ?_
  rintro e w3_ ⟨v, rfl, o1, b1⟩
  obtain ⟨PRS0, cRS0, QRS0, dRS0, rfl⟩ := o1.lens L0 M0
  have NR := Lib.hid o1; clear o1
  have s3 := b1.size
  clear BA0_0 BA0_1
  replace BA0 := Lib.hid (BA0.out.keep b1 BA0.out.lt)
  have BA0_0 := BA0.out.cell (k := 0) rfl; have BA0_1 := BA0.out.cell (k := 1) rfl
  replace BB := Lib.hid (BB.out.trans (b1.mono BB.out.size))
  clear b1
  have RS0 := NR; clear NR
  go_wp2_with fail
  refine (mod_spec _ x0 u0 _ _ RS0.out.rd (by omega) (by omega)).mono ?_
  rintro e w4_ ⟨rfl, b1⟩
  have s4 := b1.size
  clear BA0_0 BA0_1
  replace BA0 := Lib.hid (BA0.out.keep b1 BA0.out.lt)
  have BA0_0 := BA0.out.cell (k := 0) rfl; have BA0_1 := BA0.out.cell (k := 1) rfl
  replace RS0 := Lib.hid (RS0.out.keep b1 RS0.out.top)
  replace BB := Lib.hid (BB.out.trans (b1.mono BB.out.size))
  clear b1
  obtain ⟨⟨qn, qd⟩, hq⟩ : ∃ q, q = modF x0 u0 := ⟨_, rfl⟩
  rw [← hq]
  have HQ := Lib.hid hq; clear hq
  unfold rv
  go_wp2_with (refine wpList_store_row rfl 24 _ _ rfl w4_.heap.size #[.int .i64 qn, .int .i64 qd] rfl rfl 24 #[.int .i64 0, .int .i64 0] (Arr.new w4_ [.int .i64 0, .int .i64 0] _ rfl) (sizeR _ _) rfl (by simp [Value.oneCell']) ?_; generalize hw : (w4_.alloc (.cells #[.int .i64 0, .int .i64 0] 24)).setRow w4_.heap.size #[.int .i64 qn, .int .i64 qd] = w5_; have NB : Hid (Arr w5_ w4_.heap.size [.int .i64 qn, .int .i64 qd] 24) := Lib.hid (by rw [← hw]; exact (Arr.new w4_ [.int .i64 0, .int .i64 0] _ rfl).row); have b1 : Below w4_.heap.size w4_ w5_ := (by rw [← hw]; exact below_setRow ((Below.refl _ _).alloc (Nat.le_refl _) _) (Nat.le_refl _) _); have t5 : w4_.heap.size + 1 ≤ w5_.heap.size := (by rw [← hw]; simp); clear hw; have s5 := b1.size; clear BA0_0 BA0_1; replace BA0 := Lib.hid (BA0.out.keep b1 BA0.out.lt); have BA0_0 := BA0.out.cell (k := 0) rfl; have BA0_1 := BA0.out.cell (k := 1) rfl; replace RS0 := Lib.hid (RS0.out.keep b1 RS0.out.top); replace BB := Lib.hid (BB.out.trans (b1.mono BB.out.size)); clear b1; have BRW := NB; clear NB; have BRW_0 := BRW.out.cell (k := 0) rfl; have BRW_1 := BRW.out.cell (k := 1) rfl)
  clear RS0
  go_wp2_with fail
  refine (toS_any _ x0 u0 _ _ (RD0.out.keep BB.out (Nat.le_refl _)) (by omega) (by omega)).mono ?_
  rintro e w6_ ⟨v, rfl, o1, b1⟩
  obtain ⟨PRX0, cRX0, QRX0, dRX0, rfl⟩ := o1.lens L0 M0
  have NR := Lib.hid o1; clear o1
  have s6 := b1.size
  clear BA0_0 BA0_1
  replace BA0 := Lib.hid (BA0.out.keep b1 BA0.out.lt)
  have BA0_0 := BA0.out.cell (k := 0) rfl; have BA0_1 := BA0.out.cell (k := 1) rfl
  clear BRW_0 BRW_1
  replace BRW := Lib.hid (BRW.out.keep b1 BRW.out.lt)
  have BRW_0 := BRW.out.cell (k := 0) rfl; have BRW_1 := BRW.out.cell (k := 1) rfl
  replace BB := Lib.hid (BB.out.trans (b1.mono BB.out.size))
  clear b1
  have RX0 := NR; clear NR
  go_wp2_with (refine wpList_store_row rfl 28 _ _ rfl w6_.heap.size #[.slice PRX0 n0 cRX0, .slice QRX0 m0 dRX0] rfl rfl 28 #[.slice none 0 0, .slice none 0 0] (Arr.new w6_ [.slice none 0 0, .slice none 0 0] _ rfl) size2 rfl (by simp [Value.oneCell']) ?_; generalize hw : (w6_.alloc (.cells #[.slice none 0 0, .slice none 0 0] 28)).setRow w6_.heap.size #[.slice PRX0 n0 cRX0, .slice QRX0 m0 dRX0] = w7_; have NB : Hid (Arr w7_ w6_.heap.size [.slice PRX0 n0 cRX0, .slice QRX0 m0 dRX0] 28) := Lib.hid (by rw [← hw]; exact (Arr.new w6_ [.slice none 0 0, .slice none 0 0] _ rfl).row); have b1 : Below w6_.heap.size w6_ w7_ := (by rw [← hw]; exact below_setRow ((Below.refl _ _).alloc (Nat.le_refl _) _) (Nat.le_refl _) _); have t7 : w6_.heap.size + 1 ≤ w7_.heap.size := (by rw [← hw]; simp); clear hw; have s7 := b1.size; clear BA0_0 BA0_1; replace BA0 := Lib.hid (BA0.out.keep b1 BA0.out.lt); have BA0_0 := BA0.out.cell (k := 0) rfl; have BA0_1 := BA0.out.cell (k := 1) rfl; clear BRW_0 BRW_1; replace BRW := Lib.hid (BRW.out.keep b1 BRW.out.lt); have BRW_0 := BRW.out.cell (k := 0) rfl; have BRW_1 := BRW.out.cell (k := 1) rfl; replace RX0 := Lib.hid (RX0.out.keep b1 RX0.out.top); replace BB := Lib.hid (BB.out.trans (b1.mono BB.out.size)); clear b1; have BX0 := NB; clear NB; have BX0_0 := BX0.out.cell (k := 0) rfl; have BX0_1 := BX0.out.cell (k := 1) rfl)
  refine (mod_impl _ x0 u0 _ _ RX0.out.rd (by omega) (by omega)).mono ?_
  rintro e w8_ ⟨rfl, b1⟩
  have s8 := b1.size
  clear BA0_0 BA0_1
  replace BA0 := Lib.hid (BA0.out.keep b1 BA0.out.lt)
  have BA0_0 := BA0.out.cell (k := 0) rfl; have BA0_1 := BA0.out.cell (k := 1) rfl
  clear BRW_0 BRW_1
  replace BRW := Lib.hid (BRW.out.keep b1 BRW.out.lt)
  have BRW_0 := BRW.out.cell (k := 0) rfl; have BRW_1 := BRW.out.cell (k := 1) rfl
  replace RX0 := Lib.hid (RX0.out.keep b1 RX0.out.top)
  clear BX0_0 BX0_1
  replace BX0 := Lib.hid (BX0.out.keep b1 BX0.out.lt)
  have BX0_0 := BX0.out.cell (k := 0) rfl; have BX0_1 := BX0.out.cell (k := 1) rfl
  replace BB := Lib.hid (BB.out.trans (b1.mono BB.out.size))
  clear b1
  rw [← HQ.out]
  unfold rv
  go_wp2_with (refine wpList_store_row rfl 24 _ _ rfl w8_.heap.size #[.int .i64 qn, .int .i64 qd] rfl rfl 24 #[.int .i64 0, .int .i64 0] (Arr.new w8_ [.int .i64 0, .int .i64 0] _ rfl) (sizeR _ _) rfl (by simp [Value.oneCell']) ?_; generalize hw : (w8_.alloc (.cells #[.int .i64 0, .int .i64 0] 24)).setRow w8_.heap.size #[.int .i64 qn, .int .i64 qd] = w9_; have NB : Hid (Arr w9_ w8_.heap.size [.int .i64 qn, .int .i64 qd] 24) := Lib.hid (by rw [← hw]; exact (Arr.new w8_ [.int .i64 0, .int .i64 0] _ rfl).row); have b1 : Below w8_.heap.size w8_ w9_ := (by rw [← hw]; exact below_setRow ((Below.refl _ _).alloc (Nat.le_refl _) _) (Nat.le_refl _) _); have t9 : w8_.heap.size + 1 ≤ w9_.heap.size := (by rw [← hw]; simp); clear hw; have s9 := b1.size; clear BA0_0 BA0_1; replace BA0 := Lib.hid (BA0.out.keep b1 BA0.out.lt); have BA0_0 := BA0.out.cell (k := 0) rfl; have BA0_1 := BA0.out.cell (k := 1) rfl; clear BRW_0 BRW_1; replace BRW := Lib.hid (BRW.out.keep b1 BRW.out.lt); have BRW_0 := BRW.out.cell (k := 0) rfl; have BRW_1 := BRW.out.cell (k := 1) rfl; replace RX0 := Lib.hid (RX0.out.keep b1 RX0.out.top); clear BX0_0 BX0_1; replace BX0 := Lib.hid (BX0.out.keep b1 BX0.out.lt); have BX0_0 := BX0.out.cell (k := 0) rfl; have BX0_1 := BX0.out.cell (k := 1) rfl; replace BB := Lib.hid (BB.out.trans (b1.mono BB.out.size)); clear b1; have BRG := NB; clear NB; have BRG_0 := BRG.out.cell (k := 0) rfl; have BRG_1 := BRG.out.cell (k := 1) rfl)
  go_wp2_with fail
  refine (eqR_any qn qd qn qd _).mono ?_
  rintro e w10_ ⟨rfl, b1⟩
  rw [eqd_self]
  have s10 := b1.size
  clear BA0_0 BA0_1
  replace BA0 := Lib.hid (BA0.out.keep b1 BA0.out.lt)
  have BA0_0 := BA0.out.cell (k := 0) rfl; have BA0_1 := BA0.out.cell (k := 1) rfl
  clear BRW_0 BRW_1
  replace BRW := Lib.hid (BRW.out.keep b1 BRW.out.lt)
  have BRW_0 := BRW.out.cell (k := 0) rfl; have BRW_1 := BRW.out.cell (k := 1) rfl
  replace RX0 := Lib.hid (RX0.out.keep b1 RX0.out.top)
  clear BX0_0 BX0_1
  replace BX0 := Lib.hid (BX0.out.keep b1 BX0.out.lt)
  have BX0_0 := BX0.out.cell (k := 0) rfl; have BX0_1 := BX0.out.cell (k := 1) rfl
  clear BRG_0 BRG_1
  replace BRG := Lib.hid (BRG.out.keep b1 BRG.out.lt)
  have BRG_0 := BRG.out.cell (k := 0) rfl; have BRG_1 := BRG.out.cell (k := 1) rfl
  replace BB := Lib.hid (BB.out.trans (b1.mono BB.out.size))
  clear b1
  go_wp2_with fail
  refine wp_region_held_drew (S := Hld w10_.heap.size w10_.heap.size w10_ [(w6_.heap.size, [.slice PRX0 n0 cRX0, .slice QRX0 m0 dRX0]), (w.heap.size, [.slice P0 n0 c0, .slice Q0 m0 d0])]) (by kernel_rfl) (Hld.start2 BX0.out BA0.out) (fun hHeld => ?_)
  have b1 := hHeld.below
  generalize w10_.drew = w11_ at *
  have s11 := b1.size
  clear BA0_0 BA0_1
  replace BA0 := Lib.hid (BA0.out.keep b1 BA0.out.lt)
  have BA0_0 := BA0.out.cell (k := 0) rfl; have BA0_1 := BA0.out.cell (k := 1) rfl
  clear BRW_0 BRW_1
  replace BRW := Lib.hid (BRW.out.keep b1 BRW.out.lt)
  have BRW_0 := BRW.out.cell (k := 0) rfl; have BRW_1 := BRW.out.cell (k := 1) rfl
  replace RX0 := Lib.hid (RX0.out.keep b1 RX0.out.top)
  clear BX0_0 BX0_1
  replace BX0 := Lib.hid (BX0.out.keep b1 BX0.out.lt)
  have BX0_0 := BX0.out.cell (k := 0) rfl; have BX0_1 := BX0.out.cell (k := 1) rfl
  clear BRG_0 BRG_1
  replace BRG := Lib.hid (BRG.out.keep b1 BRG.out.lt)
  have BRG_0 := BRG.out.cell (k := 0) rfl; have BRG_1 := BRG.out.cell (k := 1) rfl
  replace BB := Lib.hid (BB.out.trans (b1.mono BB.out.size))
  clear b1
  refine wpAnyH_take (i := 0) (v := .agg #[.slice PRX0 n0 cRX0, .slice QRX0 m0 dRX0]) rfl (by kernel_rfl) (by kernel_rfl) (by kernel_rfl) (fun _ _ _ h => h) (yieldsIf_load_mid (by rfl) _ _ rfl (w6_.heap.size) 0 rfl [.slice PRX0 n0 cRX0, .slice QRX0 m0 dRX0] _ (fun w h => h.fst) Try.underlying28 rfl (sizeS _ _)) hHeld ?_
  refine wpAnyH_take (i := 1) (v := .agg #[.slice P0 n0 c0, .slice Q0 m0 d0]) rfl (by kernel_rfl) (by kernel_rfl) (by kernel_rfl) (fun _ _ _ h => h) (yieldsIf_load_mid (by rfl) _ _ rfl (w.heap.size) 0 rfl [.slice P0 n0 c0, .slice Q0 m0 d0] _ (fun w h => h.snd) Try.underlying46 rfl (sizeL _ _)) hHeld ?_
  refine wpAnyH_ready (rs := [2]) (by kernel_rfl) (by simp) (AllReadyH.cons rfl (fun K hK => ?_) AllReadyH.nil)
  go_simp
  refine (toS_any _ x0 u0 _ _ (RD0.out.keep BB.out (Nat.le_refl _)) (by omega) (by omega)).mono ?_
  rintro e w12_ ⟨v, rfl, o1, b1⟩
  have hb1 := b1
  have RT := Lib.hid o1; clear o1
  have s12 := b1.size
  clear BA0_0 BA0_1
  replace BA0 := Lib.hid (BA0.out.keep b1 BA0.out.lt)
  have BA0_0 := BA0.out.cell (k := 0) rfl; have BA0_1 := BA0.out.cell (k := 1) rfl
  clear BRW_0 BRW_1
  replace BRW := Lib.hid (BRW.out.keep b1 BRW.out.lt)
  have BRW_0 := BRW.out.cell (k := 0) rfl; have BRW_1 := BRW.out.cell (k := 1) rfl
  replace RX0 := Lib.hid (RX0.out.keep b1 RX0.out.top)
  clear BX0_0 BX0_1
  replace BX0 := Lib.hid (BX0.out.keep b1 BX0.out.lt)
  have BX0_0 := BX0.out.cell (k := 0) rfl; have BX0_1 := BX0.out.cell (k := 1) rfl
  clear BRG_0 BRG_1
  replace BRG := Lib.hid (BRG.out.keep b1 BRG.out.lt)
  have BRG_0 := BRG.out.cell (k := 0) rfl; have BRG_1 := BRG.out.cell (k := 1) rfl
  replace BB := Lib.hid (BB.out.trans (b1.mono BB.out.size))
  clear b1
  go_wp2_with fail
  have hHeld2 := hHeld.later hb1 (Nat.le_refl _); clear hb1 hHeld
  refine hK.out _ _ hHeld2 (fun hHeld => ?_)
  clear hK K hHeld2
  refine wpAnyH_ready (rs := [3]) (by kernel_rfl) (by simp) (AllReadyH.cons rfl (fun K hK => ?_) AllReadyH.nil)
  go_simp
  refine (eqS_any _ _ x0 u0 x0 u0 _ _ _ RX0.out.rd RT.out.rd (by omega) (by omega) (by omega) (by omega)).mono ?_
  rintro e w13_ ⟨rfl, b1⟩
  have hb1 := b1
  have s13 := b1.size
  clear BA0_0 BA0_1
  replace BA0 := Lib.hid (BA0.out.keep b1 BA0.out.lt)
  have BA0_0 := BA0.out.cell (k := 0) rfl; have BA0_1 := BA0.out.cell (k := 1) rfl
  clear BRW_0 BRW_1
  replace BRW := Lib.hid (BRW.out.keep b1 BRW.out.lt)
  have BRW_0 := BRW.out.cell (k := 0) rfl; have BRW_1 := BRW.out.cell (k := 1) rfl
  replace RX0 := Lib.hid (RX0.out.keep b1 RX0.out.top)
  clear BX0_0 BX0_1
  replace BX0 := Lib.hid (BX0.out.keep b1 BX0.out.lt)
  have BX0_0 := BX0.out.cell (k := 0) rfl; have BX0_1 := BX0.out.cell (k := 1) rfl
  clear BRG_0 BRG_1
  replace BRG := Lib.hid (BRG.out.keep b1 BRG.out.lt)
  have BRG_0 := BRG.out.cell (k := 0) rfl; have BRG_1 := BRG.out.cell (k := 1) rfl
  replace RT := Lib.hid (RT.out.keep b1 RT.out.top)
  replace BB := Lib.hid (BB.out.trans (b1.mono BB.out.size))
  clear b1
  rw [eqi_self, eqi_self]
  go_wp2_with fail
  have hHeld2 := hHeld.later hb1 (Nat.le_refl _); clear hb1 hHeld
  refine hK.out _ _ hHeld2 (fun hHeld => ?_)
  clear hK K hHeld2
  refine wpAnyH_ready (rs := [4]) (by kernel_rfl) (by simp) (AllReadyH.cons rfl (fun K hK => ?_) AllReadyH.nil)
  go_simp
  refine hK.out _ _ hHeld (fun hHeld2 => ?_)
  clear hK K hHeld hHeld2
  refine wpAnyH_done (by kernel_rfl) ?_ _
  clear RT
  go_wp2_with fail
  go_ret
  exact ⟨rfl, BB.out⟩

set_option maxRecDepth 100000 in
theorem lifted (os : Os) (started : os.Started) (H : Type) (enc : TypeId × Value → H) :
    ReturnsInHanded {} Try.checked os 6 .any (Rows.fnExactModuliOfSpec.pre6 enc Try.prog Try.f6 Rows.fnExactModuliOfRow.domain false) (Rows.fnExactModuliOfSpec.post enc Try.prog Try.f6 false true false false) := by
  refine returnsInHanded_of_change (C := Try.checked) own started (by kernel_rfl) Try.func6
    (ChangeSpec.witness6 (enc := enc) (C := Try.checked) false ⟨#[], #[.agg #[.slice none 0 0, .slice none 0 0]], []⟩ 8 (by kernel_rfl) (by kernel_rfl) (by kernel_rfl) (by kernel_rfl)) ?_
  intro W base args ds gs before hval0 hW hcnd _
  have hval : ∀ (j : Nat) t v, Try.f6.params[j]? = some t → args[j]? = some v → Value.okWide Try.prog W .any base t v := hval0
  have hW' := hW
  obtain ⟨p, q, hA0, hV, rfl, hfz, hnd⟩ := hW
  have hA : DataW.TrodAll enc Try.prog W 0 (fun _ => true) true Try.f6.params.toList args.toList ds p := hA0
  rw [Try.params6] at hA hval
  obtain ⟨v0, vs0, d0, ds0, p0, q0, hargs, rfl, rfl, h0, r0⟩ := trodAll_cons hA
  obtain ⟨rfl, rfl, rfl⟩ := trodAll_nil r0
  obtain rfl : args = #[v0] := by cases args; simp_all
  obtain ⟨rfl, rfl⟩ := trodVars_none hV
  have lt0 : ∀ x ∈ p0, x.block < W.heap.size := by obtain ⟨m, hm⟩ := h0; exact DataW.trod_lt m _ _ _ hm
  obtain ⟨x0, u0, rd0, lx0, lu0⟩ := sf.open_S Try.underlying46 (by kernel_rfl) (by kernel_rfl) Try.underlying26 Try.underlying26 Try.underlying3 (by kernel_rfl) (hval 0 46 v0 rfl rfl) h0
  clear hA0 hval0
  refine (walk (w := W) v0 x0 u0 rd0 lx0 lu0).mono fun e W' ⟨he, bel⟩ => ?_
  subst he
  exact ⟨_, rfl, _, _, _, [], _, [], hW', trodAll_mk1 (shut_bool Try.underlying4 _), (trodAll_cons_mk (Below.trod laidOut (by kernel_rfl) (of_decide_eq_true (by kernel_rfl)) h0 bel lt0) trodAll_mk0), rfl, bel.frame _, fun h => by cases h⟩

theorem over : Rows.fnExactModuliOfRow.holds Try.pinned (OpenSpec.ofChange Rows.fnExactModuliOfSpec) :=
  OpenClaim.holds_of_wide 6 Try.f6 rfl rfl rfl rfl rfl rfl rfl ⟨rfl, rfl, rfl, rfl, rfl⟩ rfl rfl rfl rfl rfl (by kernel_rfl) Try.func6 (by kernel_rfl)
    (of_decide_eq_true (by kernel_rfl)) (by unfold Func.isWrapper; first | (rw [if_pos (by decide +kernel)]; kernel_rfl) | (rw [if_neg (by decide +kernel)]; exact ⟨rfl, rfl⟩))
    (fun os started H enc _ => lifted os started H enc)

theorem proved : Rows.FnExactModuliOfSaid :=
  over
#print axioms proved
end Go.Proofs.Ytngglhbcpeigcaa.fnExactModuliOf
