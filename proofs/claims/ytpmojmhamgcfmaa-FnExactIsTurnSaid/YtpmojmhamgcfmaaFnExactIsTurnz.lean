/-
  FnExactIsTurn: at every argument the law FnExactIsTurn returns true, and its arguments read as before. No condition.
-/
import Derived.Test.YtpmojmhamgcfmaaRows
import Derived.WalkKit
import Derived.ProofKit
import Derived.OpenShut
import Derived.ShutString
import Derived.ChangeOld
import Derived.Below
import Derived.Test.YtpmojmhamgcfmaaY02
import Derived.Test.YtpmojmhamgcfmaaY20
namespace Go.Proofs.Ytpmojmhamgcfmaa.fnExactIsTurn
open Go.ChangeShapes Go.WideShapes Go.ChangeAt Go.RowKit
open Go.ChangeMaps (open_string shut_string)
open Go.Proofs.Ytpmojmhamgcfmaa.mem Go.Proofs.Ytpmojmhamgcfmaa.ints Go.Proofs.Ytpmojmhamgcfmaa.arr Go.Proofs.Ytpmojmhamgcfmaa.sf Go.Proofs.Ytpmojmhamgcfmaa.pm Go.Proofs.Ytpmojmhamgcfmaa.gl Go.Proofs.Ytpmojmhamgcfmaa.ht
set_option linter.unusedVariables false
set_option maxRecDepth 100000

theorem own : ownKnob Try.prog.godebug = none := by kernel_rfl
theorem laidOut : laidOutB Try.prog = true := by kernel_rfl

set_option maxHeartbeats 4000000 in
theorem walk (w : World) (v0 : Value) (x0 u0 : List Int) (A1 : Option Addr) (n1 c1 : Nat) (x1 : List Int) (rd0 : Srd w w.heap.size v0 x0 u0) (lx0 : x0.length ≤ maxLen) (lu0 : u0.length ≤ maxLen) (rd1 : Rd w w.heap.size A1 n1 (V x1)) (cn1 : n1 ≤ c1) (cm1 : c1 ≤ maxLen) (el1 : True) :
    Calls Try.prog 4 #[v0, .slice A1 n1 c1] w fun e w' => e = .returned (.bool true) ∧ Below w.heap.size w w' := by
  obtain ⟨P0, n0, c0, Q0, m0, d0, rfl, rp0, rq0, ec0, ed0⟩ := rd0
  have L0 : x0.length = n0 := by simpa [V] using rp0.1
  have M0 : u0.length = m0 := by simpa [V] using rq0.1
  have RD0 : Hid (Srd w w.heap.size (.agg #[.slice P0 n0 c0, .slice Q0 m0 d0]) x0 u0) := Lib.hid ⟨_, _, _, _, _, _, rfl, rp0, rq0, ec0, ed0⟩; clear rp0 rq0; unfold maxLen at lx0 lu0
  have L1 : x1.length = n1 := by simpa [V] using rd1.1
  have RD1 := Lib.hid rd1; clear rd1 el1; unfold maxLen at cm1
  by_cases z1 : 1048576 < n1
  · go_enter Try.func4, Try.ntmps4
    go_wp2_with fail
    go_ret
    exact ⟨rfl, (Below.refl _ _).alloc (Nat.le_refl _) _⟩
  have BB := Lib.hid (Below.refl w.heap.size w)
  go_enter Try.func4, Try.ntmps4
  go_wp2_with fail
  generalize hw0 : (w.alloc (.cells #[.slice P0 n0 c0, .slice Q0 m0 d0] 37)) = w1_
  have BA0 : Hid (Arr w1_ (w.heap.size) [.slice P0 n0 c0, .slice Q0 m0 d0] 37) := Lib.hid (by rw [← hw0]; exact (Arr.new w [.slice P0 n0 c0, .slice Q0 m0 d0] 37 (g := w.heap.size) (by simp <;> omega)))
  have BA0_0 := BA0.out.cell (k := 0) rfl; have BA0_1 := BA0.out.cell (k := 1) rfl
  replace BB : Hid (Below w.heap.size w w1_) := Lib.hid (by rw [← hw0]; exact ((Below.refl w.heap.size w).alloc (by simp <;> omega) _))
  have s1 : w.heap.size + 1 = w1_.heap.size := by rw [← hw0]; simp
  clear hw0
  refine (sz_any P0 n0 c0 Q0 m0 d0 (1048576) _ (by omega) (by omega) (by omega) (by omega)).mono ?_
  rintro e w2_ ⟨rfl, b1⟩
  by_cases z0 : (1048576 : Int) < (n0 : Int) + m0
  · rw [if_pos z0]
    go_wp2_with fail
    go_ret
    exact ⟨rfl, BB.out.trans (b1.mono BB.out.size)⟩
  rw [if_neg z0]
  have zz0 : decide ((1048576 : Int) - n0 - m0 < 0) = false := by simp; omega
  have s2 := b1.size
  clear BA0_0 BA0_1
  replace BA0 := Lib.hid (BA0.out.keep b1 BA0.out.lt)
  have BA0_0 := BA0.out.cell (k := 0) rfl; have BA0_1 := BA0.out.cell (k := 1) rfl
  replace BB := Lib.hid (BB.out.trans (b1.mono BB.out.size))
  clear b1
  go_wp2_with fail
  refine (toS_any _ x0 u0 _ _ (RD0.out.keep BB.out (Nat.le_refl _)) (by omega) (by omega)).mono ?_
  rintro e w3_ ⟨v, rfl, o1, b1⟩
  obtain ⟨PRS0, cRS0, QRS0, dRS0, rfl⟩ := o1.lens L0 M0
  have NR := Lib.hid o1; clear o1
  have s3 := b1.size
  clear BA0_0 BA0_1
  replace BA0 := Lib.hid (BA0.out.keep b1 BA0.out.lt)
  have BA0_0 := BA0.out.cell (k := 0) rfl; have BA0_1 := BA0.out.cell (k := 1) rfl
  replace BB := Lib.hid (BB.out.trans (b1.mono BB.out.size))
  clear b1
  have RS0 := NR; clear NR
  go_wp2_with fail
  refine (to_any A1 n1 c1 x1 _ _ (RD1.out.keep BB.out (Nat.le_refl _)) (by omega)).mono ?_
  rintro e w4_ ⟨rfl, o1, b1⟩
  have NR := Lib.hid (Row.of_own o1); clear o1
  have s4 := b1.size
  clear BA0_0 BA0_1
  replace BA0 := Lib.hid (BA0.out.keep b1 BA0.out.lt)
  have BA0_0 := BA0.out.cell (k := 0) rfl; have BA0_1 := BA0.out.cell (k := 1) rfl
  replace RS0 := Lib.hid (RS0.out.keep b1 RS0.out.top)
  replace BB := Lib.hid (BB.out.trans (b1.mono BB.out.size))
  clear b1
  have RS1 := NR; clear NR
  go_wp2_with fail
  refine (it_spec _ x0 u0 (some ⟨w3_.heap.size, 0, none⟩) n1 n1 x1 _ _ _ RS0.out.rd RS1.out.rd (by omega) (by omega) (by omega) (Nat.le_refl _)).mono ?_
  rintro e w5_ ⟨rfl, b1⟩
  have s5 := b1.size
  clear BA0_0 BA0_1
  replace BA0 := Lib.hid (BA0.out.keep b1 BA0.out.lt)
  have BA0_0 := BA0.out.cell (k := 0) rfl; have BA0_1 := BA0.out.cell (k := 1) rfl
  replace RS0 := Lib.hid (RS0.out.keep b1 RS0.out.top)
  replace RS1 := Lib.hid (RS1.out.keep b1 RS1.out.2.1)
  replace BB := Lib.hid (BB.out.trans (b1.mono BB.out.size))
  clear b1
  clear RS0
  clear RS1
  go_wp2_with fail
  refine (toS_any _ x0 u0 _ _ (RD0.out.keep BB.out (Nat.le_refl _)) (by omega) (by omega)).mono ?_
  rintro e w6_ ⟨v, rfl, o1, b1⟩
  obtain ⟨PRX0, cRX0, QRX0, dRX0, rfl⟩ := o1.lens L0 M0
  have NR := Lib.hid o1; clear o1
  have s6 := b1.size
  clear BA0_0 BA0_1
  replace BA0 := Lib.hid (BA0.out.keep b1 BA0.out.lt)
  have BA0_0 := BA0.out.cell (k := 0) rfl; have BA0_1 := BA0.out.cell (k := 1) rfl
  replace BB := Lib.hid (BB.out.trans (b1.mono BB.out.size))
  clear b1
  have RX0 := NR; clear NR
  go_wp2_with (refine wpList_store_row rfl 25 _ _ rfl w6_.heap.size #[.slice PRX0 n0 cRX0, .slice QRX0 m0 dRX0] rfl rfl 25 #[.slice none 0 0, .slice none 0 0] (Arr.new w6_ [.slice none 0 0, .slice none 0 0] _ rfl) size2 rfl (by simp [Value.oneCell']) ?_; generalize hw : (w6_.alloc (.cells #[.slice none 0 0, .slice none 0 0] 25)).setRow w6_.heap.size #[.slice PRX0 n0 cRX0, .slice QRX0 m0 dRX0] = w7_; have NB : Hid (Arr w7_ w6_.heap.size [.slice PRX0 n0 cRX0, .slice QRX0 m0 dRX0] 25) := Lib.hid (by rw [← hw]; exact (Arr.new w6_ [.slice none 0 0, .slice none 0 0] _ rfl).row); have b1 : Below w6_.heap.size w6_ w7_ := (by rw [← hw]; exact below_setRow ((Below.refl _ _).alloc (Nat.le_refl _) _) (Nat.le_refl _) _); have t7 : w6_.heap.size + 1 ≤ w7_.heap.size := (by rw [← hw]; simp); clear hw; have s7 := b1.size; clear BA0_0 BA0_1; replace BA0 := Lib.hid (BA0.out.keep b1 BA0.out.lt); have BA0_0 := BA0.out.cell (k := 0) rfl; have BA0_1 := BA0.out.cell (k := 1) rfl; replace RX0 := Lib.hid (RX0.out.keep b1 RX0.out.top); replace BB := Lib.hid (BB.out.trans (b1.mono BB.out.size)); clear b1; have BX0 := NB; clear NB; have BX0_0 := BX0.out.cell (k := 0) rfl; have BX0_1 := BX0.out.cell (k := 1) rfl)
  go_wp2_with fail
  refine (to_any A1 n1 c1 x1 _ _ (RD1.out.keep BB.out (Nat.le_refl _)) (by omega)).mono ?_
  rintro e w8_ ⟨rfl, o1, b1⟩
  have NR := Lib.hid (Row.of_own o1); clear o1
  have s8 := b1.size
  clear BA0_0 BA0_1
  replace BA0 := Lib.hid (BA0.out.keep b1 BA0.out.lt)
  have BA0_0 := BA0.out.cell (k := 0) rfl; have BA0_1 := BA0.out.cell (k := 1) rfl
  replace RX0 := Lib.hid (RX0.out.keep b1 RX0.out.top)
  clear BX0_0 BX0_1
  replace BX0 := Lib.hid (BX0.out.keep b1 BX0.out.lt)
  have BX0_0 := BX0.out.cell (k := 0) rfl; have BX0_1 := BX0.out.cell (k := 1) rfl
  replace BB := Lib.hid (BB.out.trans (b1.mono BB.out.size))
  clear b1
  have RX1 := NR; clear NR
  go_wp2_with fail
  refine (it_impl _ x0 u0 (some ⟨w7_.heap.size, 0, none⟩) n1 n1 x1 _ _ _ RX0.out.rd RX1.out.rd (by omega) (by omega) (by omega)).mono ?_
  rintro e w9_ ⟨rfl, b1⟩
  have s9 := b1.size
  clear BA0_0 BA0_1
  replace BA0 := Lib.hid (BA0.out.keep b1 BA0.out.lt)
  have BA0_0 := BA0.out.cell (k := 0) rfl; have BA0_1 := BA0.out.cell (k := 1) rfl
  replace RX0 := Lib.hid (RX0.out.keep b1 RX0.out.top)
  clear BX0_0 BX0_1
  replace BX0 := Lib.hid (BX0.out.keep b1 BX0.out.lt)
  have BX0_0 := BX0.out.cell (k := 0) rfl; have BX0_1 := BX0.out.cell (k := 1) rfl
  replace RX1 := Lib.hid (RX1.out.keep b1 RX1.out.2.1)
  replace BB := Lib.hid (BB.out.trans (b1.mono BB.out.size))
  clear b1
  generalize itB x0 u0 x1 = qq at *
  have hqq : (qq != qq) = false := by simp
  go_wp2_with fail
  refine wp_region_held_drew (S := Hld w9_.heap.size w9_.heap.size w9_ [(w6_.heap.size, [.slice PRX0 n0 cRX0, .slice QRX0 m0 dRX0]), (w.heap.size, [.slice P0 n0 c0, .slice Q0 m0 d0])]) (by kernel_rfl) (Hld.start2 BX0.out BA0.out) (fun hHeld => ?_)
  have b1 := hHeld.below
  generalize w9_.drew = w10_ at *
  have s10 := b1.size
  clear BA0_0 BA0_1
  replace BA0 := Lib.hid (BA0.out.keep b1 BA0.out.lt)
  have BA0_0 := BA0.out.cell (k := 0) rfl; have BA0_1 := BA0.out.cell (k := 1) rfl
  replace RX0 := Lib.hid (RX0.out.keep b1 RX0.out.top)
  clear BX0_0 BX0_1
  replace BX0 := Lib.hid (BX0.out.keep b1 BX0.out.lt)
  have BX0_0 := BX0.out.cell (k := 0) rfl; have BX0_1 := BX0.out.cell (k := 1) rfl
  replace RX1 := Lib.hid (RX1.out.keep b1 RX1.out.2.1)
  replace BB := Lib.hid (BB.out.trans (b1.mono BB.out.size))
  clear b1
  refine wpAnyH_take (i := 0) (v := .agg #[.slice PRX0 n0 cRX0, .slice QRX0 m0 dRX0]) rfl (by kernel_rfl) (by kernel_rfl) (by kernel_rfl) (fun _ _ _ h => h) (yieldsIf_load_mid (by rfl) _ _ rfl (w6_.heap.size) 0 rfl [.slice PRX0 n0 cRX0, .slice QRX0 m0 dRX0] _ (fun w h => h.fst) Try.underlying25 rfl (sizeS _ _)) hHeld ?_
  refine wpAnyH_take (i := 1) (v := .agg #[.slice P0 n0 c0, .slice Q0 m0 d0]) rfl (by kernel_rfl) (by kernel_rfl) (by kernel_rfl) (fun _ _ _ h => h) (yieldsIf_load_mid (by rfl) _ _ rfl (w.heap.size) 0 rfl [.slice P0 n0 c0, .slice Q0 m0 d0] _ (fun w h => h.snd) Try.underlying37 rfl (sizeL _ _)) hHeld ?_
  refine wpAnyH_ready (rs := [2]) (by kernel_rfl) (by simp) (AllReadyH.cons rfl (fun K hK => ?_) AllReadyH.nil)
  go_simp
  refine (toS_any _ x0 u0 _ _ (RD0.out.keep BB.out (Nat.le_refl _)) (by omega) (by omega)).mono ?_
  rintro e w11_ ⟨v, rfl, o1, b1⟩
  have hb1 := b1
  have RT := Lib.hid o1; clear o1
  have s11 := b1.size
  clear BA0_0 BA0_1
  replace BA0 := Lib.hid (BA0.out.keep b1 BA0.out.lt)
  have BA0_0 := BA0.out.cell (k := 0) rfl; have BA0_1 := BA0.out.cell (k := 1) rfl
  replace RX0 := Lib.hid (RX0.out.keep b1 RX0.out.top)
  clear BX0_0 BX0_1
  replace BX0 := Lib.hid (BX0.out.keep b1 BX0.out.lt)
  have BX0_0 := BX0.out.cell (k := 0) rfl; have BX0_1 := BX0.out.cell (k := 1) rfl
  replace RX1 := Lib.hid (RX1.out.keep b1 RX1.out.2.1)
  replace BB := Lib.hid (BB.out.trans (b1.mono BB.out.size))
  clear b1
  go_wp2_with fail
  have hHeld2 := hHeld.later hb1 (Nat.le_refl _); clear hb1 hHeld
  refine hK.out _ _ hHeld2 (fun hHeld => ?_)
  clear hK K hHeld2
  refine wpAnyH_ready (rs := [3]) (by kernel_rfl) (by simp) (AllReadyH.cons rfl (fun K hK => ?_) AllReadyH.nil)
  go_simp
  refine (eqS_any _ _ x0 u0 x0 u0 _ _ _ RX0.out.rd RT.out.rd (by omega) (by omega) (by omega) (by omega)).mono ?_
  rintro e w12_ ⟨rfl, b1⟩
  have hb1 := b1
  have s12 := b1.size
  clear BA0_0 BA0_1
  replace BA0 := Lib.hid (BA0.out.keep b1 BA0.out.lt)
  have BA0_0 := BA0.out.cell (k := 0) rfl; have BA0_1 := BA0.out.cell (k := 1) rfl
  replace RX0 := Lib.hid (RX0.out.keep b1 RX0.out.top)
  clear BX0_0 BX0_1
  replace BX0 := Lib.hid (BX0.out.keep b1 BX0.out.lt)
  have BX0_0 := BX0.out.cell (k := 0) rfl; have BX0_1 := BX0.out.cell (k := 1) rfl
  replace RX1 := Lib.hid (RX1.out.keep b1 RX1.out.2.1)
  replace RT := Lib.hid (RT.out.keep b1 RT.out.top)
  replace BB := Lib.hid (BB.out.trans (b1.mono BB.out.size))
  clear b1
  rw [eqi_self, eqi_self]
  go_wp2_with fail
  have hHeld2 := hHeld.later hb1 (Nat.le_refl _); clear hb1 hHeld
  refine hK.out _ _ hHeld2 (fun hHeld => ?_)
  clear hK K hHeld2
  refine wpAnyH_ready (rs := [4]) (by kernel_rfl) (by simp) (AllReadyH.cons rfl (fun K hK => ?_) AllReadyH.nil)
  go_simp
  refine hK.out _ _ hHeld (fun hHeld2 => ?_)
  clear hK K hHeld hHeld2
  refine wpAnyH_done (by kernel_rfl) ?_ _
  clear RT
  go_wp2_with fail
  refine (to_any A1 n1 c1 x1 _ _ (RD1.out.keep BB.out (Nat.le_refl _)) (by omega)).mono ?_
  rintro e w13_ ⟨rfl, o1, b1⟩
  have NR := Lib.hid (Row.of_own o1); clear o1
  have s13 := b1.size
  clear BA0_0 BA0_1
  replace BA0 := Lib.hid (BA0.out.keep b1 BA0.out.lt)
  have BA0_0 := BA0.out.cell (k := 0) rfl; have BA0_1 := BA0.out.cell (k := 1) rfl
  replace RX0 := Lib.hid (RX0.out.keep b1 RX0.out.top)
  clear BX0_0 BX0_1
  replace BX0 := Lib.hid (BX0.out.keep b1 BX0.out.lt)
  have BX0_0 := BX0.out.cell (k := 0) rfl; have BX0_1 := BX0.out.cell (k := 1) rfl
  replace RX1 := Lib.hid (RX1.out.keep b1 RX1.out.2.1)
  replace BB := Lib.hid (BB.out.trans (b1.mono BB.out.size))
  clear b1
  have RT1 := NR; clear NR
  go_wp2_with fail
  refine (eq_any (some ⟨w7_.heap.size, 0, none⟩) n1 n1 (some ⟨w12_.heap.size, 0, none⟩) n1 n1 x1 x1 _ _ _ RX1.out.rd RT1.out.rd (by unfold maxLen; omega) (by unfold maxLen; omega)).mono ?_
  rintro e w14_ ⟨rfl, hd⟩
  rw [eqi_self]
  have b1 := hd.below w13_.heap.size; clear hd
  have s14 := b1.size
  clear BA0_0 BA0_1
  replace BA0 := Lib.hid (BA0.out.keep b1 BA0.out.lt)
  have BA0_0 := BA0.out.cell (k := 0) rfl; have BA0_1 := BA0.out.cell (k := 1) rfl
  replace RX0 := Lib.hid (RX0.out.keep b1 RX0.out.top)
  clear BX0_0 BX0_1
  replace BX0 := Lib.hid (BX0.out.keep b1 BX0.out.lt)
  have BX0_0 := BX0.out.cell (k := 0) rfl; have BX0_1 := BX0.out.cell (k := 1) rfl
  replace RX1 := Lib.hid (RX1.out.keep b1 RX1.out.2.1)
  replace RT1 := Lib.hid (RT1.out.keep b1 RT1.out.2.1)
  replace BB := Lib.hid (BB.out.trans (b1.mono BB.out.size))
  clear b1
  clear RT1
  go_wp2_with fail
  go_ret
  exact ⟨rfl, BB.out⟩

set_option maxRecDepth 100000 in
theorem lifted (os : Os) (started : os.Started) (H : Type) (enc : TypeId × Value → H) :
    ReturnsInHanded {} Try.checked os 4 .any (Rows.fnExactIsTurnSpec.pre6 enc Try.prog Try.f4 Rows.fnExactIsTurnRow.domain false) (Rows.fnExactIsTurnSpec.post enc Try.prog Try.f4 false true false false) := by
  refine returnsInHanded_of_change (C := Try.checked) own started (by kernel_rfl) Try.func4
    (ChangeSpec.witness6 (enc := enc) (C := Try.checked) false ⟨#[], #[.agg #[.slice none 0 0, .slice none 0 0], .slice none 0 0], []⟩ 8 (by kernel_rfl) (by kernel_rfl) (by kernel_rfl) (by kernel_rfl)) ?_
  intro W base args ds gs before hval0 hW hcnd _
  have hval : ∀ (j : Nat) t v, Try.f4.params[j]? = some t → args[j]? = some v → Value.okWide Try.prog W .any base t v := hval0
  have hW' := hW
  obtain ⟨p, q, hA0, hV, rfl, hfz, hnd⟩ := hW
  have hA : DataW.TrodAll enc Try.prog W 0 (fun _ => true) true Try.f4.params.toList args.toList ds p := hA0
  rw [Try.params4] at hA hval
  obtain ⟨v0, vs0, d0, ds0, p0, q0, hargs, rfl, rfl, h0, r0⟩ := trodAll_cons hA
  obtain ⟨v1, vs1, d1, ds1, p1, q1, rfl, rfl, rfl, h1, r1⟩ := trodAll_cons r0
  obtain ⟨rfl, rfl, rfl⟩ := trodAll_nil r1
  obtain rfl : args = #[v0, v1] := by cases args; simp_all
  obtain ⟨rfl, rfl⟩ := trodVars_none hV
  have lt0 : ∀ x ∈ p0, x.block < W.heap.size := by obtain ⟨m, hm⟩ := h0; exact DataW.trod_lt m _ _ _ hm
  obtain ⟨x0, u0, rd0, lx0, lu0⟩ := sf.open_S Try.underlying37 (by kernel_rfl) (by kernel_rfl) Try.underlying23 Try.underlying23 Try.underlying3 (by kernel_rfl) (hval 0 37 v0 rfl rfl) h0
  obtain ⟨A1, n1, c1, rfl⟩ := okWide_slice Try.underlying23 (hval 1 23 v1 rfl rfl)
  have lt1 : ∀ x ∈ p1, x.block < W.heap.size := by obtain ⟨m, hm⟩ := h1; exact DataW.trod_lt m _ _ _ hm
  obtain ⟨x1, rd1, cn1, cm1, el1⟩ := open_I Try.underlying23 Try.underlying3 (by kernel_rfl) h1
  clear hA0 hval0
  refine (walk (w := W) v0 x0 u0 A1 n1 c1 x1 rd0 lx0 lu0 rd1 cn1 cm1 el1).mono fun e W' ⟨he, bel⟩ => ?_
  subst he
  exact ⟨_, rfl, _, _, _, [], _, [], hW', trodAll_mk1 (shut_bool Try.underlying4 _), (trodAll_cons_mk (Below.trod laidOut (by kernel_rfl) (of_decide_eq_true (by kernel_rfl)) h0 bel lt0) (trodAll_cons_mk (Below.trod laidOut (by kernel_rfl) (of_decide_eq_true (by kernel_rfl)) h1 bel lt1) trodAll_mk0)), rfl, bel.frame _, fun h => by cases h⟩

theorem over : Rows.fnExactIsTurnRow.holds Try.pinned (OpenSpec.ofChange Rows.fnExactIsTurnSpec) :=
  OpenClaim.holds_of_wide 4 Try.f4 rfl rfl rfl rfl rfl rfl rfl ⟨rfl, rfl, rfl, rfl, rfl⟩ rfl rfl rfl rfl rfl (by kernel_rfl) Try.func4 (by kernel_rfl)
    (of_decide_eq_true (by kernel_rfl)) (by unfold Func.isWrapper; first | (rw [if_pos (by decide +kernel)]; kernel_rfl) | (rw [if_neg (by decide +kernel)]; exact ⟨rfl, rfl⟩))
    (fun os started H enc _ => lifted os started H enc)

theorem proved : Rows.FnExactIsTurnSaid :=
  over
#print axioms proved
end Go.Proofs.Ytpmojmhamgcfmaa.fnExactIsTurn
