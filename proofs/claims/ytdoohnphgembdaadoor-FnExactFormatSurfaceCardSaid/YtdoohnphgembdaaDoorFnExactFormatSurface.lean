/-
  FnExactFormatSurface: at every argument the law FnExactFormatSurface returns true, and its arguments read as before. The listed package variables hold what the program text lays, as the card ties them to the pruned copy of the project.
-/
import Derived.Test.YtdoohnphgembdaaDoorRows
import Derived.Test.YtdoohnphgembdaaDoorDoor
import Derived.WalkKit
import Derived.ProofKit
import Derived.OpenShut
import Derived.ShutString
import Derived.ChangeOld
import Derived.Below
import Derived.Test.YtdoohnphgembdaaDoorJi
namespace Go.Proofs.YtdoohnphgembdaaDoor.fnExactFormatSurface
open Go.ChangeShapes Go.WideShapes Go.ChangeAt Go.RowKit
open Go.ChangeMaps (open_string shut_string)
open Go.Proofs.YtdoohnphgembdaaDoor.mem Go.Proofs.YtdoohnphgembdaaDoor.door Go.Proofs.YtdoohnphgembdaaDoor.ints Go.Proofs.YtdoohnphgembdaaDoor.arr Go.Proofs.YtdoohnphgembdaaDoor.sf Go.Proofs.YtdoohnphgembdaaDoor.pm
set_option linter.unusedVariables false
set_option maxRecDepth 100000

set_option maxHeartbeats 4000000 in
theorem walk (w : World) (v0 : Value) (x0 u0 : List Int) (rd0 : Srd w w.heap.size v0 x0 u0) (lx0 : x0.length ≤ maxLen) (lu0 : u0.length ≤ maxLen) (tab : Pow w) :
    Calls Tryd.prog 4 #[v0] w fun e w' => e = .returned (.bool true) ∧ Below w.heap.size w w' := by
  have TAB := Lib.hid tab; clear tab
  obtain ⟨P0, n0, c0, Q0, m0, d0, rfl, rp0, rq0, ec0, ed0⟩ := rd0
  have L0 : x0.length = n0 := by simpa [V] using rp0.1
  have M0 : u0.length = m0 := by simpa [V] using rq0.1
  have RD0 : Hid (Srd w w.heap.size (.agg #[.slice P0 n0 c0, .slice Q0 m0 d0]) x0 u0) := Lib.hid ⟨_, _, _, _, _, _, rfl, rp0, rq0, ec0, ed0⟩; clear rp0 rq0; unfold maxLen at lx0 lu0
  have BB := Lib.hid (Below.refl w.heap.size w)
  go_enter Tryd.func4, Tryd.ntmps4
  go_wp2_with fail
  generalize hw0 : (w.alloc (.cells #[.slice P0 n0 c0, .slice Q0 m0 d0] 30)) = w1_
  have BA0 : Hid (Arr w1_ (w.heap.size) [.slice P0 n0 c0, .slice Q0 m0 d0] 30) := Lib.hid (by rw [← hw0]; exact (Arr.new w [.slice P0 n0 c0, .slice Q0 m0 d0] 30 (g := w.heap.size) (by simp <;> omega)))
  have BA0_0 := BA0.out.cell (k := 0) rfl; have BA0_1 := BA0.out.cell (k := 1) rfl
  replace BB : Hid (Below w.heap.size w w1_) := Lib.hid (by rw [← hw0]; exact ((Below.refl w.heap.size w).alloc (by simp <;> omega) _))
  have s1 : w.heap.size + 1 = w1_.heap.size := by rw [← hw0]; simp
  clear hw0
  refine (sz_any P0 n0 c0 Q0 m0 d0 (1048576) _ (by omega) (by omega) (by omega) (by omega)).mono ?_
  rintro e w2_ ⟨rfl, b1⟩
  by_cases z0 : (1048576 : Int) < (n0 : Int) + m0
  · rw [if_pos z0]
    go_wp2_with fail
    go_ret
    exact ⟨rfl, BB.out.trans (b1.mono BB.out.size)⟩
  rw [if_neg z0]
  have zz0 : decide ((1048576 : Int) - n0 - m0 < 0) = false := by simp; omega
  have s2 := b1.size
  clear BA0_0 BA0_1
  replace BA0 := Lib.hid (BA0.out.keep b1 BA0.out.lt)
  have BA0_0 := BA0.out.cell (k := 0) rfl; have BA0_1 := BA0.out.cell (k := 1) rfl
  replace BB := Lib.hid (BB.out.trans (b1.mono BB.out.size))
  clear b1
  go_wp2_with fail
  refine (toS_any _ x0 u0 _ _ (RD0.out.keep BB.out (Nat.le_refl _)) (by omega) (by omega)).mono ?_
  rintro e w3_ ⟨v, rfl, o1, b1⟩
  obtain ⟨PRS0, cRS0, QRS0, dRS0, rfl⟩ := o1.lens L0 M0
  have NR := Lib.hid o1; clear o1
  have s3 := b1.size
  clear BA0_0 BA0_1
  replace BA0 := Lib.hid (BA0.out.keep b1 BA0.out.lt)
  have BA0_0 := BA0.out.cell (k := 0) rfl; have BA0_1 := BA0.out.cell (k := 1) rfl
  replace BB := Lib.hid (BB.out.trans (b1.mono BB.out.size))
  clear b1
  have RS0 := NR; clear NR
  go_wp2_with fail
  refine (ji.fs_spec _ x0 u0 _ _ RS0.out.rd (by omega) (by omega)).mono ?_
  rintro e w4_ ⟨rfl, b1⟩
  have s4 := b1.size
  clear BA0_0 BA0_1
  replace BA0 := Lib.hid (BA0.out.keep b1 BA0.out.lt)
  have BA0_0 := BA0.out.cell (k := 0) rfl; have BA0_1 := BA0.out.cell (k := 1) rfl
  replace RS0 := Lib.hid (RS0.out.keep b1 RS0.out.top)
  replace BB := Lib.hid (BB.out.trans (b1.mono BB.out.size))
  clear b1
  clear RS0
  go_wp2_with fail
  refine (toS_any _ x0 u0 _ _ (RD0.out.keep BB.out (Nat.le_refl _)) (by omega) (by omega)).mono ?_
  rintro e w5_ ⟨v, rfl, o1, b1⟩
  obtain ⟨PRX0, cRX0, QRX0, dRX0, rfl⟩ := o1.lens L0 M0
  have NR := Lib.hid o1; clear o1
  have s5 := b1.size
  clear BA0_0 BA0_1
  replace BA0 := Lib.hid (BA0.out.keep b1 BA0.out.lt)
  have BA0_0 := BA0.out.cell (k := 0) rfl; have BA0_1 := BA0.out.cell (k := 1) rfl
  replace BB := Lib.hid (BB.out.trans (b1.mono BB.out.size))
  clear b1
  have RX0 := NR; clear NR
  go_wp2_with (refine wpList_store_row rfl 33 _ _ rfl w5_.heap.size #[.slice PRX0 n0 cRX0, .slice QRX0 m0 dRX0] rfl rfl 33 #[.slice none 0 0, .slice none 0 0] (Arr.new w5_ [.slice none 0 0, .slice none 0 0] _ rfl) size2 rfl (by simp [Value.oneCell']) ?_; generalize hw : (w5_.alloc (.cells #[.slice none 0 0, .slice none 0 0] 33)).setRow w5_.heap.size #[.slice PRX0 n0 cRX0, .slice QRX0 m0 dRX0] = w6_; have NB : Hid (Arr w6_ w5_.heap.size [.slice PRX0 n0 cRX0, .slice QRX0 m0 dRX0] 33) := Lib.hid (by rw [← hw]; exact (Arr.new w5_ [.slice none 0 0, .slice none 0 0] _ rfl).row); have b1 : Below w5_.heap.size w5_ w6_ := (by rw [← hw]; exact below_setRow ((Below.refl _ _).alloc (Nat.le_refl _) _) (Nat.le_refl _) _); have t6 : w5_.heap.size + 1 ≤ w6_.heap.size := (by rw [← hw]; simp); clear hw; have s6 := b1.size; clear BA0_0 BA0_1; replace BA0 := Lib.hid (BA0.out.keep b1 BA0.out.lt); have BA0_0 := BA0.out.cell (k := 0) rfl; have BA0_1 := BA0.out.cell (k := 1) rfl; replace RX0 := Lib.hid (RX0.out.keep b1 RX0.out.top); replace BB := Lib.hid (BB.out.trans (b1.mono BB.out.size)); clear b1; have BX0 := NB; clear NB; have BX0_0 := BX0.out.cell (k := 0) rfl; have BX0_1 := BX0.out.cell (k := 1) rfl)
  refine (ji.fs_impl _ x0 u0 _ _ RX0.out.rd (by omega) (by omega) (TAB.out.keep BB.out TAB.out.lt)).mono ?_
  rintro e w7_ ⟨rfl, b1⟩
  have s7 := b1.size
  clear BA0_0 BA0_1
  replace BA0 := Lib.hid (BA0.out.keep b1 BA0.out.lt)
  have BA0_0 := BA0.out.cell (k := 0) rfl; have BA0_1 := BA0.out.cell (k := 1) rfl
  replace RX0 := Lib.hid (RX0.out.keep b1 RX0.out.top)
  clear BX0_0 BX0_1
  replace BX0 := Lib.hid (BX0.out.keep b1 BX0.out.lt)
  have BX0_0 := BX0.out.cell (k := 0) rfl; have BX0_1 := BX0.out.cell (k := 1) rfl
  replace BB := Lib.hid (BB.out.trans (b1.mono BB.out.size))
  clear b1
  generalize ji.fsF x0 u0 = qq at *
  go_wp2_with fail
  refine wp_region_held_drew (S := Hld w7_.heap.size w7_.heap.size w7_ [(w5_.heap.size, [.slice PRX0 n0 cRX0, .slice QRX0 m0 dRX0]), (w.heap.size, [.slice P0 n0 c0, .slice Q0 m0 d0])]) (by kernel_rfl) (Hld.start2 BX0.out BA0.out) (fun hHeld => ?_)
  have b1 := hHeld.below
  generalize w7_.drew = w8_ at *
  have s8 := b1.size
  clear BA0_0 BA0_1
  replace BA0 := Lib.hid (BA0.out.keep b1 BA0.out.lt)
  have BA0_0 := BA0.out.cell (k := 0) rfl; have BA0_1 := BA0.out.cell (k := 1) rfl
  replace RX0 := Lib.hid (RX0.out.keep b1 RX0.out.top)
  clear BX0_0 BX0_1
  replace BX0 := Lib.hid (BX0.out.keep b1 BX0.out.lt)
  have BX0_0 := BX0.out.cell (k := 0) rfl; have BX0_1 := BX0.out.cell (k := 1) rfl
  replace BB := Lib.hid (BB.out.trans (b1.mono BB.out.size))
  clear b1
  refine wpAnyH_take (i := 0) (v := .agg #[.slice PRX0 n0 cRX0, .slice QRX0 m0 dRX0]) rfl (by kernel_rfl) (by kernel_rfl) (by kernel_rfl) (fun _ _ _ h => h) (yieldsIf_load_mid (by rfl) _ _ rfl (w5_.heap.size) 0 rfl [.slice PRX0 n0 cRX0, .slice QRX0 m0 dRX0] _ (fun w h => h.fst) Tryd.underlying33 rfl (sizeS _ _)) hHeld ?_
  refine wpAnyH_take (i := 1) (v := .agg #[.slice P0 n0 c0, .slice Q0 m0 d0]) rfl (by kernel_rfl) (by kernel_rfl) (by kernel_rfl) (fun _ _ _ h => h) (yieldsIf_load_mid (by rfl) _ _ rfl (w.heap.size) 0 rfl [.slice P0 n0 c0, .slice Q0 m0 d0] _ (fun w h => h.snd) Tryd.underlying30 rfl (sizeL _ _)) hHeld ?_
  refine wpAnyH_ready (rs := [2]) (by kernel_rfl) (by simp) (AllReadyH.cons rfl (fun K hK => ?_) AllReadyH.nil)
  go_simp
  refine (toS_any _ x0 u0 _ _ (RD0.out.keep BB.out (Nat.le_refl _)) (by omega) (by omega)).mono ?_
  rintro e w9_ ⟨v, rfl, o1, b1⟩
  have hb1 := b1
  have RT := Lib.hid o1; clear o1
  have s9 := b1.size
  clear BA0_0 BA0_1
  replace BA0 := Lib.hid (BA0.out.keep b1 BA0.out.lt)
  have BA0_0 := BA0.out.cell (k := 0) rfl; have BA0_1 := BA0.out.cell (k := 1) rfl
  replace RX0 := Lib.hid (RX0.out.keep b1 RX0.out.top)
  clear BX0_0 BX0_1
  replace BX0 := Lib.hid (BX0.out.keep b1 BX0.out.lt)
  have BX0_0 := BX0.out.cell (k := 0) rfl; have BX0_1 := BX0.out.cell (k := 1) rfl
  replace BB := Lib.hid (BB.out.trans (b1.mono BB.out.size))
  clear b1
  go_wp2_with fail
  have hHeld2 := hHeld.later hb1 (Nat.le_refl _); clear hb1 hHeld
  refine hK.out _ _ hHeld2 (fun hHeld => ?_)
  clear hK K hHeld2
  refine wpAnyH_ready (rs := [3]) (by kernel_rfl) (by simp) (AllReadyH.cons rfl (fun K hK => ?_) AllReadyH.nil)
  go_simp
  refine (eqS_any _ _ x0 u0 x0 u0 _ _ _ RX0.out.rd RT.out.rd (by omega) (by omega) (by omega) (by omega)).mono ?_
  rintro e w10_ ⟨rfl, b1⟩
  have hb1 := b1
  have s10 := b1.size
  clear BA0_0 BA0_1
  replace BA0 := Lib.hid (BA0.out.keep b1 BA0.out.lt)
  have BA0_0 := BA0.out.cell (k := 0) rfl; have BA0_1 := BA0.out.cell (k := 1) rfl
  replace RX0 := Lib.hid (RX0.out.keep b1 RX0.out.top)
  clear BX0_0 BX0_1
  replace BX0 := Lib.hid (BX0.out.keep b1 BX0.out.lt)
  have BX0_0 := BX0.out.cell (k := 0) rfl; have BX0_1 := BX0.out.cell (k := 1) rfl
  replace RT := Lib.hid (RT.out.keep b1 RT.out.top)
  replace BB := Lib.hid (BB.out.trans (b1.mono BB.out.size))
  clear b1
  rw [eqi_self, eqi_self]
  go_wp2_with fail
  have hHeld2 := hHeld.later hb1 (Nat.le_refl _); clear hb1 hHeld
  refine hK.out _ _ hHeld2 (fun hHeld => ?_)
  clear hK K hHeld2
  refine wpAnyH_ready (rs := [4]) (by kernel_rfl) (by simp) (AllReadyH.cons rfl (fun K hK => ?_) AllReadyH.nil)
  go_simp
  refine hK.out _ _ hHeld (fun hHeld2 => ?_)
  clear hK K hHeld hHeld2
  refine wpAnyH_done (by kernel_rfl) ?_ _
  clear RT
  go_wp2_with fail
  go_ret
  exact ⟨rfl, BB.out⟩

theorem contract (H : Type) (enc : TypeId × Value → H) (W : World) (base : Nat) (args : Array Value) (ds gs : List (DataW H)) (before : List MemPlace)
    (hval : ∀ (j : Nat) t v, Tryd.f4.params[j]? = some t → args[j]? = some v → Value.okWide Tryd.prog W .any base t v)
    (hW : DataW.Whole enc Tryd.prog Tryd.f4.params.toList Rows.fnExactFormatSurfaceSpec.vars false W args.toList ds gs before) (hL : laidMetH Tryd.prog Rows.fnExactFormatSurfaceRow.laid W) :
    Calls Tryd.prog 4 args W fun e W' => ∃ v, e = .returned v ∧ Rows.fnExactFormatSurfaceSpec.post enc Tryd.prog Tryd.f4 false true false false W args v W' := by
  have hW' := hW
  obtain ⟨p, q, hA0, hV, rfl, hfz, hnd⟩ := hW
  have hA : DataW.TrodAll enc Tryd.prog W 0 (fun _ => true) true Tryd.f4.params.toList args.toList ds p := hA0
  rw [Tryd.params4] at hA hval
  obtain ⟨v0, vs0, d0, ds0, p0, q0, hargs, rfl, rfl, h0, r0⟩ := trodAll_cons hA
  obtain ⟨rfl, rfl, rfl⟩ := trodAll_nil r0
  obtain rfl : args = #[v0] := by cases args; simp_all
  obtain ⟨rfl, rfl⟩ := trodVars_none hV
  have lt0 : ∀ x ∈ p0, x.block < W.heap.size := by obtain ⟨m, hm⟩ := h0; exact DataW.trod_lt m _ _ _ hm
  obtain ⟨x0, u0, rd0, lx0, lu0⟩ := sf.open_S Tryd.underlying30 (by kernel_rfl) (by kernel_rfl) Tryd.underlying28 Tryd.underlying28 Tryd.underlying3 (by kernel_rfl) (hval 0 30 v0 rfl rfl) h0
  clear hA0
  have tab : Pow W := pow_of hL
  refine (walk (w := W) v0 x0 u0 rd0 lx0 lu0 tab).mono fun e W' ⟨he, bel⟩ => ?_
  subst he
  exact ⟨_, rfl, _, _, _, [], _, [], hW', trodAll_mk1 (shut_bool Tryd.underlying4 _), (trodAll_cons_mk (Below.trod laidOut (by kernel_rfl) (of_decide_eq_true (by kernel_rfl)) h0 bel lt0) trodAll_mk0), rfl, bel.frame _, fun h => by cases h⟩

theorem laid_met (os : Os) : laidMet Tryd.prog Rows.fnExactFormatSurfaceRow.laid ((world3 os).forCall (fun _ _ => 0) ⟨#[], #[.agg #[.slice none 0 0, .slice none 0 0]], []⟩).memory :=
  laidMet_of_run' 8 (by kernel_rfl) (by kernel_rfl)
theorem reads (os : Os) {H : Type} (enc : TypeId × Value → H) : ∃ places, DataW.whole enc Tryd.prog ((world3 os).forCall (fun _ _ => 0) ⟨#[], #[.agg #[.slice none 0 0, .slice none 0 0]], []⟩).memory Tryd.f4.params.toList Rows.fnExactFormatSurfaceSpec.vars false (#[.agg #[.slice none 0 0, .slice none 0 0]] : Array Value).toList 8 = some ([.agg [.nil, .nil]], [], places) :=
  ⟨[], by kernel_rfl⟩

set_option maxRecDepth 100000 in
theorem lifted (os : Os) (started : os.Started) (H : Type) (enc : TypeId × Value → H) (F : Stop.Interp) :
    ReturnsInHanded {} Tryd.checked os 4 .any ((OpenSpec.ofChange Rows.fnExactFormatSurfaceSpec).preRow enc Tryd.prog Tryd.f4 Rows.fnExactFormatSurfaceRow.domain false Rows.fnExactFormatSurfaceRow.laid) (((OpenSpec.ofChange Rows.fnExactFormatSurfaceSpec).at F).post enc Tryd.prog Tryd.f4 false true false false) := by
  obtain ⟨places, hx⟩ := reads os enc
  refine returnsInHanded_of_row (C := Tryd.checked) (s := OpenSpec.ofChange Rows.fnExactFormatSurfaceSpec) own started (by kernel_rfl) Tryd.func4
    (witness_row_at (enc := enc) (C := Tryd.checked) false (world3 os) #[.agg #[.slice none 0 0, .slice none 0 0]] rfl (by kernel_rfl) (by kernel_rfl) (by kernel_rfl)
      (OpenSpec.preRow_of_cond 8 hx (by kernel_rfl) (fun k hk => by cases hk) (by kernel_rfl) (laid_met os))) ?_
  intro W base args ds gs before hval hW _ _ _ hL _ _
  exact contract H enc W base args ds gs before hval hW hL

theorem said : Rows.FnExactFormatSurfaceSaid :=
  OpenClaim.holds_of_cond 4 Tryd.f4 rfl rfl rfl rfl rfl rfl rfl ⟨rfl, rfl, rfl, rfl, rfl⟩ rfl rfl rfl rfl rfl (by kernel_rfl) Tryd.func4 (by kernel_rfl)
    (of_decide_eq_true (by kernel_rfl)) (by unfold Func.isWrapper; first | (rw [if_pos (by decide +kernel)]; kernel_rfl) | (rw [if_neg (by decide +kernel)]; exact ⟨rfl, rfl⟩))
    (fun os started H enc _ F => by rw [OpenClaim.pre_eq_preRow]; exact lifted os started H enc F)

theorem plain (f : FuncId) (fn : Func) (hf : Tryd.pinned.checked.prog.funcNamed "loop.example/g00928/laws.FnExactFormatSurface" = some f) (hfn : Tryd.pinned.checked.prog.funcs[f]? = some fn) :
    false = Tryd.pinned.checked.prog.looks [] ∧ ∀ (j : Nat) t, fn.params[j]? = some t → Tryd.pinned.checked.prog.wantsStandIn t = false := by
  obtain rfl : f = 4 := Option.some.inj ((show Tryd.prog.funcNamed "loop.example/g00928/laws.FnExactFormatSurface" = some 4 by kernel_rfl).symm.trans hf) |>.symm
  obtain rfl : fn = Tryd.f4 := (Option.some.inj (Tryd.func4.symm.trans hfn)).symm
  refine ⟨by kernel_rfl, fun j t ht => ?_⟩
  rw [Tryd.params4] at ht
  have hm := Array.mem_of_getElem? ht
  have ha : ∀ x ∈ #[30], Tryd.prog.wantsStandIn x = false := by
    intro x hx
    simp only [List.mem_toArray, List.mem_cons, List.not_mem_nil, or_false] at hx
    rcases hx with rfl <;> kernel_rfl
  exact ha t hm

theorem proved : Rows.FnExactFormatSurfaceCardSaid :=
  Claim7.holds_tied_plain_at .later [] _ _ _ _ said (fun _ h => by cases h) (by kernel_rfl) (fun _ h => by cases h) fnExactFormatSurface_row_tie rfl ⟨rfl, rfl⟩ (by kernel_rfl) rfl plain (by kernel_rfl)
#print axioms proved
end Go.Proofs.YtdoohnphgembdaaDoor.fnExactFormatSurface
