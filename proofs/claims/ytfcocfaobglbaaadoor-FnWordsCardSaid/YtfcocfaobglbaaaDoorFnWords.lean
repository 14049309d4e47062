/-
  FnWords: at every argument the law FnWords returns true, and its arguments read as before. The listed package variables hold what the program text lays, as the card ties them to the pruned copy of the project.
-/
import Derived.Test.YtfcocfaobglbaaaDoorRows
import Derived.Test.YtfcocfaobglbaaaDoorDoor
import Derived.WalkKit
import Derived.ProofKit
import Derived.OpenShut
import Derived.ShutString
import Derived.ChangeOld
import Derived.Below
import Derived.Test.YtfcocfaobglbaaaDoorImplParse
import Derived.Test.YtfcocfaobglbaaaDoorText
import Derived.Test.YtfcocfaobglbaaaDoorOpenB
namespace Go.Proofs.YtfcocfaobglbaaaDoor.fnWords
open Go.ChangeShapes Go.WideShapes Go.ChangeAt Go.RowKit
open Go.ChangeMaps (open_string shut_string)
open Go.Proofs.YtfcocfaobglbaaaDoor.mem Go.Proofs.YtfcocfaobglbaaaDoor.door Go.Proofs.YtfcocfaobglbaaaDoor.cur
set_option linter.unusedVariables false

set_option maxHeartbeats 1600000 in
theorem walk (w : World) (A : Option Addr) (n c : Nat) (l : List Int) (rd : Rd w w.heap.size A n (U l)) (cn : n ≤ c) (cm : c ≤ maxLen) (el : Bytes l) (tab : Pow w) (errs : Errs w) :
    Calls Tryd.prog 3 #[.slice A n c] w fun e w' => e = .returned (.bool true) ∧ Below w.heap.size w w' := by
  have TAB := Lib.hid tab; have ERR := Lib.hid errs; clear tab errs
  have RD := Lib.hid rd; have EL := Lib.hid el; clear rd el
  unfold maxLen at cm
  by_cases b0 : 1048576 < n
  · clear RD EL TAB ERR
    go_enter Tryd.func3, Tryd.ntmps3
    go_wp2_with fail
    go_ret
    exact ⟨rfl, Below.refl _ _⟩
  have hlt : 2 < w.heap.size := TAB.out.lt
  have hlt0 : 0 < w.heap.size := by omega
  have hlt1 : 1 < w.heap.size := by omega
  have hd0 : decide (1048576 < (n : Int)) = false := by simp; omega
  have HC := Lib.hid (cur.Code.mk RD.out EL.out (by omega)); clear RD EL
  go_enter Tryd.func3, Tryd.ntmps3
  go_wp2_with fail
  refine (num_any w _ A n c l 1 (by omega) HC.out).mono ?_
  rintro e wa ⟨x, x0, x1, rfl, ba⟩
  have BA := Lib.hid ba; clear ba
  go_wp2_with fail
  refine (implFmt.impl_any (x - 30000) _ (by omega) (by omega) (TAB.out.keep BA.out hlt)).mono ?_
  rintro e wb ⟨rfl, bb⟩
  have BB := Lib.hid (BA.out.trans (bb.mono BA.out.size)); clear bb
  have hnum : num.Num (fmt.B (Lib.itoa (x - 30000))).data.toList (x - 30000) := ⟨⟨by omega, by omega⟩, by simp [fmt.B]⟩
  have hsz : (fmt.B (Lib.itoa (x - 30000))).size ≤ 1048576 := by
    rw [fmt.B_size]
    unfold Lib.itoa
    split
    · have := num.dec_len19 (u := (x - 30000).natAbs) (by omega)
      rw [List.length_cons]; omega
    · have := num.dec_len19 (u := (x - 30000).toNat) (by omega)
      omega
  have HN := Lib.hid hnum; clear hnum
  go_wp2_with fail
  refine (implParse.impl_any _ _ hsz (TAB.out.keep BB.out hlt) (ERR.out.keep BB.out hlt0 hlt1)).mono ?_
  rintro e wc hpost
  obtain ⟨m, hm, rfl, bc⟩ := Or.resolve_right hpost (fun h => h.1 _ HN.out)
  clear hpost
  obtain rfl := HN.out.uniq hm
  have BC := Lib.hid (BB.out.trans (bc.mono BB.out.size)); clear bc hm HN hsz
  go_wp2_with fail
  refine (text.text_any _ _ A n c l (HC.out.keep BC.out (Nat.le_refl _))).mono ?_
  rintro e wd ⟨s, hs, rfl, bd⟩
  have BD := Lib.hid (BC.out.trans (bd.mono BC.out.size)); clear bd
  go_wp2_with fail
  refine (split.impl_any s text.sp _ (by omega) (by decide)).mono ?_
  rintro e we ⟨v, rfl, oe, be⟩
  obtain ⟨hxl, hxu⟩ : 0 < (split.fin s (split.has text.sp text.sp.size)).length ∧ (split.fin s (split.has text.sp text.sp.size)).length ≤ 1048576 := by
    have hfl := split.fin_len s (split.has text.sp text.sp.size)
    have hsl := split.st_len s (split.has text.sp text.sp.size) s.size
    omega
  obtain ⟨gg, cap, rfl, hgg, hggl⟩ := World.ownsRow.form oe (by omega)
  obtain ⟨hcap, hcm⟩ := lines.own_cap oe
  have rE := Row.of_own oe
  have RE := Lib.hid rE; have BE := Lib.hid (BD.out.trans (be.mono BD.out.size)); clear be oe rE
  have hsm := text.fin_sm s
  have hrec : ByteArray.mk (join.J (split.fin s (split.has text.sp text.sp.size)) text.sp).toArray = s := by
    rw [text.recovered]
  have HREC := Lib.hid hrec; clear hrec
  generalize HF : split.fin s (split.has text.sp text.sp.size) = xs at *
  clear HF
  go_wp2_with fail
  refine (join.impl_any _ xs.length cap xs text.sp _ _ RE.out.rd (by omega) hcap (by omega) (by decide)).mono ?_
  rintro e wf ⟨rfl, bf⟩
  rw [HREC.out]
  have BF := Lib.hid (BE.out.trans (bf.mono BE.out.size)); clear bf
  go_wp2_with fail
  refine (names.impl_any ⟨#[120, 49]⟩ _ (by decide)).mono ?_
  rintro e wg ⟨rfl, bg⟩
  rw [text.x1_name]
  have BG := Lib.hid (BF.out.trans (bg.mono BF.out.size)); clear bg
  go_wp2_with fail
  refine (lines.impl_any ⟨#[97, 10, 98, 10]⟩ _ (by decide)).mono ?_
  rintro e wh ⟨B, d, rfl, _, bh⟩
  rw [text.two_lines]
  have BH := Lib.hid (BG.out.trans (bh.mono BG.out.size)); clear bh
  go_wp2_with fail
  go_ret
  exact ⟨rfl, BH.out⟩

theorem contract (H : Type) (enc : TypeId × Value → H) (W : World) (base : Nat) (args : Array Value) (ds gs : List (DataW H)) (before : List MemPlace)
    (hval : ∀ (j : Nat) t v, Tryd.f3.params[j]? = some t → args[j]? = some v → Value.okWide Tryd.prog W .any base t v)
    (hW : DataW.Whole enc Tryd.prog Tryd.f3.params.toList Rows.fnWordsSpec.vars false W args.toList ds gs before) (hL : laidMetH Tryd.prog Rows.fnWordsRow.laid W) :
    Calls Tryd.prog 3 args W fun e W' => ∃ v, e = .returned v ∧ Rows.fnWordsSpec.post enc Tryd.prog Tryd.f3 false true false false W args v W' := by
  have hW' := hW
  obtain ⟨p, q, hA0, hV, rfl, hfz, hnd⟩ := hW
  have hA : DataW.TrodAll enc Tryd.prog W 0 (fun _ => true) true Tryd.f3.params.toList args.toList ds p := hA0
  rw [Tryd.params3] at hA hval
  obtain ⟨v0, vs0, d0, ds0, p0, q0, hargs, rfl, rfl, h0, r0⟩ := trodAll_cons hA
  obtain ⟨rfl, rfl, rfl⟩ := trodAll_nil r0
  obtain rfl : args = #[v0] := by cases args; simp_all
  obtain ⟨rfl, rfl⟩ := trodVars_none hV
  obtain ⟨A0, n0, c0, rfl⟩ := okWide_slice Tryd.underlying22 (hval 0 22 v0 rfl rfl)
  have lt0 : ∀ x ∈ p0, x.block < W.heap.size := by obtain ⟨m, hm⟩ := h0; exact DataW.trod_lt m _ _ _ hm
  obtain ⟨x0, rd0, cn0, cm0, el0⟩ := open_B Tryd.underlying22 Tryd.underlying5 (by kernel_rfl) h0
  clear hA0
  have tab : Pow W := pow_of hL
  have errs : Errs W := errs_of hL
  refine (walk (w := W) A0 n0 c0 x0 rd0 cn0 cm0 el0 tab errs).mono fun e W' ⟨he, bel⟩ => ?_
  subst he
  exact ⟨_, rfl, _, _, _, [], _, [], hW', trodAll_mk1 (shut_bool Tryd.underlying4 _), (trodAll_cons_mk (Below.trod laidOut (by kernel_rfl) (of_decide_eq_true (by kernel_rfl)) h0 bel lt0) trodAll_mk0), rfl, bel.frame _, fun h => by cases h⟩

theorem laid_met (os : Os) : laidMet Tryd.prog Rows.fnWordsRow.laid ((world5 os).forCall (fun _ _ => 0) ⟨#[], #[.slice none 0 0], []⟩).memory :=
  laidMet_of_run' 8 (by kernel_rfl) (by kernel_rfl)
theorem reads (os : Os) {H : Type} (enc : TypeId × Value → H) : ∃ places, DataW.whole enc Tryd.prog ((world5 os).forCall (fun _ _ => 0) ⟨#[], #[.slice none 0 0], []⟩).memory Tryd.f3.params.toList Rows.fnWordsSpec.vars false (#[.slice none 0 0] : Array Value).toList 8 = some ([.nil], [], places) :=
  ⟨[], by kernel_rfl⟩

set_option maxRecDepth 100000 in
theorem lifted (os : Os) (started : os.Started) (H : Type) (enc : TypeId × Value → H) (F : Stop.Interp) :
    ReturnsInHanded {} Tryd.checked os 3 .any ((OpenSpec.ofChange Rows.fnWordsSpec).preRow enc Tryd.prog Tryd.f3 Rows.fnWordsRow.domain false Rows.fnWordsRow.laid) (((OpenSpec.ofChange Rows.fnWordsSpec).at F).post enc Tryd.prog Tryd.f3 false true false false) := by
  obtain ⟨places, hx⟩ := reads os enc
  refine returnsInHanded_of_row (C := Tryd.checked) (s := OpenSpec.ofChange Rows.fnWordsSpec) own started (by kernel_rfl) Tryd.func3
    (witness_row_atRef (enc := enc) (C := Tryd.checked) false (world5 os) #[.slice none 0 0] rfl (by kernel_rfl) (by kernel_rfl) (by kernel_rfl)
      (OpenSpec.preRow_of_cond 8 hx (by kernel_rfl) (fun k hk => by cases hk) (by kernel_rfl) (laid_met os))) ?_
  intro W base args ds gs before hval hW _ _ _ hL _ _
  exact contract H enc W base args ds gs before hval hW hL

theorem said : Rows.FnWordsSaid :=
  OpenClaim.holds_of_cond 3 Tryd.f3 rfl rfl rfl rfl rfl rfl rfl ⟨rfl, rfl, rfl, rfl, rfl⟩ rfl rfl rfl rfl rfl (by kernel_rfl) Tryd.func3 (by kernel_rfl)
    (of_decide_eq_true (by kernel_rfl)) (by unfold Func.isWrapper; first | (rw [if_pos (by decide +kernel)]; kernel_rfl) | (rw [if_neg (by decide +kernel)]; exact ⟨rfl, rfl⟩))
    (fun os started H enc _ F => by rw [OpenClaim.pre_eq_preRow]; exact lifted os started H enc F)

theorem plain (f : FuncId) (fn : Func) (hf : Tryd.pinned.checked.prog.funcNamed "loop.example/g00928/laws.FnWords" = some f) (hfn : Tryd.pinned.checked.prog.funcs[f]? = some fn) :
    true = Tryd.pinned.checked.prog.looks [] ∧ ∀ (j : Nat) t, fn.params[j]? = some t → Tryd.pinned.checked.prog.wantsStandIn t = false := by
  obtain rfl : f = 3 := Option.some.inj ((show Tryd.prog.funcNamed "loop.example/g00928/laws.FnWords" = some 3 by kernel_rfl).symm.trans hf) |>.symm
  obtain rfl : fn = Tryd.f3 := (Option.some.inj (Tryd.func3.symm.trans hfn)).symm
  refine ⟨by kernel_rfl, fun j t ht => ?_⟩
  rw [Tryd.params3] at ht
  have hm := Array.mem_of_getElem? ht
  have ha : ∀ x ∈ #[22], Tryd.prog.wantsStandIn x = false := by
    intro x hx
    simp only [List.mem_toArray, List.mem_cons, List.not_mem_nil, or_false] at hx
    rcases hx with rfl <;> kernel_rfl
  exact ha t hm

theorem proved : Rows.FnWordsCardSaid :=
  Claim7.holds_tied_plain_at .later [] _ _ _ _ said (fun _ h => by cases h) (by kernel_rfl) (fun _ h => by cases h) fnWords_row_tie rfl ⟨rfl, rfl⟩ (by kernel_rfl) rfl plain (by kernel_rfl)
#print axioms proved
end Go.Proofs.YtfcocfaobglbaaaDoor.fnWords
