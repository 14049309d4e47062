/-
  FnSlopes: at every argument the law FnSlopes returns true, and its arguments read as before. No condition.
-/
import Derived.Test.YtkkklpchkkdhfaaRows
import Derived.WalkKit
import Derived.ProofKit
import Derived.OpenShut
import Derived.ShutString
import Derived.ChangeOld
import Derived.Below
import Derived.Test.YtkkklpchkkdhfaaUz
import Derived.Test.YtkkklpchkkdhfaaUf
import Derived.Test.YtkkklpchkkdhfaaUh
import Derived.Test.YtkkklpchkkdhfaaMC
namespace Go.Proofs.Ytkkklpchkkdhfaa.fnSlopes
open Go.ChangeShapes Go.WideShapes Go.ChangeAt Go.RowKit
open Go.ChangeMaps (open_string shut_string)
open Go.Proofs.Ytkkklpchkkdhfaa.mem Go.Proofs.Ytkkklpchkkdhfaa.ints Go.Proofs.Ytkkklpchkkdhfaa.arr Go.Proofs.Ytkkklpchkkdhfaa.cur Go.Proofs.Ytkkklpchkkdhfaa.dr Go.Proofs.Ytkkklpchkkdhfaa.pth
set_option linter.unusedVariables false
set_option maxRecDepth 100000

theorem own : ownKnob Try.prog.godebug = none := by kernel_rfl
theorem laidOut : laidOutB Try.prog = true := by kernel_rfl

set_option maxRecDepth 100000 in
set_option maxHeartbeats 8000000 in
theorem walk (w : World) (A : Option Addr) (n c : Nat) (l : List Int) (rd : Rd w w.heap.size A n (U l)) (cn : n ≤ c) (cm : c ≤ maxLen) (el : Bytes l) :
    Calls Try.prog 3 #[.slice A n c] w fun e w' => e = .returned (.bool true) ∧ Below w.heap.size w w' := by
  have RD := Lib.hid rd; have EL := Lib.hid el; clear rd el
  unfold maxLen at cm
  by_cases b0 : 1048576 < n
  · clear RD EL
    go_enter Try.func3, Try.ntmps3
    go_wp2_with fail
    go_ret
    exact ⟨rfl, Below.refl _ _⟩
  have hd0 : decide (1048576 < (n : Int)) = false := by simp; omega
  have HC := Lib.hid (cur.Code.mk RD.out EL.out (by omega)); clear RD EL
  have BB := Lib.hid (Below.refl w.heap.size w)
  go_enter Try.func3, Try.ntmps3
  go_wp2_with fail
  refine (ms_k 3 (by omega) _ w.heap.size A n c l (HC.out.keep BB.out (Nat.le_refl _))).mono ?_
  rintro e w1_ ⟨a, b, rfl, a6, b5, hsl, b1⟩
  have SL := Lib.hid (sl_ok a6 b5 hsl)
  have s1 := b1.size
  replace BB := Lib.hid (BB.out.trans (b1.mono BB.out.size))
  clear b1 hsl HC
  go_wp2_with fail
  refine (sw_impl a b _ (by omega) (by omega) (by omega) (by omega)).mono ?_
  rintro e w2_ ⟨rfl, b1⟩
  have s2 := b1.size
  replace BB := Lib.hid (BB.out.trans (b1.mono BB.out.size))
  clear b1
  generalize swF (a : Int) (b : Int) = s at *
  have hsz := SL.out.size
  go_wp2_with fail
  go_loopw [6, 7] (fun r i wr => ∃ k : Nat, k ≤ s.size ∧ i = .int .i64 k ∧ r = .int .i64 (cnR s k) ∧ wr = w2_) (fun _ i _ => s.size - (intOf i).toNat)
  case atStart => exact ⟨0, Nat.zero_le _, rfl, rfl, rfl⟩
  case round =>
    obtain ⟨k, hk, rfl, rfl, rfl⟩ := hrel
    have hle := cnR_le s k
    by_cases hlt : k < s.size
    · have CE := Lib.hid (cnR_succ hlt)
      by_cases h1 : s[k].toNat = 114
      · have C1 : Hid (cnR s (k + 1) = cnR s k + 1) := Lib.hid (by rw [CE.out, if_pos (UInt8.toNat_inj.1 h1)])
        generalize cnR s k = cv at *
        go_wp2
        go_roundw
        case rel => exact ⟨k + 1, by omega, by go_num, by rw [C1.out]; go_num, by first | rfl | trivial⟩
        case measure => first | (simp [intOf]; done) | (simp [intOf]; omega)
      · have C1 : Hid (cnR s (k + 1) = cnR s k) := Lib.hid (by rw [CE.out, if_neg (fun e => h1 (by rw [e]; rfl))]; rfl)
        generalize cnR s k = cv at *
        go_wp2
        go_roundw
        case rel => exact ⟨k + 1, by omega, by go_num, by rw [C1.out], by first | rfl | trivial⟩
        case measure => first | (simp [intOf]; done) | (simp [intOf]; omega)
    · obtain rfl : k = s.size := by omega
      rw [SL.out.num]
      go_wp2_with fail
      refine (sf_impl s _ (by omega)).mono ?_
      rintro e w3_ ⟨rfl, b1⟩
      have s3 := b1.size
      replace BB := Lib.hid (BB.out.trans (b1.mono BB.out.size))
      clear b1
      rw [SL.out.fx, SL.out.fy, SL.out.fb]
      have hab : IntKind.i64.wrap ((a : Int) + (b : Int)) = (s.size : Int) := by rw [IntWalk.i64_in _ (by omega), hsz]; omega
      go_wp2_with fail
      refine (ba_impl s _ (by omega)).mono ?_
      rintro e w4_ ⟨rfl, b1⟩
      have s4 := b1.size
      replace BB := Lib.hid (BB.out.trans (b1.mono BB.out.size))
      clear b1
      rw [SL.out.bal]
      go_wp2_with fail
      refine (ba_impl ⟨#[114, 114, 117, 117]⟩ _ (by decide)).mono ?_
      rintro e w5_ ⟨rfl, b1⟩
      have s5 := b1.size
      replace BB := Lib.hid (BB.out.trans (b1.mono BB.out.size))
      clear b1
      rw [rruu]
      go_wp2_with fail
      go_ret
      exact ⟨rfl, BB.out⟩

set_option maxRecDepth 100000 in
theorem lifted (os : Os) (started : os.Started) (H : Type) (enc : TypeId × Value → H) :
    ReturnsInHanded {} Try.checked os 3 .any (Rows.fnSlopesSpec.pre6 enc Try.prog Try.f3 Rows.fnSlopesRow.domain false) (Rows.fnSlopesSpec.post enc Try.prog Try.f3 false true false false) := by
  refine returnsInHanded_of_change (C := Try.checked) own started (by kernel_rfl) Try.func3
    (ChangeSpec.witness6 (enc := enc) (C := Try.checked) false ⟨#[], #[.slice none 0 0], []⟩ 8 (by kernel_rfl) (by kernel_rfl) (by kernel_rfl) (by kernel_rfl)) ?_
  intro W base args ds gs before hval0 hW hcnd _
  have hval : ∀ (j : Nat) t v, Try.f3.params[j]? = some t → args[j]? = some v → Value.okWide Try.prog W .any base t v := hval0
  have hW' := hW
  obtain ⟨p, q, hA0, hV, rfl, hfz, hnd⟩ := hW
  have hA : DataW.TrodAll enc Try.prog W 0 (fun _ => true) true Try.f3.params.toList args.toList ds p := hA0
  rw [Try.params3] at hA hval
  obtain ⟨v0, vs0, d0, ds0, p0, q0, hargs, rfl, rfl, h0, r0⟩ := trodAll_cons hA
  obtain ⟨rfl, rfl, rfl⟩ := trodAll_nil r0
  obtain rfl : args = #[v0] := by cases args; simp_all
  obtain ⟨rfl, rfl⟩ := trodVars_none hV
  obtain ⟨A0, n0, c0, rfl⟩ := okWide_slice Try.underlying22 (hval 0 22 v0 rfl rfl)
  have lt0 : ∀ x ∈ p0, x.block < W.heap.size := by obtain ⟨m, hm⟩ := h0; exact DataW.trod_lt m _ _ _ hm
  obtain ⟨x0, rd0, cn0, cm0, el0⟩ := open_B Try.underlying22 Try.underlying5 (by kernel_rfl) h0
  clear hA0 hval0
  refine (walk (w := W) A0 n0 c0 x0 rd0 cn0 cm0 el0).mono fun e W' ⟨he, bel⟩ => ?_
  subst he
  exact ⟨_, rfl, _, _, _, [], _, [], hW', trodAll_mk1 (shut_bool Try.underlying4 _), (trodAll_cons_mk (Below.trod laidOut (by kernel_rfl) (of_decide_eq_true (by kernel_rfl)) h0 bel lt0) trodAll_mk0), rfl, bel.frame _, fun h => by cases h⟩

theorem over : Rows.fnSlopesRow.holds Try.pinned (OpenSpec.ofChange Rows.fnSlopesSpec) :=
  OpenClaim.holds_of_wide 3 Try.f3 rfl rfl rfl rfl rfl rfl rfl ⟨rfl, rfl, rfl, rfl, rfl⟩ rfl rfl rfl rfl rfl (by kernel_rfl) Try.func3 (by kernel_rfl)
    (of_decide_eq_true (by kernel_rfl)) (by unfold Func.isWrapper; first | (rw [if_pos (by decide +kernel)]; kernel_rfl) | (rw [if_neg (by decide +kernel)]; exact ⟨rfl, rfl⟩))
    (fun os started H enc _ => lifted os started H enc)

theorem proved : Rows.FnSlopesSaid :=
  over
#print axioms proved
end Go.Proofs.Ytkkklpchkkdhfaa.fnSlopes
