/-
  SlopeFrom: what it answers; the specification's.
-/
import Derived.Test.YtkkklpchkkdhfaaUd
import Derived.OwnWalk
namespace Go.Proofs.Ytkkklpchkkdhfaa.pth
open Go.ChangeShapes Go.WideShapes Go.ChangeAt Go.RowKit
open Go.Proofs.Ytkkklpchkkdhfaa.mem Go.Proofs.Ytkkklpchkkdhfaa.ints Go.Proofs.Ytkkklpchkkdhfaa.arr Go.Proofs.Ytkkklpchkkdhfaa.pm Go.Proofs.Ytkkklpchkkdhfaa.dr
set_option linter.unusedVariables false
set_option maxRecDepth 100000
set_option linter.unusedSimpArgs false

/-- How many r there are in the first letters. -/
def cnR (s : ByteArray) (k : Nat) : Nat := ((s.data.toList.take k).filter fun c => c == 114).length
def sfP (s : ByteArray) : Nat := cnR s s.size
def sfB (s : ByteArray) : Bool := slB (sfP s : Int) ((s.size - sfP s : Nat) : Int) && decide (swF (sfP s : Int) ((s.size - sfP s : Nat) : Int) = s)
def sfX (s : ByteArray) : Int := if sfB s then (sfP s : Int) else 0
def sfY (s : ByteArray) : Int := if sfB s then ((s.size - sfP s : Nat) : Int) else 0
theorem cnR_succ {s : ByteArray} {k : Nat} (h : k < s.size) : cnR s (k + 1) = cnR s k + (if s[k] = 114 then 1 else 0) := by
  unfold cnR
  rw [List.take_add_one, at_get h, List.filter_append, List.length_append]
  congr 1
  by_cases e : s[k] = 114
  · simp [e]
  · simp [e]
theorem cnR_le (s : ByteArray) (k : Nat) : cnR s k ≤ k := by
  unfold cnR
  exact Nat.le_trans (List.length_filter_le _ _) (by rw [List.length_take]; omega)
theorem ba_specB (s : ByteArray) (w : World) (hs : s.size ≤ 1048576) :
    Calls Try.prog 33 #[.string s] w fun e w' => e = .returned (.bool (baF s)) ∧ Below w.heap.size w w' :=
  (ba_spec s w hs).mono fun e w' h => ⟨h.1, by rw [h.2]; exact Below.refl _ _⟩
set_option maxHeartbeats 2000000 in
theorem sf_spec (s : ByteArray) (w : World) (hs : s.size ≤ 1048576) :
    Calls Try.prog 34 #[.string s] w fun e w' => e = .returned (.tuple #[.int .i64 (sfX s), .int .i64 (sfY s), .bool (sfB s)]) ∧ Below w.heap.size w w' := by
  go_enter Try.func34, Try.ntmps34
  go_wp2
  go_loopw [5, 6] (fun pv iv wr => ∃ k : Nat, k ≤ s.size ∧ iv = .int .i64 k ∧ pv = .int .i64 (cnR s k) ∧ wr = w) (fun _ iv _ => s.size - (intOf iv).toNat)
  case atStart => exact ⟨0, Nat.zero_le _, rfl, rfl, rfl⟩
  case round =>
    obtain ⟨k, hk, rfl, rfl, rfl⟩ := hrel
    have hle := cnR_le s k
    by_cases hlt : k < s.size
    · have CE := Lib.hid (cnR_succ hlt)
      by_cases h1 : s[k].toNat = 114
      · have C1 : Hid (cnR s (k + 1) = cnR s k + 1) := Lib.hid (by rw [CE.out, if_pos (UInt8.toNat_inj.1 h1)])
        generalize cnR s k = cv at *
        go_wp2
        go_roundw
        case rel => exact ⟨k + 1, by omega, by go_num, by rw [C1.out]; go_num, by first | rfl | trivial⟩
        case measure => first | (simp [intOf]; done) | (simp [intOf]; omega)
      · have C1 : Hid (cnR s (k + 1) = cnR s k) := Lib.hid (by rw [CE.out, if_neg (fun e => h1 (by rw [e]; rfl))]; rfl)
        generalize cnR s k = cv at *
        go_wp2
        go_roundw
        case rel => exact ⟨k + 1, by omega, by go_num, by rw [C1.out], by first | rfl | trivial⟩
        case measure => first | (simp [intOf]; done) | (simp [intOf]; omega)
    · obtain rfl : k = s.size := by omega
      have B_ : Hid (sfB s = (slB (cnR s s.size : Int) ((s.size - cnR s s.size : Nat) : Int) && decide (swF (cnR s s.size : Int) ((s.size - cnR s s.size : Nat) : Int) = s))) := Lib.hid rfl
      have X_ : Hid (sfX s = if sfB s then (cnR s s.size : Int) else 0) := Lib.hid rfl
      have Y_ : Hid (sfY s = if sfB s then ((s.size - cnR s s.size : Nat) : Int) else 0) := Lib.hid rfl
      generalize cnR s s.size = a at *
      obtain ⟨b, hb⟩ : ∃ b, s.size - a = b := ⟨_, rfl⟩
      rw [hb] at B_ Y_
      have hsub : ((s.size : Int) - (a : Int)) = (b : Int) := by omega
      have hw : IntKind.i64.wrap ((s.size : Int) - (a : Int)) = (b : Int) := by rw [hsub]; exact IntWalk.i64_in _ (by omega)
      have hw2 : IntKind.i64.wrap (b : Int) = (b : Int) := IntWalk.i64_in _ (by omega)
      go_wp2_with fail
      refine (so_spec (a : Int) (b : Int) _ (by omega) (by omega) (by omega) (by omega)).mono ?_
      rintro e w1 ⟨rfl, b1⟩
      have B1 := Lib.hid b1; clear b1
      cases hq : slB (a : Int) (b : Int)
      · have HB : Hid (sfB s = false) := Lib.hid (by rw [B_.out, hq]; rfl)
        have HX : Hid (sfX s = 0) := Lib.hid (by rw [X_.out, HB.out]; rfl)
        have HY : Hid (sfY s = 0) := Lib.hid (by rw [Y_.out, HB.out]; rfl)
        clear hq B_ X_ Y_
        go_wp2_with fail
        go_ret3
        exact ⟨by rw [HX.out, HY.out, HB.out]; rfl, B1.out⟩
      · go_wp2_with fail
        refine (sw_spec (a : Int) (b : Int) _ (by omega) (by omega) (by omega) (by omega)).mono ?_
        rintro e w2 ⟨rfl, b1⟩
        replace B1 := Lib.hid (B1.out.trans (b1.mono B1.out.size)); clear b1
        obtain ⟨W, hW⟩ : ∃ W, swF (a : Int) (b : Int) = W := ⟨_, rfl⟩
        rw [hW] at B_ ⊢
        rw [hq] at B_
        clear hW hq
        by_cases he : W = s
        · have HB : Hid (sfB s = true) := Lib.hid (by rw [B_.out, decide_eq_true he]; rfl)
          have HX : Hid (sfX s = (a : Int)) := Lib.hid (by rw [X_.out, HB.out]; rfl)
          have HY : Hid (sfY s = (b : Int)) := Lib.hid (by rw [Y_.out, HB.out]; rfl)
          clear B_ X_ Y_
          subst he
          go_wp2_with fail
          go_ret3
          exact ⟨by rw [HX.out, HY.out, HB.out]; rfl, B1.out⟩
        · have HB : Hid (sfB s = false) := Lib.hid (by rw [B_.out, decide_eq_false he]; rfl)
          have HX : Hid (sfX s = 0) := Lib.hid (by rw [X_.out, HB.out]; rfl)
          have HY : Hid (sfY s = 0) := Lib.hid (by rw [Y_.out, HB.out]; rfl)
          have hne : (W.toList == s.toList) = false := by
            rw [beq_eq_false_iff_ne]
            intro e
            rw [ByteArray.toList_eq, ByteArray.toList_eq] at e
            exact he (bytes_inj e)
          clear B_ X_ Y_
          go_wp2_with fail
          go_ret3
          exact ⟨by rw [HX.out, HY.out, HB.out]; rfl, B1.out⟩
end Go.Proofs.Ytkkklpchkkdhfaa.pth
