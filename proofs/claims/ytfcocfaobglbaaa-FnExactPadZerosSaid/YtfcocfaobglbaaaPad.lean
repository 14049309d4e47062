/-
  Contracts of the two functions PadZeros (the program's and the model's).
-/
import Derived.Test.YtfcocfaobglbaaaMem
import Derived.Test.YtfcocfaobglbaaaShelf
import Derived.Outline
import Derived.Laws.Concat
namespace Go.Proofs.Ytfcocfaobglbaaa.pad
open Go.ChangeShapes Go.WideShapes Go.ChangeAt Go.RowKit
open Go.Proofs.Ytfcocfaobglbaaa.mem
set_option linter.unusedVariables false

def padBy (s : ByteArray) (k : Nat) : ByteArray := ⟨(List.replicate k 48 ++ s.data.toList).toArray⟩
theorem padBy_zero (s : ByteArray) : padBy s 0 = s := by simp [padBy]
theorem padBy_size (s : ByteArray) (k : Nat) : (padBy s k).size = k + s.size := by
  have h : s.size = s.data.toList.length := by simp
  rw [h]
  show (List.replicate k 48 ++ s.data.toList).toArray.size = _
  simp
def lenOf : Value → Nat | .string t => t.size | _ => 0
theorem padBy_succ (s : ByteArray) (k : Nat) : (⟨#[48]⟩ ++ padBy s k : ByteArray) = padBy s (k + 1) := by
  unfold padBy
  rw [List.replicate_succ]
  exact ByteArray.mk_append_mk [48] _
theorem repeat_eq (c : Nat) : Lib.repeatL [48] c = List.replicate c 48 := by
  induction c with
  | zero => rfl
  | succ c ih => rw [Lib.repeatL, ih, List.replicate_succ]; rfl
theorem padBy_rep (s : ByteArray) (k : Nat) : (⟨(Lib.repeatL [48] k).toArray⟩ ++ s : ByteArray) = padBy s k := by
  rw [repeat_eq]
  have : s = ⟨s.data.toList.toArray⟩ := by simp
  conv => lhs; rw [this]
  exact ByteArray.mk_append_mk _ _
/-- What both return. -/
def padded (s : ByteArray) (n : Int) : ByteArray := if 2000 < n then s else padBy s (n - s.size).toNat

set_option maxHeartbeats 400000 in
theorem spec_any (s : ByteArray) (n : Int) (w : World) (hs : s.size ≤ maxLen) (hn : -9223372036854775808 ≤ n) :
    Calls Try.prog 24 #[.string s, .int .i64 n] w fun e w' => e = .returned (.string (padded s n)) ∧ w = w' := by
  unfold maxLen at hs
  by_cases h2 : 2000 < n
  · have e : padded s n = s := by unfold padded; rw [if_pos h2]
    have E := Lib.hid e; clear e
    go_enter Try.func24, Try.ntmps24
    go_wp2
    go_ret
    exact ⟨ret_str E.out.symm, rfl⟩
  · have e : padded s n = padBy s (n - s.size).toNat := by unfold padded; rw [if_neg h2]
    have E := Lib.hid e; clear e
    have hb : decide (2000 < n) = false := by simpa using h2
    go_enter Try.func24, Try.ntmps24
    go_wp2
    go_loop [0] (fun v => ∃ j : Nat, j ≤ (n - s.size).toNat ∧ v = .string (padBy s j)) (fun v => n.toNat - lenOf v)
    case atStart => exact ⟨0, Nat.zero_le _, by rw [padBy_zero]⟩
    case round =>
      obtain ⟨j, hj, rfl⟩ := hrel
      have hz := padBy_size s j
      by_cases hlt : (j + s.size : Int) < n
      · have hl : ((padBy s j).size : Int) < n := by rw [hz]; omega
        have hm : (padBy s j).size ≤ 2000 := by omega
        have HZ := Lib.hid hz; clear hz
        go_wp2
        go_round
        case rel => exact ⟨j + 1, by omega, congrArg Value.string (padBy_succ s j)⟩
        case measure =>
          have := padBy_size s j
          have := padBy_size s (j + 1)
          simp only [lenOf, padBy_succ]
          omega
      · have hl : ¬ ((padBy s j).size : Int) < n := by rw [hz]; omega
        have HZ := Lib.hid hz; clear hz
        go_wp2
        go_ret
        obtain rfl : j = (n - s.size).toNat := by omega
        exact ⟨ret_str E.out.symm, rfl⟩

set_option maxHeartbeats 400000 in
theorem impl_any (s : ByteArray) (n : Int) (w : World) (hs : s.size ≤ maxLen) (hn : -9223372036854775808 ≤ n) :
    Calls Try.prog 25 #[.string s, .int .i64 n] w fun e w' => e = .returned (.string (padded s n)) ∧ Below w.heap.size w w' := by
  unfold maxLen at hs
  by_cases h1 : n ≤ s.size
  · have e : padded s n = s := by
      unfold padded; split
      · rfl
      · rw [show (n - (s.size : Int)).toNat = 0 by omega, padBy_zero]
    have E := Lib.hid e; clear e
    go_enter Try.func25, Try.ntmps25
    go_wp2
    go_ret
    exact ⟨ret_str E.out.symm, Below.refl _ _⟩
  by_cases h2 : 2000 < n
  · have e : padded s n = s := by unfold padded; rw [if_pos h2]
    have E := Lib.hid e; clear e
    go_enter Try.func25, Try.ntmps25
    go_wp2
    go_ret
    exact ⟨ret_str E.out.symm, Below.refl _ _⟩
  · have e : padded s n = padBy s (n - s.size).toNat := by unfold padded; rw [if_neg h2]
    have E := Lib.hid e; clear e
    obtain ⟨k, hk⟩ : ∃ k : Nat, n = s.size + k := ⟨(n - s.size).toNat, by omega⟩
    have hk2 : k ≤ 2000 := by omega
    subst hk
    go_enter Try.func25, Try.ntmps25
    go_wp2_with fail
    rw [show ((s.size : Int) + (k : Int) - (s.size : Int)) = (k : Int) by omega]
    refine (Try.strings_Repeat ⟨#[48]⟩ k _ (by omega) (by show 1 * k ≤ _; omega)).mono ?_
    rintro e w' ⟨rfl, hb⟩
    have hl : (Lib.repeatL [48] k).length = k := by rw [Lib.repeatL_length]; simp
    have h3 : (ByteArray.mk (Lib.repeatL [48] k).toArray).size = k := by show (Lib.repeatL [48] k).toArray.size = k; simpa using hl
    have hle : (ByteArray.mk (Lib.repeatL [48] k).toArray).size + s.size ≤ 9223372036854775807 := by rw [h3]; omega
    clear hl h3
    go_wp2
    go_ret
    refine ⟨ret_str ?_, hb⟩
    rw [E.out, show ((s.size : Int) + (k : Int) - (s.size : Int)).toNat = k by omega]
    exact padBy_rep s k
end Go.Proofs.Ytfcocfaobglbaaa.pad
