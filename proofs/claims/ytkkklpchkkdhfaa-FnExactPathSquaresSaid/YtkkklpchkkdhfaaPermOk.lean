/-
  Contracts of spec.l01In, spec.l02Has, spec.PermOk.
-/
import Derived.Test.YtkkklpchkkdhfaaPm
namespace Go.Proofs.Ytkkklpchkkdhfaa.permOk
open Go.ChangeShapes Go.WideShapes Go.ChangeAt Go.RowKit
open Go.Proofs.Ytkkklpchkkdhfaa.mem Go.Proofs.Ytkkklpchkkdhfaa.ints Go.Proofs.Ytkkklpchkkdhfaa.arr Go.Proofs.Ytkkklpchkkdhfaa.pm
set_option linter.unusedVariables false
set_option maxRecDepth 100000

theorem in_yes (x a b : Int) (w : World) (h1 : a ≤ x) (h2 : x ≤ b) :
    Calls Try.prog 61 #[.int .i64 x, .int .i64 a, .int .i64 b] w fun e w' => e = .returned (.bool true) ∧ w = w' := by
  go_enter Try.func61, Try.ntmps61
  go_wp2
  go_ret
  exact ⟨rfl, rfl⟩
theorem in_no (x a b : Int) (w : World) (h : x < a ∨ b < x) :
    Calls Try.prog 61 #[.int .i64 x, .int .i64 a, .int .i64 b] w fun e w' => e = .returned (.bool false) ∧ w = w' := by
  by_cases h1 : x < a
  · clear h
    have hd : decide (a ≤ x) = false := by simp; omega
    go_enter Try.func61, Try.ntmps61
    go_wp2
    go_ret
    exact ⟨rfl, rfl⟩
  · have h2 : b < x := by omega
    have hd : decide (x ≤ b) = false := by simp; omega
    clear h
    go_enter Try.func61, Try.ntmps61
    go_wp2
    go_ret
    exact ⟨rfl, rfl⟩

def hasB (xs : List Int) (z : Int) : Bool := decide (z ∈ xs)
theorem take_no {xs : List Int} {k : Nat} {z s : Int} (h : ¬ z ∈ xs.take k) (hk : xs[k]? = some s) (hs : ¬ s = z) : ¬ z ∈ xs.take (k + 1) := by
  rw [List.take_add_one, hk]
  simp
  exact ⟨h, fun e => hs e.symm⟩

set_option maxHeartbeats 400000 in
theorem has_any (A : Option Addr) (n c : Nat) (xs : List Int) (hi : Nat) (z : Int) (w : World) (hx : Rd w hi A n (V xs)) (hn : n ≤ 1048576) :
    Calls Try.prog 109 #[.slice A n c, .int .i64 z] w fun e w' => e = .returned (.bool (hasB xs z)) ∧ w = w' := by
  have lx : xs.length = n := by simpa [V] using hx.1
  have LX := Lib.hid lx; clear lx
  have HX := Lib.hid hx; clear hx
  go_enter Try.func109, Try.ntmps109
  go_wp2
  go_loop [9] (fun i => ∃ k : Nat, k ≤ n ∧ i = .int .i64 k ∧ Hid (¬ z ∈ xs.take k)) (fun i => n - (intOf i).toNat)
  case atStart => exact ⟨0, Nat.zero_le _, rfl, Lib.hid (by simp)⟩
  case round =>
    obtain ⟨k, hk, rfl, HN⟩ := hrel
    by_cases hlt : k < n
    · obtain ⟨g, off, u, rfl, _, hxu, hcx⟩ := HX.out.at_ hlt
      obtain ⟨s, hxs, rfl⟩ := V_at hxu
      have HS := Lib.hid hxs; clear hxs hxu
      by_cases hst : s = z
      · subst hst
        go_wp2
        go_ret
        refine ⟨ret_bool ?_, rfl⟩
        unfold hasB; rw [eq_comm, decide_eq_true_iff]; exact List.mem_of_getElem? HS.out
      · have hb : (s == z) = false := by simpa using hst
        have HST := Lib.hid hst; clear hst
        go_wp2
        go_round
        case rel => exact ⟨k + 1, by omega, by go_num, Lib.hid (take_no HN.out HS.out HST.out)⟩
        case measure => simp [intOf]; omega
    · obtain rfl : k = n := by omega
      go_wp2
      go_ret
      refine ⟨ret_bool ?_, rfl⟩
      unfold hasB; rw [eq_comm, decide_eq_false_iff_not]
      have := HN.out
      rw [List.take_of_length_le (by rw [LX.out]; exact Nat.le_refl _)] at this
      exact this

theorem Rd.take {w : World} {hi n k : Nat} {A : Option Addr} {xs : List Int} (h : Rd w hi A n (V xs)) (hk : k ≤ n) : Rd w hi A k (V (xs.take k)) := by
  have hl : xs.length = n := by simpa [V] using h.1
  refine ⟨by simp [V]; omega, h.2.1, fun h0 => ?_⟩
  obtain ⟨g, off, e, hlt, hc⟩ := h.2.2 (by omega)
  refine ⟨g, off, e, hlt, fun j hj => ?_⟩
  rw [hc j (by omega)]
  simp [V, hj]
theorem getD_of {xs : List Int} {k : Nat} {s : Int} (h : xs[k]? = some s) : xs.getD k 0 = s := by simp [List.getD, h]

set_option maxHeartbeats 800000 in
theorem spec_any (A : Option Addr) (n c : Nat) (xs : List Int) (hi : Nat) (w : World) (hx : Rd w hi A n (V xs)) (hn : n ≤ 1048576) (hc : n ≤ c) :
    Calls Try.prog 98 #[.slice A n c] w fun e w' => e = .returned (.bool (okB xs)) ∧ w = w' := by
  have lx : xs.length = n := by simpa [V] using hx.1
  have LX := Lib.hid lx; clear lx
  have HX := Lib.hid hx; clear hx
  by_cases h24 : 24 < n
  · have e := Lib.hid (okB_long (xs := xs) (by rw [LX.out]; exact h24))
    go_enter Try.func98, Try.ntmps98
    go_wp2
    go_ret
    exact ⟨ret_bool e.out.symm, rfl⟩
  go_enter Try.func98, Try.ntmps98
  go_wp2
  go_loop [10] (fun i => ∃ k : Nat, k ≤ n ∧ i = .int .i64 k ∧ Hid (OkTo xs k)) (fun i => n - (intOf i).toNat)
  case atStart => exact ⟨0, Nat.zero_le _, rfl, Lib.hid (fun i hi => by omega)⟩
  case round =>
    obtain ⟨k, hk, rfl, HO⟩ := hrel
    by_cases hlt : k < n
    · obtain ⟨g, off, u, rfl, _, hxu, hcx⟩ := HX.out.at_ hlt
      obtain ⟨s, hxs, rfl⟩ := V_at hxu
      have HG := Lib.hid (getD_of hxs)
      clear hxs hxu
      by_cases hin : 0 ≤ s ∧ s ≤ (n : Int) - 1
      · obtain ⟨i1, i2⟩ := hin
        by_cases hh : hasB (xs.take k) s = true
        · have HF : Hid (okB xs = false) := Lib.hid (okB_dup (by rw [LX.out]; exact hlt) (by rw [HG.out]; simpa [hasB] using hh))
          have HH := Lib.hid hh; clear hh
          go_wp2_with (go_at_call 61; refine (in_yes _ _ _ _ i1 i2).mono ?_; rintro e w' ⟨rfl, rfl⟩)
          refine (has_any _ k _ (xs.take k) _ s _ (Rd.take HX.out (by omega)) (by omega)).mono ?_
          rintro e w' ⟨rfl, rfl⟩
          rw [HH.out]
          go_wp2
          go_ret
          exact ⟨ret_bool HF.out.symm, rfl⟩
        · have hh' : hasB (xs.take k) s = false := by simpa using hh
          have HH := Lib.hid hh'; clear hh hh'
          go_wp2_with (go_at_call 61; refine (in_yes _ _ _ _ i1 i2).mono ?_; rintro e w' ⟨rfl, rfl⟩)
          refine (has_any _ k _ (xs.take k) _ s _ (Rd.take HX.out (by omega)) (by omega)).mono ?_
          rintro e w' ⟨rfl, rfl⟩
          rw [HH.out]
          go_wp2
          go_round
          case rel => exact ⟨k + 1, by omega, by go_num, Lib.hid (HO.out.step (by rw [LX.out]; exact hlt) (by rw [HG.out]; exact i1) (by rw [HG.out, LX.out]; omega) (by rw [HG.out]; simpa [hasB] using HH.out))⟩
          case measure => simp [intOf]; omega
      · have hno : s < 0 ∨ (n : Int) - 1 < s := by omega
        have HF : Hid (okB xs = false) := Lib.hid (okB_bad (k := k) (by rw [LX.out]; exact hlt) (by rw [HG.out, LX.out]; omega))
        clear hin
        go_wp2_with (go_at_call 61; refine (in_no _ _ _ _ hno).mono ?_; rintro e w' ⟨rfl, rfl⟩)
        go_ret
        exact ⟨ret_bool HF.out.symm, rfl⟩
    · obtain rfl : k = n := by omega
      go_wp2
      go_ret
      exact ⟨ret_bool (okB_yes (by rw [LX.out]; omega) (by rw [LX.out]; exact HO.out)).symm, rfl⟩
end Go.Proofs.Ytkkklpchkkdhfaa.permOk
