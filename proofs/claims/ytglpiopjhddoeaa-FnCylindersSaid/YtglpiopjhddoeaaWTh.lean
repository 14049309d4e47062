/-
  total and has of the laws.
-/
import Derived.Test.YtglpiopjhddoeaaY01
import Derived.IntWalk
namespace Go.Proofs.Ytglpiopjhddoeaa.th
open Go.ChangeShapes Go.WideShapes Go.ChangeAt Go.RowKit
open Go.Proofs.Ytglpiopjhddoeaa.mem Go.Proofs.Ytglpiopjhddoeaa.ints
set_option linter.unusedVariables false
set_option maxRecDepth 100000
set_option maxHeartbeats 400000 in
theorem has_any (A : Option Addr) (n c : Nat) (xs : List Int) (z : Int) (hi : Nat) (w : World) (hx : Rd w hi A n (V xs)) (hn : n ≤ 1048576) :
    Calls Try.prog 14 #[.slice A n c, .int .i64 z] w fun e w' => e = .returned (.bool (decide (z ∈ xs))) ∧ Below w.heap.size w w' := by
  have lx : xs.length = n := by simpa [V] using hx.1
  have LX := Lib.hid lx; clear lx
  have HX := Lib.hid hx; clear hx
  go_enter Try.func14, Try.ntmps14
  go_wp2
  go_loopw [9] (fun i wr => ∃ k : Nat, k ≤ n ∧ i = .int .i64 k ∧ (∀ j, j < k → xs[j]? ≠ some z) ∧ Drawn w wr) (fun i _ => n - (intOf i).toNat)
  case atStart => exact ⟨0, Nat.zero_le _, rfl, fun j hj => by omega, ⟨0, rfl⟩⟩
  case round =>
    obtain ⟨k, hk, rfl, hno, hdr⟩ := hrel
    have HD := Lib.hid hdr; have NO := Lib.hid hno; clear hdr hno
    by_cases hlt : k < n
    · obtain ⟨g, off, u, rfl, _, hxu, hcx⟩ := HX.out.at_ hlt
      obtain ⟨s, hxs, rfl⟩ := V_at hxu
      rw [← HD.out.cell] at hcx
      have HXS := Lib.hid hxs; clear hxs hxu
      by_cases hst : s = z
      · subst hst
        have e : Hid (decide (s ∈ xs) = true) := Lib.hid (decide_eq_true (List.mem_of_getElem? HXS.out))
        go_wp2
        go_ret
        exact ⟨ret_bool e.out.symm, HD.out.below _⟩
      · have hb : (s == z) = false := by simpa using hst
        have HST := Lib.hid hst; clear hst
        go_wp2
        go_roundw
        case rel => exact ⟨k + 1, by omega, by go_num, fun j hj q => by
          by_cases e : j = k
          · subst e; rw [HXS.out] at q; exact HST.out (Option.some.inj q)
          · exact NO.out j (by omega) q, HD.out⟩
        case measure => simp [intOf]; omega
    · obtain rfl : k = n := by omega
      have e : Hid (decide (z ∈ xs) = false) := Lib.hid (decide_eq_false (fun q => by
        obtain ⟨j, hj, e⟩ := List.mem_iff_getElem.1 q
        exact NO.out j (by rw [← LX.out]; exact hj) (by rw [List.getElem?_eq_getElem hj, e])))
      go_wp2
      go_ret
      exact ⟨ret_bool e.out.symm, HD.out.below _⟩
end Go.Proofs.Ytglpiopjhddoeaa.th
