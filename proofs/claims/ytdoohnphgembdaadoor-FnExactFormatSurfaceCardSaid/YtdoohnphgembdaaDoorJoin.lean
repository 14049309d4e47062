/-
  The contract of the model's Join.
-/
import Derived.Test.YtdoohnphgembdaaDoorJoinImpl
import Derived.Test.YtdoohnphgembdaaDoorStrsArg
namespace Go.Proofs.YtdoohnphgembdaaDoor.join
open Go.ChangeShapes Go.WideShapes Go.ChangeAt Go.RowKit
open Go.Proofs.YtdoohnphgembdaaDoor.mem Go.Proofs.YtdoohnphgembdaaDoor.strs Go.Proofs.YtdoohnphgembdaaDoor.strsArg
set_option linter.unusedVariables false
set_option maxRecDepth 100000

set_option maxHeartbeats 400000 in
theorem spec_any (A : Option Addr) (n c : Nat) (xs : List ByteArray) (b : ByteArray) (hi : Nat) (w : World)
    (hx : Rd w hi A n (S xs)) (hn : n ≤ 1048576) (hm : sm xs ≤ 1048576) (hb : b.size ≤ 1048576) :
    Calls Tryd.prog 29 #[.slice A n c, .string b] w fun e w' => e = .returned (.string ⟨(J xs b).toArray⟩) ∧ w = w' := by
  have lx : xs.length = n := by simpa [S] using hx.1
  have LX := Lib.hid lx; clear lx
  have HX := Lib.hid hx; clear hx
  go_enter Tryd.func29, Tryd.ntmps29
  go_wp2
  go_loop [5, 6, 7, 10] (fun v _ _ i => ∃ k : Nat, k ≤ n ∧ i = .int .i64 k ∧ v = .string ⟨(J (xs.take k) b).toArray⟩) (fun _ _ _ i => n - (intOf i).toNat)
  case atStart => exact ⟨0, Nat.zero_le _, rfl, rfl⟩
  case round =>
    obtain ⟨k, hk, rfl, rfl⟩ := hrel
    by_cases hlt : k < n
    · obtain ⟨g, off, u, rfl, hgl, hxu, hcx⟩ := HX.out.at_ hlt
      obtain ⟨s, hxs, rfl⟩ := S_at hxu
      have hst := sm_take hxs
      have hsl := sm_le xs (k + 1)
      have hjl := J_le (xs.take k) b (n := 1048576) (m := 1048576) (by rw [List.length_take]; omega) hb
      have hsl2 := sm_le xs k
      have hss : s.size ≤ 1048576 := by omega
      have hjl2 : (J (xs.take k) b).length ≤ 1099512676352 := by omega
      have HXS := Lib.hid hxs; clear hxs hxu hst hsl hsl2 hjl
      by_cases h0 : 0 < k
      · go_wp2
        go_round
        case rel => exact ⟨k + 1, by omega, by go_num, congrArg Value.string (J_next HXS.out h0)⟩
        case measure => simp [intOf]; omega
      · go_wp2
        go_round
        case rel =>
          obtain rfl : k = 0 := by omega
          exact ⟨0 + 1, by omega, by go_num, congrArg Value.string (J_first HXS.out)⟩
        case measure => simp [intOf]; omega
    · obtain rfl : k = n := by omega
      go_wp2
      go_ret
      have e : xs.take k = xs := List.take_of_length_le (by rw [LX.out]; exact Nat.le_refl _)
      rw [e]
      exact ⟨rfl, rfl⟩

end Go.Proofs.YtdoohnphgembdaaDoor.join
