/-
  InverseWord of the model.
-/
import Derived.Test.YtdoohnphgembdaaIv
namespace Go.Proofs.Ytdoohnphgembdaa.iw
open Go.ChangeShapes Go.WideShapes Go.ChangeAt Go.RowKit
open Go.Proofs.Ytdoohnphgembdaa.mem Go.Proofs.Ytdoohnphgembdaa.pm Go.Proofs.Ytdoohnphgembdaa.wd
set_option linter.unusedVariables false
set_option maxRecDepth 100000
/-- The inverse of the last k letters. -/
def part (s : ByteArray) (k : Nat) : List UInt8 := ((s.data.toList.drop (s.size - k)).map inL).reverse
theorem part_succ {s : ByteArray} {p k : Nat} (hp : p < s.size) (h : s.size - (k + 1) = p) (hk : k < s.size) : part s (k + 1) = part s k ++ [inL s[p]] := by
  unfold part
  rw [h, show s.size - k = p + 1 by omega]
  have e : s.data.toList.drop p = s[p] :: s.data.toList.drop (p + 1) := by
    rw [List.drop_eq_getElem_cons (by simpa using hp)]; rfl
  rw [e, List.map_cons, List.reverse_cons]
theorem part_all (s : ByteArray) : part s s.size = invW s.data.toList := by simp [part, invW]
theorem part_len {s : ByteArray} {k : Nat} (h : k ≤ s.size) : (part s k).length = k := by
  simp [part]; omega
theorem str_snoc (l : List UInt8) (c : UInt8) : (⟨l.toArray⟩ : ByteArray) ++ ⟨#[c]⟩ = ⟨(l ++ [c]).toArray⟩ := by
  apply ByteArray.ext
  simp
set_option maxHeartbeats 1000000 in
theorem iw_spec (s : ByteArray) (w : World) (hs : s.size ≤ 1048576) : Calls Try.prog 35 #[.string s] w fun e w' => e = .returned (.string (iwF s)) ∧ w' = w := by
  cases hq : wok s
  · have HF : Hid (iwF s = ⟨#[]⟩) := Lib.hid (by simp [iwF, hq])
    go_enter Try.func35, Try.ntmps35
    go_wp2_with fail
    refine (wok_spec s _ hs).mono ?_
    rintro e w' ⟨rfl, rfl⟩
    rw [hq]
    go_wp2_with fail
    go_ret
    exact ⟨by rw [HF.out]; rfl, rfl⟩
  · have HF : Hid (iwF s = ⟨(part s s.size).toArray⟩) := Lib.hid (by rw [part_all]; simp [iwF, hq])
    have HQ := Lib.hid hq
    have h40 := wok_len hq
    go_enter Try.func35, Try.ntmps35
    go_wp2_with fail
    refine (wok_spec s _ hs).mono ?_
    rintro e w' ⟨rfl, rfl⟩
    rw [hq]
    clear hq
    go_wp2_with fail
    go_loop [3, 4] (fun v i => ∃ k : Nat, k ≤ s.size ∧ i = .int .i64 ((s.size : Int) - 1 - k) ∧ v = .string ⟨(part s k).toArray⟩) (fun _ i => (intOf i + 1).toNat)
    case atStart => exact ⟨0, Nat.zero_le _, by go_num, by simp [part]⟩
    case round =>
      obtain ⟨k, hk, rfl, rfl⟩ := hrel
      by_cases hlt : k < s.size
      · obtain ⟨p, hp, hp1, hp2⟩ : ∃ p : Nat, (s.size : Int) - 1 - k = (p : Int) ∧ s.size - (k + 1) = p ∧ p < s.size := ⟨s.size - (k + 1), by omega, rfl, by omega⟩
        have LS := wok_at HQ.out hp2
        have PS := Lib.hid (part_succ hp2 hp1 hlt)
        have PL : (part s k).length ≤ 40 := by rw [part_len hk]; omega
        have HP := Lib.hid hp1; clear hp1
        rw [hp]
        generalize part s k = q at *
        rcases isL_iff.1 LS with h1 | h1 | h1 | h1
        · have EI : Hid (inL s[p] = 116) := Lib.hid (by simp [inL, h1])
          clear LS
          go_wp2
          go_round
          case rel => exact ⟨k + 1, by omega, by go_num, congrArg Value.string (by rw [PS.out, EI.out]; exact str_snoc q 116)⟩
          case measure => simp [intOf] <;> omega
        · have EI : Hid (inL s[p] = 84) := Lib.hid (by simp [inL, h1])
          clear LS
          go_wp2
          go_round
          case rel => exact ⟨k + 1, by omega, by go_num, congrArg Value.string (by rw [PS.out, EI.out]; exact str_snoc q 84)⟩
          case measure => simp [intOf] <;> omega
        · have EI : Hid (inL s[p] = 115) := Lib.hid (by simp [inL, h1])
          clear LS
          go_wp2
          go_round
          case rel => exact ⟨k + 1, by omega, by go_num, congrArg Value.string (by rw [PS.out, EI.out]; exact str_snoc q 115)⟩
          case measure => simp [intOf] <;> omega
        · have EI : Hid (inL s[p] = 83) := Lib.hid (by simp [inL, h1])
          clear LS
          go_wp2
          go_round
          case rel => exact ⟨k + 1, by omega, by go_num, congrArg Value.string (by rw [PS.out, EI.out]; exact str_snoc q 83)⟩
          case measure => simp [intOf] <;> omega
      · obtain rfl : k = s.size := by omega
        have hneg : ¬ (0 : Int) ≤ (s.size : Int) - 1 - s.size := by omega
        go_wp2
        go_ret
        exact ⟨by rw [HF.out]; rfl, rfl⟩
end Go.Proofs.Ytdoohnphgembdaa.iw
