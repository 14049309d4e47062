/-
  How many steps of each kind a word has; SlopeFrom of the program.
-/
import Derived.Test.YtkkklpchkkdhfaaUe
import Derived.Test.YtkkklpchkkdhfaaShelf
namespace Go.Proofs.Ytkkklpchkkdhfaa.pth
open Go.ChangeShapes Go.WideShapes Go.ChangeAt Go.RowKit
open Go.Proofs.Ytkkklpchkkdhfaa.mem Go.Proofs.Ytkkklpchkkdhfaa.ints Go.Proofs.Ytkkklpchkkdhfaa.arr Go.Proofs.Ytkkklpchkkdhfaa.pm Go.Proofs.Ytkkklpchkkdhfaa.dr
set_option linter.unusedVariables false
set_option maxRecDepth 100000
set_option linter.unusedSimpArgs false
theorem ru_cnt : ∀ L : List UInt8, L.count 114 + L.count 117 ≤ L.length ∧ ((L.all fun c => c == 114 || c == 117) = true ↔ L.count 114 + L.count 117 = L.length)
  | [] => by simp
  | c :: L => by
    obtain ⟨h1, h2⟩ := ru_cnt L
    rw [List.all_cons, List.count_cons, List.count_cons, List.length_cons, Bool.and_eq_true, h2]
    by_cases a : c = 114
    · subst a
      have e : ((114 : UInt8) == 117) = false := by decide
      simp [e]; omega
    · by_cases b : c = 117
      · subst b
        have e : ((117 : UInt8) == 114) = false := by decide
        simp [e]; omega
      · have e1 : (c == 114) = false := by simpa using a
        have e2 : (c == 117) = false := by simpa using b
        simp [e1, e2]; omega
def cR (s : ByteArray) : Nat := s.data.toList.count 114
def cU (s : ByteArray) : Nat := s.data.toList.count 117
theorem len_list (s : ByteArray) : s.data.toList.length = s.size := Array.length_toList
theorem c_le (s : ByteArray) : cR s + cU s ≤ s.size := by
  have := (ru_cnt s.data.toList).1
  rw [len_list] at this
  exact this
theorem c_ru (s : ByteArray) : ruB s = true ↔ cR s + cU s = s.size := by
  have := (ru_cnt s.data.toList).2
  rw [len_list] at this
  exact this
theorem sfP_c (s : ByteArray) : sfP s = cR s := by
  unfold sfP cnR cR
  rw [List.take_of_length_le (by rw [len_list]; exact Nat.le_refl _), List.count_eq_countP, List.countP_eq_length_filter]
theorem sw_ru {p q : Int} : ruB (swF p q) = true := by
  cases h : slB p q
  · rw [swF_no h]; rfl
  · obtain ⟨a, b, rfl, rfl, _⟩ := sl_nat h
    rw [swF_yes h]
    unfold ruB
    have e : (wd (swL a b)).data.toList = swL a b := by simp [wd]
    rw [e, List.all_eq_true]
    intro c hc
    rcases swL_or hc with rfl | rfl <;> rfl
theorem sw_size {p q : Int} (h : slB p q = true) : (swF p q).size = p.toNat + q.toNat := by
  obtain ⟨a, b, rfl, rfl, _⟩ := sl_nat h
  rw [swF_yes h, wd_size, swL_len, Int.toNat_natCast, Int.toNat_natCast]
theorem sf_no0 {s : ByteArray} (h : s.size = 0) : sfB s = false := by
  cases e : sfB s
  · rfl
  · unfold sfB at e
    rw [Bool.and_eq_true] at e
    obtain ⟨a, b, e1, e2, _, h1, _⟩ := sl_nat e.1
    have hp : sfP s ≤ s.size := cnR_le s s.size
    omega
theorem sf_is {s : ByteArray} (h : s.size ≠ 0) : sfB s = decide (swF (cR s : Int) (cU s : Int) = s) := by
  have hle := c_le s
  by_cases e : swF (cR s : Int) (cU s : Int) = s
  · rw [decide_eq_true e]
    have hr : ruB s = true := by rw [← e]; exact sw_ru
    have hc := (c_ru s).1 hr
    have hs : slB (cR s : Int) (cU s : Int) = true := by
      cases q : slB (cR s : Int) (cU s : Int)
      · rw [swF_no q] at e
        have : s.size = 0 := by rw [← e]; rfl
        exact absurd this h
      · rfl
    unfold sfB
    rw [sfP_c, show s.size - cR s = cU s by omega, hs, e]
    simp
  · rw [decide_eq_false e]
    cases q : sfB s
    · rfl
    · unfold sfB at q
      rw [Bool.and_eq_true, decide_eq_true_eq] at q
      have hr : ruB s = true := by rw [← q.2]; exact sw_ru
      have hc := (c_ru s).1 hr
      have hq := q.2
      rw [sfP_c, show s.size - cR s = cU s by omega] at hq
      exact absurd hq e
set_option maxHeartbeats 1000000 in
theorem cs_any (s : ByteArray) (w : World) :
    Calls Try.prog 39 #[.string s] w fun e w' => e = .returned (.tuple #[.int .i64 (cR s), .int .i64 (cU s)]) ∧ w' = w := by
  go_enter Try.func39, Try.ntmps39
  go_wp2_with fail
  refine (Try.strings_Count_one s 114 _).mono ?_
  rintro e w1 ⟨rfl, rfl⟩
  go_wp2_with fail
  refine (Try.strings_Count_one s 117 _).mono ?_
  rintro e w2 ⟨rfl, rfl⟩
  go_wp2_with fail
  go_ret2
  exact ⟨rfl, rfl⟩
set_option maxHeartbeats 2000000 in
theorem sf_impl (s : ByteArray) (w : World) (hs : s.size ≤ 1048576) :
    Calls Try.prog 13 #[.string s] w fun e w' => e = .returned (.tuple #[.int .i64 (sfX s), .int .i64 (sfY s), .bool (sfB s)]) ∧ Below w.heap.size w w' := by
  go_enter Try.func13, Try.ntmps13
  go_wp2_with fail
  refine (cs_any s _).mono ?_
  rintro e w1 ⟨rfl, rfl⟩
  have hle := c_le s
  by_cases h0 : s.size = 0
  · have HB := Lib.hid (sf_no0 h0)
    have HX : Hid (sfX s = 0) := Lib.hid (by unfold sfX; rw [HB.out]; rfl)
    have HY : Hid (sfY s = 0) := Lib.hid (by unfold sfY; rw [HB.out]; rfl)
    have he : s = ⟨#[]⟩ := by apply ByteArray.ext; exact Array.eq_empty_of_size_eq_zero h0
    subst he
    go_wp2_with fail
    go_ret3
    exact ⟨by rw [HX.out, HY.out, HB.out]; rfl, Below.refl _ _⟩
  have hne0 : (s.toList == []) = false := by
    rw [beq_eq_false_iff_ne]
    intro e
    rw [ByteArray.toList_eq] at e
    have := len_list s
    rw [e] at this
    exact h0 this.symm
  have hse : ¬ s = ⟨#[]⟩ := fun e => h0 (by rw [e]; rfl)
  have IS := Lib.hid (sf_is h0)
  have XE : Hid (sfB s = true → sfX s = (cR s : Int)) := Lib.hid (fun h => by unfold sfX; rw [if_pos h, sfP_c])
  have YE : Hid (sfB s = true → sfY s = (cU s : Int)) := Lib.hid (fun h => by
    unfold sfY
    rw [if_pos h, sfP_c]
    have h2 := h
    rw [IS.out, decide_eq_true_eq] at h2
    have hr : ruB s = true := by rw [← h2]; exact sw_ru
    have := (c_ru s).1 hr
    omega)
  generalize cR s = a at *
  generalize cU s = b at *
  go_wp2_with fail
  refine (sw_impl (a : Int) (b : Int) _ (by omega) (by omega) (by omega) (by omega)).mono ?_
  rintro e w2 ⟨rfl, b1⟩
  have B1 := Lib.hid b1; clear b1
  obtain ⟨W, hW⟩ : ∃ W, swF (a : Int) (b : Int) = W := ⟨_, rfl⟩
  rw [hW] at IS ⊢
  clear hW
  by_cases he : W = s
  · have HB : Hid (sfB s = true) := Lib.hid (by rw [IS.out, decide_eq_true he])
    have HX : Hid (sfX s = (a : Int)) := Lib.hid (XE.out HB.out)
    have HY : Hid (sfY s = (b : Int)) := Lib.hid (YE.out HB.out)
    clear IS XE YE
    subst he
    go_wp2_with fail
    go_ret3
    exact ⟨by rw [HX.out, HY.out, HB.out]; rfl, B1.out⟩
  · have HB : Hid (sfB s = false) := Lib.hid (by rw [IS.out, decide_eq_false he])
    have HX : Hid (sfX s = 0) := Lib.hid (by unfold sfX; rw [HB.out]; rfl)
    have HY : Hid (sfY s = 0) := Lib.hid (by unfold sfY; rw [HB.out]; rfl)
    have hne : (W.toList == s.toList) = false := by
      rw [beq_eq_false_iff_ne]
      intro e
      rw [ByteArray.toList_eq, ByteArray.toList_eq] at e
      exact he (bytes_inj e)
    clear IS XE YE
    go_wp2_with fail
    go_ret3
    exact ⟨by rw [HX.out, HY.out, HB.out]; rfl, B1.out⟩
end Go.Proofs.Ytkkklpchkkdhfaa.pth
