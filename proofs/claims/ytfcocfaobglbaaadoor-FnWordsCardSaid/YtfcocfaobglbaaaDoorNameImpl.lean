/-
  The contract of the program's IsName: it returns whether the string has 1 to 8 bytes, each a small letter or, behind the first, a digit.
-/
import Derived.Test.YtfcocfaobglbaaaDoorDigOne
namespace Go.Proofs.YtfcocfaobglbaaaDoor.names
open Go.ChangeShapes Go.WideShapes Go.ChangeAt Go.RowKit
open Go.Proofs.YtfcocfaobglbaaaDoor.digits (retb isDigit_yes isDigit_no ne_empty)
set_option linter.unusedVariables false

def Low (c : UInt8) : Prop := 97 ≤ c.toNat ∧ c.toNat ≤ 122
def Dig (c : UInt8) : Prop := 48 ≤ c.toNat ∧ c.toNat ≤ 57
def Good (s : ByteArray) (n : Nat) : Prop := ∀ i (h : i < s.size), i < n → Low s[i] ∨ (i ≠ 0 ∧ Dig s[i])
open Classical in
noncomputable def nm (s : ByteArray) : Bool := decide (1 ≤ s.size ∧ s.size ≤ 8 ∧ Good s s.size)

theorem good_zero (s : ByteArray) : Good s 0 := fun i _ h => by omega
theorem good_step {s : ByteArray} {k : Nat} (h : k < s.size) (ha : Good s k) (hc : Low s[k] ∨ (k ≠ 0 ∧ Dig s[k])) : Good s (k + 1) := by
  intro i hi hk
  by_cases e : i = k
  · subst e; exact hc
  · exact ha i hi (by omega)
open Classical in
theorem nm_no {s : ByteArray} {k : Nat} (h : k < s.size) (h1 : ¬ (Low s[k] ∨ (k ≠ 0 ∧ Dig s[k]))) : nm s = false := by
  unfold nm
  rw [decide_eq_false_iff_not]
  rintro ⟨_, _, g⟩
  exact h1 (g k h h)
open Classical in
theorem nm_size {s : ByteArray} (h : s.size < 1 ∨ 8 < s.size) : nm s = false := by
  unfold nm
  rw [decide_eq_false_iff_not]
  rintro ⟨_, _, g⟩
  omega
open Classical in
theorem nm_yes {s : ByteArray} (h1 : 1 ≤ s.size) (h2 : s.size ≤ 8) (ha : Good s s.size) : nm s = true := by
  unfold nm
  rw [decide_eq_true_iff]
  exact ⟨h1, h2, ha⟩

theorem isLetter_yes (n : Int) (w : World) (h1 : 97 ≤ n) (h2 : n ≤ 122) :
    Calls Tryd.prog 24 #[.int .i32 n] w fun e w' => e = .returned (.bool true) ∧ w = w' := by
  go_enter Tryd.func24, Tryd.ntmps24
  go_wp2
  go_ret
  exact ⟨rfl, rfl⟩
theorem isLetter_no (n : Int) (w : World) (h : n < 97 ∨ 122 < n) :
    Calls Tryd.prog 24 #[.int .i32 n] w fun e w' => e = .returned (.bool false) ∧ w = w' := by
  by_cases h1 : 97 ≤ n
  · have h2 : ¬ n ≤ 122 := by omega
    clear h
    go_enter Tryd.func24, Tryd.ntmps24
    go_wp2
    go_ret
    exact ⟨rfl, rfl⟩
  · clear h
    go_enter Tryd.func24, Tryd.ntmps24
    go_wp2
    go_ret
    exact ⟨rfl, rfl⟩

set_option maxHeartbeats 800000 in
theorem impl_any (s : ByteArray) (w : World) (hs : s.size ≤ maxLen) :
    Calls Tryd.prog 12 #[.string s] w fun e w' => e = .returned (.bool (nm s)) ∧ Below w.heap.size w w' := by
  unfold maxLen at hs
  by_cases hb : 1 ≤ s.size ∧ s.size ≤ 8
  · obtain ⟨b1, b2⟩ := hb
    have he : s.toList.isEmpty = false := by
      have := ne_empty s; simp only [show (0 < s.size) from b1, decide_true] at this; simpa using this
    go_enter Tryd.func12, Tryd.ntmps12
    go_wp2
    go_loopw [3, 4] (fun _ _ w' => ∃ pos : Nat, w' = w.iter s pos ∧ pos ≤ s.size ∧ Good s pos) (fun _ _ w' => s.size - w'.iterPos w.heap.size)
    case atStart => exact ⟨0, rfl, Nat.zero_le _, good_zero s⟩
    case round =>
      obtain ⟨pos, rfl, hk, ha⟩ := hrel
      have HA := Lib.hid ha; clear ha
      by_cases hp : pos < s.size
      · by_cases hasc : s[pos].toNat < 128
        · have hnx : ∀ ty, (Instr.next (.pointer (some ⟨w.heap.size, 0, none⟩)) true ty).run Tryd.prog (w.iter s pos) = _ := fun ty => run_next_ascii w s pos ty hp hasc
          by_cases hl : 97 ≤ s[pos].toNat ∧ s[pos].toNat ≤ 122
          · obtain ⟨h1, h2⟩ := hl
            go_wp2_with (go_at_call 24; refine (isLetter_yes _ _ (by omega) (by omega)).mono ?_; rintro e w' ⟨rfl, rfl⟩)
            go_roundw
            case rel => exact ⟨pos + 1, rfl, by omega, good_step hp HA.out (.inl ⟨h1, h2⟩)⟩
            case measure => simp; omega
          · have hl' : s[pos].toNat < 97 ∨ 122 < s[pos].toNat := by omega
            clear hl
            by_cases h0 : pos = 0
            · have hz : ((pos : Int) == 0) = true := by simp [h0]
              have H0 := Lib.hid h0; clear h0
              go_wp2_with (go_at_call 24; refine (isLetter_no _ _ (by omega)).mono ?_; rintro e w' ⟨rfl, rfl⟩)
              go_ret
              exact ⟨retb (nm_no hp (by unfold Low Dig; have := H0.out; omega)).symm, (Below.refl _ _).alloc (Nat.le_refl _) _⟩
            · have hz : ((pos : Int) == 0) = false := by simp [h0]
              by_cases hd : 48 ≤ s[pos].toNat ∧ s[pos].toNat ≤ 57
              · obtain ⟨d1, d2⟩ := hd
                go_wp2_with (first | (go_at_call 24; refine (isLetter_no _ _ (by omega)).mono ?_; rintro e w' ⟨rfl, rfl⟩) | (go_at_call 25; refine (isDigit_yes _ _ (by omega) (by omega)).mono ?_; rintro e w' ⟨rfl, rfl⟩))
                go_roundw
                case rel => exact ⟨pos + 1, rfl, by omega, good_step hp HA.out (.inr ⟨h0, d1, d2⟩)⟩
                case measure => simp; omega
              · have hd' : s[pos].toNat < 48 ∨ 57 < s[pos].toNat := by omega
                clear hd
                go_wp2_with (first | (go_at_call 24; refine (isLetter_no _ _ (by omega)).mono ?_; rintro e w' ⟨rfl, rfl⟩) | (go_at_call 25; refine (isDigit_no _ _ (by omega)).mono ?_; rintro e w' ⟨rfl, rfl⟩))
                go_ret
                exact ⟨retb (nm_no hp (by unfold Low Dig; omega)).symm, (Below.refl _ _).alloc (Nat.le_refl _) _⟩
        · have hnx : ∀ ty, (Instr.next (.pointer (some ⟨w.heap.size, 0, none⟩)) true ty).run Tryd.prog (w.iter s pos) = _ := fun ty => run_next_any w s pos ty hp
          have hh := (decode_high s pos hp (by omega)).1
          have hno : ¬ (Low s[pos] ∨ (pos ≠ 0 ∧ Dig s[pos])) := by unfold Low Dig; omega
          have HN := Lib.hid hno; clear hno
          by_cases h0 : pos = 0
          · have hz : ((pos : Int) == 0) = true := by simp [h0]
            have H0 := Lib.hid h0; clear h0
            go_wp2_with (go_at_call 24; refine (isLetter_no _ _ (by omega)).mono ?_; rintro e w' ⟨rfl, rfl⟩)
            go_ret
            exact ⟨retb (nm_no hp HN.out).symm, (Below.refl _ _).alloc (Nat.le_refl _) _⟩
          · have hz : ((pos : Int) == 0) = false := by simp [h0]
            go_wp2_with (first | (go_at_call 24; refine (isLetter_no _ _ (by omega)).mono ?_; rintro e w' ⟨rfl, rfl⟩) | (go_at_call 25; refine (isDigit_no _ _ (by omega)).mono ?_; rintro e w' ⟨rfl, rfl⟩))
            go_ret
            exact ⟨retb (nm_no hp HN.out).symm, (Below.refl _ _).alloc (Nat.le_refl _) _⟩
      · have hnx : ∀ ty, (Instr.next (.pointer (some ⟨w.heap.size, 0, none⟩)) true ty).run Tryd.prog (w.iter s pos) = _ := fun ty => run_next_end w s pos ty hp
        go_wp2
        go_ret
        obtain rfl : pos = s.size := by omega
        exact ⟨retb (nm_yes b1 b2 HA.out).symm, (Below.refl _ _).alloc (Nat.le_refl _) _⟩
  · have hb' : s.size < 1 ∨ 8 < s.size := by omega
    clear hb
    have hn : nm s = false := nm_size hb'
    have HN := Lib.hid hn; clear hn
    by_cases h1 : 1 ≤ s.size
    · have he : s.toList.isEmpty = false := by
        have := ne_empty s; simp only [show (0 < s.size) from h1, decide_true] at this; simpa using this
      have h8 : 8 < s.size := by omega
      clear hb'
      go_enter Tryd.func12, Tryd.ntmps12
      go_wp2
      go_ret
      exact ⟨retb HN.out.symm, Below.refl _ _⟩
    · have he : s.toList.isEmpty = true := by
        have := ne_empty s; simp only [show ¬ (0 < s.size) from by omega, decide_false] at this; simpa using this
      clear hb'
      go_enter Tryd.func12, Tryd.ntmps12
      go_wp2
      go_ret
      exact ⟨retb HN.out.symm, Below.refl _ _⟩

end Go.Proofs.YtfcocfaobglbaaaDoor.names
