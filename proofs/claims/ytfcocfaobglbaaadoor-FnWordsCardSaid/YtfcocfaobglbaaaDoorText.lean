/-
  The contract of MakeText, as far as the length goes; strings are recovered from their parts.
-/
import Derived.Test.YtfcocfaobglbaaaDoorDraw
import Derived.Test.YtfcocfaobglbaaaDoorSplitImpl
import Derived.Test.YtfcocfaobglbaaaDoorJoinImpl
import Derived.Test.YtfcocfaobglbaaaDoorLinesImpl
import Derived.Test.YtfcocfaobglbaaaDoorNameImpl
import Derived.Lib.Split
namespace Go.Proofs.YtfcocfaobglbaaaDoor.text
open Go.ChangeShapes Go.WideShapes Go.ChangeAt Go.RowKit
open Go.Proofs.YtfcocfaobglbaaaDoor.mem Go.Proofs.YtfcocfaobglbaaaDoor.cur
set_option linter.unusedVariables false

def five : List ByteArray := [⟨#[97]⟩, ⟨#[98, 99]⟩, ⟨#[32]⟩, ⟨#[44]⟩, ⟨#[120, 49]⟩]
theorem five_size : ∀ s ∈ five, s.size ≤ 2 := by
  intro s hs
  simp only [five, List.mem_cons, List.not_mem_nil, or_false] at hs
  rcases hs with rfl | rfl | rfl | rfl | rfl <;> decide
def Short (m : Nat) (w : World) (e : Ending) (w' : World) : Prop := ∃ s : ByteArray, s.size ≤ m ∧ e = .returned (.string s) ∧ Below w.heap.size w w'
def TRel (g : Nat) (A : Option Addr) (n c : Nat) (l : List Int) (w wr : World) : Prop := Cur wr g A n c l ∧ Below w.heap.size w wr

set_option maxHeartbeats 400000 in
theorem text_any (w : World) (hi : Nat) (A : Option Addr) (n c : Nat) (l : List Int) (hc : cur.Code w hi A n l) :
    Calls Tryd.prog 9 #[.slice A n c] w (Short 14 w) := by
  have HC := Lib.hid hc; clear hc
  go_enter Tryd.func9, Tryd.ntmps9
  go_wp2_with fail
  refine (new_any w hi A n c l HC.out).mono ?_
  rintro e w1 ⟨g, hg, hlt, rfl, hcur, hb⟩
  have HCU := Lib.hid hcur; have HB := Lib.hid hb; clear hcur hb
  go_wp2_with fail
  refine (below_any _ g A n c l 8 (by omega) (by omega) HCU.out).mono ?_
  rintro e w2 ⟨x, x0, x1, rfl, hcur, ho⟩
  have HC2 := Lib.hid hcur; have HB2 := Lib.hid (HB.out.trans (ho.below hg HB.out.size)); clear hcur ho
  go_wp2_with fail
  go_loopw [4, 5] (fun s i wr => ∃ (t : ByteArray) (k : Nat), k ≤ 7 ∧ t.size ≤ 14 - 2 * k ∧ s = .string t ∧ i = .int .i64 k ∧ TRel g A n c l w wr) (fun _ i _ => (intOf i).toNat)
  case atStart => exact ⟨⟨#[]⟩, x.toNat, by omega, by show 0 ≤ _; omega, rfl, by rw [Int.toNat_of_nonneg x0], HC2.out, HB2.out⟩
  case round =>
    obtain ⟨t, k, hk, ht, rfl, rfl, hrl⟩ := hrel
    have HR := Lib.hid hrl; clear hrl
    by_cases hk0 : 0 < k
    · go_wp2_with fail
      have hgl := HR.out.1.lt
      have hcu : Cur (wr.alloc (.cells #[.string ⟨#[97]⟩, .string ⟨#[98, 99]⟩, .string ⟨#[32]⟩, .string ⟨#[44]⟩, .string ⟨#[120, 49]⟩] 9)) g A n c l :=
        HR.out.1.keep ((Below.refl wr.heap.size wr).alloc (Nat.le_refl _) _) hgl
      have hrd : Rd (wr.alloc (.cells #[.string ⟨#[97]⟩, .string ⟨#[98, 99]⟩, .string ⟨#[32]⟩, .string ⟨#[44]⟩, .string ⟨#[120, 49]⟩] 9)) (wr.alloc (.cells #[.string ⟨#[97]⟩, .string ⟨#[98, 99]⟩, .string ⟨#[32]⟩, .string ⟨#[44]⟩, .string ⟨#[120, 49]⟩] 9)).heap.size (some ⟨wr.heap.size, 0, none⟩) 5 (five.map Value.string) := by
        refine ⟨rfl, Nat.le_refl _, fun _ => ⟨wr.heap.size, 0, rfl, by simp, fun j hj => ?_⟩⟩
        rw [Nat.zero_add, World.cell?_alloc_at _ _ _ _ rfl]
        match j, hj with
        | 0, _ => rfl
        | 1, _ => rfl
        | 2, _ => rfl
        | 3, _ => rfl
        | 4, _ => rfl
      refine (str_any _ g A n c l wr.heap.size 5 5 five (by omega) (by omega) hcu hrd (by omega)).mono ?_
      rintro e w3 ⟨s, hs, rfl, hcur, ho⟩
      have hsz := five_size s hs
      have HC3 := Lib.hid hcur
      have HB3 := Lib.hid (HR.out.2.trans (((Below.refl wr.heap.size wr).alloc (Nat.le_refl _) _).mono HR.out.2.size |>.trans (ho.below hg (by have := HR.out.2.size; simp; omega))))
      clear hcur ho hs hcu hrd
      go_wp2_with fail
      go_roundw
      case rel => exact ⟨t ++ s, k - 1, by omega, by rw [ByteArray.size_append]; omega, rfl, by go_num, HC3.out, HB3.out⟩
      case measure => simp [intOf]; omega
    · go_wp2_with fail
      go_ret
      exact ⟨t, by omega, rfl, HR.out.2⟩

/-! Strings are recovered from their parts. -/
open Go.Proofs.YtfcocfaobglbaaaDoor.split Go.Proofs.YtfcocfaobglbaaaDoor.strs
def sp : ByteArray := ⟨#[32]⟩
theorem has_sp (c : UInt8) : has sp sp.size c = (c == 32) := by
  show ([32] : List UInt8).contains c = _
  by_cases h : c = 32 <;> simp [h]
theorem join_last (xs : List (List UInt8)) (y : List UInt8) (c : UInt8) (sep : List UInt8) : Lib.join (xs ++ [y ++ [c]]) sep = Lib.join (xs ++ [y]) sep ++ [c] := by
  cases xs with
  | nil => rw [List.nil_append, List.nil_append, Lib.join_one, Lib.join_one]
  | cons x r => rw [join.join_snoc (by simp), join.join_snoc (by simp)]; simp
theorem ext_snoc (s : ByteArray) (f k : Nat) (hf : f ≤ k) (hk : k < s.size) : (s.extract f (k + 1)).data.toList = (s.extract f k).data.toList ++ [s[k]] := by
  rw [Lib.extract_data, Lib.extract_data, show k + 1 - f = (k - f) + 1 by omega, List.take_add_one, List.getElem?_drop, show f + (k - f) = k by omega]
  have : s.data.toList[k]? = some s[k] := by
    have e : s[k] = s.data.toList[k]'(by simpa using hk) := rfl
    rw [e]; exact List.getElem?_eq_getElem _
  rw [this]; rfl
theorem ext_nil (s : ByteArray) (k : Nat) : (s.extract k k).data.toList = [] := by
  rw [Lib.extract_data]; simp
theorem back (s : ByteArray) (k : Nat) (hk : k ≤ s.size) :
    Lib.join (join.L (st s (has sp sp.size) k).1 ++ [(s.extract (st s (has sp sp.size) k).2 k).data.toList]) [32] = s.data.toList.take k := by
  induction k with
  | zero => simp [st, join.L, Lib.join_one]
  | succ k ih =>
    have ih := ih (by omega)
    have hlt : k < s.size := by omega
    have hf := st_from s (has sp sp.size) k
    rw [take_snoc s k hlt]
    cases hc : has sp sp.size s[k]
    · rw [st_no hlt hc, ext_snoc s _ k hf hlt, join_last, ih]
    · rw [st_yes hlt hc]
      simp only [join.L, List.map_append, List.map_cons, List.map_nil] at ih ⊢
      rw [ext_nil, join.join_snoc (by simp), ih]
      rw [has_sp] at hc
      have : s[k] = 32 := by simpa using hc
      rw [this]; simp
theorem recovered (s : ByteArray) : join.J (fin s (has sp sp.size)) sp = s.data.toList := by
  have h := back s s.size (Nat.le_refl _)
  rw [List.take_of_length_le (by simp)] at h
  rw [← h]
  unfold join.J fin join.L
  rw [List.map_append]
  rfl
theorem fin_sm (s : ByteArray) : sm (fin s (has sp sp.size)) ≤ s.size := by
  have h := congrArg List.length (recovered s)
  have hne : join.L (fin s (has sp sp.size)) ≠ [] := by simp [join.L, fin]
  obtain ⟨x, r, hx⟩ := List.exists_cons_of_ne_nil hne
  unfold join.J at h
  rw [← join.lens_eq, hx]
  rw [hx, Lib.join_length] at h
  have e : s.data.toList.length = s.size := by simp
  omega
theorem x1_name : names.nm ⟨#[120, 49]⟩ = true := by
  refine names.nm_yes (by decide) (by decide) ?_
  intro i h _
  have h2 : i < 2 := h
  match i, h2 with
  | 0, _ => left; exact ⟨(by decide : 97 ≤ (120 : UInt8).toNat), (by decide : (120 : UInt8).toNat ≤ 122)⟩
  | 1, _ => right; exact ⟨by decide, (by decide : 48 ≤ (49 : UInt8).toNat), (by decide : (49 : UInt8).toNat ≤ 57)⟩
theorem two_lines : (lines.lns ⟨#[97, 10, 98, 10]⟩).length = 2 := by decide +kernel

end Go.Proofs.YtfcocfaobglbaaaDoor.text
