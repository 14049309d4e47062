/-
  Draws: contracts of l20New, MakeNum, l01Below, l01Str, as far as ranges go.
-/
import Derived.Test.YtpmojmhamgcfmaaWCur
namespace Go.Proofs.Ytpmojmhamgcfmaa.cur
open Go.ChangeShapes Go.WideShapes Go.ChangeAt Go.RowKit
open Go.Proofs.Ytpmojmhamgcfmaa.mem
set_option linter.unusedVariables false
set_option maxRecDepth 100000

theorem Cur.lt {w : World} {g : Nat} {A : Option Addr} {n c : Nat} {l : List Int} (h : Cur w g A n c l) : g < w.heap.size := by
  obtain ⟨⟨i, q, hb, _⟩, _⟩ := h
  rcases Nat.lt_or_ge g w.heap.size with hlt | hge
  · exact hlt
  · rw [Array.getElem?_eq_none hge] at hb; cases hb
theorem Cur.keep {w w' : World} {g B : Nat} {A : Option Addr} {n c : Nat} {l : List Int} (h : Cur w g A n c l) (hb : Below B w w') (hB : g < B) : Cur w' g A n c l := by
  obtain ⟨⟨i, q, hk, r⟩, hc⟩ := h
  exact ⟨⟨i, q, by rw [hb.block g hB]; exact hk, r⟩, hc.keep hb (by omega)⟩
theorem Cur.out {w w' : World} {g lo hi : Nat} {A : Option Addr} {n c : Nat} {l : List Int} (h : Cur w g A n c l) (ho : Out lo hi w w') (hd : g < lo) : Cur w' g A n c l := by
  have hl := h.lt
  obtain ⟨⟨i, q, hk, r⟩, hc⟩ := h
  exact ⟨⟨i, q, by rw [ho.block g hl (.inl hd)]; exact hk, r⟩, hc.out ho (.inl (by omega))⟩

set_option maxHeartbeats 400000 in
theorem skip_any (w : World) (hi : Nat) (A : Option Addr) (n c : Nat) (l : List Int) (m : Nat) (hm : m ≤ 1000) (hc : Code w hi A n l) :
    Calls Try.prog 39 #[.slice A n c, .int .i64 m] w (Made A n c l w) := by
  have HC := Lib.hid hc; clear hc
  go_enter Try.func39, Try.ntmps39
  go_wp2_with fail
  refine (new_any w hi A n c l HC.out).mono ?_
  rintro e w1 ⟨g, hg, hlt, rfl, hcur, hb⟩
  have HCU := Lib.hid hcur; have HB := Lib.hid hb; clear hcur hb
  go_wp2_with fail
  go_loopw [6] (fun i wr => ∃ k : Nat, k ≤ m ∧ i = .int .i64 k ∧ Cur wr g A n c l ∧ Below w.heap.size w wr) (fun i _ => m - (intOf i).toNat)
  case atStart => exact ⟨0, Nat.zero_le _, rfl, HCU.out, HB.out⟩
  case round =>
    obtain ⟨k, hk, rfl, hcur, hb⟩ := hrel
    have HCR := Lib.hid hcur; have HBR := Lib.hid hb; clear hcur hb
    by_cases hkm : k < m
    · go_wp2_with fail
      refine (byte_any _ g A n c l HCR.out).mono ?_
      rintro e w2 ⟨x, x0, x1, rfl, hcur, ho⟩
      have HC2 := Lib.hid hcur; have HO := Lib.hid ho; clear hcur ho
      go_wp2_with fail
      go_roundw
      case rel => exact ⟨k + 1, by omega, by go_num, HC2.out, HBR.out.trans (HO.out.below hg HBR.out.size)⟩
      case measure => simp [intOf]; omega
    · go_wp2_with fail
      go_ret
      exact ⟨g, hg, HCR.out.lt, rfl, HCR.out, HBR.out⟩

/-- A number of a range; nothing that was there has turned. -/
def Number (lo hi : Int) (w : World) (e : Ending) (w' : World) : Prop := ∃ x : Int, lo ≤ x ∧ x ≤ hi ∧ e = .returned (.int .i64 x) ∧ Below w.heap.size w w'

set_option maxHeartbeats 400000 in
theorem below_any (w : World) (g : Nat) (A : Option Addr) (n c : Nat) (l : List Int) (k : Int) (h1 : 1 ≤ k) (h2 : k ≤ 2147483648) (hc : Cur w g A n c l) :
    Calls Try.prog 31 #[.pointer (some ⟨g, 0, none⟩), .int .i64 k] w (Gives 0 (k - 1) g A n c l w) := by
  have HC := Lib.hid hc; clear hc
  by_cases hk : k ≤ 256
  · go_enter Try.func31, Try.ntmps31
    go_wp2_with fail
    refine (byte_any _ g A n c l HC.out).mono ?_
    rintro e w2 ⟨x, x0, x1, rfl, hcur, ho⟩
    have HC2 := Lib.hid hcur; have HO := Lib.hid ho; clear hcur ho
    have hne : (k == 0) = false := by rw [beq_eq_false_iff_ne]; omega
    go_wp2_with fail
    go_ret
    have q1 := Int.emod_nonneg x (show k ≠ 0 by omega)
    have q2 := Int.emod_lt_of_pos x (show 0 < k by omega)
    exact ⟨x % k, q1, by omega, rfl, HC2.out, HO.out⟩
  · go_enter Try.func31, Try.ntmps31
    go_wp2_with fail
    refine (byte_any _ g A n c l HC.out).mono ?_
    rintro e w2 ⟨x, x0, x1, rfl, hcur, ho⟩
    have HC2 := Lib.hid hcur; have HO := Lib.hid ho; clear hcur ho
    go_wp2_with fail
    refine (byte_any _ g A n c l HC2.out).mono ?_
    rintro e w3 ⟨y, y0, y1, rfl, hcur, ho⟩
    have HC3 := Lib.hid hcur; have HO3 := Lib.hid (HO.out.trans ho); clear hcur ho
    go_wp2_with fail
    refine (byte_any _ g A n c l HC3.out).mono ?_
    rintro e w4 ⟨z, z0, z1, rfl, hcur, ho⟩
    have HC4 := Lib.hid hcur; have HO4 := Lib.hid (HO3.out.trans ho); clear hcur ho
    go_wp2_with fail
    refine (byte_any _ g A n c l HC4.out).mono ?_
    rintro e w5 ⟨u, u0, u1, rfl, hcur, ho⟩
    have HC5 := Lib.hid hcur; have HO5 := Lib.hid (HO4.out.trans ho); clear hcur ho
    have hne : (k == 0) = false := by rw [beq_eq_false_iff_ne]; omega
    go_wp2_with fail
    go_ret
    have q1 := Int.emod_nonneg (x * 16777216 + y * 65536 + z * 256 + u) (show k ≠ 0 by omega)
    have q2 := Int.emod_lt_of_pos (x * 16777216 + y * 65536 + z * 256 + u) (show 0 < k by omega)
    exact ⟨_, q1, by omega, rfl, HC5.out, HO5.out⟩

end Go.Proofs.Ytpmojmhamgcfmaa.cur
