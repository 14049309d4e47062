/-
  Balls on rectangles: what the functions answer; the specification's first functions.
-/
import Derived.Test.YtajkfkpnjbkhhaaDb
import Derived.Test.YtajkfkpnjbkhhaaRg
namespace Go.Proofs.Ytajkfkpnjbkhhaa.bal
open Go.ChangeShapes Go.WideShapes Go.ChangeAt Go.RowKit
open Go.Proofs.Ytajkfkpnjbkhhaa.mem Go.Proofs.Ytajkfkpnjbkhhaa.ints Go.Proofs.Ytajkfkpnjbkhhaa.arr Go.Proofs.Ytajkfkpnjbkhhaa.pm Go.Proofs.Ytajkfkpnjbkhhaa.permOk Go.Proofs.Ytajkfkpnjbkhhaa.sf
set_option linter.unusedVariables false
set_option maxRecDepth 100000
set_option linter.unusedSimpArgs false

/-- A ball: X, Y, DX, DY. -/
abbrev Bal := Int × Int × Int × Int
def be (x : Bal) : List Int := [x.1, x.2.1, x.2.2.1, x.2.2.2]
def bv (x : Bal) : Value := .agg #[.int .i64 x.1, .int .i64 x.2.1, .int .i64 x.2.2.1, .int .i64 x.2.2.2]
def lnB (a x d : Int) : Bool := decide (0 ≤ x ∧ x ≤ a) && (decide (d = 1 ∧ x < a) || decide (d = -1 ∧ 0 < x))
def tbB (a b : Int) : Bool := decide (1 ≤ a ∧ a ≤ 50) && decide (1 ≤ b ∧ b ≤ 50)
def blB (a b : Int) (x : Bal) : Bool := tbB a b && (lnB a x.1 x.2.2.1 && lnB b x.2.1 x.2.2.2)
def tnF (a x d : Int) : Int := if x = a then -1 else if x = 0 then 1 else d
def stF (a b : Int) (x : Bal) : Bal := (x.1 + x.2.2.1, x.2.1 + x.2.2.2, tnF a (x.1 + x.2.2.1) x.2.2.1, tnF b (x.2.1 + x.2.2.2) x.2.2.2)
def itB (a b : Int) (x : Bal) : Nat → Bal
  | 0 => x
  | k + 1 => stF a b (itB a b x k)
theorem tb_iff {a b : Int} : tbB a b = true ↔ (1 ≤ a ∧ a ≤ 50) ∧ 1 ≤ b ∧ b ≤ 50 := by simp [tbB]
theorem ln_iff {a x d : Int} : lnB a x d = true ↔ (0 ≤ x ∧ x ≤ a) ∧ (d = 1 ∧ x < a ∨ d = -1 ∧ 0 < x) := by simp [lnB]
theorem bl_iff {a b : Int} {x : Bal} : blB a b x = true ↔ tbB a b = true ∧ lnB a x.1 x.2.2.1 = true ∧ lnB b x.2.1 x.2.2.2 = true := by simp [blB]
theorem tn_ln {a x d : Int} (ha : 1 ≤ a) (h : lnB a x d = true) : lnB a (x + d) (tnF a (x + d) d) = true := by
  rw [ln_iff] at h ⊢
  unfold tnF
  split
  · omega
  · split <;> omega
theorem st_ok {a b : Int} {x : Bal} (h : blB a b x = true) : blB a b (stF a b x) = true := by
  rw [bl_iff] at h ⊢
  have t := tb_iff.1 h.1
  exact ⟨h.1, tn_ln (by omega) h.2.1, tn_ln (by omega) h.2.2⟩
theorem it_ok {a b : Int} {x : Bal} (h : blB a b x = true) : ∀ k, blB a b (itB a b x k) = true
  | 0 => h
  | k + 1 => st_ok (it_ok h k)
/-- Small numbers. -/
structure Sm (a b : Int) (x : Bal) : Prop where
  a1 : 1 ≤ a
  a2 : a ≤ 50
  b1 : 1 ≤ b
  b2 : b ≤ 50
  x0 : 0 ≤ x.1
  x1 : x.1 ≤ a
  y0 : 0 ≤ x.2.1
  y1 : x.2.1 ≤ b
  dx : x.2.2.1 = 1 ∨ x.2.2.1 = -1
  dy : x.2.2.2 = 1 ∨ x.2.2.2 = -1
theorem sm_of {a b : Int} {x : Bal} (h : blB a b x = true) : Sm a b x := by
  rw [bl_iff] at h
  have t := tb_iff.1 h.1; have p := ln_iff.1 h.2.1; have q := ln_iff.1 h.2.2
  exact ⟨by omega, by omega, by omega, by omega, by omega, by omega, by omega, by omega, by omega, by omega⟩
theorem sizeB (x : Bal) : (Try.prog.info? 24).map (·.size) = some (V (be x)).toArray.size := by
  have : (Try.prog.info? 24).map (·.size) = some 4 := by kernel_rfl
  rw [this]; simp [V, be]
theorem bvV (x : Bal) : bv x = .agg (V (be x)).toArray := rfl
theorem tab_spec (a b : Int) (w : World) : Calls Try.prog 37 #[.int .i64 a, .int .i64 b] w fun e w' => e = .returned (.bool (tbB a b)) ∧ w = w' := by
  by_cases h1 : 1 ≤ a ∧ a ≤ 50
  · by_cases h2 : 1 ≤ b ∧ b ≤ 50
    · have HB := Lib.hid (show tbB a b = true from tb_iff.2 ⟨h1, h2⟩)
      go_enter Try.func37, Try.ntmps37
      go_wp2_with (go_at_call 40; refine (permOk.in_yes _ _ _ _ (by omega) (by omega)).mono ?_; rintro e w' ⟨rfl, rfl⟩)
      go_ret
      exact ⟨ret_bool HB.out.symm, rfl⟩
    · have HB : Hid (tbB a b = false) := Lib.hid (by simp [tbB, h2])
      go_enter Try.func37, Try.ntmps37
      go_wp2_with fail
      refine (permOk.in_yes _ _ _ _ (by omega) (by omega)).mono ?_
      rintro e w' ⟨rfl, rfl⟩
      go_wp2_with fail
      refine (permOk.in_no _ _ _ _ (by omega)).mono ?_
      rintro e w' ⟨rfl, rfl⟩
      go_wp2_with fail
      go_ret
      exact ⟨ret_bool HB.out.symm, rfl⟩
  · have HB : Hid (tbB a b = false) := Lib.hid (by simp [tbB, h1])
    go_enter Try.func37, Try.ntmps37
    go_wp2_with (go_at_call 40; refine (permOk.in_no _ _ _ _ (by omega)).mono ?_; rintro e w' ⟨rfl, rfl⟩)
    go_ret
    exact ⟨ret_bool HB.out.symm, rfl⟩
theorem line_spec (a x d : Int) (w : World) : Calls Try.prog 38 #[.int .i64 a, .int .i64 x, .int .i64 d] w fun e w' => e = .returned (.bool (lnB a x d)) ∧ w = w' := by
  by_cases h1 : 0 ≤ x ∧ x ≤ a
  · by_cases hd : d = 1
    · subst hd
      by_cases hx : x < a
      · have HB := Lib.hid (show lnB a x 1 = true from ln_iff.2 ⟨h1, .inl ⟨rfl, hx⟩⟩)
        go_enter Try.func38, Try.ntmps38
        go_wp2_with (go_at_call 40; refine (permOk.in_yes _ _ _ _ (by omega) (by omega)).mono ?_; rintro e w' ⟨rfl, rfl⟩)
        go_ret
        exact ⟨ret_bool (by rw [HB.out] <;> simp [*]), rfl⟩
      · have HB : Hid (lnB a x 1 = false) := Lib.hid (by simp [lnB, hx])
        have hx' : decide (x < a) = false := by simp; omega
        go_enter Try.func38, Try.ntmps38
        go_wp2_with (go_at_call 40; refine (permOk.in_yes _ _ _ _ (by omega) (by omega)).mono ?_; rintro e w' ⟨rfl, rfl⟩)
        go_ret
        exact ⟨ret_bool (by rw [HB.out] <;> simp [*]), rfl⟩
    · have hd' : (d == 1) = false := by simp [hd]
      by_cases hm : d = -1
      · subst hm
        by_cases hx : 0 < x
        · have HB := Lib.hid (show lnB a x (-1) = true from ln_iff.2 ⟨h1, .inr ⟨rfl, hx⟩⟩)
          go_enter Try.func38, Try.ntmps38
          go_wp2_with (go_at_call 40; refine (permOk.in_yes _ _ _ _ (by omega) (by omega)).mono ?_; rintro e w' ⟨rfl, rfl⟩)
          go_ret
          exact ⟨ret_bool (by rw [HB.out] <;> simp [*]), rfl⟩
        · have HB : Hid (lnB a x (-1) = false) := Lib.hid (by simp [lnB, hx])
          go_enter Try.func38, Try.ntmps38
          go_wp2_with (go_at_call 40; refine (permOk.in_yes _ _ _ _ (by omega) (by omega)).mono ?_; rintro e w' ⟨rfl, rfl⟩)
          go_ret
          exact ⟨ret_bool (by rw [HB.out] <;> simp [*]), rfl⟩
      · have hm' : (d == -1) = false := by simp [hm]
        have HB : Hid (lnB a x d = false) := Lib.hid (by simp [lnB, hd, hm])
        go_enter Try.func38, Try.ntmps38
        go_wp2_with (go_at_call 40; refine (permOk.in_yes _ _ _ _ (by omega) (by omega)).mono ?_; rintro e w' ⟨rfl, rfl⟩)
        go_ret
        exact ⟨ret_bool (by rw [HB.out] <;> simp [*]), rfl⟩
  · have HB : Hid (lnB a x d = false) := Lib.hid (by simp [lnB, h1])
    go_enter Try.func38, Try.ntmps38
    go_wp2_with (go_at_call 40; refine (permOk.in_no _ _ _ _ (by omega)).mono ?_; rintro e w' ⟨rfl, rfl⟩)
    go_ret
    exact ⟨ret_bool HB.out.symm, rfl⟩
theorem turn_spec (a x d : Int) (w : World) : Calls Try.prog 43 #[.int .i64 a, .int .i64 x, .int .i64 d] w fun e w' => e = .returned (.int .i64 (tnF a x d)) ∧ w = w' := by
  by_cases h1 : x = a
  · subst h1
    have HB : Hid (tnF x x d = -1) := Lib.hid (by simp [tnF])
    go_enter Try.func43, Try.ntmps43
    go_wp2
    go_ret
    exact ⟨by rw [HB.out]; rfl, rfl⟩
  · have h1' : (x == a) = false := by simp [h1]
    by_cases h2 : x = 0
    · subst h2
      have HB : Hid (tnF a 0 d = 1) := Lib.hid (by simp [tnF, h1])
      go_enter Try.func43, Try.ntmps43
      go_wp2
      go_ret
      exact ⟨by rw [HB.out]; rfl, rfl⟩
    · have h2' : (x == 0) = false := by simp [h2]
      have HB : Hid (tnF a x d = d) := Lib.hid (by simp [tnF, h1, h2])
      go_enter Try.func43, Try.ntmps43
      go_wp2
      go_ret
      exact ⟨by rw [HB.out]; rfl, rfl⟩
set_option maxHeartbeats 2000000 in
theorem step_spec (a b : Int) (x : Bal) (w : World) (h : Sm a b x) : Calls Try.prog 39 #[.int .i64 a, .int .i64 b, bv x] w fun e w' => e = .returned (bv (stF a b x)) ∧ Below w.heap.size w w' := by
  obtain ⟨x1, y1, p, q⟩ := x
  have hx0 := h.x0; have hx1 := h.x1; have hy0 := h.y0; have hy1 := h.y1; have hp := h.dx; have hq := h.dy; have ha := h.a2; have hb := h.b2
  simp only at hx0 hx1 hy0 hy1 hp hq
  have e1 : IntKind.i64.wrap (x1 + p) = x1 + p := IntWalk.i64_in _ (by omega)
  have e2 : IntKind.i64.wrap (y1 + q) = y1 + q := IntWalk.i64_in _ (by omega)
  clear h
  unfold bv
  go_enter Try.func39, Try.ntmps39
  go_wp2_with (go_at_call 43; refine (turn_spec _ _ _ _).mono ?_; rintro e w' ⟨rfl, rfl⟩)
  have hs : Try.f39.results = #[.cell 6 24] := rfl
  exact bodyPost_ret (v := bv (stF a b (x1, y1, p, q))) (results_cell_row rfl _ _ (w.heap.size + 1) 24 #[.int .i64 (x1 + p), .int .i64 (y1 + q), .int .i64 (tnF a (x1 + p) p), .int .i64 (tnF b (y1 + q) q)] (0, 0) _ rfl (Arr.new _ (V (be (stF a b (x1, y1, p, q)))) 24 (by simp)) Try.underlying24 rfl (sizeB (stF a b (x1, y1, p, q)))) rfl ⟨rfl, ((Below.refl _ _).alloc (Nat.le_refl _) _).alloc (by simp) _⟩
end Go.Proofs.Ytajkfkpnjbkhhaa.bal
