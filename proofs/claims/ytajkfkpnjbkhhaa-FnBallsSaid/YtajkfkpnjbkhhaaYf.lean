/-
  What FnBalls asks of balls: the unfolded place grows by one in each step; after the period all is as before; the sides are hit as often as the period says. Plain mathematics.
-/
import Derived.Test.YtajkfkpnjbkhhaaYc
namespace Go.Proofs.Ytajkfkpnjbkhhaa.bal
open Go.Proofs.Ytajkfkpnjbkhhaa.mem Go.Proofs.Ytajkfkpnjbkhhaa.ints Go.Proofs.Ytajkfkpnjbkhhaa.arr Go.Proofs.Ytajkfkpnjbkhhaa.pm
set_option linter.unusedVariables false
set_option maxRecDepth 100000

/-- How far the unfolded ball is. -/
def phN (a : Nat) (x d : Int) : Nat := if d = 1 then x.toNat else 2 * a - x.toNat
theorem ph1 (a : Nat) (x : Int) : phN a x 1 = x.toNat := by simp [phN]
theorem phm (a : Nat) (x : Int) : phN a x (-1) = 2 * a - x.toNat := by simp [phN]
theorem succ_mod (m : Nat) {n : Nat} (h : 0 < n) : (m + 1) % n = if m % n + 1 = n then 0 else m % n + 1 := by
  have hr := Nat.mod_lt m h
  rw [← Nat.mod_add_mod]
  split
  · rename_i e; rw [e, Nat.mod_self]
  · exact Nat.mod_eq_of_lt (by omega)
theorem ph_lt {a : Nat} {x d : Int} (h : lnB a x d = true) : phN a x d < 2 * a := by
  have := ln_iff.1 h
  unfold phN
  split <;> omega
theorem ph_step {a : Nat} {x d : Int} (h : lnB a x d = true) : phN a (x + d) (tnF a (x + d) d) = (phN a x d + 1) % (2 * a) := by
  have hl := ph_lt h
  have hc := ln_iff.1 h
  rw [succ_mod _ (by omega), Nat.mod_eq_of_lt hl]
  rcases hc.2 with ⟨rfl, h1⟩ | ⟨rfl, h1⟩
  · rw [ph1]
    unfold tnF
    by_cases e : x + 1 = (a : Int)
    · rw [if_pos e, phm]; split <;> omega
    · rw [if_neg e]
      by_cases e0 : x + 1 = 0
      · omega
      · rw [if_neg e0, ph1]; split <;> omega
  · rw [phm] at hl ⊢
    unfold tnF
    by_cases e : x + -1 = (a : Int)
    · omega
    · rw [if_neg e]
      by_cases e0 : x + -1 = 0
      · rw [if_pos e0, ph1]; split <;> omega
      · rw [if_neg e0, phm]; split <;> omega
theorem ph_inj {a : Nat} {x d x' d' : Int} (h : lnB a x d = true) (h' : lnB a x' d' = true) (e : phN a x d = phN a x' d') : x = x' ∧ d = d' := by
  have hc := ln_iff.1 h; have hc' := ln_iff.1 h'
  unfold phN at e
  rcases hc.2 with ⟨rfl, h1⟩ | ⟨rfl, h1⟩ <;> rcases hc'.2 with ⟨rfl, h2⟩ | ⟨rfl, h2⟩ <;> simp at e <;> omega
theorem ph_side {a : Nat} {x d : Int} (ha : 1 ≤ a) (h : lnB a x d = true) : (x = 0 ∨ x = a) ↔ phN a x d % a = 0 := by
  have hc := ln_iff.1 h
  obtain ⟨X, rfl⟩ := Int.eq_ofNat_of_zero_le hc.1.1
  rcases hc.2 with ⟨rfl, h1⟩ | ⟨rfl, h1⟩
  · have e : phN a (X : Int) 1 = X := by simp [phN]
    rw [e, Nat.mod_eq_of_lt (by omega)]
    omega
  · have e : phN a (X : Int) (-1) = 2 * a - X := by unfold phN; rw [if_neg (by decide)]; omega
    rw [e]
    have e2 : (2 * a - X) % a = (a - X) % a := by rw [show 2 * a - X = (a - X) + a by omega, Nat.add_mod_right]
    rw [e2, Nat.mod_eq_of_lt (by omega)]
    omega
theorem ph_phF {a : Nat} {x d : Int} (h : lnB a x d = true) (h1 : 1 ≤ a) (h50 : a ≤ 50) : phF a x d = phN a x d := by
  have hc := ln_iff.1 h
  have hb : phB a x d = true := by unfold phB; rw [decide_eq_true_eq]; omega
  unfold phF phN
  rw [if_pos hb]
  rcases hc.2 with ⟨rfl, h2⟩ | ⟨rfl, h2⟩
  · rw [if_pos rfl, if_pos rfl]; omega
  · rw [if_neg (by decide), if_neg (by decide), Int.emod_eq_of_lt (by omega) (by omega)]; omega
section
variable {a b : Nat} {x : Bal} (h : blB a b x = true)
include h
theorem ln_it (k : Nat) : lnB a (itB a b x k).1 (itB a b x k).2.2.1 = true ∧ lnB b (itB a b x k).2.1 (itB a b x k).2.2.2 = true := (bl_iff.1 (it_ok h k)).2
theorem phx_it : ∀ k, phN a (itB a b x k).1 (itB a b x k).2.2.1 = (phN a x.1 x.2.2.1 + k) % (2 * a)
  | 0 => (Nat.mod_eq_of_lt (ph_lt (bl_iff.1 h).2.1)).symm
  | k + 1 => by
    have e := ph_step (ln_it h k).1
    rw [phx_it k, Nat.mod_add_mod] at e
    exact e
theorem phy_it : ∀ k, phN b (itB a b x k).2.1 (itB a b x k).2.2.2 = (phN b x.2.1 x.2.2.2 + k) % (2 * b)
  | 0 => (Nat.mod_eq_of_lt (ph_lt (bl_iff.1 h).2.2)).symm
  | k + 1 => by
    have e := ph_step (ln_it h k).2
    rw [phy_it k, Nat.mod_add_mod] at e
    exact e
theorem tb_nat : (1 ≤ a ∧ a ≤ 50) ∧ 1 ≤ b ∧ b ≤ 50 := by have := tb_iff.1 (bl_iff.1 h).1; omega
theorem sd_cnt : ∀ j, a * sdN a b x j + (phN a x.1 x.2.2.1 + j) % a = j + phN a x.1 x.2.2.1 % a
  | 0 => by simp [sdN]
  | j + 1 => by
    have ih := sd_cnt j
    obtain ⟨⟨a1, _⟩, _⟩ := tb_nat h
    have hs := ph_side a1 (ln_it h (j + 1)).1
    rw [phx_it h (j + 1), Nat.mod_mul_left_mod] at hs
    have hm := succ_mod (phN a x.1 x.2.2.1 + j) (n := a) (by omega)
    rw [Nat.add_assoc] at hm
    have hl := Nat.mod_lt (phN a x.1 x.2.2.1 + j) (show 0 < a by omega)
    rw [sdN]
    by_cases e : (itB a b x (j + 1)).1 = 0 ∨ (itB a b x (j + 1)).1 = (a : Int)
    · rw [if_pos e]
      have h0 := hs.1 e
      rw [h0] at hm ⊢
      have hq : (phN a x.1 x.2.2.1 + j) % a + 1 = a := by split at hm <;> omega
      rw [Nat.mul_add, Nat.mul_one]
      omega
    · rw [if_neg e]
      have h0 : ¬ (phN a x.1 x.2.2.1 + (j + 1)) % a = 0 := fun q => e (hs.2 q)
      have hq : (phN a x.1 x.2.2.1 + (j + 1)) % a = (phN a x.1 x.2.2.1 + j) % a + 1 := by
        rw [hm]; rw [hm] at h0; split
        · rename_i q; rw [if_pos q] at h0; omega
        · rfl
      rw [hq, Nat.add_zero]
      omega
theorem en_cnt : ∀ j, b * enN a b x j + (phN b x.2.1 x.2.2.2 + j) % b = j + phN b x.2.1 x.2.2.2 % b
  | 0 => by simp [enN]
  | j + 1 => by
    have ih := en_cnt j
    obtain ⟨_, b1, _⟩ := tb_nat h
    have hs := ph_side b1 (ln_it h (j + 1)).2
    rw [phy_it h (j + 1), Nat.mod_mul_left_mod] at hs
    have hm := succ_mod (phN b x.2.1 x.2.2.2 + j) (n := b) (by omega)
    rw [Nat.add_assoc] at hm
    have hl := Nat.mod_lt (phN b x.2.1 x.2.2.2 + j) (show 0 < b by omega)
    rw [enN]
    by_cases e : (itB a b x (j + 1)).2.1 = 0 ∨ (itB a b x (j + 1)).2.1 = (b : Int)
    · rw [if_pos e]
      have h0 := hs.1 e
      rw [h0] at hm ⊢
      have hq : (phN b x.2.1 x.2.2.2 + j) % b + 1 = b := by split at hm <;> omega
      rw [Nat.mul_add, Nat.mul_one]
      omega
    · rw [if_neg e]
      have h0 : ¬ (phN b x.2.1 x.2.2.2 + (j + 1)) % b = 0 := fun q => e (hs.2 q)
      have hq : (phN b x.2.1 x.2.2.2 + (j + 1)) % b = (phN b x.2.1 x.2.2.2 + j) % b + 1 := by
        rw [hm]; rw [hm] at h0; split
        · rename_i q; rw [if_pos q] at h0; omega
        · rfl
      rw [hq, Nat.add_zero]
      omega
end
/-- The period is a positive number of times both 2 a and 2 b. -/
theorem pe_dvd {a b : Nat} (h : (1 ≤ a ∧ a ≤ 50) ∧ 1 ≤ b ∧ b ≤ 50) : ∃ p q : Nat, 1 ≤ p ∧ 1 ≤ q ∧ peF a b = ((2 * a * p : Nat) : Int) ∧ 2 * a * p = 2 * b * q := by
  obtain ⟨a', ha⟩ := Nat.gcd_dvd_left a b
  obtain ⟨b', hb⟩ := Nat.gcd_dvd_right a b
  have hg := (gcd_div a b (by omega)).1
  have ht : tbB a b = true := tb_iff.2 (by omega)
  have hp : peF a b = ((2 * a / Nat.gcd a b * b : Nat) : Int) := by
    unfold peF
    rw [if_pos ht, Int.toNat_natCast, Int.toNat_natCast]
    simp
  generalize Nat.gcd a b = g at *
  subst ha; subst hb
  have a1 : 1 ≤ a' := by
    rcases Nat.eq_zero_or_pos a' with rfl | q
    · simp at h
    · exact q
  have b1 : 1 ≤ b' := by
    rcases Nat.eq_zero_or_pos b' with rfl | q
    · simp at h
    · exact q
  have e : 2 * (g * a') / g = 2 * a' := by
    rw [show 2 * (g * a') = g * (2 * a') by ac_rfl]
    exact Nat.mul_div_cancel_left _ (by omega)
  rw [e] at hp
  exact ⟨b', a', b1, a1, by rw [hp, show 2 * a' * (g * b') = 2 * (g * a') * b' by ac_rfl], by ac_rfl⟩
/-- What FnBalls asks. -/
structure Bp (a b : Nat) (x : Bal) (n : Nat) : Prop where
  pos : 1 ≤ n
  le : n ≤ 5000
  is : peF a b = n
  back : itB a b x n = x
  sides : (sdN a b x n : Int) * a = n
  ends : (enN a b x n : Int) * b = n
theorem bp_ok {a b : Nat} {x : Bal} (h : blB a b x = true) : ∃ n, Bp a b x n := by
  have ht := tb_nat h
  obtain ⟨p, q, p1, q1, hp, hpq⟩ := pe_dvd ht
  have hle := (pe_bnd a b).2
  rw [hp] at hle
  obtain ⟨n, hn⟩ : ∃ n, n = 2 * a * p := ⟨_, rfl⟩
  have hx := phx_it h n; have hy := phy_it h n
  have sx := sd_cnt h n; have sy := en_cnt h n
  have lx := ph_lt (bl_iff.1 h).2.1; have ly := ph_lt (bl_iff.1 h).2.2
  have e1 : (phN a x.1 x.2.2.1 + n) % (2 * a) = phN a x.1 x.2.2.1 := by rw [hn, Nat.add_mul_mod_self_left, Nat.mod_eq_of_lt lx]
  have e2 : (phN b x.2.1 x.2.2.2 + n) % (2 * b) = phN b x.2.1 x.2.2.2 := by rw [hn, hpq, Nat.add_mul_mod_self_left, Nat.mod_eq_of_lt ly]
  have e3 : (phN a x.1 x.2.2.1 + n) % a = phN a x.1 x.2.2.1 % a := by rw [hn, show 2 * a * p = a * (2 * p) by ac_rfl, Nat.add_mul_mod_self_left]
  have e4 : (phN b x.2.1 x.2.2.2 + n) % b = phN b x.2.1 x.2.2.2 % b := by rw [hn, hpq, show 2 * b * q = b * (2 * q) by ac_rfl, Nat.add_mul_mod_self_left]
  rw [e1] at hx; rw [e2] at hy; rw [e3] at sx; rw [e4] at sy
  have ix := ph_inj (ln_it h n).1 (bl_iff.1 h).2.1 hx
  have iy := ph_inj (ln_it h n).2 (bl_iff.1 h).2.2 hy
  refine ⟨n, ?_, by rw [← hn] at hle; omega, by rw [hp, hn], ?_, ?_, ?_⟩
  · rw [hn]; exact Nat.mul_pos (by omega) p1
  · exact Prod.ext ix.1 (Prod.ext iy.1 (Prod.ext ix.2 iy.2))
  · have : a * sdN a b x n = n := by omega
    rw [← Int.natCast_mul, Nat.mul_comm, this]
  · have : b * enN a b x n = n := by omega
    rw [← Int.natCast_mul, Nat.mul_comm, this]
end Go.Proofs.Ytajkfkpnjbkhhaa.bal
