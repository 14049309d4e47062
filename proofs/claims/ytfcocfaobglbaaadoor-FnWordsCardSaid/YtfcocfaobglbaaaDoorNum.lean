/-
  Plain facts on decimal numerals: what digits spell, and that a number is read back from its text.
-/
import Derived.Lib.ItoaNum
import Derived.Lib.AtoiAll
import Derived.Lib.AtoiAllCases
namespace Go.Proofs.YtfcocfaobglbaaaDoor.num

theorem dec_big {u : Nat} (h : ¬ u < 10) : Lib.decDigits u = Lib.decDigits (u / 10) ++ [UInt8.ofNat (48 + u % 10)] := by rw [Lib.decDigits, dif_neg h]
theorem dec_small {u : Nat} (h : u < 10) : Lib.decDigits u = [UInt8.ofNat (48 + u)] := by rw [Lib.decDigits, dif_pos h]
theorem dig_nat {k : Nat} (h : k < 10) : (UInt8.ofNat (48 + k)).toNat = 48 + k := by
  rw [UInt8.toNat_ofNat']; omega

/-- What the digits spell. -/
def vl (l : List UInt8) : Nat := l.foldl (fun a c => a * 10 + (c.toNat - 48)) 0
theorem vl_snoc (l : List UInt8) (c : UInt8) : vl (l ++ [c]) = vl l * 10 + (c.toNat - 48) := by simp [vl]
theorem vl_dec (u : Nat) : vl (Lib.decDigits u) = u := by
  induction u using Nat.strongRecOn with
  | _ u ih =>
    by_cases h : u < 10
    · rw [dec_small h]
      show 0 * 10 + ((UInt8.ofNat (48 + u)).toNat - 48) = u
      rw [dig_nat h]; omega
    · rw [dec_big h, vl_snoc, ih (u / 10) (by omega), dig_nat (by omega)]; omega
theorem vl_take_le (l : List UInt8) (k : Nat) : vl (l.take k) ≤ vl l := by
  have h : ∀ (r : List UInt8) (a b : Nat), a ≤ b → a ≤ r.foldl (fun a c => a * 10 + (c.toNat - 48)) b := by
    intro r
    induction r with
    | nil => intro a b h; exact h
    | cons c r ih => intro a b h; exact ih a (b * 10 + (c.toNat - 48)) (by omega)
  conv => rhs; rw [← List.take_append_drop k l]
  unfold vl
  rw [List.foldl_append]
  exact h _ _ _ (Nat.le_refl _)
theorem dec_dig (u : Nat) : ∀ c ∈ Lib.decDigits u, 48 ≤ c.toNat ∧ c.toNat ≤ 57 := by
  induction u using Nat.strongRecOn with
  | _ u ih =>
    by_cases h : u < 10
    · rw [dec_small h]
      intro c hc
      simp only [List.mem_singleton] at hc
      subst hc
      rw [dig_nat h]; omega
    · rw [dec_big h]
      intro c hc
      rcases List.mem_append.1 hc with hc | hc
      · exact ih _ (by omega) c hc
      · simp only [List.mem_singleton] at hc
        subst hc
        rw [dig_nat (by omega)]; omega
theorem dec_ne (u : Nat) : Lib.decDigits u ≠ [] := by
  by_cases h : u < 10
  · rw [dec_small h]; simp
  · rw [dec_big h]; simp
theorem dec_len : ∀ (k u : Nat), u < 10 ^ (k + 1) → (Lib.decDigits u).length ≤ k + 1 := by
  intro k
  induction k with
  | zero => intro u h; rw [dec_small (by omega)]; simp
  | succ k ih =>
    intro u h
    by_cases h' : u < 10
    · rw [dec_small h']; simp
    · rw [dec_big h']
      have := ih (u / 10) (by rw [Nat.pow_succ] at h; omega)
      simp; omega
theorem dec_len19 {u : Nat} (h : u ≤ 9223372036854775808) : (Lib.decDigits u).length ≤ 19 :=
  dec_len 18 u (by have : (10 : Nat) ^ (18 + 1) = 10000000000000000000 := by decide
                   omega)

theorem parse_snoc (l : List UInt8) (c : UInt8) (h1 : 48 ≤ c.toNat) (h2 : c.toNat ≤ 57) : ∀ (acc v : Nat), Lib.parseUint10 acc l = .ok v → v < 1844674407370955162 → v * 10 + (c.toNat - 48) < 18446744073709551616 →
    Lib.parseUint10 acc (l ++ [c]) = .ok (v * 10 + (c.toNat - 48)) := by
  induction l with
  | nil =>
    intro acc v h h3 h4
    simp only [Lib.parseUint10] at h
    injection h with h
    subst h
    simp only [List.nil_append, Lib.parseUint10]
    rw [if_pos ⟨h1, h2⟩, if_neg (by omega), if_neg (by omega)]
  | cons d r ih =>
    intro acc v h h3 h4
    simp only [Lib.parseUint10] at h
    simp only [List.cons_append, Lib.parseUint10]
    split at h
    · rename_i hd
      rw [if_pos hd]
      split at h
      · cases h
      · rename_i hq
        rw [if_neg hq]
        split at h
        · cases h
        · rename_i hr
          rw [if_neg hr]
          exact ih _ v h h3 h4
    · cases h
theorem parse_dec (u : Nat) (hu : u ≤ 9223372036854775808) : Lib.parseUint10 0 (Lib.decDigits u) = .ok u := by
  induction u using Nat.strongRecOn with
  | _ u ih =>
    by_cases h : u < 10
    · rw [dec_small h]
      have := parse_snoc [] (UInt8.ofNat (48 + u)) (by rw [dig_nat h]; omega) (by rw [dig_nat h]; omega) 0 0 rfl (by omega) (by rw [dig_nat h]; omega)
      rw [List.nil_append] at this
      rw [this, dig_nat h]
      congr 1; omega
    · rw [dec_big h]
      rw [parse_snoc _ _ (by rw [dig_nat (by omega)]; omega) (by rw [dig_nat (by omega)]; omega) 0 (u / 10) (ih _ (by omega) (by omega)) (by omega) (by rw [dig_nat (by omega)]; omega), dig_nat (by omega)]
      congr 1; omega
theorem mag_dec (u : Nat) (hu : u ≤ 9223372036854775808) : Lib.parseMag (Lib.decDigits u) = .ok u := by
  unfold Lib.parseMag; rw [if_neg (dec_ne u), parse_dec u hu]

def InRange (m : Int) : Prop := -9223372036854775808 ≤ m ∧ m ≤ 9223372036854775807
/-- A number is read back from its text. -/
theorem atoi_itoa {m : Int} (h : InRange m) : Lib.atoiAll (Lib.itoa m) = .ok m := by
  obtain ⟨h1, h2⟩ := h
  by_cases hm : m < 0
  · have e : Lib.itoa m = 45 :: Lib.decDigits m.natAbs := by unfold Lib.itoa; rw [if_pos hm]
    rw [e, Lib.atoiAll_minus, mag_dec _ (by omega)]
    simp only [Lib.signed]
    rw [if_neg (by omega)]
    congr 1; omega
  · have e : Lib.itoa m = Lib.decDigits m.toNat := by unfold Lib.itoa; rw [if_neg hm]
    rw [e]
    obtain ⟨c, r, hc⟩ := List.exists_cons_of_ne_nil (dec_ne m.toNat)
    have hd := dec_dig m.toNat c (by rw [hc]; simp)
    have hp := mag_dec m.toNat (by omega)
    rw [hc] at hp ⊢
    rw [Lib.atoiAll_plain c r (by omega) (by omega), hp]
    simp only [Lib.signless]
    rw [if_neg (by omega)]
    congr 1; omega

/-- m is the int whose text is l. -/
def Num (l : List UInt8) (m : Int) : Prop := InRange m ∧ Lib.itoa m = l
theorem Num.uniq {l : List UInt8} {m n : Int} (h : Num l m) (k : Num l n) : m = n := by
  have h1 := atoi_itoa h.1
  have h2 := atoi_itoa k.1
  rw [h.2] at h1; rw [k.2, h1] at h2
  injection h2

/-- What stands behind the sign, and whether there is one. -/
theorem Num.pos {l : List UInt8} {m : Int} (h : Num l m) (hl : l.head? ≠ some 45) : 0 ≤ m ∧ l = Lib.decDigits m.toNat := by
  obtain ⟨_, rfl⟩ := h
  by_cases hm : m < 0
  · have e : Lib.itoa m = 45 :: Lib.decDigits m.natAbs := by unfold Lib.itoa; rw [if_pos hm]
    rw [e] at hl
    simp at hl
  · exact ⟨by omega, by unfold Lib.itoa; rw [if_neg hm]⟩
theorem Num.neg {r : List UInt8} {m : Int} (h : Num (45 :: r) m) : m < 0 ∧ r = Lib.decDigits m.natAbs := by
  obtain ⟨_, h⟩ := h
  by_cases hm : m < 0
  · have e : Lib.itoa m = 45 :: Lib.decDigits m.natAbs := by unfold Lib.itoa; rw [if_pos hm]
    rw [e] at h
    injection h with _ h
    exact ⟨hm, h.symm⟩
  · have e : Lib.itoa m = Lib.decDigits m.toNat := by unfold Lib.itoa; rw [if_neg hm]
    rw [e] at h
    have := dec_dig m.toNat 45 (by rw [h]; simp)
    have e2 : (45 : UInt8).toNat = 45 := rfl
    omega

end Go.Proofs.YtfcocfaobglbaaaDoor.num
