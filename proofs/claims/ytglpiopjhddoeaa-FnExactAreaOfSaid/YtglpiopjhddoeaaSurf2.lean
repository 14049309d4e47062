/-
  The canonical form of a surface and its symmetries: plain mathematics.
-/
import Derived.Test.YtglpiopjhddoeaaSurf
namespace Go.Proofs.Ytglpiopjhddoeaa.pm
open Go.Proofs.Ytglpiopjhddoeaa.arr Go.Proofs.Ytglpiopjhddoeaa.inv Go.Proofs.Ytglpiopjhddoeaa.permOf
set_option linter.unusedVariables false
set_option maxRecDepth 100000

abbrev Sur := List Int × List Int
/-- The surface with the names from f. -/
def Fm (R U : List Int) (n : Nat) (f : Int) : Sur := (renTo n R (nm R U f) n, renTo n U (nm R U f) n)
theorem ren_at' {n : Nat} {xs ys : List Int} (h : Ok ys) (lx : xs.length = n) (ly : ys.length = n) {k : Nat} (hk : k < n) : (renTo n xs ys n).getD (ys.getD k 0).toNat 0 = ys.getD (xs.getD k 0).toNat 0 := by
  subst lx; exact ren_at h ly.symm hk
theorem ren_list {n : Nat} {xs ys l : List Int} (h : Ok ys) (lx : xs.length = n) (ly : ys.length = n) (ll : l.length = n) (q : ∀ k, k < n → l.getD (ys.getD k 0).toNat 0 = ys.getD (xs.getD k 0).toNat 0) : renTo n xs ys n = l := by
  refine list_eq n (renTo_len _ _ _ _) ll fun i hi => ?_
  obtain ⟨k, hk, e⟩ := h.onto (y := i) (by omega)
  have a := ren_at' h lx ly (k := k) (by omega)
  have b := q k (by omega)
  rw [e, Int.toNat_natCast] at a b
  rw [a, b]
theorem Iso.F_eq {n : Nat} {R U R' U' ns : List Int} (h : Iso n R U R' U' ns) (s' : Sf n R' U') {f : Int} (f0 : 0 ≤ f) (f1 : f < n) : Fm R' U' n (ns.getD f.toNat 0) = Fm R U n f := by
  have g := h.r.s.maps f.toNat (by omega)
  obtain ⟨nk, nl⟩ := h.s.nok f0 f1
  obtain ⟨nk', nl'⟩ := s'.nok g.1 g.2
  have key : ∀ i, i < n → (nm R' U' (ns.getD f.toNat 0)).getD (ns.getD i 0).toNat 0 = (nm R U f).getD i 0 := fun i hi => h.nm_eq s'.lr f0 f1 hi
  have one : ∀ X X' : List Int, X.length = n → X'.length = n → Maps n X → Ren n X X' ns → renTo n X (nm R U f) n = renTo n X' (nm R' U' (ns.getD f.toNat 0)) n := by
    intro X X' lx lx' mx hr
    refine ren_list nk lx nl (renTo_len _ _ _ _) fun k hk => ?_
    have m := h.r.s.maps k hk
    have a := ren_at' nk' lx' nl' (k := (ns.getD k 0).toNat) (by omega)
    rw [key k hk, hr.eq k hk, key _ (by have := mx k hk; omega)] at a
    exact a
  unfold Fm
  rw [one R R' h.s.lr s'.lr h.s.br.maps h.r, one U U' h.s.lu s'.lu h.s.bu.maps h.u]
/-- A renamed surface is valid. -/
theorem mkIso {n : Nat} {R U ns : List Int} (s : Sf n R U) (hn : Ok ns) (ln : ns.length = n) : Iso n R U (renTo n R ns n) (renTo n U ns n) ns ∧ Sf n (renTo n R ns n) (renTo n U ns n) := by
  have eR : renF R ns = renTo n R ns n := by rw [renF_of s.r hn (by rw [s.lr, ln]), s.lr]
  have eU : renF U ns = renTo n U ns n := by rw [renF_of s.u hn (by rw [s.lu, ln]), s.lu]
  have rR := ren_ren s.r hn s.lr ln; have rU := ren_ren s.u hn s.lu ln
  have oR := ren_ok s.r hn s.lr ln; have oU := ren_ok s.u hn s.lu ln
  rw [eR] at rR oR; rw [eU] at rU oU
  have iso : Iso n R U (renTo n R ns n) (renTo n U ns n) ns := ⟨s, hn, ln, rR, rU⟩
  refine ⟨iso, oR.1, oU.1, oR.2, oU.2, s.pos, ?_⟩
  obtain ⟨g, hg, e⟩ := hn.onto (y := 0) (by have := s.pos; omega)
  have := iso.reach_eq oR.2 (f := (g : Int)) (by omega) (by omega)
  rw [Int.toNat_natCast, e] at this
  have e0 : ((0 : Nat) : Int) = 0 := rfl
  rw [e0] at this
  rw [this, List.length_map, s.flen (by omega) (by omega)]

/-- The first difference decides. -/
def lessL : List Int → List Int → Bool
  | a :: s, b :: t => if a = b then lessL s t else decide (a < b)
  | _, _ => false
theorem lessL_irr (a : List Int) : lessL a a = false := by
  induction a with
  | nil => rfl
  | cons x t ih => simp [lessL, ih]
theorem lessL_total : ∀ (a b : List Int), a.length = b.length → a ≠ b → lessL a b = true ∨ lessL b a = true := by
  intro a
  induction a with
  | nil => intro b hl hne; cases b with
    | nil => exact absurd rfl hne
    | cons y t => simp at hl
  | cons x s ih =>
    intro b hl hne
    cases b with
    | nil => simp at hl
    | cons y t =>
      simp only [lessL]
      by_cases e : x = y
      · subst e
        simp only [if_true]
        exact ih t (by simpa using hl) (fun q => hne (by rw [q]))
      · rw [if_neg e, if_neg (fun q => e q.symm)]
        simp only [decide_eq_true_eq]
        omega
theorem lessL_trans : ∀ (a b c : List Int), lessL a b = true → lessL b c = true → lessL a c = true := by
  intro a
  induction a with
  | nil => intro b c h; simp [lessL] at h
  | cons x s ih =>
    intro b c h1 h2
    cases b with
    | nil => simp [lessL] at h1
    | cons y t =>
      cases c with
      | nil => simp [lessL] at h2
      | cons z u =>
        simp only [lessL] at h1 h2 ⊢
        by_cases e1 : x = y
        · subst e1
          rw [if_pos rfl] at h1
          by_cases e2 : x = z
          · subst e2; rw [if_pos rfl] at h2 ⊢; exact ih t u h1 h2
          · rw [if_neg e2] at h2 ⊢; exact h2
        · rw [if_neg e1] at h1
          simp only [decide_eq_true_eq] at h1
          by_cases e2 : y = z
          · subst e2; rw [if_neg e1]; simpa using h1
          · rw [if_neg e2] at h2
            simp only [decide_eq_true_eq] at h2
            rw [if_neg (by omega)]
            simp only [decide_eq_true_eq]
            omega
/-- First Right, then Up. -/
def bef (a b : Sur) : Bool := if a.1 = b.1 then lessL a.2 b.2 else lessL a.1 b.1
theorem bef_irr (a : Sur) : bef a a = false := by simp [bef, lessL_irr]
theorem bef_total {a b : Sur} (h1 : a.1.length = b.1.length) (h2 : a.2.length = b.2.length) (hne : a ≠ b) : bef a b = true ∨ bef b a = true := by
  unfold bef
  by_cases e : a.1 = b.1
  · rw [if_pos e, if_pos e.symm]
    exact lessL_total _ _ h2 (fun q => hne (Prod.ext e q))
  · rw [if_neg e, if_neg (fun q => e q.symm)]
    exact lessL_total _ _ h1 e
theorem bef_trans {a b c : Sur} (h1 : bef a b = true) (h2 : bef b c = true) : bef a c = true := by
  unfold bef at *
  by_cases e1 : a.1 = b.1
  · rw [if_pos e1] at h1
    by_cases e2 : b.1 = c.1
    · rw [if_pos e2] at h2; rw [if_pos (e1.trans e2)]; exact lessL_trans _ _ _ h1 h2
    · rw [if_neg e2] at h2; rw [if_neg (fun q => e2 (e1.symm.trans q)), e1]; exact h2
  · rw [if_neg e1] at h1
    by_cases e2 : b.1 = c.1
    · rw [if_neg (fun q => e1 (q.trans e2.symm)), ← e2]; exact h1
    · rw [if_neg e2] at h2
      have := lessL_trans _ _ _ h1 h2
      rw [if_neg (fun q => by rw [q, lessL_irr] at this; cases this)]
      exact this
/-- The least of the first k + 1. -/
def canTo (F : Int → Sur) : Nat → Sur
  | 0 => F 0
  | k + 1 => if bef (F ((k : Int) + 1)) (canTo F k) then F ((k : Int) + 1) else canTo F k
theorem canTo_is (F : Int → Sur) (k : Nat) : ∃ j : Nat, j ≤ k ∧ canTo F k = F (j : Int) := by
  induction k with
  | zero => exact ⟨0, Nat.le_refl _, rfl⟩
  | succ k ih =>
    obtain ⟨j, hj, e⟩ := ih
    rw [canTo]; split
    · exact ⟨k + 1, Nat.le_refl _, by simp⟩
    · exact ⟨j, by omega, e⟩
theorem canTo_min (F : Int → Sur) (k : Nat) : ∀ i : Nat, i ≤ k → bef (F (i : Int)) (canTo F k) = false := by
  induction k with
  | zero => intro i hi; obtain rfl : i = 0 := by omega
            exact bef_irr _
  | succ k ih =>
    intro i hi
    rw [canTo]; split
    · rename_i h
      by_cases e : i = k + 1
      · subst e; simp [bef_irr]
      · cases q : bef (F (i : Int)) (F ((k : Int) + 1)) with
        | false => rfl
        | true => have := bef_trans q h; rw [ih i (by omega)] at this; cases this
    · rename_i h
      by_cases e : i = k + 1
      · subst e; simpa using h
      · exact ih i (by omega)
def can (R U : List Int) (n : Nat) : Sur := canTo (Fm R U n) (n - 1)
theorem Fm_len (R U : List Int) (n : Nat) (f : Int) : (Fm R U n f).1.length = n ∧ (Fm R U n f).2.length = n := ⟨renTo_len _ _ _ _, renTo_len _ _ _ _⟩
theorem can_is {R U : List Int} {n : Nat} (h : 0 < n) : ∃ j : Nat, j < n ∧ can R U n = Fm R U n (j : Int) := by
  obtain ⟨j, hj, e⟩ := canTo_is (Fm R U n) (n - 1)
  exact ⟨j, by omega, e⟩
theorem can_min {R U : List Int} {n i : Nat} (hi : i < n) : bef (Fm R U n (i : Int)) (can R U n) = false := canTo_min _ _ i (by omega)
/-- Two minima of the same set are one. -/
theorem can_unique {R U R' U' : List Int} {n : Nat} (hn : 0 < n) (h1 : ∀ i : Nat, i < n → ∃ j : Nat, j < n ∧ Fm R U n (i : Int) = Fm R' U' n (j : Int)) (h2 : ∀ j : Nat, j < n → ∃ i : Nat, i < n ∧ Fm R' U' n (j : Int) = Fm R U n (i : Int)) : can R' U' n = can R U n := by
  obtain ⟨a, ha, ea⟩ := can_is (R := R) (U := U) hn
  obtain ⟨b, hb, eb⟩ := can_is (R := R') (U := U') hn
  obtain ⟨a', ha', ea'⟩ := h1 a ha
  obtain ⟨b', hb', eb'⟩ := h2 b hb
  have m1 := can_min (R := R') (U := U') ha'
  have m2 := can_min (R := R) (U := U) hb'
  rw [← ea', ← ea] at m1
  rw [← eb', ← eb] at m2
  by_cases e : can R' U' n = can R U n
  · exact e
  · rcases bef_total (by rw [ea, eb, (Fm_len _ _ _ _).1, (Fm_len _ _ _ _).1]) (by rw [ea, eb, (Fm_len _ _ _ _).2, (Fm_len _ _ _ _).2]) e with q | q
    · rw [m2] at q; cases q
    · rw [m1] at q; cases q
theorem Iso.can_eq {n : Nat} {R U R' U' ns : List Int} (h : Iso n R U R' U' ns) (s' : Sf n R' U') : can R' U' n = can R U n := by
  refine can_unique h.s.pos (fun i hi => ?_) (fun j hj => ?_)
  · have m := h.r.s.maps i hi
    have := h.F_eq s' (f := (i : Int)) (by omega) (by omega)
    rw [Int.toNat_natCast] at this
    exact ⟨(ns.getD i 0).toNat, by omega, by rw [Int.toNat_of_nonneg m.1, this]⟩
  · obtain ⟨i, hi, e⟩ := h.okn.onto (y := j) (by have := h.ln; omega)
    have := h.F_eq s' (f := (i : Int)) (by omega) (by have := h.ln; omega)
    rw [Int.toNat_natCast, e] at this
    exact ⟨i, by have := h.ln; omega, this⟩
/-- The canonical form is a valid surface with the same canonical form. -/
theorem Sf.can_iso {n : Nat} {R U : List Int} (s : Sf n R U) : ∃ ns, Iso n R U (can R U n).1 (can R U n).2 ns ∧ Sf n (can R U n).1 (can R U n).2 := by
  obtain ⟨j, hj, e⟩ := can_is (R := R) (U := U) s.pos
  obtain ⟨k, l⟩ := s.nok (f := (j : Int)) (by omega) (by omega)
  rw [e]
  exact ⟨_, mkIso s k l⟩
end Go.Proofs.Ytglpiopjhddoeaa.pm
