import Derived.Test.YtgcnemkhppkkcaaU06
import Derived.Test.YtgcnemkhppkkcaaU04
import Derived.RegionTactic
import Derived.BigRegion
import Derived.Deep.RegionHeld3
import Derived.Laws.OwnMore
namespace Go.Proofs.Ytgcnemkhppkkcaa.pm
open arr inv permOf
set_option linter.unusedVariables false
set_option maxRecDepth 100000
abbrev Sur := List Int × List Int
def Fm (R U : List Int) (n : Nat) (f : Int) : Sur := (renTo n R (nm R U f) n, renTo n U (nm R U f) n)
theorem ren_at' {n : Nat} {xs ys : List Int} (h : Ok ys) (lx : xs.length = n) (ly : ys.length = n) {k : Nat} (hk : k < n) : (renTo n xs ys n).getD (ys.getD k 0).toNat 0 = ys.getD (xs.getD k 0).toNat 0 := by
  subst lx; exact ren_at h ly.symm hk
theorem ren_list {n : Nat} {xs ys l : List Int} (h : Ok ys) (lx : xs.length = n) (ly : ys.length = n) (ll : l.length = n) (q : ∀ k, k < n → l.getD (ys.getD k 0).toNat 0 = ys.getD (xs.getD k 0).toNat 0) : renTo n xs ys n = l := by
  refine list_eq n (renTo_len _ _ _ _) ll fun i hi => ?_
  obtain ⟨k, hk, e⟩ := h.onto (y := i) (by omega)
  have a := ren_at' h lx ly (k := k) (by omega)
  have b := q k (by omega)
  rw [e, Int.toNat_natCast] at a b
  rw [a, b]
theorem Iso.F_eq {n : Nat} {R U R' U' ns : List Int} (h : Iso n R U R' U' ns) (s' : Sf n R' U') {f : Int} (f0 : 0 ≤ f) (f1 : f < n) : Fm R' U' n (ns.getD f.toNat 0) = Fm R U n f := by
  have g := h.r.s.maps f.toNat (by omega)
  obtain ⟨nk, nl⟩ := h.s.nok f0 f1
  obtain ⟨nk', nl'⟩ := s'.nok g.1 g.2
  have key : ∀ i, i < n → (nm R' U' (ns.getD f.toNat 0)).getD (ns.getD i 0).toNat 0 = (nm R U f).getD i 0 := fun i hi => h.nm_eq s'.lr f0 f1 hi
  have one : ∀ X X' : List Int, X.length = n → X'.length = n → Maps n X → Ren n X X' ns → renTo n X (nm R U f) n = renTo n X' (nm R' U' (ns.getD f.toNat 0)) n := by
    intro X X' lx lx' mx hr
    refine ren_list nk lx nl (renTo_len _ _ _ _) fun k hk => ?_
    have m := h.r.s.maps k hk
    have a := ren_at' nk' lx' nl' (k := (ns.getD k 0).toNat) (by omega)
    rw [key k hk, hr.eq k hk, key _ (by have := mx k hk; omega)] at a
    exact a
  unfold Fm
  rw [one R R' h.s.lr s'.lr h.s.br.maps h.r, one U U' h.s.lu s'.lu h.s.bu.maps h.u]
theorem mkIso {n : Nat} {R U ns : List Int} (s : Sf n R U) (hn : Ok ns) (ln : ns.length = n) : Iso n R U (renTo n R ns n) (renTo n U ns n) ns ∧ Sf n (renTo n R ns n) (renTo n U ns n) := by
  have eR : renF R ns = renTo n R ns n := by rw [renF_of s.r hn (by rw [s.lr, ln]), s.lr]
  have eU : renF U ns = renTo n U ns n := by rw [renF_of s.u hn (by rw [s.lu, ln]), s.lu]
  have rR := ren_ren s.r hn s.lr ln; have rU := ren_ren s.u hn s.lu ln
  have oR := ren_ok s.r hn s.lr ln; have oU := ren_ok s.u hn s.lu ln
  rw [eR] at rR oR; rw [eU] at rU oU
  have iso : Iso n R U (renTo n R ns n) (renTo n U ns n) ns := ⟨s, hn, ln, rR, rU⟩
  refine ⟨iso, oR.1, oU.1, oR.2, oU.2, s.pos, ?_⟩
  obtain ⟨g, hg, e⟩ := hn.onto (y := 0) (by have := s.pos; omega)
  have := iso.reach_eq oR.2 (f := (g : Int)) (by omega) (by omega)
  rw [Int.toNat_natCast, e] at this
  have e0 : ((0 : Nat) : Int) = 0 := rfl
  rw [e0] at this
  rw [this, List.length_map, s.flen (by omega) (by omega)]
def lessL : List Int → List Int → Bool
  | a :: s, b :: t => if a = b then lessL s t else decide (a < b)
  | _, _ => false
theorem lessL_irr (a : List Int) : lessL a a = false := by
  induction a with
  | nil => rfl
  | cons x t ih => simp [lessL, ih]
theorem lessL_total : ∀ (a b : List Int), a.length = b.length → a ≠ b → lessL a b = true ∨ lessL b a = true := by
  intro a
  induction a with
  | nil => intro b hl hne; cases b with
    | nil => exact absurd rfl hne
    | cons y t => simp at hl
  | cons x s ih =>
    intro b hl hne
    cases b with
    | nil => simp at hl
    | cons y t =>
      simp only [lessL]
      by_cases e : x = y
      · subst e
        simp only [if_true]
        exact ih t (by simpa using hl) (fun q => hne (by rw [q]))
      · rw [if_neg e, if_neg (fun q => e q.symm)]
        simp only [decide_eq_true_eq]
        omega
theorem lessL_trans : ∀ (a b c : List Int), lessL a b = true → lessL b c = true → lessL a c = true := by
  intro a
  induction a with
  | nil => intro b c h; simp [lessL] at h
  | cons x s ih =>
    intro b c h1 h2
    cases b with
    | nil => simp [lessL] at h1
    | cons y t =>
      cases c with
      | nil => simp [lessL] at h2
      | cons z u =>
        simp only [lessL] at h1 h2 ⊢
        by_cases e1 : x = y
        · subst e1
          rw [if_pos rfl] at h1
          by_cases e2 : x = z
          · subst e2; rw [if_pos rfl] at h2 ⊢; exact ih t u h1 h2
          · rw [if_neg e2] at h2 ⊢; exact h2
        · rw [if_neg e1] at h1
          simp only [decide_eq_true_eq] at h1
          by_cases e2 : y = z
          · subst e2; rw [if_neg e1]; simpa using h1
          · rw [if_neg e2] at h2
            simp only [decide_eq_true_eq] at h2
            rw [if_neg (by omega)]
            simp only [decide_eq_true_eq]
            omega
def bef (a b : Sur) : Bool := if a.1 = b.1 then lessL a.2 b.2 else lessL a.1 b.1
theorem bef_irr (a : Sur) : bef a a = false := by simp [bef, lessL_irr]
theorem bef_total {a b : Sur} (h1 : a.1.length = b.1.length) (h2 : a.2.length = b.2.length) (hne : a ≠ b) : bef a b = true ∨ bef b a = true := by
  unfold bef
  by_cases e : a.1 = b.1
  · rw [if_pos e, if_pos e.symm]
    exact lessL_total _ _ h2 (fun q => hne (Prod.ext e q))
  · rw [if_neg e, if_neg (fun q => e q.symm)]
    exact lessL_total _ _ h1 e
theorem bef_trans {a b c : Sur} (h1 : bef a b = true) (h2 : bef b c = true) : bef a c = true := by
  unfold bef at *
  by_cases e1 : a.1 = b.1
  · rw [if_pos e1] at h1
    by_cases e2 : b.1 = c.1
    · rw [if_pos e2] at h2; rw [if_pos (e1.trans e2)]; exact lessL_trans _ _ _ h1 h2
    · rw [if_neg e2] at h2; rw [if_neg (fun q => e2 (e1.symm.trans q)), e1]; exact h2
  · rw [if_neg e1] at h1
    by_cases e2 : b.1 = c.1
    · rw [if_neg (fun q => e1 (q.trans e2.symm)), ← e2]; exact h1
    · rw [if_neg e2] at h2
      have := lessL_trans _ _ _ h1 h2
      rw [if_neg (fun q => by rw [q, lessL_irr] at this; cases this)]
      exact this
def canTo (F : Int → Sur) : Nat → Sur
  | 0 => F 0
  | k + 1 => if bef (F ((k : Int) + 1)) (canTo F k) then F ((k : Int) + 1) else canTo F k
theorem canTo_is (F : Int → Sur) (k : Nat) : ∃ j : Nat, j ≤ k ∧ canTo F k = F (j : Int) := by
  induction k with
  | zero => exact ⟨0, Nat.le_refl _, rfl⟩
  | succ k ih =>
    obtain ⟨j, hj, e⟩ := ih
    rw [canTo]; split
    · exact ⟨k + 1, Nat.le_refl _, by simp⟩
    · exact ⟨j, by omega, e⟩
theorem canTo_min (F : Int → Sur) (k : Nat) : ∀ i : Nat, i ≤ k → bef (F (i : Int)) (canTo F k) = false := by
  induction k with
  | zero => intro i hi; obtain rfl : i = 0 := by omega
            exact bef_irr _
  | succ k ih =>
    intro i hi
    rw [canTo]; split
    · rename_i h
      by_cases e : i = k + 1
      · subst e; simp [bef_irr]
      · cases q : bef (F (i : Int)) (F ((k : Int) + 1)) with
        | false => rfl
        | true => have := bef_trans q h; rw [ih i (by omega)] at this; cases this
    · rename_i h
      by_cases e : i = k + 1
      · subst e; simpa using h
      · exact ih i (by omega)
def can (R U : List Int) (n : Nat) : Sur := canTo (Fm R U n) (n - 1)
theorem Fm_len (R U : List Int) (n : Nat) (f : Int) : (Fm R U n f).1.length = n ∧ (Fm R U n f).2.length = n := ⟨renTo_len _ _ _ _, renTo_len _ _ _ _⟩
theorem can_is {R U : List Int} {n : Nat} (h : 0 < n) : ∃ j : Nat, j < n ∧ can R U n = Fm R U n (j : Int) := by
  obtain ⟨j, hj, e⟩ := canTo_is (Fm R U n) (n - 1)
  exact ⟨j, by omega, e⟩
theorem can_min {R U : List Int} {n i : Nat} (hi : i < n) : bef (Fm R U n (i : Int)) (can R U n) = false := canTo_min _ _ i (by omega)
theorem can_unique {R U R' U' : List Int} {n : Nat} (hn : 0 < n) (h1 : ∀ i : Nat, i < n → ∃ j : Nat, j < n ∧ Fm R U n (i : Int) = Fm R' U' n (j : Int)) (h2 : ∀ j : Nat, j < n → ∃ i : Nat, i < n ∧ Fm R' U' n (j : Int) = Fm R U n (i : Int)) : can R' U' n = can R U n := by
  obtain ⟨a, ha, ea⟩ := can_is (R := R) (U := U) hn
  obtain ⟨b, hb, eb⟩ := can_is (R := R') (U := U') hn
  obtain ⟨a', ha', ea'⟩ := h1 a ha
  obtain ⟨b', hb', eb'⟩ := h2 b hb
  have m1 := can_min (R := R') (U := U') ha'
  have m2 := can_min (R := R) (U := U) hb'
  rw [← ea', ← ea] at m1
  rw [← eb', ← eb] at m2
  by_cases e : can R' U' n = can R U n
  · exact e
  · rcases bef_total (by rw [ea, eb, (Fm_len _ _ _ _).1, (Fm_len _ _ _ _).1]) (by rw [ea, eb, (Fm_len _ _ _ _).2, (Fm_len _ _ _ _).2]) e with q | q
    · rw [m2] at q; cases q
    · rw [m1] at q; cases q
theorem Iso.can_eq {n : Nat} {R U R' U' ns : List Int} (h : Iso n R U R' U' ns) (s' : Sf n R' U') : can R' U' n = can R U n := by
  refine can_unique h.s.pos (fun i hi => ?_) (fun j hj => ?_)
  · have m := h.r.s.maps i hi
    have := h.F_eq s' (f := (i : Int)) (by omega) (by omega)
    rw [Int.toNat_natCast] at this
    exact ⟨(ns.getD i 0).toNat, by omega, by rw [Int.toNat_of_nonneg m.1, this]⟩
  · obtain ⟨i, hi, e⟩ := h.okn.onto (y := j) (by have := h.ln; omega)
    have := h.F_eq s' (f := (i : Int)) (by omega) (by have := h.ln; omega)
    rw [Int.toNat_natCast, e] at this
    exact ⟨i, by have := h.ln; omega, this⟩
theorem Sf.can_iso {n : Nat} {R U : List Int} (s : Sf n R U) : ∃ ns, Iso n R U (can R U n).1 (can R U n).2 ns ∧ Sf n (can R U n).1 (can R U n).2 := by
  obtain ⟨j, hj, e⟩ := can_is (R := R) (U := U) s.pos
  obtain ⟨k, l⟩ := s.nok (f := (j : Int)) (by omega) (by omega)
  rw [e]
  exact ⟨_, mkIso s k l⟩
end Go.Proofs.Ytgcnemkhppkkcaa.pm

namespace Go.Proofs.Ytgcnemkhppkkcaa.pm
open arr inv permOf
set_option linter.unusedVariables false
set_option maxRecDepth 100000
section
variable {n : Nat} {R U : List Int} (s : Sf n R U) {f g h : Int} (f0 : 0 ≤ f) (f1 : f < n) (h0 : 0 ≤ h) (h1 : h < n)
include s f0 f1 h0 h1
end
def sym (R U : List Int) (n : Nat) : Nat := (rng n).countP fun h => decide (Fm R U n h = can R U n)
end Go.Proofs.Ytgcnemkhppkkcaa.pm

namespace Go.Proofs.Ytgcnemkhppkkcaa.pm
open arr inv permOf
set_option linter.unusedVariables false
set_option maxRecDepth 100000
theorem Inv_Inv {q : List Int} (h : Ok q) : Inv (Inv q) = q := by
  refine list_eq q.length (by rw [Inv_len, Inv_len]) rfl fun i hi => ?_
  have hk := Inv_ok h
  have m := h.maps i hi
  have a := Inv_at hk (k := (q.getD i 0).toNat) (by rw [Inv_len]; omega)
  rw [Inv_at h hi, Int.toNat_natCast] at a
  rw [a]
  omega
theorem Inv_right {q : List Int} (h : Ok q) {x : Int} (x0 : 0 ≤ x) (x1 : x < q.length) : q.getD ((Inv q).getD x.toNat 0).toNat 0 = x := by
  obtain ⟨k, hk, e1, e2⟩ := at_Inv h (i := x.toNat) (by omega)
  rw [e1, Int.toNat_natCast, e2]
  omega
theorem Inv_left {q : List Int} (h : Ok q) {x : Int} (x0 : 0 ≤ x) (x1 : x < q.length) : (Inv q).getD (q.getD x.toNat 0).toNat 0 = x := by
  rw [Inv_at h (k := x.toNat) (by omega)]; omega
theorem thn_assoc {p q r : List Int} (hp : Ok p) (lq : p.length = q.length) : thn (thn p q) r = thn p (thn q r) := by
  refine list_eq p.length (by rw [thn_len, thn_len]) (by rw [thn_len]) fun i hi => ?_
  have m := hp.maps i hi
  rw [thn_at (by rw [thn_len]; exact hi), thn_at (ys := q) hi, thn_at (ys := thn q r) hi, thn_at (by omega)]
theorem thn_id {n : Nat} {p : List Int} (hp : Ok p) (l : p.length = n) : thn p (rng n) = p := by
  refine list_eq p.length (by rw [thn_len]) rfl fun i hi => ?_
  have m := hp.maps i hi
  rw [thn_at hi, rng_at (by omega)]
  omega
theorem id_thn {n : Nat} {p : List Int} (l : p.length = n) : thn (rng n) p = p :=
  list_eq n (by rw [thn_len, rng_len]) l fun i hi => by rw [thn_at (by rw [rng_len]; exact hi), rng_at hi, Int.toNat_natCast]
theorem thn_Inv {n : Nat} {q : List Int} (hq : Ok q) (lq : q.length = n) : thn q (Inv q) = rng n :=
  list_eq n (by rw [thn_len]; exact lq) (rng_len n) fun i hi => by rw [thn_at (by omega), Inv_at hq (by omega), rng_at hi]
theorem Inv_thn_self {n : Nat} {q : List Int} (hq : Ok q) (lq : q.length = n) : thn (Inv q) q = rng n := by
  have := thn_Inv (Inv_ok hq) (n := n) (by rw [Inv_len]; exact lq)
  rw [Inv_Inv hq] at this
  exact this
theorem Sf.of_closed {n : Nat} {R U R' U' : List Int} (s : Sf n R U) (r' : Ok R') (u' : Ok U') (lr' : R'.length = n) (lu' : U'.length = n)
    (hc : ∀ C : List Int, In n C → (∀ x ∈ C, R'.getD x.toNat 0 ∈ C ∧ U'.getD x.toNat 0 ∈ C) → ∀ x ∈ C, R.getD x.toNat 0 ∈ C ∧ U.getD x.toNat 0 ∈ C) : Sf n R' U' := by
  have b1 : Bij n R' := by have := r'.bij; rw [lr'] at this; exact this
  have b2 : Bij n U' := by have := u'.bij; rw [lu'] at this; exact this
  have hp := s.pos
  have hin : In n (reach R' U' 0) := rs_in b1.maps b2.maps (by omega) (by omega) _
  have hcl : ∀ x ∈ reach R' U' 0, R'.getD x.toNat 0 ∈ reach R' U' 0 ∧ U'.getD x.toNat 0 ∈ reach R' U' 0 := fun x hx => reach_closed lr' b1.maps b2.maps (by omega) (by omega) hx
  have := reach_least (ps := R) (qs := U) (f := 0) (fun x => x ∈ reach R' U' 0) (reach_start _ _ _) (hc _ hin hcl) R.length
  refine ⟨r', u', lr', lu', hp, ?_⟩
  have h1 := nodup_sub_len (rng n) (reach R' U' 0) (rng_nodup n) (fun x hx => by
    rw [mem_rng] at hx
    exact this x (s.full (f := 0) (by omega) (by omega) hx.1 hx.2))
  rw [rng_len] at h1
  have := hin.len
  omega
theorem closed_Inv {n : Nat} {q C : List Int} (hq : Ok q) (lq : q.length = n) (hC : In n C) (hc : ∀ x ∈ C, (Inv q).getD x.toNat 0 ∈ C) : ∀ x ∈ C, q.getD x.toNat 0 ∈ C := by
  intro x hx
  have x0 := hC.lo x hx; have x1 := hC.hi x hx
  have b : Bij n (Inv q) := by have := (Inv_ok hq).bij; rw [Inv_len, lq] at this; exact this
  have m := hq.maps x.toNat (by omega)
  refine closed_back b hC hc m.1 (by omega) ?_
  rw [Inv_left hq x0 (by omega)]
  exact hx
theorem closed_q {n : Nat} {q C : List Int} (hq : Ok q) (lq : q.length = n) (hC : In n C) (hc : ∀ x ∈ C, q.getD x.toNat 0 ∈ C) : ∀ x ∈ C, (Inv q).getD x.toNat 0 ∈ C := by
  have := closed_Inv (Inv_ok hq) (n := n) (by rw [Inv_len]; exact lq) hC (by rw [Inv_Inv hq]; exact hc)
  exact this
def shearS (s : Sur) : Sur := (s.1, thn (Inv s.1) s.2)
def unshearS (s : Sur) : Sur := (s.1, thn s.1 s.2)
def turnS (s : Sur) : Sur := (Inv s.2, s.1)
def unturnS (s : Sur) : Sur := (s.2, Inv s.1)
section
variable {n : Nat} {R U : List Int} (s : Sf n R U)
include s
theorem shear_sf : Sf n (shearS (R, U)).1 (shearS (R, U)).2 := by
  refine s.of_closed s.r (thn_ok (Inv_ok s.r) s.u (by rw [Inv_len, s.lr, s.lu])) s.lr (by show (thn (Inv R) U).length = n; rw [thn_len, Inv_len]; exact s.lr) fun C hC hc x hx => ?_
  have h1 : R.getD x.toNat 0 ∈ C := (hc x hx).1
  refine ⟨h1, ?_⟩
  have h2 : (thn (Inv R) U).getD (R.getD x.toNat 0).toNat 0 ∈ C := (hc _ h1).2
  have x0 := hC.lo x hx; have x1 := hC.hi x hx
  have m := s.r.maps x.toNat (by have := s.lr; omega)
  have lr := s.lr
  rw [thn_at (by rw [Inv_len]; omega), Inv_left s.r x0 (by omega)] at h2
  exact h2
theorem unshear_sf : Sf n (unshearS (R, U)).1 (unshearS (R, U)).2 := by
  refine s.of_closed s.r (thn_ok s.r s.u (by rw [s.lr, s.lu])) s.lr (by show (thn R U).length = n; rw [thn_len]; exact s.lr) fun C hC hc x hx => ?_
  refine ⟨(hc x hx).1, ?_⟩
  have lr := s.lr
  have x0 := hC.lo x hx; have x1 := hC.hi x hx
  have hi := closed_q s.r s.lr hC (fun x hx => (hc x hx).1) x hx
  have h2 := (hc _ hi).2
  have i0 := hC.lo _ hi; have i1 := hC.hi _ hi
  change (thn R U).getD _ 0 ∈ C at h2
  rw [thn_at (by omega), Inv_right s.r x0 (by omega)] at h2
  exact h2
theorem turn_sf : Sf n (turnS (R, U)).1 (turnS (R, U)).2 := by
  refine s.of_closed (Inv_ok s.u) s.r (by show (Inv U).length = n; rw [Inv_len]; exact s.lu) s.lr fun C hC hc x hx => ?_
  exact ⟨(hc x hx).2, closed_Inv s.u s.lu hC (fun x hx => (hc x hx).1) x hx⟩
theorem unturn_sf : Sf n (unturnS (R, U)).1 (unturnS (R, U)).2 := by
  refine s.of_closed s.u (Inv_ok s.r) s.lu (by show (Inv R).length = n; rw [Inv_len]; exact s.lr) fun C hC hc x hx => ?_
  exact ⟨closed_Inv s.r s.lr hC (fun x hx => (hc x hx).2) x hx, (hc x hx).1⟩
theorem unshear_shear : unshearS (shearS (R, U)) = (R, U) := by
  show (R, thn R (thn (Inv R) U)) = (R, U)
  rw [← thn_assoc s.r (by rw [Inv_len]), thn_Inv s.r s.lr, id_thn s.lu]
theorem shear_unshear : shearS (unshearS (R, U)) = (R, U) := by
  show (R, thn (Inv R) (thn R U)) = (R, U)
  rw [← thn_assoc (Inv_ok s.r) (by rw [Inv_len]), Inv_thn_self s.r s.lr, id_thn s.lu]
theorem unturn_turn : unturnS (turnS (R, U)) = (R, U) := by
  show (R, Inv (Inv U)) = (R, U)
  rw [Inv_Inv s.u]
theorem turn_unturn : turnS (unturnS (R, U)) = (R, U) := by
  show (Inv (Inv R), U) = (R, U)
  rw [Inv_Inv s.r]
end
end Go.Proofs.Ytgcnemkhppkkcaa.pm

namespace Go.Proofs.Ytgcnemkhppkkcaa.sf
open Go.ChangeShapes Go.WideShapes Go.ChangeAt Go.RowKit
open mem ints arr
set_option linter.unusedVariables false
set_option maxRecDepth 100000
structure Hld (base top : Nat) (w : World) (bs : List (Nat × List Value)) (w' : World) : Prop where
  at_ : ∀ p ∈ bs, p.1 < top ∧ w'.rangeAt p.1 0 p.2
  below : Below base w w'
  size : top ≤ w'.heap.size
theorem Hld.start1 {w : World} {a : Nat} {xs : List Value} {t : TypeId} (h1 : Arr w a xs t) : Hld w.heap.size w.heap.size w [(a, xs)] w.drew :=
  ⟨fun p hp => by
    simp only [List.mem_cons, List.not_mem_nil, or_false] at hp
    subst hp
    exact ⟨h1.lt, fun j v hv => by rw [Nat.zero_add]; exact h1.cell hv⟩,
    ⟨rfl, rfl, rfl, Nat.le_refl _, fun _ _ => rfl⟩, Nat.le_refl _⟩
theorem Hld.start2 {w : World} {a b : Nat} {xs ys : List Value} {t t' : TypeId} (h1 : Arr w a xs t) (h2 : Arr w b ys t') : Hld w.heap.size w.heap.size w [(a, xs), (b, ys)] w.drew :=
  ⟨fun p hp => by
    simp only [List.mem_cons, List.not_mem_nil, or_false] at hp
    rcases hp with rfl | rfl
    · exact ⟨h1.lt, fun j v hv => by rw [Nat.zero_add]; exact h1.cell hv⟩
    · exact ⟨h2.lt, fun j v hv => by rw [Nat.zero_add]; exact h2.cell hv⟩,
    ⟨rfl, rfl, rfl, Nat.le_refl _, fun _ _ => rfl⟩, Nat.le_refl _⟩
theorem Hld.fst {base top a : Nat} {w W : World} {xs : List Value} {l : List (Nat × List Value)} (h : Hld base top w ((a, xs) :: l) W) : W.rangeAt a 0 xs := (h.at_ _ (List.mem_cons_self ..)).2
theorem Hld.snd {base top a : Nat} {w W : World} {xs : List Value} {p : Nat × List Value} {l : List (Nat × List Value)} (h : Hld base top w (p :: (a, xs) :: l) W) : W.rangeAt a 0 xs := (h.at_ (a, xs) (by simp)).2
theorem Hld.later {base top : Nat} {w W W' : World} {bs : List (Nat × List Value)} (h : Hld base top w bs W) (hB : Below W.heap.size W W') (hb : base ≤ top) : Hld base top w bs W' :=
  ⟨fun p hp => ⟨(h.at_ p hp).1, fun j v hv => by rw [hB.cell (p := ⟨p.1, 0 + j, none⟩) (show p.1 < _ from Nat.lt_of_lt_of_le (h.at_ p hp).1 h.size)]; exact (h.at_ p hp).2 j v hv⟩,
    h.below.trans (hB.mono (Nat.le_trans hb h.size)), Nat.le_trans h.size hB.size⟩
theorem size2 : (sqp.prog.info? 25).map (·.size) = some 2 := by kernel_rfl
end Go.Proofs.Ytgcnemkhppkkcaa.sf

namespace Go.Proofs.Ytgcnemkhppkkcaa.fns
open Go.ChangeShapes Go.WideShapes Go.ChangeAt Go.RowKit
open mem ints arr pm permOk permOf inv
set_option linter.unusedVariables false
set_option maxRecDepth 100000
theorem below_same {w w' : World} (h : w = w') : Below w.heap.size w w' := h ▸ Below.refl _ _
theorem ok_spec (A : Option Addr) (n c : Nat) (xs : List Int) (hi : Nat) (w : World) (hx : Rd w hi A n (V xs)) (hn : n ≤ 1048576) (hc : n ≤ c) :
    Calls sqp.prog 104 #[.slice A n c] w fun e w' => e = .returned (.bool (okB xs)) ∧ Below w.heap.size w w' :=
  (permOk.spec_any A n c xs hi w hx hn hc).mono fun _ _ ⟨he, hw⟩ => ⟨he, below_same hw⟩
def Gives (r : List Int) (w : World) (e : Ending) (w' : World) : Prop := ∃ v, e = .returned v ∧ w'.ownsRow w.heap.size 3 1 v r.length (V r) ∧ Below w.heap.size w w'
set_option maxHeartbeats 400000 in
theorem list_gives (qs : List Int) (n : Nat) (w : World) (hl : qs.length = 24) (hn : n ≤ 24) :
    Calls sqp.prog 67 #[.agg (V qs).toArray, .int .i64 n] w (Gives (qs.take n) w) :=
  list_any qs n w hl hn
end Go.Proofs.Ytgcnemkhppkkcaa.fns

namespace Go.Proofs.Ytgcnemkhppkkcaa.fns
open Go.ChangeShapes Go.WideShapes Go.ChangeAt Go.RowKit
open mem ints arr pm permOk permOf inv
set_option linter.unusedVariables false
set_option maxRecDepth 100000
theorem Ok.nat {xs : List Int} (h : Ok xs) {k : Nat} (hk : k < xs.length) : ∃ z : Nat, z < xs.length ∧ xs[k]? = some (z : Int) ∧ xs.getD k 0 = (z : Int) := by
  have h1 := h.lo k hk; have h2 := h.hi k hk
  have e : xs[k]? = some (xs.getD k 0) := by rw [List.getD, List.getElem?_eq_getElem hk]; rfl
  exact ⟨(xs.getD k 0).toNat, by omega, by rw [e]; congr 1; omega, by omega⟩
def Made (n : Nat) (w wr : World) (l : List Int) : Prop := wr.ownsRow w.heap.size 3 1 (.slice (some ⟨w.heap.size, 0, none⟩) n n) n (V l) ∧ Below w.heap.size w wr
end Go.Proofs.Ytgcnemkhppkkcaa.fns

namespace Go.Proofs.Ytgcnemkhppkkcaa.fns
open Go.ChangeShapes Go.WideShapes Go.ChangeAt Go.RowKit
open mem ints arr pm permOk permOf inv
set_option linter.unusedVariables false
set_option maxRecDepth 100000
structure Grows (w wr : World) (v : Value) (l : List Int) : Prop where
  own : wr.ownsRow w.heap.size 3 1 v l.length (V l)
  below : Below w.heap.size w wr
theorem Grows.empty (w : World) : Grows w (w.alloc (.cells #[] 3)) (.slice (some ⟨w.heap.size, 0, none⟩) 0 0) [] :=
  ⟨⟨rfl, .inr ⟨w.heap.size, 0, #[], rfl, Nat.le_refl _, heap_alloc_last w _, Nat.le_refl _, by simp, rfl, rfl⟩⟩, (Below.refl _ _).alloc (Nat.le_refl _) _⟩
theorem Grows.one (w : World) (z : Int) : Grows w (w.alloc (.cells #[.int .i64 z] 3)) (.slice (some ⟨w.heap.size, 0, none⟩) 1 1) [z] :=
  ⟨⟨rfl, .inr ⟨w.heap.size, 1, #[.int .i64 z], rfl, Nat.le_refl _, heap_alloc_last w _, Nat.le_refl _, by unfold maxLen; omega, rfl, rfl⟩⟩, (Below.refl _ _).alloc (Nat.le_refl _) _⟩
theorem Grows.next {w wr w' : World} {v v' : Value} {l : List Int} {z : Int} {n : Nat} (h : Grows w wr v l) (ho : w'.ownsRow w.heap.size 3 1 v' (n + 1) (V l ++ [.int .i64 z])) (hn : n = l.length) (hg : wr.grownBy w' v.ownBlock) : Grows w w' v' (l ++ [z]) := by
  subst hn
  refine ⟨?_, h.below.trans (own_below h.own hg (Nat.le_refl _) h.below.size)⟩
  have e : V (l ++ [z]) = V l ++ [.int .i64 z] := by simp [V]
  rw [e]
  simpa using ho
theorem Grows.gives {w wr : World} {v : Value} {l : List Int} (h : Grows w wr v l) : Gives l w (.returned v) wr := ⟨v, rfl, h.own, h.below⟩
theorem thn_snoc (xs ys : List Int) {k z : Nat} (h : xs[k]? = some (z : Int)) : thn (xs.take (k + 1)) ys = thn (xs.take k) ys ++ [ys.getD z 0] := by
  rw [List.take_add_one, h]; simp [thn]
set_option maxHeartbeats 1000000 in
theorem l02then_any (A : Option Addr) (n c : Nat) (B : Option Addr) (m d : Nat) (xs ys : List Int) (h1 h2 : Nat) (w : World) (hx : Rd w h1 A n (V xs)) (hy : Rd w h2 B m (V ys)) (ok : Ok xs) (hnm : n = m) :
    Calls sqp.prog 113 #[.slice A n c, .slice B m d] w (Gives (thn xs ys) w) := by
  subst hnm
  obtain ⟨i0, hi0, hz0, hz1, hz2⟩ := info_parts infoI
  have lx : xs.length = n := by simpa [V] using hx.1
  have ly : ys.length = n := by simpa [V] using hy.1
  have hn : n ≤ 24 := by have := ok.len; omega
  have LX := Lib.hid lx; have LY := Lib.hid ly; clear lx ly
  have OK := Lib.hid ok; clear ok
  have HX := Lib.hid hx; have HY := Lib.hid hy; clear hx hy
  go_enter sqp.func113, sqp.ntmps113
  go_wp2
  go_loopw [5, 11] (fun v i wr => ∃ k : Nat, k ≤ n ∧ i = .int .i64 k ∧ Grows w wr v (thn (xs.take k) ys)) (fun _ i _ => n - (intOf i).toNat)
  case atStart => exact ⟨0, Nat.zero_le _, rfl, Grows.empty w⟩
  case round =>
    obtain ⟨k, hk, rfl, hm⟩ := hrel
    have HR := Lib.hid hm; clear hm
    by_cases hlt : k < n
    · obtain ⟨g, off, u, rfl, hgl, hxu, hcx⟩ := HX.out.at_ hlt
      obtain ⟨s, hxs, rfl⟩ := V_at hxu
      obtain ⟨z, hz, hqz, hqd⟩ := Ok.nat OK.out (k := k) (by rw [LX.out]; exact hlt)
      rw [hqz] at hxs
      obtain rfl := Option.some.inj hxs
      rw [LX.out] at hz
      obtain ⟨g', off', u', rfl, hgl', hyu, hcy⟩ := HY.out.at_ hz
      obtain ⟨t, hyt, rfl⟩ := V_at hyu
      have hgw : g < w.heap.size := Nat.lt_of_lt_of_le hgl HX.out.2.1
      have hgw' : g' < w.heap.size := Nat.lt_of_lt_of_le hgl' HY.out.2.1
      rw [← HR.out.below.cell (p := ⟨g, off + k, none⟩) hgw] at hcx
      rw [← HR.out.below.cell (p := ⟨g', off' + z, none⟩) hgw'] at hcy
      have HQ := Lib.hid hqz; have HT := Lib.hid (permOk.getD_of hyt)
      have hsz := HR.out.below.size
      have HLN : Hid ((thn (xs.take k) ys).length = k) := Lib.hid (by have := LX.out; simp [thn]; omega)
      clear hqz hqd hxs hxu hyu hyt
      go_wp2_with (at_builtin; refine wpList_append_one wr _ _ rfl _ _ 23 rfl w.heap.size 3 i0 _ 8 sqp.underlying23 hi0 hz0 hz1 hz2 rfl _ _ _ rfl HR.out.own rfl rfl ?c4 (by decide) hsz ?_)
      case c4 => rw [HLN.out]; omega
      intro v' w' ho hg
      have HN : Hid (Grows w w' v' (thn (xs.take (k + 1)) ys)) := Lib.hid (by
        rw [thn_snoc xs ys HQ.out, HT.out]
        exact HR.out.next ho rfl hg)
      clear ho hg HR hcx hcy
      go_wp2
      go_roundw
      case rel => exact ⟨k + 1, by omega, by go_num, HN.out⟩
      case measure => simp [intOf]; omega
    · obtain rfl : k = n := by omega
      go_wp2
      go_ret
      have := HR.out
      rw [List.take_of_length_le (by rw [LX.out]; exact Nat.le_refl _)] at this
      exact this.gives
set_option maxHeartbeats 1000000 in
theorem l02id_any (n : Nat) (w : World) (hn : n ≤ 24) :
    Calls sqp.prog 93 #[.int .i64 n] w (Gives ((List.range n).map (fun (i : Nat) => (i : Int))) w) := by
  obtain ⟨i0, hi0, hz0, hz1, hz2⟩ := info_parts infoI
  go_enter sqp.func93, sqp.ntmps93
  go_wp2
  go_loopw [3, 4] (fun v i wr => ∃ k : Nat, k ≤ n ∧ i = .int .i64 k ∧ Grows w wr v ((List.range k).map (fun (i : Nat) => (i : Int)))) (fun _ i _ => n - (intOf i).toNat)
  case atStart => exact ⟨0, Nat.zero_le _, rfl, Grows.empty w⟩
  case round =>
    obtain ⟨k, hk, rfl, hm⟩ := hrel
    have HR := Lib.hid hm; clear hm
    by_cases hlt : k < n
    · have hsz := HR.out.below.size
      go_wp2_with (at_builtin; refine wpList_append_one wr _ _ rfl _ _ 23 rfl w.heap.size 3 i0 _ 8 sqp.underlying23 hi0 hz0 hz1 hz2 rfl _ _ _ rfl HR.out.own rfl rfl ?c4 (by decide) hsz ?_)
      case c4 => simp; omega
      intro v' w' ho hg
      have HN : Hid (Grows w w' v' ((List.range (k + 1)).map (fun (i : Nat) => (i : Int)))) := Lib.hid (by
        rw [List.range_succ, List.map_append]
        exact HR.out.next ho (by simp) hg)
      clear ho hg HR
      go_wp2
      go_roundw
      case rel => exact ⟨k + 1, by omega, by go_num, HN.out⟩
      case measure => simp [intOf]; omega
    · obtain rfl : k = n := by omega
      go_wp2
      go_ret
      exact HR.out.gives
end Go.Proofs.Ytgcnemkhppkkcaa.fns

namespace Go.Proofs.Ytgcnemkhppkkcaa.fns
open Go.ChangeShapes Go.WideShapes Go.ChangeAt Go.RowKit
open mem ints arr pm permOk permOf inv
set_option linter.unusedVariables false
set_option maxRecDepth 100000
end Go.Proofs.Ytgcnemkhppkkcaa.fns

namespace Go.Proofs.Ytgcnemkhppkkcaa.mem
open Go.ChangeShapes Go.WideShapes Go.ChangeAt Go.RowKit
set_option linter.unusedVariables false
set_option maxRecDepth 100000
theorem one_where {P : Program} (w : World) (base : Nat) (t ty e : TypeId) (i : TypeInfo) (z : Value) (bytes : Nat) (ht : P.underlying t = some (.slice e)) (hi : P.info? e = some i) (hz : i.zero = some z)
    (hsize : i.size = 1) (hby : i.bytes = bytes) (hzs : z.cells.size = 1) (v : Value) (n : Nat) (xs : List Value) (hown : w.ownsRow base e 1 v n xs)
    (a : Addr) (u : Value) (hu : w.cell? a = some u) (ha : a.add 0 = a) (h1 : u.oneCell' = true) (hbytes : (n + 1) * bytes ≤ 140737488355328) (h63 : n + 1 ≤ maxLen) {v' : Value} {w' : World}
    (hr : (Builtin.append_ #[t, t] ty #[v, .slice (some a) 1 1]).run P w = .ok v' w') : v'.ownBlock = v.ownBlock ∨ ∃ k, v'.ownBlock = some k ∧ w.heap.size ≤ k := by
  have hc : ∀ j q, [u][j]? = some q → w.cell? (a.add j) = some q := by
    intro j q hj
    match j, hj with
    | 0, hj => simp at hj; subst hj; rw [ha]; exact hu
  have ho : ∀ q ∈ [u], q.oneCell' = true := by intro q hq; simp at hq; subst hq; exact h1
  have same : ∀ {v2 : Value} {w2 : World}, (Builtin.append_ #[t, t] ty #[v, .slice (some a) 1 1]).run P w = .ok v2 w2 → v' = v2 := by
    intro v2 w2 h2
    rw [hr] at h2
    injection h2
  rcases hown.2 with ⟨rfl, rfl⟩ | ⟨g, cap, cur, rfl, _⟩
  · have hn : w.ownsRow w.heap.size e 1 (.slice none 0 0) 0 xs := ⟨hown.1, .inl ⟨rfl, rfl⟩⟩
    obtain ⟨v2, w2, h2, own2, _, ne⟩ := run_append_own (P := P) w w.heap.size t ty e i z 1 bytes ht hi hz hsize hby hzs (by decide) _ 0 xs hn a 1 1 [u] rfl hc ho h63 hbytes (Nat.le_refl _)
    rw [same h2]
    cases hb : v2.ownBlock with
    | none => exact .inl rfl
    | some k => exact .inr ⟨k, rfl, (own2.lt k hb).1⟩
  · by_cases room : n + 1 ≤ cap
    · obtain ⟨w2, h2, _⟩ := run_append_fits (P := P) w base t ty e i 1 ht hi hsize g n cap xs hown a 1 1 [u] rfl hc ho room
      rw [same h2]
      exact .inl rfl
    · have h2 := run_append_grow (P := P) w t ty e i z ht hi hz ⟨g, 0, none⟩ n cap xs (by rw [hsize]; exact hown.1) (hown.cells rfl) a 1 1 [u] (by rw [hsize]; rfl) hc (by omega) (by unfold maxLen at h63; omega) (by rw [hby]; exact growslice_fits (by omega) hbytes)
      rw [same h2]
      exact .inr ⟨_, rfl, Nat.le_refl _⟩
theorem wpList_append_one2 {P : Program} {ops : Array Oper} {rest : List Oper} {o : Oper} {a : Act} {Q : Exit → Act → World → Prop} (W : World) (u : Value) (ty : TypeId) (hgd : o.guard = none) (s x : Operand) (t : TypeId)
    (ho : o.op = .call { callee := .builtin .append, args := #[s, x], argTypes := #[t, t] })
    (base : Nat) (e : TypeId) (i : TypeInfo) (z : Value) (bytes size : Nat) (ht : P.underlying t = some (.slice e)) (hi : P.info? e = some i) (hz : i.zero = some z)
    (hsize : i.size = size) (hone : size = 1) (hby : i.bytes = bytes) (hzs : z.cells.size = 1)
    (v : Value) (n : Nat) (xs : List Value) (hs : a.eval s = v) (hown : W.ownsRow base e 1 v n xs)
    (hx : a.eval x = .slice (some ⟨W.heap.size, 0, none⟩) 1 1) (h1 : u.oneCell' = true)
    (hbytes : (n + 1) * bytes ≤ 140737488355328) (hb0 : 0 < bytes) (hbase : base ≤ W.heap.size)
    (h : ∀ v' w', w'.ownsRow base e 1 v' (n + 1) (xs ++ [u]) → W.grownBy w' v.ownBlock → (v'.ownBlock = v.ownBlock ∨ ∃ k, v'.ownBlock = some k ∧ W.heap.size + 1 ≤ k) → wpList P ops Q rest (a.put o.dst v') w') : wpList P ops Q (o :: rest) a (W.alloc (.cells #[u] ty)) := by
  subst hone
  have h63 : n + 1 ≤ maxLen := by
    have : (n + 1) * 1 ≤ (n + 1) * bytes := Nat.mul_le_mul_left _ hb0
    unfold maxLen; omega
  have hcell : (W.alloc (.cells #[u] ty)).cell? ⟨W.heap.size, 0, none⟩ = some u := by simp
  have hc : ∀ j q, [u][j]? = some q → (W.alloc (.cells #[u] ty)).cell? ((⟨W.heap.size, 0, none⟩ : Addr).add j) = some q := by
    intro j q hj
    match j, hj with
    | 0, hj => simp at hj; subst hj; simp [Addr.add]
  have hu : ∀ q ∈ [u], q.oneCell' = true := by intro q hq; simp at hq; subst hq; exact h1
  obtain ⟨v', w', hr, own', grown', _⟩ := run_append_own (P := P) (W.alloc (.cells #[u] ty)) base t o.type e i z 1 bytes ht hi hz hsize hby hzs (by decide) v n xs (hown.alloc _) ⟨W.heap.size, 0, none⟩ 1 1 [u] rfl hc hu h63 hbytes (by simp; omega)
  have hwh := one_where (P := P) (W.alloc (.cells #[u] ty)) base t o.type e i z bytes ht hi hz hsize hby hzs v n xs (hown.alloc _) ⟨W.heap.size, 0, none⟩ u hcell (by simp [Addr.add]) h1 hbytes h63 hr
  have hgo := h v' w' own' (grown_trans (World.grownBy_alloc W _ _) grown') (by simpa using hwh)
  refine wpList_plain hgd fun K hK => ?_
  simp [Oper.wp, execOp, ho, resolve, invoke, builtin, hs, hx, hr]
  exact hK _ _ hgo
end Go.Proofs.Ytgcnemkhppkkcaa.mem

namespace Go.Proofs.Ytgcnemkhppkkcaa.fns
open Go.ChangeShapes Go.WideShapes Go.ChangeAt Go.RowKit
open mem ints arr pm permOk permOf inv
set_option linter.unusedVariables false
set_option maxRecDepth 100000
theorem Grows.drew {w wr : World} {v : Value} {l : List Int} (h : Grows w wr v l) (n : Nat) : Grows w (wr.drewN n) v l := ⟨h.own, below_drewN h.below n⟩
theorem Grows.alloc {w wr : World} {v : Value} {l : List Int} (h : Grows w wr v l) (o : Obj) : Grows w (wr.alloc o) v l := ⟨h.own.alloc _, h.below.alloc h.below.size _⟩
theorem Grows.form {w wr : World} {v : Value} {l : List Int} (h : Grows w wr v l) : ∃ A c, v = .slice A l.length c := own_form h.own
structure Mid (w wr : World) (v : Value) (l : List Int) (T : Nat) (a b : Int) : Prop where
  g : Grows w wr v l
  t : Arr wr T (V [a, b]) 3
  ne : v.ownBlock ≠ some T
  T0 : w.heap.size ≤ T
theorem Mid.next {w wr w' : World} {v v' : Value} {l : List Int} {T : Nat} {a b z : Int} {n : Nat} (h : Mid w wr v l T a b) (ho : w'.ownsRow w.heap.size 3 1 v' (n + 1) (V l ++ [.int .i64 z])) (hn : n = l.length) (hg : wr.grownBy w' v.ownBlock)
    (hb : v'.ownBlock = v.ownBlock ∨ ∃ k, v'.ownBlock = some k ∧ wr.heap.size + 1 ≤ k) : Mid w w' v' (l ++ [z]) T a b := by
  have hT := h.t.lt
  refine ⟨h.g.next ho hn hg, (hg.block T hT (fun e => h.ne e.symm)).trans h.t, ?_, h.T0⟩
  rcases hb with e | ⟨k, e, hk⟩
  · rw [e]; exact h.ne
  · rw [e]; intro e2; injection e2 with e2; omega
def mid (l : List Int) (a b : Int) : Nat → List Int
  | 0 => l
  | 1 => add1 l a
  | _ => add1 (add1 l a) b
theorem mid_step (l : List Int) (a b : Int) {j : Nat} (hj : j < 2) {x : Int} (hx : [a, b].getD j 0 = x) : mid l a b (j + 1) = add1 (mid l a b j) x := by
  match j, hj with
  | 0, _ => simp at hx; subst hx; rfl
  | 1, _ => simp at hx; subst hx; rfl
theorem mid_in {n : Nat} {l : List Int} (h : In n l) {a b : Int} (a0 : 0 ≤ a) (a1 : a < n) (b0 : 0 ≤ b) (b1 : b < n) (j : Nat) : In n (mid l a b j) := by
  match j with
  | 0 => exact h
  | 1 => exact h.add a0 a1
  | j + 2 => exact (h.add a0 a1).add b0 b1
set_option maxHeartbeats 2000000 in
theorem reach_any (A : Option Addr) (n c : Nat) (B : Option Addr) (m d : Nat) (xs ys : List Int) (f : Int) (h1 h2 : Nat) (w : World) (hx : Rd w h1 A n (V xs)) (hy : Rd w h2 B m (V ys)) (ok : Ok xs) (oky : Ok ys) (hnm : n = m) (f0 : 0 ≤ f) (f1 : f < n) :
    Calls sqp.prog 105 #[.slice A n c, .slice B m d, .int .i64 f] w (Gives (reach xs ys f) w) := by
  subst hnm
  obtain ⟨i0, hi0, hz0, hz1, hz2⟩ := info_parts infoI
  have lx : xs.length = n := by simpa [V] using hx.1
  have ly : ys.length = n := by simpa [V] using hy.1
  have hn : n ≤ 24 := by have := ok.len; omega
  have MX : Hid (Maps n xs) := Lib.hid (by have := ok.maps; rw [lx] at this; exact this)
  have MY : Hid (Maps n ys) := Lib.hid (by have := oky.maps; rw [ly] at this; exact this)
  have LX := Lib.hid lx; have LY := Lib.hid ly; clear lx ly ok oky
  have HX := Lib.hid hx; have HY := Lib.hid hy; clear hx hy
  go_enter sqp.func105, sqp.ntmps105
  go_wp2
  go_loopw [7, 8] (fun v i wr => ∃ k : Nat, k ≤ n ∧ i = .int .i64 k ∧ Grows w wr v (rs xs ys f k) ∧ k ≤ (rs xs ys f k).length) (fun _ i _ => n - (intOf i).toNat)
  case atStart => exact ⟨0, Nat.zero_le _, rfl, Grows.one w f, Nat.zero_le _⟩
  case round =>
    obtain ⟨k, hk, rfl, hm, hle⟩ := hrel
    obtain ⟨wo, rfl⟩ : ∃ wo : World, wo = wr := ⟨_, rfl⟩
    have IN := Lib.hid (rs_in MX.out MY.out f0 f1 k)
    have hln : (rs xs ys f k).length ≤ n := IN.out.len
    obtain ⟨C, cc, rfl⟩ := hm.form
    have HR := Lib.hid hm; clear hm
    by_cases hlt : k < (rs xs ys f k).length
    · obtain ⟨z, hz, hzs, hzd⟩ := IN.out.at_ hlt
      obtain ⟨g, off, u, rfl, hgl, hxu, hcx⟩ := HX.out.at_ hz
      obtain ⟨a, hxs, rfl⟩ := V_at hxu
      obtain ⟨g', off', u', rfl, hgl', hyu, hcy⟩ := HY.out.at_ hz
      obtain ⟨b, hyt, rfl⟩ := V_at hyu
      have RO := Row.of_own HR.out.own
      obtain ⟨go, oo, uo, rfl, hgo, hgo2, huo, hco, hfo⟩ := RO.at_ hlt
      rw [V_get hzs] at huo
      obtain rfl := Option.some.inj huo
      have hgw : g < w.heap.size := Nat.lt_of_lt_of_le hgl HX.out.2.1
      have hgw' : g' < w.heap.size := Nat.lt_of_lt_of_le hgl' HY.out.2.1
      rw [← HR.out.below.cell (p := ⟨g, off + z, none⟩) hgw] at hcx
      rw [← HR.out.below.cell (p := ⟨g', off' + z, none⟩) hgw'] at hcy
      have ea := permOk.getD_of hxs; have eb := permOk.getD_of hyt
      have a01 := MX.out z hz; have b01 := MY.out z hz
      rw [ea] at a01; rw [eb] at b01
      obtain ⟨a0, a1⟩ := a01; obtain ⟨b0, b1⟩ := b01
      have STEP : Hid (rs xs ys f (k + 1) = mid (rs xs ys f k) a b 2) := Lib.hid (by rw [rs_step xs ys f hlt hzd, ea, eb]; rfl)
      have LE : Hid (k + 1 ≤ (rs xs ys f (k + 1)).length) := Lib.hid (rs_le xs ys f hlt)
      have MI : Hid (∀ j, In n (mid (rs xs ys f k) a b j)) := Lib.hid (mid_in IN.out a0 a1 b0 b1)
      clear hzs hzd ea eb hxs hyt hxu hyu huo RO hfo
      go_wp2
      go_region
      go_wp2
      have hso := HR.out.below.size
      go_loopw [7, 35] (fun v i wr => ∃ j : Nat, j ≤ 2 ∧ i = .int .i64 j ∧ Mid w wr v (mid (rs xs ys f k) a b j) wo.heap.size a b) (fun _ i _ => 2 - (intOf i).toNat)
      case atStart => exact ⟨0, Nat.zero_le _, rfl, (HR.out.alloc _).drew 1, (Arr.new _ (V [a, b]) _ rfl).drew 1, by intro e; simp [Value.ownBlock] at e; omega, hso⟩
      case round =>
        obtain ⟨j, hj, rfl, hmid⟩ := hrel
        have hln2 : (mid (rs xs ys f k) a b j).length ≤ n := (MI.out j).len
        obtain ⟨C2, cc2, rfl⟩ := hmid.g.form
        have HMI := Lib.hid hmid; clear hmid
        by_cases hj2 : j < 2
        · have hcj := HMI.out.t.cell (V_getD (l := [a, b]) (k := j) (by simp; exact hj2))
          generalize hq : [a, b].getD j 0 = x at hcj
          have MS := Lib.hid (mid_step (rs xs ys f k) a b hj2 hq)
          clear hq
          have hsz := HMI.out.g.below.size
          by_cases hh : hasB (mid (rs xs ys f k) a b j) x = true
          · have HH := Lib.hid hh; have EQ : Hid (mid (rs xs ys f k) a b (j + 1) = mid (rs xs ys f k) a b j) := Lib.hid (by rw [MS.out]; unfold add1; rw [if_pos (by simpa [hasB] using hh)])
            clear hh
            go_wp2_with fail
            refine (has_any _ _ _ (mid (rs xs ys f k) a b j) _ x _ (Row.of_own HMI.out.g.own).rd (by omega)).mono ?_
            rintro e w' ⟨rfl, rfl⟩
            rw [HH.out]
            go_wp2
            go_roundw
            case rel => exact ⟨j + 1, by omega, by go_num, by rw [EQ.out]; exact HMI.out⟩
            case measure => simp [intOf]; omega
          · have hh' : hasB (mid (rs xs ys f k) a b j) x = false := by simpa using hh
            have HH := Lib.hid hh'; have EQ : Hid (mid (rs xs ys f k) a b (j + 1) = mid (rs xs ys f k) a b j ++ [x]) := Lib.hid (by rw [MS.out]; unfold add1; rw [if_neg (by simpa [hasB] using hh')])
            clear hh hh'
            go_wp2_with fail
            refine (has_any _ _ _ (mid (rs xs ys f k) a b j) _ x _ (Row.of_own HMI.out.g.own).rd (by omega)).mono ?_
            rintro e w' ⟨rfl, rfl⟩
            rw [HH.out]
            go_wp2_with (at_builtin; refine wpList_append_one2 wr _ _ rfl _ _ 23 rfl w.heap.size 3 i0 _ 8 1 sqp.underlying23 hi0 hz0 hz1 rfl hz2 rfl _ _ _ rfl HMI.out.g.own rfl rfl ?c4 (by decide) hsz ?_)
            case c4 => omega
            intro v' w' ho hg hb
            have HN : Hid (Mid w w' v' (mid (rs xs ys f k) a b (j + 1)) wo.heap.size a b) := Lib.hid (by rw [EQ.out]; exact HMI.out.next ho rfl hg hb)
            clear ho hg hb HMI hcj
            go_wp2
            go_roundw
            case rel => exact ⟨j + 1, by omega, by go_num, HN.out⟩
            case measure => simp [intOf]; omega
        · obtain rfl : j = 2 := by omega
          have HN : Hid (Grows w wr (.slice C2 (mid (rs xs ys f k) a b 2).length cc2) (rs xs ys f (k + 1))) := Lib.hid (by rw [STEP.out]; exact HMI.out.g)
          go_wp2
          go_roundw
          case rel => exact ⟨k + 1, by omega, by go_num, HN.out, LE.out⟩
          case measure => simp [intOf]; omega
    · have e : k = (rs xs ys f k).length := by omega
      have R : Hid (rs xs ys f k = reach xs ys f) := Lib.hid (reach_of LX.out hk (by omega))
      have hd : decide (k < (rs xs ys f k).length) = false := by simp; omega
      clear e
      go_wp2
      go_ret
      have := HR.out
      rw [R.out] at this ⊢
      exact this.gives
end Go.Proofs.Ytgcnemkhppkkcaa.fns

namespace Go.Proofs.Ytgcnemkhppkkcaa.fns
open Go.ChangeShapes Go.WideShapes Go.ChangeAt Go.RowKit
open mem ints arr pm permOk permOf inv
set_option linter.unusedVariables false
set_option maxRecDepth 100000
structure Cr (w wr : World) (ps qs : List Int) (v : Value) (l : List Int) : Prop where
  own : wr.ownsRow (w.heap.size + 3) 3 1 v l.length (V l)
  p : Arr wr w.heap.size (V ps) 60
  q : Arr wr (w.heap.size + 1) (V qs) 60
  met : Arr wr (w.heap.size + 2) (VB (flagsOf l)) 140
  below : Below w.heap.size w wr
theorem Cr.drew {w wr : World} {ps qs l : List Int} {v : Value} (h : Cr w wr ps qs v l) (n : Nat) : Cr w (wr.drewN n) ps qs v l := ⟨h.own, h.p, h.q, h.met, below_drewN h.below n⟩
theorem Cr.ne {w wr : World} {ps qs l : List Int} {v : Value} (h : Cr w wr ps qs v l) {k : Nat} (hk : k < w.heap.size + 3) : some k ≠ v.ownBlock := fun e => by
  have := (h.own.lt k e.symm).1; omega
theorem Cr.next {w wr w1 w' : World} {ps qs l : List Int} {v v' : Value} {z n : Nat} (h : Cr w wr ps qs v l) (hw1 : w1 = wr.setCell ⟨w.heap.size + 2, z, none⟩ (.bool true))
    (ho : w'.ownsRow (w.heap.size + 3) 3 1 v' (n + 1) (V l ++ [.int .i64 (z : Int)])) (hn : n = l.length) (hg : w1.grownBy w' v.ownBlock) (hz : ¬ (z : Int) ∈ l) : Cr w w' ps qs v' (add1 l (z : Int)) := by
  subst hn
  have e : V (add1 l (z : Int)) = V l ++ [.int .i64 (z : Int)] := by unfold add1; rw [if_neg hz]; simp [V]
  have el : (add1 l (z : Int)).length = l.length + 1 := by unfold add1; rw [if_neg hz]; simp
  have hp := h.p.lt; have hq := h.q.lt; have hm := h.met.lt
  have s1 : w1.heap.size = wr.heap.size := by rw [hw1]; simp [World.setCell]
  refine ⟨by rw [e, el]; exact ho, ?_, ?_, ?_, ?_⟩
  · exact (hg.block _ (by omega) (h.ne (by omega))).trans (by rw [hw1]; exact h.p.other (by omega) _)
  · exact (hg.block _ (by omega) (h.ne (by omega))).trans (by rw [hw1]; exact h.q.other (by omega) _)
  · refine (hg.block _ (by omega) (h.ne (by omega))).trans ?_
    have hh := h.met.set_ z (.bool true)
    rw [VB_set, flagsOf_add hz, ← hw1] at hh
    exact hh
  · refine Below.trans (b := w1) (by rw [hw1]; exact h.below.setCell (by simp) _) ?_
    exact (Below.refl _ _).grown hg (by have := h.below.size; omega) (fun k hk => by have := (h.own.lt k hk).1; omega)
theorem index_pair (a b : Int) (j : Nat) (hj : j < 2) (x : Int) (hx : [a, b].getD j 0 = x) (w : World) :
    (Instr.index 141 (.agg #[.int .i64 a, .int .i64 b]) (.int .i64 (j : Int))).run sqp.prog w = .ok (.int .i64 x) w := by
  have hs : (sizeOf 3).run sqp.prog w = .ok 1 w := by kernel_rfl
  have h2 : (V [a, b])[j]? = some (.int .i64 x) := by subst hx; exact V_getD (by simpa using hj)
  have h3 : (#[Value.int .i64 a, Value.int .i64 b] : Array Value) = (V [a, b]).toArray := rfl
  rw [h3]
  simp [Instr.index, asIntOf, run_underlying sqp.underlying141, hj, hs, part, h2]
theorem pair_in {n : Nat} {a b x : Int} {j : Nat} (hj : j < 2) (hx : [a, b].getD j 0 = x) (a0 : 0 ≤ a) (a1 : a < n) (b0 : 0 ≤ b) (b1 : b < n) : ∃ z : Nat, x = (z : Int) ∧ z < n := by
  subst hx
  match j, hj with
  | 0, _ => exact ⟨a.toNat, by simp; omega, by omega⟩
  | 1, _ => exact ⟨b.toNat, by simp; omega, by omega⟩
set_option maxHeartbeats 2000000 in
theorem count_any (ps qs : List Int) (w : World) (hp : Sq ps) (hq : Sq qs) :
    Calls sqp.prog 133 #[.agg (V ps).toArray, .agg (V qs).toArray] w fun e w' => e = .returned (.int .i64 (reach ps qs 0).length) ∧ Below w.heap.size w w' := by
  obtain ⟨i0, hi0, hz0, hz1, hz2⟩ := info_parts infoI
  have MX := Lib.hid (Sq.maps hp); have MY := Lib.hid (Sq.maps hq)
  have LX := Lib.hid hp.len; have LY := Lib.hid hq.len
  clear hp hq
  go_enter sqp.func133, sqp.ntmps133
  go_wp2
  go_loopw [6, 7] (fun v i wr => ∃ k : Nat, k ≤ 24 ∧ i = .int .i64 k ∧ Cr w wr ps qs v (rs ps qs 0 k) ∧ k ≤ (rs ps qs 0 k).length) (fun _ i _ => 24 - (intOf i).toNat)
  case atStart =>
    refine ⟨0, Nat.zero_le _, rfl, ⟨?_, ?_, ?_, ?_, ?_⟩, Nat.zero_le _⟩
    · exact ⟨rfl, .inr ⟨w.heap.size + 3, 1, #[.int .i64 0], rfl, Nat.le_refl _, Arr.new _ (V [0]) _ (by simp), Nat.le_refl _, by unfold maxLen; omega, rfl, rfl⟩⟩
    · exact (((Arr.new w (V ps) _ rfl).alloc _).alloc _).alloc _
    · exact ((Arr.new _ (V qs) _ (by simp)).alloc _).alloc _
    · exact (Arr.new _ (VB (flagsOf [0])) _ (by simp)).alloc _
    · exact ((((Below.refl _ _).alloc (Nat.le_refl _) _).alloc (by simp) _).alloc (by simp; omega) _).alloc (by simp; omega) _
  case round =>
    obtain ⟨k, hk, rfl, hm, hle⟩ := hrel
    obtain ⟨wo, rfl⟩ : ∃ wo : World, wo = wr := ⟨_, rfl⟩
    have IN := Lib.hid (rs_in MX.out MY.out (f := 0) (by omega) (by omega) k)
    have hln : (rs ps qs 0 k).length ≤ 24 := IN.out.len
    obtain ⟨C, cc, rfl⟩ := own_form hm.own
    have HR := Lib.hid hm; clear hm
    by_cases hlt : k < (rs ps qs 0 k).length
    · obtain ⟨z, hz, hzs, hzd⟩ := IN.out.at_ hlt
      have RO := Row.of_own HR.out.own
      obtain ⟨go, oo, uo, rfl, hgo, hgo2, huo, hco, hfo⟩ := RO.at_ hlt
      rw [V_get hzs] at huo
      obtain rfl := Option.some.inj huo
      have hcp := HR.out.p.cell (V_getD (l := ps) (k := z) (by rw [LX.out]; exact hz))
      have hcq := HR.out.q.cell (V_getD (l := qs) (k := z) (by rw [LY.out]; exact hz))
      have a01 := MX.out z hz; have b01 := MY.out z hz
      have STEP : Hid (rs ps qs 0 (k + 1) = mid (rs ps qs 0 k) (ps.getD z 0) (qs.getD z 0) 2) := Lib.hid (by rw [rs_step ps qs 0 hlt hzd]; rfl)
      generalize ps.getD z 0 = a at *
      generalize qs.getD z 0 = b at *
      obtain ⟨a0, a1⟩ := a01; obtain ⟨b0, b1⟩ := b01
      have LE : Hid (k + 1 ≤ (rs ps qs 0 (k + 1)).length) := Lib.hid (rs_le ps qs 0 hlt)
      have MI : Hid (∀ j, In 24 (mid (rs ps qs 0 k) a b j)) := Lib.hid (mid_in IN.out a0 a1 b0 b1)
      clear hzs hzd huo RO hfo
      go_wp2
      go_region
      go_wp2
      go_loopw [6, 30] (fun v i wr => ∃ j : Nat, j ≤ 2 ∧ i = .int .i64 j ∧ Cr w wr ps qs v (mid (rs ps qs 0 k) a b j)) (fun _ i _ => 2 - (intOf i).toNat)
      case atStart => exact ⟨0, Nat.zero_le _, rfl, HR.out.drew 1⟩
      case round =>
        obtain ⟨j, hj, rfl, hmid⟩ := hrel
        have hln2 : (mid (rs ps qs 0 k) a b j).length ≤ 24 := (MI.out j).len
        obtain ⟨C2, cc2, rfl⟩ := own_form hmid.own
        have HMI := Lib.hid hmid; clear hmid
        by_cases hj2 : j < 2
        · generalize hq : [a, b].getD j 0 = x
          have MS := Lib.hid (mid_step (rs ps qs 0 k) a b hj2 hq)
          have hix := index_pair a b j hj2 x hq
          obtain ⟨y, rfl, hy⟩ := pair_in hj2 hq a0 a1 b0 b1
          clear hq
          have hsz : w.heap.size + 3 ≤ wr.heap.size := HMI.out.met.lt
          by_cases hh : (y : Int) ∈ mid (rs ps qs 0 k) a b j
          · have hfl : wr.cell? ⟨w.heap.size + 2, y, none⟩ = some (.bool true) := flags_cell HMI.out.met hy (by simpa using hh)
            have EQ : Hid (mid (rs ps qs 0 k) a b (j + 1) = mid (rs ps qs 0 k) a b j) := Lib.hid (by rw [MS.out]; unfold add1; rw [if_pos hh])
            clear hh
            go_wp2
            go_roundw
            case rel => exact ⟨j + 1, by omega, by go_num, by rw [EQ.out]; exact HMI.out⟩
            case measure => simp [intOf]; omega
          · have hfl : wr.cell? ⟨w.heap.size + 2, y, none⟩ = some (.bool false) := flags_cell HMI.out.met hy (by simpa using hh)
            have hff := HMI.out.met.frozen y
            have HH := Lib.hid hh
            have OW : Hid ((wr.setCell ⟨w.heap.size + 2, y, none⟩ (.bool true)).ownsRow (w.heap.size + 3) 3 1 (.slice C2 (mid (rs ps qs 0 k) a b j).length cc2) (mid (rs ps qs 0 k) a b j).length (V (mid (rs ps qs 0 k) a b j))) := Lib.hid (by
              refine HMI.out.own.kept (row := some (w.heap.size + 2)) ⟨rfl, rfl, rfl, by simp [World.setCell], fun i hi hne => heap_setCell_other _ _ _ _ (fun e => hne (by rw [e]))⟩ (.inr (fun e => HMI.out.ne (k := w.heap.size + 2) (by omega) e.symm)))
            clear hh
            generalize hw1 : wr.setCell ⟨w.heap.size + 2, y, none⟩ (.bool true) = w1 at OW
            have HW1 := Lib.hid hw1
            have hsz1 : w.heap.size + 3 ≤ w1.heap.size := by rw [← hw1]; simpa [World.setCell] using hsz
            go_wp2_with (at_builtin; refine wpList_append_one w1 _ _ rfl _ _ 23 rfl (w.heap.size + 3) 3 i0 _ 8 sqp.underlying23 hi0 hz0 hz1 hz2 rfl _ _ _ rfl OW.out rfl rfl ?c4 (by decide) hsz1 ?_)
            case c4 => omega
            intro v' w' ho hg
            have HN : Hid (Cr w w' ps qs v' (mid (rs ps qs 0 k) a b (j + 1))) := Lib.hid (by rw [MS.out]; exact HMI.out.next HW1.out.symm ho rfl hg HH.out)
            clear ho hg HMI hw1 hfl hff
            go_wp2
            go_roundw
            case rel => exact ⟨j + 1, by omega, by go_num, HN.out⟩
            case measure => simp [intOf]; omega
        · obtain rfl : j = 2 := by omega
          have HN : Hid (Cr w wr ps qs (.slice C2 (mid (rs ps qs 0 k) a b 2).length cc2) (rs ps qs 0 (k + 1))) := Lib.hid (by rw [STEP.out]; exact HMI.out)
          go_wp2
          go_roundw
          case rel => exact ⟨k + 1, by omega, by go_num, HN.out, LE.out⟩
          case measure => simp [intOf]; omega
    · have e : k = (rs ps qs 0 k).length := by omega
      have R : Hid (rs ps qs 0 k = reach ps qs 0) := Lib.hid (reach_of LX.out hk (by omega))
      have hd : decide (k < (rs ps qs 0 k).length) = false := by simp; omega
      clear e
      go_wp2
      go_ret
      exact ⟨by rw [R.out]; rfl, HR.out.below⟩
end Go.Proofs.Ytgcnemkhppkkcaa.fns
