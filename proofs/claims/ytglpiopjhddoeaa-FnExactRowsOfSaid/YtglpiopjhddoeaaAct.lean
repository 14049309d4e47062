/-
  The letters on surfaces: valid surfaces stay valid, and each letter is undone by its inverse. Plain mathematics.
-/
import Derived.Test.YtglpiopjhddoeaaSurf3
namespace Go.Proofs.Ytglpiopjhddoeaa.pm
open Go.Proofs.Ytglpiopjhddoeaa.arr Go.Proofs.Ytglpiopjhddoeaa.inv Go.Proofs.Ytglpiopjhddoeaa.permOf
set_option linter.unusedVariables false
set_option maxRecDepth 100000

theorem Inv_Inv {q : List Int} (h : Ok q) : Inv (Inv q) = q := by
  refine list_eq q.length (by rw [Inv_len, Inv_len]) rfl fun i hi => ?_
  have hk := Inv_ok h
  have m := h.maps i hi
  have a := Inv_at hk (k := (q.getD i 0).toNat) (by rw [Inv_len]; omega)
  rw [Inv_at h hi, Int.toNat_natCast] at a
  rw [a]
  omega
theorem Inv_right {q : List Int} (h : Ok q) {x : Int} (x0 : 0 ≤ x) (x1 : x < q.length) : q.getD ((Inv q).getD x.toNat 0).toNat 0 = x := by
  obtain ⟨k, hk, e1, e2⟩ := at_Inv h (i := x.toNat) (by omega)
  rw [e1, Int.toNat_natCast, e2]
  omega
theorem Inv_left {q : List Int} (h : Ok q) {x : Int} (x0 : 0 ≤ x) (x1 : x < q.length) : (Inv q).getD (q.getD x.toNat 0).toNat 0 = x := by
  rw [Inv_at h (k := x.toNat) (by omega)]; omega
theorem Inv_thn {p q : List Int} (hp : Ok p) (hq : Ok q) (l : p.length = q.length) : Inv (thn p q) = thn (Inv q) (Inv p) := by
  have := grp_inv hp hq rfl l.symm
  rw [back_eq hp hq rfl l.symm, thenF_of hp hq l, invF_of (thn_ok hp hq l)] at this
  exact this
theorem thn_assoc {p q r : List Int} (hp : Ok p) (lq : p.length = q.length) : thn (thn p q) r = thn p (thn q r) := by
  refine list_eq p.length (by rw [thn_len, thn_len]) (by rw [thn_len]) fun i hi => ?_
  have m := hp.maps i hi
  rw [thn_at (by rw [thn_len]; exact hi), thn_at (ys := q) hi, thn_at (ys := thn q r) hi, thn_at (by omega)]
theorem thn_id {n : Nat} {p : List Int} (hp : Ok p) (l : p.length = n) : thn p (rng n) = p := by
  refine list_eq p.length (by rw [thn_len]) rfl fun i hi => ?_
  have m := hp.maps i hi
  rw [thn_at hi, rng_at (by omega)]
  omega
theorem id_thn {n : Nat} {p : List Int} (l : p.length = n) : thn (rng n) p = p :=
  list_eq n (by rw [thn_len, rng_len]) l fun i hi => by rw [thn_at (by rw [rng_len]; exact hi), rng_at hi, Int.toNat_natCast]
theorem thn_Inv {n : Nat} {q : List Int} (hq : Ok q) (lq : q.length = n) : thn q (Inv q) = rng n :=
  list_eq n (by rw [thn_len]; exact lq) (rng_len n) fun i hi => by rw [thn_at (by omega), Inv_at hq (by omega), rng_at hi]
theorem Inv_thn_self {n : Nat} {q : List Int} (hq : Ok q) (lq : q.length = n) : thn (Inv q) q = rng n := by
  have := thn_Inv (Inv_ok hq) (n := n) (by rw [Inv_len]; exact lq)
  rw [Inv_Inv hq] at this
  exact this
/-- A surface whose closed sets are closed under those of a valid one is valid. -/
theorem Sf.of_closed {n : Nat} {R U R' U' : List Int} (s : Sf n R U) (r' : Ok R') (u' : Ok U') (lr' : R'.length = n) (lu' : U'.length = n)
    (hc : ∀ C : List Int, In n C → (∀ x ∈ C, R'.getD x.toNat 0 ∈ C ∧ U'.getD x.toNat 0 ∈ C) → ∀ x ∈ C, R.getD x.toNat 0 ∈ C ∧ U.getD x.toNat 0 ∈ C) : Sf n R' U' := by
  have b1 : Bij n R' := by have := r'.bij; rw [lr'] at this; exact this
  have b2 : Bij n U' := by have := u'.bij; rw [lu'] at this; exact this
  have hp := s.pos
  have hin : In n (reach R' U' 0) := rs_in b1.maps b2.maps (by omega) (by omega) _
  have hcl : ∀ x ∈ reach R' U' 0, R'.getD x.toNat 0 ∈ reach R' U' 0 ∧ U'.getD x.toNat 0 ∈ reach R' U' 0 := fun x hx => reach_closed lr' b1.maps b2.maps (by omega) (by omega) hx
  have := reach_least (ps := R) (qs := U) (f := 0) (fun x => x ∈ reach R' U' 0) (reach_start _ _ _) (hc _ hin hcl) R.length
  refine ⟨r', u', lr', lu', hp, ?_⟩
  have h1 := nodup_sub_len (rng n) (reach R' U' 0) (rng_nodup n) (fun x hx => by
    rw [mem_rng] at hx
    exact this x (s.full (f := 0) (by omega) (by omega) hx.1 hx.2))
  rw [rng_len] at h1
  have := hin.len
  omega
theorem closed_Inv {n : Nat} {q C : List Int} (hq : Ok q) (lq : q.length = n) (hC : In n C) (hc : ∀ x ∈ C, (Inv q).getD x.toNat 0 ∈ C) : ∀ x ∈ C, q.getD x.toNat 0 ∈ C := by
  intro x hx
  have x0 := hC.lo x hx; have x1 := hC.hi x hx
  have b : Bij n (Inv q) := by have := (Inv_ok hq).bij; rw [Inv_len, lq] at this; exact this
  have m := hq.maps x.toNat (by omega)
  refine closed_back b hC hc m.1 (by omega) ?_
  rw [Inv_left hq x0 (by omega)]
  exact hx
theorem closed_q {n : Nat} {q C : List Int} (hq : Ok q) (lq : q.length = n) (hC : In n C) (hc : ∀ x ∈ C, q.getD x.toNat 0 ∈ C) : ∀ x ∈ C, (Inv q).getD x.toNat 0 ∈ C := by
  have := closed_Inv (Inv_ok hq) (n := n) (by rw [Inv_len]; exact lq) hC (by rw [Inv_Inv hq]; exact hc)
  exact this
def shearS (s : Sur) : Sur := (s.1, thn (Inv s.1) s.2)
def unshearS (s : Sur) : Sur := (s.1, thn s.1 s.2)
def turnS (s : Sur) : Sur := (Inv s.2, s.1)
def unturnS (s : Sur) : Sur := (s.2, Inv s.1)
section
variable {n : Nat} {R U : List Int} (s : Sf n R U)
include s
theorem shear_sf : Sf n (shearS (R, U)).1 (shearS (R, U)).2 := by
  refine s.of_closed s.r (thn_ok (Inv_ok s.r) s.u (by rw [Inv_len, s.lr, s.lu])) s.lr (by show (thn (Inv R) U).length = n; rw [thn_len, Inv_len]; exact s.lr) fun C hC hc x hx => ?_
  have h1 : R.getD x.toNat 0 ∈ C := (hc x hx).1
  refine ⟨h1, ?_⟩
  have h2 : (thn (Inv R) U).getD (R.getD x.toNat 0).toNat 0 ∈ C := (hc _ h1).2
  have x0 := hC.lo x hx; have x1 := hC.hi x hx
  have m := s.r.maps x.toNat (by have := s.lr; omega)
  have lr := s.lr
  rw [thn_at (by rw [Inv_len]; omega), Inv_left s.r x0 (by omega)] at h2
  exact h2
theorem unshear_sf : Sf n (unshearS (R, U)).1 (unshearS (R, U)).2 := by
  refine s.of_closed s.r (thn_ok s.r s.u (by rw [s.lr, s.lu])) s.lr (by show (thn R U).length = n; rw [thn_len]; exact s.lr) fun C hC hc x hx => ?_
  refine ⟨(hc x hx).1, ?_⟩
  have lr := s.lr
  have x0 := hC.lo x hx; have x1 := hC.hi x hx
  have hi := closed_q s.r s.lr hC (fun x hx => (hc x hx).1) x hx
  have h2 := (hc _ hi).2
  have i0 := hC.lo _ hi; have i1 := hC.hi _ hi
  change (thn R U).getD _ 0 ∈ C at h2
  rw [thn_at (by omega), Inv_right s.r x0 (by omega)] at h2
  exact h2
theorem turn_sf : Sf n (turnS (R, U)).1 (turnS (R, U)).2 := by
  refine s.of_closed (Inv_ok s.u) s.r (by show (Inv U).length = n; rw [Inv_len]; exact s.lu) s.lr fun C hC hc x hx => ?_
  exact ⟨(hc x hx).2, closed_Inv s.u s.lu hC (fun x hx => (hc x hx).1) x hx⟩
theorem unturn_sf : Sf n (unturnS (R, U)).1 (unturnS (R, U)).2 := by
  refine s.of_closed s.u (Inv_ok s.r) s.lu (by show (Inv R).length = n; rw [Inv_len]; exact s.lr) fun C hC hc x hx => ?_
  exact ⟨closed_Inv s.r s.lr hC (fun x hx => (hc x hx).2) x hx, (hc x hx).1⟩
theorem unshear_shear : unshearS (shearS (R, U)) = (R, U) := by
  show (R, thn R (thn (Inv R) U)) = (R, U)
  rw [← thn_assoc s.r (by rw [Inv_len]), thn_Inv s.r s.lr, id_thn s.lu]
theorem shear_unshear : shearS (unshearS (R, U)) = (R, U) := by
  show (R, thn (Inv R) (thn R U)) = (R, U)
  rw [← thn_assoc (Inv_ok s.r) (by rw [Inv_len]), Inv_thn_self s.r s.lr, id_thn s.lu]
theorem unturn_turn : unturnS (turnS (R, U)) = (R, U) := by
  show (R, Inv (Inv U)) = (R, U)
  rw [Inv_Inv s.u]
theorem turn_unturn : turnS (unturnS (R, U)) = (R, U) := by
  show (Inv (Inv R), U) = (R, U)
  rw [Inv_Inv s.r]
theorem turn4 : turnS (turnS (turnS (turnS (R, U)))) = (R, U) := by
  show (Inv (Inv R), Inv (Inv U)) = (R, U)
  rw [Inv_Inv s.r, Inv_Inv s.u]
end
end Go.Proofs.Ytglpiopjhddoeaa.pm
