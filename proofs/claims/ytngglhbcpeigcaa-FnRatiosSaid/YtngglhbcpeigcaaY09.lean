import Derived.Test.YtngglhbcpeigcaaY08
import Derived.Test.YtngglhbcpeigcaaY07
import Derived.Lib.Slices
import Derived.Test.YtngglhbcpeigcaaY04
/-
  The number of cycles of a product, modulo 2; a commutator's differs from the number of elements by an even number: plain mathematics.
-/
namespace Go.Proofs.Ytngglhbcpeigcaa.pm
open Go.Proofs.Ytngglhbcpeigcaa.arr Go.Proofs.Ytngglhbcpeigcaa.inv Go.Proofs.Ytngglhbcpeigcaa.permOf
set_option linter.unusedVariables false
set_option maxRecDepth 100000

def sg (a b i : Nat) : Nat := if i = a then b else if i = b then a else i
theorem sg_lt {n a b i : Nat} (ha : a < n) (hb : b < n) (hi : i < n) : sg a b i < n := by unfold sg; split <;> (try split) <;> omega
theorem sg_inj {a b i j : Nat} (h : sg a b i = sg a b j) : i = j := by
  unfold sg at h; split at h <;> split at h <;> (try split at h) <;> (try split at h) <;> omega
def swp (q : List Int) (a b : Nat) : List Int := (q.set a (q.getD b 0)).set b (q.getD a 0)
theorem swp_len (q : List Int) (a b : Nat) : (swp q a b).length = q.length := by simp [swp]
theorem swp_at {q : List Int} {a b i : Nat} (ha : a < q.length) (hb : b < q.length) : (swp q a b).getD i 0 = q.getD (sg a b i) 0 := by
  unfold swp sg
  rw [getD_set, getD_set]
  by_cases e2 : b = i
  · rw [if_pos ⟨e2, by simp; omega⟩]
    by_cases e1 : i = a
    · rw [if_pos e1]; congr 1; omega
    · rw [if_neg e1, if_pos e2.symm]
  · rw [if_neg (fun h => e2 h.1)]
    by_cases e1 : a = i
    · rw [if_pos ⟨e1, by omega⟩, if_pos e1.symm]
    · rw [if_neg (fun h => e1 h.1), if_neg (fun h => e1 h.symm), if_neg (fun h => e2 h.symm)]
theorem swp_ok {q : List Int} {a b : Nat} (h : Ok q) (ha : a < q.length) (hb : b < q.length) : Ok (swp q a b) := by
  refine ⟨by rw [swp_len]; exact h.len, fun i hi => ?_, fun i hi => ?_, fun i j hi hj e => ?_⟩
  · rw [swp_len] at hi; rw [swp_at ha hb]; exact h.lo _ (sg_lt ha hb hi)
  · rw [swp_len] at hi ⊢; rw [swp_at ha hb]; exact h.hi _ (sg_lt ha hb hi)
  · rw [swp_len] at hi hj
    rw [swp_at ha hb, swp_at ha hb] at e
    exact sg_inj (h.inj _ _ (sg_lt ha hb hi) (sg_lt ha hb hj) e)
theorem Ok.bij' {n : Nat} {q : List Int} (h : Ok q) (l : q.length = n) : Bij n q := by subst l; exact h.bij
theorem swp_xch {n : Nat} {q : List Int} {a b : Nat} (h : Ok q) (l : q.length = n) (ha : a < n) (hb : b < n) (ne : a ≠ b) : Xch n q (swp q a b) a b := by
  refine ⟨h.bij' l, (swp_ok h (by omega) (by omega)).bij' (by rw [swp_len]; exact l), ha, hb, ne, ?_, ?_, fun i hi h1 h2 => ?_⟩
  · rw [swp_at (by omega) (by omega)]; simp [sg]
  · rw [swp_at (by omega) (by omega)]; unfold sg; rw [if_neg (fun e => ne e.symm), if_pos rfl]
  · rw [swp_at (by omega) (by omega)]; unfold sg; rw [if_neg h1, if_neg h2]
theorem thn_xch {n : Nat} {q p : List Int} {a b : Nat} (h : Ok q) (hp : Ok p) (l : q.length = n) (lp : p.length = n) (ha : a < n) (hb : b < n) (ne : a ≠ b) : Xch n (thn q p) (thn (swp q a b) p) a b := by
  have x := swp_xch h l ha hb ne
  have ok' := swp_ok (a := a) (b := b) h (by omega) (by omega)
  have l' : (swp q a b).length = n := by rw [swp_len]; exact l
  have at1 : ∀ i, i < n → (thn q p).getD i 0 = p.getD (q.getD i 0).toNat 0 := fun i hi => thn_at (by omega)
  have at2 : ∀ i, i < n → (thn (swp q a b) p).getD i 0 = p.getD ((swp q a b).getD i 0).toNat 0 := fun i hi => thn_at (by omega)
  refine ⟨(thn_ok h hp (by omega)).bij' (by rw [thn_len]; exact l), (thn_ok ok' hp (by omega)).bij' (by rw [thn_len]; exact l'), ha, hb, ne, ?_, ?_, fun i hi h1 h2 => ?_⟩
  · rw [at2 a ha, at1 b hb, x.ea]
  · rw [at2 b hb, at1 a ha, x.eb]
  · rw [at2 i hi, at1 i hi, x.eo i hi h1 h2]
theorem rng_ok {n : Nat} (h : n ≤ 24) : Ok (rng n) := by
  refine ⟨by rw [rng_len]; exact h, fun i hi => ?_, fun i hi => ?_, fun i j hi hj e => ?_⟩
  · rw [rng_len] at hi; rw [rng_at hi]; omega
  · rw [rng_len] at hi ⊢; rw [rng_at hi]; omega
  · rw [rng_len] at hi hj; rw [rng_at hi, rng_at hj] at e; omega
theorem cnum_id {n : Nat} (h : n ≤ 24) : cnum (rng n) n = n := by
  have hb := (rng_ok h).bij' (rng_len n)
  unfold cnum
  rw [cso_count hb n (Nat.le_refl _)]
  have : (rng n).countP (mn (rng n) n) = (rng n).length := by
    rw [List.countP_eq_length]
    intro x hx
    rw [mem_rng] at hx
    unfold mn
    rw [decide_eq_true_eq]
    intro y hy
    obtain ⟨m, e⟩ := (mem_cyc hb hx.1 hx.2).1 hy
    have : ∀ m, it (rng n) x m = x := by
      intro m
      induction m with
      | zero => rfl
      | succ m ih => show (rng n).getD (it (rng n) x m).toNat 0 = x; rw [ih, rng_at (by omega)]; omega
    rw [this m] at e
    omega
  rw [this, rng_len]
theorem eq_rng {n : Nat} {q : List Int} (l : q.length = n) (h : ∀ i, i < n → q.getD i 0 = (i : Int)) : q = rng n :=
  list_eq n l (rng_len n) fun i hi => by rw [h i hi, rng_at hi]
theorem thn_rng {n : Nat} {p : List Int} (l : p.length = n) : thn (rng n) p = p :=
  list_eq n (by rw [thn_len, rng_len]) l fun i hi => by rw [thn_at (by rw [rng_len]; exact hi), rng_at hi, Int.toNat_natCast]
/-- The parity of a product. -/
theorem cnum_mul {n : Nat} {p : List Int} (hp : Ok p) (lp : p.length = n) (h24 : n ≤ 24) : ∀ (d : Nat) (q : List Int), d ≤ n → Ok q → q.length = n → (∀ i, i < n - d → q.getD i 0 = (i : Int)) → (cnum (thn q p) n + cnum q n + cnum p n + n) % 2 = 0 := by
  intro d
  induction d with
  | zero =>
    intro q _ hq lq hf
    have e := eq_rng lq (fun i hi => hf i (by omega))
    rw [e, thn_rng lp, cnum_id h24]
    omega
  | succ d ih =>
    intro q hd hq lq hf
    by_cases ha : q.getD (n - (d + 1)) 0 = ((n - (d + 1) : Nat) : Int)
    · refine ih q (by omega) hq lq fun i hi => ?_
      by_cases e : i = n - (d + 1)
      · rw [e]; exact ha
      · exact hf i (by omega)
    · obtain ⟨b, hb, eb⟩ := hq.onto (y := n - (d + 1)) (by omega)
      have hne : n - (d + 1) ≠ b := fun e => ha (by rw [← e] at eb; exact eb)
      have hlt : n - (d + 1) < b := by
        rcases Nat.lt_or_ge b (n - (d + 1)) with q1 | q1
        · have := hf b q1; omega
        · omega
      have an : n - (d + 1) < n := by omega
      have x1 := (swp_xch hq lq an (by omega) hne).parity
      have x2 := (thn_xch hq hp lq lp an (by omega) hne).parity
      have r := ih (swp q (n - (d + 1)) b) (by omega) (swp_ok hq (by omega) (by omega)) (by rw [swp_len]; exact lq) (fun i hi => by
        rw [swp_at (by omega) (by omega)]
        unfold sg
        by_cases e : i = n - (d + 1)
        · rw [if_pos e, eb, e]
        · rw [if_neg e, if_neg (by omega)]; exact hf i (by omega))
      omega
theorem cnum_then {n : Nat} {q p : List Int} (hq : Ok q) (hp : Ok p) (lq : q.length = n) (lp : p.length = n) : (cnum (thn q p) n + cnum q n + cnum p n + n) % 2 = 0 :=
  cnum_mul hp lp (by have := hp.len; omega) n q (Nat.le_refl _) hq lq (fun i hi => by omega)
theorem thn_inv {n : Nat} {q : List Int} (hq : Ok q) (lq : q.length = n) : thn q (Inv q) = rng n :=
  list_eq n (by rw [thn_len]; exact lq) (rng_len n) fun i hi => by rw [thn_at (by omega), Inv_at hq (by omega), rng_at hi]
theorem cnum_inv {n : Nat} {q : List Int} (hq : Ok q) (lq : q.length = n) : (cnum (Inv q) n + cnum q n) % 2 = 0 := by
  have h24 : n ≤ 24 := by have := hq.len; omega
  have := cnum_then hq (Inv_ok hq) lq (by rw [Inv_len]; exact lq)
  rw [thn_inv hq lq, cnum_id h24] at this
  omega
theorem cnum_le {n : Nat} {q : List Int} (hq : Ok q) (lq : q.length = n) : cnum q n ≤ n := (cso_cs (hq.bij' lq) n (Nat.le_refl _)).len
/-- A commutator. -/
def comm (R U : List Int) : List Int := thn (thn R U) (thn (Inv R) (Inv U))
theorem comm_ok {n : Nat} {R U : List Int} (r : Ok R) (u : Ok U) (lr : R.length = n) (lu : U.length = n) : Ok (comm R U) ∧ (comm R U).length = n :=
  ⟨thn_ok (thn_ok r u (by omega)) (thn_ok (Inv_ok r) (Inv_ok u) (by rw [Inv_len, Inv_len]; omega)) (by rw [thn_len, thn_len, Inv_len]), by unfold comm; rw [thn_len, thn_len]; exact lr⟩
theorem comm_even {n : Nat} {R U : List Int} (r : Ok R) (u : Ok U) (lr : R.length = n) (lu : U.length = n) : (n - cnum (comm R U) n) % 2 = 0 := by
  have a := cnum_then r u lr lu
  have b := cnum_then (Inv_ok r) (Inv_ok u) (n := n) (by rw [Inv_len]; exact lr) (by rw [Inv_len]; exact lu)
  have c := cnum_then (n := n) (thn_ok r u (by omega)) (thn_ok (Inv_ok r) (Inv_ok u) (by rw [Inv_len, Inv_len]; omega)) (by rw [thn_len]; exact lr) (by rw [thn_len, Inv_len]; exact lr)
  have d := cnum_inv r lr; have e := cnum_inv u lu
  have ok := comm_ok r u lr lu
  have f := cnum_le ok.1 ok.2
  unfold comm at f ⊢
  omega
end Go.Proofs.Ytngglhbcpeigcaa.pm

/-
  The letters on surfaces: valid surfaces stay valid, and each letter is undone by its inverse. Plain mathematics.
-/
namespace Go.Proofs.Ytngglhbcpeigcaa.pm
open Go.Proofs.Ytngglhbcpeigcaa.arr Go.Proofs.Ytngglhbcpeigcaa.inv Go.Proofs.Ytngglhbcpeigcaa.permOf
set_option linter.unusedVariables false
set_option maxRecDepth 100000

theorem Inv_Inv {q : List Int} (h : Ok q) : Inv (Inv q) = q := by
  refine list_eq q.length (by rw [Inv_len, Inv_len]) rfl fun i hi => ?_
  have hk := Inv_ok h
  have m := h.maps i hi
  have a := Inv_at hk (k := (q.getD i 0).toNat) (by rw [Inv_len]; omega)
  rw [Inv_at h hi, Int.toNat_natCast] at a
  rw [a]
  omega
theorem Inv_right {q : List Int} (h : Ok q) {x : Int} (x0 : 0 ≤ x) (x1 : x < q.length) : q.getD ((Inv q).getD x.toNat 0).toNat 0 = x := by
  obtain ⟨k, hk, e1, e2⟩ := at_Inv h (i := x.toNat) (by omega)
  rw [e1, Int.toNat_natCast, e2]
  omega
theorem Inv_left {q : List Int} (h : Ok q) {x : Int} (x0 : 0 ≤ x) (x1 : x < q.length) : (Inv q).getD (q.getD x.toNat 0).toNat 0 = x := by
  rw [Inv_at h (k := x.toNat) (by omega)]; omega
theorem Inv_thn {p q : List Int} (hp : Ok p) (hq : Ok q) (l : p.length = q.length) : Inv (thn p q) = thn (Inv q) (Inv p) := by
  have := grp_inv hp hq rfl l.symm
  rw [back_eq hp hq rfl l.symm, thenF_of hp hq l, invF_of (thn_ok hp hq l)] at this
  exact this
theorem thn_assoc {p q r : List Int} (hp : Ok p) (lq : p.length = q.length) : thn (thn p q) r = thn p (thn q r) := by
  refine list_eq p.length (by rw [thn_len, thn_len]) (by rw [thn_len]) fun i hi => ?_
  have m := hp.maps i hi
  rw [thn_at (by rw [thn_len]; exact hi), thn_at (ys := q) hi, thn_at (ys := thn q r) hi, thn_at (by omega)]
theorem thn_id {n : Nat} {p : List Int} (hp : Ok p) (l : p.length = n) : thn p (rng n) = p := by
  refine list_eq p.length (by rw [thn_len]) rfl fun i hi => ?_
  have m := hp.maps i hi
  rw [thn_at hi, rng_at (by omega)]
  omega
theorem id_thn {n : Nat} {p : List Int} (l : p.length = n) : thn (rng n) p = p :=
  list_eq n (by rw [thn_len, rng_len]) l fun i hi => by rw [thn_at (by rw [rng_len]; exact hi), rng_at hi, Int.toNat_natCast]
theorem thn_Inv {n : Nat} {q : List Int} (hq : Ok q) (lq : q.length = n) : thn q (Inv q) = rng n :=
  list_eq n (by rw [thn_len]; exact lq) (rng_len n) fun i hi => by rw [thn_at (by omega), Inv_at hq (by omega), rng_at hi]
theorem Inv_thn_self {n : Nat} {q : List Int} (hq : Ok q) (lq : q.length = n) : thn (Inv q) q = rng n := by
  have := thn_Inv (Inv_ok hq) (n := n) (by rw [Inv_len]; exact lq)
  rw [Inv_Inv hq] at this
  exact this
/-- A surface whose closed sets are closed under those of a valid one is valid. -/
theorem Sf.of_closed {n : Nat} {R U R' U' : List Int} (s : Sf n R U) (r' : Ok R') (u' : Ok U') (lr' : R'.length = n) (lu' : U'.length = n)
    (hc : ∀ C : List Int, In n C → (∀ x ∈ C, R'.getD x.toNat 0 ∈ C ∧ U'.getD x.toNat 0 ∈ C) → ∀ x ∈ C, R.getD x.toNat 0 ∈ C ∧ U.getD x.toNat 0 ∈ C) : Sf n R' U' := by
  have b1 : Bij n R' := by have := r'.bij; rw [lr'] at this; exact this
  have b2 : Bij n U' := by have := u'.bij; rw [lu'] at this; exact this
  have hp := s.pos
  have hin : In n (reach R' U' 0) := rs_in b1.maps b2.maps (by omega) (by omega) _
  have hcl : ∀ x ∈ reach R' U' 0, R'.getD x.toNat 0 ∈ reach R' U' 0 ∧ U'.getD x.toNat 0 ∈ reach R' U' 0 := fun x hx => reach_closed lr' b1.maps b2.maps (by omega) (by omega) hx
  have := reach_least (ps := R) (qs := U) (f := 0) (fun x => x ∈ reach R' U' 0) (reach_start _ _ _) (hc _ hin hcl) R.length
  refine ⟨r', u', lr', lu', hp, ?_⟩
  have h1 := nodup_sub_len (rng n) (reach R' U' 0) (rng_nodup n) (fun x hx => by
    rw [mem_rng] at hx
    exact this x (s.full (f := 0) (by omega) (by omega) hx.1 hx.2))
  rw [rng_len] at h1
  have := hin.len
  omega
theorem closed_Inv {n : Nat} {q C : List Int} (hq : Ok q) (lq : q.length = n) (hC : In n C) (hc : ∀ x ∈ C, (Inv q).getD x.toNat 0 ∈ C) : ∀ x ∈ C, q.getD x.toNat 0 ∈ C := by
  intro x hx
  have x0 := hC.lo x hx; have x1 := hC.hi x hx
  have b : Bij n (Inv q) := by have := (Inv_ok hq).bij; rw [Inv_len, lq] at this; exact this
  have m := hq.maps x.toNat (by omega)
  refine closed_back b hC hc m.1 (by omega) ?_
  rw [Inv_left hq x0 (by omega)]
  exact hx
theorem closed_q {n : Nat} {q C : List Int} (hq : Ok q) (lq : q.length = n) (hC : In n C) (hc : ∀ x ∈ C, q.getD x.toNat 0 ∈ C) : ∀ x ∈ C, (Inv q).getD x.toNat 0 ∈ C := by
  have := closed_Inv (Inv_ok hq) (n := n) (by rw [Inv_len]; exact lq) hC (by rw [Inv_Inv hq]; exact hc)
  exact this
def shearS (s : Sur) : Sur := (s.1, thn (Inv s.1) s.2)
def unshearS (s : Sur) : Sur := (s.1, thn s.1 s.2)
def turnS (s : Sur) : Sur := (Inv s.2, s.1)
def unturnS (s : Sur) : Sur := (s.2, Inv s.1)
section
variable {n : Nat} {R U : List Int} (s : Sf n R U)
include s
theorem shear_sf : Sf n (shearS (R, U)).1 (shearS (R, U)).2 := by
  refine s.of_closed s.r (thn_ok (Inv_ok s.r) s.u (by rw [Inv_len, s.lr, s.lu])) s.lr (by show (thn (Inv R) U).length = n; rw [thn_len, Inv_len]; exact s.lr) fun C hC hc x hx => ?_
  have h1 : R.getD x.toNat 0 ∈ C := (hc x hx).1
  refine ⟨h1, ?_⟩
  have h2 : (thn (Inv R) U).getD (R.getD x.toNat 0).toNat 0 ∈ C := (hc _ h1).2
  have x0 := hC.lo x hx; have x1 := hC.hi x hx
  have m := s.r.maps x.toNat (by have := s.lr; omega)
  have lr := s.lr
  rw [thn_at (by rw [Inv_len]; omega), Inv_left s.r x0 (by omega)] at h2
  exact h2
theorem unshear_sf : Sf n (unshearS (R, U)).1 (unshearS (R, U)).2 := by
  refine s.of_closed s.r (thn_ok s.r s.u (by rw [s.lr, s.lu])) s.lr (by show (thn R U).length = n; rw [thn_len]; exact s.lr) fun C hC hc x hx => ?_
  refine ⟨(hc x hx).1, ?_⟩
  have lr := s.lr
  have x0 := hC.lo x hx; have x1 := hC.hi x hx
  have hi := closed_q s.r s.lr hC (fun x hx => (hc x hx).1) x hx
  have h2 := (hc _ hi).2
  have i0 := hC.lo _ hi; have i1 := hC.hi _ hi
  change (thn R U).getD _ 0 ∈ C at h2
  rw [thn_at (by omega), Inv_right s.r x0 (by omega)] at h2
  exact h2
theorem turn_sf : Sf n (turnS (R, U)).1 (turnS (R, U)).2 := by
  refine s.of_closed (Inv_ok s.u) s.r (by show (Inv U).length = n; rw [Inv_len]; exact s.lu) s.lr fun C hC hc x hx => ?_
  exact ⟨(hc x hx).2, closed_Inv s.u s.lu hC (fun x hx => (hc x hx).1) x hx⟩
theorem unturn_sf : Sf n (unturnS (R, U)).1 (unturnS (R, U)).2 := by
  refine s.of_closed s.u (Inv_ok s.r) s.lu (by show (Inv R).length = n; rw [Inv_len]; exact s.lr) fun C hC hc x hx => ?_
  exact ⟨closed_Inv s.r s.lr hC (fun x hx => (hc x hx).2) x hx, (hc x hx).1⟩
theorem unshear_shear : unshearS (shearS (R, U)) = (R, U) := by
  show (R, thn R (thn (Inv R) U)) = (R, U)
  rw [← thn_assoc s.r (by rw [Inv_len]), thn_Inv s.r s.lr, id_thn s.lu]
theorem shear_unshear : shearS (unshearS (R, U)) = (R, U) := by
  show (R, thn (Inv R) (thn R U)) = (R, U)
  rw [← thn_assoc (Inv_ok s.r) (by rw [Inv_len]), Inv_thn_self s.r s.lr, id_thn s.lu]
theorem unturn_turn : unturnS (turnS (R, U)) = (R, U) := by
  show (R, Inv (Inv U)) = (R, U)
  rw [Inv_Inv s.u]
theorem turn_unturn : turnS (unturnS (R, U)) = (R, U) := by
  show (Inv (Inv R), U) = (R, U)
  rw [Inv_Inv s.r]
theorem turn4 : turnS (turnS (turnS (turnS (R, U)))) = (R, U) := by
  show (Inv (Inv R), Inv (Inv U)) = (R, U)
  rw [Inv_Inv s.r, Inv_Inv s.u]
end
end Go.Proofs.Ytngglhbcpeigcaa.pm

/-
  Corners, angles, stratum and genus: plain mathematics.
-/
namespace Go.Proofs.Ytngglhbcpeigcaa.pm
open Go.Proofs.Ytngglhbcpeigcaa.arr Go.Proofs.Ytngglhbcpeigcaa.inv Go.Proofs.Ytngglhbcpeigcaa.permOf
set_option linter.unusedVariables false
set_option maxRecDepth 100000

theorem foldmin (l : List Int) : ∀ a : Int, l.foldl min a ≤ a ∧ (∀ y ∈ l, l.foldl min a ≤ y) ∧ (l.foldl min a = a ∨ l.foldl min a ∈ l) := by
  induction l with
  | nil => intro a; exact ⟨Int.le_refl _, by simp, .inl rfl⟩
  | cons x l ih =>
    intro a
    obtain ⟨h1, h2, h3⟩ := ih (min a x)
    rw [List.foldl_cons]
    refine ⟨by omega, fun y hy => ?_, ?_⟩
    · rcases List.mem_cons.1 hy with rfl | hy
      · omega
      · exact h2 y hy
    · rcases h3 with h3 | h3
      · rw [h3]
        rcases Int.le_total a x with q | q
        · exact .inl (by omega)
        · exact .inr (List.mem_cons.2 (.inl (by omega)))
      · exact .inr (List.mem_cons.2 (.inr h3))
theorem minOf_iff {l : List Int} {x : Int} (h : x ∈ l) : Lib.minOf l = x ↔ ∀ y ∈ l, x ≤ y := by
  cases l with
  | nil => simp at h
  | cons a l =>
    obtain ⟨h1, h2, h3⟩ := foldmin l a
    have e : Lib.minOf (a :: l) = l.foldl min a := by simp [Lib.minOf]
    rw [e]
    constructor
    · rintro rfl y hy
      rcases List.mem_cons.1 hy with rfl | hy
      · exact h1
      · exact h2 y hy
    · intro q
      have a1 : l.foldl min a ≤ x := by
        rcases List.mem_cons.1 h with rfl | h
        · exact h1
        · exact h2 x h
      have a2 : x ≤ l.foldl min a := by
        rcases h3 with h3 | h3
        · rw [h3]; exact q a (List.mem_cons.2 (.inl rfl))
        · exact q _ (List.mem_cons.2 (.inr h3))
      omega
theorem mn_iff {n : Nat} {ps : List Int} (hb : Bij n ps) {f : Int} (f0 : 0 ≤ f) (f1 : f < n) : Lib.minOf (cyc ps n f) = f ↔ mn ps n f = true := by
  rw [minOf_iff (cyc_self hb f0 f1)]; simp [mn]
theorem in_cso_iff {n k : Nat} {ps : List Int} (hb : Bij n ps) (hk : k < n) : (k : Int) ∈ (cso ps n k).flatten ↔ mn ps n (k : Int) = false := by
  rw [mem_cso hb k (by omega)]
  unfold mn
  rw [decide_eq_false_iff_not]
  constructor
  · rintro ⟨j, hj, q⟩ h
    have := h _ (cyc_symm hb (by omega) (by omega) q)
    omega
  · intro h
    have : ∃ y, y ∈ cyc ps n (k : Int) ∧ y < (k : Int) := by
      rcases Classical.em (∃ y, y ∈ cyc ps n (k : Int) ∧ y < (k : Int)) with q | q
      · exact q
      · exact absurd (fun y hy => Int.not_lt.1 (fun hlt => q ⟨y, hy, hlt⟩)) h
    obtain ⟨y, hy, hlt⟩ := this
    have hw := cyc_way (f := (k : Int)) hb (by omega) (by omega)
    have y0 := hw.inn.lo y hy
    exact ⟨y.toNat, by omega, by rw [Int.toNat_of_nonneg y0]; exact cyc_symm hb (by omega) (by omega) hy⟩
/-- The next cycle: that of k, if k is the least of it. -/
theorem cso_yes {n k : Nat} {ps : List Int} (hb : Bij n ps) (hk : k < n) (h : Lib.minOf (cyc ps n (k : Int)) = (k : Int)) : cso ps n (k + 1) = cso ps n k ++ [cyc ps n (k : Int)] := by
  have q := (mn_iff hb (by omega) (by omega)).1 h
  rw [cso, if_neg (fun e => by rw [(in_cso_iff hb hk).1 e] at q; cases q)]
theorem cso_no {n k : Nat} {ps : List Int} (hb : Bij n ps) (hk : k < n) (h : Lib.minOf (cyc ps n (k : Int)) ≠ (k : Int)) : cso ps n (k + 1) = cso ps n k := by
  rw [cso, if_pos]
  rw [in_cso_iff hb hk]
  cases q : mn ps n (k : Int) with
  | false => rfl
  | true => exact absurd ((mn_iff hb (by omega) (by omega)).2 q) h

theorem ok_ext {xs : List Int} (h : Ok xs) : Ok (ext xs) := by
  have hl := h.len
  refine ⟨by rw [ext_len]; omega, fun i hi => h.sq.lo i (by rwa [ext_len] at hi), fun i hi => by rw [ext_len] at *; exact h.sq.hi i hi, fun i j hi hj e => ?_⟩
  rw [ext_len] at hi hj
  rw [ext_at hi, ext_at hj] at e
  split at e <;> split at e
  · exact h.inj i j (by assumption) (by assumption) e
  · have := h.hi i (by assumption); omega
  · have := h.hi j (by assumption); omega
  · omega
theorem thn_ext {xs ys : List Int} (h : Ok xs) (h' : Ok ys) (e : xs.length = ys.length) : thenL (ext xs) (ext ys) = ext (thn xs ys) := by
  have hl := h.len
  refine list_eq 24 (by unfold thenL; exact tab_len _) (ext_len _) fun i hi => ?_
  rw [thenL_at _ _ hi, ext_at hi, ext_at hi, thn_len]
  by_cases q : i < xs.length
  · have a := h.lo i q; have b := h.hi i q
    rw [if_pos q, if_pos q, thn_at q, ext_at (by omega), if_pos (by omega)]
  · rw [if_neg q, if_neg q, Int.toNat_natCast, ext_at hi, if_neg (by omega)]
theorem inv_ext {xs : List Int} (h : Ok xs) : invTo 24 (ext xs) 24 = ext (Inv xs) := by
  have hl := h.len
  refine list_eq 24 (invTo_len _ _ _) (ext_len _) fun i hi => ?_
  rw [ext_at hi, Inv_len]
  by_cases q : i < xs.length
  · rw [if_pos q]
    obtain ⟨k, hk, e1, e2⟩ := at_Inv h q
    have a := inv_at (ok_ext h) (k := k) (by rw [ext_len]; omega)
    rw [ext_at (by omega), if_pos hk, e2, ext_len, Int.toNat_natCast] at a
    rw [a, e1]
  · rw [if_neg q]
    have a := inv_at (ok_ext h) (k := i) (by rw [ext_len]; omega)
    rw [ext_at hi, if_neg q, ext_len, Int.toNat_natCast] at a
    exact a
/-- The round as the program reckons it, among 24. -/
def ar24 (p q : List Int) : List Int := thenL (thenL (thenL p q) (invTo 24 p 24)) (invTo 24 q 24)
theorem ar24_len (p q : List Int) : (ar24 p q).length = 24 := by unfold ar24 thenL; exact tab_len _
section
variable {n : Nat} {R U : List Int} (s : Sf n R U)
include s
theorem Sf.small : n ≤ 24 := by have := s.r.len; have := s.lr; omega
theorem Sf.comm : Ok (comm R U) ∧ (comm R U).length = n := comm_ok s.r s.u s.lr s.lu
theorem Sf.commB : Bij n (pm.comm R U) := s.comm.1.bij' s.comm.2
theorem ar24_ext : ar24 (ext R) (ext U) = ext (comm R U) := by
  have l1 : R.length = U.length := by rw [s.lr, s.lu]
  have o1 := thn_ok s.r s.u l1
  have l2 : (thn R U).length = (Inv R).length := by rw [thn_len, Inv_len]
  have o2 := thn_ok o1 (Inv_ok s.r) l2
  have l3 : (thn (thn R U) (Inv R)).length = (Inv U).length := by rw [thn_len, thn_len, Inv_len, l1]
  unfold ar24
  rw [thn_ext s.r s.u l1, inv_ext s.r, inv_ext s.u, thn_ext o1 (Inv_ok s.r) l2, thn_ext o2 (Inv_ok s.u) l3, thn_assoc o1 l2]
  rfl
end
theorem take_ext (xs : List Int) (h : xs.length ≤ 24) : (ext xs).take xs.length = xs := by
  refine list_eq xs.length (by simp [ext_len]; omega) rfl fun i hi => ?_
  have e : (ext xs).getD i 0 = xs.getD i 0 := by rw [ext_at (by omega), if_pos hi]
  rw [← e]
  simp [List.getD, hi]

/-- The round, the corners, the angles, the stratum, the genus, whether a corner is regular. -/
def arF (r u : List Int) : List Int := if transB r u then comm r u else []
def corF (r u : List Int) : List (List Int) := if transB r u then cso (comm r u) r.length r.length else []
def angF (r u : List Int) : List Int := sortD ((corF r u).map fun xs => (xs.length : Int))
def strL (l : List Int) : List Int := (l.filter fun a => decide (1 < a)).map fun a => a - 1
def strF (r u : List Int) : List Int := strL (angF r u)
def genF (r u : List Int) : Int := if transB r u then 1 + ((r.length : Int) - (corF r u).length) / 2 else -1
def regF (r u : List Int) (a : Int) : Bool := transB r u && (decide (0 ≤ a) && (decide (a < r.length) && decide ((comm r u).getD a.toNat 0 = a)))
theorem arF_yes {r u : List Int} (h : transB r u = true) : arF r u = comm r u := by simp [arF, h]
theorem arF_no {r u : List Int} (h : transB r u = false) : arF r u = [] := by simp [arF, h]
theorem corF_yes {r u : List Int} (h : transB r u = true) : corF r u = cso (comm r u) r.length r.length := by simp [corF, h]
theorem corF_no {r u : List Int} (h : transB r u = false) : corF r u = [] := by simp [corF, h]
theorem corF_cyc {r u : List Int} (h : transB r u = true) : corF r u = cycF (comm r u) := by
  have s := transB_iff.1 h
  rw [corF_yes h, cycF, s.comm.1.b, if_pos rfl, s.comm.2]
theorem arF_len (r u : List Int) : (arF r u).length ≤ 1048576 := by
  unfold arF; split
  · rename_i h
    have s := transB_iff.1 h
    have := s.comm.2; have := s.small; omega
  · simp
theorem corF_small (r u : List Int) : (corF r u).length ≤ 24 ∧ ((corF r u).map List.length).sum ≤ 24 := by
  cases h : transB r u with
  | false => rw [corF_no h]; simp
  | true =>
    have s := transB_iff.1 h
    have hc := cso_cs s.commB r.length (Nat.le_refl _)
    have h1 := cso_len s.commB
    have := s.small; have := hc.len
    rw [corF_yes h]
    omega
theorem angF_len (r u : List Int) : (angF r u).length ≤ 1048576 := by
  have := (corF_small r u).1
  simp [angF, sortD_len]; omega
theorem strL_len (l : List Int) : (strL l).length ≤ l.length := by
  unfold strL; rw [List.length_map]; exact List.length_filter_le _ _
theorem strF_len (r u : List Int) : (strF r u).length ≤ 1048576 := Nat.le_trans (strL_len _) (angF_len r u)
theorem strL_snoc (l : List Int) (a : Int) : strL (l ++ [a]) = if 1 < a then strL l ++ [a - 1] else strL l := by
  unfold strL
  rw [List.filter_append, List.map_append]
  by_cases h : 1 < a <;> simp [h]
end Go.Proofs.Ytngglhbcpeigcaa.pm

/-
  The round about the corners: of the program's gluing, of the model.
-/
namespace Go.Proofs.Ytngglhbcpeigcaa.gl
open Go.ChangeShapes Go.WideShapes Go.ChangeAt Go.RowKit
open Go.Proofs.Ytngglhbcpeigcaa.mem Go.Proofs.Ytngglhbcpeigcaa.ints Go.Proofs.Ytngglhbcpeigcaa.arr Go.Proofs.Ytngglhbcpeigcaa.pm Go.Proofs.Ytngglhbcpeigcaa.permOk Go.Proofs.Ytngglhbcpeigcaa.permOf Go.Proofs.Ytngglhbcpeigcaa.inv Go.Proofs.Ytngglhbcpeigcaa.fns Go.Proofs.Ytngglhbcpeigcaa.sf
set_option linter.unusedVariables false
set_option maxRecDepth 100000

set_option maxHeartbeats 8000000 in
theorem around_any (p q : List Int) (n : Nat) (w : World) (hp : Sq p) (hq : Sq q) :
    Calls Try.prog 62 #[.agg (V (gl p q n)).toArray] w fun e w' => e = .returned (.agg (V (ar24 p q)).toArray) ∧ Below w.heap.size w w' := by
  have HP := Lib.hid hp; have HQ := Lib.hid hq; clear hp hq
  go_enter Try.func62, Try.ntmps62
  go_wp2_with fail
  generalize hw1 : (w.alloc (.cells (V (gl p q n)).toArray 62)).alloc (.cells #[.int .i64 0, .int .i64 0, .int .i64 0, .int .i64 0, .int .i64 0, .int .i64 0, .int .i64 0, .int .i64 0, .int .i64 0, .int .i64 0, .int .i64 0, .int .i64 0, .int .i64 0, .int .i64 0, .int .i64 0, .int .i64 0, .int .i64 0, .int .i64 0, .int .i64 0, .int .i64 0, .int .i64 0, .int .i64 0, .int .i64 0, .int .i64 0] 60) = w1
  have A2 : Hid (Arr w1 w.heap.size (V (gl p q n)) 62) := Lib.hid (by rw [← hw1]; exact (Arr.new w _ _ rfl).alloc _)
  have A4 : Hid (Arr w1 (w.heap.size + 1) (V zeros) 60) := Lib.hid (by rw [← hw1]; exact Arr.new _ (V zeros) _ (by simp))
  have B1 : Hid (Below w.heap.size w w1) := Lib.hid (by rw [← hw1]; exact ((Below.refl _ _).alloc (Nat.le_refl _) _).alloc (by simp) _)
  have s1 : w1.heap.size = w.heap.size + 2 := by rw [← hw1]; simp
  clear hw1
  refine wp_region_held_drew (S := Hld w.heap.size w1.heap.size w1 [(w.heap.size, V (gl p q n))]) (by kernel_rfl) ((Hld.start1 A2.out).lower (by omega)) (fun hHeld => ?_)
  have b1 : Below w1.heap.size w1 w1.drew := ⟨rfl, rfl, rfl, Nat.le_refl _, fun _ _ => rfl⟩
  generalize w1.drew = w4 at *
  have s4 := b1.size
  replace A4 := Lib.hid (A4.out.keep b1 A4.out.lt)
  replace B1 := Lib.hid (B1.out.trans (b1.mono B1.out.size))
  clear b1 A2
  refine wpAnyH_take (i := 0) (v := .pointer (some ⟨w.heap.size, 0, none⟩)) rfl (by kernel_rfl) (by kernel_rfl) (by kernel_rfl) (fun _ _ _ h => h) (Or.inl ⟨by rfl, fun w hSw => by go_simp⟩) hHeld ?_
  refine wpAnyH_take (i := 2) (v := .pointer (some ⟨w.heap.size, 24, none⟩)) rfl (by kernel_rfl) (by kernel_rfl) (by kernel_rfl) (fun _ _ _ h => h) (Or.inl ⟨by rfl, fun w hSw => by go_simp⟩) hHeld ?_
  refine wpAnyH_take (i := 5) (v := .pointer (some ⟨w.heap.size, 0, none⟩)) rfl (by kernel_rfl) (by kernel_rfl) (by kernel_rfl) (fun _ _ _ h => h) (Or.inl ⟨by rfl, fun w hSw => by go_simp⟩) hHeld ?_
  refine wpAnyH_take (i := 9) (v := .pointer (some ⟨w.heap.size, 24, none⟩)) rfl (by kernel_rfl) (by kernel_rfl) (by kernel_rfl) (fun _ _ _ h => h) (Or.inl ⟨by rfl, fun w hSw => by go_simp⟩) hHeld ?_
  refine wpAnyH_take (i := 1) (v := .agg (V p).toArray) rfl (by kernel_rfl) (by kernel_rfl) (by kernel_rfl) (fun _ _ _ h => h) (yieldsIf_load_mid (by rfl) _ _ rfl (w.heap.size) 0 rfl (V p) _ (fun w h => rg_right HP.out.len h.fst) Try.underlying60 rfl (hi24 HP.out.len)) hHeld ?_
  refine wpAnyH_take (i := 3) (v := .agg (V q).toArray) rfl (by kernel_rfl) (by kernel_rfl) (by kernel_rfl) (fun _ _ _ h => h) (yieldsIf_load_mid (by rfl) _ _ rfl (w.heap.size) 24 rfl (V q) _ (fun w h => rg_up HP.out.len HQ.out.len h.fst) Try.underlying60 rfl (hi24 HQ.out.len)) hHeld ?_
  refine wpAnyH_take (i := 6) (v := .agg (V p).toArray) rfl (by kernel_rfl) (by kernel_rfl) (by kernel_rfl) (fun _ _ _ h => h) (yieldsIf_load_mid (by rfl) _ _ rfl (w.heap.size) 0 rfl (V p) _ (fun w h => rg_right HP.out.len h.fst) Try.underlying60 rfl (hi24 HP.out.len)) hHeld ?_
  refine wpAnyH_take (i := 10) (v := .agg (V q).toArray) rfl (by kernel_rfl) (by kernel_rfl) (by kernel_rfl) (fun _ _ _ h => h) (yieldsIf_load_mid (by rfl) _ _ rfl (w.heap.size) 24 rfl (V q) _ (fun w h => rg_up HP.out.len HQ.out.len h.fst) Try.underlying60 rfl (hi24 HQ.out.len)) hHeld ?_
  refine wpAnyH_ready (rs := [4]) (by kernel_rfl) (by simp) (AllReadyH.cons rfl (fun K hK => ?_) AllReadyH.nil)
  go_simp
  refine (inv.then_any p q _ HP.out HQ.out).mono ?_
  rintro e w' ⟨rfl, b1⟩
  replace A4 := Lib.hid (A4.out.keep b1 A4.out.lt)
  replace B1 := Lib.hid (B1.out.trans (b1.mono B1.out.size))
  go_wp2_with fail
  have hHeld2 := hHeld.later b1 (by omega); clear b1 hHeld
  refine hK.out _ _ hHeld2 (fun hHeld => ?_)
  clear hK K hHeld2
  refine wpAnyH_ready (rs := [7]) (by kernel_rfl) (by simp) (AllReadyH.cons rfl (fun K hK => ?_) AllReadyH.nil)
  go_simp
  refine (inverse_any p _ HP.out).mono ?_
  rintro e w' ⟨rfl, b1⟩
  replace A4 := Lib.hid (A4.out.keep b1 A4.out.lt)
  replace B1 := Lib.hid (B1.out.trans (b1.mono B1.out.size))
  go_wp2_with fail
  have hHeld2 := hHeld.later b1 (by omega); clear b1 hHeld
  refine hK.out _ _ hHeld2 (fun hHeld => ?_)
  clear hK K hHeld2
  refine wpAnyH_ready (rs := [8]) (by kernel_rfl) (by simp) (AllReadyH.cons rfl (fun K hK => ?_) AllReadyH.nil)
  go_simp
  refine (inv.then_any (thenL p q) (invTo 24 p 24) _ (then_sq HP.out HQ.out) (inv_sq _)).mono ?_
  rintro e w' ⟨rfl, b1⟩
  replace A4 := Lib.hid (A4.out.keep b1 A4.out.lt)
  replace B1 := Lib.hid (B1.out.trans (b1.mono B1.out.size))
  go_wp2_with fail
  have hHeld2 := hHeld.later b1 (by omega); clear b1 hHeld
  refine hK.out _ _ hHeld2 (fun hHeld => ?_)
  clear hK K hHeld2
  refine wpAnyH_ready (rs := [11]) (by kernel_rfl) (by simp) (AllReadyH.cons rfl (fun K hK => ?_) AllReadyH.nil)
  go_simp
  refine (inverse_any q _ HQ.out).mono ?_
  rintro e w' ⟨rfl, b1⟩
  replace A4 := Lib.hid (A4.out.keep b1 A4.out.lt)
  replace B1 := Lib.hid (B1.out.trans (b1.mono B1.out.size))
  go_wp2_with fail
  have hHeld2 := hHeld.later b1 (by omega); clear b1 hHeld
  refine hK.out _ _ hHeld2 (fun hHeld => ?_)
  clear hK K hHeld2
  refine wpAnyH_ready (rs := [12]) (by kernel_rfl) (by simp) (AllReadyH.cons rfl (fun K hK => ?_) AllReadyH.nil)
  go_simp
  refine (inv.then_any (thenL (thenL p q) (invTo 24 p 24)) (invTo 24 q 24) _ (then_sq (then_sq HP.out HQ.out) (inv_sq _)) (inv_sq _)).mono ?_
  rintro e w' ⟨rfl, b1⟩
  replace A4 := Lib.hid (A4.out.keep b1 A4.out.lt)
  replace B1 := Lib.hid (B1.out.trans (b1.mono B1.out.size))
  go_wp2_with fail
  have hHeld2 := hHeld.later b1 (by omega); clear b1 hHeld
  refine hK.out _ _ hHeld2 (fun hHeld => ?_)
  clear hK K hHeld2
  have HA : Hid (thenL (thenL (thenL p q) (invTo 24 p 24)) (invTo 24 q 24) = ar24 p q) := Lib.hid rfl
  rw [HA.out]
  have HL := Lib.hid (ar24_len p q)
  generalize haa : ar24 p q = a at *
  have HAA := Lib.hid haa; clear haa
  clear HA
  refine wpAnyH_ready (rs := [13]) (by kernel_rfl) (by simp) (AllReadyH.cons rfl (fun K hK => ?_) AllReadyH.nil)
  refine step_store_row rfl 60 _ _ rfl (w.heap.size + 1) (V a).toArray rfl rfl 60 (V zeros).toArray A4.out (size_V HL.out) (by simp [V_len, HL.out, zeros]) (one_V _) ?_
  refine hK.out _ _ (hHeld.other (by omega) (by simp) _) (fun hHeld2 => ?_)
  clear hK K hHeld2
  refine wpAnyH_done (by kernel_rfl) ?_ _
  go_wp2_with fail
  exact bodyPost_ret (v := .agg (V a).toArray) (results_cell_row rfl _ _ (w.heap.size + 1) 60 (V a).toArray (0, 0) _ rfl A4.out.row Try.underlying60 rfl (size_V HL.out)) rfl ⟨by rw [HAA.out], below_setRow B1.out (by omega) _⟩

theorem l02inv_gives (A : Option Addr) (n c : Nat) (xs : List Int) (hi : Nat) (w : World) (hx : Rd w hi A n (V xs)) (ok : Ok xs) (hn : xs.length = n) :
    Calls Try.prog 47 #[.slice A n c] w (Gives (Inv xs) w) := by
  subst hn; exact l02inv_any A _ c xs hi w hx ok
theorem _root_.Go.Proofs.Ytngglhbcpeigcaa.sf.Hld.c0 {base top a : Nat} {w W : World} {x y : Value} {l : List (Nat × List Value)} (h : Hld base top w ((a, [x, y]) :: l) W) : W.cell? ⟨a, 0, none⟩ = some x := by simpa using h.fst 0 x rfl
theorem _root_.Go.Proofs.Ytngglhbcpeigcaa.sf.Hld.c1 {base top a : Nat} {w W : World} {x y : Value} {l : List (Nat × List Value)} (h : Hld base top w ((a, [x, y]) :: l) W) : W.cell? ⟨a, 1, none⟩ = some y := by simpa using h.fst 1 y rfl
set_option maxHeartbeats 4000000 in
theorem around_spec (v : Value) (r u : List Int) (hi : Nat) (w : World) (hx : Srd w hi v r u) (hs : Sf r.length r u) :
    Calls Try.prog 74 #[v] w (Gives (comm r u) w) := by
  have HX := Lib.hid hx; clear hx
  have HS := Lib.hid hs; clear hs
  obtain ⟨P, n, c, Q, m, d, rfl, q1, q2, e1, e2, ht, HR⟩ := HX.out.open
  have RU : Hid (r.length = u.length) := Lib.hid (HS.out.lu ▸ rfl)
  have HI : Hid (n = m) := Lib.hid (by rw [← q1, ← q2]; exact RU.out)
  have Q1 := Lib.hid q1; have Q2 := Lib.hid q2; clear q1 q2
  go_enter Try.func74, Try.ntmps74
  go_wp2_with fail
  refine (l02then_any P n c Q m d r u _ _ _ (HR.out _).1 (HR.out _).2 HS.out.r HI.out).mono ?_
  rintro e w1 hg
  obtain ⟨v1, rfl, o1, b1⟩ := hg
  obtain ⟨P1, c1, rfl⟩ := own_form o1
  have hs1 : w.heap.size + 1 ≤ w1.heap.size := by have := b1.size; simpa using this
  have A0 := Lib.hid ((Arr.new w [.slice P n c, .slice Q m d] 28 rfl).keep b1 (by simp))
  have R1 := Lib.hid (Row.of_own o1)
  have B1 := Lib.hid (below1 _ _ b1)
  have X1 : Hid (Srd w1 hi (.agg #[.slice P n c, .slice Q m d]) r u) := Lib.hid (HX.out.keep (B1.out.mono ht) (Nat.le_refl _))
  clear o1 b1 HR
  go_wp2_with fail
  refine wp_region_held_drew (S := Hld w1.heap.size w1.heap.size w1 [(w.heap.size, [.slice P n c, .slice Q m d])]) (by kernel_rfl) (Hld.start1 A0.out) (fun hHeld => ?_)
  have b1 : Below w1.heap.size w1 w1.drew := ⟨rfl, rfl, rfl, Nat.le_refl _, fun _ _ => rfl⟩
  generalize w1.drew = w2 at *
  have s_ := b1.size; replace R1 := Lib.hid (R1.out.keep b1 R1.out.2.1); replace X1 := Lib.hid (X1.out.keep b1 X1.out.top); replace B1 := Lib.hid (B1.out.trans (b1.mono B1.out.size))
  replace A0 := Lib.hid (A0.out.keep b1 A0.out.lt); clear b1 s_
  refine wpAnyH_take (i := 0) (v := .pointer (some ⟨w.heap.size, 0, none⟩)) rfl (by kernel_rfl) (by kernel_rfl) (by kernel_rfl) (fun _ _ _ h => h) (Or.inl ⟨by rfl, fun w hSw => by go_simp⟩) hHeld ?_
  refine wpAnyH_take (i := 3) (v := .pointer (some ⟨w.heap.size, 1, none⟩)) rfl (by kernel_rfl) (by kernel_rfl) (by kernel_rfl) (fun _ _ _ h => h) (Or.inl ⟨by rfl, fun w hSw => by go_simp⟩) hHeld ?_
  refine wpAnyH_take (i := 1) (v := .slice P n c) rfl (by kernel_rfl) (by kernel_rfl) (by kernel_rfl) (fun _ _ _ h => h) (Or.inl ⟨by rfl, fun w hSw => by have := hSw.c0; go_simp⟩) hHeld ?_
  refine wpAnyH_take (i := 4) (v := .slice Q m d) rfl (by kernel_rfl) (by kernel_rfl) (by kernel_rfl) (fun _ _ _ h => h) (Or.inl ⟨by rfl, fun w hSw => by have := hSw.c1; go_simp⟩) hHeld ?_
  refine wpAnyH_ready (rs := [2]) (by kernel_rfl) (by simp) (AllReadyH.cons rfl (fun K hK => ?_) AllReadyH.nil)
  go_simp
  refine (l02inv_gives P n c r hi _ (Srd.fst X1.out) HS.out.r Q1.out).mono ?_
  rintro e w3 ⟨v3, rfl, o3, b1⟩
  obtain ⟨P3, c3, rfl⟩ := own_form o3
  have s_ := b1.size; replace R1 := Lib.hid (R1.out.keep b1 R1.out.2.1); replace X1 := Lib.hid (X1.out.keep b1 X1.out.top); replace B1 := Lib.hid (B1.out.trans (b1.mono B1.out.size))
  have R3 := Lib.hid (Row.of_own o3); clear o3 s_
  go_wp2_with fail
  have hHeld2 := hHeld.later b1 (by omega); clear b1 hHeld
  refine hK.out _ _ hHeld2 (fun hHeld => ?_)
  clear hK K hHeld2
  refine wpAnyH_ready (rs := [5]) (by kernel_rfl) (by simp) (AllReadyH.cons rfl (fun K hK => ?_) AllReadyH.nil)
  go_simp
  refine (l02inv_gives Q m d u hi _ (Srd.snd X1.out) HS.out.u Q2.out).mono ?_
  rintro e w4 ⟨v4, rfl, o4, b1⟩
  obtain ⟨P4, c4, rfl⟩ := own_form o4
  have s_ := b1.size; replace R1 := Lib.hid (R1.out.keep b1 R1.out.2.1); replace X1 := Lib.hid (X1.out.keep b1 X1.out.top); replace B1 := Lib.hid (B1.out.trans (b1.mono B1.out.size))
  replace R3 := Lib.hid (R3.out.keep b1 R3.out.2.1)
  have R4 := Lib.hid (Row.of_own o4); clear o4 s_
  go_wp2_with fail
  have hHeld2 := hHeld.later b1 (by omega); clear b1 hHeld
  refine hK.out _ _ hHeld2 (fun hHeld => ?_)
  clear hK K hHeld2
  refine wpAnyH_ready (rs := [6]) (by kernel_rfl) (by simp) (AllReadyH.cons rfl (fun K hK => ?_) AllReadyH.nil)
  go_simp
  refine (l02then_any P3 _ c3 P4 _ c4 (Inv r) (Inv u) _ _ _ R3.out.rd R4.out.rd (Inv_ok HS.out.r) (by rw [Inv_len, Inv_len]; exact RU.out)).mono ?_
  rintro e w5 ⟨v5, rfl, o5, b1⟩
  obtain ⟨P5, c5, rfl⟩ := own_form o5
  have s_ := b1.size; replace R1 := Lib.hid (R1.out.keep b1 R1.out.2.1); replace X1 := Lib.hid (X1.out.keep b1 X1.out.top); replace B1 := Lib.hid (B1.out.trans (b1.mono B1.out.size))
  replace R3 := Lib.hid (R3.out.keep b1 R3.out.2.1)
  replace R4 := Lib.hid (R4.out.keep b1 R4.out.2.1)
  have R5 := Lib.hid (Row.of_own o5); clear o5 s_
  go_wp2_with fail
  have hHeld2 := hHeld.later b1 (by omega); clear b1 hHeld
  refine hK.out _ _ hHeld2 (fun hHeld => ?_)
  clear hK K hHeld2
  refine wpAnyH_ready (rs := [7]) (by kernel_rfl) (by simp) (AllReadyH.cons rfl (fun K hK => ?_) AllReadyH.nil)
  go_simp
  refine hK.out _ _ hHeld (fun hHeld2 => ?_)
  clear hK K hHeld hHeld2
  refine wpAnyH_done (by kernel_rfl) ?_ _
  go_wp2_with fail
  refine (l02then_any P1 _ c1 P5 _ c5 (thn r u) (thn (Inv r) (Inv u)) _ _ _ R1.out.rd R5.out.rd (thn_ok HS.out.r HS.out.u RU.out) (by rw [thn_len, thn_len, Inv_len])).mono ?_
  rintro e w6 hg
  obtain ⟨v6, rfl, o6, b6⟩ := gives_later B1.out hg
  have O6 := Lib.hid o6; have B6 := Lib.hid b6; clear o6 b6 hg
  have HC : Hid (comm r u = thn (thn r u) (thn (Inv r) (Inv u))) := Lib.hid rfl
  rw [HC.out]
  go_wp2_with fail
  go_ret
  exact ⟨v6, rfl, O6.out, B6.out⟩
end Go.Proofs.Ytngglhbcpeigcaa.gl
