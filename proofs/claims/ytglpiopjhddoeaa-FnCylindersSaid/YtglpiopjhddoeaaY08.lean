import Derived.Test.YtglpiopjhddoeaaY07
import Derived.Lib.Slices
import Derived.Test.YtglpiopjhddoeaaY05
/-
  The letters on surfaces: valid surfaces stay valid, and each letter is undone by its inverse. Plain mathematics.
-/
namespace Go.Proofs.Ytglpiopjhddoeaa.pm
open Go.Proofs.Ytglpiopjhddoeaa.arr Go.Proofs.Ytglpiopjhddoeaa.inv Go.Proofs.Ytglpiopjhddoeaa.permOf
set_option linter.unusedVariables false
set_option maxRecDepth 100000

theorem Inv_Inv {q : List Int} (h : Ok q) : Inv (Inv q) = q := by
  refine list_eq q.length (by rw [Inv_len, Inv_len]) rfl fun i hi => ?_
  have hk := Inv_ok h
  have m := h.maps i hi
  have a := Inv_at hk (k := (q.getD i 0).toNat) (by rw [Inv_len]; omega)
  rw [Inv_at h hi, Int.toNat_natCast] at a
  rw [a]
  omega
theorem Inv_right {q : List Int} (h : Ok q) {x : Int} (x0 : 0 ≤ x) (x1 : x < q.length) : q.getD ((Inv q).getD x.toNat 0).toNat 0 = x := by
  obtain ⟨k, hk, e1, e2⟩ := at_Inv h (i := x.toNat) (by omega)
  rw [e1, Int.toNat_natCast, e2]
  omega
theorem Inv_left {q : List Int} (h : Ok q) {x : Int} (x0 : 0 ≤ x) (x1 : x < q.length) : (Inv q).getD (q.getD x.toNat 0).toNat 0 = x := by
  rw [Inv_at h (k := x.toNat) (by omega)]; omega
theorem Inv_thn {p q : List Int} (hp : Ok p) (hq : Ok q) (l : p.length = q.length) : Inv (thn p q) = thn (Inv q) (Inv p) := by
  have := grp_inv hp hq rfl l.symm
  rw [back_eq hp hq rfl l.symm, thenF_of hp hq l, invF_of (thn_ok hp hq l)] at this
  exact this
theorem thn_assoc {p q r : List Int} (hp : Ok p) (lq : p.length = q.length) : thn (thn p q) r = thn p (thn q r) := by
  refine list_eq p.length (by rw [thn_len, thn_len]) (by rw [thn_len]) fun i hi => ?_
  have m := hp.maps i hi
  rw [thn_at (by rw [thn_len]; exact hi), thn_at (ys := q) hi, thn_at (ys := thn q r) hi, thn_at (by omega)]
theorem thn_id {n : Nat} {p : List Int} (hp : Ok p) (l : p.length = n) : thn p (rng n) = p := by
  refine list_eq p.length (by rw [thn_len]) rfl fun i hi => ?_
  have m := hp.maps i hi
  rw [thn_at hi, rng_at (by omega)]
  omega
theorem id_thn {n : Nat} {p : List Int} (l : p.length = n) : thn (rng n) p = p :=
  list_eq n (by rw [thn_len, rng_len]) l fun i hi => by rw [thn_at (by rw [rng_len]; exact hi), rng_at hi, Int.toNat_natCast]
theorem thn_Inv {n : Nat} {q : List Int} (hq : Ok q) (lq : q.length = n) : thn q (Inv q) = rng n :=
  list_eq n (by rw [thn_len]; exact lq) (rng_len n) fun i hi => by rw [thn_at (by omega), Inv_at hq (by omega), rng_at hi]
theorem Inv_thn_self {n : Nat} {q : List Int} (hq : Ok q) (lq : q.length = n) : thn (Inv q) q = rng n := by
  have := thn_Inv (Inv_ok hq) (n := n) (by rw [Inv_len]; exact lq)
  rw [Inv_Inv hq] at this
  exact this
/-- A surface whose closed sets are closed under those of a valid one is valid. -/
theorem Sf.of_closed {n : Nat} {R U R' U' : List Int} (s : Sf n R U) (r' : Ok R') (u' : Ok U') (lr' : R'.length = n) (lu' : U'.length = n)
    (hc : ∀ C : List Int, In n C → (∀ x ∈ C, R'.getD x.toNat 0 ∈ C ∧ U'.getD x.toNat 0 ∈ C) → ∀ x ∈ C, R.getD x.toNat 0 ∈ C ∧ U.getD x.toNat 0 ∈ C) : Sf n R' U' := by
  have b1 : Bij n R' := by have := r'.bij; rw [lr'] at this; exact this
  have b2 : Bij n U' := by have := u'.bij; rw [lu'] at this; exact this
  have hp := s.pos
  have hin : In n (reach R' U' 0) := rs_in b1.maps b2.maps (by omega) (by omega) _
  have hcl : ∀ x ∈ reach R' U' 0, R'.getD x.toNat 0 ∈ reach R' U' 0 ∧ U'.getD x.toNat 0 ∈ reach R' U' 0 := fun x hx => reach_closed lr' b1.maps b2.maps (by omega) (by omega) hx
  have := reach_least (ps := R) (qs := U) (f := 0) (fun x => x ∈ reach R' U' 0) (reach_start _ _ _) (hc _ hin hcl) R.length
  refine ⟨r', u', lr', lu', hp, ?_⟩
  have h1 := nodup_sub_len (rng n) (reach R' U' 0) (rng_nodup n) (fun x hx => by
    rw [mem_rng] at hx
    exact this x (s.full (f := 0) (by omega) (by omega) hx.1 hx.2))
  rw [rng_len] at h1
  have := hin.len
  omega
theorem closed_Inv {n : Nat} {q C : List Int} (hq : Ok q) (lq : q.length = n) (hC : In n C) (hc : ∀ x ∈ C, (Inv q).getD x.toNat 0 ∈ C) : ∀ x ∈ C, q.getD x.toNat 0 ∈ C := by
  intro x hx
  have x0 := hC.lo x hx; have x1 := hC.hi x hx
  have b : Bij n (Inv q) := by have := (Inv_ok hq).bij; rw [Inv_len, lq] at this; exact this
  have m := hq.maps x.toNat (by omega)
  refine closed_back b hC hc m.1 (by omega) ?_
  rw [Inv_left hq x0 (by omega)]
  exact hx
theorem closed_q {n : Nat} {q C : List Int} (hq : Ok q) (lq : q.length = n) (hC : In n C) (hc : ∀ x ∈ C, q.getD x.toNat 0 ∈ C) : ∀ x ∈ C, (Inv q).getD x.toNat 0 ∈ C := by
  have := closed_Inv (Inv_ok hq) (n := n) (by rw [Inv_len]; exact lq) hC (by rw [Inv_Inv hq]; exact hc)
  exact this
def shearS (s : Sur) : Sur := (s.1, thn (Inv s.1) s.2)
def unshearS (s : Sur) : Sur := (s.1, thn s.1 s.2)
def turnS (s : Sur) : Sur := (Inv s.2, s.1)
def unturnS (s : Sur) : Sur := (s.2, Inv s.1)
section
variable {n : Nat} {R U : List Int} (s : Sf n R U)
include s
theorem shear_sf : Sf n (shearS (R, U)).1 (shearS (R, U)).2 := by
  refine s.of_closed s.r (thn_ok (Inv_ok s.r) s.u (by rw [Inv_len, s.lr, s.lu])) s.lr (by show (thn (Inv R) U).length = n; rw [thn_len, Inv_len]; exact s.lr) fun C hC hc x hx => ?_
  have h1 : R.getD x.toNat 0 ∈ C := (hc x hx).1
  refine ⟨h1, ?_⟩
  have h2 : (thn (Inv R) U).getD (R.getD x.toNat 0).toNat 0 ∈ C := (hc _ h1).2
  have x0 := hC.lo x hx; have x1 := hC.hi x hx
  have m := s.r.maps x.toNat (by have := s.lr; omega)
  have lr := s.lr
  rw [thn_at (by rw [Inv_len]; omega), Inv_left s.r x0 (by omega)] at h2
  exact h2
theorem unshear_sf : Sf n (unshearS (R, U)).1 (unshearS (R, U)).2 := by
  refine s.of_closed s.r (thn_ok s.r s.u (by rw [s.lr, s.lu])) s.lr (by show (thn R U).length = n; rw [thn_len]; exact s.lr) fun C hC hc x hx => ?_
  refine ⟨(hc x hx).1, ?_⟩
  have lr := s.lr
  have x0 := hC.lo x hx; have x1 := hC.hi x hx
  have hi := closed_q s.r s.lr hC (fun x hx => (hc x hx).1) x hx
  have h2 := (hc _ hi).2
  have i0 := hC.lo _ hi; have i1 := hC.hi _ hi
  change (thn R U).getD _ 0 ∈ C at h2
  rw [thn_at (by omega), Inv_right s.r x0 (by omega)] at h2
  exact h2
theorem turn_sf : Sf n (turnS (R, U)).1 (turnS (R, U)).2 := by
  refine s.of_closed (Inv_ok s.u) s.r (by show (Inv U).length = n; rw [Inv_len]; exact s.lu) s.lr fun C hC hc x hx => ?_
  exact ⟨(hc x hx).2, closed_Inv s.u s.lu hC (fun x hx => (hc x hx).1) x hx⟩
theorem unturn_sf : Sf n (unturnS (R, U)).1 (unturnS (R, U)).2 := by
  refine s.of_closed s.u (Inv_ok s.r) s.lu (by show (Inv R).length = n; rw [Inv_len]; exact s.lr) fun C hC hc x hx => ?_
  exact ⟨closed_Inv s.r s.lr hC (fun x hx => (hc x hx).2) x hx, (hc x hx).1⟩
theorem unshear_shear : unshearS (shearS (R, U)) = (R, U) := by
  show (R, thn R (thn (Inv R) U)) = (R, U)
  rw [← thn_assoc s.r (by rw [Inv_len]), thn_Inv s.r s.lr, id_thn s.lu]
theorem shear_unshear : shearS (unshearS (R, U)) = (R, U) := by
  show (R, thn (Inv R) (thn R U)) = (R, U)
  rw [← thn_assoc (Inv_ok s.r) (by rw [Inv_len]), Inv_thn_self s.r s.lr, id_thn s.lu]
theorem unturn_turn : unturnS (turnS (R, U)) = (R, U) := by
  show (R, Inv (Inv U)) = (R, U)
  rw [Inv_Inv s.u]
theorem turn_unturn : turnS (unturnS (R, U)) = (R, U) := by
  show (Inv (Inv R), U) = (R, U)
  rw [Inv_Inv s.r]
theorem turn4 : turnS (turnS (turnS (turnS (R, U)))) = (R, U) := by
  show (Inv (Inv R), Inv (Inv U)) = (R, U)
  rw [Inv_Inv s.r, Inv_Inv s.u]
end
end Go.Proofs.Ytglpiopjhddoeaa.pm

/-
  Corners, angles, stratum and genus: plain mathematics.
-/
namespace Go.Proofs.Ytglpiopjhddoeaa.pm
open Go.Proofs.Ytglpiopjhddoeaa.arr Go.Proofs.Ytglpiopjhddoeaa.inv Go.Proofs.Ytglpiopjhddoeaa.permOf
set_option linter.unusedVariables false
set_option maxRecDepth 100000

theorem foldmin (l : List Int) : ∀ a : Int, l.foldl min a ≤ a ∧ (∀ y ∈ l, l.foldl min a ≤ y) ∧ (l.foldl min a = a ∨ l.foldl min a ∈ l) := by
  induction l with
  | nil => intro a; exact ⟨Int.le_refl _, by simp, .inl rfl⟩
  | cons x l ih =>
    intro a
    obtain ⟨h1, h2, h3⟩ := ih (min a x)
    rw [List.foldl_cons]
    refine ⟨by omega, fun y hy => ?_, ?_⟩
    · rcases List.mem_cons.1 hy with rfl | hy
      · omega
      · exact h2 y hy
    · rcases h3 with h3 | h3
      · rw [h3]
        rcases Int.le_total a x with q | q
        · exact .inl (by omega)
        · exact .inr (List.mem_cons.2 (.inl (by omega)))
      · exact .inr (List.mem_cons.2 (.inr h3))
theorem minOf_iff {l : List Int} {x : Int} (h : x ∈ l) : Lib.minOf l = x ↔ ∀ y ∈ l, x ≤ y := by
  cases l with
  | nil => simp at h
  | cons a l =>
    obtain ⟨h1, h2, h3⟩ := foldmin l a
    have e : Lib.minOf (a :: l) = l.foldl min a := by simp [Lib.minOf]
    rw [e]
    constructor
    · rintro rfl y hy
      rcases List.mem_cons.1 hy with rfl | hy
      · exact h1
      · exact h2 y hy
    · intro q
      have a1 : l.foldl min a ≤ x := by
        rcases List.mem_cons.1 h with rfl | h
        · exact h1
        · exact h2 x h
      have a2 : x ≤ l.foldl min a := by
        rcases h3 with h3 | h3
        · rw [h3]; exact q a (List.mem_cons.2 (.inl rfl))
        · exact q _ (List.mem_cons.2 (.inr h3))
      omega
theorem mn_iff {n : Nat} {ps : List Int} (hb : Bij n ps) {f : Int} (f0 : 0 ≤ f) (f1 : f < n) : Lib.minOf (cyc ps n f) = f ↔ mn ps n f = true := by
  rw [minOf_iff (cyc_self hb f0 f1)]; simp [mn]
theorem in_cso_iff {n k : Nat} {ps : List Int} (hb : Bij n ps) (hk : k < n) : (k : Int) ∈ (cso ps n k).flatten ↔ mn ps n (k : Int) = false := by
  rw [mem_cso hb k (by omega)]
  unfold mn
  rw [decide_eq_false_iff_not]
  constructor
  · rintro ⟨j, hj, q⟩ h
    have := h _ (cyc_symm hb (by omega) (by omega) q)
    omega
  · intro h
    have : ∃ y, y ∈ cyc ps n (k : Int) ∧ y < (k : Int) := by
      rcases Classical.em (∃ y, y ∈ cyc ps n (k : Int) ∧ y < (k : Int)) with q | q
      · exact q
      · exact absurd (fun y hy => Int.not_lt.1 (fun hlt => q ⟨y, hy, hlt⟩)) h
    obtain ⟨y, hy, hlt⟩ := this
    have hw := cyc_way (f := (k : Int)) hb (by omega) (by omega)
    have y0 := hw.inn.lo y hy
    exact ⟨y.toNat, by omega, by rw [Int.toNat_of_nonneg y0]; exact cyc_symm hb (by omega) (by omega) hy⟩
/-- The next cycle: that of k, if k is the least of it. -/
theorem cso_yes {n k : Nat} {ps : List Int} (hb : Bij n ps) (hk : k < n) (h : Lib.minOf (cyc ps n (k : Int)) = (k : Int)) : cso ps n (k + 1) = cso ps n k ++ [cyc ps n (k : Int)] := by
  have q := (mn_iff hb (by omega) (by omega)).1 h
  rw [cso, if_neg (fun e => by rw [(in_cso_iff hb hk).1 e] at q; cases q)]
theorem cso_no {n k : Nat} {ps : List Int} (hb : Bij n ps) (hk : k < n) (h : Lib.minOf (cyc ps n (k : Int)) ≠ (k : Int)) : cso ps n (k + 1) = cso ps n k := by
  rw [cso, if_pos]
  rw [in_cso_iff hb hk]
  cases q : mn ps n (k : Int) with
  | false => rfl
  | true => exact absurd ((mn_iff hb (by omega) (by omega)).2 q) h

theorem ok_ext {xs : List Int} (h : Ok xs) : Ok (ext xs) := by
  have hl := h.len
  refine ⟨by rw [ext_len]; omega, fun i hi => h.sq.lo i (by rwa [ext_len] at hi), fun i hi => by rw [ext_len] at *; exact h.sq.hi i hi, fun i j hi hj e => ?_⟩
  rw [ext_len] at hi hj
  rw [ext_at hi, ext_at hj] at e
  split at e <;> split at e
  · exact h.inj i j (by assumption) (by assumption) e
  · have := h.hi i (by assumption); omega
  · have := h.hi j (by assumption); omega
  · omega
theorem thn_ext {xs ys : List Int} (h : Ok xs) (h' : Ok ys) (e : xs.length = ys.length) : thenL (ext xs) (ext ys) = ext (thn xs ys) := by
  have hl := h.len
  refine list_eq 24 (by unfold thenL; exact tab_len _) (ext_len _) fun i hi => ?_
  rw [thenL_at _ _ hi, ext_at hi, ext_at hi, thn_len]
  by_cases q : i < xs.length
  · have a := h.lo i q; have b := h.hi i q
    rw [if_pos q, if_pos q, thn_at q, ext_at (by omega), if_pos (by omega)]
  · rw [if_neg q, if_neg q, Int.toNat_natCast, ext_at hi, if_neg (by omega)]
theorem inv_ext {xs : List Int} (h : Ok xs) : invTo 24 (ext xs) 24 = ext (Inv xs) := by
  have hl := h.len
  refine list_eq 24 (invTo_len _ _ _) (ext_len _) fun i hi => ?_
  rw [ext_at hi, Inv_len]
  by_cases q : i < xs.length
  · rw [if_pos q]
    obtain ⟨k, hk, e1, e2⟩ := at_Inv h q
    have a := inv_at (ok_ext h) (k := k) (by rw [ext_len]; omega)
    rw [ext_at (by omega), if_pos hk, e2, ext_len, Int.toNat_natCast] at a
    rw [a, e1]
  · rw [if_neg q]
    have a := inv_at (ok_ext h) (k := i) (by rw [ext_len]; omega)
    rw [ext_at hi, if_neg q, ext_len, Int.toNat_natCast] at a
    exact a
/-- The round as the program reckons it, among 24. -/
def ar24 (p q : List Int) : List Int := thenL (thenL (thenL p q) (invTo 24 p 24)) (invTo 24 q 24)
theorem ar24_len (p q : List Int) : (ar24 p q).length = 24 := by unfold ar24 thenL; exact tab_len _
section
variable {n : Nat} {R U : List Int} (s : Sf n R U)
include s
theorem Sf.small : n ≤ 24 := by have := s.r.len; have := s.lr; omega
theorem Sf.comm : Ok (comm R U) ∧ (comm R U).length = n := comm_ok s.r s.u s.lr s.lu
theorem Sf.commB : Bij n (pm.comm R U) := s.comm.1.bij' s.comm.2
theorem ar24_ext : ar24 (ext R) (ext U) = ext (comm R U) := by
  have l1 : R.length = U.length := by rw [s.lr, s.lu]
  have o1 := thn_ok s.r s.u l1
  have l2 : (thn R U).length = (Inv R).length := by rw [thn_len, Inv_len]
  have o2 := thn_ok o1 (Inv_ok s.r) l2
  have l3 : (thn (thn R U) (Inv R)).length = (Inv U).length := by rw [thn_len, thn_len, Inv_len, l1]
  unfold ar24
  rw [thn_ext s.r s.u l1, inv_ext s.r, inv_ext s.u, thn_ext o1 (Inv_ok s.r) l2, thn_ext o2 (Inv_ok s.u) l3, thn_assoc o1 l2]
  rfl
end
theorem take_ext (xs : List Int) (h : xs.length ≤ 24) : (ext xs).take xs.length = xs := by
  refine list_eq xs.length (by simp [ext_len]; omega) rfl fun i hi => ?_
  have e : (ext xs).getD i 0 = xs.getD i 0 := by rw [ext_at (by omega), if_pos hi]
  rw [← e]
  simp [List.getD, hi]

/-- The round, the corners, the angles, the stratum, the genus, whether a corner is regular. -/
def arF (r u : List Int) : List Int := if transB r u then comm r u else []
def corF (r u : List Int) : List (List Int) := if transB r u then cso (comm r u) r.length r.length else []
def angF (r u : List Int) : List Int := sortD ((corF r u).map fun xs => (xs.length : Int))
def strL (l : List Int) : List Int := (l.filter fun a => decide (1 < a)).map fun a => a - 1
def strF (r u : List Int) : List Int := strL (angF r u)
def genF (r u : List Int) : Int := if transB r u then 1 + ((r.length : Int) - (corF r u).length) / 2 else -1
def regF (r u : List Int) (a : Int) : Bool := transB r u && (decide (0 ≤ a) && (decide (a < r.length) && decide ((comm r u).getD a.toNat 0 = a)))
theorem arF_yes {r u : List Int} (h : transB r u = true) : arF r u = comm r u := by simp [arF, h]
theorem arF_no {r u : List Int} (h : transB r u = false) : arF r u = [] := by simp [arF, h]
theorem corF_yes {r u : List Int} (h : transB r u = true) : corF r u = cso (comm r u) r.length r.length := by simp [corF, h]
theorem corF_no {r u : List Int} (h : transB r u = false) : corF r u = [] := by simp [corF, h]
theorem corF_cyc {r u : List Int} (h : transB r u = true) : corF r u = cycF (comm r u) := by
  have s := transB_iff.1 h
  rw [corF_yes h, cycF, s.comm.1.b, if_pos rfl, s.comm.2]
theorem arF_len (r u : List Int) : (arF r u).length ≤ 1048576 := by
  unfold arF; split
  · rename_i h
    have s := transB_iff.1 h
    have := s.comm.2; have := s.small; omega
  · simp
theorem corF_small (r u : List Int) : (corF r u).length ≤ 24 ∧ ((corF r u).map List.length).sum ≤ 24 := by
  cases h : transB r u with
  | false => rw [corF_no h]; simp
  | true =>
    have s := transB_iff.1 h
    have hc := cso_cs s.commB r.length (Nat.le_refl _)
    have h1 := cso_len s.commB
    have := s.small; have := hc.len
    rw [corF_yes h]
    omega
theorem angF_len (r u : List Int) : (angF r u).length ≤ 1048576 := by
  have := (corF_small r u).1
  simp [angF, sortD_len]; omega
theorem strL_len (l : List Int) : (strL l).length ≤ l.length := by
  unfold strL; rw [List.length_map]; exact List.length_filter_le _ _
theorem strF_len (r u : List Int) : (strF r u).length ≤ 1048576 := Nat.le_trans (strL_len _) (angF_len r u)
theorem strL_snoc (l : List Int) (a : Int) : strL (l ++ [a]) = if 1 < a then strL l ++ [a - 1] else strL l := by
  unfold strL
  rw [List.filter_append, List.map_append]
  by_cases h : 1 < a <;> simp [h]
end Go.Proofs.Ytglpiopjhddoeaa.pm

/-
  The rows of a surface and the rows above them: mathematics alone.
-/
namespace Go.Proofs.Ytglpiopjhddoeaa.cy
open Go.Proofs.Ytglpiopjhddoeaa.pm Go.Proofs.Ytglpiopjhddoeaa.arr Go.Proofs.Ytglpiopjhddoeaa.inv Go.Proofs.Ytglpiopjhddoeaa.permOf
set_option linter.unusedVariables false
set_option maxRecDepth 100000

structure Rws (n : Nat) (ps : List Int) (rr : List (List Int)) : Prop where
  bij : Bij n ps
  inn : In n rr.flatten
  all : ∀ y : Nat, y < n → (y : Int) ∈ rr.flatten
  row : ∀ (i : Nat) (xs : List Int), rr[i]? = some xs → ∃ f : Nat, f < n ∧ xs = cyc ps n (f : Int)
  len : rr.length ≤ n
theorem Rws.of {n : Nat} {ps : List Int} (hb : Bij n ps) : Rws n ps (cso ps n n) :=
  have h := cso_cs hb n (Nat.le_refl _)
  ⟨hb, h.inn, h.all, fun i xs hx => cso_cyc n (Nat.le_refl _) xs (List.mem_of_getElem? hx), h.len⟩
theorem flat_same : ∀ {rr : List (List Int)} {i j : Nat} {xs ys : List Int} {y : Int}, rr.flatten.Nodup → rr[i]? = some xs → rr[j]? = some ys → y ∈ xs → y ∈ ys → i = j
  | [], i, j, xs, ys, y, h, hi, hj, h1, h2 => by simp at hi
  | z :: t, 0, 0, xs, ys, y, h, hi, hj, h1, h2 => rfl
  | z :: t, 0, j + 1, xs, ys, y, h, hi, hj, h1, h2 => by
    rw [List.flatten_cons, List.nodup_append] at h
    obtain rfl : z = xs := by simpa using hi
    exact absurd rfl (h.2.2 y h1 y (List.mem_flatten.2 ⟨ys, List.mem_of_getElem? (by simpa using hj), h2⟩))
  | z :: t, i + 1, 0, xs, ys, y, h, hi, hj, h1, h2 => by
    rw [List.flatten_cons, List.nodup_append] at h
    obtain rfl : z = ys := by simpa using hj
    exact absurd rfl (h.2.2 y h2 y (List.mem_flatten.2 ⟨xs, List.mem_of_getElem? (by simpa using hi), h1⟩))
  | z :: t, i + 1, j + 1, xs, ys, y, h, hi, hj, h1, h2 => by
    rw [List.flatten_cons, List.nodup_append] at h
    rw [flat_same (i := i) (j := j) h.2.1 (by simpa using hi) (by simpa using hj) h1 h2]
section
variable {n : Nat} {ps : List Int} {rr : List (List Int)} (h : Rws n ps rr)
include h
theorem Rws.same {i j : Nat} {xs ys : List Int} {y : Int} (hi : rr[i]? = some xs) (hj : rr[j]? = some ys) (h1 : y ∈ xs) (h2 : y ∈ ys) : i = j := flat_same h.inn.nd hi hj h1 h2
theorem Rws.has {y : Int} (y0 : 0 ≤ y) (y1 : y < n) : ∃ (i : Nat) (xs : List Int), rr[i]? = some xs ∧ y ∈ xs := by
  have := h.all y.toNat (by omega)
  rw [Int.toNat_of_nonneg y0] at this
  obtain ⟨xs, h1, h2⟩ := List.mem_flatten.1 this
  obtain ⟨i, hi, e⟩ := List.getElem_of_mem h1
  exact ⟨i, xs, by rw [List.getElem?_eq_getElem hi, e], h2⟩
theorem Rws.rng {i : Nat} {xs : List Int} {y : Int} (hx : rr[i]? = some xs) (hy : y ∈ xs) : 0 ≤ y ∧ y < n := by
  have : y ∈ rr.flatten := List.mem_flatten.2 ⟨xs, List.mem_of_getElem? hx, hy⟩
  exact ⟨h.inn.lo y this, h.inn.hi y this⟩
theorem Rws.way {i : Nat} {xs : List Int} (hx : rr[i]? = some xs) : ∃ f : Nat, f < n ∧ xs = cyc ps n (f : Int) ∧ pm.Way n ps f f xs := by
  obtain ⟨f, h1, h2⟩ := h.row i xs hx
  exact ⟨f, h1, h2, by rw [h2]; exact cyc_way h.bij (by omega) (by omega)⟩
theorem Rws.head {i : Nat} {xs : List Int} (hx : rr[i]? = some xs) : 0 < xs.length ∧ xs.getD 0 0 ∈ xs := by
  obtain ⟨f, h1, h2, w⟩ := h.way hx
  exact ⟨w.pos, getD_mem w.pos⟩
theorem Rws.reach {i : Nat} {xs : List Int} {y z : Int} (hx : rr[i]? = some xs) (hy : y ∈ xs) (hz : z ∈ xs) : ∃ m, it ps y m = z := by
  obtain ⟨f, h1, h2, w⟩ := h.way hx
  obtain ⟨a, a1, a2⟩ := mem_getD hy
  obtain ⟨b, b1, b2⟩ := mem_getD hz
  rw [way_it w a a1] at a2
  rw [way_it w b b1] at b2
  refine ⟨xs.length - a + b, ?_⟩
  rw [← a2, it_add, show a + (xs.length - a + b) = xs.length + b by omega, ← it_add, ← way_last w, b2]
theorem Rws.next {i : Nat} {xs : List Int} {y : Int} (hx : rr[i]? = some xs) (hy : y ∈ xs) : ps.getD y.toNat 0 ∈ xs := by
  obtain ⟨f, h1, h2, w⟩ := h.way hx
  obtain ⟨a, a1, a2⟩ := mem_getD hy
  by_cases q : a + 1 < xs.length
  · have := w.step a q
    rw [a2] at this
    rw [← this]
    exact getD_mem q
  · have e : a = xs.length - 1 := by omega
    have := w.last
    rw [← e, a2] at this
    rw [← this, ← w.head]
    exact getD_mem w.pos
theorem Rws.it_in {i : Nat} {xs : List Int} {y : Int} (hx : rr[i]? = some xs) (hy : y ∈ xs) : ∀ m, it ps y m ∈ xs
  | 0 => hy
  | m + 1 => h.next hx (Rws.it_in hx hy m)
end

def rix : List (List Int) → Int → Int
  | [], _ => -1
  | xs :: t, y => if y ∈ xs then 0 else if rix t y < 0 then -1 else rix t y + 1
theorem rix_low : ∀ (rr : List (List Int)) (y : Int), -1 ≤ rix rr y ∧ rix rr y < rr.length
  | [], y => by simp [rix]
  | xs :: t, y => by
    have := rix_low t y
    rw [rix]
    simp only [List.length_cons]
    split
    · omega
    · split <;> omega
theorem rix_at : ∀ {rr : List (List Int)} {y : Int} {k : Nat} {xs : List Int}, rr[k]? = some xs → y ∈ xs → (∀ j : Nat, j < k → ∀ zs : List Int, rr[j]? = some zs → ¬ y ∈ zs) → rix rr y = k
  | [], y, k, xs, h, _, _ => by simp at h
  | z :: t, y, 0, xs, h, hy, _ => by
    obtain rfl : z = xs := by simpa using h
    rw [rix, if_pos hy]; rfl
  | z :: t, y, k + 1, xs, h, hy, hn => by
    have := rix_at (rr := t) (y := y) (k := k) (by simpa using h) hy (fun j hj zs hz => hn (j + 1) (by omega) zs (by simpa using hz))
    rw [rix, if_neg (hn 0 (by omega) z rfl), this, if_neg (by omega)]
    omega
theorem rix_none : ∀ {rr : List (List Int)} {y : Int}, (∀ (j : Nat) (zs : List Int), rr[j]? = some zs → ¬ y ∈ zs) → rix rr y = -1
  | [], y, _ => rfl
  | z :: t, y, hn => by
    have := rix_none (rr := t) (y := y) (fun j zs hz => hn (j + 1) zs (by simpa using hz))
    rw [rix, if_neg (hn 0 z rfl), this, if_pos (by omega)]
theorem rix_mem : ∀ {rr : List (List Int)} {y : Int} {k : Nat}, rix rr y = k → ∃ xs, rr[k]? = some xs ∧ y ∈ xs
  | [], y, k, h => by simp [rix] at h
  | z :: t, y, k, h => by
    rw [rix] at h
    split at h
    · rename_i q
      have : k = 0 := by omega
      subst this
      exact ⟨z, rfl, q⟩
    · split at h
      · omega
      · obtain ⟨xs, h1, h2⟩ := rix_mem (rr := t) (y := y) (k := k - 1) (by omega)
        obtain ⟨m, rfl⟩ : ∃ m, k = m + 1 := ⟨k - 1, by omega⟩
        exact ⟨xs, by simpa using h1, h2⟩
theorem Rws.rix {n : Nat} {ps : List Int} {rr : List (List Int)} (h : Rws n ps rr) {i : Nat} {xs : List Int} {y : Int} (hx : rr[i]? = some xs) (hy : y ∈ xs) : rix rr y = i :=
  rix_at hx hy fun j hj zs hz q => by have := h.same hx hz hy q; omega

def regB (c xs : List Int) : Bool := xs.all fun x => decide (c.getD x.toNat 0 = x)
def abF (c u : List Int) (rr : List (List Int)) : List Int := rr.map fun xs => if regB c xs then rix rr (u.getD (xs.getD 0 0).toNat 0) else -1
theorem abF_len (c u : List Int) (rr : List (List Int)) : (abF c u rr).length = rr.length := by simp [abF]
theorem abF_at {c u : List Int} {rr : List (List Int)} {i : Nat} {xs : List Int} (h : rr[i]? = some xs) : at_ (abF c u rr) i = if regB c xs then rix rr (u.getD (xs.getD 0 0).toNat 0) else -1 := by
  simp [at_, abF, h]
theorem comm_fix {n : Nat} {r u : List Int} (s : Sf n r u) {x : Int} (x0 : 0 ≤ x) (x1 : x < n) : (comm r u).getD x.toNat 0 = x ↔ u.getD (r.getD x.toNat 0).toNat 0 = r.getD (u.getD x.toNat 0).toNat 0 := by
  have hr := s.br.maps x.toNat (by omega)
  have hu := s.bu.maps x.toNat (by omega)
  have hur := s.bu.maps (r.getD x.toNat 0).toNat (by omega)
  have lI : (Inv r).length = n := by rw [Inv_len, s.lr]
  have e : (comm r u).getD x.toNat 0 = (Inv u).getD ((Inv r).getD (u.getD (r.getD x.toNat 0).toNat 0).toNat 0).toNat 0 := by
    unfold comm
    have e1 : (thn r u).getD x.toNat 0 = u.getD (r.getD x.toNat 0).toNat 0 := thn_at (by rw [s.lr]; omega)
    rw [thn_at (by rw [thn_len, s.lr]; omega), e1, thn_at (by omega)]
  rw [e]
  constructor
  · intro q
    have iR := (Inv_ok s.r).maps (u.getD (r.getD x.toNat 0).toNat 0).toNat (by omega)
    rw [lI] at iR
    have := Inv_right s.u (x := (Inv r).getD (u.getD (r.getD x.toNat 0).toNat 0).toNat 0) iR.1 (by rw [s.lu]; exact iR.2)
    rw [q] at this
    rw [this]
    exact (Inv_right s.r hur.1 (by rw [s.lr]; exact hur.2)).symm
  · intro q
    rw [q, Inv_left s.r hu.1 (by rw [s.lr]; exact hu.2), Inv_left s.u x0 (by rw [s.lu]; exact x1)]
theorem ab_row {r u : List Int} {rr : List (List Int)} {i x : Nat} (hi : i < rr.length) (hx : at_ (abF (comm r u) u rr) i = x) : ∃ xs ys, rr[i]? = some xs ∧ rr[x]? = some ys ∧ regB (comm r u) xs = true ∧ u.getD (xs.getD 0 0).toNat 0 ∈ ys := by
  have e := List.getElem?_eq_getElem hi
  rw [abF_at e] at hx
  split at hx
  · rename_i q
    obtain ⟨ys, h1, h2⟩ := rix_mem hx
    exact ⟨_, ys, e, h1, q, h2⟩
  · omega
section
variable {n : Nat} {r u : List Int} (s : Sf n r u) {rr : List (List Int)} (h : Rws n r rr)
include s h
theorem up_it {i : Nat} {xs : List Int} (hx : rr[i]? = some xs) (hreg : regB (comm r u) xs = true) {y : Int} (hy : y ∈ xs) : ∀ m, u.getD (it r y m).toNat 0 = it r (u.getD y.toNat 0) m
  | 0 => rfl
  | m + 1 => by
    have hm := h.it_in hx hy m
    obtain ⟨a, b⟩ := h.rng hx hm
    have q : (comm r u).getD (it r y m).toNat 0 = it r y m := by
      have := List.all_eq_true.1 hreg _ hm
      simpa using this
    show u.getD (r.getD (it r y m).toNat 0).toNat 0 = r.getD (it r (u.getD y.toNat 0) m).toNat 0
    rw [← up_it hx hreg hy m]
    exact (comm_fix s a b).1 q
theorem ab_inj : Inj rr.length (abF (comm r u) u rr) := by
  refine ⟨abF_len _ _ _, fun i hi => ?_, fun i hi => ?_, fun i j x hi hj ei ej => ?_⟩
  · rw [abF_at (List.getElem?_eq_getElem hi)]
    split
    · exact (rix_low _ _).2
    · omega
  · rw [abF_at (List.getElem?_eq_getElem hi)]
    split
    · exact (rix_low _ _).1
    · omega
  · obtain ⟨xs, zs, x1, x2, x3, x4⟩ := ab_row hi ei
    obtain ⟨ys, zs', y1, y2, y3, y4⟩ := ab_row hj ej
    have e : zs' = zs := by rw [x2] at y2; exact (Option.some.inj y2).symm
    subst e
    obtain ⟨m, hm⟩ := h.reach x2 x4 y4
    rw [← up_it s h x1 x3 (h.head x1).2] at hm
    have a1 := h.it_in x1 (h.head x1).2 m
    have a2 := h.rng x1 a1
    have b1 := (h.head y1).2
    have b2 := h.rng y1 b1
    have := s.bu.inj _ _ (by omega) (by omega) hm
    have e2 : it r (xs.getD 0 0) m = ys.getD 0 0 := by omega
    rw [e2] at a1
    exact h.same x1 y1 a1 b1
/-- Rws of one cylinder have the same length. -/
theorem ab_len {i x : Nat} (hi : i < rr.length) (hx : at_ (abF (comm r u) u rr) i = x) {xs ys : List Int} (h1 : rr[i]? = some xs) (h2 : rr[x]? = some ys) : ys.length = xs.length := by
  obtain ⟨xs', ys', x1, x2, x3, x4⟩ := ab_row hi hx
  have e1 : xs' = xs := by rw [h1] at x1; exact (Option.some.inj x1).symm
  have e2 : ys' = ys := by rw [h2] at x2; exact (Option.some.inj x2).symm
  subst e1; subst e2
  have hf := (h.head h1).2
  obtain ⟨f0, f1⟩ := h.rng h1 hf
  obtain ⟨g0, g1⟩ := h.rng h2 x4
  obtain ⟨a, a1, a2, _⟩ := h.way h1
  obtain ⟨b, b1, b2, _⟩ := h.way h2
  have wf := cyc_way h.bij f0 f1
  have wg := cyc_way h.bij g0 g1
  have p1 : (cyc r n (xs'.getD 0 0)).length = xs'.length := by
    rw [a2] at hf
    have := per_same h.bij (f := (a : Int)) (by omega) (by omega) hf
    rw [← a2] at this hf
    exact this
  have p2 : (cyc r n (u.getD (xs'.getD 0 0).toNat 0)).length = ys'.length := by
    rw [b2] at x4
    have := per_same h.bij (f := (b : Int)) (by omega) (by omega) x4
    rw [← b2] at this
    exact this
  rw [← p1, ← p2]
  generalize hfe : xs'.getD 0 0 = f at *
  have ui := fun m => up_it s h h1 x3 (y := f) (by rw [← hfe]; exact (h.head h1).2) m
  generalize hge : u.getD f.toNat 0 = g at *
  have lf := way_last wf
  have lg := way_last wg
  have pf := wf.pos
  have pg := wg.pos
  rcases Nat.lt_trichotomy (cyc r n g).length (cyc r n f).length with q | q | q
  · have e : it r f (cyc r n g).length = f := by
      have e0 : u.getD (it r f (cyc r n g).length).toNat 0 = u.getD f.toNat 0 := by rw [ui, ← lg, hge]
      have hin := Go.Proofs.Ytglpiopjhddoeaa.pm.it_in h.bij f0 f1 (cyc r n g).length
      have := s.bu.inj _ _ (by omega) (by omega) e0
      omega
    have := nodup_getD wf.inn.nd (i := (cyc r n g).length) (j := 0) q pf (by rw [way_it wf _ q, e, wf.head])
    omega
  · exact q
  · have e : it r g (cyc r n f).length = g := by rw [← ui, ← lf, hge]
    have := nodup_getD wg.inn.nd (i := (cyc r n f).length) (j := 0) q pg (by rw [way_it wg _ q, e, wg.head])
    omega
end
end Go.Proofs.Ytglpiopjhddoeaa.cy
