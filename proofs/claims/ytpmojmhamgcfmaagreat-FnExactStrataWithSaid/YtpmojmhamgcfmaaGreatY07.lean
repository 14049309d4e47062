import Derived.Test.YtpmojmhamgcfmaaGreatY06
import Derived.Test.YtpmojmhamgcfmaaGreatY05
import Derived.Lib.Slices
import Derived.Test.YtpmojmhamgcfmaaGreatY01
import Derived.Lib.SmallJoins
import Derived.RegionTactic
import Derived.BigRegion
import Derived.Deep.RegionHeld3
import Derived.Test.YtpmojmhamgcfmaaGreatY03
import Derived.Laws.OwnMore
/-
  The number of cycles of a product, modulo 2; a commutator's differs from the number of elements by an even number: plain mathematics.
-/
namespace Go.Proofs.YtpmojmhamgcfmaaGreat.pm
open Go.Proofs.YtpmojmhamgcfmaaGreat.arr Go.Proofs.YtpmojmhamgcfmaaGreat.inv Go.Proofs.YtpmojmhamgcfmaaGreat.permOf
set_option linter.unusedVariables false
set_option maxRecDepth 100000

def sg (a b i : Nat) : Nat := if i = a then b else if i = b then a else i
theorem sg_lt {n a b i : Nat} (ha : a < n) (hb : b < n) (hi : i < n) : sg a b i < n := by unfold sg; split <;> (try split) <;> omega
theorem sg_inj {a b i j : Nat} (h : sg a b i = sg a b j) : i = j := by
  unfold sg at h; split at h <;> split at h <;> (try split at h) <;> (try split at h) <;> omega
def swp (q : List Int) (a b : Nat) : List Int := (q.set a (q.getD b 0)).set b (q.getD a 0)
theorem swp_len (q : List Int) (a b : Nat) : (swp q a b).length = q.length := by simp [swp]
theorem swp_at {q : List Int} {a b i : Nat} (ha : a < q.length) (hb : b < q.length) : (swp q a b).getD i 0 = q.getD (sg a b i) 0 := by
  unfold swp sg
  rw [getD_set, getD_set]
  by_cases e2 : b = i
  · rw [if_pos ⟨e2, by simp; omega⟩]
    by_cases e1 : i = a
    · rw [if_pos e1]; congr 1; omega
    · rw [if_neg e1, if_pos e2.symm]
  · rw [if_neg (fun h => e2 h.1)]
    by_cases e1 : a = i
    · rw [if_pos ⟨e1, by omega⟩, if_pos e1.symm]
    · rw [if_neg (fun h => e1 h.1), if_neg (fun h => e1 h.symm), if_neg (fun h => e2 h.symm)]
theorem swp_ok {q : List Int} {a b : Nat} (h : Ok q) (ha : a < q.length) (hb : b < q.length) : Ok (swp q a b) := by
  refine ⟨by rw [swp_len]; exact h.len, fun i hi => ?_, fun i hi => ?_, fun i j hi hj e => ?_⟩
  · rw [swp_len] at hi; rw [swp_at ha hb]; exact h.lo _ (sg_lt ha hb hi)
  · rw [swp_len] at hi ⊢; rw [swp_at ha hb]; exact h.hi _ (sg_lt ha hb hi)
  · rw [swp_len] at hi hj
    rw [swp_at ha hb, swp_at ha hb] at e
    exact sg_inj (h.inj _ _ (sg_lt ha hb hi) (sg_lt ha hb hj) e)
theorem Ok.bij' {n : Nat} {q : List Int} (h : Ok q) (l : q.length = n) : Bij n q := by subst l; exact h.bij
theorem swp_xch {n : Nat} {q : List Int} {a b : Nat} (h : Ok q) (l : q.length = n) (ha : a < n) (hb : b < n) (ne : a ≠ b) : Xch n q (swp q a b) a b := by
  refine ⟨h.bij' l, (swp_ok h (by omega) (by omega)).bij' (by rw [swp_len]; exact l), ha, hb, ne, ?_, ?_, fun i hi h1 h2 => ?_⟩
  · rw [swp_at (by omega) (by omega)]; simp [sg]
  · rw [swp_at (by omega) (by omega)]; unfold sg; rw [if_neg (fun e => ne e.symm), if_pos rfl]
  · rw [swp_at (by omega) (by omega)]; unfold sg; rw [if_neg h1, if_neg h2]
theorem thn_xch {n : Nat} {q p : List Int} {a b : Nat} (h : Ok q) (hp : Ok p) (l : q.length = n) (lp : p.length = n) (ha : a < n) (hb : b < n) (ne : a ≠ b) : Xch n (thn q p) (thn (swp q a b) p) a b := by
  have x := swp_xch h l ha hb ne
  have ok' := swp_ok (a := a) (b := b) h (by omega) (by omega)
  have l' : (swp q a b).length = n := by rw [swp_len]; exact l
  have at1 : ∀ i, i < n → (thn q p).getD i 0 = p.getD (q.getD i 0).toNat 0 := fun i hi => thn_at (by omega)
  have at2 : ∀ i, i < n → (thn (swp q a b) p).getD i 0 = p.getD ((swp q a b).getD i 0).toNat 0 := fun i hi => thn_at (by omega)
  refine ⟨(thn_ok h hp (by omega)).bij' (by rw [thn_len]; exact l), (thn_ok ok' hp (by omega)).bij' (by rw [thn_len]; exact l'), ha, hb, ne, ?_, ?_, fun i hi h1 h2 => ?_⟩
  · rw [at2 a ha, at1 b hb, x.ea]
  · rw [at2 b hb, at1 a ha, x.eb]
  · rw [at2 i hi, at1 i hi, x.eo i hi h1 h2]
theorem rng_ok {n : Nat} (h : n ≤ 24) : Ok (rng n) := by
  refine ⟨by rw [rng_len]; exact h, fun i hi => ?_, fun i hi => ?_, fun i j hi hj e => ?_⟩
  · rw [rng_len] at hi; rw [rng_at hi]; omega
  · rw [rng_len] at hi ⊢; rw [rng_at hi]; omega
  · rw [rng_len] at hi hj; rw [rng_at hi, rng_at hj] at e; omega
theorem cnum_id {n : Nat} (h : n ≤ 24) : cnum (rng n) n = n := by
  have hb := (rng_ok h).bij' (rng_len n)
  unfold cnum
  rw [cso_count hb n (Nat.le_refl _)]
  have : (rng n).countP (mn (rng n) n) = (rng n).length := by
    rw [List.countP_eq_length]
    intro x hx
    rw [mem_rng] at hx
    unfold mn
    rw [decide_eq_true_eq]
    intro y hy
    obtain ⟨m, e⟩ := (mem_cyc hb hx.1 hx.2).1 hy
    have : ∀ m, it (rng n) x m = x := by
      intro m
      induction m with
      | zero => rfl
      | succ m ih => show (rng n).getD (it (rng n) x m).toNat 0 = x; rw [ih, rng_at (by omega)]; omega
    rw [this m] at e
    omega
  rw [this, rng_len]
theorem eq_rng {n : Nat} {q : List Int} (l : q.length = n) (h : ∀ i, i < n → q.getD i 0 = (i : Int)) : q = rng n :=
  list_eq n l (rng_len n) fun i hi => by rw [h i hi, rng_at hi]
theorem thn_rng {n : Nat} {p : List Int} (l : p.length = n) : thn (rng n) p = p :=
  list_eq n (by rw [thn_len, rng_len]) l fun i hi => by rw [thn_at (by rw [rng_len]; exact hi), rng_at hi, Int.toNat_natCast]
/-- The parity of a product. -/
theorem cnum_mul {n : Nat} {p : List Int} (hp : Ok p) (lp : p.length = n) (h24 : n ≤ 24) : ∀ (d : Nat) (q : List Int), d ≤ n → Ok q → q.length = n → (∀ i, i < n - d → q.getD i 0 = (i : Int)) → (cnum (thn q p) n + cnum q n + cnum p n + n) % 2 = 0 := by
  intro d
  induction d with
  | zero =>
    intro q _ hq lq hf
    have e := eq_rng lq (fun i hi => hf i (by omega))
    rw [e, thn_rng lp, cnum_id h24]
    omega
  | succ d ih =>
    intro q hd hq lq hf
    by_cases ha : q.getD (n - (d + 1)) 0 = ((n - (d + 1) : Nat) : Int)
    · refine ih q (by omega) hq lq fun i hi => ?_
      by_cases e : i = n - (d + 1)
      · rw [e]; exact ha
      · exact hf i (by omega)
    · obtain ⟨b, hb, eb⟩ := hq.onto (y := n - (d + 1)) (by omega)
      have hne : n - (d + 1) ≠ b := fun e => ha (by rw [← e] at eb; exact eb)
      have hlt : n - (d + 1) < b := by
        rcases Nat.lt_or_ge b (n - (d + 1)) with q1 | q1
        · have := hf b q1; omega
        · omega
      have an : n - (d + 1) < n := by omega
      have x1 := (swp_xch hq lq an (by omega) hne).parity
      have x2 := (thn_xch hq hp lq lp an (by omega) hne).parity
      have r := ih (swp q (n - (d + 1)) b) (by omega) (swp_ok hq (by omega) (by omega)) (by rw [swp_len]; exact lq) (fun i hi => by
        rw [swp_at (by omega) (by omega)]
        unfold sg
        by_cases e : i = n - (d + 1)
        · rw [if_pos e, eb, e]
        · rw [if_neg e, if_neg (by omega)]; exact hf i (by omega))
      omega
theorem cnum_then {n : Nat} {q p : List Int} (hq : Ok q) (hp : Ok p) (lq : q.length = n) (lp : p.length = n) : (cnum (thn q p) n + cnum q n + cnum p n + n) % 2 = 0 :=
  cnum_mul hp lp (by have := hp.len; omega) n q (Nat.le_refl _) hq lq (fun i hi => by omega)
theorem thn_inv {n : Nat} {q : List Int} (hq : Ok q) (lq : q.length = n) : thn q (Inv q) = rng n :=
  list_eq n (by rw [thn_len]; exact lq) (rng_len n) fun i hi => by rw [thn_at (by omega), Inv_at hq (by omega), rng_at hi]
theorem cnum_inv {n : Nat} {q : List Int} (hq : Ok q) (lq : q.length = n) : (cnum (Inv q) n + cnum q n) % 2 = 0 := by
  have h24 : n ≤ 24 := by have := hq.len; omega
  have := cnum_then hq (Inv_ok hq) lq (by rw [Inv_len]; exact lq)
  rw [thn_inv hq lq, cnum_id h24] at this
  omega
theorem cnum_le {n : Nat} {q : List Int} (hq : Ok q) (lq : q.length = n) : cnum q n ≤ n := (cso_cs (hq.bij' lq) n (Nat.le_refl _)).len
/-- A commutator. -/
def comm (R U : List Int) : List Int := thn (thn R U) (thn (Inv R) (Inv U))
theorem comm_ok {n : Nat} {R U : List Int} (r : Ok R) (u : Ok U) (lr : R.length = n) (lu : U.length = n) : Ok (comm R U) ∧ (comm R U).length = n :=
  ⟨thn_ok (thn_ok r u (by omega)) (thn_ok (Inv_ok r) (Inv_ok u) (by rw [Inv_len, Inv_len]; omega)) (by rw [thn_len, thn_len, Inv_len]), by unfold comm; rw [thn_len, thn_len]; exact lr⟩
theorem comm_even {n : Nat} {R U : List Int} (r : Ok R) (u : Ok U) (lr : R.length = n) (lu : U.length = n) : (n - cnum (comm R U) n) % 2 = 0 := by
  have a := cnum_then r u lr lu
  have b := cnum_then (Inv_ok r) (Inv_ok u) (n := n) (by rw [Inv_len]; exact lr) (by rw [Inv_len]; exact lu)
  have c := cnum_then (n := n) (thn_ok r u (by omega)) (thn_ok (Inv_ok r) (Inv_ok u) (by rw [Inv_len, Inv_len]; omega)) (by rw [thn_len]; exact lr) (by rw [thn_len, Inv_len]; exact lr)
  have d := cnum_inv r lr; have e := cnum_inv u lu
  have ok := comm_ok r u lr lu
  have f := cnum_le ok.1 ok.2
  unfold comm at f ⊢
  omega
end Go.Proofs.YtpmojmhamgcfmaaGreat.pm

/-
  Corners, angles, stratum and genus: plain mathematics.
-/
namespace Go.Proofs.YtpmojmhamgcfmaaGreat.pm
open Go.Proofs.YtpmojmhamgcfmaaGreat.arr Go.Proofs.YtpmojmhamgcfmaaGreat.inv Go.Proofs.YtpmojmhamgcfmaaGreat.permOf
set_option linter.unusedVariables false
set_option maxRecDepth 100000

theorem foldmin (l : List Int) : ∀ a : Int, l.foldl min a ≤ a ∧ (∀ y ∈ l, l.foldl min a ≤ y) ∧ (l.foldl min a = a ∨ l.foldl min a ∈ l) := by
  induction l with
  | nil => intro a; exact ⟨Int.le_refl _, by simp, .inl rfl⟩
  | cons x l ih =>
    intro a
    obtain ⟨h1, h2, h3⟩ := ih (min a x)
    rw [List.foldl_cons]
    refine ⟨by omega, fun y hy => ?_, ?_⟩
    · rcases List.mem_cons.1 hy with rfl | hy
      · omega
      · exact h2 y hy
    · rcases h3 with h3 | h3
      · rw [h3]
        rcases Int.le_total a x with q | q
        · exact .inl (by omega)
        · exact .inr (List.mem_cons.2 (.inl (by omega)))
      · exact .inr (List.mem_cons.2 (.inr h3))
theorem minOf_iff {l : List Int} {x : Int} (h : x ∈ l) : Lib.minOf l = x ↔ ∀ y ∈ l, x ≤ y := by
  cases l with
  | nil => simp at h
  | cons a l =>
    obtain ⟨h1, h2, h3⟩ := foldmin l a
    have e : Lib.minOf (a :: l) = l.foldl min a := by simp [Lib.minOf]
    rw [e]
    constructor
    · rintro rfl y hy
      rcases List.mem_cons.1 hy with rfl | hy
      · exact h1
      · exact h2 y hy
    · intro q
      have a1 : l.foldl min a ≤ x := by
        rcases List.mem_cons.1 h with rfl | h
        · exact h1
        · exact h2 x h
      have a2 : x ≤ l.foldl min a := by
        rcases h3 with h3 | h3
        · rw [h3]; exact q a (List.mem_cons.2 (.inl rfl))
        · exact q _ (List.mem_cons.2 (.inr h3))
      omega
theorem mn_iff {n : Nat} {ps : List Int} (hb : Bij n ps) {f : Int} (f0 : 0 ≤ f) (f1 : f < n) : Lib.minOf (cyc ps n f) = f ↔ mn ps n f = true := by
  rw [minOf_iff (cyc_self hb f0 f1)]; simp [mn]
theorem in_cso_iff {n k : Nat} {ps : List Int} (hb : Bij n ps) (hk : k < n) : (k : Int) ∈ (cso ps n k).flatten ↔ mn ps n (k : Int) = false := by
  rw [mem_cso hb k (by omega)]
  unfold mn
  rw [decide_eq_false_iff_not]
  constructor
  · rintro ⟨j, hj, q⟩ h
    have := h _ (cyc_symm hb (by omega) (by omega) q)
    omega
  · intro h
    have : ∃ y, y ∈ cyc ps n (k : Int) ∧ y < (k : Int) := by
      rcases Classical.em (∃ y, y ∈ cyc ps n (k : Int) ∧ y < (k : Int)) with q | q
      · exact q
      · exact absurd (fun y hy => Int.not_lt.1 (fun hlt => q ⟨y, hy, hlt⟩)) h
    obtain ⟨y, hy, hlt⟩ := this
    have hw := cyc_way (f := (k : Int)) hb (by omega) (by omega)
    have y0 := hw.inn.lo y hy
    exact ⟨y.toNat, by omega, by rw [Int.toNat_of_nonneg y0]; exact cyc_symm hb (by omega) (by omega) hy⟩
/-- The next cycle: that of k, if k is the least of it. -/
theorem cso_yes {n k : Nat} {ps : List Int} (hb : Bij n ps) (hk : k < n) (h : Lib.minOf (cyc ps n (k : Int)) = (k : Int)) : cso ps n (k + 1) = cso ps n k ++ [cyc ps n (k : Int)] := by
  have q := (mn_iff hb (by omega) (by omega)).1 h
  rw [cso, if_neg (fun e => by rw [(in_cso_iff hb hk).1 e] at q; cases q)]
theorem cso_no {n k : Nat} {ps : List Int} (hb : Bij n ps) (hk : k < n) (h : Lib.minOf (cyc ps n (k : Int)) ≠ (k : Int)) : cso ps n (k + 1) = cso ps n k := by
  rw [cso, if_pos]
  rw [in_cso_iff hb hk]
  cases q : mn ps n (k : Int) with
  | false => rfl
  | true => exact absurd ((mn_iff hb (by omega) (by omega)).2 q) h

theorem ok_ext {xs : List Int} (h : Ok xs) : Ok (ext xs) := by
  have hl := h.len
  refine ⟨by rw [ext_len]; omega, fun i hi => h.sq.lo i (by rwa [ext_len] at hi), fun i hi => by rw [ext_len] at *; exact h.sq.hi i hi, fun i j hi hj e => ?_⟩
  rw [ext_len] at hi hj
  rw [ext_at hi, ext_at hj] at e
  split at e <;> split at e
  · exact h.inj i j (by assumption) (by assumption) e
  · have := h.hi i (by assumption); omega
  · have := h.hi j (by assumption); omega
  · omega
theorem thn_ext {xs ys : List Int} (h : Ok xs) (h' : Ok ys) (e : xs.length = ys.length) : thenL (ext xs) (ext ys) = ext (thn xs ys) := by
  have hl := h.len
  refine list_eq 24 (by unfold thenL; exact tab_len _) (ext_len _) fun i hi => ?_
  rw [thenL_at _ _ hi, ext_at hi, ext_at hi, thn_len]
  by_cases q : i < xs.length
  · have a := h.lo i q; have b := h.hi i q
    rw [if_pos q, if_pos q, thn_at q, ext_at (by omega), if_pos (by omega)]
  · rw [if_neg q, if_neg q, Int.toNat_natCast, ext_at hi, if_neg (by omega)]
theorem inv_ext {xs : List Int} (h : Ok xs) : invTo 24 (ext xs) 24 = ext (Inv xs) := by
  have hl := h.len
  refine list_eq 24 (invTo_len _ _ _) (ext_len _) fun i hi => ?_
  rw [ext_at hi, Inv_len]
  by_cases q : i < xs.length
  · rw [if_pos q]
    obtain ⟨k, hk, e1, e2⟩ := at_Inv h q
    have a := inv_at (ok_ext h) (k := k) (by rw [ext_len]; omega)
    rw [ext_at (by omega), if_pos hk, e2, ext_len, Int.toNat_natCast] at a
    rw [a, e1]
  · rw [if_neg q]
    have a := inv_at (ok_ext h) (k := i) (by rw [ext_len]; omega)
    rw [ext_at hi, if_neg q, ext_len, Int.toNat_natCast] at a
    exact a
/-- The round as the program reckons it, among 24. -/
def ar24 (p q : List Int) : List Int := thenL (thenL (thenL p q) (invTo 24 p 24)) (invTo 24 q 24)
theorem ar24_len (p q : List Int) : (ar24 p q).length = 24 := by unfold ar24 thenL; exact tab_len _
section
variable {n : Nat} {R U : List Int} (s : Sf n R U)
include s
theorem Sf.small : n ≤ 24 := by have := s.r.len; have := s.lr; omega
theorem Sf.comm : Ok (comm R U) ∧ (comm R U).length = n := comm_ok s.r s.u s.lr s.lu
theorem Sf.commB : Bij n (pm.comm R U) := s.comm.1.bij' s.comm.2
theorem ar24_ext : ar24 (ext R) (ext U) = ext (comm R U) := by
  have l1 : R.length = U.length := by rw [s.lr, s.lu]
  have o1 := thn_ok s.r s.u l1
  have l2 : (thn R U).length = (Inv R).length := by rw [thn_len, Inv_len]
  have o2 := thn_ok o1 (Inv_ok s.r) l2
  have l3 : (thn (thn R U) (Inv R)).length = (Inv U).length := by rw [thn_len, thn_len, Inv_len, l1]
  unfold ar24
  rw [thn_ext s.r s.u l1, inv_ext s.r, inv_ext s.u, thn_ext o1 (Inv_ok s.r) l2, thn_ext o2 (Inv_ok s.u) l3, thn_assoc o1 l2]
  rfl
end
theorem take_ext (xs : List Int) (h : xs.length ≤ 24) : (ext xs).take xs.length = xs := by
  refine list_eq xs.length (by simp [ext_len]; omega) rfl fun i hi => ?_
  have e : (ext xs).getD i 0 = xs.getD i 0 := by rw [ext_at (by omega), if_pos hi]
  rw [← e]
  simp [List.getD, hi]

/-- The round, the corners, the angles, the stratum, the genus, whether a corner is regular. -/
def arF (r u : List Int) : List Int := if transB r u then comm r u else []
def corF (r u : List Int) : List (List Int) := if transB r u then cso (comm r u) r.length r.length else []
def angF (r u : List Int) : List Int := sortD ((corF r u).map fun xs => (xs.length : Int))
def strL (l : List Int) : List Int := (l.filter fun a => decide (1 < a)).map fun a => a - 1
def strF (r u : List Int) : List Int := strL (angF r u)
def genF (r u : List Int) : Int := if transB r u then 1 + ((r.length : Int) - (corF r u).length) / 2 else -1
def regF (r u : List Int) (a : Int) : Bool := transB r u && (decide (0 ≤ a) && (decide (a < r.length) && decide ((comm r u).getD a.toNat 0 = a)))
theorem arF_yes {r u : List Int} (h : transB r u = true) : arF r u = comm r u := by simp [arF, h]
theorem arF_no {r u : List Int} (h : transB r u = false) : arF r u = [] := by simp [arF, h]
theorem corF_yes {r u : List Int} (h : transB r u = true) : corF r u = cso (comm r u) r.length r.length := by simp [corF, h]
theorem corF_no {r u : List Int} (h : transB r u = false) : corF r u = [] := by simp [corF, h]
theorem corF_cyc {r u : List Int} (h : transB r u = true) : corF r u = cycF (comm r u) := by
  have s := transB_iff.1 h
  rw [corF_yes h, cycF, s.comm.1.b, if_pos rfl, s.comm.2]
theorem arF_len (r u : List Int) : (arF r u).length ≤ 1048576 := by
  unfold arF; split
  · rename_i h
    have s := transB_iff.1 h
    have := s.comm.2; have := s.small; omega
  · simp
theorem corF_small (r u : List Int) : (corF r u).length ≤ 24 ∧ ((corF r u).map List.length).sum ≤ 24 := by
  cases h : transB r u with
  | false => rw [corF_no h]; simp
  | true =>
    have s := transB_iff.1 h
    have hc := cso_cs s.commB r.length (Nat.le_refl _)
    have h1 := cso_len s.commB
    have := s.small; have := hc.len
    rw [corF_yes h]
    omega
theorem angF_len (r u : List Int) : (angF r u).length ≤ 1048576 := by
  have := (corF_small r u).1
  simp [angF, sortD_len]; omega
theorem strL_len (l : List Int) : (strL l).length ≤ l.length := by
  unfold strL; rw [List.length_map]; exact List.length_filter_le _ _
theorem strF_len (r u : List Int) : (strF r u).length ≤ 1048576 := Nat.le_trans (strL_len _) (angF_len r u)
theorem strL_snoc (l : List Int) (a : Int) : strL (l ++ [a]) = if 1 < a then strL l ++ [a - 1] else strL l := by
  unfold strL
  rw [List.filter_append, List.map_append]
  by_cases h : 1 < a <;> simp [h]
end Go.Proofs.YtpmojmhamgcfmaaGreat.pm

/-
  The surfaces of a stratum, the strata that occur, the tori. Plain mathematics.
-/
namespace Go.Proofs.YtpmojmhamgcfmaaGreat.lst
open Go.Proofs.YtpmojmhamgcfmaaGreat.pm Go.Proofs.YtpmojmhamgcfmaaGreat.orb
set_option linter.unusedVariables false
set_option maxRecDepth 100000

/-- The surfaces of a stratum. -/
def siL (n : Nat) (st : List Int) : List Sur := (swL n).filter fun x => decide (strF x.1 x.2 = st)
def siF (n : Int) (st : List Int) : List Sur := (swF n).filter fun x => decide (strF x.1 x.2 = st)
/-- Lists in ascending lexicographic order: a proper beginning stands first. -/
def lessX : List Int → List Int → Bool
  | [], b => !b.isEmpty
  | _ :: _, [] => false
  | a :: s, b :: t => if a = b then lessX s t else decide (a < b)
/-- A stratum put at its place, if it is not there yet. -/
def insT : List (List Int) → List Int → List (List Int)
  | [], t => [t]
  | x :: l, t => if lessX x t then x :: insT l t else if x = t then x :: l else t :: x :: l
def stL (L : List Sur) : List (List Int) := L.foldl (fun a x => insT a (strF x.1 x.2)) []
def stF (n : Int) : List (List Int) := stL (swF n)
def toriN : Nat → Nat
  | 1 => 1
  | 2 => 3
  | 3 => 4
  | 4 => 7
  | _ => 0
def ctF (n : Int) : Int := if 1 ≤ n ∧ n ≤ 4 then ((siL n.toNat []).length : Nat) else -1
set_option maxRecDepth 100000 in
theorem st_kernel : ∀ n : Fin 4, (siL (n.val + 1) []).length = toriN (n.val + 1) ∧ ((stL (swL (n.val + 1))).map fun t => (siL (n.val + 1) t).length).sum = numS (n.val + 1) ∧ (stL (swL (n.val + 1))).length ≤ 26 := by decide +kernel
end Go.Proofs.YtpmojmhamgcfmaaGreat.lst

/-
  Surfaces in memory: a struct of two slices of ints; the laws' helpers szSurface, toSurface, eqSurface, markSurface, heldSurface.
-/
namespace Go.Proofs.YtpmojmhamgcfmaaGreat.sf
open Go.ChangeShapes Go.WideShapes Go.ChangeAt Go.RowKit Go.Joins Go.Deep
open Go.Proofs.YtpmojmhamgcfmaaGreat.mem Go.Proofs.YtpmojmhamgcfmaaGreat.ints Go.Proofs.YtpmojmhamgcfmaaGreat.arr
set_option linter.unusedVariables false
set_option maxRecDepth 100000

/-- v is a surface that reads as r, u; both rows may be written, lie apart from one another, from lo on and below hi. -/
def Svl (w : World) (lo hi : Nat) (v : Value) (r u : List Int) : Prop :=
  ∃ P n c Q m d l1 h1 l2 h2, v = .agg #[.slice P n c, .slice Q m d] ∧ Row w l1 h1 P n (V r) ∧ Row w l2 h2 Q m (V u) ∧ n ≤ c ∧ m ≤ d ∧ lo ≤ l1 ∧ h1 ≤ hi ∧ lo ≤ l2 ∧ h2 ≤ hi ∧ (h1 ≤ l2 ∨ h2 ≤ l1) ∧ hi ≤ w.heap.size
/-- The same, to be read only. -/
def Srd (w : World) (hi : Nat) (v : Value) (r u : List Int) : Prop :=
  ∃ P n c Q m d, v = .agg #[.slice P n c, .slice Q m d] ∧ Rd w hi P n (V r) ∧ Rd w hi Q m (V u) ∧ n ≤ c ∧ m ≤ d
theorem Rd.wider {w : World} {hi hi' n : Nat} {A : Option Addr} {xs : List Value} (h : Rd w hi A n xs) (h1 : hi ≤ hi') (h2 : hi' ≤ w.heap.size) : Rd w hi' A n xs :=
  ⟨h.1, h2, fun hn => by
    obtain ⟨g, off, e, hlt, hc⟩ := h.2.2 hn
    exact ⟨g, off, e, by omega, hc⟩⟩
theorem Rd.up {w : World} {hi n : Nat} {A : Option Addr} {xs : List Value} (h : Rd w hi A n xs) : Rd w w.heap.size A n xs := Rd.wider h h.2.1 (Nat.le_refl _)
theorem Svl.rd {w : World} {lo hi : Nat} {v : Value} {r u : List Int} (h : Svl w lo hi v r u) : Srd w hi v r u := by
  obtain ⟨P, n, c, Q, m, d, l1, h1, l2, h2, rfl, a, b, e1, e2, f1, f2, f3, f4, f5, f6⟩ := h
  exact ⟨P, n, c, Q, m, d, rfl, Rd.wider a.rd f2 f6, Rd.wider b.rd f4 f6, e1, e2⟩
theorem Svl.top {w : World} {lo hi : Nat} {v : Value} {r u : List Int} (h : Svl w lo hi v r u) : hi ≤ w.heap.size := by
  obtain ⟨P, n, c, Q, m, d, l1, h1, l2, h2, rfl, a, b, e1, e2, f1, f2, f3, f4, f5, f6⟩ := h
  exact f6
theorem Srd.top {w : World} {hi : Nat} {v : Value} {r u : List Int} (h : Srd w hi v r u) : hi ≤ w.heap.size := by
  obtain ⟨P, n, c, Q, m, d, rfl, a, b, e1, e2⟩ := h
  exact a.2.1
theorem Srd.up {w : World} {hi : Nat} {v : Value} {r u : List Int} (h : Srd w hi v r u) : Srd w w.heap.size v r u := by
  obtain ⟨P, n, c, Q, m, d, rfl, a, b, e1, e2⟩ := h
  exact ⟨P, n, c, Q, m, d, rfl, Rd.up a, Rd.up b, e1, e2⟩
theorem Svl.keep {w w' : World} {lo hi B : Nat} {v : Value} {r u : List Int} (h : Svl w lo hi v r u) (hb : Below B w w') (hB : hi ≤ B) : Svl w' lo hi v r u := by
  obtain ⟨P, n, c, Q, m, d, l1, h1, l2, h2, rfl, a, b, e1, e2, f1, f2, f3, f4, f5, f6⟩ := h
  exact ⟨P, n, c, Q, m, d, l1, h1, l2, h2, rfl, a.keep hb (by omega), b.keep hb (by omega), e1, e2, f1, f2, f3, f4, f5, Nat.le_trans f6 hb.size⟩
theorem Srd.keep {w w' : World} {hi B : Nat} {v : Value} {r u : List Int} (h : Srd w hi v r u) (hb : Below B w w') (hB : hi ≤ B) : Srd w' hi v r u := by
  obtain ⟨P, n, c, Q, m, d, rfl, a, b, e1, e2⟩ := h
  exact ⟨P, n, c, Q, m, d, rfl, a.keep hb hB, b.keep hb hB, e1, e2⟩
theorem Svl.out {w w' : World} {lo hi lo' hi' : Nat} {v : Value} {r u : List Int} (h : Svl w lo hi v r u) (ho : Out lo' hi' w w') (hd : hi ≤ lo' ∨ hi' ≤ lo) : Svl w' lo hi v r u := by
  obtain ⟨P, n, c, Q, m, d, l1, h1, l2, h2, rfl, a, b, e1, e2, f1, f2, f3, f4, f5, f6⟩ := h
  exact ⟨P, n, c, Q, m, d, l1, h1, l2, h2, rfl, a.out ho (by omega), b.out ho (by omega), e1, e2, f1, f2, f3, f4, f5, Nat.le_trans f6 ho.size⟩
theorem Svl.later {w : World} {lo lo' hi : Nat} {v : Value} {r u : List Int} (h : Svl w lo hi v r u) (hl : lo' ≤ lo) : Svl w lo' hi v r u := by
  obtain ⟨P, n, c, Q, m, d, l1, h1, l2, h2, rfl, a, b, e1, e2, f1, f2, f3, f4, f5, f6⟩ := h
  exact ⟨P, n, c, Q, m, d, l1, h1, l2, h2, rfl, a, b, e1, e2, by omega, f2, by omega, f4, f5, f6⟩
theorem Svl.wide {w : World} {lo hi : Nat} {v : Value} {r u : List Int} (h : Svl w lo hi v r u) : Svl w lo w.heap.size v r u := by
  obtain ⟨P, n, c, Q, m, d, l1, h1, l2, h2, rfl, a, b, e1, e2, f1, f2, f3, f4, f5, f6⟩ := h
  exact ⟨P, n, c, Q, m, d, l1, h1, l2, h2, rfl, a, b, e1, e2, f1, by omega, f3, by omega, f5, Nat.le_refl _⟩
theorem Svl.nil (w : World) (lo hi : Nat) (h : hi ≤ w.heap.size) (hl : lo ≤ hi) : Svl w lo hi (.agg #[.slice none 0 0, .slice none 0 0]) [] [] :=
  ⟨none, 0, 0, none, 0, 0, lo, lo, lo, lo, rfl, ⟨rfl, by omega, fun h => absurd h (by omega)⟩, ⟨rfl, by omega, fun h => absurd h (by omega)⟩, Nat.le_refl _, Nat.le_refl _, Nat.le_refl _, hl, Nat.le_refl _, hl, .inl (Nat.le_refl _), h⟩
theorem own_cap {w : World} {base : Nat} {e : TypeId} {n n' c : Nat} {A : Option Addr} {xs : List Value} (h : w.ownsRow base e 1 (.slice A n' c) n xs) : n' = n ∧ n ≤ c := by
  rcases h.2 with ⟨q, rfl⟩ | ⟨g, cap, cur, q, _, _, hc, _⟩
  · injection q with _ q2 q3; subst q2; subst q3; exact ⟨rfl, Nat.le_refl _⟩
  · injection q with _ q2 q3; subst q2; subst q3; exact ⟨rfl, hc⟩
theorem _root_.Go.Proofs.YtpmojmhamgcfmaaGreat.mem.Out.row_ {lo hi g : Nat} {w w' : World} (h : Out lo hi w w') (h1 : lo ≤ g) (h2 : g < hi) (cs : Array Value) : Out lo hi w (w'.setRow g cs) :=
  ⟨h.os, h.tape, h.output, by simpa using h.size, fun k hk hne => (setRow_other w' g k cs (by omega)).trans (h.block k hk hne)⟩
theorem _root_.Go.Proofs.YtpmojmhamgcfmaaGreat.arr.Arr.out {w w' : World} {g lo hi : Nat} {cs : List Value} {t : TypeId} (h : Arr w g cs t) (ho : Out lo hi w w') (hd : g < lo ∨ hi ≤ g) : Arr w' g cs t :=
  (ho.block g h.lt hd).trans h
/-- Two rows of the call's own, one made behind the other. -/
theorem Svl.mk2 {w : World} {lo l2 : Nat} {P Q : Option Addr} {n c m d : Nat} {r u : List Int} (a : Row w lo l2 P n (V r)) (b : Row w l2 w.heap.size Q m (V u)) (hl : lo ≤ l2) (e1 : n ≤ c) (e2 : m ≤ d) : Svl w lo w.heap.size (.agg #[.slice P n c, .slice Q m d]) r u :=
  ⟨P, n, c, Q, m, d, lo, l2, l2, w.heap.size, rfl, a, b, e1, e2, Nat.le_refl _, a.2.1, hl, Nat.le_refl _, .inl (Nat.le_refl _), Nat.le_refl _⟩
theorem Svl.len {w : World} {lo hi : Nat} {v : Value} {r u : List Int} (h : Svl w lo hi v r u) : ∃ P c Q d, v = .agg #[.slice P r.length c, .slice Q u.length d] := by
  obtain ⟨P, n, c, Q, m, d, l1, h1, l2, h2, rfl, a, b, e1, e2, f1, f2, f3, f4, f5, f6⟩ := h
  have q1 : r.length = n := by simpa [V] using a.1
  have q2 : u.length = m := by simpa [V] using b.1
  subst q1; subst q2
  exact ⟨P, c, Q, d, rfl⟩
theorem Svl.lens {w : World} {lo hi : Nat} {v : Value} {r u : List Int} (h : Svl w lo hi v r u) {n m : Nat} (h1 : r.length = n) (h2 : u.length = m) : ∃ P c Q d, v = .agg #[.slice P n c, .slice Q m d] := by
  subst h1; subst h2; exact h.len

theorem open_cell {H : Type} {enc : TypeId × Value → H} {P : Program} {W : World} {t e : TypeId} {v : Value} {y : DataW H × List MemPlace} {fuel : Nat}
    (ht : P.underlying t = some (.slice e)) (he : P.underlying e = some (.int .i64)) (hc : P.cellsOf e = 1) (h : DataW.trod enc P W 0 (fun _ => true) true fuel t [v] = some y) :
    ∃ A n c, ∃ xs : List Int, v = .slice A n c ∧ Rd W W.heap.size A n (V xs) ∧ n ≤ c ∧ c ≤ maxLen := by
  rcases open_ints ht he hc h with ⟨hcs, _⟩ | ⟨x, l, cap, ss, hcs, _, hl, hm, hz, _, hcell, hwz⟩
  · simp at hcs
    subst hcs
    exact ⟨none, 0, 0, [], rfl, ⟨rfl, Nat.le_refl _, fun h => absurd h (by omega)⟩, Nat.le_refl _, by simp⟩
  · simp at hcs
    subst hcs
    have hz' : ss.length = cap := by simpa using hz
    refine ⟨some x, l, cap, ss.take l, rfl, Rd.of_cells (by simp [V]; omega) (fun i hi => ?_), hl, hm⟩
    rw [hcell i (by omega)]
    simp [V, hi, List.getD, List.getElem?_eq_getElem (show i < ss.length by omega)]
/-- A struct of two slices of ints that came in. -/
theorem open_S {H : Type} {enc : TypeId × Value → H} {P : Program} {W : World} {r : Reach} {b0 : Nat} {t : TypeId} {f0 f1 : Field} {v : Value} {d : DataW H} {p : List MemPlace} {e : TypeId} (hs : P.underlying t = some (.struct #[f0, f1])) (hone : oneCellFields P #[f0, f1] = true) (hC : P.cellsOf t = 2)
    (ht0 : P.underlying f0.type = some (.slice e)) (ht1 : P.underlying f1.type = some (.slice e)) (he : P.underlying e = some (.int .i64)) (hc : P.cellsOf e = 1)
    (hv : Value.okWide P W r b0 t v) (h : DataW.Trod enc P W 0 (fun _ => true) true t v d p) :
    ∃ r u : List Int, Srd W W.heap.size v r u ∧ r.length ≤ maxLen ∧ u.length ≤ maxLen := by
  obtain ⟨v0, v1, y0, y1, n, rfl, _, _, h0, h1⟩ := open_agg2 hs hone hC hv h
  obtain ⟨A, l, c, xs, rfl, rd, hl, hm⟩ := open_cell ht0 he hc h0
  obtain ⟨B, l', c', ys, rfl, rd', hl', hm'⟩ := open_cell ht1 he hc h1
  have q1 : xs.length = l := by simpa [V] using rd.1
  have q2 : ys.length = l' := by simpa [V] using rd'.1
  exact ⟨xs, ys, ⟨A, l, c, B, l', c', rfl, rd, rd', hl, hl'⟩, by omega, by omega⟩
end Go.Proofs.YtpmojmhamgcfmaaGreat.sf

/-
  What a region that draws its order holds on to: boxes that no step of it touches.
-/
namespace Go.Proofs.YtpmojmhamgcfmaaGreat.sf
open Go.ChangeShapes Go.WideShapes Go.ChangeAt Go.RowKit
open Go.Proofs.YtpmojmhamgcfmaaGreat.mem Go.Proofs.YtpmojmhamgcfmaaGreat.ints Go.Proofs.YtpmojmhamgcfmaaGreat.arr
set_option linter.unusedVariables false
set_option maxRecDepth 100000

/-- The blocks bs hold what they held, all below base is as in w, and 'top' blocks are there. -/
structure Hld (base top : Nat) (w : World) (bs : List (Nat × List Value)) (w' : World) : Prop where
  at_ : ∀ p ∈ bs, p.1 < top ∧ w'.rangeAt p.1 0 p.2
  below : Below base w w'
  size : top ≤ w'.heap.size
theorem Hld.start1 {w : World} {a : Nat} {xs : List Value} {t : TypeId} (h1 : Arr w a xs t) : Hld w.heap.size w.heap.size w [(a, xs)] w.drew :=
  ⟨fun p hp => by
    simp only [List.mem_cons, List.not_mem_nil, or_false] at hp
    subst hp
    exact ⟨h1.lt, fun j v hv => by rw [Nat.zero_add]; exact h1.cell hv⟩,
    ⟨rfl, rfl, rfl, Nat.le_refl _, fun _ _ => rfl⟩, Nat.le_refl _⟩
theorem Hld.start2 {w : World} {a b : Nat} {xs ys : List Value} {t t' : TypeId} (h1 : Arr w a xs t) (h2 : Arr w b ys t') : Hld w.heap.size w.heap.size w [(a, xs), (b, ys)] w.drew :=
  ⟨fun p hp => by
    simp only [List.mem_cons, List.not_mem_nil, or_false] at hp
    rcases hp with rfl | rfl
    · exact ⟨h1.lt, fun j v hv => by rw [Nat.zero_add]; exact h1.cell hv⟩
    · exact ⟨h2.lt, fun j v hv => by rw [Nat.zero_add]; exact h2.cell hv⟩,
    ⟨rfl, rfl, rfl, Nat.le_refl _, fun _ _ => rfl⟩, Nat.le_refl _⟩
theorem Hld.fst {base top a : Nat} {w W : World} {xs : List Value} {l : List (Nat × List Value)} (h : Hld base top w ((a, xs) :: l) W) : W.rangeAt a 0 xs := (h.at_ _ (List.mem_cons_self ..)).2
theorem Hld.snd {base top a : Nat} {w W : World} {xs : List Value} {p : Nat × List Value} {l : List (Nat × List Value)} (h : Hld base top w (p :: (a, xs) :: l) W) : W.rangeAt a 0 xs := (h.at_ (a, xs) (by simp)).2
theorem Hld.later {base top : Nat} {w W W' : World} {bs : List (Nat × List Value)} (h : Hld base top w bs W) (hB : Below W.heap.size W W') (hb : base ≤ top) : Hld base top w bs W' :=
  ⟨fun p hp => ⟨(h.at_ p hp).1, fun j v hv => by rw [hB.cell (p := ⟨p.1, 0 + j, none⟩) (show p.1 < _ from Nat.lt_of_lt_of_le (h.at_ p hp).1 h.size)]; exact (h.at_ p hp).2 j v hv⟩,
    h.below.trans (hB.mono (Nat.le_trans hb h.size)), Nat.le_trans h.size hB.size⟩
theorem sizeS (a b : Value) : (Tryz.prog.info? 31).map (·.size) = some [a, b].length := by kernel_rfl
theorem size2 : (Tryz.prog.info? 31).map (·.size) = some 2 := by kernel_rfl
end Go.Proofs.YtpmojmhamgcfmaaGreat.sf

/-
  Contracts of PermOk, InversePerm, ThenPerm, IdentityPerm, of the model and of the program.
-/
namespace Go.Proofs.YtpmojmhamgcfmaaGreat.fns
open Go.ChangeShapes Go.WideShapes Go.ChangeAt Go.RowKit
open Go.Proofs.YtpmojmhamgcfmaaGreat.mem Go.Proofs.YtpmojmhamgcfmaaGreat.ints Go.Proofs.YtpmojmhamgcfmaaGreat.arr Go.Proofs.YtpmojmhamgcfmaaGreat.pm Go.Proofs.YtpmojmhamgcfmaaGreat.permOk Go.Proofs.YtpmojmhamgcfmaaGreat.permOf Go.Proofs.YtpmojmhamgcfmaaGreat.inv
set_option linter.unusedVariables false
set_option maxRecDepth 100000

theorem below_same {w w' : World} (h : w = w') : Below w.heap.size w w' := h ▸ Below.refl _ _
theorem ok_spec (A : Option Addr) (n c : Nat) (xs : List Int) (hi : Nat) (w : World) (hx : Rd w hi A n (V xs)) (hn : n ≤ 1048576) (hc : n ≤ c) :
    Calls Tryz.prog 54 #[.slice A n c] w fun e w' => e = .returned (.bool (okB xs)) ∧ Below w.heap.size w w' :=
  (permOk.spec_any A n c xs hi w hx hn hc).mono fun _ _ ⟨he, hw⟩ => ⟨he, below_same hw⟩

def Owns (w : World) (v : Value) (w' : World) (r : List Int) : Prop := w'.ownsRow w.heap.size 3 1 v r.length (V r)
def Gives (r : List Int) (w : World) (e : Ending) (w' : World) : Prop := ∃ v, e = .returned v ∧ w'.ownsRow w.heap.size 3 1 v r.length (V r) ∧ Below w.heap.size w w'
theorem gives_nil {w w' : World} (h : Below w.heap.size w w') : Gives [] w (.returned (.slice none 0 0)) w' :=
  ⟨_, rfl, ⟨rfl, .inl ⟨rfl, rfl⟩⟩, h⟩
theorem gives_later {w w1 w' : World} {r : List Int} {e : Ending} (hb : Below w.heap.size w w1) (h : Gives r w1 e w') : Gives r w e w' := by
  obtain ⟨v, he, ho, hb'⟩ := h
  refine ⟨v, he, ⟨ho.1, ?_⟩, hb.trans (hb'.mono hb.size)⟩
  rcases ho.2 with h0 | ⟨g, cap, cur, h1, h2, h3⟩
  · exact .inl h0
  · exact .inr ⟨g, cap, cur, h1, Nat.le_trans hb.size h2, h3⟩

set_option maxHeartbeats 400000 in
theorem list_gives (qs : List Int) (n : Nat) (w : World) (hl : qs.length = 24) (hn : n ≤ 24) :
    Calls Tryz.prog 62 #[.agg (V qs).toArray, .int .i64 n] w (Gives (qs.take n) w) :=
  list_any qs n w hl hn

end Go.Proofs.YtpmojmhamgcfmaaGreat.fns

/-
  Contracts of the model's InversePerm, ThenPerm, IdentityPerm; the program's ThenPerm, IdentityPerm.
-/
namespace Go.Proofs.YtpmojmhamgcfmaaGreat.fns
open Go.ChangeShapes Go.WideShapes Go.ChangeAt Go.RowKit
open Go.Proofs.YtpmojmhamgcfmaaGreat.mem Go.Proofs.YtpmojmhamgcfmaaGreat.ints Go.Proofs.YtpmojmhamgcfmaaGreat.arr Go.Proofs.YtpmojmhamgcfmaaGreat.pm Go.Proofs.YtpmojmhamgcfmaaGreat.permOk Go.Proofs.YtpmojmhamgcfmaaGreat.permOf Go.Proofs.YtpmojmhamgcfmaaGreat.inv
set_option linter.unusedVariables false
set_option maxRecDepth 100000

theorem Ok.nat {xs : List Int} (h : Ok xs) {k : Nat} (hk : k < xs.length) : ∃ z : Nat, z < xs.length ∧ xs[k]? = some (z : Int) ∧ xs.getD k 0 = (z : Int) := by
  have h1 := h.lo k hk; have h2 := h.hi k hk
  have e : xs[k]? = some (xs.getD k 0) := by rw [List.getD, List.getElem?_eq_getElem hk]; rfl
  exact ⟨(xs.getD k 0).toNat, by omega, by rw [e]; congr 1; omega, by omega⟩
/-- A made row at block w.heap.size holds l. -/
def Made (n : Nat) (w wr : World) (l : List Int) : Prop := wr.ownsRow w.heap.size 3 1 (.slice (some ⟨w.heap.size, 0, none⟩) n n) n (V l) ∧ Below w.heap.size w wr
theorem Made.cell {n : Nat} {w wr : World} {l : List Int} (h : Made n w wr l) {k : Nat} (hk : k < n) : wr.cell? ⟨w.heap.size, k, none⟩ = some (.int .i64 (l.getD k 0)) := by
  have hl : l.length = n := by simpa [V] using h.1.1
  rw [h.1.cellAt k (by omega)]
  exact V_getD (by omega)
theorem Made.set_ {n : Nat} {w wr : World} {l : List Int} (h : Made n w wr l) (k : Nat) (z : Int) : Made n w (wr.setCell ⟨w.heap.size, k, none⟩ (.int .i64 z)) (l.set k z) := by
  have := (h.1.stored k (.int .i64 z)).1
  rw [V_set] at this
  exact ⟨this, h.2.setCell (Nat.le_refl _) _⟩

set_option maxHeartbeats 1000000 in
theorem l02inv_any (A : Option Addr) (n c : Nat) (xs : List Int) (hi : Nat) (w : World) (hx : Rd w hi A n (V xs)) (ok : Ok xs) :
    Calls Tryz.prog 58 #[.slice A n c] w (Gives (invTo n xs n) w) := by
  obtain ⟨i0, hi0, hz0, hz1, hz2⟩ := info_parts infoI
  have lx : xs.length = n := by simpa [V] using hx.1
  have hn : n ≤ 24 := by have := ok.len; omega
  have LX := Lib.hid lx; clear lx
  have OK := Lib.hid ok; clear ok
  have HX := Lib.hid hx; clear hx
  have HZ2 := Lib.hid hz2; clear hz2
  go_enter Tryz.func58, Tryz.ntmps58
  go_wp2_with (at_make; refine wpList_make_full _ rfl _ _ 29 rfl w.heap.size 3 i0 _ 1 Tryz.underlying29 hi0 hz0 hz1 _ _ _ _ n rfl rfl rfl rfl ?b2 ?b3 (Nat.le_refl _) ?_)
  case b2 => rw [HZ2.out]; omega
  case b3 => unfold maxLen; omega
  intro w1 hown hg
  have hb1 : Below w.heap.size w w1 := (Below.refl _ _).grown hg (Nat.le_refl _) (by simp)
  have HM : Hid (Made n w w1 (invTo n xs 0)) := Lib.hid ⟨by simpa [invTo, V, toList_madeCells_one] using hown, hb1⟩
  clear hown hg hb1
  go_wp2
  go_loopw [11] (fun i wr => ∃ k : Nat, k ≤ n ∧ i = .int .i64 k ∧ Made n w wr (invTo n xs k)) (fun i _ => n - (intOf i).toNat)
  case atStart => exact ⟨0, Nat.zero_le _, rfl, HM.out⟩
  case round =>
    obtain ⟨k, hk, rfl, hm⟩ := hrel
    have HR := Lib.hid hm; clear hm HM
    by_cases hlt : k < n
    · obtain ⟨g, off, u, rfl, hgl, hxu, hcx⟩ := HX.out.at_ hlt
      obtain ⟨s, hxs, rfl⟩ := V_at hxu
      obtain ⟨z, hz, hqz, hqd⟩ := Ok.nat OK.out (k := k) (by rw [LX.out]; exact hlt)
      rw [hqz] at hxs
      obtain rfl := Option.some.inj hxs
      rw [LX.out] at hz
      have hgw : g < w.heap.size := Nat.lt_of_lt_of_le hgl HX.out.2.1
      rw [← HR.out.2.cell (p := ⟨g, off + k, none⟩) hgw] at hcx
      have hc := HR.out.cell hz
      have hf := HR.out.1.frozenAt z
      have HD := Lib.hid hqd; clear hqd hqz hxs hxu
      go_wp2
      go_roundw
      case rel =>
        refine ⟨k + 1, by omega, by go_num, ?_⟩
        have e : invTo n xs (k + 1) = (invTo n xs k).set z (k : Int) := by rw [invTo, HD.out]; rfl
        rw [e]
        exact HR.out.set_ z _
      case measure => simp [intOf]; omega
    · obtain rfl : k = n := by omega
      go_wp2
      go_ret
      exact ⟨_, rfl, by rw [invTo_len]; exact HR.out.1, HR.out.2⟩

end Go.Proofs.YtpmojmhamgcfmaaGreat.fns

/-
  Contracts of ThenPerm and IdentityPerm, of the model and of the program.
-/
namespace Go.Proofs.YtpmojmhamgcfmaaGreat.fns
open Go.ChangeShapes Go.WideShapes Go.ChangeAt Go.RowKit
open Go.Proofs.YtpmojmhamgcfmaaGreat.mem Go.Proofs.YtpmojmhamgcfmaaGreat.ints Go.Proofs.YtpmojmhamgcfmaaGreat.arr Go.Proofs.YtpmojmhamgcfmaaGreat.pm Go.Proofs.YtpmojmhamgcfmaaGreat.permOk Go.Proofs.YtpmojmhamgcfmaaGreat.permOf Go.Proofs.YtpmojmhamgcfmaaGreat.inv
set_option linter.unusedVariables false
set_option maxRecDepth 100000

/-- A row that grows: v holds l. -/
structure Grows (w wr : World) (v : Value) (l : List Int) : Prop where
  own : wr.ownsRow w.heap.size 3 1 v l.length (V l)
  below : Below w.heap.size w wr
theorem Grows.empty (w : World) : Grows w (w.alloc (.cells #[] 3)) (.slice (some ⟨w.heap.size, 0, none⟩) 0 0) [] :=
  ⟨⟨rfl, .inr ⟨w.heap.size, 0, #[], rfl, Nat.le_refl _, heap_alloc_last w _, Nat.le_refl _, by simp, rfl, rfl⟩⟩, (Below.refl _ _).alloc (Nat.le_refl _) _⟩
theorem Grows.one (w : World) (z : Int) : Grows w (w.alloc (.cells #[.int .i64 z] 3)) (.slice (some ⟨w.heap.size, 0, none⟩) 1 1) [z] :=
  ⟨⟨rfl, .inr ⟨w.heap.size, 1, #[.int .i64 z], rfl, Nat.le_refl _, heap_alloc_last w _, Nat.le_refl _, by unfold maxLen; omega, rfl, rfl⟩⟩, (Below.refl _ _).alloc (Nat.le_refl _) _⟩
theorem Grows.next {w wr w' : World} {v v' : Value} {l : List Int} {z : Int} {n : Nat} (h : Grows w wr v l) (ho : w'.ownsRow w.heap.size 3 1 v' (n + 1) (V l ++ [.int .i64 z])) (hn : n = l.length) (hg : wr.grownBy w' v.ownBlock) : Grows w w' v' (l ++ [z]) := by
  subst hn
  refine ⟨?_, h.below.trans (own_below h.own hg (Nat.le_refl _) h.below.size)⟩
  have e : V (l ++ [z]) = V l ++ [.int .i64 z] := by simp [V]
  rw [e]
  simpa using ho
theorem Grows.gives {w wr : World} {v : Value} {l : List Int} (h : Grows w wr v l) : Gives l w (.returned v) wr := ⟨v, rfl, h.own, h.below⟩
theorem thn_snoc (xs ys : List Int) {k z : Nat} (h : xs[k]? = some (z : Int)) : thn (xs.take (k + 1)) ys = thn (xs.take k) ys ++ [ys.getD z 0] := by
  rw [List.take_add_one, h]; simp [thn]

set_option maxHeartbeats 1000000 in
theorem l02then_any (A : Option Addr) (n c : Nat) (B : Option Addr) (m d : Nat) (xs ys : List Int) (h1 h2 : Nat) (w : World) (hx : Rd w h1 A n (V xs)) (hy : Rd w h2 B m (V ys)) (ok : Ok xs) (hnm : n = m) :
    Calls Tryz.prog 75 #[.slice A n c, .slice B m d] w (Gives (thn xs ys) w) := by
  subst hnm
  obtain ⟨i0, hi0, hz0, hz1, hz2⟩ := info_parts infoI
  have lx : xs.length = n := by simpa [V] using hx.1
  have ly : ys.length = n := by simpa [V] using hy.1
  have hn : n ≤ 24 := by have := ok.len; omega
  have LX := Lib.hid lx; have LY := Lib.hid ly; clear lx ly
  have OK := Lib.hid ok; clear ok
  have HX := Lib.hid hx; have HY := Lib.hid hy; clear hx hy
  go_enter Tryz.func75, Tryz.ntmps75
  go_wp2
  go_loopw [5, 11] (fun v i wr => ∃ k : Nat, k ≤ n ∧ i = .int .i64 k ∧ Grows w wr v (thn (xs.take k) ys)) (fun _ i _ => n - (intOf i).toNat)
  case atStart => exact ⟨0, Nat.zero_le _, rfl, Grows.empty w⟩
  case round =>
    obtain ⟨k, hk, rfl, hm⟩ := hrel
    have HR := Lib.hid hm; clear hm
    by_cases hlt : k < n
    · obtain ⟨g, off, u, rfl, hgl, hxu, hcx⟩ := HX.out.at_ hlt
      obtain ⟨s, hxs, rfl⟩ := V_at hxu
      obtain ⟨z, hz, hqz, hqd⟩ := Ok.nat OK.out (k := k) (by rw [LX.out]; exact hlt)
      rw [hqz] at hxs
      obtain rfl := Option.some.inj hxs
      rw [LX.out] at hz
      obtain ⟨g', off', u', rfl, hgl', hyu, hcy⟩ := HY.out.at_ hz
      obtain ⟨t, hyt, rfl⟩ := V_at hyu
      have hgw : g < w.heap.size := Nat.lt_of_lt_of_le hgl HX.out.2.1
      have hgw' : g' < w.heap.size := Nat.lt_of_lt_of_le hgl' HY.out.2.1
      rw [← HR.out.below.cell (p := ⟨g, off + k, none⟩) hgw] at hcx
      rw [← HR.out.below.cell (p := ⟨g', off' + z, none⟩) hgw'] at hcy
      have HQ := Lib.hid hqz; have HT := Lib.hid (permOk.getD_of hyt)
      have hsz := HR.out.below.size
      have HLN : Hid ((thn (xs.take k) ys).length = k) := Lib.hid (by have := LX.out; simp [thn]; omega)
      clear hqz hqd hxs hxu hyu hyt
      go_wp2_with (at_builtin; refine wpList_append_one wr _ _ rfl _ _ 29 rfl w.heap.size 3 i0 _ 8 Tryz.underlying29 hi0 hz0 hz1 hz2 rfl _ _ _ rfl HR.out.own rfl rfl ?c4 (by decide) hsz ?_)
      case c4 => rw [HLN.out]; omega
      intro v' w' ho hg
      have HN : Hid (Grows w w' v' (thn (xs.take (k + 1)) ys)) := Lib.hid (by
        rw [thn_snoc xs ys HQ.out, HT.out]
        exact HR.out.next ho rfl hg)
      clear ho hg HR hcx hcy
      go_wp2
      go_roundw
      case rel => exact ⟨k + 1, by omega, by go_num, HN.out⟩
      case measure => simp [intOf]; omega
    · obtain rfl : k = n := by omega
      go_wp2
      go_ret
      have := HR.out
      rw [List.take_of_length_le (by rw [LX.out]; exact Nat.le_refl _)] at this
      exact this.gives

end Go.Proofs.YtpmojmhamgcfmaaGreat.fns

/-
  Contract of the program's ThenPerm.
-/
namespace Go.Proofs.YtpmojmhamgcfmaaGreat.fns
open Go.ChangeShapes Go.WideShapes Go.ChangeAt Go.RowKit
open Go.Proofs.YtpmojmhamgcfmaaGreat.mem Go.Proofs.YtpmojmhamgcfmaaGreat.ints Go.Proofs.YtpmojmhamgcfmaaGreat.arr Go.Proofs.YtpmojmhamgcfmaaGreat.pm Go.Proofs.YtpmojmhamgcfmaaGreat.permOk Go.Proofs.YtpmojmhamgcfmaaGreat.permOf Go.Proofs.YtpmojmhamgcfmaaGreat.inv
set_option linter.unusedVariables false
set_option maxRecDepth 100000

end Go.Proofs.YtpmojmhamgcfmaaGreat.fns
