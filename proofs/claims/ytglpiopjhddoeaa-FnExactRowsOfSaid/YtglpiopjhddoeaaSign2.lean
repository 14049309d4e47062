/-
  The number of cycles of a product, modulo 2; a commutator's differs from the number of elements by an even number: plain mathematics.
-/
import Derived.Test.YtglpiopjhddoeaaSign
namespace Go.Proofs.Ytglpiopjhddoeaa.pm
open Go.Proofs.Ytglpiopjhddoeaa.arr Go.Proofs.Ytglpiopjhddoeaa.inv Go.Proofs.Ytglpiopjhddoeaa.permOf
set_option linter.unusedVariables false
set_option maxRecDepth 100000

def sg (a b i : Nat) : Nat := if i = a then b else if i = b then a else i
theorem sg_lt {n a b i : Nat} (ha : a < n) (hb : b < n) (hi : i < n) : sg a b i < n := by unfold sg; split <;> (try split) <;> omega
theorem sg_inj {a b i j : Nat} (h : sg a b i = sg a b j) : i = j := by
  unfold sg at h; split at h <;> split at h <;> (try split at h) <;> (try split at h) <;> omega
def swp (q : List Int) (a b : Nat) : List Int := (q.set a (q.getD b 0)).set b (q.getD a 0)
theorem swp_len (q : List Int) (a b : Nat) : (swp q a b).length = q.length := by simp [swp]
theorem swp_at {q : List Int} {a b i : Nat} (ha : a < q.length) (hb : b < q.length) : (swp q a b).getD i 0 = q.getD (sg a b i) 0 := by
  unfold swp sg
  rw [getD_set, getD_set]
  by_cases e2 : b = i
  · rw [if_pos ⟨e2, by simp; omega⟩]
    by_cases e1 : i = a
    · rw [if_pos e1]; congr 1; omega
    · rw [if_neg e1, if_pos e2.symm]
  · rw [if_neg (fun h => e2 h.1)]
    by_cases e1 : a = i
    · rw [if_pos ⟨e1, by omega⟩, if_pos e1.symm]
    · rw [if_neg (fun h => e1 h.1), if_neg (fun h => e1 h.symm), if_neg (fun h => e2 h.symm)]
theorem swp_ok {q : List Int} {a b : Nat} (h : Ok q) (ha : a < q.length) (hb : b < q.length) : Ok (swp q a b) := by
  refine ⟨by rw [swp_len]; exact h.len, fun i hi => ?_, fun i hi => ?_, fun i j hi hj e => ?_⟩
  · rw [swp_len] at hi; rw [swp_at ha hb]; exact h.lo _ (sg_lt ha hb hi)
  · rw [swp_len] at hi ⊢; rw [swp_at ha hb]; exact h.hi _ (sg_lt ha hb hi)
  · rw [swp_len] at hi hj
    rw [swp_at ha hb, swp_at ha hb] at e
    exact sg_inj (h.inj _ _ (sg_lt ha hb hi) (sg_lt ha hb hj) e)
theorem Ok.bij' {n : Nat} {q : List Int} (h : Ok q) (l : q.length = n) : Bij n q := by subst l; exact h.bij
theorem swp_xch {n : Nat} {q : List Int} {a b : Nat} (h : Ok q) (l : q.length = n) (ha : a < n) (hb : b < n) (ne : a ≠ b) : Xch n q (swp q a b) a b := by
  refine ⟨h.bij' l, (swp_ok h (by omega) (by omega)).bij' (by rw [swp_len]; exact l), ha, hb, ne, ?_, ?_, fun i hi h1 h2 => ?_⟩
  · rw [swp_at (by omega) (by omega)]; simp [sg]
  · rw [swp_at (by omega) (by omega)]; unfold sg; rw [if_neg (fun e => ne e.symm), if_pos rfl]
  · rw [swp_at (by omega) (by omega)]; unfold sg; rw [if_neg h1, if_neg h2]
theorem thn_xch {n : Nat} {q p : List Int} {a b : Nat} (h : Ok q) (hp : Ok p) (l : q.length = n) (lp : p.length = n) (ha : a < n) (hb : b < n) (ne : a ≠ b) : Xch n (thn q p) (thn (swp q a b) p) a b := by
  have x := swp_xch h l ha hb ne
  have ok' := swp_ok (a := a) (b := b) h (by omega) (by omega)
  have l' : (swp q a b).length = n := by rw [swp_len]; exact l
  have at1 : ∀ i, i < n → (thn q p).getD i 0 = p.getD (q.getD i 0).toNat 0 := fun i hi => thn_at (by omega)
  have at2 : ∀ i, i < n → (thn (swp q a b) p).getD i 0 = p.getD ((swp q a b).getD i 0).toNat 0 := fun i hi => thn_at (by omega)
  refine ⟨(thn_ok h hp (by omega)).bij' (by rw [thn_len]; exact l), (thn_ok ok' hp (by omega)).bij' (by rw [thn_len]; exact l'), ha, hb, ne, ?_, ?_, fun i hi h1 h2 => ?_⟩
  · rw [at2 a ha, at1 b hb, x.ea]
  · rw [at2 b hb, at1 a ha, x.eb]
  · rw [at2 i hi, at1 i hi, x.eo i hi h1 h2]
theorem rng_ok {n : Nat} (h : n ≤ 24) : Ok (rng n) := by
  refine ⟨by rw [rng_len]; exact h, fun i hi => ?_, fun i hi => ?_, fun i j hi hj e => ?_⟩
  · rw [rng_len] at hi; rw [rng_at hi]; omega
  · rw [rng_len] at hi ⊢; rw [rng_at hi]; omega
  · rw [rng_len] at hi hj; rw [rng_at hi, rng_at hj] at e; omega
theorem cnum_id {n : Nat} (h : n ≤ 24) : cnum (rng n) n = n := by
  have hb := (rng_ok h).bij' (rng_len n)
  unfold cnum
  rw [cso_count hb n (Nat.le_refl _)]
  have : (rng n).countP (mn (rng n) n) = (rng n).length := by
    rw [List.countP_eq_length]
    intro x hx
    rw [mem_rng] at hx
    unfold mn
    rw [decide_eq_true_eq]
    intro y hy
    obtain ⟨m, e⟩ := (mem_cyc hb hx.1 hx.2).1 hy
    have : ∀ m, it (rng n) x m = x := by
      intro m
      induction m with
      | zero => rfl
      | succ m ih => show (rng n).getD (it (rng n) x m).toNat 0 = x; rw [ih, rng_at (by omega)]; omega
    rw [this m] at e
    omega
  rw [this, rng_len]
theorem eq_rng {n : Nat} {q : List Int} (l : q.length = n) (h : ∀ i, i < n → q.getD i 0 = (i : Int)) : q = rng n :=
  list_eq n l (rng_len n) fun i hi => by rw [h i hi, rng_at hi]
theorem thn_rng {n : Nat} {p : List Int} (l : p.length = n) : thn (rng n) p = p :=
  list_eq n (by rw [thn_len, rng_len]) l fun i hi => by rw [thn_at (by rw [rng_len]; exact hi), rng_at hi, Int.toNat_natCast]
/-- The parity of a product. -/
theorem cnum_mul {n : Nat} {p : List Int} (hp : Ok p) (lp : p.length = n) (h24 : n ≤ 24) : ∀ (d : Nat) (q : List Int), d ≤ n → Ok q → q.length = n → (∀ i, i < n - d → q.getD i 0 = (i : Int)) → (cnum (thn q p) n + cnum q n + cnum p n + n) % 2 = 0 := by
  intro d
  induction d with
  | zero =>
    intro q _ hq lq hf
    have e := eq_rng lq (fun i hi => hf i (by omega))
    rw [e, thn_rng lp, cnum_id h24]
    omega
  | succ d ih =>
    intro q hd hq lq hf
    by_cases ha : q.getD (n - (d + 1)) 0 = ((n - (d + 1) : Nat) : Int)
    · refine ih q (by omega) hq lq fun i hi => ?_
      by_cases e : i = n - (d + 1)
      · rw [e]; exact ha
      · exact hf i (by omega)
    · obtain ⟨b, hb, eb⟩ := hq.onto (y := n - (d + 1)) (by omega)
      have hne : n - (d + 1) ≠ b := fun e => ha (by rw [← e] at eb; exact eb)
      have hlt : n - (d + 1) < b := by
        rcases Nat.lt_or_ge b (n - (d + 1)) with q1 | q1
        · have := hf b q1; omega
        · omega
      have an : n - (d + 1) < n := by omega
      have x1 := (swp_xch hq lq an (by omega) hne).parity
      have x2 := (thn_xch hq hp lq lp an (by omega) hne).parity
      have r := ih (swp q (n - (d + 1)) b) (by omega) (swp_ok hq (by omega) (by omega)) (by rw [swp_len]; exact lq) (fun i hi => by
        rw [swp_at (by omega) (by omega)]
        unfold sg
        by_cases e : i = n - (d + 1)
        · rw [if_pos e, eb, e]
        · rw [if_neg e, if_neg (by omega)]; exact hf i (by omega))
      omega
theorem cnum_then {n : Nat} {q p : List Int} (hq : Ok q) (hp : Ok p) (lq : q.length = n) (lp : p.length = n) : (cnum (thn q p) n + cnum q n + cnum p n + n) % 2 = 0 :=
  cnum_mul hp lp (by have := hp.len; omega) n q (Nat.le_refl _) hq lq (fun i hi => by omega)
theorem thn_inv {n : Nat} {q : List Int} (hq : Ok q) (lq : q.length = n) : thn q (Inv q) = rng n :=
  list_eq n (by rw [thn_len]; exact lq) (rng_len n) fun i hi => by rw [thn_at (by omega), Inv_at hq (by omega), rng_at hi]
theorem cnum_inv {n : Nat} {q : List Int} (hq : Ok q) (lq : q.length = n) : (cnum (Inv q) n + cnum q n) % 2 = 0 := by
  have h24 : n ≤ 24 := by have := hq.len; omega
  have := cnum_then hq (Inv_ok hq) lq (by rw [Inv_len]; exact lq)
  rw [thn_inv hq lq, cnum_id h24] at this
  omega
theorem cnum_le {n : Nat} {q : List Int} (hq : Ok q) (lq : q.length = n) : cnum q n ≤ n := (cso_cs (hq.bij' lq) n (Nat.le_refl _)).len
/-- A commutator. -/
def comm (R U : List Int) : List Int := thn (thn R U) (thn (Inv R) (Inv U))
theorem comm_ok {n : Nat} {R U : List Int} (r : Ok R) (u : Ok U) (lr : R.length = n) (lu : U.length = n) : Ok (comm R U) ∧ (comm R U).length = n :=
  ⟨thn_ok (thn_ok r u (by omega)) (thn_ok (Inv_ok r) (Inv_ok u) (by rw [Inv_len, Inv_len]; omega)) (by rw [thn_len, thn_len, Inv_len]), by unfold comm; rw [thn_len, thn_len]; exact lr⟩
theorem comm_even {n : Nat} {R U : List Int} (r : Ok R) (u : Ok U) (lr : R.length = n) (lu : U.length = n) : (n - cnum (comm R U) n) % 2 = 0 := by
  have a := cnum_then r u lr lu
  have b := cnum_then (Inv_ok r) (Inv_ok u) (n := n) (by rw [Inv_len]; exact lr) (by rw [Inv_len]; exact lu)
  have c := cnum_then (n := n) (thn_ok r u (by omega)) (thn_ok (Inv_ok r) (Inv_ok u) (by rw [Inv_len, Inv_len]; omega)) (by rw [thn_len]; exact lr) (by rw [thn_len, Inv_len]; exact lr)
  have d := cnum_inv r lr; have e := cnum_inv u lu
  have ok := comm_ok r u lr lu
  have f := cnum_le ok.1 ok.2
  unfold comm at f ⊢
  omega
end Go.Proofs.Ytglpiopjhddoeaa.pm
