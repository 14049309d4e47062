/-
  Shears of a surface, one after the other: they come back; the least number of shears that give an isomorphic surface.
-/
import Derived.Test.YtgegkkbnmailaaaOm
import Derived.Test.YtgegkkbnmailaaaMA
namespace Go.Proofs.Ytgegkkbnmailaaa.orb
open Go.Proofs.Ytgegkkbnmailaaa.pm
set_option linter.unusedVariables false
set_option maxRecDepth 100000

/-- k shears. -/
def shN : Nat → Sur → Sur
  | 0, s => s
  | k + 1, s => shearS (shN k s)
theorem shN_sf {n : Nat} {s : Sur} (h : Sf n s.1 s.2) : ∀ k, Sf n (shN k s).1 (shN k s).2
  | 0 => h
  | k + 1 => shear_sf (shN_sf h k)
theorem shN_fst (s : Sur) : ∀ k, (shN k s).1 = s.1
  | 0 => rfl
  | k + 1 => shN_fst s k
theorem thn_getD {xs ys : List Int} {i : Nat} (h : i < xs.length) : (thn xs ys).getD i 0 = ys.getD (xs.getD i 0).toNat 0 := by
  unfold thn
  rw [map_at h]
theorem shN_snd {n : Nat} {R U : List Int} (h : Sf n R U) : ∀ (k i : Nat), i < n → (shN k (R, U)).2.getD i 0 = U.getD (it (Inv R) i k).toNat 0 := by
  intro k
  induction k with
  | zero => intro i hi; simp [shN, it]
  | succ k ih =>
    intro i hi
    have lI : (Inv R).length = n := by rw [Inv_len]; exact h.lr
    have bI : Bij n (Inv R) := by have := (Inv_ok h.r).bij; rwa [lI] at this
    have e : (shN (k + 1) (R, U)).2 = thn (Inv (shN k (R, U)).1) (shN k (R, U)).2 := rfl
    rw [e, shN_fst, thn_getD (by rw [lI]; exact hi)]
    obtain ⟨a0, a1⟩ := bI.maps i hi
    obtain ⟨z, hz⟩ := Int.eq_ofNat_of_zero_le a0
    have hzn : z < n := by omega
    rw [hz, Int.toNat_natCast, ih z hzn]
    have e1 : (z : Int) = it (Inv R) i 1 := by rw [← hz]; simp [it]
    rw [e1, it_add, Nat.add_comm 1 k]
theorem it_per {n : Nat} {ps : List Int} (hb : Bij n ps) {x : Int} (x0 : 0 ≤ x) (x1 : x < n) : it ps x (cyc ps n x).length = x := (way_last (cyc_way hb x0 x1)).symm
theorem it_mul {n : Nat} {ps : List Int} (hb : Bij n ps) {x : Int} (x0 : 0 ≤ x) (x1 : x < n) (m : Nat) : it ps x ((cyc ps n x).length * m) = x := by
  induction m with
  | zero => rfl
  | succ m ih => rw [Nat.mul_succ, ← it_add, ih, it_per hb x0 x1]
theorem prod_le : ∀ (l : List Nat), l.prod ≤ 2 ^ l.sum
  | [] => by simp
  | a :: l => by
    rw [List.prod_cons, List.sum_cons, Nat.pow_add]
    exact Nat.mul_le_mul (Nat.le_of_lt a.lt_two_pow_self) (prod_le l)
theorem prod_pos : ∀ (l : List Nat), (∀ a ∈ l, 0 < a) → 0 < l.prod
  | [], _ => by simp
  | a :: l, h => by
    rw [List.prod_cons]
    exact Nat.mul_pos (h a (by simp)) (prod_pos l (fun b hb => h b (List.mem_cons_of_mem _ hb)))
theorem dvd_prod : ∀ {l : List Nat} {a : Nat}, a ∈ l → a ∣ l.prod
  | b :: l, a, h => by
    rw [List.prod_cons]
    rcases List.mem_cons.1 h with rfl | h
    · exact Nat.dvd_mul_right _ _
    · exact Nat.dvd_trans (dvd_prod h) (Nat.dvd_mul_left _ _)
/-- After some number of steps, at most 2 to the n, all are where they were. -/
theorem it_back {n : Nat} {ps : List Int} (hb : Bij n ps) : ∃ K, 0 < K ∧ K ≤ 2 ^ n ∧ ∀ x : Int, 0 ≤ x → x < n → it ps x K = x := by
  refine ⟨((cso ps n n).map List.length).prod, prod_pos _ (fun a ha => ?_), by have := prod_le ((cso ps n n).map List.length); rwa [cso_len hb] at this, fun x x0 x1 => ?_⟩
  · obtain ⟨c, hc, rfl⟩ := List.mem_map.1 ha
    obtain ⟨i, hi, rfl⟩ := cso_cyc n (Nat.le_refl _) c hc
    have hm : (i : Int) ∈ cyc ps n (i : Int) := cyc_self hb (by omega) (by omega)
    exact List.length_pos_of_mem hm
  · have hx : x ∈ (cso ps n n).flatten := (cso_rng hb).mem_iff.2 (mem_rng.2 ⟨x0, x1⟩)
    obtain ⟨c, hc, hxc⟩ := List.mem_flatten.1 hx
    obtain ⟨i, hi, rfl⟩ := cso_cyc n (Nat.le_refl _) c hc
    have hp := per_same hb (f := (i : Int)) (by omega) (by omega) hxc
    have hd : (cyc ps n x).length ∣ ((cso ps n n).map List.length).prod := by rw [hp]; exact dvd_prod (List.mem_map.2 ⟨_, hc, rfl⟩)
    obtain ⟨m, e⟩ := hd
    rw [e]
    exact it_mul hb x0 x1 m
theorem sh_back {n : Nat} {s : Sur} (h : Sf n s.1 s.2) : ∃ K, 0 < K ∧ K ≤ 16777216 ∧ shN K s = s := by
  obtain ⟨R, U⟩ := s
  have lI : (Inv R).length = n := by rw [Inv_len]; exact h.lr
  have bI : Bij n (Inv R) := by have := (Inv_ok h.r).bij; rwa [lI] at this
  obtain ⟨K, k0, k1, hk⟩ := it_back bI
  have n24 : n ≤ 24 := by have := h.r.len; have := h.lr; omega
  refine ⟨K, k0, Nat.le_trans k1 (by have := Nat.pow_le_pow_right (n := 2) (by decide) n24; simpa using this), ?_⟩
  have hs := shN_sf h K
  refine Prod.ext (shN_fst _ _) (list_eq n hs.lu h.lu fun i hi => ?_)
  rw [shN_snd h K i hi, hk i (by omega) (by omega), Int.toNat_natCast]
/-- From k on, the first number of shears that give a surface isomorphic to s. -/
def spGo (s : Sur) : Nat → Nat → Nat
  | 0, k => k
  | f + 1, k => if cn (shN k s) = cn s then k else spGo s f (k + 1)
def spF (r u : List Int) : Int := if transB r u then (spGo (r, u) 16777216 1 : Nat) else 0
theorem spGo_yes {s : Sur} {f k : Nat} (h : cn (shN k s) = cn s) : spGo s f k = k := by
  cases f with
  | zero => rfl
  | succ f => rw [spGo, if_pos h]
theorem spGo_no {s : Sur} {f k : Nat} (h : ¬ cn (shN k s) = cn s) : spGo s (f + 1) k = spGo s f (k + 1) := by rw [spGo, if_neg h]
/-- The search's state: nothing found below k. -/
structure Sg (s : Sur) (k : Nat) : Prop where
  pos : 0 < k
  go : spGo s (16777217 - k) k = spGo s 16777216 1
  no : ∀ j, 0 < j → j < k → ¬ cn (shN j s) = cn s
theorem Sg.start (s : Sur) : Sg s 1 := ⟨by omega, rfl, fun j h1 h2 => by omega⟩
theorem Sg.le {n k : Nat} {s : Sur} (h : Sg s k) (hs : Sf n s.1 s.2) : k ≤ 16777216 := by
  obtain ⟨K, k0, k1, hk⟩ := sh_back hs
  rcases Nat.lt_or_ge K k with q | q
  · exact absurd (by rw [hk]) (h.no K k0 q)
  · omega
theorem Sg.next {n k : Nat} {s : Sur} (h : Sg s k) (hs : Sf n s.1 s.2) (hne : ¬ cn (shN k s) = cn s) : Sg s (k + 1) := by
  have hk := h.le hs
  refine ⟨by omega, ?_, fun j h1 h2 => ?_⟩
  · rw [← h.go, show 16777217 - k = (16777217 - (k + 1)) + 1 by omega, spGo_no hne]
  · by_cases e : j = k
    · subst e; exact hne
    · exact h.no j h1 (by omega)
theorem Sg.done {k : Nat} {s : Sur} (h : Sg s k) (he : cn (shN k s) = cn s) : spGo s 16777216 1 = k := by rw [← h.go, spGo_yes he]
end Go.Proofs.Ytgegkkbnmailaaa.orb
