/-
  More on permutations as lists: each number is met; renaming.
-/
import Derived.Test.YtglpiopjhddoeaaPm2
namespace Go.Proofs.Ytglpiopjhddoeaa.pm
open Go.Proofs.Ytglpiopjhddoeaa.arr Go.Proofs.Ytglpiopjhddoeaa.inv Go.Proofs.Ytglpiopjhddoeaa.permOf
set_option linter.unusedVariables false
set_option maxRecDepth 100000

theorem nodup_le : ∀ (n : Nat) (l : List Nat), l.Nodup → (∀ x ∈ l, x < n) → l.length ≤ n := by
  intro n
  induction n with
  | zero =>
    intro l _ h
    cases l with
    | nil => simp
    | cons a t => have := h a (by simp); omega
  | succ n ih =>
    intro l hd h
    by_cases hm : n ∈ l
    · have h1 := ih (l.erase n) (hd.erase n) (fun x hx => by
        have h2 := (List.Nodup.mem_erase_iff hd).1 hx
        have := h x h2.2
        have := h2.1
        omega)
      rw [List.length_erase_of_mem hm] at h1
      omega
    · have h1 := ih l hd (fun x hx => by
        have := h x hx
        have : x ≠ n := fun e => hm (e ▸ hx)
        omega)
      omega
theorem onto_of_inj (n : Nat) (f : Nat → Nat) (h1 : ∀ i, i < n → f i < n) (h2 : ∀ i j, i < n → j < n → f i = f j → i = j) (y : Nat) (hy : y < n) : ∃ k, k < n ∧ f k = y := by
  by_cases h : ∃ k, k < n ∧ f k = y
  · exact h
  · exfalso
    have hn : ((List.range n).map f).Nodup := by
      unfold List.Nodup
      rw [List.pairwise_map]
      refine List.Pairwise.imp_of_mem ?_ (List.pairwise_lt_range (n := n))
      intro a b ha hb hab e
      simp at ha hb
      have := h2 a b ha hb e
      omega
    have hy' : ¬ y ∈ (List.range n).map f := by
      intro hm
      obtain ⟨k, hk, e⟩ := List.mem_map.1 hm
      simp at hk
      exact h ⟨k, hk, e⟩
    have := nodup_le n (y :: (List.range n).map f) (List.nodup_cons.2 ⟨hy', hn⟩) (by
      intro x hx
      rcases List.mem_cons.1 hx with rfl | hx
      · exact hy
      · obtain ⟨k, hk, rfl⟩ := List.mem_map.1 hx
        simp at hk
        exact h1 k hk)
    simp at this
    omega
theorem Ok.onto {ys : List Int} (h : Ok ys) {y : Nat} (hy : y < ys.length) : ∃ k, k < ys.length ∧ ys.getD k 0 = (y : Int) := by
  obtain ⟨k, hk, e⟩ := onto_of_inj ys.length (fun i => (ys.getD i 0).toNat) (fun i hi => by have := h.lo i hi; have := h.hi i hi; omega) (fun i j hi hj e => h.inj i j hi hj (by have := h.lo i hi; have := h.lo j hj; omega)) y hy
  exact ⟨k, hk, by have := h.lo k hk; omega⟩

/-- n cells; cell f j gets g j, for j up to k. -/
def setTo (n : Nat) (f : Nat → Nat) (g : Nat → Int) : Nat → List Int
  | 0 => List.replicate n 0
  | k + 1 => (setTo n f g k).set (f k) (g k)
theorem setTo_len (n : Nat) (f : Nat → Nat) (g : Nat → Int) (k : Nat) : (setTo n f g k).length = n := by
  induction k with
  | zero => simp [setTo]
  | succ k ih => simp [setTo, ih]
theorem setTo_at (n : Nat) (f : Nat → Nat) (g : Nat → Int) (k : Nat) (hf : ∀ i j, i < k → j < k → f i = f j → i = j) (hl : ∀ i, i < k → f i < n) {j : Nat} (hj : j < k) : (setTo n f g k).getD (f j) 0 = g j := by
  induction k with
  | zero => omega
  | succ k ih =>
    rw [setTo, getD_set]
    by_cases e : j = k
    · subst e; rw [if_pos ⟨rfl, by rw [setTo_len]; exact hl j (by omega)⟩]
    · rw [if_neg (fun h => e (hf j k (by omega) (by omega) h.1.symm)), ih (fun i j hi hj => hf i j (by omega) (by omega)) (fun i hi => hl i (by omega)) (by omega)]
theorem invTo_eq (n : Nat) (qs : List Int) (k : Nat) : invTo n qs k = setTo n (fun j => (qs.getD j 0).toNat) (fun j => (j : Int)) k := by
  induction k with
  | zero => rfl
  | succ k ih => rw [invTo, setTo, ih]
theorem Ok.injN {ys : List Int} (h : Ok ys) : ∀ i j, i < ys.length → j < ys.length → (ys.getD i 0).toNat = (ys.getD j 0).toNat → i = j :=
  fun i j hi hj e => h.inj i j hi hj (by have := h.lo i hi; have := h.lo j hj; omega)
theorem Ok.ltN {ys : List Int} (h : Ok ys) : ∀ i, i < ys.length → (ys.getD i 0).toNat < ys.length :=
  fun i hi => by have := h.lo i hi; have := h.hi i hi; omega
theorem inv_at {ys : List Int} (h : Ok ys) {k : Nat} (hk : k < ys.length) : (invTo ys.length ys ys.length).getD (ys.getD k 0).toNat 0 = (k : Int) := by
  rw [invTo_eq, setTo_at _ _ _ _ h.injN h.ltN hk]
def renTo (n : Nat) (xs ys : List Int) (k : Nat) : List Int := setTo n (fun j => (ys.getD j 0).toNat) (fun j => ys.getD (xs.getD j 0).toNat 0) k
theorem renTo_len (n : Nat) (xs ys : List Int) (k : Nat) : (renTo n xs ys k).length = n := setTo_len _ _ _ _
theorem renTo_succ (n : Nat) (xs ys : List Int) (k : Nat) : renTo n xs ys (k + 1) = (renTo n xs ys k).set (ys.getD k 0).toNat (ys.getD (xs.getD k 0).toNat 0) := rfl
def renF (xs ys : List Int) : List Int := if okBB xs ys then renTo xs.length xs ys xs.length else []
theorem renF_len (xs ys : List Int) : (renF xs ys).length ≤ 1048576 := by
  unfold renF; split
  · rename_i h; have := (Ok.of xs (okBB_iff.1 h).1).len; rw [renTo_len]; omega
  · simp
theorem ren_at {xs ys : List Int} (h' : Ok ys) (e : xs.length = ys.length) {k : Nat} (hk : k < xs.length) : (renTo xs.length xs ys xs.length).getD (ys.getD k 0).toNat 0 = ys.getD (xs.getD k 0).toNat 0 := by
  unfold renTo
  rw [e]
  exact setTo_at _ _ _ _ h'.injN h'.ltN (by omega)
theorem thenL_at (ps qs : List Int) {i : Nat} (h : i < 24) : (thenL ps qs).getD i 0 = qs.getD (ps.getD i 0).toNat 0 := by
  unfold thenL; rw [tab_get _ h]
theorem take_ren {xs ys : List Int} (h : Ok xs) (h' : Ok ys) (e : xs.length = ys.length) : (thenL (thenL (invTo 24 (ext ys) 24) (ext xs)) (ext ys)).take xs.length = renTo xs.length xs ys xs.length := by
  have hl := h.len
  refine list_eq xs.length (by simp [thenL, tab_len]; omega) (renTo_len _ _ _ _) fun i hi => ?_
  obtain ⟨k, hk, ek⟩ := h'.onto (y := i) (by omega)
  have e1 : (invTo 24 (ext ys) 24).getD i 0 = (k : Int) := by
    rw [← getD_take (n := ys.length) (by omega), take_inv h']
    have := inv_at h' hk
    rw [ek] at this
    simpa using this
  rw [getD_take hi, thenL_at _ _ (by omega), thenL_at _ _ (by omega), e1, Int.toNat_natCast]
  have h1 := h.lo k (by omega); have h2 := h.hi k (by omega)
  rw [ext_at (xs := xs) (i := k) (by omega), if_pos (by omega), ext_at (by omega), if_pos (by omega)]
  have := ren_at (xs := xs) h' e (k := k) (by omega)
  rw [ek] at this
  simpa using this.symm
end Go.Proofs.Ytglpiopjhddoeaa.pm
