/-
  The elements that two permutations reach from one, in the order in which they are met.
-/
import Derived.Test.YtglpiopjhddoeaaPm3
namespace Go.Proofs.Ytglpiopjhddoeaa.pm
open Go.Proofs.Ytglpiopjhddoeaa.arr Go.Proofs.Ytglpiopjhddoeaa.inv Go.Proofs.Ytglpiopjhddoeaa.permOf
set_option linter.unusedVariables false
set_option maxRecDepth 100000

def add1 (l : List Int) (x : Int) : List Int := if x ∈ l then l else l ++ [x]
def rnd (ps qs l : List Int) (k : Nat) : List Int := if k < l.length then add1 (add1 l (ps.getD (l.getD k 0).toNat 0)) (qs.getD (l.getD k 0).toNat 0) else l
def rs (ps qs : List Int) (f : Int) : Nat → List Int
  | 0 => [f]
  | k + 1 => rnd ps qs (rs ps qs f k) k
/-- Different numbers from 0 up to n. -/
structure In (n : Nat) (l : List Int) : Prop where
  nd : l.Nodup
  lo : ∀ x ∈ l, 0 ≤ x
  hi : ∀ x ∈ l, x < n
theorem In.len {n : Nat} {l : List Int} (h : In n l) : l.length ≤ n := by
  have := nodup_le n (l.map Int.toNat) (by
    unfold List.Nodup
    rw [List.pairwise_map]
    refine List.Pairwise.imp_of_mem ?_ h.nd
    intro a b ha hb hab e
    have := h.lo a ha; have := h.lo b hb
    exact hab (by omega)) (by
    intro x hx
    obtain ⟨y, hy, rfl⟩ := List.mem_map.1 hx
    have := h.lo y hy; have := h.hi y hy
    omega)
  simpa using this
theorem In.add {n : Nat} {l : List Int} (h : In n l) {x : Int} (h0 : 0 ≤ x) (h1 : x < n) : In n (add1 l x) := by
  unfold add1
  split
  · exact h
  · rename_i hx
    refine ⟨?_, fun y hy => ?_, fun y hy => ?_⟩
    · rw [List.nodup_append]
      exact ⟨h.nd, by simp, fun a ha b hb e => by simp at hb; subst hb; exact hx (e ▸ ha)⟩
    · rcases List.mem_append.1 hy with hy | hy
      · exact h.lo y hy
      · simp at hy; subst hy; exact h0
    · rcases List.mem_append.1 hy with hy | hy
      · exact h.hi y hy
      · simp at hy; subst hy; exact h1
theorem add1_le (l : List Int) (x : Int) : l.length ≤ (add1 l x).length := by unfold add1; split <;> simp
/-- Numbers from 0 up to n go to such numbers. -/
def Maps (n : Nat) (ps : List Int) : Prop := ∀ i, i < n → 0 ≤ ps.getD i 0 ∧ ps.getD i 0 < n
theorem Ok.maps {xs : List Int} (h : Ok xs) : Maps xs.length xs := fun i hi => ⟨h.lo i hi, h.hi i hi⟩
theorem Sq.maps {xs : List Int} (h : Sq xs) : Maps 24 xs := fun i hi => ⟨h.lo i hi, h.hi i hi⟩
theorem In.at_ {n : Nat} {l : List Int} (h : In n l) {k : Nat} (hk : k < l.length) : ∃ z : Nat, z < n ∧ l[k]? = some (z : Int) ∧ l.getD k 0 = (z : Int) := by
  have hm : l[k] ∈ l := List.getElem_mem hk
  have h1 := h.lo _ hm; have h2 := h.hi _ hm
  refine ⟨l[k].toNat, by omega, ?_, ?_⟩
  · rw [List.getElem?_eq_getElem hk]; congr 1; omega
  · simp [List.getD, List.getElem?_eq_getElem hk]; omega
theorem In.rnd {n : Nat} {l ps qs : List Int} (h : In n l) (hp : Maps n ps) (hq : Maps n qs) (k : Nat) : In n (rnd ps qs l k) := by
  unfold pm.rnd
  split
  · rename_i hk
    obtain ⟨z, hz, _, e⟩ := h.at_ hk
    rw [e, Int.toNat_natCast]
    exact (h.add (hp z hz).1 (hp z hz).2).add (hq z hz).1 (hq z hz).2
  · exact h
theorem rs_in {n : Nat} {ps qs : List Int} (hp : Maps n ps) (hq : Maps n qs) {f : Int} (h0 : 0 ≤ f) (h1 : f < n) (k : Nat) : In n (rs ps qs f k) := by
  induction k with
  | zero => exact ⟨by simp [rs], fun x hx => by simp [rs] at hx; omega, fun x hx => by simp [rs] at hx; omega⟩
  | succ k ih => exact ih.rnd hp hq k
theorem rs_stay (ps qs : List Int) (f : Int) {k : Nat} (h : (rs ps qs f k).length ≤ k) (j : Nat) : rs ps qs f (k + j) = rs ps qs f k := by
  induction j with
  | zero => rfl
  | succ j ih =>
    show pm.rnd ps qs (rs ps qs f (k + j)) (k + j) = _
    rw [ih]
    unfold pm.rnd
    rw [if_neg (by omega)]
theorem rs_stop (ps qs : List Int) (f : Int) {k m : Nat} (h : (rs ps qs f k).length ≤ k) (hm : k ≤ m) : rs ps qs f m = rs ps qs f k := by
  obtain ⟨j, rfl⟩ : ∃ j, m = k + j := ⟨m - k, by omega⟩
  exact rs_stay ps qs f h j
theorem rs_step (ps qs : List Int) (f : Int) {k z : Nat} (h : k < (rs ps qs f k).length) (hz : (rs ps qs f k).getD k 0 = (z : Int)) : rs ps qs f (k + 1) = add1 (add1 (rs ps qs f k) (ps.getD z 0)) (qs.getD z 0) := by
  show pm.rnd ps qs (rs ps qs f k) k = _
  unfold pm.rnd
  rw [if_pos h, hz, Int.toNat_natCast]
theorem rs_le (ps qs : List Int) (f : Int) {k : Nat} (h : k < (rs ps qs f k).length) : k + 1 ≤ (rs ps qs f (k + 1)).length := by
  show _ ≤ (pm.rnd ps qs (rs ps qs f k) k).length
  unfold pm.rnd
  rw [if_pos h]
  exact Nat.le_trans h (Nat.le_trans (add1_le _ _) (add1_le _ _))
theorem rs_congr {n : Nat} {ps qs ps' qs' : List Int} (hp : Maps n ps) (hq : Maps n qs) (h1 : ∀ i, i < n → ps'.getD i 0 = ps.getD i 0) (h2 : ∀ i, i < n → qs'.getD i 0 = qs.getD i 0) {f : Int} (hf0 : 0 ≤ f) (hf1 : f < n) (k : Nat) : rs ps' qs' f k = rs ps qs f k := by
  induction k with
  | zero => rfl
  | succ k ih =>
    show pm.rnd ps' qs' (rs ps' qs' f k) k = pm.rnd ps qs (rs ps qs f k) k
    rw [ih]
    unfold pm.rnd
    split
    · rename_i hk
      obtain ⟨z, hz, _, e⟩ := (rs_in hp hq hf0 hf1 k).at_ hk
      rw [e, Int.toNat_natCast, h1 z hz, h2 z hz]
    · rfl
/-- All that are reached. -/
def reach (ps qs : List Int) (f : Int) : List Int := rs ps qs f ps.length
theorem reach_of {ps qs : List Int} {n : Nat} (hn : ps.length = n) {f : Int} {k : Nat} (hk : k ≤ n) (h : (rs ps qs f k).length ≤ k) : rs ps qs f k = reach ps qs f := by
  unfold reach; rw [hn]; exact (rs_stop ps qs f h hk).symm
theorem reach_ext {xs ys : List Int} (h : Ok xs) (h' : Ok ys) (e : xs.length = ys.length) {f : Int} (hf0 : 0 ≤ f) (hf1 : f < xs.length) : reach (ext xs) (ext ys) f = reach xs ys f := by
  have hl := h.len
  have hy : Maps xs.length ys := by rw [e]; exact h'.maps
  unfold reach
  rw [ext_len, rs_congr (ps' := ext xs) (qs' := ext ys) h.maps hy (fun i hi => by rw [ext_at (by omega), if_pos hi]) (fun i hi => by rw [ext_at (by omega), if_pos (by omega)]) hf0 hf1]
  exact rs_stop _ _ _ ((rs_in h.maps hy hf0 hf1 _).len) hl
def transB (xs ys : List Int) : Bool := okBB xs ys && decide (0 < xs.length) && decide ((reach xs ys 0).length = xs.length)

def flagsOf (l : List Int) : List Bool := tabB fun j => decide ((j : Int) ∈ l)
theorem flagsOf_add {l : List Int} {z : Nat} (hz : ¬ (z : Int) ∈ l) : (flagsOf l).set z true = flagsOf (add1 l (z : Int)) := by
  refine tabB_set _ _ fun j hj => ?_
  unfold add1
  rw [if_neg hz]
  by_cases hjz : j = z
  · subst hjz; simp
  · have : ¬ ((j : Int) = (z : Int)) := by omega
    simp [hjz, this]
end Go.Proofs.Ytglpiopjhddoeaa.pm
