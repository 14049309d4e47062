import Derived.Test.YtajkfkpnjbkhhaaPm2
import Derived.Lib.Slices
/-
  More on permutations as lists: each number is met; renaming.
-/
namespace Go.Proofs.Ytajkfkpnjbkhhaa.pm
open Go.Proofs.Ytajkfkpnjbkhhaa.arr Go.Proofs.Ytajkfkpnjbkhhaa.inv Go.Proofs.Ytajkfkpnjbkhhaa.permOf
set_option linter.unusedVariables false
set_option maxRecDepth 100000

theorem nodup_le : ∀ (n : Nat) (l : List Nat), l.Nodup → (∀ x ∈ l, x < n) → l.length ≤ n := by
  intro n
  induction n with
  | zero =>
    intro l _ h
    cases l with
    | nil => simp
    | cons a t => have := h a (by simp); omega
  | succ n ih =>
    intro l hd h
    by_cases hm : n ∈ l
    · have h1 := ih (l.erase n) (hd.erase n) (fun x hx => by
        have h2 := (List.Nodup.mem_erase_iff hd).1 hx
        have := h x h2.2
        have := h2.1
        omega)
      rw [List.length_erase_of_mem hm] at h1
      omega
    · have h1 := ih l hd (fun x hx => by
        have := h x hx
        have : x ≠ n := fun e => hm (e ▸ hx)
        omega)
      omega
theorem onto_of_inj (n : Nat) (f : Nat → Nat) (h1 : ∀ i, i < n → f i < n) (h2 : ∀ i j, i < n → j < n → f i = f j → i = j) (y : Nat) (hy : y < n) : ∃ k, k < n ∧ f k = y := by
  by_cases h : ∃ k, k < n ∧ f k = y
  · exact h
  · exfalso
    have hn : ((List.range n).map f).Nodup := by
      unfold List.Nodup
      rw [List.pairwise_map]
      refine List.Pairwise.imp_of_mem ?_ (List.pairwise_lt_range (n := n))
      intro a b ha hb hab e
      simp at ha hb
      have := h2 a b ha hb e
      omega
    have hy' : ¬ y ∈ (List.range n).map f := by
      intro hm
      obtain ⟨k, hk, e⟩ := List.mem_map.1 hm
      simp at hk
      exact h ⟨k, hk, e⟩
    have := nodup_le n (y :: (List.range n).map f) (List.nodup_cons.2 ⟨hy', hn⟩) (by
      intro x hx
      rcases List.mem_cons.1 hx with rfl | hx
      · exact hy
      · obtain ⟨k, hk, rfl⟩ := List.mem_map.1 hx
        simp at hk
        exact h1 k hk)
    simp at this
    omega
theorem Ok.onto {ys : List Int} (h : Ok ys) {y : Nat} (hy : y < ys.length) : ∃ k, k < ys.length ∧ ys.getD k 0 = (y : Int) := by
  obtain ⟨k, hk, e⟩ := onto_of_inj ys.length (fun i => (ys.getD i 0).toNat) (fun i hi => by have := h.lo i hi; have := h.hi i hi; omega) (fun i j hi hj e => h.inj i j hi hj (by have := h.lo i hi; have := h.lo j hj; omega)) y hy
  exact ⟨k, hk, by have := h.lo k hk; omega⟩

/-- n cells; cell f j gets g j, for j up to k. -/
def setTo (n : Nat) (f : Nat → Nat) (g : Nat → Int) : Nat → List Int
  | 0 => List.replicate n 0
  | k + 1 => (setTo n f g k).set (f k) (g k)
theorem setTo_len (n : Nat) (f : Nat → Nat) (g : Nat → Int) (k : Nat) : (setTo n f g k).length = n := by
  induction k with
  | zero => simp [setTo]
  | succ k ih => simp [setTo, ih]
theorem setTo_at (n : Nat) (f : Nat → Nat) (g : Nat → Int) (k : Nat) (hf : ∀ i j, i < k → j < k → f i = f j → i = j) (hl : ∀ i, i < k → f i < n) {j : Nat} (hj : j < k) : (setTo n f g k).getD (f j) 0 = g j := by
  induction k with
  | zero => omega
  | succ k ih =>
    rw [setTo, getD_set]
    by_cases e : j = k
    · subst e; rw [if_pos ⟨rfl, by rw [setTo_len]; exact hl j (by omega)⟩]
    · rw [if_neg (fun h => e (hf j k (by omega) (by omega) h.1.symm)), ih (fun i j hi hj => hf i j (by omega) (by omega)) (fun i hi => hl i (by omega)) (by omega)]
theorem invTo_eq (n : Nat) (qs : List Int) (k : Nat) : invTo n qs k = setTo n (fun j => (qs.getD j 0).toNat) (fun j => (j : Int)) k := by
  induction k with
  | zero => rfl
  | succ k ih => rw [invTo, setTo, ih]
theorem Ok.injN {ys : List Int} (h : Ok ys) : ∀ i j, i < ys.length → j < ys.length → (ys.getD i 0).toNat = (ys.getD j 0).toNat → i = j :=
  fun i j hi hj e => h.inj i j hi hj (by have := h.lo i hi; have := h.lo j hj; omega)
theorem Ok.ltN {ys : List Int} (h : Ok ys) : ∀ i, i < ys.length → (ys.getD i 0).toNat < ys.length :=
  fun i hi => by have := h.lo i hi; have := h.hi i hi; omega
theorem inv_at {ys : List Int} (h : Ok ys) {k : Nat} (hk : k < ys.length) : (invTo ys.length ys ys.length).getD (ys.getD k 0).toNat 0 = (k : Int) := by
  rw [invTo_eq, setTo_at _ _ _ _ h.injN h.ltN hk]
def renTo (n : Nat) (xs ys : List Int) (k : Nat) : List Int := setTo n (fun j => (ys.getD j 0).toNat) (fun j => ys.getD (xs.getD j 0).toNat 0) k
theorem renTo_len (n : Nat) (xs ys : List Int) (k : Nat) : (renTo n xs ys k).length = n := setTo_len _ _ _ _
theorem renTo_succ (n : Nat) (xs ys : List Int) (k : Nat) : renTo n xs ys (k + 1) = (renTo n xs ys k).set (ys.getD k 0).toNat (ys.getD (xs.getD k 0).toNat 0) := rfl
def renF (xs ys : List Int) : List Int := if okBB xs ys then renTo xs.length xs ys xs.length else []
theorem renF_len (xs ys : List Int) : (renF xs ys).length ≤ 1048576 := by
  unfold renF; split
  · rename_i h; have := (Ok.of xs (okBB_iff.1 h).1).len; rw [renTo_len]; omega
  · simp
theorem ren_at {xs ys : List Int} (h' : Ok ys) (e : xs.length = ys.length) {k : Nat} (hk : k < xs.length) : (renTo xs.length xs ys xs.length).getD (ys.getD k 0).toNat 0 = ys.getD (xs.getD k 0).toNat 0 := by
  unfold renTo
  rw [e]
  exact setTo_at _ _ _ _ h'.injN h'.ltN (by omega)
theorem thenL_at (ps qs : List Int) {i : Nat} (h : i < 24) : (thenL ps qs).getD i 0 = qs.getD (ps.getD i 0).toNat 0 := by
  unfold thenL; rw [tab_get _ h]
theorem take_ren {xs ys : List Int} (h : Ok xs) (h' : Ok ys) (e : xs.length = ys.length) : (thenL (thenL (invTo 24 (ext ys) 24) (ext xs)) (ext ys)).take xs.length = renTo xs.length xs ys xs.length := by
  have hl := h.len
  refine list_eq xs.length (by simp [thenL, tab_len]; omega) (renTo_len _ _ _ _) fun i hi => ?_
  obtain ⟨k, hk, ek⟩ := h'.onto (y := i) (by omega)
  have e1 : (invTo 24 (ext ys) 24).getD i 0 = (k : Int) := by
    rw [← getD_take (n := ys.length) (by omega), take_inv h']
    have := inv_at h' hk
    rw [ek] at this
    simpa using this
  rw [getD_take hi, thenL_at _ _ (by omega), thenL_at _ _ (by omega), e1, Int.toNat_natCast]
  have h1 := h.lo k (by omega); have h2 := h.hi k (by omega)
  rw [ext_at (xs := xs) (i := k) (by omega), if_pos (by omega), ext_at (by omega), if_pos (by omega)]
  have := ren_at (xs := xs) h' e (k := k) (by omega)
  rw [ek] at this
  simpa using this.symm
end Go.Proofs.Ytajkfkpnjbkhhaa.pm

/-
  The elements that two permutations reach from one, in the order in which they are met.
-/
namespace Go.Proofs.Ytajkfkpnjbkhhaa.pm
open Go.Proofs.Ytajkfkpnjbkhhaa.arr Go.Proofs.Ytajkfkpnjbkhhaa.inv Go.Proofs.Ytajkfkpnjbkhhaa.permOf
set_option linter.unusedVariables false
set_option maxRecDepth 100000

def add1 (l : List Int) (x : Int) : List Int := if x ∈ l then l else l ++ [x]
def rnd (ps qs l : List Int) (k : Nat) : List Int := if k < l.length then add1 (add1 l (ps.getD (l.getD k 0).toNat 0)) (qs.getD (l.getD k 0).toNat 0) else l
def rs (ps qs : List Int) (f : Int) : Nat → List Int
  | 0 => [f]
  | k + 1 => rnd ps qs (rs ps qs f k) k
/-- Different numbers from 0 up to n. -/
structure In (n : Nat) (l : List Int) : Prop where
  nd : l.Nodup
  lo : ∀ x ∈ l, 0 ≤ x
  hi : ∀ x ∈ l, x < n
theorem In.len {n : Nat} {l : List Int} (h : In n l) : l.length ≤ n := by
  have := nodup_le n (l.map Int.toNat) (by
    unfold List.Nodup
    rw [List.pairwise_map]
    refine List.Pairwise.imp_of_mem ?_ h.nd
    intro a b ha hb hab e
    have := h.lo a ha; have := h.lo b hb
    exact hab (by omega)) (by
    intro x hx
    obtain ⟨y, hy, rfl⟩ := List.mem_map.1 hx
    have := h.lo y hy; have := h.hi y hy
    omega)
  simpa using this
theorem In.add {n : Nat} {l : List Int} (h : In n l) {x : Int} (h0 : 0 ≤ x) (h1 : x < n) : In n (add1 l x) := by
  unfold add1
  split
  · exact h
  · rename_i hx
    refine ⟨?_, fun y hy => ?_, fun y hy => ?_⟩
    · rw [List.nodup_append]
      exact ⟨h.nd, by simp, fun a ha b hb e => by simp at hb; subst hb; exact hx (e ▸ ha)⟩
    · rcases List.mem_append.1 hy with hy | hy
      · exact h.lo y hy
      · simp at hy; subst hy; exact h0
    · rcases List.mem_append.1 hy with hy | hy
      · exact h.hi y hy
      · simp at hy; subst hy; exact h1
theorem add1_le (l : List Int) (x : Int) : l.length ≤ (add1 l x).length := by unfold add1; split <;> simp
/-- Numbers from 0 up to n go to such numbers. -/
def Maps (n : Nat) (ps : List Int) : Prop := ∀ i, i < n → 0 ≤ ps.getD i 0 ∧ ps.getD i 0 < n
theorem Ok.maps {xs : List Int} (h : Ok xs) : Maps xs.length xs := fun i hi => ⟨h.lo i hi, h.hi i hi⟩
theorem Sq.maps {xs : List Int} (h : Sq xs) : Maps 24 xs := fun i hi => ⟨h.lo i hi, h.hi i hi⟩
theorem In.at_ {n : Nat} {l : List Int} (h : In n l) {k : Nat} (hk : k < l.length) : ∃ z : Nat, z < n ∧ l[k]? = some (z : Int) ∧ l.getD k 0 = (z : Int) := by
  have hm : l[k] ∈ l := List.getElem_mem hk
  have h1 := h.lo _ hm; have h2 := h.hi _ hm
  refine ⟨l[k].toNat, by omega, ?_, ?_⟩
  · rw [List.getElem?_eq_getElem hk]; congr 1; omega
  · simp [List.getD, List.getElem?_eq_getElem hk]; omega
theorem In.rnd {n : Nat} {l ps qs : List Int} (h : In n l) (hp : Maps n ps) (hq : Maps n qs) (k : Nat) : In n (rnd ps qs l k) := by
  unfold pm.rnd
  split
  · rename_i hk
    obtain ⟨z, hz, _, e⟩ := h.at_ hk
    rw [e, Int.toNat_natCast]
    exact (h.add (hp z hz).1 (hp z hz).2).add (hq z hz).1 (hq z hz).2
  · exact h
theorem rs_in {n : Nat} {ps qs : List Int} (hp : Maps n ps) (hq : Maps n qs) {f : Int} (h0 : 0 ≤ f) (h1 : f < n) (k : Nat) : In n (rs ps qs f k) := by
  induction k with
  | zero => exact ⟨by simp [rs], fun x hx => by simp [rs] at hx; omega, fun x hx => by simp [rs] at hx; omega⟩
  | succ k ih => exact ih.rnd hp hq k
theorem rs_stay (ps qs : List Int) (f : Int) {k : Nat} (h : (rs ps qs f k).length ≤ k) (j : Nat) : rs ps qs f (k + j) = rs ps qs f k := by
  induction j with
  | zero => rfl
  | succ j ih =>
    show pm.rnd ps qs (rs ps qs f (k + j)) (k + j) = _
    rw [ih]
    unfold pm.rnd
    rw [if_neg (by omega)]
theorem rs_stop (ps qs : List Int) (f : Int) {k m : Nat} (h : (rs ps qs f k).length ≤ k) (hm : k ≤ m) : rs ps qs f m = rs ps qs f k := by
  obtain ⟨j, rfl⟩ : ∃ j, m = k + j := ⟨m - k, by omega⟩
  exact rs_stay ps qs f h j
theorem rs_step (ps qs : List Int) (f : Int) {k z : Nat} (h : k < (rs ps qs f k).length) (hz : (rs ps qs f k).getD k 0 = (z : Int)) : rs ps qs f (k + 1) = add1 (add1 (rs ps qs f k) (ps.getD z 0)) (qs.getD z 0) := by
  show pm.rnd ps qs (rs ps qs f k) k = _
  unfold pm.rnd
  rw [if_pos h, hz, Int.toNat_natCast]
theorem rs_le (ps qs : List Int) (f : Int) {k : Nat} (h : k < (rs ps qs f k).length) : k + 1 ≤ (rs ps qs f (k + 1)).length := by
  show _ ≤ (pm.rnd ps qs (rs ps qs f k) k).length
  unfold pm.rnd
  rw [if_pos h]
  exact Nat.le_trans h (Nat.le_trans (add1_le _ _) (add1_le _ _))
theorem rs_congr {n : Nat} {ps qs ps' qs' : List Int} (hp : Maps n ps) (hq : Maps n qs) (h1 : ∀ i, i < n → ps'.getD i 0 = ps.getD i 0) (h2 : ∀ i, i < n → qs'.getD i 0 = qs.getD i 0) {f : Int} (hf0 : 0 ≤ f) (hf1 : f < n) (k : Nat) : rs ps' qs' f k = rs ps qs f k := by
  induction k with
  | zero => rfl
  | succ k ih =>
    show pm.rnd ps' qs' (rs ps' qs' f k) k = pm.rnd ps qs (rs ps qs f k) k
    rw [ih]
    unfold pm.rnd
    split
    · rename_i hk
      obtain ⟨z, hz, _, e⟩ := (rs_in hp hq hf0 hf1 k).at_ hk
      rw [e, Int.toNat_natCast, h1 z hz, h2 z hz]
    · rfl
/-- All that are reached. -/
def reach (ps qs : List Int) (f : Int) : List Int := rs ps qs f ps.length
theorem reach_of {ps qs : List Int} {n : Nat} (hn : ps.length = n) {f : Int} {k : Nat} (hk : k ≤ n) (h : (rs ps qs f k).length ≤ k) : rs ps qs f k = reach ps qs f := by
  unfold reach; rw [hn]; exact (rs_stop ps qs f h hk).symm
theorem reach_ext {xs ys : List Int} (h : Ok xs) (h' : Ok ys) (e : xs.length = ys.length) {f : Int} (hf0 : 0 ≤ f) (hf1 : f < xs.length) : reach (ext xs) (ext ys) f = reach xs ys f := by
  have hl := h.len
  have hy : Maps xs.length ys := by rw [e]; exact h'.maps
  unfold reach
  rw [ext_len, rs_congr (ps' := ext xs) (qs' := ext ys) h.maps hy (fun i hi => by rw [ext_at (by omega), if_pos hi]) (fun i hi => by rw [ext_at (by omega), if_pos (by omega)]) hf0 hf1]
  exact rs_stop _ _ _ ((rs_in h.maps hy hf0 hf1 _).len) hl
def transB (xs ys : List Int) : Bool := okBB xs ys && decide (0 < xs.length) && decide ((reach xs ys 0).length = xs.length)

def flagsOf (l : List Int) : List Bool := tabB fun j => decide ((j : Int) ∈ l)
theorem flagsOf_add {l : List Int} {z : Nat} (hz : ¬ (z : Int) ∈ l) : (flagsOf l).set z true = flagsOf (add1 l (z : Int)) := by
  refine tabB_set _ _ fun j hj => ?_
  unfold add1
  rw [if_neg hz]
  by_cases hjz : j = z
  · subst hjz; simp
  · have : ¬ ((j : Int) = (z : Int)) := by omega
    simp [hjz, this]
end Go.Proofs.Ytajkfkpnjbkhhaa.pm

/-
  The cycles of a permutation: plain mathematics.
-/
namespace Go.Proofs.Ytajkfkpnjbkhhaa.pm
open Go.Proofs.Ytajkfkpnjbkhhaa.arr Go.Proofs.Ytajkfkpnjbkhhaa.inv Go.Proofs.Ytajkfkpnjbkhhaa.permOf
set_option linter.unusedVariables false
set_option maxRecDepth 100000

/-- From x on, until f comes again, at most m steps. -/
def cy (ps : List Int) (f : Int) : Nat → Int → List Int → List Int
  | 0, _, acc => acc
  | m + 1, x, acc => if x = f then acc else cy ps f m (ps.getD x.toNat 0) (acc ++ [x])
def cyc (ps : List Int) (n : Nat) (f : Int) : List Int := cy ps f n (ps.getD f.toNat 0) [f]
/-- Numbers from 0 up to n go to such numbers, different ones to different ones. -/
structure Bij (n : Nat) (ps : List Int) : Prop where
  maps : Maps n ps
  inj : ∀ i j : Nat, i < n → j < n → ps.getD i 0 = ps.getD j 0 → i = j
theorem Ok.bij {xs : List Int} (h : Ok xs) : Bij xs.length xs := ⟨h.maps, h.inj⟩
theorem Ok.bijExt {xs : List Int} (h : Ok xs) : Bij xs.length (ext xs) := by
  have hl := h.len
  have e : ∀ i, i < xs.length → (ext xs).getD i 0 = xs.getD i 0 := fun i hi => by rw [ext_at (by omega), if_pos hi]
  refine ⟨fun i hi => by rw [e i hi]; exact h.maps i hi, fun i j hi hj q => ?_⟩
  rw [e i hi, e j hj] at q
  exact h.inj i j hi hj q
/-- acc is a way of p from f on, and x follows. -/
structure Way (n : Nat) (ps : List Int) (f x : Int) (acc : List Int) : Prop where
  head : acc.getD 0 0 = f
  pos : 0 < acc.length
  step : ∀ i, i + 1 < acc.length → acc.getD (i + 1) 0 = ps.getD (acc.getD i 0).toNat 0
  last : x = ps.getD (acc.getD (acc.length - 1) 0).toNat 0
  inn : In n acc
theorem getD_mem {l : List Int} {i : Nat} (h : i < l.length) : l.getD i 0 ∈ l := by
  simp [List.getD, List.getElem?_eq_getElem h]
theorem mem_getD {l : List Int} {x : Int} (h : x ∈ l) : ∃ i, i < l.length ∧ l.getD i 0 = x := by
  obtain ⟨i, hi, e⟩ := List.getElem_of_mem h
  exact ⟨i, hi, by simp [List.getD, List.getElem?_eq_getElem hi, e]⟩
theorem nodup_getD {l : List Int} (h : l.Nodup) {i j : Nat} (hi : i < l.length) (hj : j < l.length) (e : l.getD i 0 = l.getD j 0) : i = j := by
  simp only [List.getD, List.getElem?_eq_getElem hi, List.getElem?_eq_getElem hj, Option.getD_some] at e
  have hp := List.pairwise_iff_getElem.1 h
  rcases Nat.lt_trichotomy i j with q | q | q
  · exact absurd e (hp i j hi hj q)
  · exact q
  · exact absurd e.symm (hp j i hj hi q)
theorem getD_snoc {l : List Int} {x : Int} {i : Nat} : (l ++ [x]).getD i 0 = if i < l.length then l.getD i 0 else if i = l.length then x else 0 := by
  simp only [List.getD, List.getElem?_append]
  split
  · rfl
  · split
    · rename_i e; subst e; simp
    · rw [List.getElem?_eq_none (by simp; omega)]; rfl
theorem Way.x_in {n : Nat} {ps acc : List Int} {f x : Int} (h : Way n ps f x acc) (hb : Bij n ps) : 0 ≤ x ∧ x < n := by
  have hm := getD_mem (l := acc) (i := acc.length - 1) (by have := h.pos; omega)
  have h1 := h.inn.lo _ hm; have h2 := h.inn.hi _ hm
  rw [h.last]
  exact hb.maps _ (by omega)
/-- What follows and is not f is new. -/
theorem Way.fresh {n : Nat} {ps acc : List Int} {f x : Int} (h : Way n ps f x acc) (hb : Bij n ps) (hx : x ≠ f) : ¬ x ∈ acc := by
  intro hm
  obtain ⟨i, hi, e⟩ := mem_getD hm
  have hp := h.pos
  cases i with
  | zero => exact hx (by rw [← e, h.head])
  | succ i =>
    have m1 := getD_mem (l := acc) (i := i) (by omega)
    have m2 := getD_mem (l := acc) (i := acc.length - 1) (by omega)
    have a1 := h.inn.lo _ m1; have a2 := h.inn.hi _ m1; have b1 := h.inn.lo _ m2; have b2 := h.inn.hi _ m2
    have q : ps.getD (acc.getD i 0).toNat 0 = ps.getD (acc.getD (acc.length - 1) 0).toNat 0 := by rw [← h.step i hi, e, h.last]
    have := hb.inj _ _ (by omega) (by omega) q
    have := nodup_getD h.inn.nd (i := i) (j := acc.length - 1) (by omega) (by omega) (by omega)
    omega
theorem Way.next {n : Nat} {ps acc : List Int} {f x : Int} (h : Way n ps f x acc) (hb : Bij n ps) (hx : x ≠ f) : Way n ps f (ps.getD x.toNat 0) (acc ++ [x]) := by
  have hp := h.pos
  have xi := h.x_in hb
  have hf := h.fresh hb hx
  refine ⟨by rw [getD_snoc, if_pos hp]; exact h.head, by simp, fun i hi => ?_, ?_, ?_⟩
  · simp at hi
    rw [getD_snoc, getD_snoc, if_pos (by omega : i < acc.length)]
    by_cases e : i + 1 < acc.length
    · rw [if_pos e]; exact h.step i e
    · rw [if_neg e, if_pos (by omega)]
      have : i = acc.length - 1 := by omega
      rw [this]; exact h.last
  · have : (acc ++ [x]).length - 1 = acc.length := by simp
    rw [this, getD_snoc, if_neg (by omega), if_pos rfl]
  · have := h.inn.add xi.1 xi.2
    unfold add1 at this
    rw [if_neg hf] at this
    exact this
theorem Way.start {n : Nat} {ps : List Int} {f : Int} (h0 : 0 ≤ f) (h1 : f < n) : Way n ps f (ps.getD f.toNat 0) [f] :=
  ⟨rfl, by simp, fun i hi => by simp at hi, rfl, ⟨by simp, fun y hy => by simp at hy; omega, fun y hy => by simp at hy; omega⟩⟩
/-- The state of a walk along a cycle. -/
structure Cw (n : Nat) (ps : List Int) (f x : Int) (acc : List Int) (m : Nat) : Prop where
  way : Way n ps f x acc
  len : acc.length + m = n + 1
  res : cy ps f m x acc = cyc ps n f
theorem Cw.start {n : Nat} {ps : List Int} {f : Int} (h0 : 0 ≤ f) (h1 : f < n) : Cw n ps f (ps.getD f.toNat 0) [f] n := ⟨Way.start h0 h1, by simp; omega, rfl⟩
theorem Cw.pos {n m : Nat} {ps acc : List Int} {f x : Int} (h : Cw n ps f x acc m) : 0 < m := by
  have := h.way.inn.len; have := h.len; omega
theorem Cw.next {n m : Nat} {ps acc : List Int} {f x : Int} (h : Cw n ps f x acc m) (hb : Bij n ps) (hx : x ≠ f) : Cw n ps f (ps.getD x.toNat 0) (acc ++ [x]) (m - 1) := by
  have hp := h.pos
  obtain ⟨k, rfl⟩ : ∃ k, m = k + 1 := ⟨m - 1, by omega⟩
  refine ⟨h.way.next hb hx, by have := h.len; simp; omega, ?_⟩
  have := h.res
  rw [cy, if_neg hx] at this
  exact this
theorem Cw.done {n m : Nat} {ps acc : List Int} {f : Int} (h : Cw n ps f f acc m) : acc = cyc ps n f := by
  have hp := h.pos
  obtain ⟨k, rfl⟩ : ∃ k, m = k + 1 := ⟨m - 1, by omega⟩
  have := h.res
  rw [cy, if_pos rfl] at this
  exact this
/-- A cycle is a way that comes back. -/
theorem Cw.way_of {n : Nat} {ps : List Int} {f : Int} (hb : Bij n ps) : ∀ (m : Nat) (x : Int) (acc : List Int), Cw n ps f x acc m → Way n ps f f (cyc ps n f) := by
  intro m
  induction m with
  | zero => intro x acc h; exact absurd h.pos (by omega)
  | succ m ih =>
    intro x acc h
    by_cases e : x = f
    · subst e; rw [← h.done]; exact h.way
    · exact ih _ _ (h.next hb e)
theorem cyc_way {n : Nat} {ps : List Int} {f : Int} (hb : Bij n ps) (h0 : 0 ≤ f) (h1 : f < n) : Way n ps f f (cyc ps n f) := Cw.way_of hb n _ _ (Cw.start h0 h1)
/-- Whoever goes into a cycle is in it. -/
theorem cyc_back {n : Nat} {ps : List Int} {f : Int} (hb : Bij n ps) (h0 : 0 ≤ f) (h1 : f < n) {y : Nat} (hy : y < n) (h : ps.getD y 0 ∈ cyc ps n f) : (y : Int) ∈ cyc ps n f := by
  have hw := cyc_way hb h0 h1
  have hp := hw.pos
  obtain ⟨i, hi, e⟩ := mem_getD h
  have key : ∀ j, j < (cyc ps n f).length → ps.getD ((cyc ps n f).getD j 0).toNat 0 = ps.getD y 0 → (y : Int) ∈ cyc ps n f := by
    intro j hj q
    have m1 := getD_mem hj
    have a1 := hw.inn.lo _ m1; have a2 := hw.inn.hi _ m1
    have := hb.inj _ _ (by omega) hy q
    have e2 : (cyc ps n f).getD j 0 = (y : Int) := by omega
    rw [← e2]; exact m1
  cases i with
  | zero => exact key ((cyc ps n f).length - 1) (by omega) (by rw [← hw.last, ← e, hw.head])
  | succ i => exact key i (by omega) (by rw [← hw.step i hi, e])
theorem cyc_congr {n : Nat} {ps ps' : List Int} (hb : Bij n ps) (h1 : ∀ i, i < n → ps'.getD i 0 = ps.getD i 0) {f : Int} (h0 : 0 ≤ f) (hf : f < n) : cyc ps' n f = cyc ps n f := by
  have key : ∀ (m : Nat) (x : Int) (acc : List Int), 0 ≤ x → x < n → cy ps' f m x acc = cy ps f m x acc := by
    intro m
    induction m with
    | zero => intros; rfl
    | succ m ih =>
      intro x acc x0 x1
      rw [cy, cy]
      split
      · rfl
      · rw [h1 _ (by omega)]
        have := hb.maps x.toNat (by omega)
        exact ih _ _ this.1 this.2
  unfold cyc
  rw [h1 _ (by omega)]
  have := hb.maps f.toNat (by omega)
  exact key _ _ _ this.1 this.2

/-- The cycles that begin with the numbers up to k. -/
def cso (ps : List Int) (n : Nat) : Nat → List (List Int)
  | 0 => []
  | k + 1 => if (k : Int) ∈ (cso ps n k).flatten then cso ps n k else cso ps n k ++ [cyc ps n (k : Int)]
structure Cs (n : Nat) (ps : List Int) (k : Nat) (out : List (List Int)) : Prop where
  inn : In n out.flatten
  back : ∀ y : Nat, y < n → ps.getD y 0 ∈ out.flatten → (y : Int) ∈ out.flatten
  all : ∀ i : Nat, i < k → (i : Int) ∈ out.flatten
  len : out.length ≤ k
theorem cso_cs {n : Nat} {ps : List Int} (hb : Bij n ps) (k : Nat) (hk : k ≤ n) : Cs n ps k (cso ps n k) := by
  induction k with
  | zero => exact ⟨⟨by simp [cso], fun x hx => by simp [cso] at hx, fun x hx => by simp [cso] at hx⟩, fun y _ h => by simp [cso] at h, fun i hi => by omega, Nat.le_refl _⟩
  | succ k ih =>
    have h := ih (by omega)
    rw [cso]
    split
    · rename_i hm
      refine ⟨h.inn, h.back, fun i hi => ?_, by have := h.len; omega⟩
      by_cases e : i = k
      · subst e; exact hm
      · exact h.all i (by omega)
    · rename_i hm
      have hw := cyc_way (f := (k : Int)) hb (by omega) (by omega)
      have hf : (cso ps n k ++ [cyc ps n (k : Int)]).flatten = (cso ps n k).flatten ++ cyc ps n (k : Int) := by simp
      -- the new cycle meets none of the others
      have dis : ∀ i, i < (cyc ps n (k : Int)).length → ¬ (cyc ps n (k : Int)).getD i 0 ∈ (cso ps n k).flatten := by
        intro i
        induction i with
        | zero => intro _ q; rw [hw.head] at q; exact hm q
        | succ i ihi =>
          intro hi q
          rw [hw.step i hi] at q
          have m1 := getD_mem (l := cyc ps n (k : Int)) (i := i) (by omega)
          have a1 := hw.inn.lo _ m1; have a2 := hw.inn.hi _ m1
          have := h.back _ (by omega) q
          rw [Int.toNat_of_nonneg a1] at this
          exact ihi (by omega) this
      have cm : (k : Int) ∈ cyc ps n (k : Int) := by
        have := getD_mem (l := cyc ps n (k : Int)) (i := 0) hw.pos
        rw [hw.head] at this; exact this
      refine ⟨⟨?_, fun x hx => ?_, fun x hx => ?_⟩, fun y hy q => ?_, fun i hi => ?_, by have := h.len; simp; omega⟩
      · rw [hf, List.nodup_append]
        refine ⟨h.inn.nd, hw.inn.nd, fun a ha b hb' e => ?_⟩
        obtain ⟨i, hi, e2⟩ := mem_getD hb'
        exact dis i hi (by rw [e2, ← e]; exact ha)
      · rw [hf] at hx
        rcases List.mem_append.1 hx with hx | hx
        · exact h.inn.lo x hx
        · exact hw.inn.lo x hx
      · rw [hf] at hx
        rcases List.mem_append.1 hx with hx | hx
        · exact h.inn.hi x hx
        · exact hw.inn.hi x hx
      · rw [hf] at q ⊢
        rcases List.mem_append.1 q with q | q
        · exact List.mem_append.2 (.inl (h.back y hy q))
        · exact List.mem_append.2 (.inr (cyc_back hb (by omega) (by omega) hy q))
      · rw [hf]
        by_cases e : i = k
        · subst e; exact List.mem_append.2 (.inr cm)
        · exact List.mem_append.2 (.inl (h.all i (by omega)))
theorem cso_congr {n : Nat} {ps ps' : List Int} (hb : Bij n ps) (h1 : ∀ i, i < n → ps'.getD i 0 = ps.getD i 0) (k : Nat) (hk : k ≤ n) : cso ps' n k = cso ps n k := by
  induction k with
  | zero => rfl
  | succ k ih => rw [cso, cso, ih (by omega), cyc_congr hb h1 (by omega) (by omega)]
def cycF (xs : List Int) : List (List Int) := if okB xs then cso xs xs.length xs.length else []
theorem flatten_len (l : List (List Int)) : l.flatten.length = (l.map List.length).sum := by simp [List.length_flatten]
theorem cycF_small (xs : List Int) : (cycF xs).length ≤ 1048576 ∧ ((cycF xs).map List.length).sum ≤ 1048576 := by
  unfold cycF; split
  · rename_i h
    have ok := Ok.of xs h
    have hl := ok.len
    have hc := cso_cs ok.bij xs.length (Nat.le_refl _)
    have h1 := hc.inn.len; have h2 := hc.len
    rw [flatten_len] at h1
    exact ⟨by omega, by omega⟩
  · simp
theorem cycF_ext {xs : List Int} (h : Ok xs) : cso (ext xs) xs.length xs.length = cso xs xs.length xs.length := by
  have hl := h.len
  exact cso_congr h.bij (fun i hi => by rw [ext_at (by omega), if_pos hi]) _ (Nat.le_refl _)
end Go.Proofs.Ytajkfkpnjbkhhaa.pm

/-
  Insertion in descending order: plain mathematics.
-/
namespace Go.Proofs.Ytajkfkpnjbkhhaa.pm
set_option linter.unusedVariables false
set_option maxRecDepth 100000

def ins (x : Int) (l : List Int) (k : Nat) : List Int := l.take k ++ x :: l.drop k
theorem ins_len (x : Int) (l : List Int) {k : Nat} (h : k ≤ l.length) : (ins x l k).length = l.length + 1 := by simp [ins]; omega
theorem ins_end (x : Int) (l : List Int) : ins x l l.length = l ++ [x] := by simp [ins]
theorem ins_set (x y : Int) (l : List Int) {k : Nat} (h : k ≤ l.length) : (ins y l k).set k x = ins x l k := by
  unfold ins
  have hl : (l.take k).length = k := by simp; omega
  rw [List.set_append_right _ _ (by omega), hl]
  simp
theorem ins_move (y : Int) (l : List Int) {k : Nat} (h : k < l.length) : (ins y l (k + 1)).set (k + 1) (l.getD k 0) = ins (l.getD k 0) l k := by
  rw [ins_set _ _ _ (by omega)]
  unfold ins
  have e : l.getD k 0 = l[k] := by simp [List.getD, List.getElem?_eq_getElem h]
  have e1 : l.take (k + 1) = l.take k ++ [l[k]] := List.take_succ_eq_append_getElem h
  have e2 : l.drop k = l[k] :: l.drop (k + 1) := List.drop_eq_getElem_cons h
  rw [e, e1, e2, List.append_assoc]
  rfl
theorem ins_at (y : Int) (l : List Int) {j k : Nat} (h : j < k) (hk : k ≤ l.length) : (ins y l k).getD j 0 = l.getD j 0 := by
  unfold ins
  have hl : (l.take k).length = k := by simp; omega
  simp only [List.getD]
  rw [List.getElem?_append_left (by omega)]
  simp [h]
/-- Where x is inserted, seen from k on downwards. -/
def posD (x : Int) (l : List Int) : Nat → Nat
  | 0 => 0
  | k + 1 => if l.getD k 0 < x then posD x l k else k + 1
def insD (x : Int) (l : List Int) : List Int := ins x l (posD x l l.length)
def sortD (l : List Int) : List Int := l.foldl (fun acc x => insD x acc) []
theorem posD_le (x : Int) (l : List Int) (k : Nat) : posD x l k ≤ k := by
  induction k with
  | zero => exact Nat.le_refl _
  | succ k ih => rw [posD]; split <;> omega
theorem posD_lt (x : Int) (l : List Int) (k : Nat) : ∀ j, posD x l k ≤ j → j < k → l.getD j 0 < x := by
  induction k with
  | zero => intro j _ h; omega
  | succ k ih =>
    intro j h1 h2
    rw [posD] at h1
    split at h1
    · by_cases e : j = k
      · subst e; assumption
      · exact ih j h1 (by omega)
    · omega
theorem posD_ge (x : Int) (l : List Int) (k : Nat) : 0 < posD x l k → x ≤ l.getD (posD x l k - 1) 0 := by
  induction k with
  | zero => intro h; simp [posD] at h
  | succ k ih =>
    rw [posD]
    split
    · exact ih
    · intro _; simp only [Nat.add_sub_cancel]; omega
theorem insD_len (x : Int) (l : List Int) : (insD x l).length = l.length + 1 := ins_len _ _ (posD_le _ _ _)
theorem sortD_snoc (l : List Int) (x : Int) : sortD (l ++ [x]) = insD x (sortD l) := by simp [sortD]
theorem insD_perm (x : Int) (l : List Int) : (insD x l).Perm (x :: l) := by
  unfold insD ins
  have := List.perm_middle (a := x) (l₁ := l.take (posD x l l.length)) (l₂ := l.drop (posD x l l.length))
  rw [List.take_append_drop] at this
  exact this
theorem foldD_perm (l : List Int) : ∀ acc, (l.foldl (fun acc x => insD x acc) acc).Perm (acc ++ l) := by
  induction l with
  | nil => intro acc; simp
  | cons a t ih =>
    intro acc
    simp only [List.foldl_cons]
    refine (ih _).trans ?_
    refine ((insD_perm a acc).append_right t).trans ?_
    exact List.perm_middle.symm
theorem sortD_perm (l : List Int) : (sortD l).Perm l := by have := foldD_perm l []; simpa [sortD] using this
theorem sortD_len (l : List Int) : (sortD l).length = l.length := (sortD_perm l).length_eq
def Desc (l : List Int) : Prop := l.Pairwise (fun a b => b ≤ a)
theorem Desc.at_ {l : List Int} (h : Desc l) {i j : Nat} (hij : i ≤ j) (hj : j < l.length) : l.getD j 0 ≤ l.getD i 0 := by
  have hp := List.pairwise_iff_getElem.1 h
  simp only [List.getD, List.getElem?_eq_getElem hj, List.getElem?_eq_getElem (show i < l.length by omega), Option.getD_some]
  by_cases e : i = j
  · subst e; omega
  · exact hp i j (by omega) hj (by omega)
theorem insD_desc {x : Int} {l : List Int} (h : Desc l) : Desc (insD x l) := by
  have hle := posD_le x l l.length
  have hlt := posD_lt x l l.length
  have hge := posD_ge x l l.length
  unfold insD ins
  generalize posD x l l.length = k at *
  unfold Desc
  rw [List.pairwise_append]
  have htd : Desc (l.take k ++ l.drop k) := by rw [List.take_append_drop]; exact h
  have htd' := List.pairwise_append.1 htd
  have gt : ∀ a ∈ l.take k, x ≤ a := by
    intro a ha
    obtain ⟨i, hi, e⟩ := List.getElem_of_mem ha
    simp at hi e
    have := h.at_ (i := i) (j := k - 1) (by omega) (by omega)
    have h2 := hge (by omega)
    have : l.getD i 0 = a := by simp [List.getD, List.getElem?_eq_getElem (show i < l.length by omega), e]
    omega
  have lt : ∀ b ∈ l.drop k, b < x := by
    intro b hb
    obtain ⟨i, hi, e⟩ := List.getElem_of_mem hb
    simp at hi e
    have := hlt (k + i) (by omega) (by omega)
    have h3 : l.getD (k + i) 0 = b := by simp [List.getD, List.getElem?_eq_getElem (show k + i < l.length by omega), e]
    omega
  refine ⟨htd'.1, List.pairwise_cons.2 ⟨fun b hb => ?_, htd'.2.1⟩, fun a ha b hb => ?_⟩
  · have := lt b hb; omega
  · have h1 := gt a ha
    rcases List.mem_cons.1 hb with rfl | hb
    · exact h1
    · have := lt b hb; omega
theorem foldD_desc (l : List Int) : ∀ acc, Desc acc → Desc (l.foldl (fun acc x => insD x acc) acc) := by
  induction l with
  | nil => intro acc h; exact h
  | cons a t ih => intro acc h; exact ih _ (insD_desc h)
theorem sortD_desc (l : List Int) : Desc (sortD l) := foldD_desc l [] List.Pairwise.nil
theorem sortD_eq {l m : List Int} (h : l.Perm m) : sortD l = sortD m :=
  List.Perm.eq_of_pairwise (le := fun a b => b ≤ a) (fun a b _ _ h1 h2 => by omega) (sortD_desc l) (sortD_desc m) ((sortD_perm l).trans (h.trans (sortD_perm m).symm))
end Go.Proofs.Ytajkfkpnjbkhhaa.pm

/-
  Permutations form a group; renaming keeps the lengths of the cycles: plain mathematics.
-/
namespace Go.Proofs.Ytajkfkpnjbkhhaa.pm
open Go.Proofs.Ytajkfkpnjbkhhaa.arr Go.Proofs.Ytajkfkpnjbkhhaa.inv Go.Proofs.Ytajkfkpnjbkhhaa.permOf
set_option linter.unusedVariables false
set_option maxRecDepth 100000

/-- m steps from f on. -/
def it (ps : List Int) (f : Int) : Nat → Int
  | 0 => f
  | m + 1 => ps.getD (it ps f m).toNat 0
theorem it_in {n : Nat} {ps : List Int} (hb : Bij n ps) {f : Int} (h0 : 0 ≤ f) (h1 : f < n) (m : Nat) : 0 ≤ it ps f m ∧ it ps f m < n := by
  induction m with
  | zero => exact ⟨h0, h1⟩
  | succ m ih => exact hb.maps _ (by omega)
theorem it_add (ps : List Int) (f : Int) (a b : Nat) : it ps (it ps f a) b = it ps f (a + b) := by
  induction b with
  | zero => rfl
  | succ b ih => show ps.getD (it ps (it ps f a) b).toNat 0 = ps.getD (it ps f (a + b)).toNat 0; rw [ih]
theorem it_inj {n : Nat} {ps : List Int} (hb : Bij n ps) {f g : Int} (f0 : 0 ≤ f) (f1 : f < n) (g0 : 0 ≤ g) (g1 : g < n) (m : Nat) (h : it ps f m = it ps g m) : f = g := by
  induction m with
  | zero => exact h
  | succ m ih =>
    have a := it_in hb f0 f1 m; have b := it_in hb g0 g1 m
    have := hb.inj _ _ (by omega) (by omega) h
    exact ih (by omega)
theorem way_it {n : Nat} {ps acc : List Int} {f x : Int} (h : Way n ps f x acc) : ∀ i, i < acc.length → acc.getD i 0 = it ps f i := by
  intro i
  induction i with
  | zero => intro _; exact h.head
  | succ i ih => intro hi; rw [h.step i hi, ih (by omega)]; rfl
theorem way_last {n : Nat} {ps acc : List Int} {f x : Int} (h : Way n ps f x acc) : x = it ps f acc.length := by
  have hp := h.pos
  rw [h.last, way_it h _ (by omega)]
  have : acc.length = (acc.length - 1) + 1 := by omega
  rw [this]; rfl
/-- All elements of a cycle have cycles of the same length. -/
theorem per_same {n : Nat} {ps : List Int} (hb : Bij n ps) {f : Int} (f0 : 0 ≤ f) (f1 : f < n) {y : Int} (hy : y ∈ cyc ps n f) : (cyc ps n y).length = (cyc ps n f).length := by
  have hw := cyc_way hb f0 f1
  obtain ⟨j, hj, e⟩ := mem_getD hy
  rw [way_it hw j hj] at e
  have y0 := hw.inn.lo y hy; have y1 := hw.inn.hi y hy
  have hv := cyc_way (f := y) hb y0 y1
  have lf := way_last hw; have ly := way_last hv
  have pf := hw.pos; have py := hv.pos
  -- one way round
  have A : ∀ {f y : Int}, 0 ≤ f → f < n → 0 ≤ y → y < n → (j : Nat) → it ps f j = y → Way n ps f f (cyc ps n f) → Way n ps y y (cyc ps n y) → ¬ (cyc ps n y).length < (cyc ps n f).length := by
    intro f y f0 f1 y0 y1 j e hw hv hlt
    have ly := way_last hv
    have py := hv.pos
    have e1 : it ps f ((cyc ps n y).length) = f := by
      have q : it ps (it ps f (cyc ps n y).length) j = it ps f j := by rw [it_add, Nat.add_comm, ← it_add, e, ← ly]
      have a := it_in hb f0 f1 (cyc ps n y).length
      exact it_inj hb a.1 a.2 f0 f1 j q
    have := nodup_getD hw.inn.nd (i := (cyc ps n y).length) (j := 0) hlt (by omega) (by rw [way_it hw _ hlt, e1, hw.head])
    omega
  have h1 := A f0 f1 y0 y1 j e hw hv
  have ej : j + ((cyc ps n f).length - j) = (cyc ps n f).length := by omega
  have e2 : it ps y ((cyc ps n f).length - j) = f := by rw [← e, it_add, ej, ← lf]
  have h2 := A y0 y1 f0 f1 _ e2 hv hw
  omega
def rng (n : Nat) : List Int := (List.range n).map fun (i : Nat) => (i : Int)
theorem mem_rng {n : Nat} {x : Int} : x ∈ rng n ↔ 0 ≤ x ∧ x < n := by
  unfold rng
  rw [List.mem_map]
  constructor
  · rintro ⟨i, hi, rfl⟩; simp at hi; omega
  · intro h; exact ⟨x.toNat, by simp; omega, by omega⟩
theorem rng_nodup (n : Nat) : (rng n).Nodup := by
  unfold rng List.Nodup
  rw [List.pairwise_map]
  exact List.Pairwise.imp (fun h => by omega) (List.pairwise_lt_range (n := n))
theorem perm_of_mem {l m : List Int} (hl : l.Nodup) (hm : m.Nodup) (h : ∀ x, x ∈ l ↔ x ∈ m) : l.Perm m := by
  rw [List.perm_iff_count]
  intro a
  rw [List.Nodup.count hl, List.Nodup.count hm]
  simp only [h a]
theorem cso_rng {n : Nat} {ps : List Int} (hb : Bij n ps) : (cso ps n n).flatten.Perm (rng n) := by
  have hc := cso_cs hb n (Nat.le_refl _)
  refine perm_of_mem hc.inn.nd (rng_nodup n) fun x => ?_
  rw [mem_rng]
  constructor
  · intro h; exact ⟨hc.inn.lo x h, hc.inn.hi x h⟩
  · intro h
    have := hc.all x.toNat (by omega)
    rw [Int.toNat_of_nonneg h.1] at this
    exact this
theorem cso_len {n : Nat} {ps : List Int} (hb : Bij n ps) : ((cso ps n n).map List.length).sum = n := by
  rw [← flatten_len, (cso_rng hb).length_eq]; simp [rng]
/-- Each list of cso is a cycle. -/
theorem cso_cyc {n : Nat} {ps : List Int} (k : Nat) (hk : k ≤ n) : ∀ c ∈ cso ps n k, ∃ i : Nat, i < n ∧ c = cyc ps n (i : Int) := by
  induction k with
  | zero => intro c hc; simp [cso] at hc
  | succ k ih =>
    intro c hc
    rw [cso] at hc
    split at hc
    · exact ih (by omega) c hc
    · rcases List.mem_append.1 hc with hc | hc
      · exact ih (by omega) c hc
      · simp at hc; exact ⟨k, by omega, hc⟩
def perB (ps : List Int) (n L : Nat) (x : Int) : Bool := decide ((cyc ps n x).length = L)
theorem count_cycles {n : Nat} {ps : List Int} (hb : Bij n ps) (L : Nat) (css : List (List Int)) (h : ∀ c ∈ css, ∃ i : Nat, i < n ∧ c = cyc ps n (i : Int)) :
    css.flatten.countP (perB ps n L) = (css.map List.length).count L * L := by
  induction css with
  | nil => simp
  | cons c t ih =>
    obtain ⟨i, hi, rfl⟩ := h c (by simp)
    rw [List.flatten_cons, List.countP_append, ih (fun c hc => h c (by simp [hc])), List.map_cons, List.count_cons]
    have hp : ∀ y ∈ cyc ps n (i : Int), perB ps n L y = decide ((cyc ps n (i : Int)).length = L) := fun y hy => by
      unfold perB; rw [per_same hb (by omega) (by omega) hy]
    by_cases e : (cyc ps n (i : Int)).length = L
    · have : (cyc ps n (i : Int)).countP (perB ps n L) = (cyc ps n (i : Int)).length := by
        rw [List.countP_eq_length]
        intro y hy; rw [hp y hy]; simpa using e
      rw [this, e]
      simp [Nat.add_mul, Nat.add_comm]
    · have : (cyc ps n (i : Int)).countP (perB ps n L) = 0 := by
        rw [List.countP_eq_zero]
        intro y hy; rw [hp y hy]; simpa using e
      rw [this]
      simp [e]
/-- qs is ps renamed by the bijection ns. -/
structure Ren (n : Nat) (ps qs ns : List Int) : Prop where
  p : Bij n ps
  q : Bij n qs
  s : Bij n ns
  eq : ∀ i, i < n → qs.getD (ns.getD i 0).toNat 0 = ns.getD (ps.getD i 0).toNat 0
theorem Ren.cyc {n : Nat} {ps qs ns : List Int} (h : Ren n ps qs ns) {f : Int} (f0 : 0 ≤ f) (f1 : f < n) : pm.cyc qs n (ns.getD f.toNat 0) = (pm.cyc ps n f).map (fun x => ns.getD x.toNat 0) := by
  have key : ∀ (m : Nat) (x : Int) (acc : List Int), 0 ≤ x → x < n → cy qs (ns.getD f.toNat 0) m (ns.getD x.toNat 0) (acc.map (fun x => ns.getD x.toNat 0)) = (cy ps f m x acc).map (fun x => ns.getD x.toNat 0) := by
    intro m
    induction m with
    | zero => intros; rfl
    | succ m ih =>
      intro x acc x0 x1
      rw [cy, cy]
      by_cases e : x = f
      · subst e; rw [if_pos rfl, if_pos rfl]
      · rw [if_neg e, if_neg (fun q => e (by have := h.s.inj _ _ (by omega) (by omega) q; omega)), h.eq _ (by omega)]
        have := h.p.maps x.toNat (by omega)
        have r := ih (ps.getD x.toNat 0) (acc ++ [x]) this.1 this.2
        rw [List.map_append] at r
        exact r
  unfold pm.cyc
  rw [h.eq _ (by omega)]
  have := h.p.maps f.toNat (by omega)
  exact key n _ [f] this.1 this.2
theorem Bij.onto {n : Nat} {ps : List Int} (h : Bij n ps) {y : Nat} (hy : y < n) : ∃ k, k < n ∧ ps.getD k 0 = (y : Int) := by
  obtain ⟨k, hk, e⟩ := onto_of_inj n (fun i => (ps.getD i 0).toNat) (fun i hi => by have := h.maps i hi; omega) (fun i j hi hj e => h.inj i j hi hj (by have := h.maps i hi; have := h.maps j hj; omega)) y hy
  exact ⟨k, hk, by have := h.maps k hk; omega⟩
theorem Bij.map_rng {n : Nat} {ns : List Int} (h : Bij n ns) : ((rng n).map fun x => ns.getD x.toNat 0).Perm (rng n) := by
  refine perm_of_mem ?_ (rng_nodup n) fun x => ?_
  · unfold List.Nodup
    rw [List.pairwise_map]
    refine List.Pairwise.imp_of_mem ?_ (rng_nodup n)
    intro a b ha hb hab e
    rw [mem_rng] at ha hb
    have := h.inj _ _ (by omega) (by omega) e
    omega
  · rw [mem_rng, List.mem_map]
    constructor
    · rintro ⟨y, hy, rfl⟩
      rw [mem_rng] at hy
      exact h.maps _ (by omega)
    · intro hx
      obtain ⟨k, hk, e⟩ := h.onto (y := x.toNat) (by omega)
      exact ⟨k, mem_rng.2 ⟨by omega, by omega⟩, by rw [Int.toNat_natCast, e]; omega⟩
theorem Ren.count {n : Nat} {ps qs ns : List Int} (h : Ren n ps qs ns) (L : Nat) : (rng n).countP (perB qs n L) = (rng n).countP (perB ps n L) := by
  rw [← h.s.map_rng.countP_eq, List.countP_map]
  refine List.countP_congr fun x hx => ?_
  rw [mem_rng] at hx
  simp only [Function.comp, perB]
  rw [h.cyc hx.1 hx.2, List.length_map]
theorem Ren.lens {n : Nat} {ps qs ns : List Int} (h : Ren n ps qs ns) : ((cso qs n n).map List.length).Perm ((cso ps n n).map List.length) := by
  rw [List.perm_iff_count]
  intro L
  have a := count_cycles h.q L (cso qs n n) (cso_cyc n (Nat.le_refl _))
  have b := count_cycles h.p L (cso ps n n) (cso_cyc n (Nat.le_refl _))
  rw [(cso_rng h.q).countP_eq, h.count L, ← (cso_rng h.p).countP_eq, b] at a
  rcases Nat.eq_zero_or_pos L with e | e
  · subst e
    have z : ∀ rs : List Int, Bij n rs → ((cso rs n n).map List.length).count 0 = 0 := by
      intro rs hr
      rw [List.count_eq_zero]
      intro hm
      obtain ⟨c, hc, e⟩ := List.mem_map.1 hm
      obtain ⟨i, hi, rfl⟩ := cso_cyc n (Nat.le_refl _) c hc
      have := (cyc_way (f := (i : Int)) hr (by omega) (by omega)).pos
      omega
    rw [z _ h.q, z _ h.p]
  · exact (Nat.eq_of_mul_eq_mul_right e a).symm
end Go.Proofs.Ytajkfkpnjbkhhaa.pm

/-
  Permutations form a group: plain mathematics, in the words of the functions' answers.
-/
namespace Go.Proofs.Ytajkfkpnjbkhhaa.pm
open Go.Proofs.Ytajkfkpnjbkhhaa.arr Go.Proofs.Ytajkfkpnjbkhhaa.inv Go.Proofs.Ytajkfkpnjbkhhaa.permOf
set_option linter.unusedVariables false
set_option maxRecDepth 100000

def Inv (xs : List Int) : List Int := invTo xs.length xs xs.length
theorem Inv_len (xs : List Int) : (Inv xs).length = xs.length := invTo_len _ _ _
theorem Inv_at {xs : List Int} (h : Ok xs) {k : Nat} (hk : k < xs.length) : (Inv xs).getD (xs.getD k 0).toNat 0 = (k : Int) := inv_at h hk
theorem at_Inv {xs : List Int} (h : Ok xs) {i : Nat} (hi : i < xs.length) : ∃ k, k < xs.length ∧ (Inv xs).getD i 0 = (k : Int) ∧ xs.getD k 0 = (i : Int) := by
  obtain ⟨k, hk, e⟩ := h.onto hi
  refine ⟨k, hk, ?_, e⟩
  have := Inv_at h hk
  rw [e] at this
  simpa using this
theorem Inv_ok {xs : List Int} (h : Ok xs) : Ok (Inv xs) := by
  refine ⟨by rw [Inv_len]; exact h.len, fun i hi => ?_, fun i hi => ?_, fun i j hi hj e => ?_⟩
  · rw [Inv_len] at hi; obtain ⟨k, _, q, _⟩ := at_Inv h hi; omega
  · rw [Inv_len] at hi ⊢; obtain ⟨k, _, q, _⟩ := at_Inv h hi; omega
  · rw [Inv_len] at hi hj
    obtain ⟨k, _, q, r⟩ := at_Inv h hi
    obtain ⟨k', _, q', r'⟩ := at_Inv h hj
    have : k = k' := by omega
    subst this
    omega
theorem thn_len (xs ys : List Int) : (thn xs ys).length = xs.length := by simp [thn]
theorem thn_at {xs ys : List Int} {i : Nat} (hi : i < xs.length) : (thn xs ys).getD i 0 = ys.getD (xs.getD i 0).toNat 0 := by
  simp [thn, List.getD, List.getElem?_eq_getElem hi]
theorem thn_ok {xs ys : List Int} (h : Ok xs) (h' : Ok ys) (e : xs.length = ys.length) : Ok (thn xs ys) := by
  refine ⟨by rw [thn_len]; exact h.len, fun i hi => ?_, fun i hi => ?_, fun i j hi hj q => ?_⟩
  · rw [thn_len] at hi; rw [thn_at hi]; exact h'.lo _ (by have := h.ltN i hi; omega)
  · rw [thn_len] at hi ⊢; rw [thn_at hi, e]; exact h'.hi _ (by have := h.ltN i hi; omega)
  · rw [thn_len] at hi hj
    rw [thn_at hi, thn_at hj] at q
    have := h'.inj _ _ (by have := h.ltN i hi; omega) (by have := h.ltN j hj; omega) q
    exact h.injN i j hi hj this
theorem invF_of {xs : List Int} (h : Ok xs) : invF xs = Inv xs := by simp [invF, h.b, Inv]
theorem thenF_of {xs ys : List Int} (h : Ok xs) (h' : Ok ys) (e : xs.length = ys.length) : thenF xs ys = thn xs ys := by
  unfold thenF; rw [if_pos (okBB_iff.2 ⟨h.b, h'.b, e⟩)]
theorem renF_of {xs ys : List Int} (h : Ok xs) (h' : Ok ys) (e : xs.length = ys.length) : renF xs ys = renTo xs.length xs ys xs.length := by
  unfold renF; rw [if_pos (okBB_iff.2 ⟨h.b, h'.b, e⟩)]
theorem idF_of {n : Nat} (h : n ≤ 24) : idF (n : Int) = rng n := by
  unfold idF rng; rw [if_pos ⟨by omega, by omega⟩]; simp
theorem rng_len (n : Nat) : (rng n).length = n := by simp [rng]
theorem rng_at {n i : Nat} (h : i < n) : (rng n).getD i 0 = (i : Int) := by simp [rng, List.getD, h]
section
variable {p q s : List Int} {n : Nat} (hp : Ok p) (hq : Ok q) (hs : Ok s) (lp : p.length = n) (lq : q.length = n) (ls : s.length = n)
include hp hq lp lq
theorem back_eq : thenF (invF q) (invF p) = thn (Inv q) (Inv p) := by
  rw [invF_of hp, invF_of hq, thenF_of (Inv_ok hq) (Inv_ok hp) (by rw [Inv_len, Inv_len, lp, lq])]
theorem grp_id : thenF (thenF p q) (thenF (invF q) (invF p)) = idF (n : Int) := by
  have h24 := hp.len
  have okr := thn_ok hp hq (by omega)
  have okb := thn_ok (Inv_ok hq) (Inv_ok hp) (by rw [Inv_len, Inv_len, lp, lq])
  rw [back_eq hp hq lp lq, thenF_of hp hq (by omega), thenF_of okr okb (by rw [thn_len, thn_len, Inv_len, lp, lq]), idF_of (by omega)]
  refine list_eq n (by rw [thn_len, thn_len, lp]) (rng_len n) fun i hi => ?_
  have a1 := hp.ltN i (by omega)
  have a2 := hq.ltN _ (show (p.getD i 0).toNat < q.length by omega)
  have e1 : (thn p q).getD i 0 = q.getD (p.getD i 0).toNat 0 := thn_at (by omega)
  rw [thn_at (by rw [thn_len]; omega), e1, thn_at (by rw [Inv_len]; omega), Inv_at hq (by omega), Int.toNat_natCast, Inv_at hp (by omega), rng_at hi]
theorem grp_inv : invF (thenF p q) = thenF (invF q) (invF p) := by
  have h24 := hp.len
  have okr := thn_ok hp hq (by omega)
  rw [back_eq hp hq lp lq, thenF_of hp hq (by omega), invF_of okr]
  refine list_eq n (by rw [Inv_len, thn_len, lp]) (by rw [thn_len, Inv_len, lq]) fun j hj => ?_
  obtain ⟨k, hk, e1, e2⟩ := at_Inv okr (i := j) (by rw [thn_len]; omega)
  rw [thn_len] at hk
  rw [thn_at hk] at e2
  have a1 := hp.ltN k hk
  rw [e1, thn_at (by rw [Inv_len]; omega)]
  have := Inv_at hq (k := (p.getD k 0).toNat) (by omega)
  rw [e2, Int.toNat_natCast] at this
  rw [this, Int.toNat_natCast, Inv_at hp hk]
theorem grp_ren : renF p q = thenF (thenF (invF q) p) q := by
  have h24 := hp.len
  have ok1 := thn_ok (Inv_ok hq) hp (by rw [Inv_len]; omega)
  rw [invF_of hq, thenF_of (Inv_ok hq) hp (by rw [Inv_len]; omega), thenF_of ok1 hq (by rw [thn_len, Inv_len]), renF_of hp hq (by omega)]
  refine list_eq n (by rw [renTo_len, lp]) (by rw [thn_len, thn_len, Inv_len, lq]) fun j hj => ?_
  obtain ⟨k, hk, e1, e2⟩ := at_Inv hq (i := j) (by omega)
  rw [thn_at (by rw [thn_len, Inv_len]; omega), thn_at (by rw [Inv_len]; omega), e1, Int.toNat_natCast]
  have := ren_at (xs := p) hq (by omega) (k := k) (by omega)
  rw [e2, Int.toNat_natCast] at this
  exact this
theorem ren_ok : Ok (renF p q) ∧ (renF p q).length = n := by
  have ok1 := thn_ok (Inv_ok hq) hp (by rw [Inv_len]; omega)
  rw [grp_ren hp hq lp lq, invF_of hq, thenF_of (Inv_ok hq) hp (by rw [Inv_len]; omega), thenF_of ok1 hq (by rw [thn_len, Inv_len])]
  exact ⟨thn_ok ok1 hq (by rw [thn_len, Inv_len]), by rw [thn_len, thn_len, Inv_len, lq]⟩
theorem ren_ren : Ren n p (renF p q) q := by
  obtain ⟨h1, h2⟩ := ren_ok hp hq lp lq
  have b1 := hp.bij; have b2 := h1.bij; have b3 := hq.bij
  rw [lp] at b1; rw [h2] at b2; rw [lq] at b3
  refine ⟨b1, b2, b3, fun i hi => ?_⟩
  rw [renF_of hp hq (by omega)]
  exact ren_at hq (by omega) (by omega)
theorem ren_lens : sortD ((cycF (renF p q)).map fun xs => (xs.length : Int)) = sortD ((cycF p).map fun xs => (xs.length : Int)) := by
  obtain ⟨h1, h2⟩ := ren_ok hp hq lp lq
  have hl := (ren_ren hp hq lp lq).lens
  have e1 : cycF (renF p q) = cso (renF p q) n n := by simp [cycF, h1.b, h2]
  have e2 : cycF p = cso p n n := by simp [cycF, hp.b, lp]
  rw [e1, e2]
  refine sortD_eq ?_
  have := hl.map (fun (k : Nat) => (k : Int))
  rw [List.map_map, List.map_map] at this
  exact this
omit hq lq in
theorem cyc_tot : ((cycF p).map List.length).sum = n := by
  have b1 := hp.bij
  rw [lp] at b1
  have e2 : cycF p = cso p n n := by simp [cycF, hp.b, lp]
  rw [e2]; exact cso_len b1
end
end Go.Proofs.Ytajkfkpnjbkhhaa.pm

/-
  Surfaces as pairs of permutations: names from a square, under renaming. Plain mathematics.
-/
namespace Go.Proofs.Ytajkfkpnjbkhhaa.pm
open Go.Proofs.Ytajkfkpnjbkhhaa.arr Go.Proofs.Ytajkfkpnjbkhhaa.inv Go.Proofs.Ytajkfkpnjbkhhaa.permOf
set_option linter.unusedVariables false
set_option maxRecDepth 100000

theorem nodup_sub_len : ∀ (l m : List Int), l.Nodup → (∀ x ∈ l, x ∈ m) → l.length ≤ m.length := by
  intro l
  induction l with
  | nil => intros; simp
  | cons a t ih =>
    intro m hd hs
    have hd' := List.nodup_cons.1 hd
    have ha := hs a (by simp)
    have := ih (m.erase a) hd'.2 (fun x hx => (List.mem_erase_of_ne (fun (e : x = a) => hd'.1 (by rw [← e]; exact hx))).2 (hs x (by simp [hx])))
    rw [List.length_erase_of_mem ha] at this
    have : 0 < m.length := List.length_pos_of_mem ha
    simp
    omega
theorem nodup_sub_mem {l m : List Int} (hl : l.Nodup) (hs : ∀ x ∈ l, x ∈ m) (hlen : m.length ≤ l.length) {y : Int} (hy : y ∈ m) : y ∈ l := by
  by_cases h : y ∈ l
  · exact h
  · have := nodup_sub_len (y :: l) m (List.nodup_cons.2 ⟨h, hl⟩) (fun x hx => by
      rcases List.mem_cons.1 hx with rfl | hx
      · exact hy
      · exact hs x hx)
    simp at this
    omega
theorem add1_pre (l : List Int) (x : Int) : l <+: add1 l x := by
  unfold add1; split
  · exact List.prefix_refl _
  · exact List.prefix_append _ _
theorem add1_mem (l : List Int) (x : Int) : x ∈ add1 l x := by unfold add1; split <;> simp_all
theorem rnd_pre (ps qs l : List Int) (k : Nat) : l <+: rnd ps qs l k := by
  unfold rnd; split
  · exact (add1_pre _ _).trans (add1_pre _ _)
  · exact List.prefix_refl _
theorem rs_pre (ps qs : List Int) (f : Int) {k m : Nat} (h : k ≤ m) : rs ps qs f k <+: rs ps qs f m := by
  obtain ⟨j, rfl⟩ : ∃ j, m = k + j := ⟨m - k, by omega⟩
  induction j with
  | zero => exact List.prefix_refl _
  | succ j ih => exact (ih (by omega)).trans (rnd_pre _ _ _ _)
theorem pre_at {l m : List Int} (h : l <+: m) {k : Nat} (hk : k < l.length) : m.getD k 0 = l.getD k 0 := by
  obtain ⟨t, rfl⟩ := h
  simp only [List.getD]
  rw [List.getElem?_append_left hk]
theorem rs_early {ps qs : List Int} {f : Int} {k m : Nat} (hk : k < (rs ps qs f m).length) (hm : k ≤ m) : k < (rs ps qs f k).length := by
  rcases Nat.lt_or_ge k (rs ps qs f k).length with h | h
  · exact h
  · rw [rs_stop ps qs f h hm] at hk; omega
/-- What is reached is closed. -/
theorem reach_closed {n : Nat} {ps qs : List Int} (hn : ps.length = n) (hp : Maps n ps) (hq : Maps n qs) {f : Int} (f0 : 0 ≤ f) (f1 : f < n) {x : Int} (hx : x ∈ reach ps qs f) : ps.getD x.toNat 0 ∈ reach ps qs f ∧ qs.getD x.toNat 0 ∈ reach ps qs f := by
  unfold reach at hx ⊢
  rw [hn] at hx ⊢
  obtain ⟨k, hk, e⟩ := mem_getD hx
  have hl := (rs_in hp hq f0 f1 n).len
  have h1 := rs_early hk (by omega)
  rw [pre_at (rs_pre ps qs f (show k ≤ n by omega)) h1] at e
  obtain ⟨z, hz, _, ez⟩ := (rs_in hp hq f0 f1 k).at_ h1
  have st := rs_step ps qs f h1 ez
  have hpre := rs_pre ps qs f (show k + 1 ≤ n by omega)
  rw [ez] at e
  subst e
  rw [Int.toNat_natCast]
  have sub : ∀ y, y ∈ rs ps qs f (k + 1) → y ∈ rs ps qs f n := fun y hy => hpre.subset hy
  refine ⟨sub _ ?_, sub _ ?_⟩
  · rw [st]; exact (add1_pre _ _).subset (add1_mem _ _)
  · rw [st]; exact add1_mem _ _
theorem reach_start (ps qs : List Int) (f : Int) : f ∈ reach ps qs f := by
  have := rs_pre ps qs f (Nat.zero_le ps.length)
  exact this.subset (by simp [rs])
/-- What is reached lies in every closed set that has the beginning. -/
theorem reach_least {ps qs : List Int} {f : Int} (C : Int → Prop) (hf : C f) (hc : ∀ x, C x → C (ps.getD x.toNat 0) ∧ C (qs.getD x.toNat 0)) (k : Nat) : ∀ x ∈ rs ps qs f k, C x := by
  induction k with
  | zero => intro x hx; simp [rs] at hx; subst hx; exact hf
  | succ k ih =>
    intro x hx
    have hx' : x ∈ rnd ps qs (rs ps qs f k) k := hx
    unfold rnd at hx'
    split at hx'
    · rename_i hk
      have hy := hc _ (ih _ (getD_mem hk))
      unfold add1 at hx'
      split at hx' <;> split at hx' <;> (try simp at hx') <;> (first | exact ih x hx' | skip)
      all_goals
        rcases hx' with q | q
        · first
            | exact ih x q
            | (rcases q with q | q
               · exact ih x q
               · subst q; exact hy.1)
        · first
            | (subst q; exact hy.1)
            | (subst q; exact hy.2)
            | (rcases q with q | q
               · subst q; exact hy.1
               · subst q; exact hy.2)
    · exact ih x hx'
/-- A closed list is closed backwards. -/
theorem closed_back {n : Nat} {ps l : List Int} (hb : Bij n ps) (hl : In n l) (hc : ∀ x ∈ l, ps.getD x.toNat 0 ∈ l) {y : Int} (y0 : 0 ≤ y) (y1 : y < n) (h : ps.getD y.toNat 0 ∈ l) : y ∈ l := by
  have hm : (l.map fun x => ps.getD x.toNat 0).Nodup := by
    unfold List.Nodup
    rw [List.pairwise_map]
    refine List.Pairwise.imp_of_mem ?_ hl.nd
    intro a b ha hb' hab e
    have a0 := hl.lo a ha; have a1 := hl.hi a ha; have b0 := hl.lo b hb'; have b1 := hl.hi b hb'
    have := hb.inj _ _ (by omega) (by omega) e
    omega
  have := nodup_sub_mem hm (fun x hx => by obtain ⟨z, hz, rfl⟩ := List.mem_map.1 hx; exact hc z hz) (by simp) h
  obtain ⟨z, hz, e⟩ := List.mem_map.1 this
  have z0 := hl.lo z hz; have z1 := hl.hi z hz
  have := hb.inj _ _ (by omega) (by omega) e
  have : z = y := by omega
  exact this ▸ hz

/-- A valid surface of n squares. -/
structure Sf (n : Nat) (R U : List Int) : Prop where
  r : Ok R
  u : Ok U
  lr : R.length = n
  lu : U.length = n
  pos : 0 < n
  all : (reach R U 0).length = n
theorem Sf.br {n : Nat} {R U : List Int} (h : Sf n R U) : Bij n R := by have := h.r.bij; rw [h.lr] at this; exact this
theorem Sf.bu {n : Nat} {R U : List Int} (h : Sf n R U) : Bij n U := by have := h.u.bij; rw [h.lu] at this; exact this
theorem transB_iff {R U : List Int} : transB R U = true ↔ Sf R.length R U := by
  unfold transB
  simp only [Bool.and_eq_true, decide_eq_true_eq, okBB_iff]
  constructor
  · rintro ⟨⟨⟨h1, h2, h3⟩, h4⟩, h5⟩
    exact ⟨Ok.of R h1, Ok.of U h2, rfl, h3.symm, h4, h5⟩
  · intro h
    exact ⟨⟨⟨h.r.b, h.u.b, h.lu.symm⟩, h.pos⟩, h.all⟩
theorem Sf.inn {n : Nat} {R U : List Int} (h : Sf n R U) {f : Int} (f0 : 0 ≤ f) (f1 : f < n) : In n (reach R U f) := rs_in h.br.maps h.bu.maps f0 f1 _
/-- From every square all squares are reached. -/
theorem Sf.full {n : Nat} {R U : List Int} (h : Sf n R U) {f : Int} (f0 : 0 ≤ f) (f1 : f < n) {y : Int} (y0 : 0 ≤ y) (y1 : y < n) : y ∈ reach R U f := by
  have hin := h.inn f0 f1
  have hcl : ∀ x ∈ reach R U f, R.getD x.toNat 0 ∈ reach R U f ∧ U.getD x.toNat 0 ∈ reach R U f := fun x hx => reach_closed h.lr h.br.maps h.bu.maps f0 f1 hx
  have h0 : ∀ z : Int, 0 ≤ z → z < n → z ∈ reach R U 0 := by
    intro z z0 z1
    have i0 := h.inn (f := 0) (by omega) (by have := h.pos; omega)
    exact nodup_sub_mem i0.nd (m := rng n) (fun x hx => mem_rng.2 ⟨i0.lo x hx, i0.hi x hx⟩) (by rw [h.all]; simp [rng]) (mem_rng.2 ⟨z0, z1⟩)
  by_cases hz : (0 : Int) ∈ reach R U f
  · have := reach_least (ps := R) (qs := U) (f := 0) (fun x => x ∈ reach R U f) hz hcl R.length y
    exact this (h0 y y0 y1)
  · exfalso
    have := reach_least (ps := R) (qs := U) (f := 0) (fun x => (0 ≤ x ∧ x < n) ∧ ¬ x ∈ reach R U f) ⟨⟨by omega, by have := h.pos; omega⟩, hz⟩ (by
      rintro x ⟨⟨x0, x1⟩, hx⟩
      have m1 := h.br.maps x.toNat (by omega); have m2 := h.bu.maps x.toNat (by omega)
      exact ⟨⟨m1, fun q => hx (closed_back h.br hin (fun x hx => (hcl x hx).1) x0 x1 q)⟩, ⟨m2, fun q => hx (closed_back h.bu hin (fun x hx => (hcl x hx).2) x0 x1 q)⟩⟩) R.length f (h0 f f0 f1)
    exact this.2 (reach_start R U f)
theorem Sf.flen {n : Nat} {R U : List Int} (h : Sf n R U) {f : Int} (f0 : 0 ≤ f) (f1 : f < n) : (reach R U f).length = n := by
  have h1 := (h.inn f0 f1).len
  have h2 := nodup_sub_len (rng n) (reach R U f) (rng_nodup n) (fun x hx => by rw [mem_rng] at hx; exact h.full f0 f1 hx.1 hx.2)
  rw [rng_len] at h2
  omega
theorem In.ok {n : Nat} {l : List Int} (h : In n l) (hl : l.length = n) (h24 : n ≤ 24) : Ok l := by
  refine ⟨by omega, fun i hi => h.lo _ (getD_mem hi), fun i hi => ?_, fun i j hi hj e => nodup_getD h.nd hi hj e⟩
  have := h.hi _ (getD_mem hi); omega
theorem Sf.rok {n : Nat} {R U : List Int} (h : Sf n R U) {f : Int} (f0 : 0 ≤ f) (f1 : f < n) : Ok (reach R U f) := (h.inn f0 f1).ok (h.flen f0 f1) (by have := h.r.len; have := h.lr; omega)
/-- The names from f. -/
def nm (R U : List Int) (f : Int) : List Int := Inv (reach R U f)
theorem Sf.nok {n : Nat} {R U : List Int} (h : Sf n R U) {f : Int} (f0 : 0 ≤ f) (f1 : f < n) : Ok (nm R U f) ∧ (nm R U f).length = n := ⟨Inv_ok (h.rok f0 f1), by unfold nm; rw [Inv_len, h.flen f0 f1]⟩

/-- R', U' are R, U renamed by ns. -/
structure Iso (n : Nat) (R U R' U' ns : List Int) : Prop where
  s : Sf n R U
  okn : Ok ns
  ln : ns.length = n
  r : Ren n R R' ns
  u : Ren n U U' ns
theorem add1_map {n : Nat} {ns l : List Int} (hb : Bij n ns) (hl : In n l) {x : Int} (x0 : 0 ≤ x) (x1 : x < n) : add1 (l.map fun y => ns.getD y.toNat 0) (ns.getD x.toNat 0) = (add1 l x).map fun y => ns.getD y.toNat 0 := by
  have e : ns.getD x.toNat 0 ∈ (l.map fun y => ns.getD y.toNat 0) ↔ x ∈ l := by
    rw [List.mem_map]
    constructor
    · rintro ⟨y, hy, q⟩
      have := hl.lo y hy; have := hl.hi y hy
      have := hb.inj _ _ (by omega) (by omega) q
      have : y = x := by omega
      exact this ▸ hy
    · intro h; exact ⟨x, h, rfl⟩
  unfold add1
  by_cases h : x ∈ l
  · rw [if_pos h, if_pos (e.2 h)]
  · rw [if_neg h, if_neg (fun q => h (e.1 q))]; simp
theorem Iso.rs_eq {n : Nat} {R U R' U' ns : List Int} (h : Iso n R U R' U' ns) {f : Int} (f0 : 0 ≤ f) (f1 : f < n) (k : Nat) : rs R' U' (ns.getD f.toNat 0) k = (rs R U f k).map fun y => ns.getD y.toNat 0 := by
  induction k with
  | zero => rfl
  | succ k ih =>
    have hin := rs_in h.s.br.maps h.s.bu.maps f0 f1 k
    show rnd R' U' _ k = (rnd R U _ k).map _
    rw [ih]
    unfold rnd
    rw [List.length_map]
    split
    · rename_i hk
      obtain ⟨z, hz, _, ez⟩ := hin.at_ hk
      have e1 : ((rs R U f k).map fun y => ns.getD y.toNat 0).getD k 0 = ns.getD z 0 := by
        simp only [List.getD, List.getElem?_map, List.getElem?_eq_getElem hk, Option.map_some, Option.getD_some]
        have : (rs R U f k)[k] = (z : Int) := by rw [← ez]; simp [List.getD, List.getElem?_eq_getElem hk]
        rw [this]; simp
      have m1 := h.s.br.maps z hz; have m2 := h.s.bu.maps z hz
      rw [e1, ez, Int.toNat_natCast, h.r.eq z hz, h.u.eq z hz, add1_map h.r.s hin m1.1 m1.2, add1_map h.r.s (hin.add m1.1 m1.2) m2.1 m2.2]
    · rfl
theorem Iso.reach_eq {n : Nat} {R U R' U' ns : List Int} (h : Iso n R U R' U' ns) (hl : R'.length = n) {f : Int} (f0 : 0 ≤ f) (f1 : f < n) : reach R' U' (ns.getD f.toNat 0) = (reach R U f).map fun y => ns.getD y.toNat 0 := by
  unfold reach; rw [hl, h.s.lr]; exact h.rs_eq f0 f1 n
theorem map_at {g : Int → Int} {l : List Int} {k : Nat} (hk : k < l.length) : (l.map g).getD k 0 = g (l.getD k 0) := by
  simp [List.getD, List.getElem?_eq_getElem hk]
/-- A square's name from f is its new self's name from f's new self. -/
theorem Iso.nm_eq {n : Nat} {R U R' U' ns : List Int} (h : Iso n R U R' U' ns) (hl : R'.length = n) {f : Int} (f0 : 0 ≤ f) (f1 : f < n) {i : Nat} (hi : i < n) : (nm R' U' (ns.getD f.toNat 0)).getD (ns.getD i 0).toNat 0 = (nm R U f).getD i 0 := by
  have fl := h.s.flen f0 f1
  have ok := h.s.rok f0 f1
  obtain ⟨k, hk, e⟩ := mem_getD (h.s.full f0 f1 (y := (i : Int)) (by omega) (by omega))
  have a := Inv_at ok hk
  rw [e, Int.toNat_natCast] at a
  unfold nm
  rw [a, h.reach_eq hl f0 f1]
  have hin : In n ((reach R U f).map fun y => ns.getD y.toNat 0) := by
    have hn := h.s.inn f0 f1
    refine ⟨?_, fun x hx => ?_, fun x hx => ?_⟩
    · unfold List.Nodup
      rw [List.pairwise_map]
      refine List.Pairwise.imp_of_mem ?_ hn.nd
      intro a b ha hb hab q
      have := hn.lo a ha; have := hn.hi a ha; have := hn.lo b hb; have := hn.hi b hb
      have := h.r.s.inj _ _ (by omega) (by omega) q
      omega
    · obtain ⟨y, hy, rfl⟩ := List.mem_map.1 hx
      exact (h.r.s.maps _ (by have := hn.lo y hy; have := hn.hi y hy; omega)).1
    · obtain ⟨y, hy, rfl⟩ := List.mem_map.1 hx
      exact (h.r.s.maps _ (by have := hn.lo y hy; have := hn.hi y hy; omega)).2
  have ok2 := hin.ok (by simp [fl]) (by have := h.s.r.len; have := h.s.lr; omega)
  have b := Inv_at ok2 (k := k) (by simpa using hk)
  rw [map_at hk, e, Int.toNat_natCast] at b
  exact b
end Go.Proofs.Ytajkfkpnjbkhhaa.pm

/-
  The canonical form of a surface and its symmetries: plain mathematics.
-/
namespace Go.Proofs.Ytajkfkpnjbkhhaa.pm
open Go.Proofs.Ytajkfkpnjbkhhaa.arr Go.Proofs.Ytajkfkpnjbkhhaa.inv Go.Proofs.Ytajkfkpnjbkhhaa.permOf
set_option linter.unusedVariables false
set_option maxRecDepth 100000

abbrev Sur := List Int × List Int
/-- The surface with the names from f. -/
def Fm (R U : List Int) (n : Nat) (f : Int) : Sur := (renTo n R (nm R U f) n, renTo n U (nm R U f) n)
theorem ren_at' {n : Nat} {xs ys : List Int} (h : Ok ys) (lx : xs.length = n) (ly : ys.length = n) {k : Nat} (hk : k < n) : (renTo n xs ys n).getD (ys.getD k 0).toNat 0 = ys.getD (xs.getD k 0).toNat 0 := by
  subst lx; exact ren_at h ly.symm hk
theorem ren_list {n : Nat} {xs ys l : List Int} (h : Ok ys) (lx : xs.length = n) (ly : ys.length = n) (ll : l.length = n) (q : ∀ k, k < n → l.getD (ys.getD k 0).toNat 0 = ys.getD (xs.getD k 0).toNat 0) : renTo n xs ys n = l := by
  refine list_eq n (renTo_len _ _ _ _) ll fun i hi => ?_
  obtain ⟨k, hk, e⟩ := h.onto (y := i) (by omega)
  have a := ren_at' h lx ly (k := k) (by omega)
  have b := q k (by omega)
  rw [e, Int.toNat_natCast] at a b
  rw [a, b]
theorem Iso.F_eq {n : Nat} {R U R' U' ns : List Int} (h : Iso n R U R' U' ns) (s' : Sf n R' U') {f : Int} (f0 : 0 ≤ f) (f1 : f < n) : Fm R' U' n (ns.getD f.toNat 0) = Fm R U n f := by
  have g := h.r.s.maps f.toNat (by omega)
  obtain ⟨nk, nl⟩ := h.s.nok f0 f1
  obtain ⟨nk', nl'⟩ := s'.nok g.1 g.2
  have key : ∀ i, i < n → (nm R' U' (ns.getD f.toNat 0)).getD (ns.getD i 0).toNat 0 = (nm R U f).getD i 0 := fun i hi => h.nm_eq s'.lr f0 f1 hi
  have one : ∀ X X' : List Int, X.length = n → X'.length = n → Maps n X → Ren n X X' ns → renTo n X (nm R U f) n = renTo n X' (nm R' U' (ns.getD f.toNat 0)) n := by
    intro X X' lx lx' mx hr
    refine ren_list nk lx nl (renTo_len _ _ _ _) fun k hk => ?_
    have m := h.r.s.maps k hk
    have a := ren_at' nk' lx' nl' (k := (ns.getD k 0).toNat) (by omega)
    rw [key k hk, hr.eq k hk, key _ (by have := mx k hk; omega)] at a
    exact a
  unfold Fm
  rw [one R R' h.s.lr s'.lr h.s.br.maps h.r, one U U' h.s.lu s'.lu h.s.bu.maps h.u]
/-- A renamed surface is valid. -/
theorem mkIso {n : Nat} {R U ns : List Int} (s : Sf n R U) (hn : Ok ns) (ln : ns.length = n) : Iso n R U (renTo n R ns n) (renTo n U ns n) ns ∧ Sf n (renTo n R ns n) (renTo n U ns n) := by
  have eR : renF R ns = renTo n R ns n := by rw [renF_of s.r hn (by rw [s.lr, ln]), s.lr]
  have eU : renF U ns = renTo n U ns n := by rw [renF_of s.u hn (by rw [s.lu, ln]), s.lu]
  have rR := ren_ren s.r hn s.lr ln; have rU := ren_ren s.u hn s.lu ln
  have oR := ren_ok s.r hn s.lr ln; have oU := ren_ok s.u hn s.lu ln
  rw [eR] at rR oR; rw [eU] at rU oU
  have iso : Iso n R U (renTo n R ns n) (renTo n U ns n) ns := ⟨s, hn, ln, rR, rU⟩
  refine ⟨iso, oR.1, oU.1, oR.2, oU.2, s.pos, ?_⟩
  obtain ⟨g, hg, e⟩ := hn.onto (y := 0) (by have := s.pos; omega)
  have := iso.reach_eq oR.2 (f := (g : Int)) (by omega) (by omega)
  rw [Int.toNat_natCast, e] at this
  have e0 : ((0 : Nat) : Int) = 0 := rfl
  rw [e0] at this
  rw [this, List.length_map, s.flen (by omega) (by omega)]

/-- The first difference decides. -/
def lessL : List Int → List Int → Bool
  | a :: s, b :: t => if a = b then lessL s t else decide (a < b)
  | _, _ => false
theorem lessL_irr (a : List Int) : lessL a a = false := by
  induction a with
  | nil => rfl
  | cons x t ih => simp [lessL, ih]
theorem lessL_total : ∀ (a b : List Int), a.length = b.length → a ≠ b → lessL a b = true ∨ lessL b a = true := by
  intro a
  induction a with
  | nil => intro b hl hne; cases b with
    | nil => exact absurd rfl hne
    | cons y t => simp at hl
  | cons x s ih =>
    intro b hl hne
    cases b with
    | nil => simp at hl
    | cons y t =>
      simp only [lessL]
      by_cases e : x = y
      · subst e
        simp only [if_true]
        exact ih t (by simpa using hl) (fun q => hne (by rw [q]))
      · rw [if_neg e, if_neg (fun q => e q.symm)]
        simp only [decide_eq_true_eq]
        omega
theorem lessL_trans : ∀ (a b c : List Int), lessL a b = true → lessL b c = true → lessL a c = true := by
  intro a
  induction a with
  | nil => intro b c h; simp [lessL] at h
  | cons x s ih =>
    intro b c h1 h2
    cases b with
    | nil => simp [lessL] at h1
    | cons y t =>
      cases c with
      | nil => simp [lessL] at h2
      | cons z u =>
        simp only [lessL] at h1 h2 ⊢
        by_cases e1 : x = y
        · subst e1
          rw [if_pos rfl] at h1
          by_cases e2 : x = z
          · subst e2; rw [if_pos rfl] at h2 ⊢; exact ih t u h1 h2
          · rw [if_neg e2] at h2 ⊢; exact h2
        · rw [if_neg e1] at h1
          simp only [decide_eq_true_eq] at h1
          by_cases e2 : y = z
          · subst e2; rw [if_neg e1]; simpa using h1
          · rw [if_neg e2] at h2
            simp only [decide_eq_true_eq] at h2
            rw [if_neg (by omega)]
            simp only [decide_eq_true_eq]
            omega
/-- First Right, then Up. -/
def bef (a b : Sur) : Bool := if a.1 = b.1 then lessL a.2 b.2 else lessL a.1 b.1
theorem bef_irr (a : Sur) : bef a a = false := by simp [bef, lessL_irr]
theorem bef_total {a b : Sur} (h1 : a.1.length = b.1.length) (h2 : a.2.length = b.2.length) (hne : a ≠ b) : bef a b = true ∨ bef b a = true := by
  unfold bef
  by_cases e : a.1 = b.1
  · rw [if_pos e, if_pos e.symm]
    exact lessL_total _ _ h2 (fun q => hne (Prod.ext e q))
  · rw [if_neg e, if_neg (fun q => e q.symm)]
    exact lessL_total _ _ h1 e
theorem bef_trans {a b c : Sur} (h1 : bef a b = true) (h2 : bef b c = true) : bef a c = true := by
  unfold bef at *
  by_cases e1 : a.1 = b.1
  · rw [if_pos e1] at h1
    by_cases e2 : b.1 = c.1
    · rw [if_pos e2] at h2; rw [if_pos (e1.trans e2)]; exact lessL_trans _ _ _ h1 h2
    · rw [if_neg e2] at h2; rw [if_neg (fun q => e2 (e1.symm.trans q)), e1]; exact h2
  · rw [if_neg e1] at h1
    by_cases e2 : b.1 = c.1
    · rw [if_neg (fun q => e1 (q.trans e2.symm)), ← e2]; exact h1
    · rw [if_neg e2] at h2
      have := lessL_trans _ _ _ h1 h2
      rw [if_neg (fun q => by rw [q, lessL_irr] at this; cases this)]
      exact this
/-- The least of the first k + 1. -/
def canTo (F : Int → Sur) : Nat → Sur
  | 0 => F 0
  | k + 1 => if bef (F ((k : Int) + 1)) (canTo F k) then F ((k : Int) + 1) else canTo F k
theorem canTo_is (F : Int → Sur) (k : Nat) : ∃ j : Nat, j ≤ k ∧ canTo F k = F (j : Int) := by
  induction k with
  | zero => exact ⟨0, Nat.le_refl _, rfl⟩
  | succ k ih =>
    obtain ⟨j, hj, e⟩ := ih
    rw [canTo]; split
    · exact ⟨k + 1, Nat.le_refl _, by simp⟩
    · exact ⟨j, by omega, e⟩
theorem canTo_min (F : Int → Sur) (k : Nat) : ∀ i : Nat, i ≤ k → bef (F (i : Int)) (canTo F k) = false := by
  induction k with
  | zero => intro i hi; obtain rfl : i = 0 := by omega
            exact bef_irr _
  | succ k ih =>
    intro i hi
    rw [canTo]; split
    · rename_i h
      by_cases e : i = k + 1
      · subst e; simp [bef_irr]
      · cases q : bef (F (i : Int)) (F ((k : Int) + 1)) with
        | false => rfl
        | true => have := bef_trans q h; rw [ih i (by omega)] at this; cases this
    · rename_i h
      by_cases e : i = k + 1
      · subst e; simpa using h
      · exact ih i (by omega)
def can (R U : List Int) (n : Nat) : Sur := canTo (Fm R U n) (n - 1)
theorem Fm_len (R U : List Int) (n : Nat) (f : Int) : (Fm R U n f).1.length = n ∧ (Fm R U n f).2.length = n := ⟨renTo_len _ _ _ _, renTo_len _ _ _ _⟩
theorem can_is {R U : List Int} {n : Nat} (h : 0 < n) : ∃ j : Nat, j < n ∧ can R U n = Fm R U n (j : Int) := by
  obtain ⟨j, hj, e⟩ := canTo_is (Fm R U n) (n - 1)
  exact ⟨j, by omega, e⟩
theorem can_min {R U : List Int} {n i : Nat} (hi : i < n) : bef (Fm R U n (i : Int)) (can R U n) = false := canTo_min _ _ i (by omega)
/-- Two minima of the same set are one. -/
theorem can_unique {R U R' U' : List Int} {n : Nat} (hn : 0 < n) (h1 : ∀ i : Nat, i < n → ∃ j : Nat, j < n ∧ Fm R U n (i : Int) = Fm R' U' n (j : Int)) (h2 : ∀ j : Nat, j < n → ∃ i : Nat, i < n ∧ Fm R' U' n (j : Int) = Fm R U n (i : Int)) : can R' U' n = can R U n := by
  obtain ⟨a, ha, ea⟩ := can_is (R := R) (U := U) hn
  obtain ⟨b, hb, eb⟩ := can_is (R := R') (U := U') hn
  obtain ⟨a', ha', ea'⟩ := h1 a ha
  obtain ⟨b', hb', eb'⟩ := h2 b hb
  have m1 := can_min (R := R') (U := U') ha'
  have m2 := can_min (R := R) (U := U) hb'
  rw [← ea', ← ea] at m1
  rw [← eb', ← eb] at m2
  by_cases e : can R' U' n = can R U n
  · exact e
  · rcases bef_total (by rw [ea, eb, (Fm_len _ _ _ _).1, (Fm_len _ _ _ _).1]) (by rw [ea, eb, (Fm_len _ _ _ _).2, (Fm_len _ _ _ _).2]) e with q | q
    · rw [m2] at q; cases q
    · rw [m1] at q; cases q
theorem Iso.can_eq {n : Nat} {R U R' U' ns : List Int} (h : Iso n R U R' U' ns) (s' : Sf n R' U') : can R' U' n = can R U n := by
  refine can_unique h.s.pos (fun i hi => ?_) (fun j hj => ?_)
  · have m := h.r.s.maps i hi
    have := h.F_eq s' (f := (i : Int)) (by omega) (by omega)
    rw [Int.toNat_natCast] at this
    exact ⟨(ns.getD i 0).toNat, by omega, by rw [Int.toNat_of_nonneg m.1, this]⟩
  · obtain ⟨i, hi, e⟩ := h.okn.onto (y := j) (by have := h.ln; omega)
    have := h.F_eq s' (f := (i : Int)) (by omega) (by have := h.ln; omega)
    rw [Int.toNat_natCast, e] at this
    exact ⟨i, by have := h.ln; omega, this⟩
/-- The canonical form is a valid surface with the same canonical form. -/
theorem Sf.can_iso {n : Nat} {R U : List Int} (s : Sf n R U) : ∃ ns, Iso n R U (can R U n).1 (can R U n).2 ns ∧ Sf n (can R U n).1 (can R U n).2 := by
  obtain ⟨j, hj, e⟩ := can_is (R := R) (U := U) s.pos
  obtain ⟨k, l⟩ := s.nok (f := (j : Int)) (by omega) (by omega)
  rw [e]
  exact ⟨_, mkIso s k l⟩
end Go.Proofs.Ytajkfkpnjbkhhaa.pm

/-
  The symmetries of a surface divide its squares, and renaming keeps their number: plain mathematics.
-/
namespace Go.Proofs.Ytajkfkpnjbkhhaa.pm
open Go.Proofs.Ytajkfkpnjbkhhaa.arr Go.Proofs.Ytajkfkpnjbkhhaa.inv Go.Proofs.Ytajkfkpnjbkhhaa.permOf
set_option linter.unusedVariables false
set_option maxRecDepth 100000

theorem dvd_count {α : Type} [DecidableEq α] (K : Nat) : ∀ (m : Nat) (l : List α), l.length ≤ m → (∀ x ∈ l, l.countP (fun y => decide (y = x)) = K) → K ∣ l.length := by
  intro m
  induction m with
  | zero =>
    intro l hl _
    have : l.length = 0 := by omega
    rw [this]; exact Nat.dvd_zero K
  | succ m ih =>
    intro l hl h
    cases l with
    | nil => exact Nat.dvd_zero K
    | cons a t =>
      have hp := List.length_eq_countP_add_countP (fun y => decide (y = a)) (l := a :: t)
      have hc : (a :: t).countP (fun y => decide (y = a)) = K := h a (by simp)
      have kp : 0 < K := by rw [← hc]; exact List.countP_pos_iff.2 ⟨a, by simp, by simp⟩
      generalize hr : (fun y => decide ¬(decide (y = a)) = true) = r at hp
      have hf : (a :: t).countP r = ((a :: t).filter r).length := List.countP_eq_length_filter
      have hd := ih ((a :: t).filter r) (by rw [← hf]; omega) (by
        intro x hx
        obtain ⟨hx1, hx2⟩ := List.mem_filter.1 hx
        rw [List.countP_filter, ← h x hx1]
        refine List.countP_congr fun y _ => ?_
        constructor
        · intro q; simp only [Bool.and_eq_true] at q; exact q.1
        · intro q
          have e : y = x := by simpa using q
          subst e
          simp only [Bool.and_eq_true]
          exact ⟨by simp, hx2⟩)
      rw [hp, hc, hf]
      exact Nat.dvd_add (Nat.dvd_refl K) hd
/-- The renaming that takes f's names to h's. -/
def phi (R U : List Int) (f h : Int) : List Int := thn (nm R U f) (reach R U h)
section
variable {n : Nat} {R U : List Int} (s : Sf n R U) {f g h : Int} (f0 : 0 ≤ f) (f1 : f < n) (h0 : 0 ≤ h) (h1 : h < n)
include s f0 f1 h0 h1
theorem phi_ok : Ok (phi R U f h) ∧ (phi R U f h).length = n := by
  obtain ⟨k, l⟩ := s.nok f0 f1
  exact ⟨thn_ok k (s.rok h0 h1) (by rw [l, s.flen h0 h1]), by unfold phi; rw [thn_len, l]⟩
/-- h's name for phi's image is f's name. -/
theorem phi_nm {i : Nat} (hi : i < n) : (nm R U h).getD ((phi R U f h).getD i 0).toNat 0 = (nm R U f).getD i 0 := by
  obtain ⟨k, l⟩ := s.nok f0 f1
  unfold phi
  rw [thn_at (by omega)]
  have m := k.maps i (by omega)
  unfold nm at m ⊢
  have := Inv_at (s.rok h0 h1) (k := ((Inv (reach R U f)).getD i 0).toNat) (by rw [s.flen h0 h1]; unfold nm at l; omega)
  rw [this, Int.toNat_of_nonneg m.1]
theorem phi_f : (phi R U f h).getD f.toNat 0 = h := by
  obtain ⟨k, l⟩ := s.nok f0 f1
  have hr : ∀ q : Int, 0 ≤ q → q < n → (reach R U q).getD 0 0 = q := by
    intro q q0 q1
    have := rs_pre R U q (Nat.zero_le R.length)
    have e := pre_at this (k := 0) (by simp [rs])
    unfold reach; rw [e]; rfl
  have e := Inv_at (s.rok f0 f1) (k := 0) (by rw [s.flen f0 f1]; exact s.pos)
  rw [hr f f0 f1] at e
  unfold phi
  rw [thn_at (by omega)]
  unfold nm
  rw [e]
  exact hr h h0 h1
theorem phi_auto (e : Fm R U n h = Fm R U n f) : Iso n R U R U (phi R U f h) := by
  obtain ⟨pk, pl⟩ := phi_ok s f0 f1 h0 h1
  obtain ⟨fk, fl⟩ := s.nok f0 f1
  obtain ⟨hk, hl⟩ := s.nok h0 h1
  have eR : renTo n R (nm R U h) n = renTo n R (nm R U f) n := congrArg Prod.fst e
  have eU : renTo n U (nm R U h) n = renTo n U (nm R U f) n := congrArg Prod.snd e
  have pb : Bij n (phi R U f h) := by have := pk.bij; rw [pl] at this; exact this
  have one : ∀ X : List Int, X.length = n → Bij n X → renTo n X (nm R U h) n = renTo n X (nm R U f) n → Ren n X X (phi R U f h) := by
    intro X lx bx ex
    refine ⟨bx, bx, pb, fun i hi => ?_⟩
    have m := pb.maps i hi
    have mx := bx.maps i hi
    have a := ren_at' hk lx hl (k := ((phi R U f h).getD i 0).toNat) (by omega)
    rw [phi_nm s f0 f1 h0 h1 hi, ex, ren_at' fk lx fl hi, ← phi_nm s f0 f1 h0 h1 (i := (X.getD i 0).toNat) (by omega)] at a
    have m1 := bx.maps ((phi R U f h).getD i 0).toNat (by omega)
    have m2 := pb.maps (X.getD i 0).toNat (by omega)
    have := hk.inj _ _ (by omega) (by omega) a
    omega
  exact ⟨s, pk, pl, one R s.lr s.br eR, one U s.lu s.bu eU⟩
end
def fib (R U : List Int) (n : Nat) (f : Int) : List Int := (rng n).filter fun h => decide (Fm R U n h = Fm R U n f)
theorem mem_fib {R U : List Int} {n : Nat} {f h : Int} : h ∈ fib R U n f ↔ (0 ≤ h ∧ h < n) ∧ Fm R U n h = Fm R U n f := by
  unfold fib; rw [List.mem_filter, mem_rng]; simp
theorem fib_le {n : Nat} {R U : List Int} (s : Sf n R U) {f g : Int} (f0 : 0 ≤ f) (f1 : f < n) (g0 : 0 ≤ g) (g1 : g < n) : (fib R U n f).length ≤ (fib R U n g).length := by
  have := nodup_sub_len ((fib R U n f).map fun h => (phi R U f h).getD g.toNat 0) (fib R U n g) (by
    unfold List.Nodup
    rw [List.pairwise_map]
    refine List.Pairwise.imp_of_mem ?_ (List.Pairwise.filter _ (rng_nodup n))
    intro h h' hh hh' hne q
    obtain ⟨⟨a0, a1⟩, ae⟩ := mem_fib.1 hh
    obtain ⟨⟨b0, b1⟩, be⟩ := mem_fib.1 hh'
    have A := phi_auto s f0 f1 a0 a1 ae
    have B := phi_auto s f0 f1 b0 b1 be
    have p := A.r.s.maps g.toNat (by omega)
    have na := A.nm_eq s.lr g0 g1 (i := f.toNat) (by omega)
    have nb := B.nm_eq s.lr g0 g1 (i := f.toNat) (by omega)
    rw [← q, phi_f s f0 f1 b0 b1] at nb
    rw [phi_f s f0 f1 a0 a1] at na
    obtain ⟨nk, nl⟩ := s.nok p.1 p.2
    have := nk.inj _ _ (by omega) (by omega) (na.trans nb.symm)
    omega) (by
    intro x hx
    obtain ⟨h, hh, rfl⟩ := List.mem_map.1 hx
    obtain ⟨⟨a0, a1⟩, ae⟩ := mem_fib.1 hh
    have A := phi_auto s f0 f1 a0 a1 ae
    exact mem_fib.2 ⟨A.r.s.maps g.toNat (by omega), A.F_eq s g0 g1⟩)
  simpa using this
/-- The number of squares from which the names give the canonical form. -/
def sym (R U : List Int) (n : Nat) : Nat := (rng n).countP fun h => decide (Fm R U n h = can R U n)
theorem sym_fib {n : Nat} {R U : List Int} (s : Sf n R U) : ∃ j : Nat, j < n ∧ sym R U n = (fib R U n (j : Int)).length := by
  obtain ⟨j, hj, e⟩ := can_is (R := R) (U := U) s.pos
  exact ⟨j, hj, by unfold sym fib; rw [List.countP_eq_length_filter, e]⟩
theorem sym_pos {n : Nat} {R U : List Int} (s : Sf n R U) : 0 < sym R U n := by
  obtain ⟨j, hj, e⟩ := sym_fib s
  rw [e]
  exact List.length_pos_of_mem (mem_fib.2 ⟨⟨by omega, by omega⟩, rfl⟩ : (j : Int) ∈ fib R U n (j : Int))
theorem sym_le {n : Nat} {R U : List Int} : sym R U n ≤ n := by
  have := List.countP_le_length (p := fun h => decide (Fm R U n h = can R U n)) (l := rng n)
  rw [rng_len] at this
  exact this
theorem sym_dvd {n : Nat} {R U : List Int} (s : Sf n R U) : sym R U n ∣ n := by
  obtain ⟨j, hj, e⟩ := sym_fib s
  have := dvd_count (sym R U n) n ((rng n).map (Fm R U n)) (by simp [rng]) (by
    intro x hx
    obtain ⟨f, hf, rfl⟩ := List.mem_map.1 hx
    rw [mem_rng] at hf
    rw [List.countP_map, e]
    have q : (rng n).countP ((fun y => decide (y = Fm R U n f)) ∘ Fm R U n) = (fib R U n f).length := by
      unfold fib
      rw [List.countP_eq_length_filter]
      rfl
    rw [q]
    have a := fib_le s hf.1 hf.2 (g := (j : Int)) (by omega) (by omega)
    have b := fib_le s (f := (j : Int)) (by omega) (by omega) hf.1 hf.2
    omega)
  rw [List.length_map, rng_len] at this
  exact this
theorem Iso.sym_eq {n : Nat} {R U R' U' ns : List Int} (h : Iso n R U R' U' ns) (s' : Sf n R' U') : sym R' U' n = sym R U n := by
  unfold sym
  rw [← h.r.s.map_rng.countP_eq, List.countP_map]
  refine List.countP_congr fun x hx => ?_
  rw [mem_rng] at hx
  simp only [Function.comp]
  rw [h.F_eq s' hx.1 hx.2, h.can_eq s']
end Go.Proofs.Ytajkfkpnjbkhhaa.pm

/-
  The letters on surfaces: valid surfaces stay valid, and each letter is undone by its inverse. Plain mathematics.
-/
namespace Go.Proofs.Ytajkfkpnjbkhhaa.pm
open Go.Proofs.Ytajkfkpnjbkhhaa.arr Go.Proofs.Ytajkfkpnjbkhhaa.inv Go.Proofs.Ytajkfkpnjbkhhaa.permOf
set_option linter.unusedVariables false
set_option maxRecDepth 100000

theorem Inv_Inv {q : List Int} (h : Ok q) : Inv (Inv q) = q := by
  refine list_eq q.length (by rw [Inv_len, Inv_len]) rfl fun i hi => ?_
  have hk := Inv_ok h
  have m := h.maps i hi
  have a := Inv_at hk (k := (q.getD i 0).toNat) (by rw [Inv_len]; omega)
  rw [Inv_at h hi, Int.toNat_natCast] at a
  rw [a]
  omega
theorem Inv_right {q : List Int} (h : Ok q) {x : Int} (x0 : 0 ≤ x) (x1 : x < q.length) : q.getD ((Inv q).getD x.toNat 0).toNat 0 = x := by
  obtain ⟨k, hk, e1, e2⟩ := at_Inv h (i := x.toNat) (by omega)
  rw [e1, Int.toNat_natCast, e2]
  omega
theorem Inv_left {q : List Int} (h : Ok q) {x : Int} (x0 : 0 ≤ x) (x1 : x < q.length) : (Inv q).getD (q.getD x.toNat 0).toNat 0 = x := by
  rw [Inv_at h (k := x.toNat) (by omega)]; omega
theorem Inv_thn {p q : List Int} (hp : Ok p) (hq : Ok q) (l : p.length = q.length) : Inv (thn p q) = thn (Inv q) (Inv p) := by
  have := grp_inv hp hq rfl l.symm
  rw [back_eq hp hq rfl l.symm, thenF_of hp hq l, invF_of (thn_ok hp hq l)] at this
  exact this
theorem thn_assoc {p q r : List Int} (hp : Ok p) (lq : p.length = q.length) : thn (thn p q) r = thn p (thn q r) := by
  refine list_eq p.length (by rw [thn_len, thn_len]) (by rw [thn_len]) fun i hi => ?_
  have m := hp.maps i hi
  rw [thn_at (by rw [thn_len]; exact hi), thn_at (ys := q) hi, thn_at (ys := thn q r) hi, thn_at (by omega)]
theorem thn_id {n : Nat} {p : List Int} (hp : Ok p) (l : p.length = n) : thn p (rng n) = p := by
  refine list_eq p.length (by rw [thn_len]) rfl fun i hi => ?_
  have m := hp.maps i hi
  rw [thn_at hi, rng_at (by omega)]
  omega
theorem id_thn {n : Nat} {p : List Int} (l : p.length = n) : thn (rng n) p = p :=
  list_eq n (by rw [thn_len, rng_len]) l fun i hi => by rw [thn_at (by rw [rng_len]; exact hi), rng_at hi, Int.toNat_natCast]
theorem thn_Inv {n : Nat} {q : List Int} (hq : Ok q) (lq : q.length = n) : thn q (Inv q) = rng n :=
  list_eq n (by rw [thn_len]; exact lq) (rng_len n) fun i hi => by rw [thn_at (by omega), Inv_at hq (by omega), rng_at hi]
theorem Inv_thn_self {n : Nat} {q : List Int} (hq : Ok q) (lq : q.length = n) : thn (Inv q) q = rng n := by
  have := thn_Inv (Inv_ok hq) (n := n) (by rw [Inv_len]; exact lq)
  rw [Inv_Inv hq] at this
  exact this
/-- A surface whose closed sets are closed under those of a valid one is valid. -/
theorem Sf.of_closed {n : Nat} {R U R' U' : List Int} (s : Sf n R U) (r' : Ok R') (u' : Ok U') (lr' : R'.length = n) (lu' : U'.length = n)
    (hc : ∀ C : List Int, In n C → (∀ x ∈ C, R'.getD x.toNat 0 ∈ C ∧ U'.getD x.toNat 0 ∈ C) → ∀ x ∈ C, R.getD x.toNat 0 ∈ C ∧ U.getD x.toNat 0 ∈ C) : Sf n R' U' := by
  have b1 : Bij n R' := by have := r'.bij; rw [lr'] at this; exact this
  have b2 : Bij n U' := by have := u'.bij; rw [lu'] at this; exact this
  have hp := s.pos
  have hin : In n (reach R' U' 0) := rs_in b1.maps b2.maps (by omega) (by omega) _
  have hcl : ∀ x ∈ reach R' U' 0, R'.getD x.toNat 0 ∈ reach R' U' 0 ∧ U'.getD x.toNat 0 ∈ reach R' U' 0 := fun x hx => reach_closed lr' b1.maps b2.maps (by omega) (by omega) hx
  have := reach_least (ps := R) (qs := U) (f := 0) (fun x => x ∈ reach R' U' 0) (reach_start _ _ _) (hc _ hin hcl) R.length
  refine ⟨r', u', lr', lu', hp, ?_⟩
  have h1 := nodup_sub_len (rng n) (reach R' U' 0) (rng_nodup n) (fun x hx => by
    rw [mem_rng] at hx
    exact this x (s.full (f := 0) (by omega) (by omega) hx.1 hx.2))
  rw [rng_len] at h1
  have := hin.len
  omega
theorem closed_Inv {n : Nat} {q C : List Int} (hq : Ok q) (lq : q.length = n) (hC : In n C) (hc : ∀ x ∈ C, (Inv q).getD x.toNat 0 ∈ C) : ∀ x ∈ C, q.getD x.toNat 0 ∈ C := by
  intro x hx
  have x0 := hC.lo x hx; have x1 := hC.hi x hx
  have b : Bij n (Inv q) := by have := (Inv_ok hq).bij; rw [Inv_len, lq] at this; exact this
  have m := hq.maps x.toNat (by omega)
  refine closed_back b hC hc m.1 (by omega) ?_
  rw [Inv_left hq x0 (by omega)]
  exact hx
theorem closed_q {n : Nat} {q C : List Int} (hq : Ok q) (lq : q.length = n) (hC : In n C) (hc : ∀ x ∈ C, q.getD x.toNat 0 ∈ C) : ∀ x ∈ C, (Inv q).getD x.toNat 0 ∈ C := by
  have := closed_Inv (Inv_ok hq) (n := n) (by rw [Inv_len]; exact lq) hC (by rw [Inv_Inv hq]; exact hc)
  exact this
def shearS (s : Sur) : Sur := (s.1, thn (Inv s.1) s.2)
def unshearS (s : Sur) : Sur := (s.1, thn s.1 s.2)
def turnS (s : Sur) : Sur := (Inv s.2, s.1)
def unturnS (s : Sur) : Sur := (s.2, Inv s.1)
section
variable {n : Nat} {R U : List Int} (s : Sf n R U)
include s
theorem shear_sf : Sf n (shearS (R, U)).1 (shearS (R, U)).2 := by
  refine s.of_closed s.r (thn_ok (Inv_ok s.r) s.u (by rw [Inv_len, s.lr, s.lu])) s.lr (by show (thn (Inv R) U).length = n; rw [thn_len, Inv_len]; exact s.lr) fun C hC hc x hx => ?_
  have h1 : R.getD x.toNat 0 ∈ C := (hc x hx).1
  refine ⟨h1, ?_⟩
  have h2 : (thn (Inv R) U).getD (R.getD x.toNat 0).toNat 0 ∈ C := (hc _ h1).2
  have x0 := hC.lo x hx; have x1 := hC.hi x hx
  have m := s.r.maps x.toNat (by have := s.lr; omega)
  have lr := s.lr
  rw [thn_at (by rw [Inv_len]; omega), Inv_left s.r x0 (by omega)] at h2
  exact h2
theorem unshear_sf : Sf n (unshearS (R, U)).1 (unshearS (R, U)).2 := by
  refine s.of_closed s.r (thn_ok s.r s.u (by rw [s.lr, s.lu])) s.lr (by show (thn R U).length = n; rw [thn_len]; exact s.lr) fun C hC hc x hx => ?_
  refine ⟨(hc x hx).1, ?_⟩
  have lr := s.lr
  have x0 := hC.lo x hx; have x1 := hC.hi x hx
  have hi := closed_q s.r s.lr hC (fun x hx => (hc x hx).1) x hx
  have h2 := (hc _ hi).2
  have i0 := hC.lo _ hi; have i1 := hC.hi _ hi
  change (thn R U).getD _ 0 ∈ C at h2
  rw [thn_at (by omega), Inv_right s.r x0 (by omega)] at h2
  exact h2
theorem turn_sf : Sf n (turnS (R, U)).1 (turnS (R, U)).2 := by
  refine s.of_closed (Inv_ok s.u) s.r (by show (Inv U).length = n; rw [Inv_len]; exact s.lu) s.lr fun C hC hc x hx => ?_
  exact ⟨(hc x hx).2, closed_Inv s.u s.lu hC (fun x hx => (hc x hx).1) x hx⟩
theorem unturn_sf : Sf n (unturnS (R, U)).1 (unturnS (R, U)).2 := by
  refine s.of_closed s.u (Inv_ok s.r) s.lu (by show (Inv R).length = n; rw [Inv_len]; exact s.lr) fun C hC hc x hx => ?_
  exact ⟨closed_Inv s.r s.lr hC (fun x hx => (hc x hx).2) x hx, (hc x hx).1⟩
theorem unshear_shear : unshearS (shearS (R, U)) = (R, U) := by
  show (R, thn R (thn (Inv R) U)) = (R, U)
  rw [← thn_assoc s.r (by rw [Inv_len]), thn_Inv s.r s.lr, id_thn s.lu]
theorem shear_unshear : shearS (unshearS (R, U)) = (R, U) := by
  show (R, thn (Inv R) (thn R U)) = (R, U)
  rw [← thn_assoc (Inv_ok s.r) (by rw [Inv_len]), Inv_thn_self s.r s.lr, id_thn s.lu]
theorem unturn_turn : unturnS (turnS (R, U)) = (R, U) := by
  show (R, Inv (Inv U)) = (R, U)
  rw [Inv_Inv s.u]
theorem turn_unturn : turnS (unturnS (R, U)) = (R, U) := by
  show (Inv (Inv R), U) = (R, U)
  rw [Inv_Inv s.r]
theorem turn4 : turnS (turnS (turnS (turnS (R, U)))) = (R, U) := by
  show (Inv (Inv R), Inv (Inv U)) = (R, U)
  rw [Inv_Inv s.r, Inv_Inv s.u]
end
end Go.Proofs.Ytajkfkpnjbkhhaa.pm

/-
  Letters and words on surfaces and matrices: plain mathematics.
-/
namespace Go.Proofs.Ytajkfkpnjbkhhaa.pm
open Go.Proofs.Ytajkfkpnjbkhhaa.arr Go.Proofs.Ytajkfkpnjbkhhaa.inv Go.Proofs.Ytajkfkpnjbkhhaa.permOf
set_option linter.unusedVariables false
set_option maxRecDepth 100000
/-- The four letters are the bytes 84 (T), 116 (t), 83 (S), 115 (s). -/
def isL (c : UInt8) : Bool := decide (c.toNat = 84) || decide (c.toNat = 116) || decide (c.toNat = 83) || decide (c.toNat = 115)
def letS (c : UInt8) (s : Sur) : Sur := if c.toNat = 84 then shearS s else if c.toNat = 116 then unshearS s else if c.toNat = 83 then turnS s else unturnS s
def inL (c : UInt8) : UInt8 := if c.toNat = 84 then 116 else if c.toNat = 116 then 84 else if c.toNat = 83 then 115 else 83
def runS (w : List UInt8) (s : Sur) : Sur := w.foldl (fun s c => letS c s) s
def invW (w : List UInt8) : List UInt8 := (w.map inL).reverse
theorem letS_sf {n : Nat} {R U : List Int} (s : Sf n R U) (c : UInt8) : Sf n (letS c (R, U)).1 (letS c (R, U)).2 := by
  unfold letS
  split
  · exact shear_sf s
  · split
    · exact unshear_sf s
    · split
      · exact turn_sf s
      · exact unturn_sf s
theorem isL_iff {c : UInt8} : isL c = true ↔ c.toNat = 84 ∨ c.toNat = 116 ∨ c.toNat = 83 ∨ c.toNat = 115 := by simp [isL, or_assoc]
theorem letS_inv {n : Nat} {R U : List Int} (s : Sf n R U) {c : UInt8} (hc : isL c = true) : letS (inL c) (letS c (R, U)) = (R, U) := by
  rcases isL_iff.1 hc with h | h | h | h
  · have e1 : letS c (R, U) = shearS (R, U) := by unfold letS; rw [if_pos h]
    have e2 : inL c = 116 := by unfold inL; rw [if_pos h]
    rw [e1, e2]; exact unshear_shear s
  · have e1 : letS c (R, U) = unshearS (R, U) := by unfold letS; rw [if_neg (by omega), if_pos h]
    have e2 : inL c = 84 := by unfold inL; rw [if_neg (by omega), if_pos h]
    rw [e1, e2]; exact shear_unshear s
  · have e1 : letS c (R, U) = turnS (R, U) := by unfold letS; rw [if_neg (by omega), if_neg (by omega), if_pos h]
    have e2 : inL c = 115 := by unfold inL; rw [if_neg (by omega), if_neg (by omega), if_pos h]
    rw [e1, e2]; exact unturn_turn s
  · have e1 : letS c (R, U) = unturnS (R, U) := by unfold letS; rw [if_neg (by omega), if_neg (by omega), if_neg (by omega)]
    have e2 : inL c = 83 := by unfold inL; rw [if_neg (by omega), if_neg (by omega), if_neg (by omega)]
    rw [e1, e2]; exact turn_unturn s
theorem runS_sf {n : Nat} : ∀ (w : List UInt8) (s : Sur), Sf n s.1 s.2 → Sf n (runS w s).1 (runS w s).2 := by
  intro w
  induction w with
  | nil => intro s h; exact h
  | cons c w ih => intro s h; exact ih (letS c s) (letS_sf (R := s.1) (U := s.2) h c)
theorem runS_snoc (w : List UInt8) (c : UInt8) (s : Sur) : runS (w ++ [c]) s = letS c (runS w s) := by simp [runS]
theorem runS_inv {n : Nat} : ∀ (w : List UInt8) (s : Sur), w.all isL = true → Sf n s.1 s.2 → runS (invW w) (runS w s) = s := by
  intro w
  induction w with
  | nil => intro s _ _; rfl
  | cons c w ih =>
    intro s hw h
    simp only [List.all_cons, Bool.and_eq_true] at hw
    have e : invW (c :: w) = invW w ++ [inL c] := by simp [invW]
    rw [e, runS_snoc]
    show letS (inL c) (runS (invW w) (runS w (letS c s))) = s
    rw [ih (letS c s) hw.2 (letS_sf (R := s.1) (U := s.2) h c)]
    exact letS_inv (R := s.1) (U := s.2) h hw.1
/-- A shear behind a turn, three times, is two turns, but for the names. -/
theorem st_is {n : Nat} {R U : List Int} (s : Sf n R U) : shearS (turnS (R, U)) = (Inv U, thn U R) := by
  show (Inv U, thn (Inv (Inv U)) R) = _
  rw [Inv_Inv s.u]
theorem st_sf {n : Nat} {R U : List Int} (s : Sf n R U) : Sf n (Inv U) (thn U R) := by
  have := shear_sf (turn_sf s)
  rw [show ((turnS (R, U)).1, (turnS (R, U)).2) = turnS (R, U) from rfl, st_is s] at this
  exact this
theorem ren_of {n : Nat} {X Y P : List Int} (x : Ok X) (y : Ok Y) (p : Ok P) (lx : X.length = n) (ly : Y.length = n) (lp : P.length = n) (h : thn X P = thn P Y) : Ren n X Y P := by
  have b : ∀ q : List Int, Ok q → q.length = n → Bij n q := fun q h l => by have := h.bij; rw [l] at this; exact this
  refine ⟨b X x lx, b Y y ly, b P p lp, fun i hi => ?_⟩
  have e : (thn X P).getD i 0 = (thn P Y).getD i 0 := by rw [h]
  rw [thn_at (by omega), thn_at (by omega)] at e
  exact e.symm
theorem sts_iso {n : Nat} {R U : List Int} (s : Sf n R U) :
    Iso n (shearS (turnS (shearS (turnS (shearS (turnS (R, U))))))).1 (shearS (turnS (shearS (turnS (shearS (turnS (R, U))))))).2 (turnS (turnS (R, U))).1 (turnS (turnS (R, U))).2 (thn U R) := by
  have s1 := st_sf s
  have s2 := st_sf s1
  have s3 := st_sf s2
  rw [st_is s, st_is s1, st_is s2]
  have lr := s.lr; have lu := s.lu
  obtain ⟨P, hP⟩ : ∃ P, P = thn U R := ⟨_, rfl⟩
  have okP : Ok P := by rw [hP]; exact thn_ok s.u s.r (by rw [lu, lr])
  have lP : P.length = n := by rw [hP, thn_len]; exact lu
  rw [← hP] at s1 s2 s3 ⊢
  have okI := Inv_ok s.u
  have e1 : Inv (thn P (Inv U)) = thn U (Inv P) := by rw [Inv_thn okP okI (by rw [Inv_len, lP, lu]), Inv_Inv s.u]
  have o1 : Ok (thn U (Inv P)) := thn_ok s.u (Inv_ok okP) (by rw [Inv_len, lP, lu])
  have o2 : Ok (thn P (Inv U)) := thn_ok okP okI (by rw [Inv_len, lP, lu])
  have o3 : Ok (thn (thn P (Inv U)) (Inv P)) := thn_ok o2 (Inv_ok okP) (by rw [thn_len, Inv_len])
  rw [e1] at s3 ⊢
  rw [show turnS (turnS (R, U)) = (Inv R, Inv U) from rfl]
  refine ⟨s3, okP, lP, ?_, ?_⟩
  · refine ren_of o1 (Inv_ok s.r) okP (by rw [thn_len]; exact lu) (by rw [Inv_len]; exact lr) lP ?_
    rw [thn_assoc s.u (by rw [Inv_len, lP, lu]), Inv_thn_self okP lP, thn_id s.u lu, hP, thn_assoc s.u (by rw [lu, lr]), thn_Inv s.r lr, thn_id s.u lu]
  · refine ren_of o3 okI okP (by rw [thn_len, thn_len]; exact lP) (by rw [Inv_len]; exact lu) lP ?_
    rw [thn_assoc o2 (by rw [thn_len, Inv_len]), Inv_thn_self okP lP, thn_id o2 (by rw [thn_len]; exact lP)]

/-! ### Matrices -/
abbrev Mx := Int × Int × Int × Int
def mulM (m k : Mx) : Mx := (m.1 * k.1 + m.2.1 * k.2.2.1, m.1 * k.2.1 + m.2.1 * k.2.2.2, m.2.2.1 * k.1 + m.2.2.2 * k.2.2.1, m.2.2.1 * k.2.1 + m.2.2.2 * k.2.2.2)
def detM (m : Mx) : Int := m.1 * m.2.2.2 - m.2.1 * m.2.2.1
def letM (c : UInt8) : Mx := if c.toNat = 84 then (1, 1, 0, 1) else if c.toNat = 116 then (1, -1, 0, 1) else if c.toNat = 83 then (0, -1, 1, 0) else (0, 1, -1, 0)
def matW (w : List UInt8) : Mx := w.foldl (fun m c => mulM (letM c) m) (1, 0, 0, 1)
theorem matW_snoc (w : List UInt8) (c : UInt8) : matW (w ++ [c]) = mulM (letM c) (matW w) := by simp [matW]
def Lim (p : Int) (m : Mx) : Prop := (-p ≤ m.1 ∧ m.1 ≤ p) ∧ (-p ≤ m.2.1 ∧ m.2.1 ≤ p) ∧ (-p ≤ m.2.2.1 ∧ m.2.2.1 ≤ p) ∧ (-p ≤ m.2.2.2 ∧ m.2.2.2 ≤ p)
theorem lim_let {p : Int} {m : Mx} (c : UInt8) (hp : 0 ≤ p) (h : Lim p m) : Lim (2 * p) (mulM (letM c) m) := by
  obtain ⟨a, b, cc, d⟩ := m
  obtain ⟨⟨h1, h2⟩, ⟨h3, h4⟩, ⟨h5, h6⟩, ⟨h7, h8⟩⟩ := h
  simp only at h1 h2 h3 h4 h5 h6 h7 h8
  unfold letM
  split
  · simp only [Lim, mulM]; omega
  · split
    · simp only [Lim, mulM]; omega
    · split
      · simp only [Lim, mulM]; omega
      · simp only [Lim, mulM]; omega
theorem lim_fold : ∀ (w : List UInt8) (p : Int) (m : Mx), 0 ≤ p → Lim p m → Lim (2 ^ w.length * p) (w.foldl (fun m c => mulM (letM c) m) m) := by
  intro w
  induction w with
  | nil => intro p m hp h; simpa using h
  | cons c w ih =>
    intro p m hp h
    have := ih (2 * p) _ (by omega) (lim_let c hp h)
    rw [List.foldl_cons, List.length_cons]
    rw [show (2 : Int) ^ (w.length + 1) * p = 2 ^ w.length * (2 * p) by rw [Int.pow_succ, Int.mul_assoc]]
    exact this
theorem matW_lim (w : List UInt8) (h : w.length ≤ 40) : Lim 1099511627776 (matW w) := by
  have h1 := lim_fold w 1 (1, 0, 0, 1) (by omega) (by unfold Lim; simp)
  have h2 : (2 : Int) ^ w.length ≤ 2 ^ 40 := by
    have : (2 : Nat) ^ w.length ≤ 2 ^ 40 := Nat.pow_le_pow_right (by omega) h
    exact_mod_cast this
  have h3 : (2 : Int) ^ 40 = 1099511627776 := by decide
  rw [Int.mul_one] at h1
  obtain ⟨⟨a1, a2⟩, ⟨a3, a4⟩, ⟨a5, a6⟩, ⟨a7, a8⟩⟩ := h1
  unfold matW Lim
  omega
theorem det_mul (m k : Mx) : detM (mulM m k) = detM m * detM k := by
  obtain ⟨a, b, c, d⟩ := m; obtain ⟨e, f, g, h⟩ := k
  simp only [detM, mulM]
  grind
theorem det_let (c : UInt8) : detM (letM c) = 1 := by
  unfold letM
  split
  · rfl
  · split
    · rfl
    · split <;> rfl
theorem det_fold : ∀ (w : List UInt8) (m : Mx), detM (w.foldl (fun m c => mulM (letM c) m) m) = detM m := by
  intro w
  induction w with
  | nil => intro m; rfl
  | cons c w ih => intro m; rw [List.foldl_cons, ih, det_mul, det_let, Int.one_mul]
theorem matW_det (w : List UInt8) : detM (matW w) = 1 := by unfold matW; rw [det_fold]; rfl
end Go.Proofs.Ytajkfkpnjbkhhaa.pm

/-
  An exchange of two elements changes the number of cycles by one; so its parity is that of a product: plain mathematics.
-/
namespace Go.Proofs.Ytajkfkpnjbkhhaa.pm
open Go.Proofs.Ytajkfkpnjbkhhaa.arr Go.Proofs.Ytajkfkpnjbkhhaa.inv Go.Proofs.Ytajkfkpnjbkhhaa.permOf
set_option linter.unusedVariables false
set_option maxRecDepth 100000

section
variable {n : Nat} {ps : List Int} (hb : Bij n ps)
include hb
theorem cyc_self {f : Int} (f0 : 0 ≤ f) (f1 : f < n) : f ∈ cyc ps n f := by
  have hw := cyc_way hb f0 f1
  have := getD_mem (l := cyc ps n f) (i := 0) hw.pos
  rw [hw.head] at this; exact this
theorem cyc_next {f x : Int} (f0 : 0 ≤ f) (f1 : f < n) (hx : x ∈ cyc ps n f) : ps.getD x.toNat 0 ∈ cyc ps n f := by
  have hw := cyc_way hb f0 f1
  obtain ⟨i, hi, e⟩ := mem_getD hx
  by_cases h : i + 1 < (cyc ps n f).length
  · rw [← e, ← hw.step i h]; exact getD_mem h
  · have : i = (cyc ps n f).length - 1 := by omega
    subst this
    rw [← e, ← hw.last]
    exact cyc_self hb f0 f1
theorem mem_cyc {f y : Int} (f0 : 0 ≤ f) (f1 : f < n) : y ∈ cyc ps n f ↔ ∃ m, it ps f m = y := by
  have hw := cyc_way hb f0 f1
  constructor
  · intro h
    obtain ⟨i, hi, e⟩ := mem_getD h
    exact ⟨i, by rw [← way_it hw i hi, e]⟩
  · rintro ⟨m, rfl⟩
    induction m with
    | zero => exact cyc_self hb f0 f1
    | succ m ih => exact cyc_next hb f0 f1 ih
theorem cyc_trans {f x y : Int} (f0 : 0 ≤ f) (f1 : f < n) (hx : x ∈ cyc ps n f) (hy : y ∈ cyc ps n x) : y ∈ cyc ps n f := by
  have hw := cyc_way hb f0 f1
  obtain ⟨a, ea⟩ := (mem_cyc hb f0 f1).1 hx
  obtain ⟨b, eb⟩ := (mem_cyc hb (hw.inn.lo x hx) (hw.inn.hi x hx)).1 hy
  exact (mem_cyc hb f0 f1).2 ⟨a + b, by rw [← it_add, ea, eb]⟩
theorem cyc_symm {f x : Int} (f0 : 0 ≤ f) (f1 : f < n) (hx : x ∈ cyc ps n f) : f ∈ cyc ps n x := by
  have hw := cyc_way hb f0 f1
  obtain ⟨j, hj, e⟩ := mem_getD hx
  rw [way_it hw j hj] at e
  refine (mem_cyc hb (hw.inn.lo x hx) (hw.inn.hi x hx)).2 ⟨(cyc ps n f).length - j, ?_⟩
  have ej : j + ((cyc ps n f).length - j) = (cyc ps n f).length := by omega
  rw [← e, it_add, ej, ← way_last hw]
theorem cyc_iff {f x y : Int} (f0 : 0 ≤ f) (f1 : f < n) (hx : x ∈ cyc ps n f) : y ∈ cyc ps n x ↔ y ∈ cyc ps n f := by
  have hw := cyc_way hb f0 f1
  constructor
  · exact cyc_trans hb f0 f1 hx
  · exact cyc_trans hb (hw.inn.lo x hx) (hw.inn.hi x hx) (cyc_symm hb f0 f1 hx)
end
/-- x is the least of its cycle. -/
def mn (ps : List Int) (n : Nat) (x : Int) : Bool := decide (∀ y ∈ cyc ps n x, x ≤ y)
theorem mem_cso {n : Nat} {ps : List Int} (hb : Bij n ps) (k : Nat) (hk : k ≤ n) (x : Int) : x ∈ (cso ps n k).flatten ↔ ∃ j : Nat, j < k ∧ x ∈ cyc ps n (j : Int) := by
  induction k with
  | zero => simp [cso]
  | succ k ih =>
    have ih := ih (by omega)
    rw [cso]
    by_cases h : (k : Int) ∈ (cso ps n k).flatten
    · rw [if_pos h, ih]
      constructor
      · rintro ⟨j, hj, q⟩; exact ⟨j, by omega, q⟩
      · rintro ⟨j, hj, q⟩
        by_cases e : j = k
        · subst e
          have hc := cso_cs hb j (by omega)
          -- j lies in an earlier cycle
          obtain ⟨c, hc1, hc2⟩ := List.mem_flatten.1 h
          have : x ∈ (cso ps n j).flatten := by
            have hcyc : ∀ m (hm : m ≤ n) (c : List Int), c ∈ cso ps n m → ∃ i : Nat, i < m ∧ c = cyc ps n (i : Int) := by
              intro m
              induction m with
              | zero => intro _ c hc; simp [cso] at hc
              | succ m ihm =>
                intro hm c hc
                rw [cso] at hc
                split at hc
                · obtain ⟨i, hi, e⟩ := ihm (by omega) c hc; exact ⟨i, by omega, e⟩
                · rcases List.mem_append.1 hc with hc | hc
                  · obtain ⟨i, hi, e⟩ := ihm (by omega) c hc; exact ⟨i, by omega, e⟩
                  · simp at hc; exact ⟨m, by omega, hc⟩
            obtain ⟨i, hi, e⟩ := hcyc j (by omega) c hc1
            subst e
            exact List.mem_flatten.2 ⟨_, hc1, cyc_trans hb (by omega) (by omega) hc2 q⟩
          exact (ih.1 this)
        · exact ⟨j, by omega, q⟩
    · rw [if_neg h]
      simp only [List.flatten_append, List.flatten_cons, List.flatten_nil, List.append_nil, List.mem_append, ih]
      constructor
      · rintro (⟨j, hj, q⟩ | q)
        · exact ⟨j, by omega, q⟩
        · exact ⟨k, by omega, q⟩
      · rintro ⟨j, hj, q⟩
        by_cases e : j = k
        · subst e; exact .inr q
        · exact .inl ⟨j, by omega, q⟩
theorem cso_count {n : Nat} {ps : List Int} (hb : Bij n ps) (k : Nat) (hk : k ≤ n) : (cso ps n k).length = (rng k).countP (mn ps n) := by
  induction k with
  | zero => rfl
  | succ k ih =>
    have e : rng (k + 1) = rng k ++ [(k : Int)] := by unfold rng; rw [List.range_succ, List.map_append]; rfl
    rw [e, List.countP_append, ← ih (by omega), cso]
    have key : (k : Int) ∈ (cso ps n k).flatten ↔ mn ps n (k : Int) = false := by
      rw [mem_cso hb k (by omega)]
      unfold mn
      rw [decide_eq_false_iff_not]
      constructor
      · rintro ⟨j, hj, q⟩ h
        have := h _ (cyc_symm hb (by omega) (by omega) q)
        omega
      · intro h
        have : ∃ y, y ∈ cyc ps n (k : Int) ∧ y < (k : Int) := by
          rcases Classical.em (∃ y, y ∈ cyc ps n (k : Int) ∧ y < (k : Int)) with q | q
          · exact q
          · exact absurd (fun y hy => Int.not_lt.1 (fun hlt => q ⟨y, hy, hlt⟩)) h
        obtain ⟨y, hy, hlt⟩ := this
        have hw := cyc_way (f := (k : Int)) hb (by omega) (by omega)
        have y0 := hw.inn.lo y hy
        exact ⟨y.toNat, by omega, by rw [Int.toNat_of_nonneg y0]; exact cyc_symm hb (by omega) (by omega) hy⟩
    by_cases h : (k : Int) ∈ (cso ps n k).flatten
    · rw [if_pos h]; simp [key.1 h]
    · rw [if_neg h]
      have : mn ps n (k : Int) = true := by
        cases q : mn ps n (k : Int) with
        | true => rfl
        | false => exact absurd (key.2 q) h
      simp [this]
theorem countP_one {l : List Int} {q : Int → Bool} (hl : l.Nodup) {x : Int} (hx : x ∈ l) (hq : q x = true) (hu : ∀ y ∈ l, q y = true → y = x) : l.countP q = 1 := by
  rw [List.countP_eq_length_filter]
  have hm : x ∈ l.filter q := List.mem_filter.2 ⟨hx, hq⟩
  have h1 := nodup_le_one (l.filter q) x (List.Pairwise.filter _ hl) (fun y hy => hu y (List.mem_filter.1 hy).1 (List.mem_filter.1 hy).2)
  have := List.length_pos_of_mem hm
  omega
where
  nodup_le_one (l : List Int) (x : Int) (hl : l.Nodup) (h : ∀ y ∈ l, y = x) : l.length ≤ 1 := by
    match l, hl, h with
    | [], _, _ => simp
    | [a], _, _ => simp
    | a :: b :: t, hl, h =>
      have ha := h a (by simp); have hb := h b (by simp)
      subst ha
      exact absurd hb.symm (fun e => (List.nodup_cons.1 hl).1 (by rw [e]; simp))
theorem countP_part {l : List Int} (q c : Int → Bool) : l.countP q = l.countP (fun x => q x && c x) + l.countP (fun x => q x && !c x) := by
  induction l with
  | nil => rfl
  | cons a t ih =>
    simp only [List.countP_cons, ih]
    cases q a <;> cases c a <;> simp <;> omega
theorem least_of (l : List Int) (h : l ≠ []) : ∃ x ∈ l, ∀ y ∈ l, x ≤ y := by
  induction l with
  | nil => exact absurd rfl h
  | cons a t ih =>
    by_cases ht : t = []
    · subst ht; exact ⟨a, by simp, by simp⟩
    · obtain ⟨x, hx, hm⟩ := ih ht
      by_cases e : a ≤ x
      · refine ⟨a, by simp, fun y hy => ?_⟩
        rcases List.mem_cons.1 hy with rfl | hy
        · exact Int.le_refl _
        · have := hm y hy; omega
      · refine ⟨x, by simp [hx], fun y hy => ?_⟩
        rcases List.mem_cons.1 hy with rfl | hy
        · omega
        · exact hm y hy
/-- One element of a cycle is its least. -/
theorem one_least {n : Nat} {ps : List Int} (hb : Bij n ps) {a : Int} (a0 : 0 ≤ a) (a1 : a < n) : (rng n).countP (fun x => mn ps n x && decide (x ∈ cyc ps n a)) = 1 := by
  have hw := cyc_way hb a0 a1
  obtain ⟨x, hx, hm⟩ := least_of (cyc ps n a) (fun e => by have := hw.pos; rw [e] at this; simp at this)
  refine countP_one (rng_nodup n) (x := x) (mem_rng.2 ⟨hw.inn.lo x hx, hw.inn.hi x hx⟩) ?_ ?_
  · simp only [Bool.and_eq_true, decide_eq_true_eq, mn]
    exact ⟨fun y hy => hm y ((cyc_iff hb a0 a1 hx).1 hy), hx⟩
  · intro y hy q
    simp only [Bool.and_eq_true, decide_eq_true_eq, mn] at q
    have h1 := q.1 x ((cyc_iff hb a0 a1 q.2).2 hx)
    have h2 := hm y q.2
    omega
/-- ps' is ps behind an exchange of a and b. -/
structure Xch (n : Nat) (ps ps' : List Int) (a b : Nat) : Prop where
  p : Bij n ps
  p' : Bij n ps'
  ha : a < n
  hb : b < n
  ne : a ≠ b
  ea : ps'.getD a 0 = ps.getD b 0
  eb : ps'.getD b 0 = ps.getD a 0
  eo : ∀ i, i < n → i ≠ a → i ≠ b → ps'.getD i 0 = ps.getD i 0
theorem Xch.symm {n a b : Nat} {ps ps' : List Int} (h : Xch n ps ps' a b) : Xch n ps' ps a b := ⟨h.p', h.p, h.ha, h.hb, h.ne, h.eb.symm, h.ea.symm, fun i hi q r => (h.eo i hi q r).symm⟩
theorem Xch.other {n a b : Nat} {ps ps' : List Int} (h : Xch n ps ps' a b) {x : Int} (x0 : 0 ≤ x) (x1 : x < n) (q : x ≠ a) (r : x ≠ b) : ps'.getD x.toNat 0 = ps.getD x.toNat 0 := h.eo _ (by omega) (by omega) (by omega)
/-- Where a and b lie in different cycles, their union becomes one. -/
theorem Xch.merge {n a b : Nat} {ps ps' : List Int} (h : Xch n ps ps' a b) (hd : ¬ (b : Int) ∈ cyc ps n a) (x : Int) : x ∈ cyc ps' n a ↔ x ∈ cyc ps n a ∨ x ∈ cyc ps n b := by
  have a1 : (a : Int) < n := by have := h.ha; omega
  have b1 : (b : Int) < n := by have := h.hb; omega
  have hd' : ¬ (a : Int) ∈ cyc ps n b := fun q => hd (cyc_symm h.p (by omega) b1 q)
  have wa := cyc_way (f := (a : Int)) h.p (by omega) a1
  have wb := cyc_way (f := (b : Int)) h.p (by omega) b1
  have na := cyc_next h.p (f := (a : Int)) (by omega) a1 (cyc_self h.p (by omega) a1)
  have nb := cyc_next h.p (f := (b : Int)) (by omega) b1 (cyc_self h.p (by omega) b1)
  rw [Int.toNat_natCast] at na nb
  constructor
  · intro hx
    obtain ⟨m, rfl⟩ := (mem_cyc h.p' (by omega) a1).1 hx
    clear hx
    induction m with
    | zero => exact .inl (cyc_self h.p (by omega) a1)
    | succ m ih =>
      have mm := it_in h.p' (f := (a : Int)) (by omega) a1 m
      show ps'.getD (it ps' a m).toNat 0 ∈ _ ∨ ps'.getD (it ps' a m).toNat 0 ∈ _
      generalize it ps' (a : Int) m = z at *
      by_cases e1 : z = a
      · subst e1; rw [Int.toNat_natCast, h.ea]; exact .inr nb
      · by_cases e2 : z = b
        · subst e2; rw [Int.toNat_natCast, h.eb]; exact .inl na
        · rw [h.other mm.1 mm.2 e1 e2]
          rcases ih with q | q
          · exact .inl (cyc_next h.p (by omega) a1 q)
          · exact .inr (cyc_next h.p (by omega) b1 q)
  · have na' := cyc_next h.p' (f := (a : Int)) (by omega) a1 (cyc_self h.p' (by omega) a1)
    rw [Int.toNat_natCast, h.ea] at na'
    have B : ∀ m, it ps (b : Int) (m + 1) ∈ cyc ps' n a := by
      intro m
      induction m with
      | zero => show ps.getD (b : Int).toNat 0 ∈ _; rw [Int.toNat_natCast]; exact na'
      | succ m ih =>
        have mm := it_in h.p (f := (b : Int)) (by omega) b1 (m + 1)
        have mc := (mem_cyc h.p (f := (b : Int)) (by omega) b1).2 ⟨m + 1, rfl⟩
        show ps.getD (it ps b (m + 1)).toNat 0 ∈ _
        generalize it ps (b : Int) (m + 1) = z at *
        by_cases e2 : z = b
        · subst e2; rw [Int.toNat_natCast]; exact na'
        · rw [← h.other mm.1 mm.2 (fun e => hd' (e ▸ mc)) e2]
          exact cyc_next h.p' (by omega) a1 ih
    have bin : (b : Int) ∈ cyc ps' n a := by
      have e := way_last wb
      have hp := wb.pos
      obtain ⟨k, hk⟩ : ∃ k, (cyc ps n (b : Int)).length = k + 1 := ⟨(cyc ps n (b : Int)).length - 1, by omega⟩
      rw [hk] at e
      rw [e]; exact B k
    have nb' := cyc_next h.p' (by omega) a1 bin
    rw [Int.toNat_natCast, h.eb] at nb'
    have A : ∀ m, it ps (a : Int) m ∈ cyc ps' n a := by
      intro m
      induction m with
      | zero => exact cyc_self h.p' (by omega) a1
      | succ m ih =>
        have mm := it_in h.p (f := (a : Int)) (by omega) a1 m
        have mc := (mem_cyc h.p (f := (a : Int)) (by omega) a1).2 ⟨m, rfl⟩
        show ps.getD (it ps a m).toNat 0 ∈ _
        generalize it ps (a : Int) m = z at *
        by_cases e1 : z = a
        · subst e1; rw [Int.toNat_natCast]; exact nb'
        · rw [← h.other mm.1 mm.2 e1 (fun e => hd (e ▸ mc))]
          exact cyc_next h.p' (by omega) a1 ih
    rintro (q | q)
    · obtain ⟨m, rfl⟩ := (mem_cyc h.p (by omega) a1).1 q; exact A m
    · obtain ⟨m, rfl⟩ := (mem_cyc h.p (by omega) b1).1 q
      cases m with
      | zero => exact bin
      | succ m => exact B m
/-- Elsewhere cycles stay. -/
theorem Xch.away {n a b : Nat} {ps ps' : List Int} (h : Xch n ps ps' a b) {f : Int} (f0 : 0 ≤ f) (f1 : f < n) (ha : ¬ f ∈ cyc ps n a) (hb : ¬ f ∈ cyc ps n b) (x : Int) : x ∈ cyc ps' n f ↔ x ∈ cyc ps n f := by
  have a1 : (a : Int) < n := by have := h.ha; omega
  have b1 : (b : Int) < n := by have := h.hb; omega
  have e : ∀ m, it ps' f m = it ps f m := by
    intro m
    induction m with
    | zero => rfl
    | succ m ih =>
      have mm := it_in h.p f0 f1 m
      have mc := (mem_cyc h.p f0 f1).2 ⟨m, rfl⟩
      show ps'.getD (it ps' f m).toNat 0 = ps.getD (it ps f m).toNat 0
      rw [ih]
      generalize it ps f m = z at *
      refine h.other mm.1 mm.2 (fun e => ha ?_) (fun e => hb ?_)
      · subst e; exact cyc_symm h.p f0 f1 mc
      · subst e; exact cyc_symm h.p f0 f1 mc
  rw [mem_cyc h.p' f0 f1, mem_cyc h.p f0 f1]
  simp only [e]
/-- Two elements of one cycle come into different ones. -/
theorem Xch.split {n a b : Nat} {ps ps' : List Int} (h : Xch n ps ps' a b) (hd : (b : Int) ∈ cyc ps n a) : ¬ (b : Int) ∈ cyc ps' n a := by
  have a1 : (a : Int) < n := by have := h.ha; omega
  have wa := cyc_way (f := (a : Int)) h.p (by omega) a1
  obtain ⟨k, hk, ek⟩ := mem_getD hd
  have ek' := way_it wa k hk
  rw [ek] at ek'
  have lst := way_last wa
  have k0 : 0 < k := by
    rcases Nat.eq_zero_or_pos k with e | e
    · subst e; rw [wa.head] at ek; exact absurd (by omega) h.ne
    · exact e
  have key : ∀ m, ∃ j, k < j ∧ j ≤ (cyc ps n (a : Int)).length ∧ it ps' a m = it ps a j := by
    intro m
    induction m with
    | zero => exact ⟨_, hk, Nat.le_refl _, lst⟩
    | succ m ih =>
      obtain ⟨j, j1, j2, e⟩ := ih
      by_cases jl : j = (cyc ps n (a : Int)).length
      · refine ⟨k + 1, by omega, by omega, ?_⟩
        show ps'.getD (it ps' a m).toNat 0 = ps.getD (it ps a k).toNat 0
        rw [e, jl, ← lst, ← ek', Int.toNat_natCast, Int.toNat_natCast, h.ea]
      · refine ⟨j + 1, by omega, by omega, ?_⟩
        show ps'.getD (it ps' a m).toNat 0 = ps.getD (it ps a j).toNat 0
        rw [e]
        have mm := it_in h.p (f := (a : Int)) (by omega) a1 j
        have gj := way_it wa j (by omega)
        refine h.other mm.1 mm.2 (fun q => ?_) (fun q => ?_)
        · have := nodup_getD wa.inn.nd (i := j) (j := 0) (by omega) (by omega) (by rw [gj, q, wa.head]); omega
        · have := nodup_getD wa.inn.nd (i := j) (j := k) (by omega) hk (by rw [gj, q, ek]); omega
  intro q
  obtain ⟨m, e⟩ := (mem_cyc h.p' (by omega) a1).1 q
  obtain ⟨j, j1, j2, e2⟩ := key m
  rw [e] at e2
  by_cases jl : j = (cyc ps n (a : Int)).length
  · rw [jl, ← lst] at e2; exact h.ne (by omega)
  · have gj := way_it wa j (by omega)
    have := nodup_getD wa.inn.nd (i := j) (j := k) (by omega) hk (by rw [gj, ← e2, ek]); omega
def cnum (ps : List Int) (n : Nat) : Nat := (cso ps n n).length
theorem Xch.plus {n a b : Nat} {ps ps' : List Int} (h : Xch n ps ps' a b) (hd : ¬ (b : Int) ∈ cyc ps n a) : cnum ps n = cnum ps' n + 1 := by
  have a1 : (a : Int) < n := by have := h.ha; omega
  have b1 : (b : Int) < n := by have := h.hb; omega
  have dis : ∀ x, x ∈ cyc ps n (a : Int) → ¬ x ∈ cyc ps n (b : Int) := fun x qa qb => hd (cyc_trans h.p (by omega) a1 qa (cyc_symm h.p (by omega) b1 qb))
  unfold cnum
  rw [cso_count h.p n (Nat.le_refl _), cso_count h.p' n (Nat.le_refl _)]
  rw [countP_part (mn ps n) (fun x => decide (x ∈ cyc ps n a)), one_least h.p (by omega) a1]
  rw [countP_part (fun x => mn ps n x && !decide (x ∈ cyc ps n (a : Int))) (fun x => decide (x ∈ cyc ps n b))]
  rw [countP_part (mn ps' n) (fun x => decide (x ∈ cyc ps' n a)), one_least h.p' (by omega) a1]
  have e1 : (rng n).countP (fun x => (mn ps n x && !decide (x ∈ cyc ps n (a : Int))) && decide (x ∈ cyc ps n (b : Int))) = 1 := by
    rw [← one_least h.p (a := (b : Int)) (by omega) b1]
    refine List.countP_congr fun x _ => ?_
    simp only [Bool.and_eq_true, Bool.not_eq_true', decide_eq_true_eq, decide_eq_false_iff_not]
    exact ⟨fun q => ⟨q.1.1, q.2⟩, fun q => ⟨⟨q.1, fun r => dis x r q.2⟩, q.2⟩⟩
  have e2 : (rng n).countP (fun x => (mn ps n x && !decide (x ∈ cyc ps n (a : Int))) && !decide (x ∈ cyc ps n (b : Int))) = (rng n).countP (fun x => mn ps' n x && !decide (x ∈ cyc ps' n (a : Int))) := by
    refine List.countP_congr fun x hx => ?_
    rw [mem_rng] at hx
    simp only [Bool.and_eq_true, Bool.not_eq_true', decide_eq_true_eq, decide_eq_false_iff_not, h.merge hd x, mn]
    constructor
    · rintro ⟨⟨q1, q2⟩, q3⟩
      exact ⟨fun y hy => q1 y ((h.away hx.1 hx.2 q2 q3 y).1 hy), fun r => r.elim q2 q3⟩
    · rintro ⟨q1, q2⟩
      have n1 : ¬ x ∈ cyc ps n (a : Int) := fun r => q2 (.inl r)
      have n2 : ¬ x ∈ cyc ps n (b : Int) := fun r => q2 (.inr r)
      exact ⟨⟨fun y hy => q1 y ((h.away hx.1 hx.2 n1 n2 y).2 hy), n1⟩, n2⟩
  rw [e1, e2]
  omega
/-- The number of cycles changes its parity. -/
theorem Xch.parity {n a b : Nat} {ps ps' : List Int} (h : Xch n ps ps' a b) : (cnum ps n + cnum ps' n) % 2 = 1 := by
  by_cases hd : (b : Int) ∈ cyc ps n a
  · have := h.symm.plus (h.split hd); omega
  · have := h.plus hd; omega
end Go.Proofs.Ytajkfkpnjbkhhaa.pm

/-
  The number of cycles of a product, modulo 2; a commutator's differs from the number of elements by an even number: plain mathematics.
-/
namespace Go.Proofs.Ytajkfkpnjbkhhaa.pm
open Go.Proofs.Ytajkfkpnjbkhhaa.arr Go.Proofs.Ytajkfkpnjbkhhaa.inv Go.Proofs.Ytajkfkpnjbkhhaa.permOf
set_option linter.unusedVariables false
set_option maxRecDepth 100000

def sg (a b i : Nat) : Nat := if i = a then b else if i = b then a else i
theorem sg_lt {n a b i : Nat} (ha : a < n) (hb : b < n) (hi : i < n) : sg a b i < n := by unfold sg; split <;> (try split) <;> omega
theorem sg_inj {a b i j : Nat} (h : sg a b i = sg a b j) : i = j := by
  unfold sg at h; split at h <;> split at h <;> (try split at h) <;> (try split at h) <;> omega
def swp (q : List Int) (a b : Nat) : List Int := (q.set a (q.getD b 0)).set b (q.getD a 0)
theorem swp_len (q : List Int) (a b : Nat) : (swp q a b).length = q.length := by simp [swp]
theorem swp_at {q : List Int} {a b i : Nat} (ha : a < q.length) (hb : b < q.length) : (swp q a b).getD i 0 = q.getD (sg a b i) 0 := by
  unfold swp sg
  rw [getD_set, getD_set]
  by_cases e2 : b = i
  · rw [if_pos ⟨e2, by simp; omega⟩]
    by_cases e1 : i = a
    · rw [if_pos e1]; congr 1; omega
    · rw [if_neg e1, if_pos e2.symm]
  · rw [if_neg (fun h => e2 h.1)]
    by_cases e1 : a = i
    · rw [if_pos ⟨e1, by omega⟩, if_pos e1.symm]
    · rw [if_neg (fun h => e1 h.1), if_neg (fun h => e1 h.symm), if_neg (fun h => e2 h.symm)]
theorem swp_ok {q : List Int} {a b : Nat} (h : Ok q) (ha : a < q.length) (hb : b < q.length) : Ok (swp q a b) := by
  refine ⟨by rw [swp_len]; exact h.len, fun i hi => ?_, fun i hi => ?_, fun i j hi hj e => ?_⟩
  · rw [swp_len] at hi; rw [swp_at ha hb]; exact h.lo _ (sg_lt ha hb hi)
  · rw [swp_len] at hi ⊢; rw [swp_at ha hb]; exact h.hi _ (sg_lt ha hb hi)
  · rw [swp_len] at hi hj
    rw [swp_at ha hb, swp_at ha hb] at e
    exact sg_inj (h.inj _ _ (sg_lt ha hb hi) (sg_lt ha hb hj) e)
theorem Ok.bij' {n : Nat} {q : List Int} (h : Ok q) (l : q.length = n) : Bij n q := by subst l; exact h.bij
theorem swp_xch {n : Nat} {q : List Int} {a b : Nat} (h : Ok q) (l : q.length = n) (ha : a < n) (hb : b < n) (ne : a ≠ b) : Xch n q (swp q a b) a b := by
  refine ⟨h.bij' l, (swp_ok h (by omega) (by omega)).bij' (by rw [swp_len]; exact l), ha, hb, ne, ?_, ?_, fun i hi h1 h2 => ?_⟩
  · rw [swp_at (by omega) (by omega)]; simp [sg]
  · rw [swp_at (by omega) (by omega)]; unfold sg; rw [if_neg (fun e => ne e.symm), if_pos rfl]
  · rw [swp_at (by omega) (by omega)]; unfold sg; rw [if_neg h1, if_neg h2]
theorem thn_xch {n : Nat} {q p : List Int} {a b : Nat} (h : Ok q) (hp : Ok p) (l : q.length = n) (lp : p.length = n) (ha : a < n) (hb : b < n) (ne : a ≠ b) : Xch n (thn q p) (thn (swp q a b) p) a b := by
  have x := swp_xch h l ha hb ne
  have ok' := swp_ok (a := a) (b := b) h (by omega) (by omega)
  have l' : (swp q a b).length = n := by rw [swp_len]; exact l
  have at1 : ∀ i, i < n → (thn q p).getD i 0 = p.getD (q.getD i 0).toNat 0 := fun i hi => thn_at (by omega)
  have at2 : ∀ i, i < n → (thn (swp q a b) p).getD i 0 = p.getD ((swp q a b).getD i 0).toNat 0 := fun i hi => thn_at (by omega)
  refine ⟨(thn_ok h hp (by omega)).bij' (by rw [thn_len]; exact l), (thn_ok ok' hp (by omega)).bij' (by rw [thn_len]; exact l'), ha, hb, ne, ?_, ?_, fun i hi h1 h2 => ?_⟩
  · rw [at2 a ha, at1 b hb, x.ea]
  · rw [at2 b hb, at1 a ha, x.eb]
  · rw [at2 i hi, at1 i hi, x.eo i hi h1 h2]
theorem rng_ok {n : Nat} (h : n ≤ 24) : Ok (rng n) := by
  refine ⟨by rw [rng_len]; exact h, fun i hi => ?_, fun i hi => ?_, fun i j hi hj e => ?_⟩
  · rw [rng_len] at hi; rw [rng_at hi]; omega
  · rw [rng_len] at hi ⊢; rw [rng_at hi]; omega
  · rw [rng_len] at hi hj; rw [rng_at hi, rng_at hj] at e; omega
theorem cnum_id {n : Nat} (h : n ≤ 24) : cnum (rng n) n = n := by
  have hb := (rng_ok h).bij' (rng_len n)
  unfold cnum
  rw [cso_count hb n (Nat.le_refl _)]
  have : (rng n).countP (mn (rng n) n) = (rng n).length := by
    rw [List.countP_eq_length]
    intro x hx
    rw [mem_rng] at hx
    unfold mn
    rw [decide_eq_true_eq]
    intro y hy
    obtain ⟨m, e⟩ := (mem_cyc hb hx.1 hx.2).1 hy
    have : ∀ m, it (rng n) x m = x := by
      intro m
      induction m with
      | zero => rfl
      | succ m ih => show (rng n).getD (it (rng n) x m).toNat 0 = x; rw [ih, rng_at (by omega)]; omega
    rw [this m] at e
    omega
  rw [this, rng_len]
theorem eq_rng {n : Nat} {q : List Int} (l : q.length = n) (h : ∀ i, i < n → q.getD i 0 = (i : Int)) : q = rng n :=
  list_eq n l (rng_len n) fun i hi => by rw [h i hi, rng_at hi]
theorem thn_rng {n : Nat} {p : List Int} (l : p.length = n) : thn (rng n) p = p :=
  list_eq n (by rw [thn_len, rng_len]) l fun i hi => by rw [thn_at (by rw [rng_len]; exact hi), rng_at hi, Int.toNat_natCast]
/-- The parity of a product. -/
theorem cnum_mul {n : Nat} {p : List Int} (hp : Ok p) (lp : p.length = n) (h24 : n ≤ 24) : ∀ (d : Nat) (q : List Int), d ≤ n → Ok q → q.length = n → (∀ i, i < n - d → q.getD i 0 = (i : Int)) → (cnum (thn q p) n + cnum q n + cnum p n + n) % 2 = 0 := by
  intro d
  induction d with
  | zero =>
    intro q _ hq lq hf
    have e := eq_rng lq (fun i hi => hf i (by omega))
    rw [e, thn_rng lp, cnum_id h24]
    omega
  | succ d ih =>
    intro q hd hq lq hf
    by_cases ha : q.getD (n - (d + 1)) 0 = ((n - (d + 1) : Nat) : Int)
    · refine ih q (by omega) hq lq fun i hi => ?_
      by_cases e : i = n - (d + 1)
      · rw [e]; exact ha
      · exact hf i (by omega)
    · obtain ⟨b, hb, eb⟩ := hq.onto (y := n - (d + 1)) (by omega)
      have hne : n - (d + 1) ≠ b := fun e => ha (by rw [← e] at eb; exact eb)
      have hlt : n - (d + 1) < b := by
        rcases Nat.lt_or_ge b (n - (d + 1)) with q1 | q1
        · have := hf b q1; omega
        · omega
      have an : n - (d + 1) < n := by omega
      have x1 := (swp_xch hq lq an (by omega) hne).parity
      have x2 := (thn_xch hq hp lq lp an (by omega) hne).parity
      have r := ih (swp q (n - (d + 1)) b) (by omega) (swp_ok hq (by omega) (by omega)) (by rw [swp_len]; exact lq) (fun i hi => by
        rw [swp_at (by omega) (by omega)]
        unfold sg
        by_cases e : i = n - (d + 1)
        · rw [if_pos e, eb, e]
        · rw [if_neg e, if_neg (by omega)]; exact hf i (by omega))
      omega
theorem cnum_then {n : Nat} {q p : List Int} (hq : Ok q) (hp : Ok p) (lq : q.length = n) (lp : p.length = n) : (cnum (thn q p) n + cnum q n + cnum p n + n) % 2 = 0 :=
  cnum_mul hp lp (by have := hp.len; omega) n q (Nat.le_refl _) hq lq (fun i hi => by omega)
theorem thn_inv {n : Nat} {q : List Int} (hq : Ok q) (lq : q.length = n) : thn q (Inv q) = rng n :=
  list_eq n (by rw [thn_len]; exact lq) (rng_len n) fun i hi => by rw [thn_at (by omega), Inv_at hq (by omega), rng_at hi]
theorem cnum_inv {n : Nat} {q : List Int} (hq : Ok q) (lq : q.length = n) : (cnum (Inv q) n + cnum q n) % 2 = 0 := by
  have h24 : n ≤ 24 := by have := hq.len; omega
  have := cnum_then hq (Inv_ok hq) lq (by rw [Inv_len]; exact lq)
  rw [thn_inv hq lq, cnum_id h24] at this
  omega
theorem cnum_le {n : Nat} {q : List Int} (hq : Ok q) (lq : q.length = n) : cnum q n ≤ n := (cso_cs (hq.bij' lq) n (Nat.le_refl _)).len
/-- A commutator. -/
def comm (R U : List Int) : List Int := thn (thn R U) (thn (Inv R) (Inv U))
theorem comm_ok {n : Nat} {R U : List Int} (r : Ok R) (u : Ok U) (lr : R.length = n) (lu : U.length = n) : Ok (comm R U) ∧ (comm R U).length = n :=
  ⟨thn_ok (thn_ok r u (by omega)) (thn_ok (Inv_ok r) (Inv_ok u) (by rw [Inv_len, Inv_len]; omega)) (by rw [thn_len, thn_len, Inv_len]), by unfold comm; rw [thn_len, thn_len]; exact lr⟩
theorem comm_even {n : Nat} {R U : List Int} (r : Ok R) (u : Ok U) (lr : R.length = n) (lu : U.length = n) : (n - cnum (comm R U) n) % 2 = 0 := by
  have a := cnum_then r u lr lu
  have b := cnum_then (Inv_ok r) (Inv_ok u) (n := n) (by rw [Inv_len]; exact lr) (by rw [Inv_len]; exact lu)
  have c := cnum_then (n := n) (thn_ok r u (by omega)) (thn_ok (Inv_ok r) (Inv_ok u) (by rw [Inv_len, Inv_len]; omega)) (by rw [thn_len]; exact lr) (by rw [thn_len, Inv_len]; exact lr)
  have d := cnum_inv r lr; have e := cnum_inv u lu
  have ok := comm_ok r u lr lu
  have f := cnum_le ok.1 ok.2
  unfold comm at f ⊢
  omega
end Go.Proofs.Ytajkfkpnjbkhhaa.pm

/-
  Corners, angles, stratum and genus: plain mathematics.
-/
namespace Go.Proofs.Ytajkfkpnjbkhhaa.pm
open Go.Proofs.Ytajkfkpnjbkhhaa.arr Go.Proofs.Ytajkfkpnjbkhhaa.inv Go.Proofs.Ytajkfkpnjbkhhaa.permOf
set_option linter.unusedVariables false
set_option maxRecDepth 100000

theorem foldmin (l : List Int) : ∀ a : Int, l.foldl min a ≤ a ∧ (∀ y ∈ l, l.foldl min a ≤ y) ∧ (l.foldl min a = a ∨ l.foldl min a ∈ l) := by
  induction l with
  | nil => intro a; exact ⟨Int.le_refl _, by simp, .inl rfl⟩
  | cons x l ih =>
    intro a
    obtain ⟨h1, h2, h3⟩ := ih (min a x)
    rw [List.foldl_cons]
    refine ⟨by omega, fun y hy => ?_, ?_⟩
    · rcases List.mem_cons.1 hy with rfl | hy
      · omega
      · exact h2 y hy
    · rcases h3 with h3 | h3
      · rw [h3]
        rcases Int.le_total a x with q | q
        · exact .inl (by omega)
        · exact .inr (List.mem_cons.2 (.inl (by omega)))
      · exact .inr (List.mem_cons.2 (.inr h3))
theorem minOf_iff {l : List Int} {x : Int} (h : x ∈ l) : Lib.minOf l = x ↔ ∀ y ∈ l, x ≤ y := by
  cases l with
  | nil => simp at h
  | cons a l =>
    obtain ⟨h1, h2, h3⟩ := foldmin l a
    have e : Lib.minOf (a :: l) = l.foldl min a := by simp [Lib.minOf]
    rw [e]
    constructor
    · rintro rfl y hy
      rcases List.mem_cons.1 hy with rfl | hy
      · exact h1
      · exact h2 y hy
    · intro q
      have a1 : l.foldl min a ≤ x := by
        rcases List.mem_cons.1 h with rfl | h
        · exact h1
        · exact h2 x h
      have a2 : x ≤ l.foldl min a := by
        rcases h3 with h3 | h3
        · rw [h3]; exact q a (List.mem_cons.2 (.inl rfl))
        · exact q _ (List.mem_cons.2 (.inr h3))
      omega
theorem mn_iff {n : Nat} {ps : List Int} (hb : Bij n ps) {f : Int} (f0 : 0 ≤ f) (f1 : f < n) : Lib.minOf (cyc ps n f) = f ↔ mn ps n f = true := by
  rw [minOf_iff (cyc_self hb f0 f1)]; simp [mn]
theorem in_cso_iff {n k : Nat} {ps : List Int} (hb : Bij n ps) (hk : k < n) : (k : Int) ∈ (cso ps n k).flatten ↔ mn ps n (k : Int) = false := by
  rw [mem_cso hb k (by omega)]
  unfold mn
  rw [decide_eq_false_iff_not]
  constructor
  · rintro ⟨j, hj, q⟩ h
    have := h _ (cyc_symm hb (by omega) (by omega) q)
    omega
  · intro h
    have : ∃ y, y ∈ cyc ps n (k : Int) ∧ y < (k : Int) := by
      rcases Classical.em (∃ y, y ∈ cyc ps n (k : Int) ∧ y < (k : Int)) with q | q
      · exact q
      · exact absurd (fun y hy => Int.not_lt.1 (fun hlt => q ⟨y, hy, hlt⟩)) h
    obtain ⟨y, hy, hlt⟩ := this
    have hw := cyc_way (f := (k : Int)) hb (by omega) (by omega)
    have y0 := hw.inn.lo y hy
    exact ⟨y.toNat, by omega, by rw [Int.toNat_of_nonneg y0]; exact cyc_symm hb (by omega) (by omega) hy⟩
/-- The next cycle: that of k, if k is the least of it. -/
theorem cso_yes {n k : Nat} {ps : List Int} (hb : Bij n ps) (hk : k < n) (h : Lib.minOf (cyc ps n (k : Int)) = (k : Int)) : cso ps n (k + 1) = cso ps n k ++ [cyc ps n (k : Int)] := by
  have q := (mn_iff hb (by omega) (by omega)).1 h
  rw [cso, if_neg (fun e => by rw [(in_cso_iff hb hk).1 e] at q; cases q)]
theorem cso_no {n k : Nat} {ps : List Int} (hb : Bij n ps) (hk : k < n) (h : Lib.minOf (cyc ps n (k : Int)) ≠ (k : Int)) : cso ps n (k + 1) = cso ps n k := by
  rw [cso, if_pos]
  rw [in_cso_iff hb hk]
  cases q : mn ps n (k : Int) with
  | false => rfl
  | true => exact absurd ((mn_iff hb (by omega) (by omega)).2 q) h

theorem ok_ext {xs : List Int} (h : Ok xs) : Ok (ext xs) := by
  have hl := h.len
  refine ⟨by rw [ext_len]; omega, fun i hi => h.sq.lo i (by rwa [ext_len] at hi), fun i hi => by rw [ext_len] at *; exact h.sq.hi i hi, fun i j hi hj e => ?_⟩
  rw [ext_len] at hi hj
  rw [ext_at hi, ext_at hj] at e
  split at e <;> split at e
  · exact h.inj i j (by assumption) (by assumption) e
  · have := h.hi i (by assumption); omega
  · have := h.hi j (by assumption); omega
  · omega
theorem thn_ext {xs ys : List Int} (h : Ok xs) (h' : Ok ys) (e : xs.length = ys.length) : thenL (ext xs) (ext ys) = ext (thn xs ys) := by
  have hl := h.len
  refine list_eq 24 (by unfold thenL; exact tab_len _) (ext_len _) fun i hi => ?_
  rw [thenL_at _ _ hi, ext_at hi, ext_at hi, thn_len]
  by_cases q : i < xs.length
  · have a := h.lo i q; have b := h.hi i q
    rw [if_pos q, if_pos q, thn_at q, ext_at (by omega), if_pos (by omega)]
  · rw [if_neg q, if_neg q, Int.toNat_natCast, ext_at hi, if_neg (by omega)]
theorem inv_ext {xs : List Int} (h : Ok xs) : invTo 24 (ext xs) 24 = ext (Inv xs) := by
  have hl := h.len
  refine list_eq 24 (invTo_len _ _ _) (ext_len _) fun i hi => ?_
  rw [ext_at hi, Inv_len]
  by_cases q : i < xs.length
  · rw [if_pos q]
    obtain ⟨k, hk, e1, e2⟩ := at_Inv h q
    have a := inv_at (ok_ext h) (k := k) (by rw [ext_len]; omega)
    rw [ext_at (by omega), if_pos hk, e2, ext_len, Int.toNat_natCast] at a
    rw [a, e1]
  · rw [if_neg q]
    have a := inv_at (ok_ext h) (k := i) (by rw [ext_len]; omega)
    rw [ext_at hi, if_neg q, ext_len, Int.toNat_natCast] at a
    exact a
/-- The round as the program reckons it, among 24. -/
def ar24 (p q : List Int) : List Int := thenL (thenL (thenL p q) (invTo 24 p 24)) (invTo 24 q 24)
theorem ar24_len (p q : List Int) : (ar24 p q).length = 24 := by unfold ar24 thenL; exact tab_len _
section
variable {n : Nat} {R U : List Int} (s : Sf n R U)
include s
theorem Sf.small : n ≤ 24 := by have := s.r.len; have := s.lr; omega
theorem Sf.comm : Ok (comm R U) ∧ (comm R U).length = n := comm_ok s.r s.u s.lr s.lu
theorem Sf.commB : Bij n (pm.comm R U) := s.comm.1.bij' s.comm.2
theorem ar24_ext : ar24 (ext R) (ext U) = ext (comm R U) := by
  have l1 : R.length = U.length := by rw [s.lr, s.lu]
  have o1 := thn_ok s.r s.u l1
  have l2 : (thn R U).length = (Inv R).length := by rw [thn_len, Inv_len]
  have o2 := thn_ok o1 (Inv_ok s.r) l2
  have l3 : (thn (thn R U) (Inv R)).length = (Inv U).length := by rw [thn_len, thn_len, Inv_len, l1]
  unfold ar24
  rw [thn_ext s.r s.u l1, inv_ext s.r, inv_ext s.u, thn_ext o1 (Inv_ok s.r) l2, thn_ext o2 (Inv_ok s.u) l3, thn_assoc o1 l2]
  rfl
end
theorem take_ext (xs : List Int) (h : xs.length ≤ 24) : (ext xs).take xs.length = xs := by
  refine list_eq xs.length (by simp [ext_len]; omega) rfl fun i hi => ?_
  have e : (ext xs).getD i 0 = xs.getD i 0 := by rw [ext_at (by omega), if_pos hi]
  rw [← e]
  simp [List.getD, hi]

/-- The round, the corners, the angles, the stratum, the genus, whether a corner is regular. -/
def arF (r u : List Int) : List Int := if transB r u then comm r u else []
def corF (r u : List Int) : List (List Int) := if transB r u then cso (comm r u) r.length r.length else []
def angF (r u : List Int) : List Int := sortD ((corF r u).map fun xs => (xs.length : Int))
def strL (l : List Int) : List Int := (l.filter fun a => decide (1 < a)).map fun a => a - 1
def strF (r u : List Int) : List Int := strL (angF r u)
def genF (r u : List Int) : Int := if transB r u then 1 + ((r.length : Int) - (corF r u).length) / 2 else -1
def regF (r u : List Int) (a : Int) : Bool := transB r u && (decide (0 ≤ a) && (decide (a < r.length) && decide ((comm r u).getD a.toNat 0 = a)))
theorem arF_yes {r u : List Int} (h : transB r u = true) : arF r u = comm r u := by simp [arF, h]
theorem arF_no {r u : List Int} (h : transB r u = false) : arF r u = [] := by simp [arF, h]
theorem corF_yes {r u : List Int} (h : transB r u = true) : corF r u = cso (comm r u) r.length r.length := by simp [corF, h]
theorem corF_no {r u : List Int} (h : transB r u = false) : corF r u = [] := by simp [corF, h]
theorem corF_cyc {r u : List Int} (h : transB r u = true) : corF r u = cycF (comm r u) := by
  have s := transB_iff.1 h
  rw [corF_yes h, cycF, s.comm.1.b, if_pos rfl, s.comm.2]
theorem arF_len (r u : List Int) : (arF r u).length ≤ 1048576 := by
  unfold arF; split
  · rename_i h
    have s := transB_iff.1 h
    have := s.comm.2; have := s.small; omega
  · simp
theorem corF_small (r u : List Int) : (corF r u).length ≤ 24 ∧ ((corF r u).map List.length).sum ≤ 24 := by
  cases h : transB r u with
  | false => rw [corF_no h]; simp
  | true =>
    have s := transB_iff.1 h
    have hc := cso_cs s.commB r.length (Nat.le_refl _)
    have h1 := cso_len s.commB
    have := s.small; have := hc.len
    rw [corF_yes h]
    omega
theorem angF_len (r u : List Int) : (angF r u).length ≤ 1048576 := by
  have := (corF_small r u).1
  simp [angF, sortD_len]; omega
theorem strL_len (l : List Int) : (strL l).length ≤ l.length := by
  unfold strL; rw [List.length_map]; exact List.length_filter_le _ _
theorem strF_len (r u : List Int) : (strF r u).length ≤ 1048576 := Nat.le_trans (strL_len _) (angF_len r u)
theorem strL_snoc (l : List Int) (a : Int) : strL (l ++ [a]) = if 1 < a then strL l ++ [a - 1] else strL l := by
  unfold strL
  rw [List.filter_append, List.map_append]
  by_cases h : 1 < a <;> simp [h]
end Go.Proofs.Ytajkfkpnjbkhhaa.pm
