import Derived.Test.YtpmojmhamgcfmaaGreatY02
/-
  What the functions on permutations answer, as functions on lists.
-/
namespace Go.Proofs.YtpmojmhamgcfmaaGreat.pm
open Go.Proofs.YtpmojmhamgcfmaaGreat.arr Go.Proofs.YtpmojmhamgcfmaaGreat.inv Go.Proofs.YtpmojmhamgcfmaaGreat.permOf
set_option linter.unusedVariables false
set_option maxRecDepth 100000

theorem Ok.sq {xs : List Int} (h : Ok xs) : Sq (ext xs) := by
  refine ⟨ext_len xs, fun i hi => ?_, fun i hi => ?_⟩
  · rw [ext_at hi]; split
    · exact h.lo i (by assumption)
    · omega
  · rw [ext_at hi]; split
    · have := h.hi i (by assumption); have := h.len; omega
    · omega
theorem idl_sq : Sq idl := by
  refine ⟨tab_len _, fun i hi => ?_, fun i hi => ?_⟩ <;> (unfold idl; rw [tab_get _ hi]; omega)
theorem getD_set {l : List Int} {i k : Nat} {z : Int} : (l.set k z).getD i 0 = if k = i ∧ i < l.length then z else l.getD i 0 := by
  simp only [List.getD, List.getElem?_set]
  by_cases e : k = i
  · subst e
    by_cases h : k < l.length
    · simp [h]
    · simp [h]
  · simp [e]
theorem invTo_range (n : Nat) (qs : List Int) (k : Nat) (hk : k ≤ 24) (i : Nat) : 0 ≤ (invTo n qs k).getD i 0 ∧ (invTo n qs k).getD i 0 < 24 := by
  induction k with
  | zero =>
    simp only [invTo, List.getD, List.getElem?_replicate]
    split <;> simp
  | succ k ih =>
    have := ih (by omega)
    rw [invTo, getD_set]
    split
    · omega
    · exact this
theorem inv_sq (qs : List Int) : Sq (invTo 24 qs 24) :=
  ⟨invTo_len _ _ _, fun i _ => (invTo_range 24 qs 24 (Nat.le_refl _) i).1, fun i _ => (invTo_range 24 qs 24 (Nat.le_refl _) i).2⟩
theorem then_sq {ps qs : List Int} (hp : Sq ps) (hq : Sq qs) : Sq (thenL ps qs) := by
  refine ⟨tab_len _, fun i hi => ?_, fun i hi => ?_⟩
  · unfold thenL; rw [tab_get _ hi]
    exact hq.lo _ (by have := hp.lo i hi; have := hp.hi i hi; omega)
  · unfold thenL; rw [tab_get _ hi]
    exact hq.hi _ (by have := hp.lo i hi; have := hp.hi i hi; omega)

theorem list_eq {l m : List Int} (n : Nat) (h1 : l.length = n) (h2 : m.length = n) (h : ∀ i, i < n → l.getD i 0 = m.getD i 0) : l = m := by
  refine List.ext_getElem? fun i => ?_
  by_cases hi : i < n
  · have := h i hi
    rw [List.getD, List.getD, List.getElem?_eq_getElem (by omega), List.getElem?_eq_getElem (by omega)] at this
    rw [List.getElem?_eq_getElem (by omega), List.getElem?_eq_getElem (by omega)]
    simpa using this
  · rw [List.getElem?_eq_none (by omega), List.getElem?_eq_none (by omega)]
theorem getD_take {l : List Int} {n i : Nat} (h : i < n) : (l.take n).getD i 0 = l.getD i 0 := by
  simp [List.getD, h]

def invF (xs : List Int) : List Int := if okB xs then invTo xs.length xs xs.length else []
theorem invF_len (xs : List Int) : (invF xs).length ≤ 1048576 := by
  unfold invF; split
  · rename_i h; rw [invTo_len]; have := (Ok.of xs h).len; omega
  · simp
theorem take_inv {xs : List Int} (h : Ok xs) : (invTo 24 (ext xs) 24).take xs.length = invTo xs.length xs xs.length := by
  have hl := h.len
  have A : ∀ k, k ≤ xs.length → (invTo 24 (ext xs) k).take xs.length = invTo xs.length xs k := by
    intro k
    induction k with
    | zero => intro _; rw [invTo, invTo, List.take_replicate, Nat.min_eq_left hl]
    | succ k ih =>
      intro hk
      have e : (ext xs).getD k 0 = xs.getD k 0 := by rw [ext_at (by omega), if_pos (by omega)]
      rw [invTo, invTo, e, List.take_set, ih (by omega)]
  have B : ∀ k, xs.length ≤ k → k ≤ 24 → (invTo 24 (ext xs) k).take xs.length = invTo xs.length xs xs.length := by
    intro k hk
    induction k with
    | zero =>
      intro _
      have e : xs.length = 0 := by omega
      rw [A 0 (Nat.zero_le _), e]
    | succ k ih =>
      intro h24
      by_cases e : xs.length = k + 1
      · rw [← e]; exact A _ (Nat.le_refl _)
      · have hk' : xs.length ≤ k := by omega
        have ee : (ext xs).getD k 0 = (k : Int) := by rw [ext_at (by omega), if_neg (by omega)]
        rw [invTo, ee, Int.toNat_natCast, List.take_set_of_le hk', ih hk' (by omega)]
  exact B 24 hl (Nat.le_refl _)

def thn (xs ys : List Int) : List Int := xs.map fun x => ys.getD x.toNat 0
def thenF (xs ys : List Int) : List Int := if okBB xs ys then thn xs ys else []
theorem okBB_iff {xs ys : List Int} : okBB xs ys = true ↔ okB xs = true ∧ okB ys = true ∧ xs.length = ys.length := by
  simp [okBB, and_assoc]
theorem thenF_len (xs ys : List Int) : (thenF xs ys).length ≤ 1048576 := by
  unfold thenF; split
  · rename_i h; have := (Ok.of xs (okBB_iff.1 h).1).len; simp [thn]; omega
  · simp
theorem take_then {xs ys : List Int} (h : Ok xs) (h' : Ok ys) (e : xs.length = ys.length) : (thenL (ext xs) (ext ys)).take xs.length = thn xs ys := by
  have hl := h.len
  refine list_eq xs.length (by simp [thenL, tab_len]; omega) (by simp [thn]) fun i hi => ?_
  rw [getD_take hi]
  unfold thenL
  rw [tab_get _ (by omega), ext_at (xs := xs) (i := i) (by omega), if_pos hi]
  have h1 := h.lo i hi; have h2 := h.hi i hi
  rw [ext_at (by omega), if_pos (by omega)]
  simp [thn, List.getD, List.getElem?_eq_getElem hi]

def idF (a : Int) : List Int := if 0 ≤ a ∧ a ≤ 24 then (List.range a.toNat).map (fun (i : Nat) => (i : Int)) else []
theorem idF_len (a : Int) : (idF a).length ≤ 1048576 := by
  unfold idF; split
  · simp; omega
  · simp
theorem take_id {n : Nat} (h : n ≤ 24) : idl.take n = (List.range n).map (fun (i : Nat) => (i : Int)) := by
  refine list_eq n (by simp [idl, tab_len]; omega) (by simp) fun i hi => ?_
  rw [getD_take hi]
  unfold idl
  rw [tab_get _ (by omega)]
  simp [List.getD, hi]
end Go.Proofs.YtpmojmhamgcfmaaGreat.pm

/-
  More on permutations as lists: each number is met; renaming.
-/
namespace Go.Proofs.YtpmojmhamgcfmaaGreat.pm
open Go.Proofs.YtpmojmhamgcfmaaGreat.arr Go.Proofs.YtpmojmhamgcfmaaGreat.inv Go.Proofs.YtpmojmhamgcfmaaGreat.permOf
set_option linter.unusedVariables false
set_option maxRecDepth 100000

theorem nodup_le : ∀ (n : Nat) (l : List Nat), l.Nodup → (∀ x ∈ l, x < n) → l.length ≤ n := by
  intro n
  induction n with
  | zero =>
    intro l _ h
    cases l with
    | nil => simp
    | cons a t => have := h a (by simp); omega
  | succ n ih =>
    intro l hd h
    by_cases hm : n ∈ l
    · have h1 := ih (l.erase n) (hd.erase n) (fun x hx => by
        have h2 := (List.Nodup.mem_erase_iff hd).1 hx
        have := h x h2.2
        have := h2.1
        omega)
      rw [List.length_erase_of_mem hm] at h1
      omega
    · have h1 := ih l hd (fun x hx => by
        have := h x hx
        have : x ≠ n := fun e => hm (e ▸ hx)
        omega)
      omega
theorem onto_of_inj (n : Nat) (f : Nat → Nat) (h1 : ∀ i, i < n → f i < n) (h2 : ∀ i j, i < n → j < n → f i = f j → i = j) (y : Nat) (hy : y < n) : ∃ k, k < n ∧ f k = y := by
  by_cases h : ∃ k, k < n ∧ f k = y
  · exact h
  · exfalso
    have hn : ((List.range n).map f).Nodup := by
      unfold List.Nodup
      rw [List.pairwise_map]
      refine List.Pairwise.imp_of_mem ?_ (List.pairwise_lt_range (n := n))
      intro a b ha hb hab e
      simp at ha hb
      have := h2 a b ha hb e
      omega
    have hy' : ¬ y ∈ (List.range n).map f := by
      intro hm
      obtain ⟨k, hk, e⟩ := List.mem_map.1 hm
      simp at hk
      exact h ⟨k, hk, e⟩
    have := nodup_le n (y :: (List.range n).map f) (List.nodup_cons.2 ⟨hy', hn⟩) (by
      intro x hx
      rcases List.mem_cons.1 hx with rfl | hx
      · exact hy
      · obtain ⟨k, hk, rfl⟩ := List.mem_map.1 hx
        simp at hk
        exact h1 k hk)
    simp at this
    omega
theorem Ok.onto {ys : List Int} (h : Ok ys) {y : Nat} (hy : y < ys.length) : ∃ k, k < ys.length ∧ ys.getD k 0 = (y : Int) := by
  obtain ⟨k, hk, e⟩ := onto_of_inj ys.length (fun i => (ys.getD i 0).toNat) (fun i hi => by have := h.lo i hi; have := h.hi i hi; omega) (fun i j hi hj e => h.inj i j hi hj (by have := h.lo i hi; have := h.lo j hj; omega)) y hy
  exact ⟨k, hk, by have := h.lo k hk; omega⟩

/-- n cells; cell f j gets g j, for j up to k. -/
def setTo (n : Nat) (f : Nat → Nat) (g : Nat → Int) : Nat → List Int
  | 0 => List.replicate n 0
  | k + 1 => (setTo n f g k).set (f k) (g k)
theorem setTo_len (n : Nat) (f : Nat → Nat) (g : Nat → Int) (k : Nat) : (setTo n f g k).length = n := by
  induction k with
  | zero => simp [setTo]
  | succ k ih => simp [setTo, ih]
theorem setTo_at (n : Nat) (f : Nat → Nat) (g : Nat → Int) (k : Nat) (hf : ∀ i j, i < k → j < k → f i = f j → i = j) (hl : ∀ i, i < k → f i < n) {j : Nat} (hj : j < k) : (setTo n f g k).getD (f j) 0 = g j := by
  induction k with
  | zero => omega
  | succ k ih =>
    rw [setTo, getD_set]
    by_cases e : j = k
    · subst e; rw [if_pos ⟨rfl, by rw [setTo_len]; exact hl j (by omega)⟩]
    · rw [if_neg (fun h => e (hf j k (by omega) (by omega) h.1.symm)), ih (fun i j hi hj => hf i j (by omega) (by omega)) (fun i hi => hl i (by omega)) (by omega)]
theorem invTo_eq (n : Nat) (qs : List Int) (k : Nat) : invTo n qs k = setTo n (fun j => (qs.getD j 0).toNat) (fun j => (j : Int)) k := by
  induction k with
  | zero => rfl
  | succ k ih => rw [invTo, setTo, ih]
theorem Ok.injN {ys : List Int} (h : Ok ys) : ∀ i j, i < ys.length → j < ys.length → (ys.getD i 0).toNat = (ys.getD j 0).toNat → i = j :=
  fun i j hi hj e => h.inj i j hi hj (by have := h.lo i hi; have := h.lo j hj; omega)
theorem Ok.ltN {ys : List Int} (h : Ok ys) : ∀ i, i < ys.length → (ys.getD i 0).toNat < ys.length :=
  fun i hi => by have := h.lo i hi; have := h.hi i hi; omega
theorem inv_at {ys : List Int} (h : Ok ys) {k : Nat} (hk : k < ys.length) : (invTo ys.length ys ys.length).getD (ys.getD k 0).toNat 0 = (k : Int) := by
  rw [invTo_eq, setTo_at _ _ _ _ h.injN h.ltN hk]
def renTo (n : Nat) (xs ys : List Int) (k : Nat) : List Int := setTo n (fun j => (ys.getD j 0).toNat) (fun j => ys.getD (xs.getD j 0).toNat 0) k
theorem renTo_len (n : Nat) (xs ys : List Int) (k : Nat) : (renTo n xs ys k).length = n := setTo_len _ _ _ _
theorem renTo_succ (n : Nat) (xs ys : List Int) (k : Nat) : renTo n xs ys (k + 1) = (renTo n xs ys k).set (ys.getD k 0).toNat (ys.getD (xs.getD k 0).toNat 0) := rfl
def renF (xs ys : List Int) : List Int := if okBB xs ys then renTo xs.length xs ys xs.length else []
theorem renF_len (xs ys : List Int) : (renF xs ys).length ≤ 1048576 := by
  unfold renF; split
  · rename_i h; have := (Ok.of xs (okBB_iff.1 h).1).len; rw [renTo_len]; omega
  · simp
theorem ren_at {xs ys : List Int} (h' : Ok ys) (e : xs.length = ys.length) {k : Nat} (hk : k < xs.length) : (renTo xs.length xs ys xs.length).getD (ys.getD k 0).toNat 0 = ys.getD (xs.getD k 0).toNat 0 := by
  unfold renTo
  rw [e]
  exact setTo_at _ _ _ _ h'.injN h'.ltN (by omega)
theorem thenL_at (ps qs : List Int) {i : Nat} (h : i < 24) : (thenL ps qs).getD i 0 = qs.getD (ps.getD i 0).toNat 0 := by
  unfold thenL; rw [tab_get _ h]
theorem take_ren {xs ys : List Int} (h : Ok xs) (h' : Ok ys) (e : xs.length = ys.length) : (thenL (thenL (invTo 24 (ext ys) 24) (ext xs)) (ext ys)).take xs.length = renTo xs.length xs ys xs.length := by
  have hl := h.len
  refine list_eq xs.length (by simp [thenL, tab_len]; omega) (renTo_len _ _ _ _) fun i hi => ?_
  obtain ⟨k, hk, ek⟩ := h'.onto (y := i) (by omega)
  have e1 : (invTo 24 (ext ys) 24).getD i 0 = (k : Int) := by
    rw [← getD_take (n := ys.length) (by omega), take_inv h']
    have := inv_at h' hk
    rw [ek] at this
    simpa using this
  rw [getD_take hi, thenL_at _ _ (by omega), thenL_at _ _ (by omega), e1, Int.toNat_natCast]
  have h1 := h.lo k (by omega); have h2 := h.hi k (by omega)
  rw [ext_at (xs := xs) (i := k) (by omega), if_pos (by omega), ext_at (by omega), if_pos (by omega)]
  have := ren_at (xs := xs) h' e (k := k) (by omega)
  rw [ek] at this
  simpa using this.symm
end Go.Proofs.YtpmojmhamgcfmaaGreat.pm

/-
  The elements that two permutations reach from one, in the order in which they are met.
-/
namespace Go.Proofs.YtpmojmhamgcfmaaGreat.pm
open Go.Proofs.YtpmojmhamgcfmaaGreat.arr Go.Proofs.YtpmojmhamgcfmaaGreat.inv Go.Proofs.YtpmojmhamgcfmaaGreat.permOf
set_option linter.unusedVariables false
set_option maxRecDepth 100000

def add1 (l : List Int) (x : Int) : List Int := if x ∈ l then l else l ++ [x]
def rnd (ps qs l : List Int) (k : Nat) : List Int := if k < l.length then add1 (add1 l (ps.getD (l.getD k 0).toNat 0)) (qs.getD (l.getD k 0).toNat 0) else l
def rs (ps qs : List Int) (f : Int) : Nat → List Int
  | 0 => [f]
  | k + 1 => rnd ps qs (rs ps qs f k) k
/-- Different numbers from 0 up to n. -/
structure In (n : Nat) (l : List Int) : Prop where
  nd : l.Nodup
  lo : ∀ x ∈ l, 0 ≤ x
  hi : ∀ x ∈ l, x < n
theorem In.len {n : Nat} {l : List Int} (h : In n l) : l.length ≤ n := by
  have := nodup_le n (l.map Int.toNat) (by
    unfold List.Nodup
    rw [List.pairwise_map]
    refine List.Pairwise.imp_of_mem ?_ h.nd
    intro a b ha hb hab e
    have := h.lo a ha; have := h.lo b hb
    exact hab (by omega)) (by
    intro x hx
    obtain ⟨y, hy, rfl⟩ := List.mem_map.1 hx
    have := h.lo y hy; have := h.hi y hy
    omega)
  simpa using this
theorem In.add {n : Nat} {l : List Int} (h : In n l) {x : Int} (h0 : 0 ≤ x) (h1 : x < n) : In n (add1 l x) := by
  unfold add1
  split
  · exact h
  · rename_i hx
    refine ⟨?_, fun y hy => ?_, fun y hy => ?_⟩
    · rw [List.nodup_append]
      exact ⟨h.nd, by simp, fun a ha b hb e => by simp at hb; subst hb; exact hx (e ▸ ha)⟩
    · rcases List.mem_append.1 hy with hy | hy
      · exact h.lo y hy
      · simp at hy; subst hy; exact h0
    · rcases List.mem_append.1 hy with hy | hy
      · exact h.hi y hy
      · simp at hy; subst hy; exact h1
theorem add1_le (l : List Int) (x : Int) : l.length ≤ (add1 l x).length := by unfold add1; split <;> simp
/-- Numbers from 0 up to n go to such numbers. -/
def Maps (n : Nat) (ps : List Int) : Prop := ∀ i, i < n → 0 ≤ ps.getD i 0 ∧ ps.getD i 0 < n
theorem Ok.maps {xs : List Int} (h : Ok xs) : Maps xs.length xs := fun i hi => ⟨h.lo i hi, h.hi i hi⟩
theorem Sq.maps {xs : List Int} (h : Sq xs) : Maps 24 xs := fun i hi => ⟨h.lo i hi, h.hi i hi⟩
theorem In.at_ {n : Nat} {l : List Int} (h : In n l) {k : Nat} (hk : k < l.length) : ∃ z : Nat, z < n ∧ l[k]? = some (z : Int) ∧ l.getD k 0 = (z : Int) := by
  have hm : l[k] ∈ l := List.getElem_mem hk
  have h1 := h.lo _ hm; have h2 := h.hi _ hm
  refine ⟨l[k].toNat, by omega, ?_, ?_⟩
  · rw [List.getElem?_eq_getElem hk]; congr 1; omega
  · simp [List.getD, List.getElem?_eq_getElem hk]; omega
theorem In.rnd {n : Nat} {l ps qs : List Int} (h : In n l) (hp : Maps n ps) (hq : Maps n qs) (k : Nat) : In n (rnd ps qs l k) := by
  unfold pm.rnd
  split
  · rename_i hk
    obtain ⟨z, hz, _, e⟩ := h.at_ hk
    rw [e, Int.toNat_natCast]
    exact (h.add (hp z hz).1 (hp z hz).2).add (hq z hz).1 (hq z hz).2
  · exact h
theorem rs_in {n : Nat} {ps qs : List Int} (hp : Maps n ps) (hq : Maps n qs) {f : Int} (h0 : 0 ≤ f) (h1 : f < n) (k : Nat) : In n (rs ps qs f k) := by
  induction k with
  | zero => exact ⟨by simp [rs], fun x hx => by simp [rs] at hx; omega, fun x hx => by simp [rs] at hx; omega⟩
  | succ k ih => exact ih.rnd hp hq k
theorem rs_stay (ps qs : List Int) (f : Int) {k : Nat} (h : (rs ps qs f k).length ≤ k) (j : Nat) : rs ps qs f (k + j) = rs ps qs f k := by
  induction j with
  | zero => rfl
  | succ j ih =>
    show pm.rnd ps qs (rs ps qs f (k + j)) (k + j) = _
    rw [ih]
    unfold pm.rnd
    rw [if_neg (by omega)]
theorem rs_stop (ps qs : List Int) (f : Int) {k m : Nat} (h : (rs ps qs f k).length ≤ k) (hm : k ≤ m) : rs ps qs f m = rs ps qs f k := by
  obtain ⟨j, rfl⟩ : ∃ j, m = k + j := ⟨m - k, by omega⟩
  exact rs_stay ps qs f h j
theorem rs_step (ps qs : List Int) (f : Int) {k z : Nat} (h : k < (rs ps qs f k).length) (hz : (rs ps qs f k).getD k 0 = (z : Int)) : rs ps qs f (k + 1) = add1 (add1 (rs ps qs f k) (ps.getD z 0)) (qs.getD z 0) := by
  show pm.rnd ps qs (rs ps qs f k) k = _
  unfold pm.rnd
  rw [if_pos h, hz, Int.toNat_natCast]
theorem rs_le (ps qs : List Int) (f : Int) {k : Nat} (h : k < (rs ps qs f k).length) : k + 1 ≤ (rs ps qs f (k + 1)).length := by
  show _ ≤ (pm.rnd ps qs (rs ps qs f k) k).length
  unfold pm.rnd
  rw [if_pos h]
  exact Nat.le_trans h (Nat.le_trans (add1_le _ _) (add1_le _ _))
theorem rs_congr {n : Nat} {ps qs ps' qs' : List Int} (hp : Maps n ps) (hq : Maps n qs) (h1 : ∀ i, i < n → ps'.getD i 0 = ps.getD i 0) (h2 : ∀ i, i < n → qs'.getD i 0 = qs.getD i 0) {f : Int} (hf0 : 0 ≤ f) (hf1 : f < n) (k : Nat) : rs ps' qs' f k = rs ps qs f k := by
  induction k with
  | zero => rfl
  | succ k ih =>
    show pm.rnd ps' qs' (rs ps' qs' f k) k = pm.rnd ps qs (rs ps qs f k) k
    rw [ih]
    unfold pm.rnd
    split
    · rename_i hk
      obtain ⟨z, hz, _, e⟩ := (rs_in hp hq hf0 hf1 k).at_ hk
      rw [e, Int.toNat_natCast, h1 z hz, h2 z hz]
    · rfl
/-- All that are reached. -/
def reach (ps qs : List Int) (f : Int) : List Int := rs ps qs f ps.length
theorem reach_of {ps qs : List Int} {n : Nat} (hn : ps.length = n) {f : Int} {k : Nat} (hk : k ≤ n) (h : (rs ps qs f k).length ≤ k) : rs ps qs f k = reach ps qs f := by
  unfold reach; rw [hn]; exact (rs_stop ps qs f h hk).symm
theorem reach_ext {xs ys : List Int} (h : Ok xs) (h' : Ok ys) (e : xs.length = ys.length) {f : Int} (hf0 : 0 ≤ f) (hf1 : f < xs.length) : reach (ext xs) (ext ys) f = reach xs ys f := by
  have hl := h.len
  have hy : Maps xs.length ys := by rw [e]; exact h'.maps
  unfold reach
  rw [ext_len, rs_congr (ps' := ext xs) (qs' := ext ys) h.maps hy (fun i hi => by rw [ext_at (by omega), if_pos hi]) (fun i hi => by rw [ext_at (by omega), if_pos (by omega)]) hf0 hf1]
  exact rs_stop _ _ _ ((rs_in h.maps hy hf0 hf1 _).len) hl
def transB (xs ys : List Int) : Bool := okBB xs ys && decide (0 < xs.length) && decide ((reach xs ys 0).length = xs.length)

def flagsOf (l : List Int) : List Bool := tabB fun j => decide ((j : Int) ∈ l)
theorem flagsOf_add {l : List Int} {z : Nat} (hz : ¬ (z : Int) ∈ l) : (flagsOf l).set z true = flagsOf (add1 l (z : Int)) := by
  refine tabB_set _ _ fun j hj => ?_
  unfold add1
  rw [if_neg hz]
  by_cases hjz : j = z
  · subst hjz; simp
  · have : ¬ ((j : Int) = (z : Int)) := by omega
    simp [hjz, this]
end Go.Proofs.YtpmojmhamgcfmaaGreat.pm

/-
  The cycles of a permutation: plain mathematics.
-/
namespace Go.Proofs.YtpmojmhamgcfmaaGreat.pm
open Go.Proofs.YtpmojmhamgcfmaaGreat.arr Go.Proofs.YtpmojmhamgcfmaaGreat.inv Go.Proofs.YtpmojmhamgcfmaaGreat.permOf
set_option linter.unusedVariables false
set_option maxRecDepth 100000

/-- From x on, until f comes again, at most m steps. -/
def cy (ps : List Int) (f : Int) : Nat → Int → List Int → List Int
  | 0, _, acc => acc
  | m + 1, x, acc => if x = f then acc else cy ps f m (ps.getD x.toNat 0) (acc ++ [x])
def cyc (ps : List Int) (n : Nat) (f : Int) : List Int := cy ps f n (ps.getD f.toNat 0) [f]
/-- Numbers from 0 up to n go to such numbers, different ones to different ones. -/
structure Bij (n : Nat) (ps : List Int) : Prop where
  maps : Maps n ps
  inj : ∀ i j : Nat, i < n → j < n → ps.getD i 0 = ps.getD j 0 → i = j
theorem Ok.bij {xs : List Int} (h : Ok xs) : Bij xs.length xs := ⟨h.maps, h.inj⟩
theorem Ok.bijExt {xs : List Int} (h : Ok xs) : Bij xs.length (ext xs) := by
  have hl := h.len
  have e : ∀ i, i < xs.length → (ext xs).getD i 0 = xs.getD i 0 := fun i hi => by rw [ext_at (by omega), if_pos hi]
  refine ⟨fun i hi => by rw [e i hi]; exact h.maps i hi, fun i j hi hj q => ?_⟩
  rw [e i hi, e j hj] at q
  exact h.inj i j hi hj q
/-- acc is a way of p from f on, and x follows. -/
structure Way (n : Nat) (ps : List Int) (f x : Int) (acc : List Int) : Prop where
  head : acc.getD 0 0 = f
  pos : 0 < acc.length
  step : ∀ i, i + 1 < acc.length → acc.getD (i + 1) 0 = ps.getD (acc.getD i 0).toNat 0
  last : x = ps.getD (acc.getD (acc.length - 1) 0).toNat 0
  inn : In n acc
theorem getD_mem {l : List Int} {i : Nat} (h : i < l.length) : l.getD i 0 ∈ l := by
  simp [List.getD, List.getElem?_eq_getElem h]
theorem mem_getD {l : List Int} {x : Int} (h : x ∈ l) : ∃ i, i < l.length ∧ l.getD i 0 = x := by
  obtain ⟨i, hi, e⟩ := List.getElem_of_mem h
  exact ⟨i, hi, by simp [List.getD, List.getElem?_eq_getElem hi, e]⟩
theorem nodup_getD {l : List Int} (h : l.Nodup) {i j : Nat} (hi : i < l.length) (hj : j < l.length) (e : l.getD i 0 = l.getD j 0) : i = j := by
  simp only [List.getD, List.getElem?_eq_getElem hi, List.getElem?_eq_getElem hj, Option.getD_some] at e
  have hp := List.pairwise_iff_getElem.1 h
  rcases Nat.lt_trichotomy i j with q | q | q
  · exact absurd e (hp i j hi hj q)
  · exact q
  · exact absurd e.symm (hp j i hj hi q)
theorem getD_snoc {l : List Int} {x : Int} {i : Nat} : (l ++ [x]).getD i 0 = if i < l.length then l.getD i 0 else if i = l.length then x else 0 := by
  simp only [List.getD, List.getElem?_append]
  split
  · rfl
  · split
    · rename_i e; subst e; simp
    · rw [List.getElem?_eq_none (by simp; omega)]; rfl
theorem Way.x_in {n : Nat} {ps acc : List Int} {f x : Int} (h : Way n ps f x acc) (hb : Bij n ps) : 0 ≤ x ∧ x < n := by
  have hm := getD_mem (l := acc) (i := acc.length - 1) (by have := h.pos; omega)
  have h1 := h.inn.lo _ hm; have h2 := h.inn.hi _ hm
  rw [h.last]
  exact hb.maps _ (by omega)
/-- What follows and is not f is new. -/
theorem Way.fresh {n : Nat} {ps acc : List Int} {f x : Int} (h : Way n ps f x acc) (hb : Bij n ps) (hx : x ≠ f) : ¬ x ∈ acc := by
  intro hm
  obtain ⟨i, hi, e⟩ := mem_getD hm
  have hp := h.pos
  cases i with
  | zero => exact hx (by rw [← e, h.head])
  | succ i =>
    have m1 := getD_mem (l := acc) (i := i) (by omega)
    have m2 := getD_mem (l := acc) (i := acc.length - 1) (by omega)
    have a1 := h.inn.lo _ m1; have a2 := h.inn.hi _ m1; have b1 := h.inn.lo _ m2; have b2 := h.inn.hi _ m2
    have q : ps.getD (acc.getD i 0).toNat 0 = ps.getD (acc.getD (acc.length - 1) 0).toNat 0 := by rw [← h.step i hi, e, h.last]
    have := hb.inj _ _ (by omega) (by omega) q
    have := nodup_getD h.inn.nd (i := i) (j := acc.length - 1) (by omega) (by omega) (by omega)
    omega
theorem Way.next {n : Nat} {ps acc : List Int} {f x : Int} (h : Way n ps f x acc) (hb : Bij n ps) (hx : x ≠ f) : Way n ps f (ps.getD x.toNat 0) (acc ++ [x]) := by
  have hp := h.pos
  have xi := h.x_in hb
  have hf := h.fresh hb hx
  refine ⟨by rw [getD_snoc, if_pos hp]; exact h.head, by simp, fun i hi => ?_, ?_, ?_⟩
  · simp at hi
    rw [getD_snoc, getD_snoc, if_pos (by omega : i < acc.length)]
    by_cases e : i + 1 < acc.length
    · rw [if_pos e]; exact h.step i e
    · rw [if_neg e, if_pos (by omega)]
      have : i = acc.length - 1 := by omega
      rw [this]; exact h.last
  · have : (acc ++ [x]).length - 1 = acc.length := by simp
    rw [this, getD_snoc, if_neg (by omega), if_pos rfl]
  · have := h.inn.add xi.1 xi.2
    unfold add1 at this
    rw [if_neg hf] at this
    exact this
theorem Way.start {n : Nat} {ps : List Int} {f : Int} (h0 : 0 ≤ f) (h1 : f < n) : Way n ps f (ps.getD f.toNat 0) [f] :=
  ⟨rfl, by simp, fun i hi => by simp at hi, rfl, ⟨by simp, fun y hy => by simp at hy; omega, fun y hy => by simp at hy; omega⟩⟩
/-- The state of a walk along a cycle. -/
structure Cw (n : Nat) (ps : List Int) (f x : Int) (acc : List Int) (m : Nat) : Prop where
  way : Way n ps f x acc
  len : acc.length + m = n + 1
  res : cy ps f m x acc = cyc ps n f
theorem Cw.start {n : Nat} {ps : List Int} {f : Int} (h0 : 0 ≤ f) (h1 : f < n) : Cw n ps f (ps.getD f.toNat 0) [f] n := ⟨Way.start h0 h1, by simp; omega, rfl⟩
theorem Cw.pos {n m : Nat} {ps acc : List Int} {f x : Int} (h : Cw n ps f x acc m) : 0 < m := by
  have := h.way.inn.len; have := h.len; omega
theorem Cw.next {n m : Nat} {ps acc : List Int} {f x : Int} (h : Cw n ps f x acc m) (hb : Bij n ps) (hx : x ≠ f) : Cw n ps f (ps.getD x.toNat 0) (acc ++ [x]) (m - 1) := by
  have hp := h.pos
  obtain ⟨k, rfl⟩ : ∃ k, m = k + 1 := ⟨m - 1, by omega⟩
  refine ⟨h.way.next hb hx, by have := h.len; simp; omega, ?_⟩
  have := h.res
  rw [cy, if_neg hx] at this
  exact this
theorem Cw.done {n m : Nat} {ps acc : List Int} {f : Int} (h : Cw n ps f f acc m) : acc = cyc ps n f := by
  have hp := h.pos
  obtain ⟨k, rfl⟩ : ∃ k, m = k + 1 := ⟨m - 1, by omega⟩
  have := h.res
  rw [cy, if_pos rfl] at this
  exact this
/-- A cycle is a way that comes back. -/
theorem Cw.way_of {n : Nat} {ps : List Int} {f : Int} (hb : Bij n ps) : ∀ (m : Nat) (x : Int) (acc : List Int), Cw n ps f x acc m → Way n ps f f (cyc ps n f) := by
  intro m
  induction m with
  | zero => intro x acc h; exact absurd h.pos (by omega)
  | succ m ih =>
    intro x acc h
    by_cases e : x = f
    · subst e; rw [← h.done]; exact h.way
    · exact ih _ _ (h.next hb e)
theorem cyc_way {n : Nat} {ps : List Int} {f : Int} (hb : Bij n ps) (h0 : 0 ≤ f) (h1 : f < n) : Way n ps f f (cyc ps n f) := Cw.way_of hb n _ _ (Cw.start h0 h1)
/-- Whoever goes into a cycle is in it. -/
theorem cyc_back {n : Nat} {ps : List Int} {f : Int} (hb : Bij n ps) (h0 : 0 ≤ f) (h1 : f < n) {y : Nat} (hy : y < n) (h : ps.getD y 0 ∈ cyc ps n f) : (y : Int) ∈ cyc ps n f := by
  have hw := cyc_way hb h0 h1
  have hp := hw.pos
  obtain ⟨i, hi, e⟩ := mem_getD h
  have key : ∀ j, j < (cyc ps n f).length → ps.getD ((cyc ps n f).getD j 0).toNat 0 = ps.getD y 0 → (y : Int) ∈ cyc ps n f := by
    intro j hj q
    have m1 := getD_mem hj
    have a1 := hw.inn.lo _ m1; have a2 := hw.inn.hi _ m1
    have := hb.inj _ _ (by omega) hy q
    have e2 : (cyc ps n f).getD j 0 = (y : Int) := by omega
    rw [← e2]; exact m1
  cases i with
  | zero => exact key ((cyc ps n f).length - 1) (by omega) (by rw [← hw.last, ← e, hw.head])
  | succ i => exact key i (by omega) (by rw [← hw.step i hi, e])
theorem cyc_congr {n : Nat} {ps ps' : List Int} (hb : Bij n ps) (h1 : ∀ i, i < n → ps'.getD i 0 = ps.getD i 0) {f : Int} (h0 : 0 ≤ f) (hf : f < n) : cyc ps' n f = cyc ps n f := by
  have key : ∀ (m : Nat) (x : Int) (acc : List Int), 0 ≤ x → x < n → cy ps' f m x acc = cy ps f m x acc := by
    intro m
    induction m with
    | zero => intros; rfl
    | succ m ih =>
      intro x acc x0 x1
      rw [cy, cy]
      split
      · rfl
      · rw [h1 _ (by omega)]
        have := hb.maps x.toNat (by omega)
        exact ih _ _ this.1 this.2
  unfold cyc
  rw [h1 _ (by omega)]
  have := hb.maps f.toNat (by omega)
  exact key _ _ _ this.1 this.2

/-- The cycles that begin with the numbers up to k. -/
def cso (ps : List Int) (n : Nat) : Nat → List (List Int)
  | 0 => []
  | k + 1 => if (k : Int) ∈ (cso ps n k).flatten then cso ps n k else cso ps n k ++ [cyc ps n (k : Int)]
structure Cs (n : Nat) (ps : List Int) (k : Nat) (out : List (List Int)) : Prop where
  inn : In n out.flatten
  back : ∀ y : Nat, y < n → ps.getD y 0 ∈ out.flatten → (y : Int) ∈ out.flatten
  all : ∀ i : Nat, i < k → (i : Int) ∈ out.flatten
  len : out.length ≤ k
theorem cso_cs {n : Nat} {ps : List Int} (hb : Bij n ps) (k : Nat) (hk : k ≤ n) : Cs n ps k (cso ps n k) := by
  induction k with
  | zero => exact ⟨⟨by simp [cso], fun x hx => by simp [cso] at hx, fun x hx => by simp [cso] at hx⟩, fun y _ h => by simp [cso] at h, fun i hi => by omega, Nat.le_refl _⟩
  | succ k ih =>
    have h := ih (by omega)
    rw [cso]
    split
    · rename_i hm
      refine ⟨h.inn, h.back, fun i hi => ?_, by have := h.len; omega⟩
      by_cases e : i = k
      · subst e; exact hm
      · exact h.all i (by omega)
    · rename_i hm
      have hw := cyc_way (f := (k : Int)) hb (by omega) (by omega)
      have hf : (cso ps n k ++ [cyc ps n (k : Int)]).flatten = (cso ps n k).flatten ++ cyc ps n (k : Int) := by simp
      -- the new cycle meets none of the others
      have dis : ∀ i, i < (cyc ps n (k : Int)).length → ¬ (cyc ps n (k : Int)).getD i 0 ∈ (cso ps n k).flatten := by
        intro i
        induction i with
        | zero => intro _ q; rw [hw.head] at q; exact hm q
        | succ i ihi =>
          intro hi q
          rw [hw.step i hi] at q
          have m1 := getD_mem (l := cyc ps n (k : Int)) (i := i) (by omega)
          have a1 := hw.inn.lo _ m1; have a2 := hw.inn.hi _ m1
          have := h.back _ (by omega) q
          rw [Int.toNat_of_nonneg a1] at this
          exact ihi (by omega) this
      have cm : (k : Int) ∈ cyc ps n (k : Int) := by
        have := getD_mem (l := cyc ps n (k : Int)) (i := 0) hw.pos
        rw [hw.head] at this; exact this
      refine ⟨⟨?_, fun x hx => ?_, fun x hx => ?_⟩, fun y hy q => ?_, fun i hi => ?_, by have := h.len; simp; omega⟩
      · rw [hf, List.nodup_append]
        refine ⟨h.inn.nd, hw.inn.nd, fun a ha b hb' e => ?_⟩
        obtain ⟨i, hi, e2⟩ := mem_getD hb'
        exact dis i hi (by rw [e2, ← e]; exact ha)
      · rw [hf] at hx
        rcases List.mem_append.1 hx with hx | hx
        · exact h.inn.lo x hx
        · exact hw.inn.lo x hx
      · rw [hf] at hx
        rcases List.mem_append.1 hx with hx | hx
        · exact h.inn.hi x hx
        · exact hw.inn.hi x hx
      · rw [hf] at q ⊢
        rcases List.mem_append.1 q with q | q
        · exact List.mem_append.2 (.inl (h.back y hy q))
        · exact List.mem_append.2 (.inr (cyc_back hb (by omega) (by omega) hy q))
      · rw [hf]
        by_cases e : i = k
        · subst e; exact List.mem_append.2 (.inr cm)
        · exact List.mem_append.2 (.inl (h.all i (by omega)))
theorem cso_congr {n : Nat} {ps ps' : List Int} (hb : Bij n ps) (h1 : ∀ i, i < n → ps'.getD i 0 = ps.getD i 0) (k : Nat) (hk : k ≤ n) : cso ps' n k = cso ps n k := by
  induction k with
  | zero => rfl
  | succ k ih => rw [cso, cso, ih (by omega), cyc_congr hb h1 (by omega) (by omega)]
def cycF (xs : List Int) : List (List Int) := if okB xs then cso xs xs.length xs.length else []
theorem flatten_len (l : List (List Int)) : l.flatten.length = (l.map List.length).sum := by simp [List.length_flatten]
theorem cycF_small (xs : List Int) : (cycF xs).length ≤ 1048576 ∧ ((cycF xs).map List.length).sum ≤ 1048576 := by
  unfold cycF; split
  · rename_i h
    have ok := Ok.of xs h
    have hl := ok.len
    have hc := cso_cs ok.bij xs.length (Nat.le_refl _)
    have h1 := hc.inn.len; have h2 := hc.len
    rw [flatten_len] at h1
    exact ⟨by omega, by omega⟩
  · simp
theorem cycF_ext {xs : List Int} (h : Ok xs) : cso (ext xs) xs.length xs.length = cso xs xs.length xs.length := by
  have hl := h.len
  exact cso_congr h.bij (fun i hi => by rw [ext_at (by omega), if_pos hi]) _ (Nat.le_refl _)
end Go.Proofs.YtpmojmhamgcfmaaGreat.pm

/-
  Insertion in descending order: plain mathematics.
-/
namespace Go.Proofs.YtpmojmhamgcfmaaGreat.pm
set_option linter.unusedVariables false
set_option maxRecDepth 100000

def ins (x : Int) (l : List Int) (k : Nat) : List Int := l.take k ++ x :: l.drop k
theorem ins_len (x : Int) (l : List Int) {k : Nat} (h : k ≤ l.length) : (ins x l k).length = l.length + 1 := by simp [ins]; omega
theorem ins_end (x : Int) (l : List Int) : ins x l l.length = l ++ [x] := by simp [ins]
theorem ins_set (x y : Int) (l : List Int) {k : Nat} (h : k ≤ l.length) : (ins y l k).set k x = ins x l k := by
  unfold ins
  have hl : (l.take k).length = k := by simp; omega
  rw [List.set_append_right _ _ (by omega), hl]
  simp
theorem ins_move (y : Int) (l : List Int) {k : Nat} (h : k < l.length) : (ins y l (k + 1)).set (k + 1) (l.getD k 0) = ins (l.getD k 0) l k := by
  rw [ins_set _ _ _ (by omega)]
  unfold ins
  have e : l.getD k 0 = l[k] := by simp [List.getD, List.getElem?_eq_getElem h]
  have e1 : l.take (k + 1) = l.take k ++ [l[k]] := List.take_succ_eq_append_getElem h
  have e2 : l.drop k = l[k] :: l.drop (k + 1) := List.drop_eq_getElem_cons h
  rw [e, e1, e2, List.append_assoc]
  rfl
theorem ins_at (y : Int) (l : List Int) {j k : Nat} (h : j < k) (hk : k ≤ l.length) : (ins y l k).getD j 0 = l.getD j 0 := by
  unfold ins
  have hl : (l.take k).length = k := by simp; omega
  simp only [List.getD]
  rw [List.getElem?_append_left (by omega)]
  simp [h]
/-- Where x is inserted, seen from k on downwards. -/
def posD (x : Int) (l : List Int) : Nat → Nat
  | 0 => 0
  | k + 1 => if l.getD k 0 < x then posD x l k else k + 1
def insD (x : Int) (l : List Int) : List Int := ins x l (posD x l l.length)
def sortD (l : List Int) : List Int := l.foldl (fun acc x => insD x acc) []
theorem posD_le (x : Int) (l : List Int) (k : Nat) : posD x l k ≤ k := by
  induction k with
  | zero => exact Nat.le_refl _
  | succ k ih => rw [posD]; split <;> omega
theorem posD_lt (x : Int) (l : List Int) (k : Nat) : ∀ j, posD x l k ≤ j → j < k → l.getD j 0 < x := by
  induction k with
  | zero => intro j _ h; omega
  | succ k ih =>
    intro j h1 h2
    rw [posD] at h1
    split at h1
    · by_cases e : j = k
      · subst e; assumption
      · exact ih j h1 (by omega)
    · omega
theorem posD_ge (x : Int) (l : List Int) (k : Nat) : 0 < posD x l k → x ≤ l.getD (posD x l k - 1) 0 := by
  induction k with
  | zero => intro h; simp [posD] at h
  | succ k ih =>
    rw [posD]
    split
    · exact ih
    · intro _; simp only [Nat.add_sub_cancel]; omega
theorem insD_len (x : Int) (l : List Int) : (insD x l).length = l.length + 1 := ins_len _ _ (posD_le _ _ _)
theorem sortD_snoc (l : List Int) (x : Int) : sortD (l ++ [x]) = insD x (sortD l) := by simp [sortD]
theorem insD_perm (x : Int) (l : List Int) : (insD x l).Perm (x :: l) := by
  unfold insD ins
  have := List.perm_middle (a := x) (l₁ := l.take (posD x l l.length)) (l₂ := l.drop (posD x l l.length))
  rw [List.take_append_drop] at this
  exact this
theorem foldD_perm (l : List Int) : ∀ acc, (l.foldl (fun acc x => insD x acc) acc).Perm (acc ++ l) := by
  induction l with
  | nil => intro acc; simp
  | cons a t ih =>
    intro acc
    simp only [List.foldl_cons]
    refine (ih _).trans ?_
    refine ((insD_perm a acc).append_right t).trans ?_
    exact List.perm_middle.symm
theorem sortD_perm (l : List Int) : (sortD l).Perm l := by have := foldD_perm l []; simpa [sortD] using this
theorem sortD_len (l : List Int) : (sortD l).length = l.length := (sortD_perm l).length_eq
def Desc (l : List Int) : Prop := l.Pairwise (fun a b => b ≤ a)
theorem Desc.at_ {l : List Int} (h : Desc l) {i j : Nat} (hij : i ≤ j) (hj : j < l.length) : l.getD j 0 ≤ l.getD i 0 := by
  have hp := List.pairwise_iff_getElem.1 h
  simp only [List.getD, List.getElem?_eq_getElem hj, List.getElem?_eq_getElem (show i < l.length by omega), Option.getD_some]
  by_cases e : i = j
  · subst e; omega
  · exact hp i j (by omega) hj (by omega)
theorem insD_desc {x : Int} {l : List Int} (h : Desc l) : Desc (insD x l) := by
  have hle := posD_le x l l.length
  have hlt := posD_lt x l l.length
  have hge := posD_ge x l l.length
  unfold insD ins
  generalize posD x l l.length = k at *
  unfold Desc
  rw [List.pairwise_append]
  have htd : Desc (l.take k ++ l.drop k) := by rw [List.take_append_drop]; exact h
  have htd' := List.pairwise_append.1 htd
  have gt : ∀ a ∈ l.take k, x ≤ a := by
    intro a ha
    obtain ⟨i, hi, e⟩ := List.getElem_of_mem ha
    simp at hi e
    have := h.at_ (i := i) (j := k - 1) (by omega) (by omega)
    have h2 := hge (by omega)
    have : l.getD i 0 = a := by simp [List.getD, List.getElem?_eq_getElem (show i < l.length by omega), e]
    omega
  have lt : ∀ b ∈ l.drop k, b < x := by
    intro b hb
    obtain ⟨i, hi, e⟩ := List.getElem_of_mem hb
    simp at hi e
    have := hlt (k + i) (by omega) (by omega)
    have h3 : l.getD (k + i) 0 = b := by simp [List.getD, List.getElem?_eq_getElem (show k + i < l.length by omega), e]
    omega
  refine ⟨htd'.1, List.pairwise_cons.2 ⟨fun b hb => ?_, htd'.2.1⟩, fun a ha b hb => ?_⟩
  · have := lt b hb; omega
  · have h1 := gt a ha
    rcases List.mem_cons.1 hb with rfl | hb
    · exact h1
    · have := lt b hb; omega
theorem foldD_desc (l : List Int) : ∀ acc, Desc acc → Desc (l.foldl (fun acc x => insD x acc) acc) := by
  induction l with
  | nil => intro acc h; exact h
  | cons a t ih => intro acc h; exact ih _ (insD_desc h)
theorem sortD_desc (l : List Int) : Desc (sortD l) := foldD_desc l [] List.Pairwise.nil
theorem sortD_eq {l m : List Int} (h : l.Perm m) : sortD l = sortD m :=
  List.Perm.eq_of_pairwise (le := fun a b => b ≤ a) (fun a b _ _ h1 h2 => by omega) (sortD_desc l) (sortD_desc m) ((sortD_perm l).trans (h.trans (sortD_perm m).symm))
end Go.Proofs.YtpmojmhamgcfmaaGreat.pm
