/-
  What the functions on permutations answer, as functions on lists.
-/
import Derived.Test.YtajkfkpnjbkhhaaInv
import Derived.Test.YtajkfkpnjbkhhaaPermsOf
namespace Go.Proofs.Ytajkfkpnjbkhhaa.pm
open Go.Proofs.Ytajkfkpnjbkhhaa.arr Go.Proofs.Ytajkfkpnjbkhhaa.inv Go.Proofs.Ytajkfkpnjbkhhaa.permOf
set_option linter.unusedVariables false
set_option maxRecDepth 100000

theorem Ok.sq {xs : List Int} (h : Ok xs) : Sq (ext xs) := by
  refine ⟨ext_len xs, fun i hi => ?_, fun i hi => ?_⟩
  · rw [ext_at hi]; split
    · exact h.lo i (by assumption)
    · omega
  · rw [ext_at hi]; split
    · have := h.hi i (by assumption); have := h.len; omega
    · omega
theorem idl_sq : Sq idl := by
  refine ⟨tab_len _, fun i hi => ?_, fun i hi => ?_⟩ <;> (unfold idl; rw [tab_get _ hi]; omega)
theorem getD_set {l : List Int} {i k : Nat} {z : Int} : (l.set k z).getD i 0 = if k = i ∧ i < l.length then z else l.getD i 0 := by
  simp only [List.getD, List.getElem?_set]
  by_cases e : k = i
  · subst e
    by_cases h : k < l.length
    · simp [h]
    · simp [h]
  · simp [e]
theorem invTo_range (n : Nat) (qs : List Int) (k : Nat) (hk : k ≤ 24) (i : Nat) : 0 ≤ (invTo n qs k).getD i 0 ∧ (invTo n qs k).getD i 0 < 24 := by
  induction k with
  | zero =>
    simp only [invTo, List.getD, List.getElem?_replicate]
    split <;> simp
  | succ k ih =>
    have := ih (by omega)
    rw [invTo, getD_set]
    split
    · omega
    · exact this
theorem inv_sq (qs : List Int) : Sq (invTo 24 qs 24) :=
  ⟨invTo_len _ _ _, fun i _ => (invTo_range 24 qs 24 (Nat.le_refl _) i).1, fun i _ => (invTo_range 24 qs 24 (Nat.le_refl _) i).2⟩
theorem then_sq {ps qs : List Int} (hp : Sq ps) (hq : Sq qs) : Sq (thenL ps qs) := by
  refine ⟨tab_len _, fun i hi => ?_, fun i hi => ?_⟩
  · unfold thenL; rw [tab_get _ hi]
    exact hq.lo _ (by have := hp.lo i hi; have := hp.hi i hi; omega)
  · unfold thenL; rw [tab_get _ hi]
    exact hq.hi _ (by have := hp.lo i hi; have := hp.hi i hi; omega)

theorem list_eq {l m : List Int} (n : Nat) (h1 : l.length = n) (h2 : m.length = n) (h : ∀ i, i < n → l.getD i 0 = m.getD i 0) : l = m := by
  refine List.ext_getElem? fun i => ?_
  by_cases hi : i < n
  · have := h i hi
    rw [List.getD, List.getD, List.getElem?_eq_getElem (by omega), List.getElem?_eq_getElem (by omega)] at this
    rw [List.getElem?_eq_getElem (by omega), List.getElem?_eq_getElem (by omega)]
    simpa using this
  · rw [List.getElem?_eq_none (by omega), List.getElem?_eq_none (by omega)]
theorem getD_take {l : List Int} {n i : Nat} (h : i < n) : (l.take n).getD i 0 = l.getD i 0 := by
  simp [List.getD, h]

def invF (xs : List Int) : List Int := if okB xs then invTo xs.length xs xs.length else []
theorem invF_len (xs : List Int) : (invF xs).length ≤ 1048576 := by
  unfold invF; split
  · rename_i h; rw [invTo_len]; have := (Ok.of xs h).len; omega
  · simp
theorem take_inv {xs : List Int} (h : Ok xs) : (invTo 24 (ext xs) 24).take xs.length = invTo xs.length xs xs.length := by
  have hl := h.len
  have A : ∀ k, k ≤ xs.length → (invTo 24 (ext xs) k).take xs.length = invTo xs.length xs k := by
    intro k
    induction k with
    | zero => intro _; rw [invTo, invTo, List.take_replicate, Nat.min_eq_left hl]
    | succ k ih =>
      intro hk
      have e : (ext xs).getD k 0 = xs.getD k 0 := by rw [ext_at (by omega), if_pos (by omega)]
      rw [invTo, invTo, e, List.take_set, ih (by omega)]
  have B : ∀ k, xs.length ≤ k → k ≤ 24 → (invTo 24 (ext xs) k).take xs.length = invTo xs.length xs xs.length := by
    intro k hk
    induction k with
    | zero =>
      intro _
      have e : xs.length = 0 := by omega
      rw [A 0 (Nat.zero_le _), e]
    | succ k ih =>
      intro h24
      by_cases e : xs.length = k + 1
      · rw [← e]; exact A _ (Nat.le_refl _)
      · have hk' : xs.length ≤ k := by omega
        have ee : (ext xs).getD k 0 = (k : Int) := by rw [ext_at (by omega), if_neg (by omega)]
        rw [invTo, ee, Int.toNat_natCast, List.take_set_of_le hk', ih hk' (by omega)]
  exact B 24 hl (Nat.le_refl _)

def thn (xs ys : List Int) : List Int := xs.map fun x => ys.getD x.toNat 0
def thenF (xs ys : List Int) : List Int := if okBB xs ys then thn xs ys else []
theorem okBB_iff {xs ys : List Int} : okBB xs ys = true ↔ okB xs = true ∧ okB ys = true ∧ xs.length = ys.length := by
  simp [okBB, and_assoc]
theorem thenF_len (xs ys : List Int) : (thenF xs ys).length ≤ 1048576 := by
  unfold thenF; split
  · rename_i h; have := (Ok.of xs (okBB_iff.1 h).1).len; simp [thn]; omega
  · simp
theorem take_then {xs ys : List Int} (h : Ok xs) (h' : Ok ys) (e : xs.length = ys.length) : (thenL (ext xs) (ext ys)).take xs.length = thn xs ys := by
  have hl := h.len
  refine list_eq xs.length (by simp [thenL, tab_len]; omega) (by simp [thn]) fun i hi => ?_
  rw [getD_take hi]
  unfold thenL
  rw [tab_get _ (by omega), ext_at (xs := xs) (i := i) (by omega), if_pos hi]
  have h1 := h.lo i hi; have h2 := h.hi i hi
  rw [ext_at (by omega), if_pos (by omega)]
  simp [thn, List.getD, List.getElem?_eq_getElem hi]

def idF (a : Int) : List Int := if 0 ≤ a ∧ a ≤ 24 then (List.range a.toNat).map (fun (i : Nat) => (i : Int)) else []
theorem idF_len (a : Int) : (idF a).length ≤ 1048576 := by
  unfold idF; split
  · simp; omega
  · simp
theorem take_id {n : Nat} (h : n ≤ 24) : idl.take n = (List.range n).map (fun (i : Nat) => (i : Int)) := by
  refine list_eq n (by simp [idl, tab_len]; omega) (by simp) fun i hi => ?_
  rw [getD_take hi]
  unfold idl
  rw [tab_get _ (by omega)]
  simp [List.getD, hi]
end Go.Proofs.Ytajkfkpnjbkhhaa.pm
