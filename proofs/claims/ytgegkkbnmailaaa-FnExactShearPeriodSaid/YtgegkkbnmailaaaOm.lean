/-
  The orbit of a surface as lists: canonical forms, the first place of a form in a list, the search with its words.
-/
import Derived.Test.YtgegkkbnmailaaaMA
namespace Go.Proofs.Ytgegkkbnmailaaa.orb
open Go.Proofs.Ytgegkkbnmailaaa.pm
set_option linter.unusedVariables false
set_option maxRecDepth 100000

/-- The canonical form of a surface. -/
def cn (s : Sur) : Sur := can s.1 s.2 s.1.length
/-- The first place of x in L, or -1. -/
def fnd : List Sur → Sur → Int
  | [], _ => -1
  | y :: L, x => if y = x then 0 else if fnd L x < 0 then -1 else fnd L x + 1
theorem fnd_range (L : List Sur) (x : Sur) : fnd L x = -1 ∨ (0 ≤ fnd L x ∧ fnd L x < L.length) := by
  induction L with
  | nil => exact .inl rfl
  | cons y L ih =>
    unfold fnd
    split
    · right; simp
    · split
      · exact .inl rfl
      · right
        rcases ih with h | h
        · omega
        · simp; omega
theorem fnd_no {L : List Sur} {x : Sur} : fnd L x = -1 ↔ x ∉ L := by
  induction L with
  | nil => simp [fnd]
  | cons y L ih =>
    have hr := fnd_range L x
    unfold fnd
    by_cases h : y = x
    · simp [h]
    · rw [if_neg h]
      have hm : x ∉ y :: L ↔ x ∉ L := by simp [show ¬ x = y from fun e => h e.symm]
      rw [hm, ← ih]
      by_cases h' : fnd L x < 0
      · rw [if_pos h']; omega
      · rw [if_neg h']; omega
theorem fnd_neg {L : List Sur} {x : Sur} : fnd L x < 0 ↔ x ∉ L := by
  rw [← fnd_no]
  have := fnd_range L x
  omega
theorem fnd_at {L : List Sur} {x : Sur} {k : Nat} (h1 : L[k]? = some x) (h2 : ∀ j, j < k → L[j]? ≠ some x) : fnd L x = k := by
  induction L generalizing k with
  | nil => simp at h1
  | cons y L ih =>
    unfold fnd
    cases k with
    | zero => simp at h1; rw [if_pos h1]; rfl
    | succ k =>
      have h0 : ¬ y = x := fun e => h2 0 (by omega) (by simp [e])
      have := ih (k := k) (by simpa using h1) (fun j hj => by simpa using h2 (j + 1) (by omega))
      rw [if_neg h0, this, if_neg (by omega)]
      omega
theorem fnd_none {L : List Sur} {x : Sur} (h : ∀ j, j < L.length → L[j]? ≠ some x) : fnd L x = -1 := by
  rw [fnd_no]
  intro hx
  obtain ⟨j, hj, e⟩ := List.mem_iff_getElem.1 hx
  exact h j hj (by rw [List.getElem?_eq_getElem hj, e])
/-- Where the first place is. -/
theorem fnd_get {L : List Sur} {x : Sur} (h : x ∈ L) : ∃ k : Nat, fnd L x = k ∧ k < L.length ∧ L[k]? = some x := by
  induction L with
  | nil => simp at h
  | cons y L ih =>
    unfold fnd
    by_cases e : y = x
    · exact ⟨0, by simp [e], by simp, by simp [e]⟩
    · have hx : x ∈ L := by
        rcases List.mem_cons.1 h with q | q
        · exact absurd q.symm e
        · exact q
      obtain ⟨k, h1, h2, h3⟩ := ih hx
      exact ⟨k + 1, by rw [if_neg e, h1, if_neg (by omega)]; omega, by simp; omega, by simpa using h3⟩

abbrev LW := List Sur × List (List UInt8)
/-- The form after a letter. -/
def stp (c : UInt8) (s : Sur) : Sur := cn (letS c s)
/-- One letter at the surface number k: the form behind it is added if it is not there yet, with its word. -/
def addL (k : Nat) (c : UInt8) (q : LW) : LW :=
  if stp c (q.1.getD k ([], [])) ∈ q.1 then q else (q.1 ++ [stp c (q.1.getD k ([], []))], q.2 ++ [q.2.getD k [] ++ [c]])
def two (k : Nat) (q : LW) : LW := addL k 83 (addL k 84 q)
/-- The search from place k on, with fuel. -/
def orun : Nat → Nat → LW → Option LW
  | 0, _, _ => none
  | f + 1, k, q => if k < q.1.length then (if 120 < (two k q).1.length then none else orun f (k + 1) (two k q)) else some q
/-- The orbit of a surface, with the words: none if there are more than 120. -/
def orb (s : Sur) : Option LW := orun 122 0 ([cn s], [[]])

/-- What the search keeps: as many words as surfaces, all valid with n squares, and the word number k has at most k letters. -/
structure Oi (n : Nat) (q : LW) : Prop where
  len : q.2.length = q.1.length
  sf : ∀ x ∈ q.1, Sf n x.1 x.2
  wl : ∀ (k : Nat) (w : List UInt8), q.2[k]? = some w → w.length ≤ k
theorem cn_sf {n : Nat} {s : Sur} (h : Sf n s.1 s.2) : Sf n (cn s).1 (cn s).2 := by
  unfold cn
  rw [h.lr]
  obtain ⟨ns, _, h2⟩ := h.can_iso
  exact h2
theorem Oi.start {n : Nat} {s : Sur} (h : Sf n s.1 s.2) : Oi n ([cn s], [[]]) :=
  ⟨rfl, fun x hx => by simp at hx; subst hx; exact cn_sf h, fun k w hw => by
    cases k with
    | zero => simp at hw; subst hw; simp
    | succ k => simp at hw⟩
theorem Oi.at {n : Nat} {q : LW} (h : Oi n q) {k : Nat} (hk : k < q.1.length) : ∃ x w, q.1[k]? = some x ∧ q.1.getD k ([], []) = x ∧ Sf n x.1 x.2 ∧ q.2[k]? = some w ∧ q.2.getD k [] = w ∧ w.length ≤ k := by
  have hk2 : k < q.2.length := by rw [h.len]; exact hk
  have e2 := List.getElem?_eq_getElem hk2
  refine ⟨q.1[k], q.2[k], List.getElem?_eq_getElem hk, ?_, h.sf _ (List.getElem_mem hk), e2, ?_, h.wl k _ e2⟩
  · rw [List.getD_eq_getElem?_getD, List.getElem?_eq_getElem hk]; rfl
  · rw [List.getD_eq_getElem?_getD, e2]; rfl
theorem addL_sub (k : Nat) (c : UInt8) (q : LW) : ∃ r, (addL k c q).1 = q.1 ++ r ∧ r.length ≤ 1 := by
  unfold addL
  split
  · exact ⟨[], by simp⟩
  · exact ⟨_, rfl, by simp⟩
theorem addL_sub2 (k : Nat) (c : UInt8) (q : LW) : ∃ r, (addL k c q).2 = q.2 ++ r ∧ r.length ≤ 1 := by
  unfold addL
  split
  · exact ⟨[], by simp⟩
  · exact ⟨_, rfl, by simp⟩
theorem Oi.add {n : Nat} {q : LW} (h : Oi n q) {k : Nat} (hk : k < q.1.length) (c : UInt8) : Oi n (addL k c q) := by
  obtain ⟨x, w, h1, h2, h3, h4, h5, h6⟩ := h.at hk
  unfold addL
  split
  · exact h
  · refine ⟨by simp [h.len], fun y hy => ?_, fun j u hu => ?_⟩
    · rcases List.mem_append.1 hy with q' | q'
      · exact h.sf y q'
      · simp at q'
        subst q'
        rw [h1]
        exact cn_sf (letS_sf h3 c)
    · simp only at hu
      rw [List.getElem?_append] at hu
      split at hu
      · exact h.wl j u hu
      · rename_i hj
        have hl := h.len
        rcases Nat.eq_zero_or_pos (j - q.2.length) with e | e
        · rw [e] at hu
          simp at hu
          subst hu
          rw [show q.2[k]?.getD [] = w by rw [h4]; rfl]
          simp; omega
        · rw [List.getElem?_eq_none (by simp; omega)] at hu; cases hu
end Go.Proofs.Ytgegkkbnmailaaa.orb
