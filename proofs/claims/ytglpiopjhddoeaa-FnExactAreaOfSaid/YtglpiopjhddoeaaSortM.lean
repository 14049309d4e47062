/-
  Insertion in descending order: plain mathematics.
-/
import Derived.Test.YtglpiopjhddoeaaCyc
namespace Go.Proofs.Ytglpiopjhddoeaa.pm
set_option linter.unusedVariables false
set_option maxRecDepth 100000

def ins (x : Int) (l : List Int) (k : Nat) : List Int := l.take k ++ x :: l.drop k
theorem ins_len (x : Int) (l : List Int) {k : Nat} (h : k ≤ l.length) : (ins x l k).length = l.length + 1 := by simp [ins]; omega
theorem ins_end (x : Int) (l : List Int) : ins x l l.length = l ++ [x] := by simp [ins]
theorem ins_set (x y : Int) (l : List Int) {k : Nat} (h : k ≤ l.length) : (ins y l k).set k x = ins x l k := by
  unfold ins
  have hl : (l.take k).length = k := by simp; omega
  rw [List.set_append_right _ _ (by omega), hl]
  simp
theorem ins_move (y : Int) (l : List Int) {k : Nat} (h : k < l.length) : (ins y l (k + 1)).set (k + 1) (l.getD k 0) = ins (l.getD k 0) l k := by
  rw [ins_set _ _ _ (by omega)]
  unfold ins
  have e : l.getD k 0 = l[k] := by simp [List.getD, List.getElem?_eq_getElem h]
  have e1 : l.take (k + 1) = l.take k ++ [l[k]] := List.take_succ_eq_append_getElem h
  have e2 : l.drop k = l[k] :: l.drop (k + 1) := List.drop_eq_getElem_cons h
  rw [e, e1, e2, List.append_assoc]
  rfl
theorem ins_at (y : Int) (l : List Int) {j k : Nat} (h : j < k) (hk : k ≤ l.length) : (ins y l k).getD j 0 = l.getD j 0 := by
  unfold ins
  have hl : (l.take k).length = k := by simp; omega
  simp only [List.getD]
  rw [List.getElem?_append_left (by omega)]
  simp [h]
/-- Where x is inserted, seen from k on downwards. -/
def posD (x : Int) (l : List Int) : Nat → Nat
  | 0 => 0
  | k + 1 => if l.getD k 0 < x then posD x l k else k + 1
def insD (x : Int) (l : List Int) : List Int := ins x l (posD x l l.length)
def sortD (l : List Int) : List Int := l.foldl (fun acc x => insD x acc) []
theorem posD_le (x : Int) (l : List Int) (k : Nat) : posD x l k ≤ k := by
  induction k with
  | zero => exact Nat.le_refl _
  | succ k ih => rw [posD]; split <;> omega
theorem posD_lt (x : Int) (l : List Int) (k : Nat) : ∀ j, posD x l k ≤ j → j < k → l.getD j 0 < x := by
  induction k with
  | zero => intro j _ h; omega
  | succ k ih =>
    intro j h1 h2
    rw [posD] at h1
    split at h1
    · by_cases e : j = k
      · subst e; assumption
      · exact ih j h1 (by omega)
    · omega
theorem posD_ge (x : Int) (l : List Int) (k : Nat) : 0 < posD x l k → x ≤ l.getD (posD x l k - 1) 0 := by
  induction k with
  | zero => intro h; simp [posD] at h
  | succ k ih =>
    rw [posD]
    split
    · exact ih
    · intro _; simp only [Nat.add_sub_cancel]; omega
theorem insD_len (x : Int) (l : List Int) : (insD x l).length = l.length + 1 := ins_len _ _ (posD_le _ _ _)
theorem sortD_snoc (l : List Int) (x : Int) : sortD (l ++ [x]) = insD x (sortD l) := by simp [sortD]
theorem insD_perm (x : Int) (l : List Int) : (insD x l).Perm (x :: l) := by
  unfold insD ins
  have := List.perm_middle (a := x) (l₁ := l.take (posD x l l.length)) (l₂ := l.drop (posD x l l.length))
  rw [List.take_append_drop] at this
  exact this
theorem foldD_perm (l : List Int) : ∀ acc, (l.foldl (fun acc x => insD x acc) acc).Perm (acc ++ l) := by
  induction l with
  | nil => intro acc; simp
  | cons a t ih =>
    intro acc
    simp only [List.foldl_cons]
    refine (ih _).trans ?_
    refine ((insD_perm a acc).append_right t).trans ?_
    exact List.perm_middle.symm
theorem sortD_perm (l : List Int) : (sortD l).Perm l := by have := foldD_perm l []; simpa [sortD] using this
theorem sortD_len (l : List Int) : (sortD l).length = l.length := (sortD_perm l).length_eq
def Desc (l : List Int) : Prop := l.Pairwise (fun a b => b ≤ a)
theorem Desc.at_ {l : List Int} (h : Desc l) {i j : Nat} (hij : i ≤ j) (hj : j < l.length) : l.getD j 0 ≤ l.getD i 0 := by
  have hp := List.pairwise_iff_getElem.1 h
  simp only [List.getD, List.getElem?_eq_getElem hj, List.getElem?_eq_getElem (show i < l.length by omega), Option.getD_some]
  by_cases e : i = j
  · subst e; omega
  · exact hp i j (by omega) hj (by omega)
theorem insD_desc {x : Int} {l : List Int} (h : Desc l) : Desc (insD x l) := by
  have hle := posD_le x l l.length
  have hlt := posD_lt x l l.length
  have hge := posD_ge x l l.length
  unfold insD ins
  generalize posD x l l.length = k at *
  unfold Desc
  rw [List.pairwise_append]
  have htd : Desc (l.take k ++ l.drop k) := by rw [List.take_append_drop]; exact h
  have htd' := List.pairwise_append.1 htd
  have gt : ∀ a ∈ l.take k, x ≤ a := by
    intro a ha
    obtain ⟨i, hi, e⟩ := List.getElem_of_mem ha
    simp at hi e
    have := h.at_ (i := i) (j := k - 1) (by omega) (by omega)
    have h2 := hge (by omega)
    have : l.getD i 0 = a := by simp [List.getD, List.getElem?_eq_getElem (show i < l.length by omega), e]
    omega
  have lt : ∀ b ∈ l.drop k, b < x := by
    intro b hb
    obtain ⟨i, hi, e⟩ := List.getElem_of_mem hb
    simp at hi e
    have := hlt (k + i) (by omega) (by omega)
    have h3 : l.getD (k + i) 0 = b := by simp [List.getD, List.getElem?_eq_getElem (show k + i < l.length by omega), e]
    omega
  refine ⟨htd'.1, List.pairwise_cons.2 ⟨fun b hb => ?_, htd'.2.1⟩, fun a ha b hb => ?_⟩
  · have := lt b hb; omega
  · have h1 := gt a ha
    rcases List.mem_cons.1 hb with rfl | hb
    · exact h1
    · have := lt b hb; omega
theorem foldD_desc (l : List Int) : ∀ acc, Desc acc → Desc (l.foldl (fun acc x => insD x acc) acc) := by
  induction l with
  | nil => intro acc h; exact h
  | cons a t ih => intro acc h; exact ih _ (insD_desc h)
theorem sortD_desc (l : List Int) : Desc (sortD l) := foldD_desc l [] List.Pairwise.nil
theorem sortD_eq {l m : List Int} (h : l.Perm m) : sortD l = sortD m :=
  List.Perm.eq_of_pairwise (le := fun a b => b ≤ a) (fun a b _ _ h1 h2 => by omega) (sortD_desc l) (sortD_desc m) ((sortD_perm l).trans (h.trans (sortD_perm m).symm))
end Go.Proofs.Ytglpiopjhddoeaa.pm
