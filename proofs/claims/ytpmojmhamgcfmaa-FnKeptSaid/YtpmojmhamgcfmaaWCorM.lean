/-
  What FnCorners says of corners.
-/
import Derived.Test.YtpmojmhamgcfmaaY08
namespace Go.Proofs.Ytpmojmhamgcfmaa.pm
open Go.Proofs.Ytpmojmhamgcfmaa.arr Go.Proofs.Ytpmojmhamgcfmaa.inv Go.Proofs.Ytpmojmhamgcfmaa.permOf
set_option linter.unusedVariables false
set_option maxRecDepth 100000
theorem cr_t {N : Nat} {r u : List Int} (s : Sf N r u) : transB r u = true := by
  have h := s.lr; subst h; exact transB_iff.2 s
theorem sum_cast (l : List (List Int)) : (l.map fun xs => (xs.length : Int)).sum = (((l.map List.length).sum : Nat) : Int) := by
  induction l with
  | nil => rfl
  | cons a l ih => simp only [List.map_cons, List.sum_cons, ih]; omega
theorem perm_sum {l m : List Int} (h : l.Perm m) : l.sum = m.sum := by
  induction h with
  | nil => rfl
  | cons x _ ih => simp [ih]
  | swap x y l => simp only [List.sum_cons]; omega
  | trans _ _ h1 h2 => rw [h1, h2]
theorem cr_cor {N : Nat} {r u : List Int} (s : Sf N r u) : corF r u = cso (comm r u) N N := by
  have := corF_yes (cr_t s); rw [s.lr] at this; exact this
theorem cr_sum {N : Nat} {r u : List Int} (s : Sf N r u) : (angF r u).sum = (N : Int) := by
  unfold angF
  rw [perm_sum (sortD_perm _), sum_cast, cr_cor s, cso_len s.commB]
theorem cr_len {r u : List Int} : (angF r u).length = (corF r u).length := by unfold angF; rw [sortD_len, List.length_map]
theorem cr_ar {N : Nat} {r u : List Int} (s : Sf N r u) : (arF r u).length = N := by rw [arF_yes (cr_t s)]; exact s.comm.2
theorem cr_le {N : Nat} {r u : List Int} (s : Sf N r u) : (corF r u).length ≤ N := by rw [cr_cor s]; exact (cso_cs s.commB N (Nat.le_refl _)).len
theorem cr_gen {N : Nat} {r u : List Int} (s : Sf N r u) : 1 ≤ genF r u ∧ genF r u ≤ 25 ∧ 2 * genF r u - 2 = (N : Int) - (corF r u).length := by
  have e := comm_even s.r s.u s.lr s.lu
  have h := cr_le s
  have h24 := s.small
  have hc : (corF r u).length = cnum (comm r u) N := by rw [cr_cor s]; rfl
  rw [← hc] at e
  have hg : genF r u = 1 + ((N : Int) - (corF r u).length) / 2 := by simp [genF, cr_t s, s.lr]
  rw [hg]
  omega
theorem strL_sum : ∀ l : List Int, (∀ x ∈ l, 1 ≤ x) → (strL l).sum = l.sum - l.length := by
  intro l
  induction l with
  | nil => intro _; rfl
  | cons a l ih =>
    intro h
    have i := ih (fun x hx => h x (List.mem_cons_of_mem _ hx))
    have a1 := h a (List.mem_cons_self ..)
    unfold strL at i ⊢
    by_cases q : 1 < a
    · simp only [List.filter_cons, decide_eq_true q, if_true, List.map_cons, List.sum_cons, List.length_cons, i]; push_cast; omega
    · simp only [List.filter_cons, decide_eq_false q, List.sum_cons, List.length_cons]; simp only [Bool.false_eq_true, if_false, i]; push_cast; omega
theorem cr_pos {N : Nat} {r u : List Int} (s : Sf N r u) : ∀ x ∈ angF r u, 1 ≤ x := by
  intro x hx
  unfold angF at hx
  have := (sortD_perm _).mem_iff.1 hx
  obtain ⟨c, hc, rfl⟩ := List.mem_map.1 this
  rw [cr_cor s] at hc
  obtain ⟨i, hi, rfl⟩ := cso_cyc N (Nat.le_refl _) c hc
  have := List.length_pos_of_mem (cyc_self s.commB (f := (i : Int)) (by omega) (by omega))
  omega
theorem cr_str {N : Nat} {r u : List Int} (s : Sf N r u) : (strF r u).sum = 2 * genF r u - 2 := by
  unfold strF
  rw [strL_sum _ (cr_pos s), cr_sum s, (cr_gen s).2.2, cr_len]
theorem sum_take_le : ∀ (l : List Int) (k : Nat), (∀ x ∈ l, 0 ≤ x) → 0 ≤ (l.take k).sum ∧ (l.take k).sum ≤ l.sum := by
  intro l
  induction l with
  | nil => intro k _; simp
  | cons a l ih =>
    intro k h
    have a0 := h a (List.mem_cons_self ..)
    cases k with
    | zero =>
      have := ih l.length (fun x hx => h x (List.mem_cons_of_mem _ hx))
      rw [List.take_of_length_le (Nat.le_refl _)] at this
      simp only [List.take_zero, List.sum_nil, List.sum_cons]; omega
    | succ k =>
      have := ih k (fun x hx => h x (List.mem_cons_of_mem _ hx))
      simp only [List.take_succ_cons, List.sum_cons]; omega
theorem cr_tang {N : Nat} {r u : List Int} (s : Sf N r u) (k : Nat) : 0 ≤ ((angF r u).take k).sum ∧ ((angF r u).take k).sum ≤ 1000 := by
  have := sum_take_le (angF r u) k (fun x hx => by have := cr_pos s x hx; omega)
  rw [cr_sum s] at this; have := s.small; omega
theorem cr_tstr {N : Nat} {r u : List Int} (s : Sf N r u) (k : Nat) : 0 ≤ ((strF r u).take k).sum ∧ ((strF r u).take k).sum ≤ 1000 := by
  have := sum_take_le (strF r u) k (fun x hx => by
    unfold strF strL at hx
    obtain ⟨a, ha, rfl⟩ := List.mem_map.1 hx
    have := cr_pos s a (List.mem_filter.1 ha).1; omega)
  rw [cr_str s, (cr_gen s).2.2] at this; have := s.small; omega
/-- How long the list is in which i was found, as the law seeks it. -/
def fnd (i : Int) (L : List (List Int)) : Int := L.foldl (fun f l => if i ∈ l then (l.length : Int) else f) 0
theorem fnd_snoc (i : Int) (L : List (List Int)) (l : List Int) : fnd i (L ++ [l]) = if i ∈ l then (l.length : Int) else fnd i L := by simp [fnd]
theorem fnd_out (i : Int) : ∀ (L : List (List Int)) (f : Int), (∀ l ∈ L, ¬ i ∈ l) → L.foldl (fun f l => if i ∈ l then (l.length : Int) else f) f = f := by
  intro L
  induction L with
  | nil => intro f _; rfl
  | cons a L ih =>
    intro f h
    rw [List.foldl_cons, if_neg (h a (List.mem_cons_self ..))]
    exact ih f fun l hl => h l (List.mem_cons_of_mem _ hl)
theorem fnd_of (i : Int) : ∀ (L : List (List Int)) (f : Int), (∃ l ∈ L, i ∈ l) → ∃ l ∈ L, i ∈ l ∧ L.foldl (fun f l => if i ∈ l then (l.length : Int) else f) f = (l.length : Int) := by
  intro L
  induction L with
  | nil => rintro f ⟨l, hl, _⟩; simp at hl
  | cons a L ih =>
    intro f h
    rw [List.foldl_cons]
    rcases Classical.em (∃ l ∈ L, i ∈ l) with q | q
    · obtain ⟨l, h1, h2, h3⟩ := ih (if i ∈ a then (a.length : Int) else f) q
      exact ⟨l, List.mem_cons_of_mem _ h1, h2, h3⟩
    · rw [fnd_out i L _ (fun l hl hi => q ⟨l, hl, hi⟩)]
      obtain ⟨l, hl, hi⟩ := h
      rcases List.mem_cons.1 hl with rfl | hl
      · exact ⟨l, List.mem_cons_self .., hi, by rw [if_pos hi]⟩
      · exact absurd ⟨l, hl, hi⟩ q
theorem fnd_is (i : Int) (L : List (List Int)) (h : ∃ l ∈ L, i ∈ l) : ∃ l ∈ L, i ∈ l ∧ fnd i L = (l.length : Int) := fnd_of i L 0 h
theorem fnd_take {i : Int} {L : List (List Int)} {k : Nat} {l : List Int} (h : L[k]? = some l) : fnd i (L.take (k + 1)) = if i ∈ l then (l.length : Int) else fnd i (L.take k) := by
  rw [List.take_add_one, h]; exact fnd_snoc i _ l
theorem cyc_one {n : Nat} {ps : List Int} (hb : Bij n ps) {i : Int} (i0 : 0 ≤ i) (i1 : i < n) {j : Nat} (hj : j < n) (hi : i ∈ cyc ps n (j : Int)) : (cyc ps n (j : Int)).length = 1 ↔ ps.getD i.toNat 0 = i := by
  constructor
  · intro h
    obtain ⟨a, e⟩ := List.length_eq_one_iff.1 h
    have h1 : i = a := by rw [e] at hi; simpa using hi
    have h2 := cyc_trans hb (by omega) (by omega) hi (cyc_next hb i0 i1 (cyc_self hb i0 i1))
    rw [e] at h2
    exact (List.mem_singleton.1 h2).trans h1.symm
  · intro h
    have all : ∀ y ∈ cyc ps n i, y = i := by
      intro y hy
      obtain ⟨m, rfl⟩ := (mem_cyc hb i0 i1).1 hy
      induction m with
      | zero => rfl
      | succ m ih =>
        have := ih ((mem_cyc hb i0 i1).2 ⟨m, rfl⟩)
        rw [it, this, h]
    have hji : (j : Int) = i := all _ (cyc_symm hb (by omega) (by omega) hi)
    rw [hji]
    have nd := (cyc_way (f := i) hb i0 i1).inn.nd
    have hp := List.length_pos_of_mem (cyc_self hb i0 i1)
    generalize cyc ps n i = l at *
    match l, nd, hp, all with
    | [a], _, _, _ => rfl
    | a :: b :: t, nd, _, all =>
      have e1 := all a (by simp); have e2 := all b (by simp)
      rw [e1, e2] at nd
      simp at nd
theorem cr_reg {N : Nat} {r u : List Int} (s : Sf N r u) {i : Nat} (hi : i < N) : regF r u (i : Int) = decide (fnd (i : Int) (corF r u) = 1) := by
  have e1 : regF r u (i : Int) = decide ((comm r u).getD i 0 = (i : Int)) := by
    unfold regF; rw [cr_t s, s.lr]; simp [hi]
  rw [e1]
  have hm : (i : Int) ∈ (corF r u).flatten := by
    rw [cr_cor s]; exact (cso_rng s.commB).mem_iff.2 (mem_rng.2 ⟨by omega, by omega⟩)
  obtain ⟨l, hl, hil⟩ := List.mem_flatten.1 hm
  obtain ⟨l', h1, h2, h3⟩ := fnd_is (i : Int) (corF r u) ⟨l, hl, hil⟩
  rw [h3]
  rw [cr_cor s] at h1
  obtain ⟨j, hj, rfl⟩ := cso_cyc N (Nat.le_refl _) l' h1
  have := cyc_one s.commB (i := (i : Int)) (by omega) (by omega) hj h2
  rw [Int.toNat_natCast] at this
  rw [decide_eq_decide, ← this]
  omega
end Go.Proofs.Ytpmojmhamgcfmaa.pm
