/-
  Corners, angles, stratum and genus: plain mathematics.
-/
import Derived.Test.YtglpiopjhddoeaaSign2
import Derived.Test.YtglpiopjhddoeaaSurf3
import Derived.Test.YtglpiopjhddoeaaAct
import Derived.Lib.Slices
namespace Go.Proofs.Ytglpiopjhddoeaa.pm
open Go.Proofs.Ytglpiopjhddoeaa.arr Go.Proofs.Ytglpiopjhddoeaa.inv Go.Proofs.Ytglpiopjhddoeaa.permOf
set_option linter.unusedVariables false
set_option maxRecDepth 100000

theorem foldmin (l : List Int) : ∀ a : Int, l.foldl min a ≤ a ∧ (∀ y ∈ l, l.foldl min a ≤ y) ∧ (l.foldl min a = a ∨ l.foldl min a ∈ l) := by
  induction l with
  | nil => intro a; exact ⟨Int.le_refl _, by simp, .inl rfl⟩
  | cons x l ih =>
    intro a
    obtain ⟨h1, h2, h3⟩ := ih (min a x)
    rw [List.foldl_cons]
    refine ⟨by omega, fun y hy => ?_, ?_⟩
    · rcases List.mem_cons.1 hy with rfl | hy
      · omega
      · exact h2 y hy
    · rcases h3 with h3 | h3
      · rw [h3]
        rcases Int.le_total a x with q | q
        · exact .inl (by omega)
        · exact .inr (List.mem_cons.2 (.inl (by omega)))
      · exact .inr (List.mem_cons.2 (.inr h3))
theorem minOf_iff {l : List Int} {x : Int} (h : x ∈ l) : Lib.minOf l = x ↔ ∀ y ∈ l, x ≤ y := by
  cases l with
  | nil => simp at h
  | cons a l =>
    obtain ⟨h1, h2, h3⟩ := foldmin l a
    have e : Lib.minOf (a :: l) = l.foldl min a := by simp [Lib.minOf]
    rw [e]
    constructor
    · rintro rfl y hy
      rcases List.mem_cons.1 hy with rfl | hy
      · exact h1
      · exact h2 y hy
    · intro q
      have a1 : l.foldl min a ≤ x := by
        rcases List.mem_cons.1 h with rfl | h
        · exact h1
        · exact h2 x h
      have a2 : x ≤ l.foldl min a := by
        rcases h3 with h3 | h3
        · rw [h3]; exact q a (List.mem_cons.2 (.inl rfl))
        · exact q _ (List.mem_cons.2 (.inr h3))
      omega
theorem mn_iff {n : Nat} {ps : List Int} (hb : Bij n ps) {f : Int} (f0 : 0 ≤ f) (f1 : f < n) : Lib.minOf (cyc ps n f) = f ↔ mn ps n f = true := by
  rw [minOf_iff (cyc_self hb f0 f1)]; simp [mn]
theorem in_cso_iff {n k : Nat} {ps : List Int} (hb : Bij n ps) (hk : k < n) : (k : Int) ∈ (cso ps n k).flatten ↔ mn ps n (k : Int) = false := by
  rw [mem_cso hb k (by omega)]
  unfold mn
  rw [decide_eq_false_iff_not]
  constructor
  · rintro ⟨j, hj, q⟩ h
    have := h _ (cyc_symm hb (by omega) (by omega) q)
    omega
  · intro h
    have : ∃ y, y ∈ cyc ps n (k : Int) ∧ y < (k : Int) := by
      rcases Classical.em (∃ y, y ∈ cyc ps n (k : Int) ∧ y < (k : Int)) with q | q
      · exact q
      · exact absurd (fun y hy => Int.not_lt.1 (fun hlt => q ⟨y, hy, hlt⟩)) h
    obtain ⟨y, hy, hlt⟩ := this
    have hw := cyc_way (f := (k : Int)) hb (by omega) (by omega)
    have y0 := hw.inn.lo y hy
    exact ⟨y.toNat, by omega, by rw [Int.toNat_of_nonneg y0]; exact cyc_symm hb (by omega) (by omega) hy⟩
/-- The next cycle: that of k, if k is the least of it. -/
theorem cso_yes {n k : Nat} {ps : List Int} (hb : Bij n ps) (hk : k < n) (h : Lib.minOf (cyc ps n (k : Int)) = (k : Int)) : cso ps n (k + 1) = cso ps n k ++ [cyc ps n (k : Int)] := by
  have q := (mn_iff hb (by omega) (by omega)).1 h
  rw [cso, if_neg (fun e => by rw [(in_cso_iff hb hk).1 e] at q; cases q)]
theorem cso_no {n k : Nat} {ps : List Int} (hb : Bij n ps) (hk : k < n) (h : Lib.minOf (cyc ps n (k : Int)) ≠ (k : Int)) : cso ps n (k + 1) = cso ps n k := by
  rw [cso, if_pos]
  rw [in_cso_iff hb hk]
  cases q : mn ps n (k : Int) with
  | false => rfl
  | true => exact absurd ((mn_iff hb (by omega) (by omega)).2 q) h

theorem ok_ext {xs : List Int} (h : Ok xs) : Ok (ext xs) := by
  have hl := h.len
  refine ⟨by rw [ext_len]; omega, fun i hi => h.sq.lo i (by rwa [ext_len] at hi), fun i hi => by rw [ext_len] at *; exact h.sq.hi i hi, fun i j hi hj e => ?_⟩
  rw [ext_len] at hi hj
  rw [ext_at hi, ext_at hj] at e
  split at e <;> split at e
  · exact h.inj i j (by assumption) (by assumption) e
  · have := h.hi i (by assumption); omega
  · have := h.hi j (by assumption); omega
  · omega
theorem thn_ext {xs ys : List Int} (h : Ok xs) (h' : Ok ys) (e : xs.length = ys.length) : thenL (ext xs) (ext ys) = ext (thn xs ys) := by
  have hl := h.len
  refine list_eq 24 (by unfold thenL; exact tab_len _) (ext_len _) fun i hi => ?_
  rw [thenL_at _ _ hi, ext_at hi, ext_at hi, thn_len]
  by_cases q : i < xs.length
  · have a := h.lo i q; have b := h.hi i q
    rw [if_pos q, if_pos q, thn_at q, ext_at (by omega), if_pos (by omega)]
  · rw [if_neg q, if_neg q, Int.toNat_natCast, ext_at hi, if_neg (by omega)]
theorem inv_ext {xs : List Int} (h : Ok xs) : invTo 24 (ext xs) 24 = ext (Inv xs) := by
  have hl := h.len
  refine list_eq 24 (invTo_len _ _ _) (ext_len _) fun i hi => ?_
  rw [ext_at hi, Inv_len]
  by_cases q : i < xs.length
  · rw [if_pos q]
    obtain ⟨k, hk, e1, e2⟩ := at_Inv h q
    have a := inv_at (ok_ext h) (k := k) (by rw [ext_len]; omega)
    rw [ext_at (by omega), if_pos hk, e2, ext_len, Int.toNat_natCast] at a
    rw [a, e1]
  · rw [if_neg q]
    have a := inv_at (ok_ext h) (k := i) (by rw [ext_len]; omega)
    rw [ext_at hi, if_neg q, ext_len, Int.toNat_natCast] at a
    exact a
/-- The round as the program reckons it, among 24. -/
def ar24 (p q : List Int) : List Int := thenL (thenL (thenL p q) (invTo 24 p 24)) (invTo 24 q 24)
theorem ar24_len (p q : List Int) : (ar24 p q).length = 24 := by unfold ar24 thenL; exact tab_len _
section
variable {n : Nat} {R U : List Int} (s : Sf n R U)
include s
theorem Sf.small : n ≤ 24 := by have := s.r.len; have := s.lr; omega
theorem Sf.comm : Ok (comm R U) ∧ (comm R U).length = n := comm_ok s.r s.u s.lr s.lu
theorem Sf.commB : Bij n (pm.comm R U) := s.comm.1.bij' s.comm.2
theorem ar24_ext : ar24 (ext R) (ext U) = ext (comm R U) := by
  have l1 : R.length = U.length := by rw [s.lr, s.lu]
  have o1 := thn_ok s.r s.u l1
  have l2 : (thn R U).length = (Inv R).length := by rw [thn_len, Inv_len]
  have o2 := thn_ok o1 (Inv_ok s.r) l2
  have l3 : (thn (thn R U) (Inv R)).length = (Inv U).length := by rw [thn_len, thn_len, Inv_len, l1]
  unfold ar24
  rw [thn_ext s.r s.u l1, inv_ext s.r, inv_ext s.u, thn_ext o1 (Inv_ok s.r) l2, thn_ext o2 (Inv_ok s.u) l3, thn_assoc o1 l2]
  rfl
end
theorem take_ext (xs : List Int) (h : xs.length ≤ 24) : (ext xs).take xs.length = xs := by
  refine list_eq xs.length (by simp [ext_len]; omega) rfl fun i hi => ?_
  have e : (ext xs).getD i 0 = xs.getD i 0 := by rw [ext_at (by omega), if_pos hi]
  rw [← e]
  simp [List.getD, hi]

/-- The round, the corners, the angles, the stratum, the genus, whether a corner is regular. -/
def arF (r u : List Int) : List Int := if transB r u then comm r u else []
def corF (r u : List Int) : List (List Int) := if transB r u then cso (comm r u) r.length r.length else []
def angF (r u : List Int) : List Int := sortD ((corF r u).map fun xs => (xs.length : Int))
def strL (l : List Int) : List Int := (l.filter fun a => decide (1 < a)).map fun a => a - 1
def strF (r u : List Int) : List Int := strL (angF r u)
def genF (r u : List Int) : Int := if transB r u then 1 + ((r.length : Int) - (corF r u).length) / 2 else -1
def regF (r u : List Int) (a : Int) : Bool := transB r u && (decide (0 ≤ a) && (decide (a < r.length) && decide ((comm r u).getD a.toNat 0 = a)))
theorem arF_yes {r u : List Int} (h : transB r u = true) : arF r u = comm r u := by simp [arF, h]
theorem arF_no {r u : List Int} (h : transB r u = false) : arF r u = [] := by simp [arF, h]
theorem corF_yes {r u : List Int} (h : transB r u = true) : corF r u = cso (comm r u) r.length r.length := by simp [corF, h]
theorem corF_no {r u : List Int} (h : transB r u = false) : corF r u = [] := by simp [corF, h]
theorem corF_cyc {r u : List Int} (h : transB r u = true) : corF r u = cycF (comm r u) := by
  have s := transB_iff.1 h
  rw [corF_yes h, cycF, s.comm.1.b, if_pos rfl, s.comm.2]
theorem arF_len (r u : List Int) : (arF r u).length ≤ 1048576 := by
  unfold arF; split
  · rename_i h
    have s := transB_iff.1 h
    have := s.comm.2; have := s.small; omega
  · simp
theorem corF_small (r u : List Int) : (corF r u).length ≤ 24 ∧ ((corF r u).map List.length).sum ≤ 24 := by
  cases h : transB r u with
  | false => rw [corF_no h]; simp
  | true =>
    have s := transB_iff.1 h
    have hc := cso_cs s.commB r.length (Nat.le_refl _)
    have h1 := cso_len s.commB
    have := s.small; have := hc.len
    rw [corF_yes h]
    omega
theorem angF_len (r u : List Int) : (angF r u).length ≤ 1048576 := by
  have := (corF_small r u).1
  simp [angF, sortD_len]; omega
theorem strL_len (l : List Int) : (strL l).length ≤ l.length := by
  unfold strL; rw [List.length_map]; exact List.length_filter_le _ _
theorem strF_len (r u : List Int) : (strF r u).length ≤ 1048576 := Nat.le_trans (strL_len _) (angF_len r u)
theorem strL_snoc (l : List Int) (a : Int) : strL (l ++ [a]) = if 1 < a then strL l ++ [a - 1] else strL l := by
  unfold strL
  rw [List.filter_append, List.map_append]
  by_cases h : 1 < a <;> simp [h]
end Go.Proofs.Ytglpiopjhddoeaa.pm
