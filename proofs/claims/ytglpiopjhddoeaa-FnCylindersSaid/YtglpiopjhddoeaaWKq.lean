/-
  What FnCylinders asks, of lists: mathematics alone.
-/
import Derived.Test.YtglpiopjhddoeaaWKb
import Derived.Test.YtglpiopjhddoeaaWKo
namespace Go.Proofs.Ytglpiopjhddoeaa.cy
open Go.Proofs.Ytglpiopjhddoeaa.pm Go.Proofs.Ytglpiopjhddoeaa.arr
set_option linter.unusedVariables false
set_option maxRecDepth 100000

theorem areaGo_sum : ∀ {L : List Cy} {s : Int}, (∀ x ∈ L, 1 ≤ x.1 ∧ x.1 ≤ 24 ∧ 1 ≤ x.2 ∧ x.2 ≤ 24) → areaGo L s = s + aS L
  | [], s, _ => by simp [areaGo, aS]
  | x :: t, s, h => by
    have e : aS (x :: t) = x.1 * x.2 + aS t := by simp [aS]
    rw [areaGo, if_pos (h x (by simp)), areaGo_sum (fun y hy => h y (by simp [hy])), e]
    omega
structure Fc (r u : List Int) (L : List Cy) (rr : List (List Int)) : Prop where
  area : areaF L = r.length
  pos : 0 < L.length
  le : L.length ≤ rr.length
  small : rr.length ≤ 24
  high : hS L = rr.length
  each : ∀ x ∈ L, 1 ≤ x.1 ∧ x.1 ≤ 24 ∧ 1 ≤ x.2 ∧ x.2 ≤ 24
  sw : Sw r.length r u rr
theorem fc_ok {r u : List Int} (h : transB r u = true) : Fc r u (cyF r u) (cycF r) := by
  obtain ⟨a, b, c⟩ := cyl_all h
  have sw := cycF_rows h rfl
  have n24 : r.length ≤ 24 := sw.sf.small
  have hl : (cyF r u).length ≤ (cycF r).length := by
    rw [cyF_yes h]
    exact (cyS_ok (ab_inj sw.sf sw.rw) (cycF r).length (Nat.le_refl _)).2.2
  have ev : ∀ x ∈ cyF r u, 1 ≤ x.1 ∧ x.1 ≤ 24 ∧ 1 ≤ x.2 ∧ x.2 ≤ 24 := fun x hx => by
    obtain ⟨w, hh, e, h1, h2, h3⟩ := c x hx
    have := (wS_le c).2.1 x hx
    have := sw.rw.len
    rw [e] at *
    dsimp only at *
    omega
  refine ⟨?_, ?_, hl, by have := sw.rw.len; omega, b, ev, sw⟩
  · rw [areaF, if_neg (by have := sw.rw.len; omega), areaGo_sum ev, a]; omega
  · rcases Nat.eq_zero_or_pos (cyF r u).length with z | z
    · have e := List.eq_nil_of_length_eq_zero z
      rw [e] at a
      have := sw.sf.pos
      simp [aS] at a
      omega
    · exact z
theorem hS_take {L : List Cy} (h : ∀ x ∈ L, 1 ≤ x.1 ∧ x.1 ≤ 24 ∧ 1 ≤ x.2 ∧ x.2 ≤ 24) : ∀ k, 0 ≤ hS (L.take k) ∧ hS (L.take k) ≤ 24 * k
  | 0 => by simp [hS]
  | k + 1 => by
    obtain ⟨a, b⟩ := hS_take h k
    rw [List.take_add_one]
    cases e : L[k]? with
    | none => simp; omega
    | some x =>
      have := h x (List.mem_of_getElem? e)
      simp only [Option.toList_some]
      rw [hS_app]
      omega
theorem hS_next {L : List Cy} {k : Nat} {x : Cy} (h : L[k]? = some x) : hS (L.take (k + 1)) = hS (L.take k) + x.2 := by
  rw [List.take_add_one, h]
  simp only [Option.toList_some]
  rw [hS_app]
/-- The row above has the same length. -/
theorem above_len {r u : List Int} (h : transB r u = true) {k j : Nat} {xs ys : List Int} (hk : (cycF r)[k]? = some xs) (hj : (cycF r)[j]? = some ys) (hm : raF r u (xs.getD 0 0) ∈ ys) : ys.length = xs.length := by
  have sw := cycF_rows h rfl
  have hd := (sw.rw.head hk).2
  obtain ⟨a, b⟩ := sw.rw.rng hk hd
  rw [raF_yes h a b, raG, sw.rw.rix hk hd, Int.toNat_natCast] at hm
  split at hm
  · have := (sw.rw.rng hj hm).1; omega
  · rename_i q
    obtain ⟨z, hz⟩ : ∃ z : Nat, at_ (abF (comm r u) u (cycF r)) k = z := ⟨(at_ (abF (comm r u) u (cycF r)) k).toNat, by omega⟩
    rw [hz, Int.toNat_natCast] at hm
    have hkl := (List.getElem?_eq_some_iff.1 hk).1
    have inj := ab_inj sw.sf sw.rw
    have hzl : z < (cycF r).length := by have := inj.rng k hkl; omega
    have ez := List.getElem?_eq_getElem hzl
    have eD : (cycF r).getD z [] = (cycF r)[z] := by simp [List.getD, ez]
    rw [eD] at hm
    have : z = j := sw.rw.same ez hj (sw.rw.head ez).2 hm
    subst this
    rw [hj] at ez
    obtain rfl := Option.some.inj ez
    exact ab_len sw.sf sw.rw hkl hz hk hj
end Go.Proofs.Ytglpiopjhddoeaa.cy
