/-
  What the cylinders add up to: mathematics alone.
-/
import Derived.Test.YtglpiopjhddoeaaY08
namespace Go.Proofs.Ytglpiopjhddoeaa.cy
open Go.Proofs.Ytglpiopjhddoeaa.pm Go.Proofs.Ytglpiopjhddoeaa.arr
set_option linter.unusedVariables false
set_option maxRecDepth 100000

/-- The lengths of the marked rows, added up. -/
def wsum : List Bool → List (List Int) → Nat
  | b :: M, xs :: R => (if b then xs.length else 0) + wsum M R
  | _, _ => 0
theorem cnt_cons (b : Bool) (M : List Bool) : cnt (b :: M) = (if b then 1 else 0) + cnt M := by
  unfold cnt
  rw [List.count_cons]
  cases b <;> simp <;> omega
theorem wsum_more {l : Nat} : ∀ {M M' : List Bool} {R : List (List Int)}, M.length = R.length → M'.length = R.length → (∀ j, on M j → on M' j) → (∀ (j : Nat) (xs : List Int), R[j]? = some xs → on M' j → ¬ on M j → xs.length = l) →
    wsum M' R + l * cnt M = wsum M R + l * cnt M' ∧ cnt M ≤ cnt M'
  | [], [], [], _, _, _, _ => by simp [wsum]
  | [], _ :: _, [], _, h2, _, _ => by simp at h2
  | _ :: _, _, [], h1, _, _, _ => by simp at h1
  | [], _, _ :: _, h1, _, _, _ => by simp at h1
  | _ :: _, [], _ :: _, _, h2, _, _ => by simp at h2
  | b :: M, b' :: M', xs :: R, h1, h2, h3, h4 => by
    obtain ⟨ih, ih2⟩ := wsum_more (l := l) (M := M) (M' := M') (R := R) (by simpa using h1) (by simpa using h2) (fun j hj => by have := h3 (j + 1); simpa [on] using this (by simpa [on] using hj)) (fun j ys hy a b => h4 (j + 1) ys (by simpa using hy) (by simpa [on] using a) (by simpa [on] using b))
    rw [wsum, wsum, cnt_cons, cnt_cons]
    cases b with
    | true =>
      have : b' = true := by have := h3 0; simpa [on] using this
      subst this
      simp only [if_true]
      refine ⟨?_, by omega⟩
      rw [Nat.mul_add, Nat.mul_add]
      omega
    | false =>
      cases b' with
      | false => simp; exact ⟨ih, ih2⟩
      | true =>
        have := h4 0 xs rfl (by simp [on]) (by simp [on])
        simp only [if_true, Bool.false_eq_true, if_false, Nat.mul_add, Nat.mul_one, Nat.zero_add]
        refine ⟨?_, by omega⟩
        omega
theorem wsum_all : ∀ {M : List Bool} {R : List (List Int)}, M.length = R.length → (∀ j, j < R.length → on M j) → wsum M R = (R.map List.length).sum ∧ cnt M = R.length
  | [], [], _, _ => by simp [wsum, cnt]
  | b :: M, xs :: R, h1, h2 => by
    obtain ⟨a, c⟩ := wsum_all (M := M) (R := R) (by simpa using h1) (fun j hj => by have := h2 (j + 1) (by simp; omega); simpa [on] using this)
    have : b = true := by have := h2 0 (by simp); simpa [on] using this
    subst this
    rw [wsum, cnt_cons]
    simp [a, c]; omega
theorem wsum_none : ∀ (R : List (List Int)), wsum (List.replicate R.length false) R = 0 ∧ cnt (List.replicate R.length false) = 0
  | [] => by simp [wsum, cnt]
  | xs :: R => by
    obtain ⟨a, b⟩ := wsum_none R
    rw [List.length_cons, List.replicate_succ, wsum, cnt_cons]
    simp [a, b]
def aS (L : List (Int × Int)) : Int := (L.map fun x => x.1 * x.2).sum
def hS (L : List (Int × Int)) : Int := (L.map fun x => x.2).sum
theorem aS_app (L : List (Int × Int)) (x : Int × Int) : aS (L ++ [x]) = aS L + x.1 * x.2 := by simp [aS]
theorem hS_app (L : List (Int × Int)) (x : Int × Int) : hS (L ++ [x]) = hS L + x.2 := by simp [hS]
structure Cyl (ab : List Int) (rr : List (List Int)) (i : Nat) : Prop where
  area : aS (cyS ab rr i).2 = wsum (cyS ab rr i).1 rr
  high : hS (cyS ab rr i).2 = cnt (cyS ab rr i).1
  all : ∀ j, j < i → on (cyS ab rr i).1 j
  each : ∀ x ∈ (cyS ab rr i).2, ∃ w h : Nat, x = ((w : Int), (h : Int)) ∧ 1 ≤ w ∧ 1 ≤ h ∧ ∃ (j : Nat) (xs : List Int), rr[j]? = some xs ∧ xs.length = w
theorem cyl_ok {n : Nat} {r u : List Int} (s : Sf n r u) {rr : List (List Int)} (h : Rws n r rr) : ∀ i, i ≤ rr.length → Cyl (abF (comm r u) u rr) rr i
  | 0, _ => by
    obtain ⟨a, b⟩ := wsum_none rr
    exact ⟨by simp [cyS, aS, a], by simp [cyS, hS, b], fun j hj => by omega, fun x hx => by simp [cyS] at hx⟩
  | i + 1, hi => by
    have ih := cyl_ok s h i (by omega)
    have inj := ab_inj s h
    obtain ⟨o1, o2, o3⟩ := cyS_ok inj i (by omega)
    by_cases q : (cyS (abF (comm r u) u rr) rr i).1[i]? = some true
    · have e := cyS_yes q
      refine ⟨by rw [e]; exact ih.area, by rw [e]; exact ih.high, fun j hj => ?_, by rw [e]; exact ih.each⟩
      rw [e]
      by_cases z : j = i
      · subst z; exact q
      · exact ih.all j (by omega)
    · have e := cyS_no (not_on (by omega) q)
      have hx : rr[i]? = some rr[i] := List.getElem?_eq_getElem (by omega)
      have hD : rr.getD i [] = rr[i] := by simp [List.getD, hx]
      rw [hD] at e
      have ia := ih.area; have ib := ih.high; have ic := ih.all; have ie := ih.each
      clear ih
      generalize hM : (cyS (abF (comm r u) u rr) rr i).1 = M at *
      generalize hL : (cyS (abF (comm r u) u rr) rr i).2 = L at *
      have sub : ∀ j, on M j → on (clos rr.length (abF (comm r u) u rr) M i) j := fun j hj => clos_sub o1 hj
      have same : ∀ (j : Nat) (xs : List Int), rr[j]? = some xs → on (clos rr.length (abF (comm r u) u rr) M i) j → ¬ on M j → xs.length = rr[i].length := by
        intro j xs hj hon hno
        have hjl := (List.getElem?_eq_some_iff.1 hj).1
        have hT := (clos_on hjl).1 hon (fun k => on M k ∨ ∃ ys, rr[k]? = some ys ∧ ys.length = rr[i].length) (fun a x ha hax => ?_) (fun k hk => .inl hk) (.inr ⟨_, hx, rfl⟩)
        · rcases hT with z | ⟨ys, z1, z2⟩
          · exact absurd z hno
          · rw [hj] at z1; obtain rfl := Option.some.inj z1; exact z2
        · have hxl : x < rr.length := by have := inj.rng a ha; omega
          have ea := List.getElem?_eq_getElem ha
          have ex := List.getElem?_eq_getElem hxl
          have hlen := ab_len s h ha hax ea ex
          constructor
          · rintro (z | ⟨ys, z1, z2⟩)
            · exact .inl ((o2 a x ha hax).1 z)
            · rw [ea] at z1; obtain rfl := Option.some.inj z1
              exact .inr ⟨_, ex, by omega⟩
          · rintro (z | ⟨ys, z1, z2⟩)
            · exact .inl ((o2 a x ha hax).2 z)
            · rw [ex] at z1; obtain rfl := Option.some.inj z1
              exact .inr ⟨_, ea, by omega⟩
      obtain ⟨w1, w2⟩ := wsum_more (l := rr[i].length) o1 (clos_len _ _ _ _) sub same
      have hnew : cnt M < cnt (clos rr.length (abF (comm r u) u rr) M i) := by
        have hs := clos_self (ab := abF (comm r u) u rr) (M := M) (show i < rr.length by omega)
        have hcm : M[i]? = some false := not_on (by omega) q
        obtain ⟨_, w3⟩ := wsum_more (l := rr[i].length) (M := M.set i true) (M' := clos rr.length (abF (comm r u) u rr) M i) (R := rr) (by rw [List.length_set]; exact o1) (clos_len _ _ _ _) (fun j hj => by
          rcases (on_set (by omega)).1 hj with z | z
          · subst z; exact hs
          · exact sub j z) (fun j xs a b c => same j xs a b (fun z => c ((on_set (by omega)).2 (.inr z))))
        rw [cnt_set hcm] at w3
        omega
      refine ⟨?_, ?_, fun j hj => ?_, fun x hx2 => ?_⟩
      · rw [e]
        show aS (L ++ [_]) = _
        rw [aS_app, ia]
        show (wsum M rr : Int) + (rr[i].length : Int) * ((cnt (clos rr.length (abF (comm r u) u rr) M i) - cnt M : Nat) : Int) = (wsum (clos rr.length (abF (comm r u) u rr) M i) rr : Int)
        have : wsum M rr + rr[i].length * (cnt (clos rr.length (abF (comm r u) u rr) M i) - cnt M) = wsum (clos rr.length (abF (comm r u) u rr) M i) rr := by
          rw [Nat.mul_sub]
          have := Nat.mul_le_mul_left rr[i].length w2
          omega
        rw [← this]; simp
      · rw [e]
        show hS (L ++ [_]) = _
        rw [hS_app, ib]
        show (cnt M : Int) + ((cnt (clos rr.length (abF (comm r u) u rr) M i) - cnt M : Nat) : Int) = (cnt (clos rr.length (abF (comm r u) u rr) M i) : Int)
        omega
      · rw [e]
        by_cases z : j = i
        · subst z; exact clos_self (by omega)
        · exact sub j (ic j (by omega))
      · rw [e] at hx2
        rcases List.mem_append.1 hx2 with z | z
        · exact ie x z
        · obtain rfl : x = _ := by simpa using z
          exact ⟨rr[i].length, _, rfl, (h.head hx).1, by omega, i, _, hx, rfl⟩
end Go.Proofs.Ytglpiopjhddoeaa.cy
