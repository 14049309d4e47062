/-
  The cycles of a permutation: plain mathematics.
-/
import Derived.Test.YtglpiopjhddoeaaRch
namespace Go.Proofs.Ytglpiopjhddoeaa.pm
open Go.Proofs.Ytglpiopjhddoeaa.arr Go.Proofs.Ytglpiopjhddoeaa.inv Go.Proofs.Ytglpiopjhddoeaa.permOf
set_option linter.unusedVariables false
set_option maxRecDepth 100000

/-- From x on, until f comes again, at most m steps. -/
def cy (ps : List Int) (f : Int) : Nat → Int → List Int → List Int
  | 0, _, acc => acc
  | m + 1, x, acc => if x = f then acc else cy ps f m (ps.getD x.toNat 0) (acc ++ [x])
def cyc (ps : List Int) (n : Nat) (f : Int) : List Int := cy ps f n (ps.getD f.toNat 0) [f]
/-- Numbers from 0 up to n go to such numbers, different ones to different ones. -/
structure Bij (n : Nat) (ps : List Int) : Prop where
  maps : Maps n ps
  inj : ∀ i j : Nat, i < n → j < n → ps.getD i 0 = ps.getD j 0 → i = j
theorem Ok.bij {xs : List Int} (h : Ok xs) : Bij xs.length xs := ⟨h.maps, h.inj⟩
theorem Ok.bijExt {xs : List Int} (h : Ok xs) : Bij xs.length (ext xs) := by
  have hl := h.len
  have e : ∀ i, i < xs.length → (ext xs).getD i 0 = xs.getD i 0 := fun i hi => by rw [ext_at (by omega), if_pos hi]
  refine ⟨fun i hi => by rw [e i hi]; exact h.maps i hi, fun i j hi hj q => ?_⟩
  rw [e i hi, e j hj] at q
  exact h.inj i j hi hj q
/-- acc is a way of p from f on, and x follows. -/
structure Way (n : Nat) (ps : List Int) (f x : Int) (acc : List Int) : Prop where
  head : acc.getD 0 0 = f
  pos : 0 < acc.length
  step : ∀ i, i + 1 < acc.length → acc.getD (i + 1) 0 = ps.getD (acc.getD i 0).toNat 0
  last : x = ps.getD (acc.getD (acc.length - 1) 0).toNat 0
  inn : In n acc
theorem getD_mem {l : List Int} {i : Nat} (h : i < l.length) : l.getD i 0 ∈ l := by
  simp [List.getD, List.getElem?_eq_getElem h]
theorem mem_getD {l : List Int} {x : Int} (h : x ∈ l) : ∃ i, i < l.length ∧ l.getD i 0 = x := by
  obtain ⟨i, hi, e⟩ := List.getElem_of_mem h
  exact ⟨i, hi, by simp [List.getD, List.getElem?_eq_getElem hi, e]⟩
theorem nodup_getD {l : List Int} (h : l.Nodup) {i j : Nat} (hi : i < l.length) (hj : j < l.length) (e : l.getD i 0 = l.getD j 0) : i = j := by
  simp only [List.getD, List.getElem?_eq_getElem hi, List.getElem?_eq_getElem hj, Option.getD_some] at e
  have hp := List.pairwise_iff_getElem.1 h
  rcases Nat.lt_trichotomy i j with q | q | q
  · exact absurd e (hp i j hi hj q)
  · exact q
  · exact absurd e.symm (hp j i hj hi q)
theorem getD_snoc {l : List Int} {x : Int} {i : Nat} : (l ++ [x]).getD i 0 = if i < l.length then l.getD i 0 else if i = l.length then x else 0 := by
  simp only [List.getD, List.getElem?_append]
  split
  · rfl
  · split
    · rename_i e; subst e; simp
    · rw [List.getElem?_eq_none (by simp; omega)]; rfl
theorem Way.x_in {n : Nat} {ps acc : List Int} {f x : Int} (h : Way n ps f x acc) (hb : Bij n ps) : 0 ≤ x ∧ x < n := by
  have hm := getD_mem (l := acc) (i := acc.length - 1) (by have := h.pos; omega)
  have h1 := h.inn.lo _ hm; have h2 := h.inn.hi _ hm
  rw [h.last]
  exact hb.maps _ (by omega)
/-- What follows and is not f is new. -/
theorem Way.fresh {n : Nat} {ps acc : List Int} {f x : Int} (h : Way n ps f x acc) (hb : Bij n ps) (hx : x ≠ f) : ¬ x ∈ acc := by
  intro hm
  obtain ⟨i, hi, e⟩ := mem_getD hm
  have hp := h.pos
  cases i with
  | zero => exact hx (by rw [← e, h.head])
  | succ i =>
    have m1 := getD_mem (l := acc) (i := i) (by omega)
    have m2 := getD_mem (l := acc) (i := acc.length - 1) (by omega)
    have a1 := h.inn.lo _ m1; have a2 := h.inn.hi _ m1; have b1 := h.inn.lo _ m2; have b2 := h.inn.hi _ m2
    have q : ps.getD (acc.getD i 0).toNat 0 = ps.getD (acc.getD (acc.length - 1) 0).toNat 0 := by rw [← h.step i hi, e, h.last]
    have := hb.inj _ _ (by omega) (by omega) q
    have := nodup_getD h.inn.nd (i := i) (j := acc.length - 1) (by omega) (by omega) (by omega)
    omega
theorem Way.next {n : Nat} {ps acc : List Int} {f x : Int} (h : Way n ps f x acc) (hb : Bij n ps) (hx : x ≠ f) : Way n ps f (ps.getD x.toNat 0) (acc ++ [x]) := by
  have hp := h.pos
  have xi := h.x_in hb
  have hf := h.fresh hb hx
  refine ⟨by rw [getD_snoc, if_pos hp]; exact h.head, by simp, fun i hi => ?_, ?_, ?_⟩
  · simp at hi
    rw [getD_snoc, getD_snoc, if_pos (by omega : i < acc.length)]
    by_cases e : i + 1 < acc.length
    · rw [if_pos e]; exact h.step i e
    · rw [if_neg e, if_pos (by omega)]
      have : i = acc.length - 1 := by omega
      rw [this]; exact h.last
  · have : (acc ++ [x]).length - 1 = acc.length := by simp
    rw [this, getD_snoc, if_neg (by omega), if_pos rfl]
  · have := h.inn.add xi.1 xi.2
    unfold add1 at this
    rw [if_neg hf] at this
    exact this
theorem Way.start {n : Nat} {ps : List Int} {f : Int} (h0 : 0 ≤ f) (h1 : f < n) : Way n ps f (ps.getD f.toNat 0) [f] :=
  ⟨rfl, by simp, fun i hi => by simp at hi, rfl, ⟨by simp, fun y hy => by simp at hy; omega, fun y hy => by simp at hy; omega⟩⟩
/-- The state of a walk along a cycle. -/
structure Cw (n : Nat) (ps : List Int) (f x : Int) (acc : List Int) (m : Nat) : Prop where
  way : Way n ps f x acc
  len : acc.length + m = n + 1
  res : cy ps f m x acc = cyc ps n f
theorem Cw.start {n : Nat} {ps : List Int} {f : Int} (h0 : 0 ≤ f) (h1 : f < n) : Cw n ps f (ps.getD f.toNat 0) [f] n := ⟨Way.start h0 h1, by simp; omega, rfl⟩
theorem Cw.pos {n m : Nat} {ps acc : List Int} {f x : Int} (h : Cw n ps f x acc m) : 0 < m := by
  have := h.way.inn.len; have := h.len; omega
theorem Cw.next {n m : Nat} {ps acc : List Int} {f x : Int} (h : Cw n ps f x acc m) (hb : Bij n ps) (hx : x ≠ f) : Cw n ps f (ps.getD x.toNat 0) (acc ++ [x]) (m - 1) := by
  have hp := h.pos
  obtain ⟨k, rfl⟩ : ∃ k, m = k + 1 := ⟨m - 1, by omega⟩
  refine ⟨h.way.next hb hx, by have := h.len; simp; omega, ?_⟩
  have := h.res
  rw [cy, if_neg hx] at this
  exact this
theorem Cw.done {n m : Nat} {ps acc : List Int} {f : Int} (h : Cw n ps f f acc m) : acc = cyc ps n f := by
  have hp := h.pos
  obtain ⟨k, rfl⟩ : ∃ k, m = k + 1 := ⟨m - 1, by omega⟩
  have := h.res
  rw [cy, if_pos rfl] at this
  exact this
/-- A cycle is a way that comes back. -/
theorem Cw.way_of {n : Nat} {ps : List Int} {f : Int} (hb : Bij n ps) : ∀ (m : Nat) (x : Int) (acc : List Int), Cw n ps f x acc m → Way n ps f f (cyc ps n f) := by
  intro m
  induction m with
  | zero => intro x acc h; exact absurd h.pos (by omega)
  | succ m ih =>
    intro x acc h
    by_cases e : x = f
    · subst e; rw [← h.done]; exact h.way
    · exact ih _ _ (h.next hb e)
theorem cyc_way {n : Nat} {ps : List Int} {f : Int} (hb : Bij n ps) (h0 : 0 ≤ f) (h1 : f < n) : Way n ps f f (cyc ps n f) := Cw.way_of hb n _ _ (Cw.start h0 h1)
/-- Whoever goes into a cycle is in it. -/
theorem cyc_back {n : Nat} {ps : List Int} {f : Int} (hb : Bij n ps) (h0 : 0 ≤ f) (h1 : f < n) {y : Nat} (hy : y < n) (h : ps.getD y 0 ∈ cyc ps n f) : (y : Int) ∈ cyc ps n f := by
  have hw := cyc_way hb h0 h1
  have hp := hw.pos
  obtain ⟨i, hi, e⟩ := mem_getD h
  have key : ∀ j, j < (cyc ps n f).length → ps.getD ((cyc ps n f).getD j 0).toNat 0 = ps.getD y 0 → (y : Int) ∈ cyc ps n f := by
    intro j hj q
    have m1 := getD_mem hj
    have a1 := hw.inn.lo _ m1; have a2 := hw.inn.hi _ m1
    have := hb.inj _ _ (by omega) hy q
    have e2 : (cyc ps n f).getD j 0 = (y : Int) := by omega
    rw [← e2]; exact m1
  cases i with
  | zero => exact key ((cyc ps n f).length - 1) (by omega) (by rw [← hw.last, ← e, hw.head])
  | succ i => exact key i (by omega) (by rw [← hw.step i hi, e])
theorem cyc_congr {n : Nat} {ps ps' : List Int} (hb : Bij n ps) (h1 : ∀ i, i < n → ps'.getD i 0 = ps.getD i 0) {f : Int} (h0 : 0 ≤ f) (hf : f < n) : cyc ps' n f = cyc ps n f := by
  have key : ∀ (m : Nat) (x : Int) (acc : List Int), 0 ≤ x → x < n → cy ps' f m x acc = cy ps f m x acc := by
    intro m
    induction m with
    | zero => intros; rfl
    | succ m ih =>
      intro x acc x0 x1
      rw [cy, cy]
      split
      · rfl
      · rw [h1 _ (by omega)]
        have := hb.maps x.toNat (by omega)
        exact ih _ _ this.1 this.2
  unfold cyc
  rw [h1 _ (by omega)]
  have := hb.maps f.toNat (by omega)
  exact key _ _ _ this.1 this.2

/-- The cycles that begin with the numbers up to k. -/
def cso (ps : List Int) (n : Nat) : Nat → List (List Int)
  | 0 => []
  | k + 1 => if (k : Int) ∈ (cso ps n k).flatten then cso ps n k else cso ps n k ++ [cyc ps n (k : Int)]
structure Cs (n : Nat) (ps : List Int) (k : Nat) (out : List (List Int)) : Prop where
  inn : In n out.flatten
  back : ∀ y : Nat, y < n → ps.getD y 0 ∈ out.flatten → (y : Int) ∈ out.flatten
  all : ∀ i : Nat, i < k → (i : Int) ∈ out.flatten
  len : out.length ≤ k
theorem cso_cs {n : Nat} {ps : List Int} (hb : Bij n ps) (k : Nat) (hk : k ≤ n) : Cs n ps k (cso ps n k) := by
  induction k with
  | zero => exact ⟨⟨by simp [cso], fun x hx => by simp [cso] at hx, fun x hx => by simp [cso] at hx⟩, fun y _ h => by simp [cso] at h, fun i hi => by omega, Nat.le_refl _⟩
  | succ k ih =>
    have h := ih (by omega)
    rw [cso]
    split
    · rename_i hm
      refine ⟨h.inn, h.back, fun i hi => ?_, by have := h.len; omega⟩
      by_cases e : i = k
      · subst e; exact hm
      · exact h.all i (by omega)
    · rename_i hm
      have hw := cyc_way (f := (k : Int)) hb (by omega) (by omega)
      have hf : (cso ps n k ++ [cyc ps n (k : Int)]).flatten = (cso ps n k).flatten ++ cyc ps n (k : Int) := by simp
      -- the new cycle meets none of the others
      have dis : ∀ i, i < (cyc ps n (k : Int)).length → ¬ (cyc ps n (k : Int)).getD i 0 ∈ (cso ps n k).flatten := by
        intro i
        induction i with
        | zero => intro _ q; rw [hw.head] at q; exact hm q
        | succ i ihi =>
          intro hi q
          rw [hw.step i hi] at q
          have m1 := getD_mem (l := cyc ps n (k : Int)) (i := i) (by omega)
          have a1 := hw.inn.lo _ m1; have a2 := hw.inn.hi _ m1
          have := h.back _ (by omega) q
          rw [Int.toNat_of_nonneg a1] at this
          exact ihi (by omega) this
      have cm : (k : Int) ∈ cyc ps n (k : Int) := by
        have := getD_mem (l := cyc ps n (k : Int)) (i := 0) hw.pos
        rw [hw.head] at this; exact this
      refine ⟨⟨?_, fun x hx => ?_, fun x hx => ?_⟩, fun y hy q => ?_, fun i hi => ?_, by have := h.len; simp; omega⟩
      · rw [hf, List.nodup_append]
        refine ⟨h.inn.nd, hw.inn.nd, fun a ha b hb' e => ?_⟩
        obtain ⟨i, hi, e2⟩ := mem_getD hb'
        exact dis i hi (by rw [e2, ← e]; exact ha)
      · rw [hf] at hx
        rcases List.mem_append.1 hx with hx | hx
        · exact h.inn.lo x hx
        · exact hw.inn.lo x hx
      · rw [hf] at hx
        rcases List.mem_append.1 hx with hx | hx
        · exact h.inn.hi x hx
        · exact hw.inn.hi x hx
      · rw [hf] at q ⊢
        rcases List.mem_append.1 q with q | q
        · exact List.mem_append.2 (.inl (h.back y hy q))
        · exact List.mem_append.2 (.inr (cyc_back hb (by omega) (by omega) hy q))
      · rw [hf]
        by_cases e : i = k
        · subst e; exact List.mem_append.2 (.inr cm)
        · exact List.mem_append.2 (.inl (h.all i (by omega)))
theorem cso_congr {n : Nat} {ps ps' : List Int} (hb : Bij n ps) (h1 : ∀ i, i < n → ps'.getD i 0 = ps.getD i 0) (k : Nat) (hk : k ≤ n) : cso ps' n k = cso ps n k := by
  induction k with
  | zero => rfl
  | succ k ih => rw [cso, cso, ih (by omega), cyc_congr hb h1 (by omega) (by omega)]
def cycF (xs : List Int) : List (List Int) := if okB xs then cso xs xs.length xs.length else []
theorem flatten_len (l : List (List Int)) : l.flatten.length = (l.map List.length).sum := by simp [List.length_flatten]
theorem cycF_small (xs : List Int) : (cycF xs).length ≤ 1048576 ∧ ((cycF xs).map List.length).sum ≤ 1048576 := by
  unfold cycF; split
  · rename_i h
    have ok := Ok.of xs h
    have hl := ok.len
    have hc := cso_cs ok.bij xs.length (Nat.le_refl _)
    have h1 := hc.inn.len; have h2 := hc.len
    rw [flatten_len] at h1
    exact ⟨by omega, by omega⟩
  · simp
theorem cycF_ext {xs : List Int} (h : Ok xs) : cso (ext xs) xs.length xs.length = cso xs xs.length xs.length := by
  have hl := h.len
  exact cso_congr h.bij (fun i hi => by rw [ext_at (by omega), if_pos hi]) _ (Nat.le_refl _)
end Go.Proofs.Ytglpiopjhddoeaa.pm
