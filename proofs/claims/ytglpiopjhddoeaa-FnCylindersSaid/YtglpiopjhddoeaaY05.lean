import Derived.Test.YtglpiopjhddoeaaY04
/-
  The cycles of a permutation: plain mathematics.
-/
namespace Go.Proofs.Ytglpiopjhddoeaa.pm
open Go.Proofs.Ytglpiopjhddoeaa.arr Go.Proofs.Ytglpiopjhddoeaa.inv Go.Proofs.Ytglpiopjhddoeaa.permOf
set_option linter.unusedVariables false
set_option maxRecDepth 100000

/-- From x on, until f comes again, at most m steps. -/
def cy (ps : List Int) (f : Int) : Nat → Int → List Int → List Int
  | 0, _, acc => acc
  | m + 1, x, acc => if x = f then acc else cy ps f m (ps.getD x.toNat 0) (acc ++ [x])
def cyc (ps : List Int) (n : Nat) (f : Int) : List Int := cy ps f n (ps.getD f.toNat 0) [f]
/-- Numbers from 0 up to n go to such numbers, different ones to different ones. -/
structure Bij (n : Nat) (ps : List Int) : Prop where
  maps : Maps n ps
  inj : ∀ i j : Nat, i < n → j < n → ps.getD i 0 = ps.getD j 0 → i = j
theorem Ok.bij {xs : List Int} (h : Ok xs) : Bij xs.length xs := ⟨h.maps, h.inj⟩
theorem Ok.bijExt {xs : List Int} (h : Ok xs) : Bij xs.length (ext xs) := by
  have hl := h.len
  have e : ∀ i, i < xs.length → (ext xs).getD i 0 = xs.getD i 0 := fun i hi => by rw [ext_at (by omega), if_pos hi]
  refine ⟨fun i hi => by rw [e i hi]; exact h.maps i hi, fun i j hi hj q => ?_⟩
  rw [e i hi, e j hj] at q
  exact h.inj i j hi hj q
/-- acc is a way of p from f on, and x follows. -/
structure Way (n : Nat) (ps : List Int) (f x : Int) (acc : List Int) : Prop where
  head : acc.getD 0 0 = f
  pos : 0 < acc.length
  step : ∀ i, i + 1 < acc.length → acc.getD (i + 1) 0 = ps.getD (acc.getD i 0).toNat 0
  last : x = ps.getD (acc.getD (acc.length - 1) 0).toNat 0
  inn : In n acc
theorem getD_mem {l : List Int} {i : Nat} (h : i < l.length) : l.getD i 0 ∈ l := by
  simp [List.getD, List.getElem?_eq_getElem h]
theorem mem_getD {l : List Int} {x : Int} (h : x ∈ l) : ∃ i, i < l.length ∧ l.getD i 0 = x := by
  obtain ⟨i, hi, e⟩ := List.getElem_of_mem h
  exact ⟨i, hi, by simp [List.getD, List.getElem?_eq_getElem hi, e]⟩
theorem nodup_getD {l : List Int} (h : l.Nodup) {i j : Nat} (hi : i < l.length) (hj : j < l.length) (e : l.getD i 0 = l.getD j 0) : i = j := by
  simp only [List.getD, List.getElem?_eq_getElem hi, List.getElem?_eq_getElem hj, Option.getD_some] at e
  have hp := List.pairwise_iff_getElem.1 h
  rcases Nat.lt_trichotomy i j with q | q | q
  · exact absurd e (hp i j hi hj q)
  · exact q
  · exact absurd e.symm (hp j i hj hi q)
theorem getD_snoc {l : List Int} {x : Int} {i : Nat} : (l ++ [x]).getD i 0 = if i < l.length then l.getD i 0 else if i = l.length then x else 0 := by
  simp only [List.getD, List.getElem?_append]
  split
  · rfl
  · split
    · rename_i e; subst e; simp
    · rw [List.getElem?_eq_none (by simp; omega)]; rfl
theorem Way.x_in {n : Nat} {ps acc : List Int} {f x : Int} (h : Way n ps f x acc) (hb : Bij n ps) : 0 ≤ x ∧ x < n := by
  have hm := getD_mem (l := acc) (i := acc.length - 1) (by have := h.pos; omega)
  have h1 := h.inn.lo _ hm; have h2 := h.inn.hi _ hm
  rw [h.last]
  exact hb.maps _ (by omega)
/-- What follows and is not f is new. -/
theorem Way.fresh {n : Nat} {ps acc : List Int} {f x : Int} (h : Way n ps f x acc) (hb : Bij n ps) (hx : x ≠ f) : ¬ x ∈ acc := by
  intro hm
  obtain ⟨i, hi, e⟩ := mem_getD hm
  have hp := h.pos
  cases i with
  | zero => exact hx (by rw [← e, h.head])
  | succ i =>
    have m1 := getD_mem (l := acc) (i := i) (by omega)
    have m2 := getD_mem (l := acc) (i := acc.length - 1) (by omega)
    have a1 := h.inn.lo _ m1; have a2 := h.inn.hi _ m1; have b1 := h.inn.lo _ m2; have b2 := h.inn.hi _ m2
    have q : ps.getD (acc.getD i 0).toNat 0 = ps.getD (acc.getD (acc.length - 1) 0).toNat 0 := by rw [← h.step i hi, e, h.last]
    have := hb.inj _ _ (by omega) (by omega) q
    have := nodup_getD h.inn.nd (i := i) (j := acc.length - 1) (by omega) (by omega) (by omega)
    omega
theorem Way.next {n : Nat} {ps acc : List Int} {f x : Int} (h : Way n ps f x acc) (hb : Bij n ps) (hx : x ≠ f) : Way n ps f (ps.getD x.toNat 0) (acc ++ [x]) := by
  have hp := h.pos
  have xi := h.x_in hb
  have hf := h.fresh hb hx
  refine ⟨by rw [getD_snoc, if_pos hp]; exact h.head, by simp, fun i hi => ?_, ?_, ?_⟩
  · simp at hi
    rw [getD_snoc, getD_snoc, if_pos (by omega : i < acc.length)]
    by_cases e : i + 1 < acc.length
    · rw [if_pos e]; exact h.step i e
    · rw [if_neg e, if_pos (by omega)]
      have : i = acc.length - 1 := by omega
      rw [this]; exact h.last
  · have : (acc ++ [x]).length - 1 = acc.length := by simp
    rw [this, getD_snoc, if_neg (by omega), if_pos rfl]
  · have := h.inn.add xi.1 xi.2
    unfold add1 at this
    rw [if_neg hf] at this
    exact this
theorem Way.start {n : Nat} {ps : List Int} {f : Int} (h0 : 0 ≤ f) (h1 : f < n) : Way n ps f (ps.getD f.toNat 0) [f] :=
  ⟨rfl, by simp, fun i hi => by simp at hi, rfl, ⟨by simp, fun y hy => by simp at hy; omega, fun y hy => by simp at hy; omega⟩⟩
/-- The state of a walk along a cycle. -/
structure Cw (n : Nat) (ps : List Int) (f x : Int) (acc : List Int) (m : Nat) : Prop where
  way : Way n ps f x acc
  len : acc.length + m = n + 1
  res : cy ps f m x acc = cyc ps n f
theorem Cw.start {n : Nat} {ps : List Int} {f : Int} (h0 : 0 ≤ f) (h1 : f < n) : Cw n ps f (ps.getD f.toNat 0) [f] n := ⟨Way.start h0 h1, by simp; omega, rfl⟩
theorem Cw.pos {n m : Nat} {ps acc : List Int} {f x : Int} (h : Cw n ps f x acc m) : 0 < m := by
  have := h.way.inn.len; have := h.len; omega
theorem Cw.next {n m : Nat} {ps acc : List Int} {f x : Int} (h : Cw n ps f x acc m) (hb : Bij n ps) (hx : x ≠ f) : Cw n ps f (ps.getD x.toNat 0) (acc ++ [x]) (m - 1) := by
  have hp := h.pos
  obtain ⟨k, rfl⟩ : ∃ k, m = k + 1 := ⟨m - 1, by omega⟩
  refine ⟨h.way.next hb hx, by have := h.len; simp; omega, ?_⟩
  have := h.res
  rw [cy, if_neg hx] at this
  exact this
theorem Cw.done {n m : Nat} {ps acc : List Int} {f : Int} (h : Cw n ps f f acc m) : acc = cyc ps n f := by
  have hp := h.pos
  obtain ⟨k, rfl⟩ : ∃ k, m = k + 1 := ⟨m - 1, by omega⟩
  have := h.res
  rw [cy, if_pos rfl] at this
  exact this
/-- A cycle is a way that comes back. -/
theorem Cw.way_of {n : Nat} {ps : List Int} {f : Int} (hb : Bij n ps) : ∀ (m : Nat) (x : Int) (acc : List Int), Cw n ps f x acc m → Way n ps f f (cyc ps n f) := by
  intro m
  induction m with
  | zero => intro x acc h; exact absurd h.pos (by omega)
  | succ m ih =>
    intro x acc h
    by_cases e : x = f
    · subst e; rw [← h.done]; exact h.way
    · exact ih _ _ (h.next hb e)
theorem cyc_way {n : Nat} {ps : List Int} {f : Int} (hb : Bij n ps) (h0 : 0 ≤ f) (h1 : f < n) : Way n ps f f (cyc ps n f) := Cw.way_of hb n _ _ (Cw.start h0 h1)
/-- Whoever goes into a cycle is in it. -/
theorem cyc_back {n : Nat} {ps : List Int} {f : Int} (hb : Bij n ps) (h0 : 0 ≤ f) (h1 : f < n) {y : Nat} (hy : y < n) (h : ps.getD y 0 ∈ cyc ps n f) : (y : Int) ∈ cyc ps n f := by
  have hw := cyc_way hb h0 h1
  have hp := hw.pos
  obtain ⟨i, hi, e⟩ := mem_getD h
  have key : ∀ j, j < (cyc ps n f).length → ps.getD ((cyc ps n f).getD j 0).toNat 0 = ps.getD y 0 → (y : Int) ∈ cyc ps n f := by
    intro j hj q
    have m1 := getD_mem hj
    have a1 := hw.inn.lo _ m1; have a2 := hw.inn.hi _ m1
    have := hb.inj _ _ (by omega) hy q
    have e2 : (cyc ps n f).getD j 0 = (y : Int) := by omega
    rw [← e2]; exact m1
  cases i with
  | zero => exact key ((cyc ps n f).length - 1) (by omega) (by rw [← hw.last, ← e, hw.head])
  | succ i => exact key i (by omega) (by rw [← hw.step i hi, e])
theorem cyc_congr {n : Nat} {ps ps' : List Int} (hb : Bij n ps) (h1 : ∀ i, i < n → ps'.getD i 0 = ps.getD i 0) {f : Int} (h0 : 0 ≤ f) (hf : f < n) : cyc ps' n f = cyc ps n f := by
  have key : ∀ (m : Nat) (x : Int) (acc : List Int), 0 ≤ x → x < n → cy ps' f m x acc = cy ps f m x acc := by
    intro m
    induction m with
    | zero => intros; rfl
    | succ m ih =>
      intro x acc x0 x1
      rw [cy, cy]
      split
      · rfl
      · rw [h1 _ (by omega)]
        have := hb.maps x.toNat (by omega)
        exact ih _ _ this.1 this.2
  unfold cyc
  rw [h1 _ (by omega)]
  have := hb.maps f.toNat (by omega)
  exact key _ _ _ this.1 this.2

/-- The cycles that begin with the numbers up to k. -/
def cso (ps : List Int) (n : Nat) : Nat → List (List Int)
  | 0 => []
  | k + 1 => if (k : Int) ∈ (cso ps n k).flatten then cso ps n k else cso ps n k ++ [cyc ps n (k : Int)]
structure Cs (n : Nat) (ps : List Int) (k : Nat) (out : List (List Int)) : Prop where
  inn : In n out.flatten
  back : ∀ y : Nat, y < n → ps.getD y 0 ∈ out.flatten → (y : Int) ∈ out.flatten
  all : ∀ i : Nat, i < k → (i : Int) ∈ out.flatten
  len : out.length ≤ k
theorem cso_cs {n : Nat} {ps : List Int} (hb : Bij n ps) (k : Nat) (hk : k ≤ n) : Cs n ps k (cso ps n k) := by
  induction k with
  | zero => exact ⟨⟨by simp [cso], fun x hx => by simp [cso] at hx, fun x hx => by simp [cso] at hx⟩, fun y _ h => by simp [cso] at h, fun i hi => by omega, Nat.le_refl _⟩
  | succ k ih =>
    have h := ih (by omega)
    rw [cso]
    split
    · rename_i hm
      refine ⟨h.inn, h.back, fun i hi => ?_, by have := h.len; omega⟩
      by_cases e : i = k
      · subst e; exact hm
      · exact h.all i (by omega)
    · rename_i hm
      have hw := cyc_way (f := (k : Int)) hb (by omega) (by omega)
      have hf : (cso ps n k ++ [cyc ps n (k : Int)]).flatten = (cso ps n k).flatten ++ cyc ps n (k : Int) := by simp
      -- the new cycle meets none of the others
      have dis : ∀ i, i < (cyc ps n (k : Int)).length → ¬ (cyc ps n (k : Int)).getD i 0 ∈ (cso ps n k).flatten := by
        intro i
        induction i with
        | zero => intro _ q; rw [hw.head] at q; exact hm q
        | succ i ihi =>
          intro hi q
          rw [hw.step i hi] at q
          have m1 := getD_mem (l := cyc ps n (k : Int)) (i := i) (by omega)
          have a1 := hw.inn.lo _ m1; have a2 := hw.inn.hi _ m1
          have := h.back _ (by omega) q
          rw [Int.toNat_of_nonneg a1] at this
          exact ihi (by omega) this
      have cm : (k : Int) ∈ cyc ps n (k : Int) := by
        have := getD_mem (l := cyc ps n (k : Int)) (i := 0) hw.pos
        rw [hw.head] at this; exact this
      refine ⟨⟨?_, fun x hx => ?_, fun x hx => ?_⟩, fun y hy q => ?_, fun i hi => ?_, by have := h.len; simp; omega⟩
      · rw [hf, List.nodup_append]
        refine ⟨h.inn.nd, hw.inn.nd, fun a ha b hb' e => ?_⟩
        obtain ⟨i, hi, e2⟩ := mem_getD hb'
        exact dis i hi (by rw [e2, ← e]; exact ha)
      · rw [hf] at hx
        rcases List.mem_append.1 hx with hx | hx
        · exact h.inn.lo x hx
        · exact hw.inn.lo x hx
      · rw [hf] at hx
        rcases List.mem_append.1 hx with hx | hx
        · exact h.inn.hi x hx
        · exact hw.inn.hi x hx
      · rw [hf] at q ⊢
        rcases List.mem_append.1 q with q | q
        · exact List.mem_append.2 (.inl (h.back y hy q))
        · exact List.mem_append.2 (.inr (cyc_back hb (by omega) (by omega) hy q))
      · rw [hf]
        by_cases e : i = k
        · subst e; exact List.mem_append.2 (.inr cm)
        · exact List.mem_append.2 (.inl (h.all i (by omega)))
theorem cso_congr {n : Nat} {ps ps' : List Int} (hb : Bij n ps) (h1 : ∀ i, i < n → ps'.getD i 0 = ps.getD i 0) (k : Nat) (hk : k ≤ n) : cso ps' n k = cso ps n k := by
  induction k with
  | zero => rfl
  | succ k ih => rw [cso, cso, ih (by omega), cyc_congr hb h1 (by omega) (by omega)]
def cycF (xs : List Int) : List (List Int) := if okB xs then cso xs xs.length xs.length else []
theorem flatten_len (l : List (List Int)) : l.flatten.length = (l.map List.length).sum := by simp [List.length_flatten]
theorem cycF_small (xs : List Int) : (cycF xs).length ≤ 1048576 ∧ ((cycF xs).map List.length).sum ≤ 1048576 := by
  unfold cycF; split
  · rename_i h
    have ok := Ok.of xs h
    have hl := ok.len
    have hc := cso_cs ok.bij xs.length (Nat.le_refl _)
    have h1 := hc.inn.len; have h2 := hc.len
    rw [flatten_len] at h1
    exact ⟨by omega, by omega⟩
  · simp
theorem cycF_ext {xs : List Int} (h : Ok xs) : cso (ext xs) xs.length xs.length = cso xs xs.length xs.length := by
  have hl := h.len
  exact cso_congr h.bij (fun i hi => by rw [ext_at (by omega), if_pos hi]) _ (Nat.le_refl _)
end Go.Proofs.Ytglpiopjhddoeaa.pm

/-
  Rows above rows: a partial injection on places, the least closed set about a place, and the two walks that mark it; mathematics alone.
-/
namespace Go.Proofs.Ytglpiopjhddoeaa.cy
set_option linter.unusedVariables false
set_option maxRecDepth 100000

/-- The place above, or -1. -/
def at_ (ab : List Int) (i : Nat) : Int := ab.getD i (-1)
structure Inj (N : Nat) (ab : List Int) : Prop where
  len : ab.length = N
  rng : ∀ i, i < N → at_ ab i < N
  low : ∀ i, i < N → -1 ≤ at_ ab i
  inj : ∀ i j x : Nat, i < N → j < N → at_ ab i = x → at_ ab j = x → i = j
def Closed (N : Nat) (ab : List Int) (T : Nat → Prop) : Prop := ∀ i x : Nat, i < N → at_ ab i = x → (T i ↔ T x)
def on (M : List Bool) (i : Nat) : Prop := M[i]? = some true
theorem on_lt {M : List Bool} {i : Nat} (h : on M i) : i < M.length := (List.getElem?_eq_some_iff.1 h).1
theorem on_not {M : List Bool} {i : Nat} (h : M[i]? = some false) : ¬ on M i := fun k => by rw [on, h] at k; cases k
theorem not_on {M : List Bool} {i : Nat} (hi : i < M.length) (h : ¬ on M i) : M[i]? = some false := by
  have e := List.getElem?_eq_getElem hi
  cases hb : M[i] with
  | true => rw [hb] at e; exact absurd e h
  | false => rw [hb] at e; exact e
theorem on_set {M : List Bool} {k i : Nat} (hk : k < M.length) : on (M.set k true) i ↔ i = k ∨ on M i := by
  unfold on
  by_cases e : i = k
  · subst e; simp [hk]
  · rw [List.getElem?_set_ne (Ne.symm e)]; simp [e]
def cnt (M : List Bool) : Nat := M.count true
theorem cnt_le (M : List Bool) : cnt M ≤ M.length := List.count_le_length
theorem cnt_set {M : List Bool} {k : Nat} (h : M[k]? = some false) : cnt (M.set k true) = cnt M + 1 := by
  induction M generalizing k with
  | nil => simp at h
  | cons b t ih =>
    cases k with
    | zero =>
      have : b = false := by simpa using h
      subst this
      simp [cnt]
    | succ k =>
      have := ih (k := k) (by simpa using h)
      unfold cnt at this ⊢
      rw [List.set_cons_succ, List.count_cons, List.count_cons, this]
      omega

open Classical in
/-- The least closed set that holds M and r, as marks. -/
noncomputable def clos (N : Nat) (ab : List Int) (M : List Bool) (r : Nat) : List Bool :=
  (List.range N).map fun i => decide (∀ T : Nat → Prop, Closed N ab T → (∀ j, on M j → T j) → T r → T i)
theorem clos_len (N : Nat) (ab : List Int) (M : List Bool) (r : Nat) : (clos N ab M r).length = N := by simp [clos]
theorem clos_on {N : Nat} {ab : List Int} {M : List Bool} {r i : Nat} (hi : i < N) : on (clos N ab M r) i ↔ ∀ T : Nat → Prop, Closed N ab T → (∀ j, on M j → T j) → T r → T i := by
  show (clos N ab M r)[i]? = some true ↔ _
  unfold clos
  simp [hi]
theorem clos_closed {N : Nat} {ab : List Int} (h : Inj N ab) (M : List Bool) (r : Nat) : Closed N ab (on (clos N ab M r)) := by
  intro i x hi hx
  have hxN : x < N := by have := h.rng i hi; omega
  rw [clos_on hi, clos_on hxN]
  exact ⟨fun q T a b c => (a i x hi hx).1 (q T a b c), fun q T a b c => (a i x hi hx).2 (q T a b c)⟩
theorem clos_sub {N : Nat} {ab : List Int} {M : List Bool} {r : Nat} (hl : M.length = N) {j : Nat} (hj : on M j) : on (clos N ab M r) j :=
  (clos_on (by have := on_lt hj; omega)).2 fun T a b c => b j hj
theorem clos_self {N : Nat} {ab : List Int} {M : List Bool} {r : Nat} (hr : r < N) : on (clos N ab M r) r := (clos_on hr).2 fun T a b c => c
theorem clos_eq {N : Nat} {ab : List Int} {M M' : List Bool} {r : Nat} (hl : M'.length = N) (hc : Closed N ab (on M')) (hs : ∀ j, on M j → on M' j) (hr : on M' r)
    (hm : ∀ T : Nat → Prop, Closed N ab T → (∀ j, on M j → T j) → T r → ∀ i, on M' i → T i) : M' = clos N ab M r := by
  refine List.ext_getElem? fun i => ?_
  by_cases hi : i < N
  · have e1 := List.getElem?_eq_getElem (l := M') (i := i) (by omega)
    have e2 := List.getElem?_eq_getElem (l := clos N ab M r) (i := i) (by rw [clos_len]; exact hi)
    have e3 : on M' i ↔ on (clos N ab M r) i := by
      rw [clos_on hi]
      exact ⟨fun q T a b c => hm T a b c i q, fun q => q (on M') hc hs hr⟩
    unfold on at e3
    rw [e1, e2] at e3
    rw [e1, e2]
    congr 1
    have e4 : M'[i] = true ↔ (clos N ab M r)[i]'(by rw [clos_len]; exact hi) = true := by simpa using e3
    exact Bool.eq_iff_iff.2 e4
  · rw [List.getElem?_eq_none (by omega), List.getElem?_eq_none (by rw [clos_len]; omega)]

/-- On the way up from r: S was marked, M is, cur comes next. -/
structure Up (N : Nat) (ab : List Int) (S : List Bool) (r : Nat) (M : List Bool) (cur : Int) : Prop where
  len : M.length = N
  sub : ∀ j, on S j → on M j
  min : ∀ T : Nat → Prop, Closed N ab T → (∀ j, on S j → T j) → T r → (∀ i, on M i → T i) ∧ ∀ c : Nat, cur = c → T c
  up : ∀ i, on M i → ∀ x : Nat, at_ ab i = x → on M x ∨ cur = x
  pre : ∀ x, on M x → on S x ∨ x = r ∨ ∃ i, on M i ∧ at_ ab i = x
  cpre : ∀ c : Nat, cur = c → c = r ∨ ∃ i, on M i ∧ at_ ab i = c
  hi : cur < N
  lo : -1 ≤ cur
  row : on M r ∨ cur = r
theorem Up.start {N : Nat} {ab : List Int} {S : List Bool} {r : Nat} (hl : S.length = N) (hr : r < N) (hS : Closed N ab (on S)) : Up N ab S r S r :=
  ⟨hl, fun j h => h, fun T a b c => ⟨b, fun c' e => by have : c' = r := by omega
                                                       subst this; exact c⟩, fun i hi x hx => .inl ((hS i x (by have := on_lt hi; omega) hx).1 hi), fun x h => .inl h, fun c e => .inl (by omega), by omega, by omega, .inr rfl⟩
theorem Up.step {N : Nat} {ab : List Int} {S M : List Bool} {r c : Nat} (h : Up N ab S r M (c : Int)) (hi : Inj N ab) (hc : M[c]? = some false) : Up N ab S r (M.set c true) (at_ ab c) := by
  have hcl : c < M.length := (List.getElem?_eq_some_iff.1 hc).1
  have hcN : c < N := by have := h.len; omega
  refine ⟨by rw [List.length_set]; exact h.len, fun j hj => (on_set hcl).2 (.inr (h.sub j hj)), fun T a b d => ?_, fun i hi' x hx => ?_, fun x hx => ?_, fun c' e => ?_, hi.rng c hcN, hi.low c hcN, .inl ?_⟩
  · obtain ⟨q1, q2⟩ := h.min T a b d
    have tc := q2 c rfl
    refine ⟨fun i hi' => ?_, fun c' e => (a c c' hcN e).1 tc⟩
    rcases (on_set hcl).1 hi' with rfl | q
    · exact tc
    · exact q1 i q
  · rcases (on_set hcl).1 hi' with rfl | q
    · exact .inr hx
    · rcases h.up i q x hx with z | z
      · exact .inl ((on_set hcl).2 (.inr z))
      · exact .inl ((on_set hcl).2 (.inl (by omega)))
  · rcases (on_set hcl).1 hx with rfl | q
    · rcases h.cpre x rfl with z | ⟨i, z1, z2⟩
      · exact .inr (.inl z)
      · exact .inr (.inr ⟨i, (on_set hcl).2 (.inr z1), z2⟩)
    · rcases h.pre x q with z | z | ⟨i, z1, z2⟩
      · exact .inl z
      · exact .inr (.inl z)
      · exact .inr (.inr ⟨i, (on_set hcl).2 (.inr z1), z2⟩)
  · exact .inr ⟨c, (on_set hcl).2 (.inl rfl), e⟩
  · rcases h.row with z | z
    · exact (on_set hcl).2 (.inr z)
    · exact (on_set hcl).2 (.inl (by omega))
/-- The way up is done. -/
structure Ud (N : Nat) (ab : List Int) (S : List Bool) (r : Nat) (M : List Bool) : Prop where
  len : M.length = N
  sub : ∀ j, on S j → on M j
  min : ∀ T : Nat → Prop, Closed N ab T → (∀ j, on S j → T j) → T r → ∀ i, on M i → T i
  up : ∀ i, on M i → ∀ x : Nat, at_ ab i = x → on M x
  pre : ∀ x, on M x → on S x ∨ x = r ∨ ∃ i, on M i ∧ at_ ab i = x
  row : on M r
theorem Up.done {N : Nat} {ab : List Int} {S M : List Bool} {r : Nat} {cur : Int} (h : Up N ab S r M cur) (hd : cur < 0 ∨ ∃ c : Nat, cur = c ∧ on M c) : Ud N ab S r M := by
  refine ⟨h.len, h.sub, fun T a b c => (h.min T a b c).1, fun i hi x hx => ?_, h.pre, ?_⟩
  · rcases h.up i hi x hx with z | z
    · exact z
    · rcases hd with q | ⟨c, q1, q2⟩
      · omega
      · have : c = x := by omega
        subst this; exact q2
  · rcases h.row with z | z
    · exact z
    · rcases hd with q | ⟨c, q1, q2⟩
      · omega
      · have : c = r := by omega
        subst this; exact q2

/-- Is 'to' reached from k by going up, with fuel? -/
def jn (ab : List Int) (to : Int) : Nat → Int → Bool
  | 0, _ => false
  | f + 1, k => if k < 0 then false else if k = to then true else jn ab to f (at_ ab k.toNat)
theorem jn_more {ab : List Int} {to : Int} : ∀ {f : Nat} {k : Int}, jn ab to f k = true → jn ab to (f + 1) k = true
  | 0, k, h => by simp [jn] at h
  | f + 1, k, h => by
    rw [jn] at h ⊢
    split
    · rename_i q; rw [if_pos q] at h; cases h
    · rename_i q
      rw [if_neg q] at h
      split
      · rfl
      · rename_i q2
        rw [if_neg q2] at h
        exact jn_more h
theorem jn_le {ab : List Int} {to : Int} {f g : Nat} {k : Int} (h : jn ab to f k = true) (hg : f ≤ g) : jn ab to g k = true := by
  induction hg with
  | refl => exact h
  | step _ ih => exact jn_more ih
theorem jn_step {ab : List Int} {to : Int} {f k x : Nat} (hx : at_ ab k = x) (h : jn ab to f (x : Int) = true) : jn ab to (f + 1) (k : Int) = true := by
  rw [jn, if_neg (by omega)]
  split
  · rfl
  · rw [Int.toNat_natCast, hx]; exact h
/-- The specification's second phase: n new marks. -/
structure Sd (N : Nat) (ab : List Int) (S : List Bool) (r : Nat) (M : List Bool) (n : Nat) : Prop where
  len : M.length = N
  sub : ∀ j, on S j → on M j
  min : ∀ T : Nat → Prop, Closed N ab T → (∀ j, on S j → T j) → T r → ∀ i, on M i → T i
  up : ∀ i, on M i → ∀ x : Nat, at_ ab i = x → on M x
  tag : ∀ x, on M x → on S x ∨ (∃ i, on M i ∧ at_ ab i = x) ∨ jn ab r n (x : Int) = true
  row : on M r
  cnt : n + cnt S = cnt M
theorem Ud.sd {N : Nat} {ab : List Int} {S M : List Bool} {r n : Nat} (h : Ud N ab S r M) (hc : n + cnt S = cnt M) (hn : 0 < n) : Sd N ab S r M n := by
  refine ⟨h.len, h.sub, h.min, h.up, fun x hx => ?_, h.row, hc⟩
  rcases h.pre x hx with z | z | z
  · exact .inl z
  · subst z
    obtain ⟨m, rfl⟩ : ∃ m, n = m + 1 := ⟨n - 1, by omega⟩
    refine .inr (.inr ?_)
    rw [jn, if_neg (by omega), if_pos rfl]
  · exact .inr (.inl z)
theorem Sd.le {N : Nat} {ab : List Int} {S M : List Bool} {r n : Nat} (h : Sd N ab S r M n) : n ≤ N := by
  have := cnt_le M; have := h.cnt; have := h.len; omega
theorem Sd.join {N : Nat} {ab : List Int} {S M : List Bool} {r n k x : Nat} (h : Sd N ab S r M n) (hi : Inj N ab) (hS : Closed N ab (on S)) (hk : k < N) (hx : at_ ab k = x) (hox : on M x) (hno : ¬ on M k) : jn ab r (n + 1) (k : Int) = true := by
  rcases h.tag x hox with z | ⟨i, z1, z2⟩ | z
  · exact absurd (h.sub k ((hS k x hk hx).2 z)) hno
  · have : i = k := hi.inj i k x (by have := on_lt z1; have := h.len; omega) hk z2 hx
    subst this
    exact absurd z1 hno
  · exact jn_step hx z
theorem Sd.step {N : Nat} {ab : List Int} {S M : List Bool} {r n k x : Nat} (h : Sd N ab S r M n) (hi : Inj N ab) (hS : Closed N ab (on S)) (hk : M[k]? = some false) (hx : at_ ab k = x) (hox : on M x) : Sd N ab S r (M.set k true) (n + 1) := by
  have hkl : k < M.length := (List.getElem?_eq_some_iff.1 hk).1
  have hkN : k < N := by have := h.len; omega
  have hj := h.join hi hS hkN hx hox (on_not hk)
  refine ⟨by rw [List.length_set]; exact h.len, fun j hj => (on_set hkl).2 (.inr (h.sub j hj)), fun T a b c i hi' => ?_, fun i hi' y hy => ?_, fun y hy => ?_, (on_set hkl).2 (.inr h.row), by rw [cnt_set hk]; have := h.cnt; omega⟩
  · rcases (on_set hkl).1 hi' with rfl | q
    · exact (a i x hkN hx).2 (h.min T a b c x hox)
    · exact h.min T a b c i q
  · rcases (on_set hkl).1 hi' with rfl | q
    · have : y = x := by omega
      subst this; exact (on_set hkl).2 (.inr hox)
    · exact (on_set hkl).2 (.inr (h.up i q y hy))
  · rcases (on_set hkl).1 hy with rfl | q
    · exact .inr (.inr hj)
    · rcases h.tag y q with z | ⟨i, z1, z2⟩ | z
      · exact .inl z
      · exact .inr (.inl ⟨i, (on_set hkl).2 (.inr z1), z2⟩)
      · exact .inr (.inr (jn_more z))
theorem Sd.done {N : Nat} {ab : List Int} {S M : List Bool} {r n : Nat} (h : Sd N ab S r M n) (hf : ∀ k x : Nat, k < N → at_ ab k = x → on M x → on M k) : M = clos N ab S r :=
  clos_eq h.len (fun i x hi hx => ⟨fun q => h.up i q x hx, fun q => hf i x hi hx q⟩) h.sub h.row h.min

/-- The program's way down. -/
structure Dw (N : Nat) (ab : List Int) (S : List Bool) (r : Nat) (M : List Bool) (cur : Int) : Prop where
  len : M.length = N
  sub : ∀ j, on S j → on M j
  min : ∀ T : Nat → Prop, Closed N ab T → (∀ j, on S j → T j) → T r → (∀ i, on M i → T i) ∧ ∀ c : Nat, cur = c → T c
  up : ∀ i, on M i → ∀ x : Nat, at_ ab i = x → on M x
  dn : ∀ x, on M x → ∀ k, k < N → at_ ab k = x → on M k ∨ cur = k
  cab : ∀ c : Nat, cur = c → ∃ x : Nat, at_ ab c = x ∧ on M x
  hi : cur < N
  lo : -1 ≤ cur
  row : on M r
/-- bl is the way back. -/
structure Back (N : Nat) (ab bl : List Int) : Prop where
  len : bl.length = N
  rng : ∀ i, i < N → at_ bl i < N
  low : ∀ i, i < N → -1 ≤ at_ bl i
  iff : ∀ x k : Nat, x < N → k < N → (at_ bl x = k ↔ at_ ab k = x)
theorem Ud.dw {N : Nat} {ab bl : List Int} {S M : List Bool} {r : Nat} (h : Ud N ab S r M) (hi : Inj N ab) (hb : Back N ab bl) (hS : Closed N ab (on S)) (hr : r < N) : Dw N ab S r M (at_ bl r) := by
  refine ⟨h.len, h.sub, fun T a b c => ⟨h.min T a b c, fun k e => ?_⟩, h.up, fun x hx k hk e => ?_, fun c e => ?_, hb.rng r hr, hb.low r hr, h.row⟩
  · have hk : k < N := by have := hb.rng r hr; omega
    exact (a k r hk ((hb.iff r k hr hk).1 e)).2 c
  · rcases h.pre x hx with z | z | ⟨i, z1, z2⟩
    · exact .inl (h.sub k ((hS k x hk e).2 z))
    · subst z; exact .inr ((hb.iff x k hr hk).2 e)
    · have : i = k := hi.inj i k x (by have := on_lt z1; have := h.len; omega) hk z2 e
      subst this; exact .inl z1
  · have hc : c < N := by have := hb.rng r hr; omega
    exact ⟨r, (hb.iff r c hr hc).1 e, h.row⟩
theorem Dw.step {N : Nat} {ab bl : List Int} {S M : List Bool} {r c : Nat} (h : Dw N ab S r M (c : Int)) (hb : Back N ab bl) (hc : M[c]? = some false) : Dw N ab S r (M.set c true) (at_ bl c) := by
  have hcl : c < M.length := (List.getElem?_eq_some_iff.1 hc).1
  have hcN : c < N := by have := h.len; omega
  refine ⟨by rw [List.length_set]; exact h.len, fun j hj => (on_set hcl).2 (.inr (h.sub j hj)), fun T a b d => ?_, fun i hi' x hx => ?_, fun x hx k hk e => ?_, fun c' e => ?_, hb.rng c hcN, hb.low c hcN, (on_set hcl).2 (.inr h.row)⟩
  · obtain ⟨q1, q2⟩ := h.min T a b d
    have tc := q2 c rfl
    refine ⟨fun i hi' => ?_, fun k e => ?_⟩
    · rcases (on_set hcl).1 hi' with rfl | q
      · exact tc
      · exact q1 i q
    · have hk : k < N := by have := hb.rng c hcN; omega
      exact (a k c hk ((hb.iff c k hcN hk).1 e)).2 tc
  · rcases (on_set hcl).1 hi' with rfl | q
    · obtain ⟨y, y1, y2⟩ := h.cab i rfl
      have : y = x := by omega
      subst this; exact (on_set hcl).2 (.inr y2)
    · exact (on_set hcl).2 (.inr (h.up i q x hx))
  · rcases (on_set hcl).1 hx with rfl | q
    · exact .inr ((hb.iff x k hcN hk).2 e)
    · rcases h.dn x q k hk e with z | z
      · exact .inl ((on_set hcl).2 (.inr z))
      · exact .inl ((on_set hcl).2 (.inl (by omega)))
  · have hc' : c' < N := by have := hb.rng c hcN; omega
    exact ⟨c, (hb.iff c c' hcN hc').1 e, (on_set hcl).2 (.inl rfl)⟩
theorem Dw.done {N : Nat} {ab : List Int} {S M : List Bool} {r : Nat} {cur : Int} (h : Dw N ab S r M cur) (hd : cur < 0 ∨ ∃ c : Nat, cur = c ∧ on M c) : M = clos N ab S r := by
  refine clos_eq h.len (fun i x hi hx => ⟨fun q => h.up i q x hx, fun q => ?_⟩) h.sub h.row fun T a b c => (h.min T a b c).1
  rcases h.dn x q i hi hx with z | z
  · exact z
  · rcases hd with w | ⟨c, w1, w2⟩
    · omega
    · have : c = i := by omega
      subst this; exact w2

/-- Marks and cylinders behind the first i rows. -/
noncomputable def cyS (ab : List Int) (rr : List (List Int)) : Nat → List Bool × List (Int × Int)
  | 0 => (List.replicate rr.length false, [])
  | i + 1 => if (cyS ab rr i).1[i]? = some true then cyS ab rr i else
      (clos rr.length ab (cyS ab rr i).1 i, (cyS ab rr i).2 ++ [(((rr.getD i []).length : Int), ((cnt (clos rr.length ab (cyS ab rr i).1 i) - cnt (cyS ab rr i).1 : Nat) : Int))])
noncomputable def cyL (ab : List Int) (rr : List (List Int)) : List (Int × Int) := (cyS ab rr rr.length).2
theorem cyS_yes {ab : List Int} {rr : List (List Int)} {i : Nat} (h : (cyS ab rr i).1[i]? = some true) : cyS ab rr (i + 1) = cyS ab rr i := by rw [cyS, if_pos h]
theorem cyS_no {ab : List Int} {rr : List (List Int)} {i : Nat} (h : (cyS ab rr i).1[i]? = some false) : cyS ab rr (i + 1) = (clos rr.length ab (cyS ab rr i).1 i, (cyS ab rr i).2 ++ [(((rr.getD i []).length : Int), ((cnt (clos rr.length ab (cyS ab rr i).1 i) - cnt (cyS ab rr i).1 : Nat) : Int))]) := by
  rw [cyS, if_neg (by rw [h]; simp)]
theorem cyS_ok {ab : List Int} {rr : List (List Int)} (h : Inj rr.length ab) : ∀ i, i ≤ rr.length → (cyS ab rr i).1.length = rr.length ∧ Closed rr.length ab (on (cyS ab rr i).1) ∧ (cyS ab rr i).2.length ≤ i
  | 0, _ => by
    refine ⟨by simp [cyS], fun i x hi hx => ?_, by simp [cyS]⟩
    have hn : ∀ j, ¬ on (cyS ab rr 0).1 j := fun j q => by
      unfold on at q
      simp only [cyS, List.getElem?_replicate] at q
      split at q <;> simp at q
    exact ⟨fun q => absurd q (hn _), fun q => absurd q (hn _)⟩
  | i + 1, hi => by
    obtain ⟨a, b, c⟩ := cyS_ok h i (by omega)
    by_cases q : (cyS ab rr i).1[i]? = some true
    · rw [cyS_yes q]; exact ⟨a, b, by omega⟩
    · rw [cyS_no (not_on (by omega) q)]
      exact ⟨clos_len _ _ _ _, clos_closed h _ _, by simp; omega⟩
end Go.Proofs.Ytglpiopjhddoeaa.cy

/-
  Insertion in descending order: plain mathematics.
-/
namespace Go.Proofs.Ytglpiopjhddoeaa.pm
set_option linter.unusedVariables false
set_option maxRecDepth 100000

def ins (x : Int) (l : List Int) (k : Nat) : List Int := l.take k ++ x :: l.drop k
theorem ins_len (x : Int) (l : List Int) {k : Nat} (h : k ≤ l.length) : (ins x l k).length = l.length + 1 := by simp [ins]; omega
theorem ins_end (x : Int) (l : List Int) : ins x l l.length = l ++ [x] := by simp [ins]
theorem ins_set (x y : Int) (l : List Int) {k : Nat} (h : k ≤ l.length) : (ins y l k).set k x = ins x l k := by
  unfold ins
  have hl : (l.take k).length = k := by simp; omega
  rw [List.set_append_right _ _ (by omega), hl]
  simp
theorem ins_move (y : Int) (l : List Int) {k : Nat} (h : k < l.length) : (ins y l (k + 1)).set (k + 1) (l.getD k 0) = ins (l.getD k 0) l k := by
  rw [ins_set _ _ _ (by omega)]
  unfold ins
  have e : l.getD k 0 = l[k] := by simp [List.getD, List.getElem?_eq_getElem h]
  have e1 : l.take (k + 1) = l.take k ++ [l[k]] := List.take_succ_eq_append_getElem h
  have e2 : l.drop k = l[k] :: l.drop (k + 1) := List.drop_eq_getElem_cons h
  rw [e, e1, e2, List.append_assoc]
  rfl
theorem ins_at (y : Int) (l : List Int) {j k : Nat} (h : j < k) (hk : k ≤ l.length) : (ins y l k).getD j 0 = l.getD j 0 := by
  unfold ins
  have hl : (l.take k).length = k := by simp; omega
  simp only [List.getD]
  rw [List.getElem?_append_left (by omega)]
  simp [h]
/-- Where x is inserted, seen from k on downwards. -/
def posD (x : Int) (l : List Int) : Nat → Nat
  | 0 => 0
  | k + 1 => if l.getD k 0 < x then posD x l k else k + 1
def insD (x : Int) (l : List Int) : List Int := ins x l (posD x l l.length)
def sortD (l : List Int) : List Int := l.foldl (fun acc x => insD x acc) []
theorem posD_le (x : Int) (l : List Int) (k : Nat) : posD x l k ≤ k := by
  induction k with
  | zero => exact Nat.le_refl _
  | succ k ih => rw [posD]; split <;> omega
theorem posD_lt (x : Int) (l : List Int) (k : Nat) : ∀ j, posD x l k ≤ j → j < k → l.getD j 0 < x := by
  induction k with
  | zero => intro j _ h; omega
  | succ k ih =>
    intro j h1 h2
    rw [posD] at h1
    split at h1
    · by_cases e : j = k
      · subst e; assumption
      · exact ih j h1 (by omega)
    · omega
theorem posD_ge (x : Int) (l : List Int) (k : Nat) : 0 < posD x l k → x ≤ l.getD (posD x l k - 1) 0 := by
  induction k with
  | zero => intro h; simp [posD] at h
  | succ k ih =>
    rw [posD]
    split
    · exact ih
    · intro _; simp only [Nat.add_sub_cancel]; omega
theorem insD_len (x : Int) (l : List Int) : (insD x l).length = l.length + 1 := ins_len _ _ (posD_le _ _ _)
theorem sortD_snoc (l : List Int) (x : Int) : sortD (l ++ [x]) = insD x (sortD l) := by simp [sortD]
theorem insD_perm (x : Int) (l : List Int) : (insD x l).Perm (x :: l) := by
  unfold insD ins
  have := List.perm_middle (a := x) (l₁ := l.take (posD x l l.length)) (l₂ := l.drop (posD x l l.length))
  rw [List.take_append_drop] at this
  exact this
theorem foldD_perm (l : List Int) : ∀ acc, (l.foldl (fun acc x => insD x acc) acc).Perm (acc ++ l) := by
  induction l with
  | nil => intro acc; simp
  | cons a t ih =>
    intro acc
    simp only [List.foldl_cons]
    refine (ih _).trans ?_
    refine ((insD_perm a acc).append_right t).trans ?_
    exact List.perm_middle.symm
theorem sortD_perm (l : List Int) : (sortD l).Perm l := by have := foldD_perm l []; simpa [sortD] using this
theorem sortD_len (l : List Int) : (sortD l).length = l.length := (sortD_perm l).length_eq
def Desc (l : List Int) : Prop := l.Pairwise (fun a b => b ≤ a)
theorem Desc.at_ {l : List Int} (h : Desc l) {i j : Nat} (hij : i ≤ j) (hj : j < l.length) : l.getD j 0 ≤ l.getD i 0 := by
  have hp := List.pairwise_iff_getElem.1 h
  simp only [List.getD, List.getElem?_eq_getElem hj, List.getElem?_eq_getElem (show i < l.length by omega), Option.getD_some]
  by_cases e : i = j
  · subst e; omega
  · exact hp i j (by omega) hj (by omega)
theorem insD_desc {x : Int} {l : List Int} (h : Desc l) : Desc (insD x l) := by
  have hle := posD_le x l l.length
  have hlt := posD_lt x l l.length
  have hge := posD_ge x l l.length
  unfold insD ins
  generalize posD x l l.length = k at *
  unfold Desc
  rw [List.pairwise_append]
  have htd : Desc (l.take k ++ l.drop k) := by rw [List.take_append_drop]; exact h
  have htd' := List.pairwise_append.1 htd
  have gt : ∀ a ∈ l.take k, x ≤ a := by
    intro a ha
    obtain ⟨i, hi, e⟩ := List.getElem_of_mem ha
    simp at hi e
    have := h.at_ (i := i) (j := k - 1) (by omega) (by omega)
    have h2 := hge (by omega)
    have : l.getD i 0 = a := by simp [List.getD, List.getElem?_eq_getElem (show i < l.length by omega), e]
    omega
  have lt : ∀ b ∈ l.drop k, b < x := by
    intro b hb
    obtain ⟨i, hi, e⟩ := List.getElem_of_mem hb
    simp at hi e
    have := hlt (k + i) (by omega) (by omega)
    have h3 : l.getD (k + i) 0 = b := by simp [List.getD, List.getElem?_eq_getElem (show k + i < l.length by omega), e]
    omega
  refine ⟨htd'.1, List.pairwise_cons.2 ⟨fun b hb => ?_, htd'.2.1⟩, fun a ha b hb => ?_⟩
  · have := lt b hb; omega
  · have h1 := gt a ha
    rcases List.mem_cons.1 hb with rfl | hb
    · exact h1
    · have := lt b hb; omega
theorem foldD_desc (l : List Int) : ∀ acc, Desc acc → Desc (l.foldl (fun acc x => insD x acc) acc) := by
  induction l with
  | nil => intro acc h; exact h
  | cons a t ih => intro acc h; exact ih _ (insD_desc h)
theorem sortD_desc (l : List Int) : Desc (sortD l) := foldD_desc l [] List.Pairwise.nil
theorem sortD_eq {l m : List Int} (h : l.Perm m) : sortD l = sortD m :=
  List.Perm.eq_of_pairwise (le := fun a b => b ≤ a) (fun a b _ _ h1 h2 => by omega) (sortD_desc l) (sortD_desc m) ((sortD_perm l).trans (h.trans (sortD_perm m).symm))
end Go.Proofs.Ytglpiopjhddoeaa.pm
