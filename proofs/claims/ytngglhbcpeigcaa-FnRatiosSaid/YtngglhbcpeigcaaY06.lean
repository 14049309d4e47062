import Derived.Test.YtngglhbcpeigcaaY04
/-
  The cycles of a permutation: plain mathematics.
-/
namespace Go.Proofs.Ytngglhbcpeigcaa.pm
open Go.Proofs.Ytngglhbcpeigcaa.arr Go.Proofs.Ytngglhbcpeigcaa.inv Go.Proofs.Ytngglhbcpeigcaa.permOf
set_option linter.unusedVariables false
set_option maxRecDepth 100000

/-- From x on, until f comes again, at most m steps. -/
def cy (ps : List Int) (f : Int) : Nat → Int → List Int → List Int
  | 0, _, acc => acc
  | m + 1, x, acc => if x = f then acc else cy ps f m (ps.getD x.toNat 0) (acc ++ [x])
def cyc (ps : List Int) (n : Nat) (f : Int) : List Int := cy ps f n (ps.getD f.toNat 0) [f]
/-- Numbers from 0 up to n go to such numbers, different ones to different ones. -/
structure Bij (n : Nat) (ps : List Int) : Prop where
  maps : Maps n ps
  inj : ∀ i j : Nat, i < n → j < n → ps.getD i 0 = ps.getD j 0 → i = j
theorem Ok.bij {xs : List Int} (h : Ok xs) : Bij xs.length xs := ⟨h.maps, h.inj⟩
theorem Ok.bijExt {xs : List Int} (h : Ok xs) : Bij xs.length (ext xs) := by
  have hl := h.len
  have e : ∀ i, i < xs.length → (ext xs).getD i 0 = xs.getD i 0 := fun i hi => by rw [ext_at (by omega), if_pos hi]
  refine ⟨fun i hi => by rw [e i hi]; exact h.maps i hi, fun i j hi hj q => ?_⟩
  rw [e i hi, e j hj] at q
  exact h.inj i j hi hj q
/-- acc is a way of p from f on, and x follows. -/
structure Way (n : Nat) (ps : List Int) (f x : Int) (acc : List Int) : Prop where
  head : acc.getD 0 0 = f
  pos : 0 < acc.length
  step : ∀ i, i + 1 < acc.length → acc.getD (i + 1) 0 = ps.getD (acc.getD i 0).toNat 0
  last : x = ps.getD (acc.getD (acc.length - 1) 0).toNat 0
  inn : In n acc
theorem getD_mem {l : List Int} {i : Nat} (h : i < l.length) : l.getD i 0 ∈ l := by
  simp [List.getD, List.getElem?_eq_getElem h]
theorem mem_getD {l : List Int} {x : Int} (h : x ∈ l) : ∃ i, i < l.length ∧ l.getD i 0 = x := by
  obtain ⟨i, hi, e⟩ := List.getElem_of_mem h
  exact ⟨i, hi, by simp [List.getD, List.getElem?_eq_getElem hi, e]⟩
theorem nodup_getD {l : List Int} (h : l.Nodup) {i j : Nat} (hi : i < l.length) (hj : j < l.length) (e : l.getD i 0 = l.getD j 0) : i = j := by
  simp only [List.getD, List.getElem?_eq_getElem hi, List.getElem?_eq_getElem hj, Option.getD_some] at e
  have hp := List.pairwise_iff_getElem.1 h
  rcases Nat.lt_trichotomy i j with q | q | q
  · exact absurd e (hp i j hi hj q)
  · exact q
  · exact absurd e.symm (hp j i hj hi q)
theorem getD_snoc {l : List Int} {x : Int} {i : Nat} : (l ++ [x]).getD i 0 = if i < l.length then l.getD i 0 else if i = l.length then x else 0 := by
  simp only [List.getD, List.getElem?_append]
  split
  · rfl
  · split
    · rename_i e; subst e; simp
    · rw [List.getElem?_eq_none (by simp; omega)]; rfl
theorem Way.x_in {n : Nat} {ps acc : List Int} {f x : Int} (h : Way n ps f x acc) (hb : Bij n ps) : 0 ≤ x ∧ x < n := by
  have hm := getD_mem (l := acc) (i := acc.length - 1) (by have := h.pos; omega)
  have h1 := h.inn.lo _ hm; have h2 := h.inn.hi _ hm
  rw [h.last]
  exact hb.maps _ (by omega)
/-- What follows and is not f is new. -/
theorem Way.fresh {n : Nat} {ps acc : List Int} {f x : Int} (h : Way n ps f x acc) (hb : Bij n ps) (hx : x ≠ f) : ¬ x ∈ acc := by
  intro hm
  obtain ⟨i, hi, e⟩ := mem_getD hm
  have hp := h.pos
  cases i with
  | zero => exact hx (by rw [← e, h.head])
  | succ i =>
    have m1 := getD_mem (l := acc) (i := i) (by omega)
    have m2 := getD_mem (l := acc) (i := acc.length - 1) (by omega)
    have a1 := h.inn.lo _ m1; have a2 := h.inn.hi _ m1; have b1 := h.inn.lo _ m2; have b2 := h.inn.hi _ m2
    have q : ps.getD (acc.getD i 0).toNat 0 = ps.getD (acc.getD (acc.length - 1) 0).toNat 0 := by rw [← h.step i hi, e, h.last]
    have := hb.inj _ _ (by omega) (by omega) q
    have := nodup_getD h.inn.nd (i := i) (j := acc.length - 1) (by omega) (by omega) (by omega)
    omega
theorem Way.next {n : Nat} {ps acc : List Int} {f x : Int} (h : Way n ps f x acc) (hb : Bij n ps) (hx : x ≠ f) : Way n ps f (ps.getD x.toNat 0) (acc ++ [x]) := by
  have hp := h.pos
  have xi := h.x_in hb
  have hf := h.fresh hb hx
  refine ⟨by rw [getD_snoc, if_pos hp]; exact h.head, by simp, fun i hi => ?_, ?_, ?_⟩
  · simp at hi
    rw [getD_snoc, getD_snoc, if_pos (by omega : i < acc.length)]
    by_cases e : i + 1 < acc.length
    · rw [if_pos e]; exact h.step i e
    · rw [if_neg e, if_pos (by omega)]
      have : i = acc.length - 1 := by omega
      rw [this]; exact h.last
  · have : (acc ++ [x]).length - 1 = acc.length := by simp
    rw [this, getD_snoc, if_neg (by omega), if_pos rfl]
  · have := h.inn.add xi.1 xi.2
    unfold add1 at this
    rw [if_neg hf] at this
    exact this
theorem Way.start {n : Nat} {ps : List Int} {f : Int} (h0 : 0 ≤ f) (h1 : f < n) : Way n ps f (ps.getD f.toNat 0) [f] :=
  ⟨rfl, by simp, fun i hi => by simp at hi, rfl, ⟨by simp, fun y hy => by simp at hy; omega, fun y hy => by simp at hy; omega⟩⟩
/-- The state of a walk along a cycle. -/
structure Cw (n : Nat) (ps : List Int) (f x : Int) (acc : List Int) (m : Nat) : Prop where
  way : Way n ps f x acc
  len : acc.length + m = n + 1
  res : cy ps f m x acc = cyc ps n f
theorem Cw.start {n : Nat} {ps : List Int} {f : Int} (h0 : 0 ≤ f) (h1 : f < n) : Cw n ps f (ps.getD f.toNat 0) [f] n := ⟨Way.start h0 h1, by simp; omega, rfl⟩
theorem Cw.pos {n m : Nat} {ps acc : List Int} {f x : Int} (h : Cw n ps f x acc m) : 0 < m := by
  have := h.way.inn.len; have := h.len; omega
theorem Cw.next {n m : Nat} {ps acc : List Int} {f x : Int} (h : Cw n ps f x acc m) (hb : Bij n ps) (hx : x ≠ f) : Cw n ps f (ps.getD x.toNat 0) (acc ++ [x]) (m - 1) := by
  have hp := h.pos
  obtain ⟨k, rfl⟩ : ∃ k, m = k + 1 := ⟨m - 1, by omega⟩
  refine ⟨h.way.next hb hx, by have := h.len; simp; omega, ?_⟩
  have := h.res
  rw [cy, if_neg hx] at this
  exact this
theorem Cw.done {n m : Nat} {ps acc : List Int} {f : Int} (h : Cw n ps f f acc m) : acc = cyc ps n f := by
  have hp := h.pos
  obtain ⟨k, rfl⟩ : ∃ k, m = k + 1 := ⟨m - 1, by omega⟩
  have := h.res
  rw [cy, if_pos rfl] at this
  exact this
/-- A cycle is a way that comes back. -/
theorem Cw.way_of {n : Nat} {ps : List Int} {f : Int} (hb : Bij n ps) : ∀ (m : Nat) (x : Int) (acc : List Int), Cw n ps f x acc m → Way n ps f f (cyc ps n f) := by
  intro m
  induction m with
  | zero => intro x acc h; exact absurd h.pos (by omega)
  | succ m ih =>
    intro x acc h
    by_cases e : x = f
    · subst e; rw [← h.done]; exact h.way
    · exact ih _ _ (h.next hb e)
theorem cyc_way {n : Nat} {ps : List Int} {f : Int} (hb : Bij n ps) (h0 : 0 ≤ f) (h1 : f < n) : Way n ps f f (cyc ps n f) := Cw.way_of hb n _ _ (Cw.start h0 h1)
/-- Whoever goes into a cycle is in it. -/
theorem cyc_back {n : Nat} {ps : List Int} {f : Int} (hb : Bij n ps) (h0 : 0 ≤ f) (h1 : f < n) {y : Nat} (hy : y < n) (h : ps.getD y 0 ∈ cyc ps n f) : (y : Int) ∈ cyc ps n f := by
  have hw := cyc_way hb h0 h1
  have hp := hw.pos
  obtain ⟨i, hi, e⟩ := mem_getD h
  have key : ∀ j, j < (cyc ps n f).length → ps.getD ((cyc ps n f).getD j 0).toNat 0 = ps.getD y 0 → (y : Int) ∈ cyc ps n f := by
    intro j hj q
    have m1 := getD_mem hj
    have a1 := hw.inn.lo _ m1; have a2 := hw.inn.hi _ m1
    have := hb.inj _ _ (by omega) hy q
    have e2 : (cyc ps n f).getD j 0 = (y : Int) := by omega
    rw [← e2]; exact m1
  cases i with
  | zero => exact key ((cyc ps n f).length - 1) (by omega) (by rw [← hw.last, ← e, hw.head])
  | succ i => exact key i (by omega) (by rw [← hw.step i hi, e])
theorem cyc_congr {n : Nat} {ps ps' : List Int} (hb : Bij n ps) (h1 : ∀ i, i < n → ps'.getD i 0 = ps.getD i 0) {f : Int} (h0 : 0 ≤ f) (hf : f < n) : cyc ps' n f = cyc ps n f := by
  have key : ∀ (m : Nat) (x : Int) (acc : List Int), 0 ≤ x → x < n → cy ps' f m x acc = cy ps f m x acc := by
    intro m
    induction m with
    | zero => intros; rfl
    | succ m ih =>
      intro x acc x0 x1
      rw [cy, cy]
      split
      · rfl
      · rw [h1 _ (by omega)]
        have := hb.maps x.toNat (by omega)
        exact ih _ _ this.1 this.2
  unfold cyc
  rw [h1 _ (by omega)]
  have := hb.maps f.toNat (by omega)
  exact key _ _ _ this.1 this.2

/-- The cycles that begin with the numbers up to k. -/
def cso (ps : List Int) (n : Nat) : Nat → List (List Int)
  | 0 => []
  | k + 1 => if (k : Int) ∈ (cso ps n k).flatten then cso ps n k else cso ps n k ++ [cyc ps n (k : Int)]
structure Cs (n : Nat) (ps : List Int) (k : Nat) (out : List (List Int)) : Prop where
  inn : In n out.flatten
  back : ∀ y : Nat, y < n → ps.getD y 0 ∈ out.flatten → (y : Int) ∈ out.flatten
  all : ∀ i : Nat, i < k → (i : Int) ∈ out.flatten
  len : out.length ≤ k
theorem cso_cs {n : Nat} {ps : List Int} (hb : Bij n ps) (k : Nat) (hk : k ≤ n) : Cs n ps k (cso ps n k) := by
  induction k with
  | zero => exact ⟨⟨by simp [cso], fun x hx => by simp [cso] at hx, fun x hx => by simp [cso] at hx⟩, fun y _ h => by simp [cso] at h, fun i hi => by omega, Nat.le_refl _⟩
  | succ k ih =>
    have h := ih (by omega)
    rw [cso]
    split
    · rename_i hm
      refine ⟨h.inn, h.back, fun i hi => ?_, by have := h.len; omega⟩
      by_cases e : i = k
      · subst e; exact hm
      · exact h.all i (by omega)
    · rename_i hm
      have hw := cyc_way (f := (k : Int)) hb (by omega) (by omega)
      have hf : (cso ps n k ++ [cyc ps n (k : Int)]).flatten = (cso ps n k).flatten ++ cyc ps n (k : Int) := by simp
      -- the new cycle meets none of the others
      have dis : ∀ i, i < (cyc ps n (k : Int)).length → ¬ (cyc ps n (k : Int)).getD i 0 ∈ (cso ps n k).flatten := by
        intro i
        induction i with
        | zero => intro _ q; rw [hw.head] at q; exact hm q
        | succ i ihi =>
          intro hi q
          rw [hw.step i hi] at q
          have m1 := getD_mem (l := cyc ps n (k : Int)) (i := i) (by omega)
          have a1 := hw.inn.lo _ m1; have a2 := hw.inn.hi _ m1
          have := h.back _ (by omega) q
          rw [Int.toNat_of_nonneg a1] at this
          exact ihi (by omega) this
      have cm : (k : Int) ∈ cyc ps n (k : Int) := by
        have := getD_mem (l := cyc ps n (k : Int)) (i := 0) hw.pos
        rw [hw.head] at this; exact this
      refine ⟨⟨?_, fun x hx => ?_, fun x hx => ?_⟩, fun y hy q => ?_, fun i hi => ?_, by have := h.len; simp; omega⟩
      · rw [hf, List.nodup_append]
        refine ⟨h.inn.nd, hw.inn.nd, fun a ha b hb' e => ?_⟩
        obtain ⟨i, hi, e2⟩ := mem_getD hb'
        exact dis i hi (by rw [e2, ← e]; exact ha)
      · rw [hf] at hx
        rcases List.mem_append.1 hx with hx | hx
        · exact h.inn.lo x hx
        · exact hw.inn.lo x hx
      · rw [hf] at hx
        rcases List.mem_append.1 hx with hx | hx
        · exact h.inn.hi x hx
        · exact hw.inn.hi x hx
      · rw [hf] at q ⊢
        rcases List.mem_append.1 q with q | q
        · exact List.mem_append.2 (.inl (h.back y hy q))
        · exact List.mem_append.2 (.inr (cyc_back hb (by omega) (by omega) hy q))
      · rw [hf]
        by_cases e : i = k
        · subst e; exact List.mem_append.2 (.inr cm)
        · exact List.mem_append.2 (.inl (h.all i (by omega)))
theorem cso_congr {n : Nat} {ps ps' : List Int} (hb : Bij n ps) (h1 : ∀ i, i < n → ps'.getD i 0 = ps.getD i 0) (k : Nat) (hk : k ≤ n) : cso ps' n k = cso ps n k := by
  induction k with
  | zero => rfl
  | succ k ih => rw [cso, cso, ih (by omega), cyc_congr hb h1 (by omega) (by omega)]
def cycF (xs : List Int) : List (List Int) := if okB xs then cso xs xs.length xs.length else []
theorem flatten_len (l : List (List Int)) : l.flatten.length = (l.map List.length).sum := by simp [List.length_flatten]
theorem cycF_small (xs : List Int) : (cycF xs).length ≤ 1048576 ∧ ((cycF xs).map List.length).sum ≤ 1048576 := by
  unfold cycF; split
  · rename_i h
    have ok := Ok.of xs h
    have hl := ok.len
    have hc := cso_cs ok.bij xs.length (Nat.le_refl _)
    have h1 := hc.inn.len; have h2 := hc.len
    rw [flatten_len] at h1
    exact ⟨by omega, by omega⟩
  · simp
theorem cycF_ext {xs : List Int} (h : Ok xs) : cso (ext xs) xs.length xs.length = cso xs xs.length xs.length := by
  have hl := h.len
  exact cso_congr h.bij (fun i hi => by rw [ext_at (by omega), if_pos hi]) _ (Nat.le_refl _)
end Go.Proofs.Ytngglhbcpeigcaa.pm

/-
  Insertion in descending order: plain mathematics.
-/
namespace Go.Proofs.Ytngglhbcpeigcaa.pm
set_option linter.unusedVariables false
set_option maxRecDepth 100000

def ins (x : Int) (l : List Int) (k : Nat) : List Int := l.take k ++ x :: l.drop k
theorem ins_len (x : Int) (l : List Int) {k : Nat} (h : k ≤ l.length) : (ins x l k).length = l.length + 1 := by simp [ins]; omega
theorem ins_end (x : Int) (l : List Int) : ins x l l.length = l ++ [x] := by simp [ins]
theorem ins_set (x y : Int) (l : List Int) {k : Nat} (h : k ≤ l.length) : (ins y l k).set k x = ins x l k := by
  unfold ins
  have hl : (l.take k).length = k := by simp; omega
  rw [List.set_append_right _ _ (by omega), hl]
  simp
theorem ins_move (y : Int) (l : List Int) {k : Nat} (h : k < l.length) : (ins y l (k + 1)).set (k + 1) (l.getD k 0) = ins (l.getD k 0) l k := by
  rw [ins_set _ _ _ (by omega)]
  unfold ins
  have e : l.getD k 0 = l[k] := by simp [List.getD, List.getElem?_eq_getElem h]
  have e1 : l.take (k + 1) = l.take k ++ [l[k]] := List.take_succ_eq_append_getElem h
  have e2 : l.drop k = l[k] :: l.drop (k + 1) := List.drop_eq_getElem_cons h
  rw [e, e1, e2, List.append_assoc]
  rfl
theorem ins_at (y : Int) (l : List Int) {j k : Nat} (h : j < k) (hk : k ≤ l.length) : (ins y l k).getD j 0 = l.getD j 0 := by
  unfold ins
  have hl : (l.take k).length = k := by simp; omega
  simp only [List.getD]
  rw [List.getElem?_append_left (by omega)]
  simp [h]
/-- Where x is inserted, seen from k on downwards. -/
def posD (x : Int) (l : List Int) : Nat → Nat
  | 0 => 0
  | k + 1 => if l.getD k 0 < x then posD x l k else k + 1
def insD (x : Int) (l : List Int) : List Int := ins x l (posD x l l.length)
def sortD (l : List Int) : List Int := l.foldl (fun acc x => insD x acc) []
theorem posD_le (x : Int) (l : List Int) (k : Nat) : posD x l k ≤ k := by
  induction k with
  | zero => exact Nat.le_refl _
  | succ k ih => rw [posD]; split <;> omega
theorem posD_lt (x : Int) (l : List Int) (k : Nat) : ∀ j, posD x l k ≤ j → j < k → l.getD j 0 < x := by
  induction k with
  | zero => intro j _ h; omega
  | succ k ih =>
    intro j h1 h2
    rw [posD] at h1
    split at h1
    · by_cases e : j = k
      · subst e; assumption
      · exact ih j h1 (by omega)
    · omega
theorem posD_ge (x : Int) (l : List Int) (k : Nat) : 0 < posD x l k → x ≤ l.getD (posD x l k - 1) 0 := by
  induction k with
  | zero => intro h; simp [posD] at h
  | succ k ih =>
    rw [posD]
    split
    · exact ih
    · intro _; simp only [Nat.add_sub_cancel]; omega
theorem insD_len (x : Int) (l : List Int) : (insD x l).length = l.length + 1 := ins_len _ _ (posD_le _ _ _)
theorem sortD_snoc (l : List Int) (x : Int) : sortD (l ++ [x]) = insD x (sortD l) := by simp [sortD]
theorem insD_perm (x : Int) (l : List Int) : (insD x l).Perm (x :: l) := by
  unfold insD ins
  have := List.perm_middle (a := x) (l₁ := l.take (posD x l l.length)) (l₂ := l.drop (posD x l l.length))
  rw [List.take_append_drop] at this
  exact this
theorem foldD_perm (l : List Int) : ∀ acc, (l.foldl (fun acc x => insD x acc) acc).Perm (acc ++ l) := by
  induction l with
  | nil => intro acc; simp
  | cons a t ih =>
    intro acc
    simp only [List.foldl_cons]
    refine (ih _).trans ?_
    refine ((insD_perm a acc).append_right t).trans ?_
    exact List.perm_middle.symm
theorem sortD_perm (l : List Int) : (sortD l).Perm l := by have := foldD_perm l []; simpa [sortD] using this
theorem sortD_len (l : List Int) : (sortD l).length = l.length := (sortD_perm l).length_eq
def Desc (l : List Int) : Prop := l.Pairwise (fun a b => b ≤ a)
theorem Desc.at_ {l : List Int} (h : Desc l) {i j : Nat} (hij : i ≤ j) (hj : j < l.length) : l.getD j 0 ≤ l.getD i 0 := by
  have hp := List.pairwise_iff_getElem.1 h
  simp only [List.getD, List.getElem?_eq_getElem hj, List.getElem?_eq_getElem (show i < l.length by omega), Option.getD_some]
  by_cases e : i = j
  · subst e; omega
  · exact hp i j (by omega) hj (by omega)
theorem insD_desc {x : Int} {l : List Int} (h : Desc l) : Desc (insD x l) := by
  have hle := posD_le x l l.length
  have hlt := posD_lt x l l.length
  have hge := posD_ge x l l.length
  unfold insD ins
  generalize posD x l l.length = k at *
  unfold Desc
  rw [List.pairwise_append]
  have htd : Desc (l.take k ++ l.drop k) := by rw [List.take_append_drop]; exact h
  have htd' := List.pairwise_append.1 htd
  have gt : ∀ a ∈ l.take k, x ≤ a := by
    intro a ha
    obtain ⟨i, hi, e⟩ := List.getElem_of_mem ha
    simp at hi e
    have := h.at_ (i := i) (j := k - 1) (by omega) (by omega)
    have h2 := hge (by omega)
    have : l.getD i 0 = a := by simp [List.getD, List.getElem?_eq_getElem (show i < l.length by omega), e]
    omega
  have lt : ∀ b ∈ l.drop k, b < x := by
    intro b hb
    obtain ⟨i, hi, e⟩ := List.getElem_of_mem hb
    simp at hi e
    have := hlt (k + i) (by omega) (by omega)
    have h3 : l.getD (k + i) 0 = b := by simp [List.getD, List.getElem?_eq_getElem (show k + i < l.length by omega), e]
    omega
  refine ⟨htd'.1, List.pairwise_cons.2 ⟨fun b hb => ?_, htd'.2.1⟩, fun a ha b hb => ?_⟩
  · have := lt b hb; omega
  · have h1 := gt a ha
    rcases List.mem_cons.1 hb with rfl | hb
    · exact h1
    · have := lt b hb; omega
theorem foldD_desc (l : List Int) : ∀ acc, Desc acc → Desc (l.foldl (fun acc x => insD x acc) acc) := by
  induction l with
  | nil => intro acc h; exact h
  | cons a t ih => intro acc h; exact ih _ (insD_desc h)
theorem sortD_desc (l : List Int) : Desc (sortD l) := foldD_desc l [] List.Pairwise.nil
theorem sortD_eq {l m : List Int} (h : l.Perm m) : sortD l = sortD m :=
  List.Perm.eq_of_pairwise (le := fun a b => b ≤ a) (fun a b _ _ h1 h2 => by omega) (sortD_desc l) (sortD_desc m) ((sortD_perm l).trans (h.trans (sortD_perm m).symm))
end Go.Proofs.Ytngglhbcpeigcaa.pm

/-
  Permutations form a group; renaming keeps the lengths of the cycles: plain mathematics.
-/
namespace Go.Proofs.Ytngglhbcpeigcaa.pm
open Go.Proofs.Ytngglhbcpeigcaa.arr Go.Proofs.Ytngglhbcpeigcaa.inv Go.Proofs.Ytngglhbcpeigcaa.permOf
set_option linter.unusedVariables false
set_option maxRecDepth 100000

/-- m steps from f on. -/
def it (ps : List Int) (f : Int) : Nat → Int
  | 0 => f
  | m + 1 => ps.getD (it ps f m).toNat 0
theorem it_in {n : Nat} {ps : List Int} (hb : Bij n ps) {f : Int} (h0 : 0 ≤ f) (h1 : f < n) (m : Nat) : 0 ≤ it ps f m ∧ it ps f m < n := by
  induction m with
  | zero => exact ⟨h0, h1⟩
  | succ m ih => exact hb.maps _ (by omega)
theorem it_add (ps : List Int) (f : Int) (a b : Nat) : it ps (it ps f a) b = it ps f (a + b) := by
  induction b with
  | zero => rfl
  | succ b ih => show ps.getD (it ps (it ps f a) b).toNat 0 = ps.getD (it ps f (a + b)).toNat 0; rw [ih]
theorem it_inj {n : Nat} {ps : List Int} (hb : Bij n ps) {f g : Int} (f0 : 0 ≤ f) (f1 : f < n) (g0 : 0 ≤ g) (g1 : g < n) (m : Nat) (h : it ps f m = it ps g m) : f = g := by
  induction m with
  | zero => exact h
  | succ m ih =>
    have a := it_in hb f0 f1 m; have b := it_in hb g0 g1 m
    have := hb.inj _ _ (by omega) (by omega) h
    exact ih (by omega)
theorem way_it {n : Nat} {ps acc : List Int} {f x : Int} (h : Way n ps f x acc) : ∀ i, i < acc.length → acc.getD i 0 = it ps f i := by
  intro i
  induction i with
  | zero => intro _; exact h.head
  | succ i ih => intro hi; rw [h.step i hi, ih (by omega)]; rfl
theorem way_last {n : Nat} {ps acc : List Int} {f x : Int} (h : Way n ps f x acc) : x = it ps f acc.length := by
  have hp := h.pos
  rw [h.last, way_it h _ (by omega)]
  have : acc.length = (acc.length - 1) + 1 := by omega
  rw [this]; rfl
/-- All elements of a cycle have cycles of the same length. -/
theorem per_same {n : Nat} {ps : List Int} (hb : Bij n ps) {f : Int} (f0 : 0 ≤ f) (f1 : f < n) {y : Int} (hy : y ∈ cyc ps n f) : (cyc ps n y).length = (cyc ps n f).length := by
  have hw := cyc_way hb f0 f1
  obtain ⟨j, hj, e⟩ := mem_getD hy
  rw [way_it hw j hj] at e
  have y0 := hw.inn.lo y hy; have y1 := hw.inn.hi y hy
  have hv := cyc_way (f := y) hb y0 y1
  have lf := way_last hw; have ly := way_last hv
  have pf := hw.pos; have py := hv.pos
  -- one way round
  have A : ∀ {f y : Int}, 0 ≤ f → f < n → 0 ≤ y → y < n → (j : Nat) → it ps f j = y → Way n ps f f (cyc ps n f) → Way n ps y y (cyc ps n y) → ¬ (cyc ps n y).length < (cyc ps n f).length := by
    intro f y f0 f1 y0 y1 j e hw hv hlt
    have ly := way_last hv
    have py := hv.pos
    have e1 : it ps f ((cyc ps n y).length) = f := by
      have q : it ps (it ps f (cyc ps n y).length) j = it ps f j := by rw [it_add, Nat.add_comm, ← it_add, e, ← ly]
      have a := it_in hb f0 f1 (cyc ps n y).length
      exact it_inj hb a.1 a.2 f0 f1 j q
    have := nodup_getD hw.inn.nd (i := (cyc ps n y).length) (j := 0) hlt (by omega) (by rw [way_it hw _ hlt, e1, hw.head])
    omega
  have h1 := A f0 f1 y0 y1 j e hw hv
  have ej : j + ((cyc ps n f).length - j) = (cyc ps n f).length := by omega
  have e2 : it ps y ((cyc ps n f).length - j) = f := by rw [← e, it_add, ej, ← lf]
  have h2 := A y0 y1 f0 f1 _ e2 hv hw
  omega
def rng (n : Nat) : List Int := (List.range n).map fun (i : Nat) => (i : Int)
theorem mem_rng {n : Nat} {x : Int} : x ∈ rng n ↔ 0 ≤ x ∧ x < n := by
  unfold rng
  rw [List.mem_map]
  constructor
  · rintro ⟨i, hi, rfl⟩; simp at hi; omega
  · intro h; exact ⟨x.toNat, by simp; omega, by omega⟩
theorem rng_nodup (n : Nat) : (rng n).Nodup := by
  unfold rng List.Nodup
  rw [List.pairwise_map]
  exact List.Pairwise.imp (fun h => by omega) (List.pairwise_lt_range (n := n))
theorem perm_of_mem {l m : List Int} (hl : l.Nodup) (hm : m.Nodup) (h : ∀ x, x ∈ l ↔ x ∈ m) : l.Perm m := by
  rw [List.perm_iff_count]
  intro a
  rw [List.Nodup.count hl, List.Nodup.count hm]
  simp only [h a]
theorem cso_rng {n : Nat} {ps : List Int} (hb : Bij n ps) : (cso ps n n).flatten.Perm (rng n) := by
  have hc := cso_cs hb n (Nat.le_refl _)
  refine perm_of_mem hc.inn.nd (rng_nodup n) fun x => ?_
  rw [mem_rng]
  constructor
  · intro h; exact ⟨hc.inn.lo x h, hc.inn.hi x h⟩
  · intro h
    have := hc.all x.toNat (by omega)
    rw [Int.toNat_of_nonneg h.1] at this
    exact this
theorem cso_len {n : Nat} {ps : List Int} (hb : Bij n ps) : ((cso ps n n).map List.length).sum = n := by
  rw [← flatten_len, (cso_rng hb).length_eq]; simp [rng]
/-- Each list of cso is a cycle. -/
theorem cso_cyc {n : Nat} {ps : List Int} (k : Nat) (hk : k ≤ n) : ∀ c ∈ cso ps n k, ∃ i : Nat, i < n ∧ c = cyc ps n (i : Int) := by
  induction k with
  | zero => intro c hc; simp [cso] at hc
  | succ k ih =>
    intro c hc
    rw [cso] at hc
    split at hc
    · exact ih (by omega) c hc
    · rcases List.mem_append.1 hc with hc | hc
      · exact ih (by omega) c hc
      · simp at hc; exact ⟨k, by omega, hc⟩
def perB (ps : List Int) (n L : Nat) (x : Int) : Bool := decide ((cyc ps n x).length = L)
theorem count_cycles {n : Nat} {ps : List Int} (hb : Bij n ps) (L : Nat) (css : List (List Int)) (h : ∀ c ∈ css, ∃ i : Nat, i < n ∧ c = cyc ps n (i : Int)) :
    css.flatten.countP (perB ps n L) = (css.map List.length).count L * L := by
  induction css with
  | nil => simp
  | cons c t ih =>
    obtain ⟨i, hi, rfl⟩ := h c (by simp)
    rw [List.flatten_cons, List.countP_append, ih (fun c hc => h c (by simp [hc])), List.map_cons, List.count_cons]
    have hp : ∀ y ∈ cyc ps n (i : Int), perB ps n L y = decide ((cyc ps n (i : Int)).length = L) := fun y hy => by
      unfold perB; rw [per_same hb (by omega) (by omega) hy]
    by_cases e : (cyc ps n (i : Int)).length = L
    · have : (cyc ps n (i : Int)).countP (perB ps n L) = (cyc ps n (i : Int)).length := by
        rw [List.countP_eq_length]
        intro y hy; rw [hp y hy]; simpa using e
      rw [this, e]
      simp [Nat.add_mul, Nat.add_comm]
    · have : (cyc ps n (i : Int)).countP (perB ps n L) = 0 := by
        rw [List.countP_eq_zero]
        intro y hy; rw [hp y hy]; simpa using e
      rw [this]
      simp [e]
/-- qs is ps renamed by the bijection ns. -/
structure Ren (n : Nat) (ps qs ns : List Int) : Prop where
  p : Bij n ps
  q : Bij n qs
  s : Bij n ns
  eq : ∀ i, i < n → qs.getD (ns.getD i 0).toNat 0 = ns.getD (ps.getD i 0).toNat 0
theorem Ren.cyc {n : Nat} {ps qs ns : List Int} (h : Ren n ps qs ns) {f : Int} (f0 : 0 ≤ f) (f1 : f < n) : pm.cyc qs n (ns.getD f.toNat 0) = (pm.cyc ps n f).map (fun x => ns.getD x.toNat 0) := by
  have key : ∀ (m : Nat) (x : Int) (acc : List Int), 0 ≤ x → x < n → cy qs (ns.getD f.toNat 0) m (ns.getD x.toNat 0) (acc.map (fun x => ns.getD x.toNat 0)) = (cy ps f m x acc).map (fun x => ns.getD x.toNat 0) := by
    intro m
    induction m with
    | zero => intros; rfl
    | succ m ih =>
      intro x acc x0 x1
      rw [cy, cy]
      by_cases e : x = f
      · subst e; rw [if_pos rfl, if_pos rfl]
      · rw [if_neg e, if_neg (fun q => e (by have := h.s.inj _ _ (by omega) (by omega) q; omega)), h.eq _ (by omega)]
        have := h.p.maps x.toNat (by omega)
        have r := ih (ps.getD x.toNat 0) (acc ++ [x]) this.1 this.2
        rw [List.map_append] at r
        exact r
  unfold pm.cyc
  rw [h.eq _ (by omega)]
  have := h.p.maps f.toNat (by omega)
  exact key n _ [f] this.1 this.2
theorem Bij.onto {n : Nat} {ps : List Int} (h : Bij n ps) {y : Nat} (hy : y < n) : ∃ k, k < n ∧ ps.getD k 0 = (y : Int) := by
  obtain ⟨k, hk, e⟩ := onto_of_inj n (fun i => (ps.getD i 0).toNat) (fun i hi => by have := h.maps i hi; omega) (fun i j hi hj e => h.inj i j hi hj (by have := h.maps i hi; have := h.maps j hj; omega)) y hy
  exact ⟨k, hk, by have := h.maps k hk; omega⟩
theorem Bij.map_rng {n : Nat} {ns : List Int} (h : Bij n ns) : ((rng n).map fun x => ns.getD x.toNat 0).Perm (rng n) := by
  refine perm_of_mem ?_ (rng_nodup n) fun x => ?_
  · unfold List.Nodup
    rw [List.pairwise_map]
    refine List.Pairwise.imp_of_mem ?_ (rng_nodup n)
    intro a b ha hb hab e
    rw [mem_rng] at ha hb
    have := h.inj _ _ (by omega) (by omega) e
    omega
  · rw [mem_rng, List.mem_map]
    constructor
    · rintro ⟨y, hy, rfl⟩
      rw [mem_rng] at hy
      exact h.maps _ (by omega)
    · intro hx
      obtain ⟨k, hk, e⟩ := h.onto (y := x.toNat) (by omega)
      exact ⟨k, mem_rng.2 ⟨by omega, by omega⟩, by rw [Int.toNat_natCast, e]; omega⟩
theorem Ren.count {n : Nat} {ps qs ns : List Int} (h : Ren n ps qs ns) (L : Nat) : (rng n).countP (perB qs n L) = (rng n).countP (perB ps n L) := by
  rw [← h.s.map_rng.countP_eq, List.countP_map]
  refine List.countP_congr fun x hx => ?_
  rw [mem_rng] at hx
  simp only [Function.comp, perB]
  rw [h.cyc hx.1 hx.2, List.length_map]
theorem Ren.lens {n : Nat} {ps qs ns : List Int} (h : Ren n ps qs ns) : ((cso qs n n).map List.length).Perm ((cso ps n n).map List.length) := by
  rw [List.perm_iff_count]
  intro L
  have a := count_cycles h.q L (cso qs n n) (cso_cyc n (Nat.le_refl _))
  have b := count_cycles h.p L (cso ps n n) (cso_cyc n (Nat.le_refl _))
  rw [(cso_rng h.q).countP_eq, h.count L, ← (cso_rng h.p).countP_eq, b] at a
  rcases Nat.eq_zero_or_pos L with e | e
  · subst e
    have z : ∀ rs : List Int, Bij n rs → ((cso rs n n).map List.length).count 0 = 0 := by
      intro rs hr
      rw [List.count_eq_zero]
      intro hm
      obtain ⟨c, hc, e⟩ := List.mem_map.1 hm
      obtain ⟨i, hi, rfl⟩ := cso_cyc n (Nat.le_refl _) c hc
      have := (cyc_way (f := (i : Int)) hr (by omega) (by omega)).pos
      omega
    rw [z _ h.q, z _ h.p]
  · exact (Nat.eq_of_mul_eq_mul_right e a).symm
end Go.Proofs.Ytngglhbcpeigcaa.pm

/-
  Permutations form a group: plain mathematics, in the words of the functions' answers.
-/
namespace Go.Proofs.Ytngglhbcpeigcaa.pm
open Go.Proofs.Ytngglhbcpeigcaa.arr Go.Proofs.Ytngglhbcpeigcaa.inv Go.Proofs.Ytngglhbcpeigcaa.permOf
set_option linter.unusedVariables false
set_option maxRecDepth 100000

def Inv (xs : List Int) : List Int := invTo xs.length xs xs.length
theorem Inv_len (xs : List Int) : (Inv xs).length = xs.length := invTo_len _ _ _
theorem Inv_at {xs : List Int} (h : Ok xs) {k : Nat} (hk : k < xs.length) : (Inv xs).getD (xs.getD k 0).toNat 0 = (k : Int) := inv_at h hk
theorem at_Inv {xs : List Int} (h : Ok xs) {i : Nat} (hi : i < xs.length) : ∃ k, k < xs.length ∧ (Inv xs).getD i 0 = (k : Int) ∧ xs.getD k 0 = (i : Int) := by
  obtain ⟨k, hk, e⟩ := h.onto hi
  refine ⟨k, hk, ?_, e⟩
  have := Inv_at h hk
  rw [e] at this
  simpa using this
theorem Inv_ok {xs : List Int} (h : Ok xs) : Ok (Inv xs) := by
  refine ⟨by rw [Inv_len]; exact h.len, fun i hi => ?_, fun i hi => ?_, fun i j hi hj e => ?_⟩
  · rw [Inv_len] at hi; obtain ⟨k, _, q, _⟩ := at_Inv h hi; omega
  · rw [Inv_len] at hi ⊢; obtain ⟨k, _, q, _⟩ := at_Inv h hi; omega
  · rw [Inv_len] at hi hj
    obtain ⟨k, _, q, r⟩ := at_Inv h hi
    obtain ⟨k', _, q', r'⟩ := at_Inv h hj
    have : k = k' := by omega
    subst this
    omega
theorem thn_len (xs ys : List Int) : (thn xs ys).length = xs.length := by simp [thn]
theorem thn_at {xs ys : List Int} {i : Nat} (hi : i < xs.length) : (thn xs ys).getD i 0 = ys.getD (xs.getD i 0).toNat 0 := by
  simp [thn, List.getD, List.getElem?_eq_getElem hi]
theorem thn_ok {xs ys : List Int} (h : Ok xs) (h' : Ok ys) (e : xs.length = ys.length) : Ok (thn xs ys) := by
  refine ⟨by rw [thn_len]; exact h.len, fun i hi => ?_, fun i hi => ?_, fun i j hi hj q => ?_⟩
  · rw [thn_len] at hi; rw [thn_at hi]; exact h'.lo _ (by have := h.ltN i hi; omega)
  · rw [thn_len] at hi ⊢; rw [thn_at hi, e]; exact h'.hi _ (by have := h.ltN i hi; omega)
  · rw [thn_len] at hi hj
    rw [thn_at hi, thn_at hj] at q
    have := h'.inj _ _ (by have := h.ltN i hi; omega) (by have := h.ltN j hj; omega) q
    exact h.injN i j hi hj this
theorem invF_of {xs : List Int} (h : Ok xs) : invF xs = Inv xs := by simp [invF, h.b, Inv]
theorem thenF_of {xs ys : List Int} (h : Ok xs) (h' : Ok ys) (e : xs.length = ys.length) : thenF xs ys = thn xs ys := by
  unfold thenF; rw [if_pos (okBB_iff.2 ⟨h.b, h'.b, e⟩)]
theorem renF_of {xs ys : List Int} (h : Ok xs) (h' : Ok ys) (e : xs.length = ys.length) : renF xs ys = renTo xs.length xs ys xs.length := by
  unfold renF; rw [if_pos (okBB_iff.2 ⟨h.b, h'.b, e⟩)]
theorem idF_of {n : Nat} (h : n ≤ 24) : idF (n : Int) = rng n := by
  unfold idF rng; rw [if_pos ⟨by omega, by omega⟩]; simp
theorem rng_len (n : Nat) : (rng n).length = n := by simp [rng]
theorem rng_at {n i : Nat} (h : i < n) : (rng n).getD i 0 = (i : Int) := by simp [rng, List.getD, h]
section
variable {p q s : List Int} {n : Nat} (hp : Ok p) (hq : Ok q) (hs : Ok s) (lp : p.length = n) (lq : q.length = n) (ls : s.length = n)
include hp hq lp lq
theorem back_eq : thenF (invF q) (invF p) = thn (Inv q) (Inv p) := by
  rw [invF_of hp, invF_of hq, thenF_of (Inv_ok hq) (Inv_ok hp) (by rw [Inv_len, Inv_len, lp, lq])]
theorem grp_id : thenF (thenF p q) (thenF (invF q) (invF p)) = idF (n : Int) := by
  have h24 := hp.len
  have okr := thn_ok hp hq (by omega)
  have okb := thn_ok (Inv_ok hq) (Inv_ok hp) (by rw [Inv_len, Inv_len, lp, lq])
  rw [back_eq hp hq lp lq, thenF_of hp hq (by omega), thenF_of okr okb (by rw [thn_len, thn_len, Inv_len, lp, lq]), idF_of (by omega)]
  refine list_eq n (by rw [thn_len, thn_len, lp]) (rng_len n) fun i hi => ?_
  have a1 := hp.ltN i (by omega)
  have a2 := hq.ltN _ (show (p.getD i 0).toNat < q.length by omega)
  have e1 : (thn p q).getD i 0 = q.getD (p.getD i 0).toNat 0 := thn_at (by omega)
  rw [thn_at (by rw [thn_len]; omega), e1, thn_at (by rw [Inv_len]; omega), Inv_at hq (by omega), Int.toNat_natCast, Inv_at hp (by omega), rng_at hi]
theorem grp_inv : invF (thenF p q) = thenF (invF q) (invF p) := by
  have h24 := hp.len
  have okr := thn_ok hp hq (by omega)
  rw [back_eq hp hq lp lq, thenF_of hp hq (by omega), invF_of okr]
  refine list_eq n (by rw [Inv_len, thn_len, lp]) (by rw [thn_len, Inv_len, lq]) fun j hj => ?_
  obtain ⟨k, hk, e1, e2⟩ := at_Inv okr (i := j) (by rw [thn_len]; omega)
  rw [thn_len] at hk
  rw [thn_at hk] at e2
  have a1 := hp.ltN k hk
  rw [e1, thn_at (by rw [Inv_len]; omega)]
  have := Inv_at hq (k := (p.getD k 0).toNat) (by omega)
  rw [e2, Int.toNat_natCast] at this
  rw [this, Int.toNat_natCast, Inv_at hp hk]
theorem grp_ren : renF p q = thenF (thenF (invF q) p) q := by
  have h24 := hp.len
  have ok1 := thn_ok (Inv_ok hq) hp (by rw [Inv_len]; omega)
  rw [invF_of hq, thenF_of (Inv_ok hq) hp (by rw [Inv_len]; omega), thenF_of ok1 hq (by rw [thn_len, Inv_len]), renF_of hp hq (by omega)]
  refine list_eq n (by rw [renTo_len, lp]) (by rw [thn_len, thn_len, Inv_len, lq]) fun j hj => ?_
  obtain ⟨k, hk, e1, e2⟩ := at_Inv hq (i := j) (by omega)
  rw [thn_at (by rw [thn_len, Inv_len]; omega), thn_at (by rw [Inv_len]; omega), e1, Int.toNat_natCast]
  have := ren_at (xs := p) hq (by omega) (k := k) (by omega)
  rw [e2, Int.toNat_natCast] at this
  exact this
theorem ren_ok : Ok (renF p q) ∧ (renF p q).length = n := by
  have ok1 := thn_ok (Inv_ok hq) hp (by rw [Inv_len]; omega)
  rw [grp_ren hp hq lp lq, invF_of hq, thenF_of (Inv_ok hq) hp (by rw [Inv_len]; omega), thenF_of ok1 hq (by rw [thn_len, Inv_len])]
  exact ⟨thn_ok ok1 hq (by rw [thn_len, Inv_len]), by rw [thn_len, thn_len, Inv_len, lq]⟩
theorem ren_ren : Ren n p (renF p q) q := by
  obtain ⟨h1, h2⟩ := ren_ok hp hq lp lq
  have b1 := hp.bij; have b2 := h1.bij; have b3 := hq.bij
  rw [lp] at b1; rw [h2] at b2; rw [lq] at b3
  refine ⟨b1, b2, b3, fun i hi => ?_⟩
  rw [renF_of hp hq (by omega)]
  exact ren_at hq (by omega) (by omega)
theorem ren_lens : sortD ((cycF (renF p q)).map fun xs => (xs.length : Int)) = sortD ((cycF p).map fun xs => (xs.length : Int)) := by
  obtain ⟨h1, h2⟩ := ren_ok hp hq lp lq
  have hl := (ren_ren hp hq lp lq).lens
  have e1 : cycF (renF p q) = cso (renF p q) n n := by simp [cycF, h1.b, h2]
  have e2 : cycF p = cso p n n := by simp [cycF, hp.b, lp]
  rw [e1, e2]
  refine sortD_eq ?_
  have := hl.map (fun (k : Nat) => (k : Int))
  rw [List.map_map, List.map_map] at this
  exact this
omit hq lq in
theorem cyc_tot : ((cycF p).map List.length).sum = n := by
  have b1 := hp.bij
  rw [lp] at b1
  have e2 : cycF p = cso p n n := by simp [cycF, hp.b, lp]
  rw [e2]; exact cso_len b1
end
end Go.Proofs.Ytngglhbcpeigcaa.pm
