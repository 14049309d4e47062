/-
  Permutations form a group; renaming keeps the lengths of the cycles: plain mathematics.
-/
import Derived.Test.YtglpiopjhddoeaaSortM
namespace Go.Proofs.Ytglpiopjhddoeaa.pm
open Go.Proofs.Ytglpiopjhddoeaa.arr Go.Proofs.Ytglpiopjhddoeaa.inv Go.Proofs.Ytglpiopjhddoeaa.permOf
set_option linter.unusedVariables false
set_option maxRecDepth 100000

/-- m steps from f on. -/
def it (ps : List Int) (f : Int) : Nat → Int
  | 0 => f
  | m + 1 => ps.getD (it ps f m).toNat 0
theorem it_in {n : Nat} {ps : List Int} (hb : Bij n ps) {f : Int} (h0 : 0 ≤ f) (h1 : f < n) (m : Nat) : 0 ≤ it ps f m ∧ it ps f m < n := by
  induction m with
  | zero => exact ⟨h0, h1⟩
  | succ m ih => exact hb.maps _ (by omega)
theorem it_add (ps : List Int) (f : Int) (a b : Nat) : it ps (it ps f a) b = it ps f (a + b) := by
  induction b with
  | zero => rfl
  | succ b ih => show ps.getD (it ps (it ps f a) b).toNat 0 = ps.getD (it ps f (a + b)).toNat 0; rw [ih]
theorem it_inj {n : Nat} {ps : List Int} (hb : Bij n ps) {f g : Int} (f0 : 0 ≤ f) (f1 : f < n) (g0 : 0 ≤ g) (g1 : g < n) (m : Nat) (h : it ps f m = it ps g m) : f = g := by
  induction m with
  | zero => exact h
  | succ m ih =>
    have a := it_in hb f0 f1 m; have b := it_in hb g0 g1 m
    have := hb.inj _ _ (by omega) (by omega) h
    exact ih (by omega)
theorem way_it {n : Nat} {ps acc : List Int} {f x : Int} (h : Way n ps f x acc) : ∀ i, i < acc.length → acc.getD i 0 = it ps f i := by
  intro i
  induction i with
  | zero => intro _; exact h.head
  | succ i ih => intro hi; rw [h.step i hi, ih (by omega)]; rfl
theorem way_last {n : Nat} {ps acc : List Int} {f x : Int} (h : Way n ps f x acc) : x = it ps f acc.length := by
  have hp := h.pos
  rw [h.last, way_it h _ (by omega)]
  have : acc.length = (acc.length - 1) + 1 := by omega
  rw [this]; rfl
/-- All elements of a cycle have cycles of the same length. -/
theorem per_same {n : Nat} {ps : List Int} (hb : Bij n ps) {f : Int} (f0 : 0 ≤ f) (f1 : f < n) {y : Int} (hy : y ∈ cyc ps n f) : (cyc ps n y).length = (cyc ps n f).length := by
  have hw := cyc_way hb f0 f1
  obtain ⟨j, hj, e⟩ := mem_getD hy
  rw [way_it hw j hj] at e
  have y0 := hw.inn.lo y hy; have y1 := hw.inn.hi y hy
  have hv := cyc_way (f := y) hb y0 y1
  have lf := way_last hw; have ly := way_last hv
  have pf := hw.pos; have py := hv.pos
  -- one way round
  have A : ∀ {f y : Int}, 0 ≤ f → f < n → 0 ≤ y → y < n → (j : Nat) → it ps f j = y → Way n ps f f (cyc ps n f) → Way n ps y y (cyc ps n y) → ¬ (cyc ps n y).length < (cyc ps n f).length := by
    intro f y f0 f1 y0 y1 j e hw hv hlt
    have ly := way_last hv
    have py := hv.pos
    have e1 : it ps f ((cyc ps n y).length) = f := by
      have q : it ps (it ps f (cyc ps n y).length) j = it ps f j := by rw [it_add, Nat.add_comm, ← it_add, e, ← ly]
      have a := it_in hb f0 f1 (cyc ps n y).length
      exact it_inj hb a.1 a.2 f0 f1 j q
    have := nodup_getD hw.inn.nd (i := (cyc ps n y).length) (j := 0) hlt (by omega) (by rw [way_it hw _ hlt, e1, hw.head])
    omega
  have h1 := A f0 f1 y0 y1 j e hw hv
  have ej : j + ((cyc ps n f).length - j) = (cyc ps n f).length := by omega
  have e2 : it ps y ((cyc ps n f).length - j) = f := by rw [← e, it_add, ej, ← lf]
  have h2 := A y0 y1 f0 f1 _ e2 hv hw
  omega
def rng (n : Nat) : List Int := (List.range n).map fun (i : Nat) => (i : Int)
theorem mem_rng {n : Nat} {x : Int} : x ∈ rng n ↔ 0 ≤ x ∧ x < n := by
  unfold rng
  rw [List.mem_map]
  constructor
  · rintro ⟨i, hi, rfl⟩; simp at hi; omega
  · intro h; exact ⟨x.toNat, by simp; omega, by omega⟩
theorem rng_nodup (n : Nat) : (rng n).Nodup := by
  unfold rng List.Nodup
  rw [List.pairwise_map]
  exact List.Pairwise.imp (fun h => by omega) (List.pairwise_lt_range (n := n))
theorem perm_of_mem {l m : List Int} (hl : l.Nodup) (hm : m.Nodup) (h : ∀ x, x ∈ l ↔ x ∈ m) : l.Perm m := by
  rw [List.perm_iff_count]
  intro a
  rw [List.Nodup.count hl, List.Nodup.count hm]
  simp only [h a]
theorem cso_rng {n : Nat} {ps : List Int} (hb : Bij n ps) : (cso ps n n).flatten.Perm (rng n) := by
  have hc := cso_cs hb n (Nat.le_refl _)
  refine perm_of_mem hc.inn.nd (rng_nodup n) fun x => ?_
  rw [mem_rng]
  constructor
  · intro h; exact ⟨hc.inn.lo x h, hc.inn.hi x h⟩
  · intro h
    have := hc.all x.toNat (by omega)
    rw [Int.toNat_of_nonneg h.1] at this
    exact this
theorem cso_len {n : Nat} {ps : List Int} (hb : Bij n ps) : ((cso ps n n).map List.length).sum = n := by
  rw [← flatten_len, (cso_rng hb).length_eq]; simp [rng]
/-- Each list of cso is a cycle. -/
theorem cso_cyc {n : Nat} {ps : List Int} (k : Nat) (hk : k ≤ n) : ∀ c ∈ cso ps n k, ∃ i : Nat, i < n ∧ c = cyc ps n (i : Int) := by
  induction k with
  | zero => intro c hc; simp [cso] at hc
  | succ k ih =>
    intro c hc
    rw [cso] at hc
    split at hc
    · exact ih (by omega) c hc
    · rcases List.mem_append.1 hc with hc | hc
      · exact ih (by omega) c hc
      · simp at hc; exact ⟨k, by omega, hc⟩
def perB (ps : List Int) (n L : Nat) (x : Int) : Bool := decide ((cyc ps n x).length = L)
theorem count_cycles {n : Nat} {ps : List Int} (hb : Bij n ps) (L : Nat) (css : List (List Int)) (h : ∀ c ∈ css, ∃ i : Nat, i < n ∧ c = cyc ps n (i : Int)) :
    css.flatten.countP (perB ps n L) = (css.map List.length).count L * L := by
  induction css with
  | nil => simp
  | cons c t ih =>
    obtain ⟨i, hi, rfl⟩ := h c (by simp)
    rw [List.flatten_cons, List.countP_append, ih (fun c hc => h c (by simp [hc])), List.map_cons, List.count_cons]
    have hp : ∀ y ∈ cyc ps n (i : Int), perB ps n L y = decide ((cyc ps n (i : Int)).length = L) := fun y hy => by
      unfold perB; rw [per_same hb (by omega) (by omega) hy]
    by_cases e : (cyc ps n (i : Int)).length = L
    · have : (cyc ps n (i : Int)).countP (perB ps n L) = (cyc ps n (i : Int)).length := by
        rw [List.countP_eq_length]
        intro y hy; rw [hp y hy]; simpa using e
      rw [this, e]
      simp [Nat.add_mul, Nat.add_comm]
    · have : (cyc ps n (i : Int)).countP (perB ps n L) = 0 := by
        rw [List.countP_eq_zero]
        intro y hy; rw [hp y hy]; simpa using e
      rw [this]
      simp [e]
/-- qs is ps renamed by the bijection ns. -/
structure Ren (n : Nat) (ps qs ns : List Int) : Prop where
  p : Bij n ps
  q : Bij n qs
  s : Bij n ns
  eq : ∀ i, i < n → qs.getD (ns.getD i 0).toNat 0 = ns.getD (ps.getD i 0).toNat 0
theorem Ren.cyc {n : Nat} {ps qs ns : List Int} (h : Ren n ps qs ns) {f : Int} (f0 : 0 ≤ f) (f1 : f < n) : pm.cyc qs n (ns.getD f.toNat 0) = (pm.cyc ps n f).map (fun x => ns.getD x.toNat 0) := by
  have key : ∀ (m : Nat) (x : Int) (acc : List Int), 0 ≤ x → x < n → cy qs (ns.getD f.toNat 0) m (ns.getD x.toNat 0) (acc.map (fun x => ns.getD x.toNat 0)) = (cy ps f m x acc).map (fun x => ns.getD x.toNat 0) := by
    intro m
    induction m with
    | zero => intros; rfl
    | succ m ih =>
      intro x acc x0 x1
      rw [cy, cy]
      by_cases e : x = f
      · subst e; rw [if_pos rfl, if_pos rfl]
      · rw [if_neg e, if_neg (fun q => e (by have := h.s.inj _ _ (by omega) (by omega) q; omega)), h.eq _ (by omega)]
        have := h.p.maps x.toNat (by omega)
        have r := ih (ps.getD x.toNat 0) (acc ++ [x]) this.1 this.2
        rw [List.map_append] at r
        exact r
  unfold pm.cyc
  rw [h.eq _ (by omega)]
  have := h.p.maps f.toNat (by omega)
  exact key n _ [f] this.1 this.2
theorem Bij.onto {n : Nat} {ps : List Int} (h : Bij n ps) {y : Nat} (hy : y < n) : ∃ k, k < n ∧ ps.getD k 0 = (y : Int) := by
  obtain ⟨k, hk, e⟩ := onto_of_inj n (fun i => (ps.getD i 0).toNat) (fun i hi => by have := h.maps i hi; omega) (fun i j hi hj e => h.inj i j hi hj (by have := h.maps i hi; have := h.maps j hj; omega)) y hy
  exact ⟨k, hk, by have := h.maps k hk; omega⟩
theorem Bij.map_rng {n : Nat} {ns : List Int} (h : Bij n ns) : ((rng n).map fun x => ns.getD x.toNat 0).Perm (rng n) := by
  refine perm_of_mem ?_ (rng_nodup n) fun x => ?_
  · unfold List.Nodup
    rw [List.pairwise_map]
    refine List.Pairwise.imp_of_mem ?_ (rng_nodup n)
    intro a b ha hb hab e
    rw [mem_rng] at ha hb
    have := h.inj _ _ (by omega) (by omega) e
    omega
  · rw [mem_rng, List.mem_map]
    constructor
    · rintro ⟨y, hy, rfl⟩
      rw [mem_rng] at hy
      exact h.maps _ (by omega)
    · intro hx
      obtain ⟨k, hk, e⟩ := h.onto (y := x.toNat) (by omega)
      exact ⟨k, mem_rng.2 ⟨by omega, by omega⟩, by rw [Int.toNat_natCast, e]; omega⟩
theorem Ren.count {n : Nat} {ps qs ns : List Int} (h : Ren n ps qs ns) (L : Nat) : (rng n).countP (perB qs n L) = (rng n).countP (perB ps n L) := by
  rw [← h.s.map_rng.countP_eq, List.countP_map]
  refine List.countP_congr fun x hx => ?_
  rw [mem_rng] at hx
  simp only [Function.comp, perB]
  rw [h.cyc hx.1 hx.2, List.length_map]
theorem Ren.lens {n : Nat} {ps qs ns : List Int} (h : Ren n ps qs ns) : ((cso qs n n).map List.length).Perm ((cso ps n n).map List.length) := by
  rw [List.perm_iff_count]
  intro L
  have a := count_cycles h.q L (cso qs n n) (cso_cyc n (Nat.le_refl _))
  have b := count_cycles h.p L (cso ps n n) (cso_cyc n (Nat.le_refl _))
  rw [(cso_rng h.q).countP_eq, h.count L, ← (cso_rng h.p).countP_eq, b] at a
  rcases Nat.eq_zero_or_pos L with e | e
  · subst e
    have z : ∀ rs : List Int, Bij n rs → ((cso rs n n).map List.length).count 0 = 0 := by
      intro rs hr
      rw [List.count_eq_zero]
      intro hm
      obtain ⟨c, hc, e⟩ := List.mem_map.1 hm
      obtain ⟨i, hi, rfl⟩ := cso_cyc n (Nat.le_refl _) c hc
      have := (cyc_way (f := (i : Int)) hr (by omega) (by omega)).pos
      omega
    rw [z _ h.q, z _ h.p]
  · exact (Nat.eq_of_mul_eq_mul_right e a).symm
end Go.Proofs.Ytglpiopjhddoeaa.pm
