import Derived.Test.YtglpiopjhddoeaaY05
/-
  Permutations form a group; renaming keeps the lengths of the cycles: plain mathematics.
-/
namespace Go.Proofs.Ytglpiopjhddoeaa.pm
open Go.Proofs.Ytglpiopjhddoeaa.arr Go.Proofs.Ytglpiopjhddoeaa.inv Go.Proofs.Ytglpiopjhddoeaa.permOf
set_option linter.unusedVariables false
set_option maxRecDepth 100000

/-- m steps from f on. -/
def it (ps : List Int) (f : Int) : Nat → Int
  | 0 => f
  | m + 1 => ps.getD (it ps f m).toNat 0
theorem it_in {n : Nat} {ps : List Int} (hb : Bij n ps) {f : Int} (h0 : 0 ≤ f) (h1 : f < n) (m : Nat) : 0 ≤ it ps f m ∧ it ps f m < n := by
  induction m with
  | zero => exact ⟨h0, h1⟩
  | succ m ih => exact hb.maps _ (by omega)
theorem it_add (ps : List Int) (f : Int) (a b : Nat) : it ps (it ps f a) b = it ps f (a + b) := by
  induction b with
  | zero => rfl
  | succ b ih => show ps.getD (it ps (it ps f a) b).toNat 0 = ps.getD (it ps f (a + b)).toNat 0; rw [ih]
theorem it_inj {n : Nat} {ps : List Int} (hb : Bij n ps) {f g : Int} (f0 : 0 ≤ f) (f1 : f < n) (g0 : 0 ≤ g) (g1 : g < n) (m : Nat) (h : it ps f m = it ps g m) : f = g := by
  induction m with
  | zero => exact h
  | succ m ih =>
    have a := it_in hb f0 f1 m; have b := it_in hb g0 g1 m
    have := hb.inj _ _ (by omega) (by omega) h
    exact ih (by omega)
theorem way_it {n : Nat} {ps acc : List Int} {f x : Int} (h : Way n ps f x acc) : ∀ i, i < acc.length → acc.getD i 0 = it ps f i := by
  intro i
  induction i with
  | zero => intro _; exact h.head
  | succ i ih => intro hi; rw [h.step i hi, ih (by omega)]; rfl
theorem way_last {n : Nat} {ps acc : List Int} {f x : Int} (h : Way n ps f x acc) : x = it ps f acc.length := by
  have hp := h.pos
  rw [h.last, way_it h _ (by omega)]
  have : acc.length = (acc.length - 1) + 1 := by omega
  rw [this]; rfl
/-- All elements of a cycle have cycles of the same length. -/
theorem per_same {n : Nat} {ps : List Int} (hb : Bij n ps) {f : Int} (f0 : 0 ≤ f) (f1 : f < n) {y : Int} (hy : y ∈ cyc ps n f) : (cyc ps n y).length = (cyc ps n f).length := by
  have hw := cyc_way hb f0 f1
  obtain ⟨j, hj, e⟩ := mem_getD hy
  rw [way_it hw j hj] at e
  have y0 := hw.inn.lo y hy; have y1 := hw.inn.hi y hy
  have hv := cyc_way (f := y) hb y0 y1
  have lf := way_last hw; have ly := way_last hv
  have pf := hw.pos; have py := hv.pos
  -- one way round
  have A : ∀ {f y : Int}, 0 ≤ f → f < n → 0 ≤ y → y < n → (j : Nat) → it ps f j = y → Way n ps f f (cyc ps n f) → Way n ps y y (cyc ps n y) → ¬ (cyc ps n y).length < (cyc ps n f).length := by
    intro f y f0 f1 y0 y1 j e hw hv hlt
    have ly := way_last hv
    have py := hv.pos
    have e1 : it ps f ((cyc ps n y).length) = f := by
      have q : it ps (it ps f (cyc ps n y).length) j = it ps f j := by rw [it_add, Nat.add_comm, ← it_add, e, ← ly]
      have a := it_in hb f0 f1 (cyc ps n y).length
      exact it_inj hb a.1 a.2 f0 f1 j q
    have := nodup_getD hw.inn.nd (i := (cyc ps n y).length) (j := 0) hlt (by omega) (by rw [way_it hw _ hlt, e1, hw.head])
    omega
  have h1 := A f0 f1 y0 y1 j e hw hv
  have ej : j + ((cyc ps n f).length - j) = (cyc ps n f).length := by omega
  have e2 : it ps y ((cyc ps n f).length - j) = f := by rw [← e, it_add, ej, ← lf]
  have h2 := A y0 y1 f0 f1 _ e2 hv hw
  omega
def rng (n : Nat) : List Int := (List.range n).map fun (i : Nat) => (i : Int)
theorem mem_rng {n : Nat} {x : Int} : x ∈ rng n ↔ 0 ≤ x ∧ x < n := by
  unfold rng
  rw [List.mem_map]
  constructor
  · rintro ⟨i, hi, rfl⟩; simp at hi; omega
  · intro h; exact ⟨x.toNat, by simp; omega, by omega⟩
theorem rng_nodup (n : Nat) : (rng n).Nodup := by
  unfold rng List.Nodup
  rw [List.pairwise_map]
  exact List.Pairwise.imp (fun h => by omega) (List.pairwise_lt_range (n := n))
theorem perm_of_mem {l m : List Int} (hl : l.Nodup) (hm : m.Nodup) (h : ∀ x, x ∈ l ↔ x ∈ m) : l.Perm m := by
  rw [List.perm_iff_count]
  intro a
  rw [List.Nodup.count hl, List.Nodup.count hm]
  simp only [h a]
theorem cso_rng {n : Nat} {ps : List Int} (hb : Bij n ps) : (cso ps n n).flatten.Perm (rng n) := by
  have hc := cso_cs hb n (Nat.le_refl _)
  refine perm_of_mem hc.inn.nd (rng_nodup n) fun x => ?_
  rw [mem_rng]
  constructor
  · intro h; exact ⟨hc.inn.lo x h, hc.inn.hi x h⟩
  · intro h
    have := hc.all x.toNat (by omega)
    rw [Int.toNat_of_nonneg h.1] at this
    exact this
theorem cso_len {n : Nat} {ps : List Int} (hb : Bij n ps) : ((cso ps n n).map List.length).sum = n := by
  rw [← flatten_len, (cso_rng hb).length_eq]; simp [rng]
/-- Each list of cso is a cycle. -/
theorem cso_cyc {n : Nat} {ps : List Int} (k : Nat) (hk : k ≤ n) : ∀ c ∈ cso ps n k, ∃ i : Nat, i < n ∧ c = cyc ps n (i : Int) := by
  induction k with
  | zero => intro c hc; simp [cso] at hc
  | succ k ih =>
    intro c hc
    rw [cso] at hc
    split at hc
    · exact ih (by omega) c hc
    · rcases List.mem_append.1 hc with hc | hc
      · exact ih (by omega) c hc
      · simp at hc; exact ⟨k, by omega, hc⟩
def perB (ps : List Int) (n L : Nat) (x : Int) : Bool := decide ((cyc ps n x).length = L)
theorem count_cycles {n : Nat} {ps : List Int} (hb : Bij n ps) (L : Nat) (css : List (List Int)) (h : ∀ c ∈ css, ∃ i : Nat, i < n ∧ c = cyc ps n (i : Int)) :
    css.flatten.countP (perB ps n L) = (css.map List.length).count L * L := by
  induction css with
  | nil => simp
  | cons c t ih =>
    obtain ⟨i, hi, rfl⟩ := h c (by simp)
    rw [List.flatten_cons, List.countP_append, ih (fun c hc => h c (by simp [hc])), List.map_cons, List.count_cons]
    have hp : ∀ y ∈ cyc ps n (i : Int), perB ps n L y = decide ((cyc ps n (i : Int)).length = L) := fun y hy => by
      unfold perB; rw [per_same hb (by omega) (by omega) hy]
    by_cases e : (cyc ps n (i : Int)).length = L
    · have : (cyc ps n (i : Int)).countP (perB ps n L) = (cyc ps n (i : Int)).length := by
        rw [List.countP_eq_length]
        intro y hy; rw [hp y hy]; simpa using e
      rw [this, e]
      simp [Nat.add_mul, Nat.add_comm]
    · have : (cyc ps n (i : Int)).countP (perB ps n L) = 0 := by
        rw [List.countP_eq_zero]
        intro y hy; rw [hp y hy]; simpa using e
      rw [this]
      simp [e]
/-- qs is ps renamed by the bijection ns. -/
structure Ren (n : Nat) (ps qs ns : List Int) : Prop where
  p : Bij n ps
  q : Bij n qs
  s : Bij n ns
  eq : ∀ i, i < n → qs.getD (ns.getD i 0).toNat 0 = ns.getD (ps.getD i 0).toNat 0
theorem Ren.cyc {n : Nat} {ps qs ns : List Int} (h : Ren n ps qs ns) {f : Int} (f0 : 0 ≤ f) (f1 : f < n) : pm.cyc qs n (ns.getD f.toNat 0) = (pm.cyc ps n f).map (fun x => ns.getD x.toNat 0) := by
  have key : ∀ (m : Nat) (x : Int) (acc : List Int), 0 ≤ x → x < n → cy qs (ns.getD f.toNat 0) m (ns.getD x.toNat 0) (acc.map (fun x => ns.getD x.toNat 0)) = (cy ps f m x acc).map (fun x => ns.getD x.toNat 0) := by
    intro m
    induction m with
    | zero => intros; rfl
    | succ m ih =>
      intro x acc x0 x1
      rw [cy, cy]
      by_cases e : x = f
      · subst e; rw [if_pos rfl, if_pos rfl]
      · rw [if_neg e, if_neg (fun q => e (by have := h.s.inj _ _ (by omega) (by omega) q; omega)), h.eq _ (by omega)]
        have := h.p.maps x.toNat (by omega)
        have r := ih (ps.getD x.toNat 0) (acc ++ [x]) this.1 this.2
        rw [List.map_append] at r
        exact r
  unfold pm.cyc
  rw [h.eq _ (by omega)]
  have := h.p.maps f.toNat (by omega)
  exact key n _ [f] this.1 this.2
theorem Bij.onto {n : Nat} {ps : List Int} (h : Bij n ps) {y : Nat} (hy : y < n) : ∃ k, k < n ∧ ps.getD k 0 = (y : Int) := by
  obtain ⟨k, hk, e⟩ := onto_of_inj n (fun i => (ps.getD i 0).toNat) (fun i hi => by have := h.maps i hi; omega) (fun i j hi hj e => h.inj i j hi hj (by have := h.maps i hi; have := h.maps j hj; omega)) y hy
  exact ⟨k, hk, by have := h.maps k hk; omega⟩
theorem Bij.map_rng {n : Nat} {ns : List Int} (h : Bij n ns) : ((rng n).map fun x => ns.getD x.toNat 0).Perm (rng n) := by
  refine perm_of_mem ?_ (rng_nodup n) fun x => ?_
  · unfold List.Nodup
    rw [List.pairwise_map]
    refine List.Pairwise.imp_of_mem ?_ (rng_nodup n)
    intro a b ha hb hab e
    rw [mem_rng] at ha hb
    have := h.inj _ _ (by omega) (by omega) e
    omega
  · rw [mem_rng, List.mem_map]
    constructor
    · rintro ⟨y, hy, rfl⟩
      rw [mem_rng] at hy
      exact h.maps _ (by omega)
    · intro hx
      obtain ⟨k, hk, e⟩ := h.onto (y := x.toNat) (by omega)
      exact ⟨k, mem_rng.2 ⟨by omega, by omega⟩, by rw [Int.toNat_natCast, e]; omega⟩
theorem Ren.count {n : Nat} {ps qs ns : List Int} (h : Ren n ps qs ns) (L : Nat) : (rng n).countP (perB qs n L) = (rng n).countP (perB ps n L) := by
  rw [← h.s.map_rng.countP_eq, List.countP_map]
  refine List.countP_congr fun x hx => ?_
  rw [mem_rng] at hx
  simp only [Function.comp, perB]
  rw [h.cyc hx.1 hx.2, List.length_map]
theorem Ren.lens {n : Nat} {ps qs ns : List Int} (h : Ren n ps qs ns) : ((cso qs n n).map List.length).Perm ((cso ps n n).map List.length) := by
  rw [List.perm_iff_count]
  intro L
  have a := count_cycles h.q L (cso qs n n) (cso_cyc n (Nat.le_refl _))
  have b := count_cycles h.p L (cso ps n n) (cso_cyc n (Nat.le_refl _))
  rw [(cso_rng h.q).countP_eq, h.count L, ← (cso_rng h.p).countP_eq, b] at a
  rcases Nat.eq_zero_or_pos L with e | e
  · subst e
    have z : ∀ rs : List Int, Bij n rs → ((cso rs n n).map List.length).count 0 = 0 := by
      intro rs hr
      rw [List.count_eq_zero]
      intro hm
      obtain ⟨c, hc, e⟩ := List.mem_map.1 hm
      obtain ⟨i, hi, rfl⟩ := cso_cyc n (Nat.le_refl _) c hc
      have := (cyc_way (f := (i : Int)) hr (by omega) (by omega)).pos
      omega
    rw [z _ h.q, z _ h.p]
  · exact (Nat.eq_of_mul_eq_mul_right e a).symm
end Go.Proofs.Ytglpiopjhddoeaa.pm

/-
  Permutations form a group: plain mathematics, in the words of the functions' answers.
-/
namespace Go.Proofs.Ytglpiopjhddoeaa.pm
open Go.Proofs.Ytglpiopjhddoeaa.arr Go.Proofs.Ytglpiopjhddoeaa.inv Go.Proofs.Ytglpiopjhddoeaa.permOf
set_option linter.unusedVariables false
set_option maxRecDepth 100000

def Inv (xs : List Int) : List Int := invTo xs.length xs xs.length
theorem Inv_len (xs : List Int) : (Inv xs).length = xs.length := invTo_len _ _ _
theorem Inv_at {xs : List Int} (h : Ok xs) {k : Nat} (hk : k < xs.length) : (Inv xs).getD (xs.getD k 0).toNat 0 = (k : Int) := inv_at h hk
theorem at_Inv {xs : List Int} (h : Ok xs) {i : Nat} (hi : i < xs.length) : ∃ k, k < xs.length ∧ (Inv xs).getD i 0 = (k : Int) ∧ xs.getD k 0 = (i : Int) := by
  obtain ⟨k, hk, e⟩ := h.onto hi
  refine ⟨k, hk, ?_, e⟩
  have := Inv_at h hk
  rw [e] at this
  simpa using this
theorem Inv_ok {xs : List Int} (h : Ok xs) : Ok (Inv xs) := by
  refine ⟨by rw [Inv_len]; exact h.len, fun i hi => ?_, fun i hi => ?_, fun i j hi hj e => ?_⟩
  · rw [Inv_len] at hi; obtain ⟨k, _, q, _⟩ := at_Inv h hi; omega
  · rw [Inv_len] at hi ⊢; obtain ⟨k, _, q, _⟩ := at_Inv h hi; omega
  · rw [Inv_len] at hi hj
    obtain ⟨k, _, q, r⟩ := at_Inv h hi
    obtain ⟨k', _, q', r'⟩ := at_Inv h hj
    have : k = k' := by omega
    subst this
    omega
theorem thn_len (xs ys : List Int) : (thn xs ys).length = xs.length := by simp [thn]
theorem thn_at {xs ys : List Int} {i : Nat} (hi : i < xs.length) : (thn xs ys).getD i 0 = ys.getD (xs.getD i 0).toNat 0 := by
  simp [thn, List.getD, List.getElem?_eq_getElem hi]
theorem thn_ok {xs ys : List Int} (h : Ok xs) (h' : Ok ys) (e : xs.length = ys.length) : Ok (thn xs ys) := by
  refine ⟨by rw [thn_len]; exact h.len, fun i hi => ?_, fun i hi => ?_, fun i j hi hj q => ?_⟩
  · rw [thn_len] at hi; rw [thn_at hi]; exact h'.lo _ (by have := h.ltN i hi; omega)
  · rw [thn_len] at hi ⊢; rw [thn_at hi, e]; exact h'.hi _ (by have := h.ltN i hi; omega)
  · rw [thn_len] at hi hj
    rw [thn_at hi, thn_at hj] at q
    have := h'.inj _ _ (by have := h.ltN i hi; omega) (by have := h.ltN j hj; omega) q
    exact h.injN i j hi hj this
theorem invF_of {xs : List Int} (h : Ok xs) : invF xs = Inv xs := by simp [invF, h.b, Inv]
theorem thenF_of {xs ys : List Int} (h : Ok xs) (h' : Ok ys) (e : xs.length = ys.length) : thenF xs ys = thn xs ys := by
  unfold thenF; rw [if_pos (okBB_iff.2 ⟨h.b, h'.b, e⟩)]
theorem renF_of {xs ys : List Int} (h : Ok xs) (h' : Ok ys) (e : xs.length = ys.length) : renF xs ys = renTo xs.length xs ys xs.length := by
  unfold renF; rw [if_pos (okBB_iff.2 ⟨h.b, h'.b, e⟩)]
theorem idF_of {n : Nat} (h : n ≤ 24) : idF (n : Int) = rng n := by
  unfold idF rng; rw [if_pos ⟨by omega, by omega⟩]; simp
theorem rng_len (n : Nat) : (rng n).length = n := by simp [rng]
theorem rng_at {n i : Nat} (h : i < n) : (rng n).getD i 0 = (i : Int) := by simp [rng, List.getD, h]
section
variable {p q s : List Int} {n : Nat} (hp : Ok p) (hq : Ok q) (hs : Ok s) (lp : p.length = n) (lq : q.length = n) (ls : s.length = n)
include hp hq lp lq
theorem back_eq : thenF (invF q) (invF p) = thn (Inv q) (Inv p) := by
  rw [invF_of hp, invF_of hq, thenF_of (Inv_ok hq) (Inv_ok hp) (by rw [Inv_len, Inv_len, lp, lq])]
theorem grp_id : thenF (thenF p q) (thenF (invF q) (invF p)) = idF (n : Int) := by
  have h24 := hp.len
  have okr := thn_ok hp hq (by omega)
  have okb := thn_ok (Inv_ok hq) (Inv_ok hp) (by rw [Inv_len, Inv_len, lp, lq])
  rw [back_eq hp hq lp lq, thenF_of hp hq (by omega), thenF_of okr okb (by rw [thn_len, thn_len, Inv_len, lp, lq]), idF_of (by omega)]
  refine list_eq n (by rw [thn_len, thn_len, lp]) (rng_len n) fun i hi => ?_
  have a1 := hp.ltN i (by omega)
  have a2 := hq.ltN _ (show (p.getD i 0).toNat < q.length by omega)
  have e1 : (thn p q).getD i 0 = q.getD (p.getD i 0).toNat 0 := thn_at (by omega)
  rw [thn_at (by rw [thn_len]; omega), e1, thn_at (by rw [Inv_len]; omega), Inv_at hq (by omega), Int.toNat_natCast, Inv_at hp (by omega), rng_at hi]
theorem grp_inv : invF (thenF p q) = thenF (invF q) (invF p) := by
  have h24 := hp.len
  have okr := thn_ok hp hq (by omega)
  rw [back_eq hp hq lp lq, thenF_of hp hq (by omega), invF_of okr]
  refine list_eq n (by rw [Inv_len, thn_len, lp]) (by rw [thn_len, Inv_len, lq]) fun j hj => ?_
  obtain ⟨k, hk, e1, e2⟩ := at_Inv okr (i := j) (by rw [thn_len]; omega)
  rw [thn_len] at hk
  rw [thn_at hk] at e2
  have a1 := hp.ltN k hk
  rw [e1, thn_at (by rw [Inv_len]; omega)]
  have := Inv_at hq (k := (p.getD k 0).toNat) (by omega)
  rw [e2, Int.toNat_natCast] at this
  rw [this, Int.toNat_natCast, Inv_at hp hk]
theorem grp_ren : renF p q = thenF (thenF (invF q) p) q := by
  have h24 := hp.len
  have ok1 := thn_ok (Inv_ok hq) hp (by rw [Inv_len]; omega)
  rw [invF_of hq, thenF_of (Inv_ok hq) hp (by rw [Inv_len]; omega), thenF_of ok1 hq (by rw [thn_len, Inv_len]), renF_of hp hq (by omega)]
  refine list_eq n (by rw [renTo_len, lp]) (by rw [thn_len, thn_len, Inv_len, lq]) fun j hj => ?_
  obtain ⟨k, hk, e1, e2⟩ := at_Inv hq (i := j) (by omega)
  rw [thn_at (by rw [thn_len, Inv_len]; omega), thn_at (by rw [Inv_len]; omega), e1, Int.toNat_natCast]
  have := ren_at (xs := p) hq (by omega) (k := k) (by omega)
  rw [e2, Int.toNat_natCast] at this
  exact this
theorem ren_ok : Ok (renF p q) ∧ (renF p q).length = n := by
  have ok1 := thn_ok (Inv_ok hq) hp (by rw [Inv_len]; omega)
  rw [grp_ren hp hq lp lq, invF_of hq, thenF_of (Inv_ok hq) hp (by rw [Inv_len]; omega), thenF_of ok1 hq (by rw [thn_len, Inv_len])]
  exact ⟨thn_ok ok1 hq (by rw [thn_len, Inv_len]), by rw [thn_len, thn_len, Inv_len, lq]⟩
theorem ren_ren : Ren n p (renF p q) q := by
  obtain ⟨h1, h2⟩ := ren_ok hp hq lp lq
  have b1 := hp.bij; have b2 := h1.bij; have b3 := hq.bij
  rw [lp] at b1; rw [h2] at b2; rw [lq] at b3
  refine ⟨b1, b2, b3, fun i hi => ?_⟩
  rw [renF_of hp hq (by omega)]
  exact ren_at hq (by omega) (by omega)
theorem ren_lens : sortD ((cycF (renF p q)).map fun xs => (xs.length : Int)) = sortD ((cycF p).map fun xs => (xs.length : Int)) := by
  obtain ⟨h1, h2⟩ := ren_ok hp hq lp lq
  have hl := (ren_ren hp hq lp lq).lens
  have e1 : cycF (renF p q) = cso (renF p q) n n := by simp [cycF, h1.b, h2]
  have e2 : cycF p = cso p n n := by simp [cycF, hp.b, lp]
  rw [e1, e2]
  refine sortD_eq ?_
  have := hl.map (fun (k : Nat) => (k : Int))
  rw [List.map_map, List.map_map] at this
  exact this
omit hq lq in
theorem cyc_tot : ((cycF p).map List.length).sum = n := by
  have b1 := hp.bij
  rw [lp] at b1
  have e2 : cycF p = cso p n n := by simp [cycF, hp.b, lp]
  rw [e2]; exact cso_len b1
end
end Go.Proofs.Ytglpiopjhddoeaa.pm

/-
  An exchange of two elements changes the number of cycles by one; so its parity is that of a product: plain mathematics.
-/
namespace Go.Proofs.Ytglpiopjhddoeaa.pm
open Go.Proofs.Ytglpiopjhddoeaa.arr Go.Proofs.Ytglpiopjhddoeaa.inv Go.Proofs.Ytglpiopjhddoeaa.permOf
set_option linter.unusedVariables false
set_option maxRecDepth 100000

section
variable {n : Nat} {ps : List Int} (hb : Bij n ps)
include hb
theorem cyc_self {f : Int} (f0 : 0 ≤ f) (f1 : f < n) : f ∈ cyc ps n f := by
  have hw := cyc_way hb f0 f1
  have := getD_mem (l := cyc ps n f) (i := 0) hw.pos
  rw [hw.head] at this; exact this
theorem cyc_next {f x : Int} (f0 : 0 ≤ f) (f1 : f < n) (hx : x ∈ cyc ps n f) : ps.getD x.toNat 0 ∈ cyc ps n f := by
  have hw := cyc_way hb f0 f1
  obtain ⟨i, hi, e⟩ := mem_getD hx
  by_cases h : i + 1 < (cyc ps n f).length
  · rw [← e, ← hw.step i h]; exact getD_mem h
  · have : i = (cyc ps n f).length - 1 := by omega
    subst this
    rw [← e, ← hw.last]
    exact cyc_self hb f0 f1
theorem mem_cyc {f y : Int} (f0 : 0 ≤ f) (f1 : f < n) : y ∈ cyc ps n f ↔ ∃ m, it ps f m = y := by
  have hw := cyc_way hb f0 f1
  constructor
  · intro h
    obtain ⟨i, hi, e⟩ := mem_getD h
    exact ⟨i, by rw [← way_it hw i hi, e]⟩
  · rintro ⟨m, rfl⟩
    induction m with
    | zero => exact cyc_self hb f0 f1
    | succ m ih => exact cyc_next hb f0 f1 ih
theorem cyc_trans {f x y : Int} (f0 : 0 ≤ f) (f1 : f < n) (hx : x ∈ cyc ps n f) (hy : y ∈ cyc ps n x) : y ∈ cyc ps n f := by
  have hw := cyc_way hb f0 f1
  obtain ⟨a, ea⟩ := (mem_cyc hb f0 f1).1 hx
  obtain ⟨b, eb⟩ := (mem_cyc hb (hw.inn.lo x hx) (hw.inn.hi x hx)).1 hy
  exact (mem_cyc hb f0 f1).2 ⟨a + b, by rw [← it_add, ea, eb]⟩
theorem cyc_symm {f x : Int} (f0 : 0 ≤ f) (f1 : f < n) (hx : x ∈ cyc ps n f) : f ∈ cyc ps n x := by
  have hw := cyc_way hb f0 f1
  obtain ⟨j, hj, e⟩ := mem_getD hx
  rw [way_it hw j hj] at e
  refine (mem_cyc hb (hw.inn.lo x hx) (hw.inn.hi x hx)).2 ⟨(cyc ps n f).length - j, ?_⟩
  have ej : j + ((cyc ps n f).length - j) = (cyc ps n f).length := by omega
  rw [← e, it_add, ej, ← way_last hw]
theorem cyc_iff {f x y : Int} (f0 : 0 ≤ f) (f1 : f < n) (hx : x ∈ cyc ps n f) : y ∈ cyc ps n x ↔ y ∈ cyc ps n f := by
  have hw := cyc_way hb f0 f1
  constructor
  · exact cyc_trans hb f0 f1 hx
  · exact cyc_trans hb (hw.inn.lo x hx) (hw.inn.hi x hx) (cyc_symm hb f0 f1 hx)
end
/-- x is the least of its cycle. -/
def mn (ps : List Int) (n : Nat) (x : Int) : Bool := decide (∀ y ∈ cyc ps n x, x ≤ y)
theorem mem_cso {n : Nat} {ps : List Int} (hb : Bij n ps) (k : Nat) (hk : k ≤ n) (x : Int) : x ∈ (cso ps n k).flatten ↔ ∃ j : Nat, j < k ∧ x ∈ cyc ps n (j : Int) := by
  induction k with
  | zero => simp [cso]
  | succ k ih =>
    have ih := ih (by omega)
    rw [cso]
    by_cases h : (k : Int) ∈ (cso ps n k).flatten
    · rw [if_pos h, ih]
      constructor
      · rintro ⟨j, hj, q⟩; exact ⟨j, by omega, q⟩
      · rintro ⟨j, hj, q⟩
        by_cases e : j = k
        · subst e
          have hc := cso_cs hb j (by omega)
          -- j lies in an earlier cycle
          obtain ⟨c, hc1, hc2⟩ := List.mem_flatten.1 h
          have : x ∈ (cso ps n j).flatten := by
            have hcyc : ∀ m (hm : m ≤ n) (c : List Int), c ∈ cso ps n m → ∃ i : Nat, i < m ∧ c = cyc ps n (i : Int) := by
              intro m
              induction m with
              | zero => intro _ c hc; simp [cso] at hc
              | succ m ihm =>
                intro hm c hc
                rw [cso] at hc
                split at hc
                · obtain ⟨i, hi, e⟩ := ihm (by omega) c hc; exact ⟨i, by omega, e⟩
                · rcases List.mem_append.1 hc with hc | hc
                  · obtain ⟨i, hi, e⟩ := ihm (by omega) c hc; exact ⟨i, by omega, e⟩
                  · simp at hc; exact ⟨m, by omega, hc⟩
            obtain ⟨i, hi, e⟩ := hcyc j (by omega) c hc1
            subst e
            exact List.mem_flatten.2 ⟨_, hc1, cyc_trans hb (by omega) (by omega) hc2 q⟩
          exact (ih.1 this)
        · exact ⟨j, by omega, q⟩
    · rw [if_neg h]
      simp only [List.flatten_append, List.flatten_cons, List.flatten_nil, List.append_nil, List.mem_append, ih]
      constructor
      · rintro (⟨j, hj, q⟩ | q)
        · exact ⟨j, by omega, q⟩
        · exact ⟨k, by omega, q⟩
      · rintro ⟨j, hj, q⟩
        by_cases e : j = k
        · subst e; exact .inr q
        · exact .inl ⟨j, by omega, q⟩
theorem cso_count {n : Nat} {ps : List Int} (hb : Bij n ps) (k : Nat) (hk : k ≤ n) : (cso ps n k).length = (rng k).countP (mn ps n) := by
  induction k with
  | zero => rfl
  | succ k ih =>
    have e : rng (k + 1) = rng k ++ [(k : Int)] := by unfold rng; rw [List.range_succ, List.map_append]; rfl
    rw [e, List.countP_append, ← ih (by omega), cso]
    have key : (k : Int) ∈ (cso ps n k).flatten ↔ mn ps n (k : Int) = false := by
      rw [mem_cso hb k (by omega)]
      unfold mn
      rw [decide_eq_false_iff_not]
      constructor
      · rintro ⟨j, hj, q⟩ h
        have := h _ (cyc_symm hb (by omega) (by omega) q)
        omega
      · intro h
        have : ∃ y, y ∈ cyc ps n (k : Int) ∧ y < (k : Int) := by
          rcases Classical.em (∃ y, y ∈ cyc ps n (k : Int) ∧ y < (k : Int)) with q | q
          · exact q
          · exact absurd (fun y hy => Int.not_lt.1 (fun hlt => q ⟨y, hy, hlt⟩)) h
        obtain ⟨y, hy, hlt⟩ := this
        have hw := cyc_way (f := (k : Int)) hb (by omega) (by omega)
        have y0 := hw.inn.lo y hy
        exact ⟨y.toNat, by omega, by rw [Int.toNat_of_nonneg y0]; exact cyc_symm hb (by omega) (by omega) hy⟩
    by_cases h : (k : Int) ∈ (cso ps n k).flatten
    · rw [if_pos h]; simp [key.1 h]
    · rw [if_neg h]
      have : mn ps n (k : Int) = true := by
        cases q : mn ps n (k : Int) with
        | true => rfl
        | false => exact absurd (key.2 q) h
      simp [this]
theorem countP_one {l : List Int} {q : Int → Bool} (hl : l.Nodup) {x : Int} (hx : x ∈ l) (hq : q x = true) (hu : ∀ y ∈ l, q y = true → y = x) : l.countP q = 1 := by
  rw [List.countP_eq_length_filter]
  have hm : x ∈ l.filter q := List.mem_filter.2 ⟨hx, hq⟩
  have h1 := nodup_le_one (l.filter q) x (List.Pairwise.filter _ hl) (fun y hy => hu y (List.mem_filter.1 hy).1 (List.mem_filter.1 hy).2)
  have := List.length_pos_of_mem hm
  omega
where
  nodup_le_one (l : List Int) (x : Int) (hl : l.Nodup) (h : ∀ y ∈ l, y = x) : l.length ≤ 1 := by
    match l, hl, h with
    | [], _, _ => simp
    | [a], _, _ => simp
    | a :: b :: t, hl, h =>
      have ha := h a (by simp); have hb := h b (by simp)
      subst ha
      exact absurd hb.symm (fun e => (List.nodup_cons.1 hl).1 (by rw [e]; simp))
theorem countP_part {l : List Int} (q c : Int → Bool) : l.countP q = l.countP (fun x => q x && c x) + l.countP (fun x => q x && !c x) := by
  induction l with
  | nil => rfl
  | cons a t ih =>
    simp only [List.countP_cons, ih]
    cases q a <;> cases c a <;> simp <;> omega
theorem least_of (l : List Int) (h : l ≠ []) : ∃ x ∈ l, ∀ y ∈ l, x ≤ y := by
  induction l with
  | nil => exact absurd rfl h
  | cons a t ih =>
    by_cases ht : t = []
    · subst ht; exact ⟨a, by simp, by simp⟩
    · obtain ⟨x, hx, hm⟩ := ih ht
      by_cases e : a ≤ x
      · refine ⟨a, by simp, fun y hy => ?_⟩
        rcases List.mem_cons.1 hy with rfl | hy
        · exact Int.le_refl _
        · have := hm y hy; omega
      · refine ⟨x, by simp [hx], fun y hy => ?_⟩
        rcases List.mem_cons.1 hy with rfl | hy
        · omega
        · exact hm y hy
/-- One element of a cycle is its least. -/
theorem one_least {n : Nat} {ps : List Int} (hb : Bij n ps) {a : Int} (a0 : 0 ≤ a) (a1 : a < n) : (rng n).countP (fun x => mn ps n x && decide (x ∈ cyc ps n a)) = 1 := by
  have hw := cyc_way hb a0 a1
  obtain ⟨x, hx, hm⟩ := least_of (cyc ps n a) (fun e => by have := hw.pos; rw [e] at this; simp at this)
  refine countP_one (rng_nodup n) (x := x) (mem_rng.2 ⟨hw.inn.lo x hx, hw.inn.hi x hx⟩) ?_ ?_
  · simp only [Bool.and_eq_true, decide_eq_true_eq, mn]
    exact ⟨fun y hy => hm y ((cyc_iff hb a0 a1 hx).1 hy), hx⟩
  · intro y hy q
    simp only [Bool.and_eq_true, decide_eq_true_eq, mn] at q
    have h1 := q.1 x ((cyc_iff hb a0 a1 q.2).2 hx)
    have h2 := hm y q.2
    omega
/-- ps' is ps behind an exchange of a and b. -/
structure Xch (n : Nat) (ps ps' : List Int) (a b : Nat) : Prop where
  p : Bij n ps
  p' : Bij n ps'
  ha : a < n
  hb : b < n
  ne : a ≠ b
  ea : ps'.getD a 0 = ps.getD b 0
  eb : ps'.getD b 0 = ps.getD a 0
  eo : ∀ i, i < n → i ≠ a → i ≠ b → ps'.getD i 0 = ps.getD i 0
theorem Xch.symm {n a b : Nat} {ps ps' : List Int} (h : Xch n ps ps' a b) : Xch n ps' ps a b := ⟨h.p', h.p, h.ha, h.hb, h.ne, h.eb.symm, h.ea.symm, fun i hi q r => (h.eo i hi q r).symm⟩
theorem Xch.other {n a b : Nat} {ps ps' : List Int} (h : Xch n ps ps' a b) {x : Int} (x0 : 0 ≤ x) (x1 : x < n) (q : x ≠ a) (r : x ≠ b) : ps'.getD x.toNat 0 = ps.getD x.toNat 0 := h.eo _ (by omega) (by omega) (by omega)
/-- Where a and b lie in different cycles, their union becomes one. -/
theorem Xch.merge {n a b : Nat} {ps ps' : List Int} (h : Xch n ps ps' a b) (hd : ¬ (b : Int) ∈ cyc ps n a) (x : Int) : x ∈ cyc ps' n a ↔ x ∈ cyc ps n a ∨ x ∈ cyc ps n b := by
  have a1 : (a : Int) < n := by have := h.ha; omega
  have b1 : (b : Int) < n := by have := h.hb; omega
  have hd' : ¬ (a : Int) ∈ cyc ps n b := fun q => hd (cyc_symm h.p (by omega) b1 q)
  have wa := cyc_way (f := (a : Int)) h.p (by omega) a1
  have wb := cyc_way (f := (b : Int)) h.p (by omega) b1
  have na := cyc_next h.p (f := (a : Int)) (by omega) a1 (cyc_self h.p (by omega) a1)
  have nb := cyc_next h.p (f := (b : Int)) (by omega) b1 (cyc_self h.p (by omega) b1)
  rw [Int.toNat_natCast] at na nb
  constructor
  · intro hx
    obtain ⟨m, rfl⟩ := (mem_cyc h.p' (by omega) a1).1 hx
    clear hx
    induction m with
    | zero => exact .inl (cyc_self h.p (by omega) a1)
    | succ m ih =>
      have mm := it_in h.p' (f := (a : Int)) (by omega) a1 m
      show ps'.getD (it ps' a m).toNat 0 ∈ _ ∨ ps'.getD (it ps' a m).toNat 0 ∈ _
      generalize it ps' (a : Int) m = z at *
      by_cases e1 : z = a
      · subst e1; rw [Int.toNat_natCast, h.ea]; exact .inr nb
      · by_cases e2 : z = b
        · subst e2; rw [Int.toNat_natCast, h.eb]; exact .inl na
        · rw [h.other mm.1 mm.2 e1 e2]
          rcases ih with q | q
          · exact .inl (cyc_next h.p (by omega) a1 q)
          · exact .inr (cyc_next h.p (by omega) b1 q)
  · have na' := cyc_next h.p' (f := (a : Int)) (by omega) a1 (cyc_self h.p' (by omega) a1)
    rw [Int.toNat_natCast, h.ea] at na'
    have B : ∀ m, it ps (b : Int) (m + 1) ∈ cyc ps' n a := by
      intro m
      induction m with
      | zero => show ps.getD (b : Int).toNat 0 ∈ _; rw [Int.toNat_natCast]; exact na'
      | succ m ih =>
        have mm := it_in h.p (f := (b : Int)) (by omega) b1 (m + 1)
        have mc := (mem_cyc h.p (f := (b : Int)) (by omega) b1).2 ⟨m + 1, rfl⟩
        show ps.getD (it ps b (m + 1)).toNat 0 ∈ _
        generalize it ps (b : Int) (m + 1) = z at *
        by_cases e2 : z = b
        · subst e2; rw [Int.toNat_natCast]; exact na'
        · rw [← h.other mm.1 mm.2 (fun e => hd' (e ▸ mc)) e2]
          exact cyc_next h.p' (by omega) a1 ih
    have bin : (b : Int) ∈ cyc ps' n a := by
      have e := way_last wb
      have hp := wb.pos
      obtain ⟨k, hk⟩ : ∃ k, (cyc ps n (b : Int)).length = k + 1 := ⟨(cyc ps n (b : Int)).length - 1, by omega⟩
      rw [hk] at e
      rw [e]; exact B k
    have nb' := cyc_next h.p' (by omega) a1 bin
    rw [Int.toNat_natCast, h.eb] at nb'
    have A : ∀ m, it ps (a : Int) m ∈ cyc ps' n a := by
      intro m
      induction m with
      | zero => exact cyc_self h.p' (by omega) a1
      | succ m ih =>
        have mm := it_in h.p (f := (a : Int)) (by omega) a1 m
        have mc := (mem_cyc h.p (f := (a : Int)) (by omega) a1).2 ⟨m, rfl⟩
        show ps.getD (it ps a m).toNat 0 ∈ _
        generalize it ps (a : Int) m = z at *
        by_cases e1 : z = a
        · subst e1; rw [Int.toNat_natCast]; exact nb'
        · rw [← h.other mm.1 mm.2 e1 (fun e => hd (e ▸ mc))]
          exact cyc_next h.p' (by omega) a1 ih
    rintro (q | q)
    · obtain ⟨m, rfl⟩ := (mem_cyc h.p (by omega) a1).1 q; exact A m
    · obtain ⟨m, rfl⟩ := (mem_cyc h.p (by omega) b1).1 q
      cases m with
      | zero => exact bin
      | succ m => exact B m
/-- Elsewhere cycles stay. -/
theorem Xch.away {n a b : Nat} {ps ps' : List Int} (h : Xch n ps ps' a b) {f : Int} (f0 : 0 ≤ f) (f1 : f < n) (ha : ¬ f ∈ cyc ps n a) (hb : ¬ f ∈ cyc ps n b) (x : Int) : x ∈ cyc ps' n f ↔ x ∈ cyc ps n f := by
  have a1 : (a : Int) < n := by have := h.ha; omega
  have b1 : (b : Int) < n := by have := h.hb; omega
  have e : ∀ m, it ps' f m = it ps f m := by
    intro m
    induction m with
    | zero => rfl
    | succ m ih =>
      have mm := it_in h.p f0 f1 m
      have mc := (mem_cyc h.p f0 f1).2 ⟨m, rfl⟩
      show ps'.getD (it ps' f m).toNat 0 = ps.getD (it ps f m).toNat 0
      rw [ih]
      generalize it ps f m = z at *
      refine h.other mm.1 mm.2 (fun e => ha ?_) (fun e => hb ?_)
      · subst e; exact cyc_symm h.p f0 f1 mc
      · subst e; exact cyc_symm h.p f0 f1 mc
  rw [mem_cyc h.p' f0 f1, mem_cyc h.p f0 f1]
  simp only [e]
/-- Two elements of one cycle come into different ones. -/
theorem Xch.split {n a b : Nat} {ps ps' : List Int} (h : Xch n ps ps' a b) (hd : (b : Int) ∈ cyc ps n a) : ¬ (b : Int) ∈ cyc ps' n a := by
  have a1 : (a : Int) < n := by have := h.ha; omega
  have wa := cyc_way (f := (a : Int)) h.p (by omega) a1
  obtain ⟨k, hk, ek⟩ := mem_getD hd
  have ek' := way_it wa k hk
  rw [ek] at ek'
  have lst := way_last wa
  have k0 : 0 < k := by
    rcases Nat.eq_zero_or_pos k with e | e
    · subst e; rw [wa.head] at ek; exact absurd (by omega) h.ne
    · exact e
  have key : ∀ m, ∃ j, k < j ∧ j ≤ (cyc ps n (a : Int)).length ∧ it ps' a m = it ps a j := by
    intro m
    induction m with
    | zero => exact ⟨_, hk, Nat.le_refl _, lst⟩
    | succ m ih =>
      obtain ⟨j, j1, j2, e⟩ := ih
      by_cases jl : j = (cyc ps n (a : Int)).length
      · refine ⟨k + 1, by omega, by omega, ?_⟩
        show ps'.getD (it ps' a m).toNat 0 = ps.getD (it ps a k).toNat 0
        rw [e, jl, ← lst, ← ek', Int.toNat_natCast, Int.toNat_natCast, h.ea]
      · refine ⟨j + 1, by omega, by omega, ?_⟩
        show ps'.getD (it ps' a m).toNat 0 = ps.getD (it ps a j).toNat 0
        rw [e]
        have mm := it_in h.p (f := (a : Int)) (by omega) a1 j
        have gj := way_it wa j (by omega)
        refine h.other mm.1 mm.2 (fun q => ?_) (fun q => ?_)
        · have := nodup_getD wa.inn.nd (i := j) (j := 0) (by omega) (by omega) (by rw [gj, q, wa.head]); omega
        · have := nodup_getD wa.inn.nd (i := j) (j := k) (by omega) hk (by rw [gj, q, ek]); omega
  intro q
  obtain ⟨m, e⟩ := (mem_cyc h.p' (by omega) a1).1 q
  obtain ⟨j, j1, j2, e2⟩ := key m
  rw [e] at e2
  by_cases jl : j = (cyc ps n (a : Int)).length
  · rw [jl, ← lst] at e2; exact h.ne (by omega)
  · have gj := way_it wa j (by omega)
    have := nodup_getD wa.inn.nd (i := j) (j := k) (by omega) hk (by rw [gj, ← e2, ek]); omega
def cnum (ps : List Int) (n : Nat) : Nat := (cso ps n n).length
theorem Xch.plus {n a b : Nat} {ps ps' : List Int} (h : Xch n ps ps' a b) (hd : ¬ (b : Int) ∈ cyc ps n a) : cnum ps n = cnum ps' n + 1 := by
  have a1 : (a : Int) < n := by have := h.ha; omega
  have b1 : (b : Int) < n := by have := h.hb; omega
  have dis : ∀ x, x ∈ cyc ps n (a : Int) → ¬ x ∈ cyc ps n (b : Int) := fun x qa qb => hd (cyc_trans h.p (by omega) a1 qa (cyc_symm h.p (by omega) b1 qb))
  unfold cnum
  rw [cso_count h.p n (Nat.le_refl _), cso_count h.p' n (Nat.le_refl _)]
  rw [countP_part (mn ps n) (fun x => decide (x ∈ cyc ps n a)), one_least h.p (by omega) a1]
  rw [countP_part (fun x => mn ps n x && !decide (x ∈ cyc ps n (a : Int))) (fun x => decide (x ∈ cyc ps n b))]
  rw [countP_part (mn ps' n) (fun x => decide (x ∈ cyc ps' n a)), one_least h.p' (by omega) a1]
  have e1 : (rng n).countP (fun x => (mn ps n x && !decide (x ∈ cyc ps n (a : Int))) && decide (x ∈ cyc ps n (b : Int))) = 1 := by
    rw [← one_least h.p (a := (b : Int)) (by omega) b1]
    refine List.countP_congr fun x _ => ?_
    simp only [Bool.and_eq_true, Bool.not_eq_true', decide_eq_true_eq, decide_eq_false_iff_not]
    exact ⟨fun q => ⟨q.1.1, q.2⟩, fun q => ⟨⟨q.1, fun r => dis x r q.2⟩, q.2⟩⟩
  have e2 : (rng n).countP (fun x => (mn ps n x && !decide (x ∈ cyc ps n (a : Int))) && !decide (x ∈ cyc ps n (b : Int))) = (rng n).countP (fun x => mn ps' n x && !decide (x ∈ cyc ps' n (a : Int))) := by
    refine List.countP_congr fun x hx => ?_
    rw [mem_rng] at hx
    simp only [Bool.and_eq_true, Bool.not_eq_true', decide_eq_true_eq, decide_eq_false_iff_not, h.merge hd x, mn]
    constructor
    · rintro ⟨⟨q1, q2⟩, q3⟩
      exact ⟨fun y hy => q1 y ((h.away hx.1 hx.2 q2 q3 y).1 hy), fun r => r.elim q2 q3⟩
    · rintro ⟨q1, q2⟩
      have n1 : ¬ x ∈ cyc ps n (a : Int) := fun r => q2 (.inl r)
      have n2 : ¬ x ∈ cyc ps n (b : Int) := fun r => q2 (.inr r)
      exact ⟨⟨fun y hy => q1 y ((h.away hx.1 hx.2 n1 n2 y).2 hy), n1⟩, n2⟩
  rw [e1, e2]
  omega
/-- The number of cycles changes its parity. -/
theorem Xch.parity {n a b : Nat} {ps ps' : List Int} (h : Xch n ps ps' a b) : (cnum ps n + cnum ps' n) % 2 = 1 := by
  by_cases hd : (b : Int) ∈ cyc ps n a
  · have := h.symm.plus (h.split hd); omega
  · have := h.plus hd; omega
end Go.Proofs.Ytglpiopjhddoeaa.pm
