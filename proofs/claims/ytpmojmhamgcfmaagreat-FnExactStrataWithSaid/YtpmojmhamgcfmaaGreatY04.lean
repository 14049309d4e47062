import Derived.Test.YtpmojmhamgcfmaaGreatY03
/-
  Permutations form a group; renaming keeps the lengths of the cycles: plain mathematics.
-/
namespace Go.Proofs.YtpmojmhamgcfmaaGreat.pm
open Go.Proofs.YtpmojmhamgcfmaaGreat.arr Go.Proofs.YtpmojmhamgcfmaaGreat.inv Go.Proofs.YtpmojmhamgcfmaaGreat.permOf
set_option linter.unusedVariables false
set_option maxRecDepth 100000

/-- m steps from f on. -/
def it (ps : List Int) (f : Int) : Nat → Int
  | 0 => f
  | m + 1 => ps.getD (it ps f m).toNat 0
theorem it_in {n : Nat} {ps : List Int} (hb : Bij n ps) {f : Int} (h0 : 0 ≤ f) (h1 : f < n) (m : Nat) : 0 ≤ it ps f m ∧ it ps f m < n := by
  induction m with
  | zero => exact ⟨h0, h1⟩
  | succ m ih => exact hb.maps _ (by omega)
theorem it_add (ps : List Int) (f : Int) (a b : Nat) : it ps (it ps f a) b = it ps f (a + b) := by
  induction b with
  | zero => rfl
  | succ b ih => show ps.getD (it ps (it ps f a) b).toNat 0 = ps.getD (it ps f (a + b)).toNat 0; rw [ih]
theorem it_inj {n : Nat} {ps : List Int} (hb : Bij n ps) {f g : Int} (f0 : 0 ≤ f) (f1 : f < n) (g0 : 0 ≤ g) (g1 : g < n) (m : Nat) (h : it ps f m = it ps g m) : f = g := by
  induction m with
  | zero => exact h
  | succ m ih =>
    have a := it_in hb f0 f1 m; have b := it_in hb g0 g1 m
    have := hb.inj _ _ (by omega) (by omega) h
    exact ih (by omega)
theorem way_it {n : Nat} {ps acc : List Int} {f x : Int} (h : Way n ps f x acc) : ∀ i, i < acc.length → acc.getD i 0 = it ps f i := by
  intro i
  induction i with
  | zero => intro _; exact h.head
  | succ i ih => intro hi; rw [h.step i hi, ih (by omega)]; rfl
theorem way_last {n : Nat} {ps acc : List Int} {f x : Int} (h : Way n ps f x acc) : x = it ps f acc.length := by
  have hp := h.pos
  rw [h.last, way_it h _ (by omega)]
  have : acc.length = (acc.length - 1) + 1 := by omega
  rw [this]; rfl
/-- All elements of a cycle have cycles of the same length. -/
theorem per_same {n : Nat} {ps : List Int} (hb : Bij n ps) {f : Int} (f0 : 0 ≤ f) (f1 : f < n) {y : Int} (hy : y ∈ cyc ps n f) : (cyc ps n y).length = (cyc ps n f).length := by
  have hw := cyc_way hb f0 f1
  obtain ⟨j, hj, e⟩ := mem_getD hy
  rw [way_it hw j hj] at e
  have y0 := hw.inn.lo y hy; have y1 := hw.inn.hi y hy
  have hv := cyc_way (f := y) hb y0 y1
  have lf := way_last hw; have ly := way_last hv
  have pf := hw.pos; have py := hv.pos
  -- one way round
  have A : ∀ {f y : Int}, 0 ≤ f → f < n → 0 ≤ y → y < n → (j : Nat) → it ps f j = y → Way n ps f f (cyc ps n f) → Way n ps y y (cyc ps n y) → ¬ (cyc ps n y).length < (cyc ps n f).length := by
    intro f y f0 f1 y0 y1 j e hw hv hlt
    have ly := way_last hv
    have py := hv.pos
    have e1 : it ps f ((cyc ps n y).length) = f := by
      have q : it ps (it ps f (cyc ps n y).length) j = it ps f j := by rw [it_add, Nat.add_comm, ← it_add, e, ← ly]
      have a := it_in hb f0 f1 (cyc ps n y).length
      exact it_inj hb a.1 a.2 f0 f1 j q
    have := nodup_getD hw.inn.nd (i := (cyc ps n y).length) (j := 0) hlt (by omega) (by rw [way_it hw _ hlt, e1, hw.head])
    omega
  have h1 := A f0 f1 y0 y1 j e hw hv
  have ej : j + ((cyc ps n f).length - j) = (cyc ps n f).length := by omega
  have e2 : it ps y ((cyc ps n f).length - j) = f := by rw [← e, it_add, ej, ← lf]
  have h2 := A y0 y1 f0 f1 _ e2 hv hw
  omega
def rng (n : Nat) : List Int := (List.range n).map fun (i : Nat) => (i : Int)
theorem mem_rng {n : Nat} {x : Int} : x ∈ rng n ↔ 0 ≤ x ∧ x < n := by
  unfold rng
  rw [List.mem_map]
  constructor
  · rintro ⟨i, hi, rfl⟩; simp at hi; omega
  · intro h; exact ⟨x.toNat, by simp; omega, by omega⟩
theorem rng_nodup (n : Nat) : (rng n).Nodup := by
  unfold rng List.Nodup
  rw [List.pairwise_map]
  exact List.Pairwise.imp (fun h => by omega) (List.pairwise_lt_range (n := n))
theorem perm_of_mem {l m : List Int} (hl : l.Nodup) (hm : m.Nodup) (h : ∀ x, x ∈ l ↔ x ∈ m) : l.Perm m := by
  rw [List.perm_iff_count]
  intro a
  rw [List.Nodup.count hl, List.Nodup.count hm]
  simp only [h a]
theorem cso_rng {n : Nat} {ps : List Int} (hb : Bij n ps) : (cso ps n n).flatten.Perm (rng n) := by
  have hc := cso_cs hb n (Nat.le_refl _)
  refine perm_of_mem hc.inn.nd (rng_nodup n) fun x => ?_
  rw [mem_rng]
  constructor
  · intro h; exact ⟨hc.inn.lo x h, hc.inn.hi x h⟩
  · intro h
    have := hc.all x.toNat (by omega)
    rw [Int.toNat_of_nonneg h.1] at this
    exact this
theorem cso_len {n : Nat} {ps : List Int} (hb : Bij n ps) : ((cso ps n n).map List.length).sum = n := by
  rw [← flatten_len, (cso_rng hb).length_eq]; simp [rng]
/-- Each list of cso is a cycle. -/
theorem cso_cyc {n : Nat} {ps : List Int} (k : Nat) (hk : k ≤ n) : ∀ c ∈ cso ps n k, ∃ i : Nat, i < n ∧ c = cyc ps n (i : Int) := by
  induction k with
  | zero => intro c hc; simp [cso] at hc
  | succ k ih =>
    intro c hc
    rw [cso] at hc
    split at hc
    · exact ih (by omega) c hc
    · rcases List.mem_append.1 hc with hc | hc
      · exact ih (by omega) c hc
      · simp at hc; exact ⟨k, by omega, hc⟩
def perB (ps : List Int) (n L : Nat) (x : Int) : Bool := decide ((cyc ps n x).length = L)
theorem count_cycles {n : Nat} {ps : List Int} (hb : Bij n ps) (L : Nat) (css : List (List Int)) (h : ∀ c ∈ css, ∃ i : Nat, i < n ∧ c = cyc ps n (i : Int)) :
    css.flatten.countP (perB ps n L) = (css.map List.length).count L * L := by
  induction css with
  | nil => simp
  | cons c t ih =>
    obtain ⟨i, hi, rfl⟩ := h c (by simp)
    rw [List.flatten_cons, List.countP_append, ih (fun c hc => h c (by simp [hc])), List.map_cons, List.count_cons]
    have hp : ∀ y ∈ cyc ps n (i : Int), perB ps n L y = decide ((cyc ps n (i : Int)).length = L) := fun y hy => by
      unfold perB; rw [per_same hb (by omega) (by omega) hy]
    by_cases e : (cyc ps n (i : Int)).length = L
    · have : (cyc ps n (i : Int)).countP (perB ps n L) = (cyc ps n (i : Int)).length := by
        rw [List.countP_eq_length]
        intro y hy; rw [hp y hy]; simpa using e
      rw [this, e]
      simp [Nat.add_mul, Nat.add_comm]
    · have : (cyc ps n (i : Int)).countP (perB ps n L) = 0 := by
        rw [List.countP_eq_zero]
        intro y hy; rw [hp y hy]; simpa using e
      rw [this]
      simp [e]
/-- qs is ps renamed by the bijection ns. -/
structure Ren (n : Nat) (ps qs ns : List Int) : Prop where
  p : Bij n ps
  q : Bij n qs
  s : Bij n ns
  eq : ∀ i, i < n → qs.getD (ns.getD i 0).toNat 0 = ns.getD (ps.getD i 0).toNat 0
theorem Ren.cyc {n : Nat} {ps qs ns : List Int} (h : Ren n ps qs ns) {f : Int} (f0 : 0 ≤ f) (f1 : f < n) : pm.cyc qs n (ns.getD f.toNat 0) = (pm.cyc ps n f).map (fun x => ns.getD x.toNat 0) := by
  have key : ∀ (m : Nat) (x : Int) (acc : List Int), 0 ≤ x → x < n → cy qs (ns.getD f.toNat 0) m (ns.getD x.toNat 0) (acc.map (fun x => ns.getD x.toNat 0)) = (cy ps f m x acc).map (fun x => ns.getD x.toNat 0) := by
    intro m
    induction m with
    | zero => intros; rfl
    | succ m ih =>
      intro x acc x0 x1
      rw [cy, cy]
      by_cases e : x = f
      · subst e; rw [if_pos rfl, if_pos rfl]
      · rw [if_neg e, if_neg (fun q => e (by have := h.s.inj _ _ (by omega) (by omega) q; omega)), h.eq _ (by omega)]
        have := h.p.maps x.toNat (by omega)
        have r := ih (ps.getD x.toNat 0) (acc ++ [x]) this.1 this.2
        rw [List.map_append] at r
        exact r
  unfold pm.cyc
  rw [h.eq _ (by omega)]
  have := h.p.maps f.toNat (by omega)
  exact key n _ [f] this.1 this.2
theorem Bij.onto {n : Nat} {ps : List Int} (h : Bij n ps) {y : Nat} (hy : y < n) : ∃ k, k < n ∧ ps.getD k 0 = (y : Int) := by
  obtain ⟨k, hk, e⟩ := onto_of_inj n (fun i => (ps.getD i 0).toNat) (fun i hi => by have := h.maps i hi; omega) (fun i j hi hj e => h.inj i j hi hj (by have := h.maps i hi; have := h.maps j hj; omega)) y hy
  exact ⟨k, hk, by have := h.maps k hk; omega⟩
theorem Bij.map_rng {n : Nat} {ns : List Int} (h : Bij n ns) : ((rng n).map fun x => ns.getD x.toNat 0).Perm (rng n) := by
  refine perm_of_mem ?_ (rng_nodup n) fun x => ?_
  · unfold List.Nodup
    rw [List.pairwise_map]
    refine List.Pairwise.imp_of_mem ?_ (rng_nodup n)
    intro a b ha hb hab e
    rw [mem_rng] at ha hb
    have := h.inj _ _ (by omega) (by omega) e
    omega
  · rw [mem_rng, List.mem_map]
    constructor
    · rintro ⟨y, hy, rfl⟩
      rw [mem_rng] at hy
      exact h.maps _ (by omega)
    · intro hx
      obtain ⟨k, hk, e⟩ := h.onto (y := x.toNat) (by omega)
      exact ⟨k, mem_rng.2 ⟨by omega, by omega⟩, by rw [Int.toNat_natCast, e]; omega⟩
theorem Ren.count {n : Nat} {ps qs ns : List Int} (h : Ren n ps qs ns) (L : Nat) : (rng n).countP (perB qs n L) = (rng n).countP (perB ps n L) := by
  rw [← h.s.map_rng.countP_eq, List.countP_map]
  refine List.countP_congr fun x hx => ?_
  rw [mem_rng] at hx
  simp only [Function.comp, perB]
  rw [h.cyc hx.1 hx.2, List.length_map]
theorem Ren.lens {n : Nat} {ps qs ns : List Int} (h : Ren n ps qs ns) : ((cso qs n n).map List.length).Perm ((cso ps n n).map List.length) := by
  rw [List.perm_iff_count]
  intro L
  have a := count_cycles h.q L (cso qs n n) (cso_cyc n (Nat.le_refl _))
  have b := count_cycles h.p L (cso ps n n) (cso_cyc n (Nat.le_refl _))
  rw [(cso_rng h.q).countP_eq, h.count L, ← (cso_rng h.p).countP_eq, b] at a
  rcases Nat.eq_zero_or_pos L with e | e
  · subst e
    have z : ∀ rs : List Int, Bij n rs → ((cso rs n n).map List.length).count 0 = 0 := by
      intro rs hr
      rw [List.count_eq_zero]
      intro hm
      obtain ⟨c, hc, e⟩ := List.mem_map.1 hm
      obtain ⟨i, hi, rfl⟩ := cso_cyc n (Nat.le_refl _) c hc
      have := (cyc_way (f := (i : Int)) hr (by omega) (by omega)).pos
      omega
    rw [z _ h.q, z _ h.p]
  · exact (Nat.eq_of_mul_eq_mul_right e a).symm
end Go.Proofs.YtpmojmhamgcfmaaGreat.pm

/-
  Permutations form a group: plain mathematics, in the words of the functions' answers.
-/
namespace Go.Proofs.YtpmojmhamgcfmaaGreat.pm
open Go.Proofs.YtpmojmhamgcfmaaGreat.arr Go.Proofs.YtpmojmhamgcfmaaGreat.inv Go.Proofs.YtpmojmhamgcfmaaGreat.permOf
set_option linter.unusedVariables false
set_option maxRecDepth 100000

def Inv (xs : List Int) : List Int := invTo xs.length xs xs.length
theorem Inv_len (xs : List Int) : (Inv xs).length = xs.length := invTo_len _ _ _
theorem Inv_at {xs : List Int} (h : Ok xs) {k : Nat} (hk : k < xs.length) : (Inv xs).getD (xs.getD k 0).toNat 0 = (k : Int) := inv_at h hk
theorem at_Inv {xs : List Int} (h : Ok xs) {i : Nat} (hi : i < xs.length) : ∃ k, k < xs.length ∧ (Inv xs).getD i 0 = (k : Int) ∧ xs.getD k 0 = (i : Int) := by
  obtain ⟨k, hk, e⟩ := h.onto hi
  refine ⟨k, hk, ?_, e⟩
  have := Inv_at h hk
  rw [e] at this
  simpa using this
theorem Inv_ok {xs : List Int} (h : Ok xs) : Ok (Inv xs) := by
  refine ⟨by rw [Inv_len]; exact h.len, fun i hi => ?_, fun i hi => ?_, fun i j hi hj e => ?_⟩
  · rw [Inv_len] at hi; obtain ⟨k, _, q, _⟩ := at_Inv h hi; omega
  · rw [Inv_len] at hi ⊢; obtain ⟨k, _, q, _⟩ := at_Inv h hi; omega
  · rw [Inv_len] at hi hj
    obtain ⟨k, _, q, r⟩ := at_Inv h hi
    obtain ⟨k', _, q', r'⟩ := at_Inv h hj
    have : k = k' := by omega
    subst this
    omega
theorem thn_len (xs ys : List Int) : (thn xs ys).length = xs.length := by simp [thn]
theorem thn_at {xs ys : List Int} {i : Nat} (hi : i < xs.length) : (thn xs ys).getD i 0 = ys.getD (xs.getD i 0).toNat 0 := by
  simp [thn, List.getD, List.getElem?_eq_getElem hi]
theorem thn_ok {xs ys : List Int} (h : Ok xs) (h' : Ok ys) (e : xs.length = ys.length) : Ok (thn xs ys) := by
  refine ⟨by rw [thn_len]; exact h.len, fun i hi => ?_, fun i hi => ?_, fun i j hi hj q => ?_⟩
  · rw [thn_len] at hi; rw [thn_at hi]; exact h'.lo _ (by have := h.ltN i hi; omega)
  · rw [thn_len] at hi ⊢; rw [thn_at hi, e]; exact h'.hi _ (by have := h.ltN i hi; omega)
  · rw [thn_len] at hi hj
    rw [thn_at hi, thn_at hj] at q
    have := h'.inj _ _ (by have := h.ltN i hi; omega) (by have := h.ltN j hj; omega) q
    exact h.injN i j hi hj this
theorem invF_of {xs : List Int} (h : Ok xs) : invF xs = Inv xs := by simp [invF, h.b, Inv]
theorem thenF_of {xs ys : List Int} (h : Ok xs) (h' : Ok ys) (e : xs.length = ys.length) : thenF xs ys = thn xs ys := by
  unfold thenF; rw [if_pos (okBB_iff.2 ⟨h.b, h'.b, e⟩)]
theorem renF_of {xs ys : List Int} (h : Ok xs) (h' : Ok ys) (e : xs.length = ys.length) : renF xs ys = renTo xs.length xs ys xs.length := by
  unfold renF; rw [if_pos (okBB_iff.2 ⟨h.b, h'.b, e⟩)]
theorem idF_of {n : Nat} (h : n ≤ 24) : idF (n : Int) = rng n := by
  unfold idF rng; rw [if_pos ⟨by omega, by omega⟩]; simp
theorem rng_len (n : Nat) : (rng n).length = n := by simp [rng]
theorem rng_at {n i : Nat} (h : i < n) : (rng n).getD i 0 = (i : Int) := by simp [rng, List.getD, h]
section
variable {p q s : List Int} {n : Nat} (hp : Ok p) (hq : Ok q) (hs : Ok s) (lp : p.length = n) (lq : q.length = n) (ls : s.length = n)
include hp hq lp lq
theorem back_eq : thenF (invF q) (invF p) = thn (Inv q) (Inv p) := by
  rw [invF_of hp, invF_of hq, thenF_of (Inv_ok hq) (Inv_ok hp) (by rw [Inv_len, Inv_len, lp, lq])]
theorem grp_id : thenF (thenF p q) (thenF (invF q) (invF p)) = idF (n : Int) := by
  have h24 := hp.len
  have okr := thn_ok hp hq (by omega)
  have okb := thn_ok (Inv_ok hq) (Inv_ok hp) (by rw [Inv_len, Inv_len, lp, lq])
  rw [back_eq hp hq lp lq, thenF_of hp hq (by omega), thenF_of okr okb (by rw [thn_len, thn_len, Inv_len, lp, lq]), idF_of (by omega)]
  refine list_eq n (by rw [thn_len, thn_len, lp]) (rng_len n) fun i hi => ?_
  have a1 := hp.ltN i (by omega)
  have a2 := hq.ltN _ (show (p.getD i 0).toNat < q.length by omega)
  have e1 : (thn p q).getD i 0 = q.getD (p.getD i 0).toNat 0 := thn_at (by omega)
  rw [thn_at (by rw [thn_len]; omega), e1, thn_at (by rw [Inv_len]; omega), Inv_at hq (by omega), Int.toNat_natCast, Inv_at hp (by omega), rng_at hi]
theorem grp_inv : invF (thenF p q) = thenF (invF q) (invF p) := by
  have h24 := hp.len
  have okr := thn_ok hp hq (by omega)
  rw [back_eq hp hq lp lq, thenF_of hp hq (by omega), invF_of okr]
  refine list_eq n (by rw [Inv_len, thn_len, lp]) (by rw [thn_len, Inv_len, lq]) fun j hj => ?_
  obtain ⟨k, hk, e1, e2⟩ := at_Inv okr (i := j) (by rw [thn_len]; omega)
  rw [thn_len] at hk
  rw [thn_at hk] at e2
  have a1 := hp.ltN k hk
  rw [e1, thn_at (by rw [Inv_len]; omega)]
  have := Inv_at hq (k := (p.getD k 0).toNat) (by omega)
  rw [e2, Int.toNat_natCast] at this
  rw [this, Int.toNat_natCast, Inv_at hp hk]
theorem grp_ren : renF p q = thenF (thenF (invF q) p) q := by
  have h24 := hp.len
  have ok1 := thn_ok (Inv_ok hq) hp (by rw [Inv_len]; omega)
  rw [invF_of hq, thenF_of (Inv_ok hq) hp (by rw [Inv_len]; omega), thenF_of ok1 hq (by rw [thn_len, Inv_len]), renF_of hp hq (by omega)]
  refine list_eq n (by rw [renTo_len, lp]) (by rw [thn_len, thn_len, Inv_len, lq]) fun j hj => ?_
  obtain ⟨k, hk, e1, e2⟩ := at_Inv hq (i := j) (by omega)
  rw [thn_at (by rw [thn_len, Inv_len]; omega), thn_at (by rw [Inv_len]; omega), e1, Int.toNat_natCast]
  have := ren_at (xs := p) hq (by omega) (k := k) (by omega)
  rw [e2, Int.toNat_natCast] at this
  exact this
theorem ren_ok : Ok (renF p q) ∧ (renF p q).length = n := by
  have ok1 := thn_ok (Inv_ok hq) hp (by rw [Inv_len]; omega)
  rw [grp_ren hp hq lp lq, invF_of hq, thenF_of (Inv_ok hq) hp (by rw [Inv_len]; omega), thenF_of ok1 hq (by rw [thn_len, Inv_len])]
  exact ⟨thn_ok ok1 hq (by rw [thn_len, Inv_len]), by rw [thn_len, thn_len, Inv_len, lq]⟩
theorem ren_ren : Ren n p (renF p q) q := by
  obtain ⟨h1, h2⟩ := ren_ok hp hq lp lq
  have b1 := hp.bij; have b2 := h1.bij; have b3 := hq.bij
  rw [lp] at b1; rw [h2] at b2; rw [lq] at b3
  refine ⟨b1, b2, b3, fun i hi => ?_⟩
  rw [renF_of hp hq (by omega)]
  exact ren_at hq (by omega) (by omega)
theorem ren_lens : sortD ((cycF (renF p q)).map fun xs => (xs.length : Int)) = sortD ((cycF p).map fun xs => (xs.length : Int)) := by
  obtain ⟨h1, h2⟩ := ren_ok hp hq lp lq
  have hl := (ren_ren hp hq lp lq).lens
  have e1 : cycF (renF p q) = cso (renF p q) n n := by simp [cycF, h1.b, h2]
  have e2 : cycF p = cso p n n := by simp [cycF, hp.b, lp]
  rw [e1, e2]
  refine sortD_eq ?_
  have := hl.map (fun (k : Nat) => (k : Int))
  rw [List.map_map, List.map_map] at this
  exact this
omit hq lq in
theorem cyc_tot : ((cycF p).map List.length).sum = n := by
  have b1 := hp.bij
  rw [lp] at b1
  have e2 : cycF p = cso p n n := by simp [cycF, hp.b, lp]
  rw [e2]; exact cso_len b1
end
end Go.Proofs.YtpmojmhamgcfmaaGreat.pm

/-
  Surfaces as pairs of permutations: names from a square, under renaming. Plain mathematics.
-/
namespace Go.Proofs.YtpmojmhamgcfmaaGreat.pm
open Go.Proofs.YtpmojmhamgcfmaaGreat.arr Go.Proofs.YtpmojmhamgcfmaaGreat.inv Go.Proofs.YtpmojmhamgcfmaaGreat.permOf
set_option linter.unusedVariables false
set_option maxRecDepth 100000

theorem nodup_sub_len : ∀ (l m : List Int), l.Nodup → (∀ x ∈ l, x ∈ m) → l.length ≤ m.length := by
  intro l
  induction l with
  | nil => intros; simp
  | cons a t ih =>
    intro m hd hs
    have hd' := List.nodup_cons.1 hd
    have ha := hs a (by simp)
    have := ih (m.erase a) hd'.2 (fun x hx => (List.mem_erase_of_ne (fun (e : x = a) => hd'.1 (by rw [← e]; exact hx))).2 (hs x (by simp [hx])))
    rw [List.length_erase_of_mem ha] at this
    have : 0 < m.length := List.length_pos_of_mem ha
    simp
    omega
theorem nodup_sub_mem {l m : List Int} (hl : l.Nodup) (hs : ∀ x ∈ l, x ∈ m) (hlen : m.length ≤ l.length) {y : Int} (hy : y ∈ m) : y ∈ l := by
  by_cases h : y ∈ l
  · exact h
  · have := nodup_sub_len (y :: l) m (List.nodup_cons.2 ⟨h, hl⟩) (fun x hx => by
      rcases List.mem_cons.1 hx with rfl | hx
      · exact hy
      · exact hs x hx)
    simp at this
    omega
theorem add1_pre (l : List Int) (x : Int) : l <+: add1 l x := by
  unfold add1; split
  · exact List.prefix_refl _
  · exact List.prefix_append _ _
theorem add1_mem (l : List Int) (x : Int) : x ∈ add1 l x := by unfold add1; split <;> simp_all
theorem rnd_pre (ps qs l : List Int) (k : Nat) : l <+: rnd ps qs l k := by
  unfold rnd; split
  · exact (add1_pre _ _).trans (add1_pre _ _)
  · exact List.prefix_refl _
theorem rs_pre (ps qs : List Int) (f : Int) {k m : Nat} (h : k ≤ m) : rs ps qs f k <+: rs ps qs f m := by
  obtain ⟨j, rfl⟩ : ∃ j, m = k + j := ⟨m - k, by omega⟩
  induction j with
  | zero => exact List.prefix_refl _
  | succ j ih => exact (ih (by omega)).trans (rnd_pre _ _ _ _)
theorem pre_at {l m : List Int} (h : l <+: m) {k : Nat} (hk : k < l.length) : m.getD k 0 = l.getD k 0 := by
  obtain ⟨t, rfl⟩ := h
  simp only [List.getD]
  rw [List.getElem?_append_left hk]
theorem rs_early {ps qs : List Int} {f : Int} {k m : Nat} (hk : k < (rs ps qs f m).length) (hm : k ≤ m) : k < (rs ps qs f k).length := by
  rcases Nat.lt_or_ge k (rs ps qs f k).length with h | h
  · exact h
  · rw [rs_stop ps qs f h hm] at hk; omega
/-- What is reached is closed. -/
theorem reach_closed {n : Nat} {ps qs : List Int} (hn : ps.length = n) (hp : Maps n ps) (hq : Maps n qs) {f : Int} (f0 : 0 ≤ f) (f1 : f < n) {x : Int} (hx : x ∈ reach ps qs f) : ps.getD x.toNat 0 ∈ reach ps qs f ∧ qs.getD x.toNat 0 ∈ reach ps qs f := by
  unfold reach at hx ⊢
  rw [hn] at hx ⊢
  obtain ⟨k, hk, e⟩ := mem_getD hx
  have hl := (rs_in hp hq f0 f1 n).len
  have h1 := rs_early hk (by omega)
  rw [pre_at (rs_pre ps qs f (show k ≤ n by omega)) h1] at e
  obtain ⟨z, hz, _, ez⟩ := (rs_in hp hq f0 f1 k).at_ h1
  have st := rs_step ps qs f h1 ez
  have hpre := rs_pre ps qs f (show k + 1 ≤ n by omega)
  rw [ez] at e
  subst e
  rw [Int.toNat_natCast]
  have sub : ∀ y, y ∈ rs ps qs f (k + 1) → y ∈ rs ps qs f n := fun y hy => hpre.subset hy
  refine ⟨sub _ ?_, sub _ ?_⟩
  · rw [st]; exact (add1_pre _ _).subset (add1_mem _ _)
  · rw [st]; exact add1_mem _ _
theorem reach_start (ps qs : List Int) (f : Int) : f ∈ reach ps qs f := by
  have := rs_pre ps qs f (Nat.zero_le ps.length)
  exact this.subset (by simp [rs])
/-- What is reached lies in every closed set that has the beginning. -/
theorem reach_least {ps qs : List Int} {f : Int} (C : Int → Prop) (hf : C f) (hc : ∀ x, C x → C (ps.getD x.toNat 0) ∧ C (qs.getD x.toNat 0)) (k : Nat) : ∀ x ∈ rs ps qs f k, C x := by
  induction k with
  | zero => intro x hx; simp [rs] at hx; subst hx; exact hf
  | succ k ih =>
    intro x hx
    have hx' : x ∈ rnd ps qs (rs ps qs f k) k := hx
    unfold rnd at hx'
    split at hx'
    · rename_i hk
      have hy := hc _ (ih _ (getD_mem hk))
      unfold add1 at hx'
      split at hx' <;> split at hx' <;> (try simp at hx') <;> (first | exact ih x hx' | skip)
      all_goals
        rcases hx' with q | q
        · first
            | exact ih x q
            | (rcases q with q | q
               · exact ih x q
               · subst q; exact hy.1)
        · first
            | (subst q; exact hy.1)
            | (subst q; exact hy.2)
            | (rcases q with q | q
               · subst q; exact hy.1
               · subst q; exact hy.2)
    · exact ih x hx'
/-- A closed list is closed backwards. -/
theorem closed_back {n : Nat} {ps l : List Int} (hb : Bij n ps) (hl : In n l) (hc : ∀ x ∈ l, ps.getD x.toNat 0 ∈ l) {y : Int} (y0 : 0 ≤ y) (y1 : y < n) (h : ps.getD y.toNat 0 ∈ l) : y ∈ l := by
  have hm : (l.map fun x => ps.getD x.toNat 0).Nodup := by
    unfold List.Nodup
    rw [List.pairwise_map]
    refine List.Pairwise.imp_of_mem ?_ hl.nd
    intro a b ha hb' hab e
    have a0 := hl.lo a ha; have a1 := hl.hi a ha; have b0 := hl.lo b hb'; have b1 := hl.hi b hb'
    have := hb.inj _ _ (by omega) (by omega) e
    omega
  have := nodup_sub_mem hm (fun x hx => by obtain ⟨z, hz, rfl⟩ := List.mem_map.1 hx; exact hc z hz) (by simp) h
  obtain ⟨z, hz, e⟩ := List.mem_map.1 this
  have z0 := hl.lo z hz; have z1 := hl.hi z hz
  have := hb.inj _ _ (by omega) (by omega) e
  have : z = y := by omega
  exact this ▸ hz

/-- A valid surface of n squares. -/
structure Sf (n : Nat) (R U : List Int) : Prop where
  r : Ok R
  u : Ok U
  lr : R.length = n
  lu : U.length = n
  pos : 0 < n
  all : (reach R U 0).length = n
theorem Sf.br {n : Nat} {R U : List Int} (h : Sf n R U) : Bij n R := by have := h.r.bij; rw [h.lr] at this; exact this
theorem Sf.bu {n : Nat} {R U : List Int} (h : Sf n R U) : Bij n U := by have := h.u.bij; rw [h.lu] at this; exact this
theorem transB_iff {R U : List Int} : transB R U = true ↔ Sf R.length R U := by
  unfold transB
  simp only [Bool.and_eq_true, decide_eq_true_eq, okBB_iff]
  constructor
  · rintro ⟨⟨⟨h1, h2, h3⟩, h4⟩, h5⟩
    exact ⟨Ok.of R h1, Ok.of U h2, rfl, h3.symm, h4, h5⟩
  · intro h
    exact ⟨⟨⟨h.r.b, h.u.b, h.lu.symm⟩, h.pos⟩, h.all⟩
theorem Sf.inn {n : Nat} {R U : List Int} (h : Sf n R U) {f : Int} (f0 : 0 ≤ f) (f1 : f < n) : In n (reach R U f) := rs_in h.br.maps h.bu.maps f0 f1 _
/-- From every square all squares are reached. -/
theorem Sf.full {n : Nat} {R U : List Int} (h : Sf n R U) {f : Int} (f0 : 0 ≤ f) (f1 : f < n) {y : Int} (y0 : 0 ≤ y) (y1 : y < n) : y ∈ reach R U f := by
  have hin := h.inn f0 f1
  have hcl : ∀ x ∈ reach R U f, R.getD x.toNat 0 ∈ reach R U f ∧ U.getD x.toNat 0 ∈ reach R U f := fun x hx => reach_closed h.lr h.br.maps h.bu.maps f0 f1 hx
  have h0 : ∀ z : Int, 0 ≤ z → z < n → z ∈ reach R U 0 := by
    intro z z0 z1
    have i0 := h.inn (f := 0) (by omega) (by have := h.pos; omega)
    exact nodup_sub_mem i0.nd (m := rng n) (fun x hx => mem_rng.2 ⟨i0.lo x hx, i0.hi x hx⟩) (by rw [h.all]; simp [rng]) (mem_rng.2 ⟨z0, z1⟩)
  by_cases hz : (0 : Int) ∈ reach R U f
  · have := reach_least (ps := R) (qs := U) (f := 0) (fun x => x ∈ reach R U f) hz hcl R.length y
    exact this (h0 y y0 y1)
  · exfalso
    have := reach_least (ps := R) (qs := U) (f := 0) (fun x => (0 ≤ x ∧ x < n) ∧ ¬ x ∈ reach R U f) ⟨⟨by omega, by have := h.pos; omega⟩, hz⟩ (by
      rintro x ⟨⟨x0, x1⟩, hx⟩
      have m1 := h.br.maps x.toNat (by omega); have m2 := h.bu.maps x.toNat (by omega)
      exact ⟨⟨m1, fun q => hx (closed_back h.br hin (fun x hx => (hcl x hx).1) x0 x1 q)⟩, ⟨m2, fun q => hx (closed_back h.bu hin (fun x hx => (hcl x hx).2) x0 x1 q)⟩⟩) R.length f (h0 f f0 f1)
    exact this.2 (reach_start R U f)
theorem Sf.flen {n : Nat} {R U : List Int} (h : Sf n R U) {f : Int} (f0 : 0 ≤ f) (f1 : f < n) : (reach R U f).length = n := by
  have h1 := (h.inn f0 f1).len
  have h2 := nodup_sub_len (rng n) (reach R U f) (rng_nodup n) (fun x hx => by rw [mem_rng] at hx; exact h.full f0 f1 hx.1 hx.2)
  rw [rng_len] at h2
  omega
theorem In.ok {n : Nat} {l : List Int} (h : In n l) (hl : l.length = n) (h24 : n ≤ 24) : Ok l := by
  refine ⟨by omega, fun i hi => h.lo _ (getD_mem hi), fun i hi => ?_, fun i j hi hj e => nodup_getD h.nd hi hj e⟩
  have := h.hi _ (getD_mem hi); omega
theorem Sf.rok {n : Nat} {R U : List Int} (h : Sf n R U) {f : Int} (f0 : 0 ≤ f) (f1 : f < n) : Ok (reach R U f) := (h.inn f0 f1).ok (h.flen f0 f1) (by have := h.r.len; have := h.lr; omega)
/-- The names from f. -/
def nm (R U : List Int) (f : Int) : List Int := Inv (reach R U f)
theorem Sf.nok {n : Nat} {R U : List Int} (h : Sf n R U) {f : Int} (f0 : 0 ≤ f) (f1 : f < n) : Ok (nm R U f) ∧ (nm R U f).length = n := ⟨Inv_ok (h.rok f0 f1), by unfold nm; rw [Inv_len, h.flen f0 f1]⟩

/-- R', U' are R, U renamed by ns. -/
structure Iso (n : Nat) (R U R' U' ns : List Int) : Prop where
  s : Sf n R U
  okn : Ok ns
  ln : ns.length = n
  r : Ren n R R' ns
  u : Ren n U U' ns
theorem add1_map {n : Nat} {ns l : List Int} (hb : Bij n ns) (hl : In n l) {x : Int} (x0 : 0 ≤ x) (x1 : x < n) : add1 (l.map fun y => ns.getD y.toNat 0) (ns.getD x.toNat 0) = (add1 l x).map fun y => ns.getD y.toNat 0 := by
  have e : ns.getD x.toNat 0 ∈ (l.map fun y => ns.getD y.toNat 0) ↔ x ∈ l := by
    rw [List.mem_map]
    constructor
    · rintro ⟨y, hy, q⟩
      have := hl.lo y hy; have := hl.hi y hy
      have := hb.inj _ _ (by omega) (by omega) q
      have : y = x := by omega
      exact this ▸ hy
    · intro h; exact ⟨x, h, rfl⟩
  unfold add1
  by_cases h : x ∈ l
  · rw [if_pos h, if_pos (e.2 h)]
  · rw [if_neg h, if_neg (fun q => h (e.1 q))]; simp
theorem Iso.rs_eq {n : Nat} {R U R' U' ns : List Int} (h : Iso n R U R' U' ns) {f : Int} (f0 : 0 ≤ f) (f1 : f < n) (k : Nat) : rs R' U' (ns.getD f.toNat 0) k = (rs R U f k).map fun y => ns.getD y.toNat 0 := by
  induction k with
  | zero => rfl
  | succ k ih =>
    have hin := rs_in h.s.br.maps h.s.bu.maps f0 f1 k
    show rnd R' U' _ k = (rnd R U _ k).map _
    rw [ih]
    unfold rnd
    rw [List.length_map]
    split
    · rename_i hk
      obtain ⟨z, hz, _, ez⟩ := hin.at_ hk
      have e1 : ((rs R U f k).map fun y => ns.getD y.toNat 0).getD k 0 = ns.getD z 0 := by
        simp only [List.getD, List.getElem?_map, List.getElem?_eq_getElem hk, Option.map_some, Option.getD_some]
        have : (rs R U f k)[k] = (z : Int) := by rw [← ez]; simp [List.getD, List.getElem?_eq_getElem hk]
        rw [this]; simp
      have m1 := h.s.br.maps z hz; have m2 := h.s.bu.maps z hz
      rw [e1, ez, Int.toNat_natCast, h.r.eq z hz, h.u.eq z hz, add1_map h.r.s hin m1.1 m1.2, add1_map h.r.s (hin.add m1.1 m1.2) m2.1 m2.2]
    · rfl
theorem Iso.reach_eq {n : Nat} {R U R' U' ns : List Int} (h : Iso n R U R' U' ns) (hl : R'.length = n) {f : Int} (f0 : 0 ≤ f) (f1 : f < n) : reach R' U' (ns.getD f.toNat 0) = (reach R U f).map fun y => ns.getD y.toNat 0 := by
  unfold reach; rw [hl, h.s.lr]; exact h.rs_eq f0 f1 n
theorem map_at {g : Int → Int} {l : List Int} {k : Nat} (hk : k < l.length) : (l.map g).getD k 0 = g (l.getD k 0) := by
  simp [List.getD, List.getElem?_eq_getElem hk]
/-- A square's name from f is its new self's name from f's new self. -/
theorem Iso.nm_eq {n : Nat} {R U R' U' ns : List Int} (h : Iso n R U R' U' ns) (hl : R'.length = n) {f : Int} (f0 : 0 ≤ f) (f1 : f < n) {i : Nat} (hi : i < n) : (nm R' U' (ns.getD f.toNat 0)).getD (ns.getD i 0).toNat 0 = (nm R U f).getD i 0 := by
  have fl := h.s.flen f0 f1
  have ok := h.s.rok f0 f1
  obtain ⟨k, hk, e⟩ := mem_getD (h.s.full f0 f1 (y := (i : Int)) (by omega) (by omega))
  have a := Inv_at ok hk
  rw [e, Int.toNat_natCast] at a
  unfold nm
  rw [a, h.reach_eq hl f0 f1]
  have hin : In n ((reach R U f).map fun y => ns.getD y.toNat 0) := by
    have hn := h.s.inn f0 f1
    refine ⟨?_, fun x hx => ?_, fun x hx => ?_⟩
    · unfold List.Nodup
      rw [List.pairwise_map]
      refine List.Pairwise.imp_of_mem ?_ hn.nd
      intro a b ha hb hab q
      have := hn.lo a ha; have := hn.hi a ha; have := hn.lo b hb; have := hn.hi b hb
      have := h.r.s.inj _ _ (by omega) (by omega) q
      omega
    · obtain ⟨y, hy, rfl⟩ := List.mem_map.1 hx
      exact (h.r.s.maps _ (by have := hn.lo y hy; have := hn.hi y hy; omega)).1
    · obtain ⟨y, hy, rfl⟩ := List.mem_map.1 hx
      exact (h.r.s.maps _ (by have := hn.lo y hy; have := hn.hi y hy; omega)).2
  have ok2 := hin.ok (by simp [fl]) (by have := h.s.r.len; have := h.s.lr; omega)
  have b := Inv_at ok2 (k := k) (by simpa using hk)
  rw [map_at hk, e, Int.toNat_natCast] at b
  exact b
end Go.Proofs.YtpmojmhamgcfmaaGreat.pm

/-
  The canonical form of a surface and its symmetries: plain mathematics.
-/
namespace Go.Proofs.YtpmojmhamgcfmaaGreat.pm
open Go.Proofs.YtpmojmhamgcfmaaGreat.arr Go.Proofs.YtpmojmhamgcfmaaGreat.inv Go.Proofs.YtpmojmhamgcfmaaGreat.permOf
set_option linter.unusedVariables false
set_option maxRecDepth 100000

abbrev Sur := List Int × List Int
/-- The surface with the names from f. -/
def Fm (R U : List Int) (n : Nat) (f : Int) : Sur := (renTo n R (nm R U f) n, renTo n U (nm R U f) n)
theorem ren_at' {n : Nat} {xs ys : List Int} (h : Ok ys) (lx : xs.length = n) (ly : ys.length = n) {k : Nat} (hk : k < n) : (renTo n xs ys n).getD (ys.getD k 0).toNat 0 = ys.getD (xs.getD k 0).toNat 0 := by
  subst lx; exact ren_at h ly.symm hk
theorem ren_list {n : Nat} {xs ys l : List Int} (h : Ok ys) (lx : xs.length = n) (ly : ys.length = n) (ll : l.length = n) (q : ∀ k, k < n → l.getD (ys.getD k 0).toNat 0 = ys.getD (xs.getD k 0).toNat 0) : renTo n xs ys n = l := by
  refine list_eq n (renTo_len _ _ _ _) ll fun i hi => ?_
  obtain ⟨k, hk, e⟩ := h.onto (y := i) (by omega)
  have a := ren_at' h lx ly (k := k) (by omega)
  have b := q k (by omega)
  rw [e, Int.toNat_natCast] at a b
  rw [a, b]
theorem Iso.F_eq {n : Nat} {R U R' U' ns : List Int} (h : Iso n R U R' U' ns) (s' : Sf n R' U') {f : Int} (f0 : 0 ≤ f) (f1 : f < n) : Fm R' U' n (ns.getD f.toNat 0) = Fm R U n f := by
  have g := h.r.s.maps f.toNat (by omega)
  obtain ⟨nk, nl⟩ := h.s.nok f0 f1
  obtain ⟨nk', nl'⟩ := s'.nok g.1 g.2
  have key : ∀ i, i < n → (nm R' U' (ns.getD f.toNat 0)).getD (ns.getD i 0).toNat 0 = (nm R U f).getD i 0 := fun i hi => h.nm_eq s'.lr f0 f1 hi
  have one : ∀ X X' : List Int, X.length = n → X'.length = n → Maps n X → Ren n X X' ns → renTo n X (nm R U f) n = renTo n X' (nm R' U' (ns.getD f.toNat 0)) n := by
    intro X X' lx lx' mx hr
    refine ren_list nk lx nl (renTo_len _ _ _ _) fun k hk => ?_
    have m := h.r.s.maps k hk
    have a := ren_at' nk' lx' nl' (k := (ns.getD k 0).toNat) (by omega)
    rw [key k hk, hr.eq k hk, key _ (by have := mx k hk; omega)] at a
    exact a
  unfold Fm
  rw [one R R' h.s.lr s'.lr h.s.br.maps h.r, one U U' h.s.lu s'.lu h.s.bu.maps h.u]
/-- A renamed surface is valid. -/
theorem mkIso {n : Nat} {R U ns : List Int} (s : Sf n R U) (hn : Ok ns) (ln : ns.length = n) : Iso n R U (renTo n R ns n) (renTo n U ns n) ns ∧ Sf n (renTo n R ns n) (renTo n U ns n) := by
  have eR : renF R ns = renTo n R ns n := by rw [renF_of s.r hn (by rw [s.lr, ln]), s.lr]
  have eU : renF U ns = renTo n U ns n := by rw [renF_of s.u hn (by rw [s.lu, ln]), s.lu]
  have rR := ren_ren s.r hn s.lr ln; have rU := ren_ren s.u hn s.lu ln
  have oR := ren_ok s.r hn s.lr ln; have oU := ren_ok s.u hn s.lu ln
  rw [eR] at rR oR; rw [eU] at rU oU
  have iso : Iso n R U (renTo n R ns n) (renTo n U ns n) ns := ⟨s, hn, ln, rR, rU⟩
  refine ⟨iso, oR.1, oU.1, oR.2, oU.2, s.pos, ?_⟩
  obtain ⟨g, hg, e⟩ := hn.onto (y := 0) (by have := s.pos; omega)
  have := iso.reach_eq oR.2 (f := (g : Int)) (by omega) (by omega)
  rw [Int.toNat_natCast, e] at this
  have e0 : ((0 : Nat) : Int) = 0 := rfl
  rw [e0] at this
  rw [this, List.length_map, s.flen (by omega) (by omega)]

/-- The first difference decides. -/
def lessL : List Int → List Int → Bool
  | a :: s, b :: t => if a = b then lessL s t else decide (a < b)
  | _, _ => false
theorem lessL_irr (a : List Int) : lessL a a = false := by
  induction a with
  | nil => rfl
  | cons x t ih => simp [lessL, ih]
theorem lessL_total : ∀ (a b : List Int), a.length = b.length → a ≠ b → lessL a b = true ∨ lessL b a = true := by
  intro a
  induction a with
  | nil => intro b hl hne; cases b with
    | nil => exact absurd rfl hne
    | cons y t => simp at hl
  | cons x s ih =>
    intro b hl hne
    cases b with
    | nil => simp at hl
    | cons y t =>
      simp only [lessL]
      by_cases e : x = y
      · subst e
        simp only [if_true]
        exact ih t (by simpa using hl) (fun q => hne (by rw [q]))
      · rw [if_neg e, if_neg (fun q => e q.symm)]
        simp only [decide_eq_true_eq]
        omega
theorem lessL_trans : ∀ (a b c : List Int), lessL a b = true → lessL b c = true → lessL a c = true := by
  intro a
  induction a with
  | nil => intro b c h; simp [lessL] at h
  | cons x s ih =>
    intro b c h1 h2
    cases b with
    | nil => simp [lessL] at h1
    | cons y t =>
      cases c with
      | nil => simp [lessL] at h2
      | cons z u =>
        simp only [lessL] at h1 h2 ⊢
        by_cases e1 : x = y
        · subst e1
          rw [if_pos rfl] at h1
          by_cases e2 : x = z
          · subst e2; rw [if_pos rfl] at h2 ⊢; exact ih t u h1 h2
          · rw [if_neg e2] at h2 ⊢; exact h2
        · rw [if_neg e1] at h1
          simp only [decide_eq_true_eq] at h1
          by_cases e2 : y = z
          · subst e2; rw [if_neg e1]; simpa using h1
          · rw [if_neg e2] at h2
            simp only [decide_eq_true_eq] at h2
            rw [if_neg (by omega)]
            simp only [decide_eq_true_eq]
            omega
/-- First Right, then Up. -/
def bef (a b : Sur) : Bool := if a.1 = b.1 then lessL a.2 b.2 else lessL a.1 b.1
theorem bef_irr (a : Sur) : bef a a = false := by simp [bef, lessL_irr]
theorem bef_total {a b : Sur} (h1 : a.1.length = b.1.length) (h2 : a.2.length = b.2.length) (hne : a ≠ b) : bef a b = true ∨ bef b a = true := by
  unfold bef
  by_cases e : a.1 = b.1
  · rw [if_pos e, if_pos e.symm]
    exact lessL_total _ _ h2 (fun q => hne (Prod.ext e q))
  · rw [if_neg e, if_neg (fun q => e q.symm)]
    exact lessL_total _ _ h1 e
theorem bef_trans {a b c : Sur} (h1 : bef a b = true) (h2 : bef b c = true) : bef a c = true := by
  unfold bef at *
  by_cases e1 : a.1 = b.1
  · rw [if_pos e1] at h1
    by_cases e2 : b.1 = c.1
    · rw [if_pos e2] at h2; rw [if_pos (e1.trans e2)]; exact lessL_trans _ _ _ h1 h2
    · rw [if_neg e2] at h2; rw [if_neg (fun q => e2 (e1.symm.trans q)), e1]; exact h2
  · rw [if_neg e1] at h1
    by_cases e2 : b.1 = c.1
    · rw [if_neg (fun q => e1 (q.trans e2.symm)), ← e2]; exact h1
    · rw [if_neg e2] at h2
      have := lessL_trans _ _ _ h1 h2
      rw [if_neg (fun q => by rw [q, lessL_irr] at this; cases this)]
      exact this
/-- The least of the first k + 1. -/
def canTo (F : Int → Sur) : Nat → Sur
  | 0 => F 0
  | k + 1 => if bef (F ((k : Int) + 1)) (canTo F k) then F ((k : Int) + 1) else canTo F k
theorem canTo_is (F : Int → Sur) (k : Nat) : ∃ j : Nat, j ≤ k ∧ canTo F k = F (j : Int) := by
  induction k with
  | zero => exact ⟨0, Nat.le_refl _, rfl⟩
  | succ k ih =>
    obtain ⟨j, hj, e⟩ := ih
    rw [canTo]; split
    · exact ⟨k + 1, Nat.le_refl _, by simp⟩
    · exact ⟨j, by omega, e⟩
theorem canTo_min (F : Int → Sur) (k : Nat) : ∀ i : Nat, i ≤ k → bef (F (i : Int)) (canTo F k) = false := by
  induction k with
  | zero => intro i hi; obtain rfl : i = 0 := by omega
            exact bef_irr _
  | succ k ih =>
    intro i hi
    rw [canTo]; split
    · rename_i h
      by_cases e : i = k + 1
      · subst e; simp [bef_irr]
      · cases q : bef (F (i : Int)) (F ((k : Int) + 1)) with
        | false => rfl
        | true => have := bef_trans q h; rw [ih i (by omega)] at this; cases this
    · rename_i h
      by_cases e : i = k + 1
      · subst e; simpa using h
      · exact ih i (by omega)
def can (R U : List Int) (n : Nat) : Sur := canTo (Fm R U n) (n - 1)
theorem Fm_len (R U : List Int) (n : Nat) (f : Int) : (Fm R U n f).1.length = n ∧ (Fm R U n f).2.length = n := ⟨renTo_len _ _ _ _, renTo_len _ _ _ _⟩
theorem can_is {R U : List Int} {n : Nat} (h : 0 < n) : ∃ j : Nat, j < n ∧ can R U n = Fm R U n (j : Int) := by
  obtain ⟨j, hj, e⟩ := canTo_is (Fm R U n) (n - 1)
  exact ⟨j, by omega, e⟩
theorem can_min {R U : List Int} {n i : Nat} (hi : i < n) : bef (Fm R U n (i : Int)) (can R U n) = false := canTo_min _ _ i (by omega)
/-- Two minima of the same set are one. -/
theorem can_unique {R U R' U' : List Int} {n : Nat} (hn : 0 < n) (h1 : ∀ i : Nat, i < n → ∃ j : Nat, j < n ∧ Fm R U n (i : Int) = Fm R' U' n (j : Int)) (h2 : ∀ j : Nat, j < n → ∃ i : Nat, i < n ∧ Fm R' U' n (j : Int) = Fm R U n (i : Int)) : can R' U' n = can R U n := by
  obtain ⟨a, ha, ea⟩ := can_is (R := R) (U := U) hn
  obtain ⟨b, hb, eb⟩ := can_is (R := R') (U := U') hn
  obtain ⟨a', ha', ea'⟩ := h1 a ha
  obtain ⟨b', hb', eb'⟩ := h2 b hb
  have m1 := can_min (R := R') (U := U') ha'
  have m2 := can_min (R := R) (U := U) hb'
  rw [← ea', ← ea] at m1
  rw [← eb', ← eb] at m2
  by_cases e : can R' U' n = can R U n
  · exact e
  · rcases bef_total (by rw [ea, eb, (Fm_len _ _ _ _).1, (Fm_len _ _ _ _).1]) (by rw [ea, eb, (Fm_len _ _ _ _).2, (Fm_len _ _ _ _).2]) e with q | q
    · rw [m2] at q; cases q
    · rw [m1] at q; cases q
theorem Iso.can_eq {n : Nat} {R U R' U' ns : List Int} (h : Iso n R U R' U' ns) (s' : Sf n R' U') : can R' U' n = can R U n := by
  refine can_unique h.s.pos (fun i hi => ?_) (fun j hj => ?_)
  · have m := h.r.s.maps i hi
    have := h.F_eq s' (f := (i : Int)) (by omega) (by omega)
    rw [Int.toNat_natCast] at this
    exact ⟨(ns.getD i 0).toNat, by omega, by rw [Int.toNat_of_nonneg m.1, this]⟩
  · obtain ⟨i, hi, e⟩ := h.okn.onto (y := j) (by have := h.ln; omega)
    have := h.F_eq s' (f := (i : Int)) (by omega) (by have := h.ln; omega)
    rw [Int.toNat_natCast, e] at this
    exact ⟨i, by have := h.ln; omega, this⟩
/-- The canonical form is a valid surface with the same canonical form. -/
theorem Sf.can_iso {n : Nat} {R U : List Int} (s : Sf n R U) : ∃ ns, Iso n R U (can R U n).1 (can R U n).2 ns ∧ Sf n (can R U n).1 (can R U n).2 := by
  obtain ⟨j, hj, e⟩ := can_is (R := R) (U := U) s.pos
  obtain ⟨k, l⟩ := s.nok (f := (j : Int)) (by omega) (by omega)
  rw [e]
  exact ⟨_, mkIso s k l⟩
end Go.Proofs.YtpmojmhamgcfmaaGreat.pm
