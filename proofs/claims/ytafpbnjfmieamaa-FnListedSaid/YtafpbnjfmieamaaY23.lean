import Derived.Test.YtafpbnjfmieamaaY06
import Derived.Test.YtafpbnjfmieamaaY07
import Derived.Test.YtafpbnjfmieamaaY12
import Derived.Lib.Slices
import Derived.Test.YtafpbnjfmieamaaY14
/-
  An exchange of two elements changes the number of cycles by one; so its parity is that of a product: plain mathematics.
-/
namespace Go.Proofs.Ytafpbnjfmieamaa.pm
open Go.Proofs.Ytafpbnjfmieamaa.arr Go.Proofs.Ytafpbnjfmieamaa.inv Go.Proofs.Ytafpbnjfmieamaa.permOf
set_option linter.unusedVariables false
set_option maxRecDepth 100000

section
variable {n : Nat} {ps : List Int} (hb : Bij n ps)
include hb
theorem cyc_self {f : Int} (f0 : 0 ≤ f) (f1 : f < n) : f ∈ cyc ps n f := by
  have hw := cyc_way hb f0 f1
  have := getD_mem (l := cyc ps n f) (i := 0) hw.pos
  rw [hw.head] at this; exact this
theorem cyc_next {f x : Int} (f0 : 0 ≤ f) (f1 : f < n) (hx : x ∈ cyc ps n f) : ps.getD x.toNat 0 ∈ cyc ps n f := by
  have hw := cyc_way hb f0 f1
  obtain ⟨i, hi, e⟩ := mem_getD hx
  by_cases h : i + 1 < (cyc ps n f).length
  · rw [← e, ← hw.step i h]; exact getD_mem h
  · have : i = (cyc ps n f).length - 1 := by omega
    subst this
    rw [← e, ← hw.last]
    exact cyc_self hb f0 f1
theorem mem_cyc {f y : Int} (f0 : 0 ≤ f) (f1 : f < n) : y ∈ cyc ps n f ↔ ∃ m, it ps f m = y := by
  have hw := cyc_way hb f0 f1
  constructor
  · intro h
    obtain ⟨i, hi, e⟩ := mem_getD h
    exact ⟨i, by rw [← way_it hw i hi, e]⟩
  · rintro ⟨m, rfl⟩
    induction m with
    | zero => exact cyc_self hb f0 f1
    | succ m ih => exact cyc_next hb f0 f1 ih
theorem cyc_trans {f x y : Int} (f0 : 0 ≤ f) (f1 : f < n) (hx : x ∈ cyc ps n f) (hy : y ∈ cyc ps n x) : y ∈ cyc ps n f := by
  have hw := cyc_way hb f0 f1
  obtain ⟨a, ea⟩ := (mem_cyc hb f0 f1).1 hx
  obtain ⟨b, eb⟩ := (mem_cyc hb (hw.inn.lo x hx) (hw.inn.hi x hx)).1 hy
  exact (mem_cyc hb f0 f1).2 ⟨a + b, by rw [← it_add, ea, eb]⟩
theorem cyc_symm {f x : Int} (f0 : 0 ≤ f) (f1 : f < n) (hx : x ∈ cyc ps n f) : f ∈ cyc ps n x := by
  have hw := cyc_way hb f0 f1
  obtain ⟨j, hj, e⟩ := mem_getD hx
  rw [way_it hw j hj] at e
  refine (mem_cyc hb (hw.inn.lo x hx) (hw.inn.hi x hx)).2 ⟨(cyc ps n f).length - j, ?_⟩
  have ej : j + ((cyc ps n f).length - j) = (cyc ps n f).length := by omega
  rw [← e, it_add, ej, ← way_last hw]
theorem cyc_iff {f x y : Int} (f0 : 0 ≤ f) (f1 : f < n) (hx : x ∈ cyc ps n f) : y ∈ cyc ps n x ↔ y ∈ cyc ps n f := by
  have hw := cyc_way hb f0 f1
  constructor
  · exact cyc_trans hb f0 f1 hx
  · exact cyc_trans hb (hw.inn.lo x hx) (hw.inn.hi x hx) (cyc_symm hb f0 f1 hx)
end
/-- x is the least of its cycle. -/
def mn (ps : List Int) (n : Nat) (x : Int) : Bool := decide (∀ y ∈ cyc ps n x, x ≤ y)
theorem mem_cso {n : Nat} {ps : List Int} (hb : Bij n ps) (k : Nat) (hk : k ≤ n) (x : Int) : x ∈ (cso ps n k).flatten ↔ ∃ j : Nat, j < k ∧ x ∈ cyc ps n (j : Int) := by
  induction k with
  | zero => simp [cso]
  | succ k ih =>
    have ih := ih (by omega)
    rw [cso]
    by_cases h : (k : Int) ∈ (cso ps n k).flatten
    · rw [if_pos h, ih]
      constructor
      · rintro ⟨j, hj, q⟩; exact ⟨j, by omega, q⟩
      · rintro ⟨j, hj, q⟩
        by_cases e : j = k
        · subst e
          have hc := cso_cs hb j (by omega)
          -- j lies in an earlier cycle
          obtain ⟨c, hc1, hc2⟩ := List.mem_flatten.1 h
          have : x ∈ (cso ps n j).flatten := by
            have hcyc : ∀ m (hm : m ≤ n) (c : List Int), c ∈ cso ps n m → ∃ i : Nat, i < m ∧ c = cyc ps n (i : Int) := by
              intro m
              induction m with
              | zero => intro _ c hc; simp [cso] at hc
              | succ m ihm =>
                intro hm c hc
                rw [cso] at hc
                split at hc
                · obtain ⟨i, hi, e⟩ := ihm (by omega) c hc; exact ⟨i, by omega, e⟩
                · rcases List.mem_append.1 hc with hc | hc
                  · obtain ⟨i, hi, e⟩ := ihm (by omega) c hc; exact ⟨i, by omega, e⟩
                  · simp at hc; exact ⟨m, by omega, hc⟩
            obtain ⟨i, hi, e⟩ := hcyc j (by omega) c hc1
            subst e
            exact List.mem_flatten.2 ⟨_, hc1, cyc_trans hb (by omega) (by omega) hc2 q⟩
          exact (ih.1 this)
        · exact ⟨j, by omega, q⟩
    · rw [if_neg h]
      simp only [List.flatten_append, List.flatten_cons, List.flatten_nil, List.append_nil, List.mem_append, ih]
      constructor
      · rintro (⟨j, hj, q⟩ | q)
        · exact ⟨j, by omega, q⟩
        · exact ⟨k, by omega, q⟩
      · rintro ⟨j, hj, q⟩
        by_cases e : j = k
        · subst e; exact .inr q
        · exact .inl ⟨j, by omega, q⟩
theorem cso_count {n : Nat} {ps : List Int} (hb : Bij n ps) (k : Nat) (hk : k ≤ n) : (cso ps n k).length = (rng k).countP (mn ps n) := by
  induction k with
  | zero => rfl
  | succ k ih =>
    have e : rng (k + 1) = rng k ++ [(k : Int)] := by unfold rng; rw [List.range_succ, List.map_append]; rfl
    rw [e, List.countP_append, ← ih (by omega), cso]
    have key : (k : Int) ∈ (cso ps n k).flatten ↔ mn ps n (k : Int) = false := by
      rw [mem_cso hb k (by omega)]
      unfold mn
      rw [decide_eq_false_iff_not]
      constructor
      · rintro ⟨j, hj, q⟩ h
        have := h _ (cyc_symm hb (by omega) (by omega) q)
        omega
      · intro h
        have : ∃ y, y ∈ cyc ps n (k : Int) ∧ y < (k : Int) := by
          rcases Classical.em (∃ y, y ∈ cyc ps n (k : Int) ∧ y < (k : Int)) with q | q
          · exact q
          · exact absurd (fun y hy => Int.not_lt.1 (fun hlt => q ⟨y, hy, hlt⟩)) h
        obtain ⟨y, hy, hlt⟩ := this
        have hw := cyc_way (f := (k : Int)) hb (by omega) (by omega)
        have y0 := hw.inn.lo y hy
        exact ⟨y.toNat, by omega, by rw [Int.toNat_of_nonneg y0]; exact cyc_symm hb (by omega) (by omega) hy⟩
    by_cases h : (k : Int) ∈ (cso ps n k).flatten
    · rw [if_pos h]; simp [key.1 h]
    · rw [if_neg h]
      have : mn ps n (k : Int) = true := by
        cases q : mn ps n (k : Int) with
        | true => rfl
        | false => exact absurd (key.2 q) h
      simp [this]
theorem countP_one {l : List Int} {q : Int → Bool} (hl : l.Nodup) {x : Int} (hx : x ∈ l) (hq : q x = true) (hu : ∀ y ∈ l, q y = true → y = x) : l.countP q = 1 := by
  rw [List.countP_eq_length_filter]
  have hm : x ∈ l.filter q := List.mem_filter.2 ⟨hx, hq⟩
  have h1 := nodup_le_one (l.filter q) x (List.Pairwise.filter _ hl) (fun y hy => hu y (List.mem_filter.1 hy).1 (List.mem_filter.1 hy).2)
  have := List.length_pos_of_mem hm
  omega
where
  nodup_le_one (l : List Int) (x : Int) (hl : l.Nodup) (h : ∀ y ∈ l, y = x) : l.length ≤ 1 := by
    match l, hl, h with
    | [], _, _ => simp
    | [a], _, _ => simp
    | a :: b :: t, hl, h =>
      have ha := h a (by simp); have hb := h b (by simp)
      subst ha
      exact absurd hb.symm (fun e => (List.nodup_cons.1 hl).1 (by rw [e]; simp))
theorem countP_part {l : List Int} (q c : Int → Bool) : l.countP q = l.countP (fun x => q x && c x) + l.countP (fun x => q x && !c x) := by
  induction l with
  | nil => rfl
  | cons a t ih =>
    simp only [List.countP_cons, ih]
    cases q a <;> cases c a <;> simp <;> omega
theorem least_of (l : List Int) (h : l ≠ []) : ∃ x ∈ l, ∀ y ∈ l, x ≤ y := by
  induction l with
  | nil => exact absurd rfl h
  | cons a t ih =>
    by_cases ht : t = []
    · subst ht; exact ⟨a, by simp, by simp⟩
    · obtain ⟨x, hx, hm⟩ := ih ht
      by_cases e : a ≤ x
      · refine ⟨a, by simp, fun y hy => ?_⟩
        rcases List.mem_cons.1 hy with rfl | hy
        · exact Int.le_refl _
        · have := hm y hy; omega
      · refine ⟨x, by simp [hx], fun y hy => ?_⟩
        rcases List.mem_cons.1 hy with rfl | hy
        · omega
        · exact hm y hy
/-- One element of a cycle is its least. -/
theorem one_least {n : Nat} {ps : List Int} (hb : Bij n ps) {a : Int} (a0 : 0 ≤ a) (a1 : a < n) : (rng n).countP (fun x => mn ps n x && decide (x ∈ cyc ps n a)) = 1 := by
  have hw := cyc_way hb a0 a1
  obtain ⟨x, hx, hm⟩ := least_of (cyc ps n a) (fun e => by have := hw.pos; rw [e] at this; simp at this)
  refine countP_one (rng_nodup n) (x := x) (mem_rng.2 ⟨hw.inn.lo x hx, hw.inn.hi x hx⟩) ?_ ?_
  · simp only [Bool.and_eq_true, decide_eq_true_eq, mn]
    exact ⟨fun y hy => hm y ((cyc_iff hb a0 a1 hx).1 hy), hx⟩
  · intro y hy q
    simp only [Bool.and_eq_true, decide_eq_true_eq, mn] at q
    have h1 := q.1 x ((cyc_iff hb a0 a1 q.2).2 hx)
    have h2 := hm y q.2
    omega
/-- ps' is ps behind an exchange of a and b. -/
structure Xch (n : Nat) (ps ps' : List Int) (a b : Nat) : Prop where
  p : Bij n ps
  p' : Bij n ps'
  ha : a < n
  hb : b < n
  ne : a ≠ b
  ea : ps'.getD a 0 = ps.getD b 0
  eb : ps'.getD b 0 = ps.getD a 0
  eo : ∀ i, i < n → i ≠ a → i ≠ b → ps'.getD i 0 = ps.getD i 0
theorem Xch.symm {n a b : Nat} {ps ps' : List Int} (h : Xch n ps ps' a b) : Xch n ps' ps a b := ⟨h.p', h.p, h.ha, h.hb, h.ne, h.eb.symm, h.ea.symm, fun i hi q r => (h.eo i hi q r).symm⟩
theorem Xch.other {n a b : Nat} {ps ps' : List Int} (h : Xch n ps ps' a b) {x : Int} (x0 : 0 ≤ x) (x1 : x < n) (q : x ≠ a) (r : x ≠ b) : ps'.getD x.toNat 0 = ps.getD x.toNat 0 := h.eo _ (by omega) (by omega) (by omega)
/-- Where a and b lie in different cycles, their union becomes one. -/
theorem Xch.merge {n a b : Nat} {ps ps' : List Int} (h : Xch n ps ps' a b) (hd : ¬ (b : Int) ∈ cyc ps n a) (x : Int) : x ∈ cyc ps' n a ↔ x ∈ cyc ps n a ∨ x ∈ cyc ps n b := by
  have a1 : (a : Int) < n := by have := h.ha; omega
  have b1 : (b : Int) < n := by have := h.hb; omega
  have hd' : ¬ (a : Int) ∈ cyc ps n b := fun q => hd (cyc_symm h.p (by omega) b1 q)
  have wa := cyc_way (f := (a : Int)) h.p (by omega) a1
  have wb := cyc_way (f := (b : Int)) h.p (by omega) b1
  have na := cyc_next h.p (f := (a : Int)) (by omega) a1 (cyc_self h.p (by omega) a1)
  have nb := cyc_next h.p (f := (b : Int)) (by omega) b1 (cyc_self h.p (by omega) b1)
  rw [Int.toNat_natCast] at na nb
  constructor
  · intro hx
    obtain ⟨m, rfl⟩ := (mem_cyc h.p' (by omega) a1).1 hx
    clear hx
    induction m with
    | zero => exact .inl (cyc_self h.p (by omega) a1)
    | succ m ih =>
      have mm := it_in h.p' (f := (a : Int)) (by omega) a1 m
      show ps'.getD (it ps' a m).toNat 0 ∈ _ ∨ ps'.getD (it ps' a m).toNat 0 ∈ _
      generalize it ps' (a : Int) m = z at *
      by_cases e1 : z = a
      · subst e1; rw [Int.toNat_natCast, h.ea]; exact .inr nb
      · by_cases e2 : z = b
        · subst e2; rw [Int.toNat_natCast, h.eb]; exact .inl na
        · rw [h.other mm.1 mm.2 e1 e2]
          rcases ih with q | q
          · exact .inl (cyc_next h.p (by omega) a1 q)
          · exact .inr (cyc_next h.p (by omega) b1 q)
  · have na' := cyc_next h.p' (f := (a : Int)) (by omega) a1 (cyc_self h.p' (by omega) a1)
    rw [Int.toNat_natCast, h.ea] at na'
    have B : ∀ m, it ps (b : Int) (m + 1) ∈ cyc ps' n a := by
      intro m
      induction m with
      | zero => show ps.getD (b : Int).toNat 0 ∈ _; rw [Int.toNat_natCast]; exact na'
      | succ m ih =>
        have mm := it_in h.p (f := (b : Int)) (by omega) b1 (m + 1)
        have mc := (mem_cyc h.p (f := (b : Int)) (by omega) b1).2 ⟨m + 1, rfl⟩
        show ps.getD (it ps b (m + 1)).toNat 0 ∈ _
        generalize it ps (b : Int) (m + 1) = z at *
        by_cases e2 : z = b
        · subst e2; rw [Int.toNat_natCast]; exact na'
        · rw [← h.other mm.1 mm.2 (fun e => hd' (e ▸ mc)) e2]
          exact cyc_next h.p' (by omega) a1 ih
    have bin : (b : Int) ∈ cyc ps' n a := by
      have e := way_last wb
      have hp := wb.pos
      obtain ⟨k, hk⟩ : ∃ k, (cyc ps n (b : Int)).length = k + 1 := ⟨(cyc ps n (b : Int)).length - 1, by omega⟩
      rw [hk] at e
      rw [e]; exact B k
    have nb' := cyc_next h.p' (by omega) a1 bin
    rw [Int.toNat_natCast, h.eb] at nb'
    have A : ∀ m, it ps (a : Int) m ∈ cyc ps' n a := by
      intro m
      induction m with
      | zero => exact cyc_self h.p' (by omega) a1
      | succ m ih =>
        have mm := it_in h.p (f := (a : Int)) (by omega) a1 m
        have mc := (mem_cyc h.p (f := (a : Int)) (by omega) a1).2 ⟨m, rfl⟩
        show ps.getD (it ps a m).toNat 0 ∈ _
        generalize it ps (a : Int) m = z at *
        by_cases e1 : z = a
        · subst e1; rw [Int.toNat_natCast]; exact nb'
        · rw [← h.other mm.1 mm.2 e1 (fun e => hd (e ▸ mc))]
          exact cyc_next h.p' (by omega) a1 ih
    rintro (q | q)
    · obtain ⟨m, rfl⟩ := (mem_cyc h.p (by omega) a1).1 q; exact A m
    · obtain ⟨m, rfl⟩ := (mem_cyc h.p (by omega) b1).1 q
      cases m with
      | zero => exact bin
      | succ m => exact B m
/-- Elsewhere cycles stay. -/
theorem Xch.away {n a b : Nat} {ps ps' : List Int} (h : Xch n ps ps' a b) {f : Int} (f0 : 0 ≤ f) (f1 : f < n) (ha : ¬ f ∈ cyc ps n a) (hb : ¬ f ∈ cyc ps n b) (x : Int) : x ∈ cyc ps' n f ↔ x ∈ cyc ps n f := by
  have a1 : (a : Int) < n := by have := h.ha; omega
  have b1 : (b : Int) < n := by have := h.hb; omega
  have e : ∀ m, it ps' f m = it ps f m := by
    intro m
    induction m with
    | zero => rfl
    | succ m ih =>
      have mm := it_in h.p f0 f1 m
      have mc := (mem_cyc h.p f0 f1).2 ⟨m, rfl⟩
      show ps'.getD (it ps' f m).toNat 0 = ps.getD (it ps f m).toNat 0
      rw [ih]
      generalize it ps f m = z at *
      refine h.other mm.1 mm.2 (fun e => ha ?_) (fun e => hb ?_)
      · subst e; exact cyc_symm h.p f0 f1 mc
      · subst e; exact cyc_symm h.p f0 f1 mc
  rw [mem_cyc h.p' f0 f1, mem_cyc h.p f0 f1]
  simp only [e]
/-- Two elements of one cycle come into different ones. -/
theorem Xch.split {n a b : Nat} {ps ps' : List Int} (h : Xch n ps ps' a b) (hd : (b : Int) ∈ cyc ps n a) : ¬ (b : Int) ∈ cyc ps' n a := by
  have a1 : (a : Int) < n := by have := h.ha; omega
  have wa := cyc_way (f := (a : Int)) h.p (by omega) a1
  obtain ⟨k, hk, ek⟩ := mem_getD hd
  have ek' := way_it wa k hk
  rw [ek] at ek'
  have lst := way_last wa
  have k0 : 0 < k := by
    rcases Nat.eq_zero_or_pos k with e | e
    · subst e; rw [wa.head] at ek; exact absurd (by omega) h.ne
    · exact e
  have key : ∀ m, ∃ j, k < j ∧ j ≤ (cyc ps n (a : Int)).length ∧ it ps' a m = it ps a j := by
    intro m
    induction m with
    | zero => exact ⟨_, hk, Nat.le_refl _, lst⟩
    | succ m ih =>
      obtain ⟨j, j1, j2, e⟩ := ih
      by_cases jl : j = (cyc ps n (a : Int)).length
      · refine ⟨k + 1, by omega, by omega, ?_⟩
        show ps'.getD (it ps' a m).toNat 0 = ps.getD (it ps a k).toNat 0
        rw [e, jl, ← lst, ← ek', Int.toNat_natCast, Int.toNat_natCast, h.ea]
      · refine ⟨j + 1, by omega, by omega, ?_⟩
        show ps'.getD (it ps' a m).toNat 0 = ps.getD (it ps a j).toNat 0
        rw [e]
        have mm := it_in h.p (f := (a : Int)) (by omega) a1 j
        have gj := way_it wa j (by omega)
        refine h.other mm.1 mm.2 (fun q => ?_) (fun q => ?_)
        · have := nodup_getD wa.inn.nd (i := j) (j := 0) (by omega) (by omega) (by rw [gj, q, wa.head]); omega
        · have := nodup_getD wa.inn.nd (i := j) (j := k) (by omega) hk (by rw [gj, q, ek]); omega
  intro q
  obtain ⟨m, e⟩ := (mem_cyc h.p' (by omega) a1).1 q
  obtain ⟨j, j1, j2, e2⟩ := key m
  rw [e] at e2
  by_cases jl : j = (cyc ps n (a : Int)).length
  · rw [jl, ← lst] at e2; exact h.ne (by omega)
  · have gj := way_it wa j (by omega)
    have := nodup_getD wa.inn.nd (i := j) (j := k) (by omega) hk (by rw [gj, ← e2, ek]); omega
def cnum (ps : List Int) (n : Nat) : Nat := (cso ps n n).length
theorem Xch.plus {n a b : Nat} {ps ps' : List Int} (h : Xch n ps ps' a b) (hd : ¬ (b : Int) ∈ cyc ps n a) : cnum ps n = cnum ps' n + 1 := by
  have a1 : (a : Int) < n := by have := h.ha; omega
  have b1 : (b : Int) < n := by have := h.hb; omega
  have dis : ∀ x, x ∈ cyc ps n (a : Int) → ¬ x ∈ cyc ps n (b : Int) := fun x qa qb => hd (cyc_trans h.p (by omega) a1 qa (cyc_symm h.p (by omega) b1 qb))
  unfold cnum
  rw [cso_count h.p n (Nat.le_refl _), cso_count h.p' n (Nat.le_refl _)]
  rw [countP_part (mn ps n) (fun x => decide (x ∈ cyc ps n a)), one_least h.p (by omega) a1]
  rw [countP_part (fun x => mn ps n x && !decide (x ∈ cyc ps n (a : Int))) (fun x => decide (x ∈ cyc ps n b))]
  rw [countP_part (mn ps' n) (fun x => decide (x ∈ cyc ps' n a)), one_least h.p' (by omega) a1]
  have e1 : (rng n).countP (fun x => (mn ps n x && !decide (x ∈ cyc ps n (a : Int))) && decide (x ∈ cyc ps n (b : Int))) = 1 := by
    rw [← one_least h.p (a := (b : Int)) (by omega) b1]
    refine List.countP_congr fun x _ => ?_
    simp only [Bool.and_eq_true, Bool.not_eq_true', decide_eq_true_eq, decide_eq_false_iff_not]
    exact ⟨fun q => ⟨q.1.1, q.2⟩, fun q => ⟨⟨q.1, fun r => dis x r q.2⟩, q.2⟩⟩
  have e2 : (rng n).countP (fun x => (mn ps n x && !decide (x ∈ cyc ps n (a : Int))) && !decide (x ∈ cyc ps n (b : Int))) = (rng n).countP (fun x => mn ps' n x && !decide (x ∈ cyc ps' n (a : Int))) := by
    refine List.countP_congr fun x hx => ?_
    rw [mem_rng] at hx
    simp only [Bool.and_eq_true, Bool.not_eq_true', decide_eq_true_eq, decide_eq_false_iff_not, h.merge hd x, mn]
    constructor
    · rintro ⟨⟨q1, q2⟩, q3⟩
      exact ⟨fun y hy => q1 y ((h.away hx.1 hx.2 q2 q3 y).1 hy), fun r => r.elim q2 q3⟩
    · rintro ⟨q1, q2⟩
      have n1 : ¬ x ∈ cyc ps n (a : Int) := fun r => q2 (.inl r)
      have n2 : ¬ x ∈ cyc ps n (b : Int) := fun r => q2 (.inr r)
      exact ⟨⟨fun y hy => q1 y ((h.away hx.1 hx.2 n1 n2 y).2 hy), n1⟩, n2⟩
  rw [e1, e2]
  omega
/-- The number of cycles changes its parity. -/
theorem Xch.parity {n a b : Nat} {ps ps' : List Int} (h : Xch n ps ps' a b) : (cnum ps n + cnum ps' n) % 2 = 1 := by
  by_cases hd : (b : Int) ∈ cyc ps n a
  · have := h.symm.plus (h.split hd); omega
  · have := h.plus hd; omega
end Go.Proofs.Ytafpbnjfmieamaa.pm

/-
  The number of cycles of a product, modulo 2; a commutator's differs from the number of elements by an even number: plain mathematics.
-/
namespace Go.Proofs.Ytafpbnjfmieamaa.pm
open Go.Proofs.Ytafpbnjfmieamaa.arr Go.Proofs.Ytafpbnjfmieamaa.inv Go.Proofs.Ytafpbnjfmieamaa.permOf
set_option linter.unusedVariables false
set_option maxRecDepth 100000

def sg (a b i : Nat) : Nat := if i = a then b else if i = b then a else i
theorem sg_lt {n a b i : Nat} (ha : a < n) (hb : b < n) (hi : i < n) : sg a b i < n := by unfold sg; split <;> (try split) <;> omega
theorem sg_inj {a b i j : Nat} (h : sg a b i = sg a b j) : i = j := by
  unfold sg at h; split at h <;> split at h <;> (try split at h) <;> (try split at h) <;> omega
def swp (q : List Int) (a b : Nat) : List Int := (q.set a (q.getD b 0)).set b (q.getD a 0)
theorem swp_len (q : List Int) (a b : Nat) : (swp q a b).length = q.length := by simp [swp]
theorem swp_at {q : List Int} {a b i : Nat} (ha : a < q.length) (hb : b < q.length) : (swp q a b).getD i 0 = q.getD (sg a b i) 0 := by
  unfold swp sg
  rw [getD_set, getD_set]
  by_cases e2 : b = i
  · rw [if_pos ⟨e2, by simp; omega⟩]
    by_cases e1 : i = a
    · rw [if_pos e1]; congr 1; omega
    · rw [if_neg e1, if_pos e2.symm]
  · rw [if_neg (fun h => e2 h.1)]
    by_cases e1 : a = i
    · rw [if_pos ⟨e1, by omega⟩, if_pos e1.symm]
    · rw [if_neg (fun h => e1 h.1), if_neg (fun h => e1 h.symm), if_neg (fun h => e2 h.symm)]
theorem swp_ok {q : List Int} {a b : Nat} (h : Ok q) (ha : a < q.length) (hb : b < q.length) : Ok (swp q a b) := by
  refine ⟨by rw [swp_len]; exact h.len, fun i hi => ?_, fun i hi => ?_, fun i j hi hj e => ?_⟩
  · rw [swp_len] at hi; rw [swp_at ha hb]; exact h.lo _ (sg_lt ha hb hi)
  · rw [swp_len] at hi ⊢; rw [swp_at ha hb]; exact h.hi _ (sg_lt ha hb hi)
  · rw [swp_len] at hi hj
    rw [swp_at ha hb, swp_at ha hb] at e
    exact sg_inj (h.inj _ _ (sg_lt ha hb hi) (sg_lt ha hb hj) e)
theorem Ok.bij' {n : Nat} {q : List Int} (h : Ok q) (l : q.length = n) : Bij n q := by subst l; exact h.bij
theorem swp_xch {n : Nat} {q : List Int} {a b : Nat} (h : Ok q) (l : q.length = n) (ha : a < n) (hb : b < n) (ne : a ≠ b) : Xch n q (swp q a b) a b := by
  refine ⟨h.bij' l, (swp_ok h (by omega) (by omega)).bij' (by rw [swp_len]; exact l), ha, hb, ne, ?_, ?_, fun i hi h1 h2 => ?_⟩
  · rw [swp_at (by omega) (by omega)]; simp [sg]
  · rw [swp_at (by omega) (by omega)]; unfold sg; rw [if_neg (fun e => ne e.symm), if_pos rfl]
  · rw [swp_at (by omega) (by omega)]; unfold sg; rw [if_neg h1, if_neg h2]
theorem thn_xch {n : Nat} {q p : List Int} {a b : Nat} (h : Ok q) (hp : Ok p) (l : q.length = n) (lp : p.length = n) (ha : a < n) (hb : b < n) (ne : a ≠ b) : Xch n (thn q p) (thn (swp q a b) p) a b := by
  have x := swp_xch h l ha hb ne
  have ok' := swp_ok (a := a) (b := b) h (by omega) (by omega)
  have l' : (swp q a b).length = n := by rw [swp_len]; exact l
  have at1 : ∀ i, i < n → (thn q p).getD i 0 = p.getD (q.getD i 0).toNat 0 := fun i hi => thn_at (by omega)
  have at2 : ∀ i, i < n → (thn (swp q a b) p).getD i 0 = p.getD ((swp q a b).getD i 0).toNat 0 := fun i hi => thn_at (by omega)
  refine ⟨(thn_ok h hp (by omega)).bij' (by rw [thn_len]; exact l), (thn_ok ok' hp (by omega)).bij' (by rw [thn_len]; exact l'), ha, hb, ne, ?_, ?_, fun i hi h1 h2 => ?_⟩
  · rw [at2 a ha, at1 b hb, x.ea]
  · rw [at2 b hb, at1 a ha, x.eb]
  · rw [at2 i hi, at1 i hi, x.eo i hi h1 h2]
theorem rng_ok {n : Nat} (h : n ≤ 24) : Ok (rng n) := by
  refine ⟨by rw [rng_len]; exact h, fun i hi => ?_, fun i hi => ?_, fun i j hi hj e => ?_⟩
  · rw [rng_len] at hi; rw [rng_at hi]; omega
  · rw [rng_len] at hi ⊢; rw [rng_at hi]; omega
  · rw [rng_len] at hi hj; rw [rng_at hi, rng_at hj] at e; omega
theorem cnum_id {n : Nat} (h : n ≤ 24) : cnum (rng n) n = n := by
  have hb := (rng_ok h).bij' (rng_len n)
  unfold cnum
  rw [cso_count hb n (Nat.le_refl _)]
  have : (rng n).countP (mn (rng n) n) = (rng n).length := by
    rw [List.countP_eq_length]
    intro x hx
    rw [mem_rng] at hx
    unfold mn
    rw [decide_eq_true_eq]
    intro y hy
    obtain ⟨m, e⟩ := (mem_cyc hb hx.1 hx.2).1 hy
    have : ∀ m, it (rng n) x m = x := by
      intro m
      induction m with
      | zero => rfl
      | succ m ih => show (rng n).getD (it (rng n) x m).toNat 0 = x; rw [ih, rng_at (by omega)]; omega
    rw [this m] at e
    omega
  rw [this, rng_len]
theorem eq_rng {n : Nat} {q : List Int} (l : q.length = n) (h : ∀ i, i < n → q.getD i 0 = (i : Int)) : q = rng n :=
  list_eq n l (rng_len n) fun i hi => by rw [h i hi, rng_at hi]
theorem thn_rng {n : Nat} {p : List Int} (l : p.length = n) : thn (rng n) p = p :=
  list_eq n (by rw [thn_len, rng_len]) l fun i hi => by rw [thn_at (by rw [rng_len]; exact hi), rng_at hi, Int.toNat_natCast]
/-- The parity of a product. -/
theorem cnum_mul {n : Nat} {p : List Int} (hp : Ok p) (lp : p.length = n) (h24 : n ≤ 24) : ∀ (d : Nat) (q : List Int), d ≤ n → Ok q → q.length = n → (∀ i, i < n - d → q.getD i 0 = (i : Int)) → (cnum (thn q p) n + cnum q n + cnum p n + n) % 2 = 0 := by
  intro d
  induction d with
  | zero =>
    intro q _ hq lq hf
    have e := eq_rng lq (fun i hi => hf i (by omega))
    rw [e, thn_rng lp, cnum_id h24]
    omega
  | succ d ih =>
    intro q hd hq lq hf
    by_cases ha : q.getD (n - (d + 1)) 0 = ((n - (d + 1) : Nat) : Int)
    · refine ih q (by omega) hq lq fun i hi => ?_
      by_cases e : i = n - (d + 1)
      · rw [e]; exact ha
      · exact hf i (by omega)
    · obtain ⟨b, hb, eb⟩ := hq.onto (y := n - (d + 1)) (by omega)
      have hne : n - (d + 1) ≠ b := fun e => ha (by rw [← e] at eb; exact eb)
      have hlt : n - (d + 1) < b := by
        rcases Nat.lt_or_ge b (n - (d + 1)) with q1 | q1
        · have := hf b q1; omega
        · omega
      have an : n - (d + 1) < n := by omega
      have x1 := (swp_xch hq lq an (by omega) hne).parity
      have x2 := (thn_xch hq hp lq lp an (by omega) hne).parity
      have r := ih (swp q (n - (d + 1)) b) (by omega) (swp_ok hq (by omega) (by omega)) (by rw [swp_len]; exact lq) (fun i hi => by
        rw [swp_at (by omega) (by omega)]
        unfold sg
        by_cases e : i = n - (d + 1)
        · rw [if_pos e, eb, e]
        · rw [if_neg e, if_neg (by omega)]; exact hf i (by omega))
      omega
theorem cnum_then {n : Nat} {q p : List Int} (hq : Ok q) (hp : Ok p) (lq : q.length = n) (lp : p.length = n) : (cnum (thn q p) n + cnum q n + cnum p n + n) % 2 = 0 :=
  cnum_mul hp lp (by have := hp.len; omega) n q (Nat.le_refl _) hq lq (fun i hi => by omega)
theorem thn_inv {n : Nat} {q : List Int} (hq : Ok q) (lq : q.length = n) : thn q (Inv q) = rng n :=
  list_eq n (by rw [thn_len]; exact lq) (rng_len n) fun i hi => by rw [thn_at (by omega), Inv_at hq (by omega), rng_at hi]
theorem cnum_inv {n : Nat} {q : List Int} (hq : Ok q) (lq : q.length = n) : (cnum (Inv q) n + cnum q n) % 2 = 0 := by
  have h24 : n ≤ 24 := by have := hq.len; omega
  have := cnum_then hq (Inv_ok hq) lq (by rw [Inv_len]; exact lq)
  rw [thn_inv hq lq, cnum_id h24] at this
  omega
theorem cnum_le {n : Nat} {q : List Int} (hq : Ok q) (lq : q.length = n) : cnum q n ≤ n := (cso_cs (hq.bij' lq) n (Nat.le_refl _)).len
/-- A commutator. -/
def comm (R U : List Int) : List Int := thn (thn R U) (thn (Inv R) (Inv U))
theorem comm_ok {n : Nat} {R U : List Int} (r : Ok R) (u : Ok U) (lr : R.length = n) (lu : U.length = n) : Ok (comm R U) ∧ (comm R U).length = n :=
  ⟨thn_ok (thn_ok r u (by omega)) (thn_ok (Inv_ok r) (Inv_ok u) (by rw [Inv_len, Inv_len]; omega)) (by rw [thn_len, thn_len, Inv_len]), by unfold comm; rw [thn_len, thn_len]; exact lr⟩
theorem comm_even {n : Nat} {R U : List Int} (r : Ok R) (u : Ok U) (lr : R.length = n) (lu : U.length = n) : (n - cnum (comm R U) n) % 2 = 0 := by
  have a := cnum_then r u lr lu
  have b := cnum_then (Inv_ok r) (Inv_ok u) (n := n) (by rw [Inv_len]; exact lr) (by rw [Inv_len]; exact lu)
  have c := cnum_then (n := n) (thn_ok r u (by omega)) (thn_ok (Inv_ok r) (Inv_ok u) (by rw [Inv_len, Inv_len]; omega)) (by rw [thn_len]; exact lr) (by rw [thn_len, Inv_len]; exact lr)
  have d := cnum_inv r lr; have e := cnum_inv u lu
  have ok := comm_ok r u lr lu
  have f := cnum_le ok.1 ok.2
  unfold comm at f ⊢
  omega
end Go.Proofs.Ytafpbnjfmieamaa.pm

/-
  Corners, angles, stratum and genus: plain mathematics.
-/
namespace Go.Proofs.Ytafpbnjfmieamaa.pm
open Go.Proofs.Ytafpbnjfmieamaa.arr Go.Proofs.Ytafpbnjfmieamaa.inv Go.Proofs.Ytafpbnjfmieamaa.permOf
set_option linter.unusedVariables false
set_option maxRecDepth 100000

theorem foldmin (l : List Int) : ∀ a : Int, l.foldl min a ≤ a ∧ (∀ y ∈ l, l.foldl min a ≤ y) ∧ (l.foldl min a = a ∨ l.foldl min a ∈ l) := by
  induction l with
  | nil => intro a; exact ⟨Int.le_refl _, by simp, .inl rfl⟩
  | cons x l ih =>
    intro a
    obtain ⟨h1, h2, h3⟩ := ih (min a x)
    rw [List.foldl_cons]
    refine ⟨by omega, fun y hy => ?_, ?_⟩
    · rcases List.mem_cons.1 hy with rfl | hy
      · omega
      · exact h2 y hy
    · rcases h3 with h3 | h3
      · rw [h3]
        rcases Int.le_total a x with q | q
        · exact .inl (by omega)
        · exact .inr (List.mem_cons.2 (.inl (by omega)))
      · exact .inr (List.mem_cons.2 (.inr h3))
theorem minOf_iff {l : List Int} {x : Int} (h : x ∈ l) : Lib.minOf l = x ↔ ∀ y ∈ l, x ≤ y := by
  cases l with
  | nil => simp at h
  | cons a l =>
    obtain ⟨h1, h2, h3⟩ := foldmin l a
    have e : Lib.minOf (a :: l) = l.foldl min a := by simp [Lib.minOf]
    rw [e]
    constructor
    · rintro rfl y hy
      rcases List.mem_cons.1 hy with rfl | hy
      · exact h1
      · exact h2 y hy
    · intro q
      have a1 : l.foldl min a ≤ x := by
        rcases List.mem_cons.1 h with rfl | h
        · exact h1
        · exact h2 x h
      have a2 : x ≤ l.foldl min a := by
        rcases h3 with h3 | h3
        · rw [h3]; exact q a (List.mem_cons.2 (.inl rfl))
        · exact q _ (List.mem_cons.2 (.inr h3))
      omega
theorem mn_iff {n : Nat} {ps : List Int} (hb : Bij n ps) {f : Int} (f0 : 0 ≤ f) (f1 : f < n) : Lib.minOf (cyc ps n f) = f ↔ mn ps n f = true := by
  rw [minOf_iff (cyc_self hb f0 f1)]; simp [mn]
theorem in_cso_iff {n k : Nat} {ps : List Int} (hb : Bij n ps) (hk : k < n) : (k : Int) ∈ (cso ps n k).flatten ↔ mn ps n (k : Int) = false := by
  rw [mem_cso hb k (by omega)]
  unfold mn
  rw [decide_eq_false_iff_not]
  constructor
  · rintro ⟨j, hj, q⟩ h
    have := h _ (cyc_symm hb (by omega) (by omega) q)
    omega
  · intro h
    have : ∃ y, y ∈ cyc ps n (k : Int) ∧ y < (k : Int) := by
      rcases Classical.em (∃ y, y ∈ cyc ps n (k : Int) ∧ y < (k : Int)) with q | q
      · exact q
      · exact absurd (fun y hy => Int.not_lt.1 (fun hlt => q ⟨y, hy, hlt⟩)) h
    obtain ⟨y, hy, hlt⟩ := this
    have hw := cyc_way (f := (k : Int)) hb (by omega) (by omega)
    have y0 := hw.inn.lo y hy
    exact ⟨y.toNat, by omega, by rw [Int.toNat_of_nonneg y0]; exact cyc_symm hb (by omega) (by omega) hy⟩
/-- The next cycle: that of k, if k is the least of it. -/
theorem cso_yes {n k : Nat} {ps : List Int} (hb : Bij n ps) (hk : k < n) (h : Lib.minOf (cyc ps n (k : Int)) = (k : Int)) : cso ps n (k + 1) = cso ps n k ++ [cyc ps n (k : Int)] := by
  have q := (mn_iff hb (by omega) (by omega)).1 h
  rw [cso, if_neg (fun e => by rw [(in_cso_iff hb hk).1 e] at q; cases q)]
theorem cso_no {n k : Nat} {ps : List Int} (hb : Bij n ps) (hk : k < n) (h : Lib.minOf (cyc ps n (k : Int)) ≠ (k : Int)) : cso ps n (k + 1) = cso ps n k := by
  rw [cso, if_pos]
  rw [in_cso_iff hb hk]
  cases q : mn ps n (k : Int) with
  | false => rfl
  | true => exact absurd ((mn_iff hb (by omega) (by omega)).2 q) h

theorem ok_ext {xs : List Int} (h : Ok xs) : Ok (ext xs) := by
  have hl := h.len
  refine ⟨by rw [ext_len]; omega, fun i hi => h.sq.lo i (by rwa [ext_len] at hi), fun i hi => by rw [ext_len] at *; exact h.sq.hi i hi, fun i j hi hj e => ?_⟩
  rw [ext_len] at hi hj
  rw [ext_at hi, ext_at hj] at e
  split at e <;> split at e
  · exact h.inj i j (by assumption) (by assumption) e
  · have := h.hi i (by assumption); omega
  · have := h.hi j (by assumption); omega
  · omega
theorem thn_ext {xs ys : List Int} (h : Ok xs) (h' : Ok ys) (e : xs.length = ys.length) : thenL (ext xs) (ext ys) = ext (thn xs ys) := by
  have hl := h.len
  refine list_eq 24 (by unfold thenL; exact tab_len _) (ext_len _) fun i hi => ?_
  rw [thenL_at _ _ hi, ext_at hi, ext_at hi, thn_len]
  by_cases q : i < xs.length
  · have a := h.lo i q; have b := h.hi i q
    rw [if_pos q, if_pos q, thn_at q, ext_at (by omega), if_pos (by omega)]
  · rw [if_neg q, if_neg q, Int.toNat_natCast, ext_at hi, if_neg (by omega)]
theorem inv_ext {xs : List Int} (h : Ok xs) : invTo 24 (ext xs) 24 = ext (Inv xs) := by
  have hl := h.len
  refine list_eq 24 (invTo_len _ _ _) (ext_len _) fun i hi => ?_
  rw [ext_at hi, Inv_len]
  by_cases q : i < xs.length
  · rw [if_pos q]
    obtain ⟨k, hk, e1, e2⟩ := at_Inv h q
    have a := inv_at (ok_ext h) (k := k) (by rw [ext_len]; omega)
    rw [ext_at (by omega), if_pos hk, e2, ext_len, Int.toNat_natCast] at a
    rw [a, e1]
  · rw [if_neg q]
    have a := inv_at (ok_ext h) (k := i) (by rw [ext_len]; omega)
    rw [ext_at hi, if_neg q, ext_len, Int.toNat_natCast] at a
    exact a
/-- The round as the program reckons it, among 24. -/
def ar24 (p q : List Int) : List Int := thenL (thenL (thenL p q) (invTo 24 p 24)) (invTo 24 q 24)
theorem ar24_len (p q : List Int) : (ar24 p q).length = 24 := by unfold ar24 thenL; exact tab_len _
section
variable {n : Nat} {R U : List Int} (s : Sf n R U)
include s
theorem Sf.small : n ≤ 24 := by have := s.r.len; have := s.lr; omega
theorem Sf.comm : Ok (comm R U) ∧ (comm R U).length = n := comm_ok s.r s.u s.lr s.lu
theorem Sf.commB : Bij n (pm.comm R U) := s.comm.1.bij' s.comm.2
theorem ar24_ext : ar24 (ext R) (ext U) = ext (comm R U) := by
  have l1 : R.length = U.length := by rw [s.lr, s.lu]
  have o1 := thn_ok s.r s.u l1
  have l2 : (thn R U).length = (Inv R).length := by rw [thn_len, Inv_len]
  have o2 := thn_ok o1 (Inv_ok s.r) l2
  have l3 : (thn (thn R U) (Inv R)).length = (Inv U).length := by rw [thn_len, thn_len, Inv_len, l1]
  unfold ar24
  rw [thn_ext s.r s.u l1, inv_ext s.r, inv_ext s.u, thn_ext o1 (Inv_ok s.r) l2, thn_ext o2 (Inv_ok s.u) l3, thn_assoc o1 l2]
  rfl
end
theorem take_ext (xs : List Int) (h : xs.length ≤ 24) : (ext xs).take xs.length = xs := by
  refine list_eq xs.length (by simp [ext_len]; omega) rfl fun i hi => ?_
  have e : (ext xs).getD i 0 = xs.getD i 0 := by rw [ext_at (by omega), if_pos hi]
  rw [← e]
  simp [List.getD, hi]

/-- The round, the corners, the angles, the stratum, the genus, whether a corner is regular. -/
def arF (r u : List Int) : List Int := if transB r u then comm r u else []
def corF (r u : List Int) : List (List Int) := if transB r u then cso (comm r u) r.length r.length else []
def angF (r u : List Int) : List Int := sortD ((corF r u).map fun xs => (xs.length : Int))
def strL (l : List Int) : List Int := (l.filter fun a => decide (1 < a)).map fun a => a - 1
def strF (r u : List Int) : List Int := strL (angF r u)
def genF (r u : List Int) : Int := if transB r u then 1 + ((r.length : Int) - (corF r u).length) / 2 else -1
def regF (r u : List Int) (a : Int) : Bool := transB r u && (decide (0 ≤ a) && (decide (a < r.length) && decide ((comm r u).getD a.toNat 0 = a)))
theorem arF_yes {r u : List Int} (h : transB r u = true) : arF r u = comm r u := by simp [arF, h]
theorem arF_no {r u : List Int} (h : transB r u = false) : arF r u = [] := by simp [arF, h]
theorem corF_yes {r u : List Int} (h : transB r u = true) : corF r u = cso (comm r u) r.length r.length := by simp [corF, h]
theorem corF_no {r u : List Int} (h : transB r u = false) : corF r u = [] := by simp [corF, h]
theorem corF_cyc {r u : List Int} (h : transB r u = true) : corF r u = cycF (comm r u) := by
  have s := transB_iff.1 h
  rw [corF_yes h, cycF, s.comm.1.b, if_pos rfl, s.comm.2]
theorem arF_len (r u : List Int) : (arF r u).length ≤ 1048576 := by
  unfold arF; split
  · rename_i h
    have s := transB_iff.1 h
    have := s.comm.2; have := s.small; omega
  · simp
theorem corF_small (r u : List Int) : (corF r u).length ≤ 24 ∧ ((corF r u).map List.length).sum ≤ 24 := by
  cases h : transB r u with
  | false => rw [corF_no h]; simp
  | true =>
    have s := transB_iff.1 h
    have hc := cso_cs s.commB r.length (Nat.le_refl _)
    have h1 := cso_len s.commB
    have := s.small; have := hc.len
    rw [corF_yes h]
    omega
theorem angF_len (r u : List Int) : (angF r u).length ≤ 1048576 := by
  have := (corF_small r u).1
  simp [angF, sortD_len]; omega
theorem strL_len (l : List Int) : (strL l).length ≤ l.length := by
  unfold strL; rw [List.length_map]; exact List.length_filter_le _ _
theorem strF_len (r u : List Int) : (strF r u).length ≤ 1048576 := Nat.le_trans (strL_len _) (angF_len r u)
theorem strL_snoc (l : List Int) (a : Int) : strL (l ++ [a]) = if 1 < a then strL l ++ [a - 1] else strL l := by
  unfold strL
  rw [List.filter_append, List.map_append]
  by_cases h : 1 < a <;> simp [h]
end Go.Proofs.Ytafpbnjfmieamaa.pm

/-
  The surfaces of a stratum, the strata that occur, the tori. Plain mathematics.
-/
namespace Go.Proofs.Ytafpbnjfmieamaa.lst
open Go.Proofs.Ytafpbnjfmieamaa.pm Go.Proofs.Ytafpbnjfmieamaa.orb
set_option linter.unusedVariables false
set_option maxRecDepth 100000

/-- The surfaces of a stratum. -/
def siL (n : Nat) (st : List Int) : List Sur := (swL n).filter fun x => decide (strF x.1 x.2 = st)
def siF (n : Int) (st : List Int) : List Sur := (swF n).filter fun x => decide (strF x.1 x.2 = st)
/-- Lists in ascending lexicographic order: a proper beginning stands first. -/
def lessX : List Int → List Int → Bool
  | [], b => !b.isEmpty
  | _ :: _, [] => false
  | a :: s, b :: t => if a = b then lessX s t else decide (a < b)
/-- A stratum put at its place, if it is not there yet. -/
def insT : List (List Int) → List Int → List (List Int)
  | [], t => [t]
  | x :: l, t => if lessX x t then x :: insT l t else if x = t then x :: l else t :: x :: l
def stL (L : List Sur) : List (List Int) := L.foldl (fun a x => insT a (strF x.1 x.2)) []
def stF (n : Int) : List (List Int) := stL (swF n)
def toriN : Nat → Nat
  | 1 => 1
  | 2 => 3
  | 3 => 4
  | 4 => 7
  | _ => 0
def ctF (n : Int) : Int := if 1 ≤ n ∧ n ≤ 4 then ((siL n.toNat []).length : Nat) else -1
set_option maxRecDepth 100000 in
theorem st_kernel : ∀ n : Fin 4, (siL (n.val + 1) []).length = toriN (n.val + 1) ∧ ((stL (swL (n.val + 1))).map fun t => (siL (n.val + 1) t).length).sum = numS (n.val + 1) ∧ (stL (swL (n.val + 1))).length ≤ 26 := by decide +kernel
end Go.Proofs.Ytafpbnjfmieamaa.lst
