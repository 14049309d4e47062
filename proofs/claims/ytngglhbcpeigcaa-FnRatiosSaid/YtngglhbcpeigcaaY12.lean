import Derived.Test.YtngglhbcpeigcaaY11
import Derived.Test.YtngglhbcpeigcaaY09
import Derived.Test.YtngglhbcpeigcaaY01
import Derived.Test.YtngglhbcpeigcaaY06
import Derived.Test.YtngglhbcpeigcaaY05
/-
  The rows of a surface and the rows above them: mathematics alone.
-/
namespace Go.Proofs.Ytngglhbcpeigcaa.cy
open Go.Proofs.Ytngglhbcpeigcaa.pm Go.Proofs.Ytngglhbcpeigcaa.arr Go.Proofs.Ytngglhbcpeigcaa.inv Go.Proofs.Ytngglhbcpeigcaa.permOf
set_option linter.unusedVariables false
set_option maxRecDepth 100000

structure Rws (n : Nat) (ps : List Int) (rr : List (List Int)) : Prop where
  bij : Bij n ps
  inn : In n rr.flatten
  all : ∀ y : Nat, y < n → (y : Int) ∈ rr.flatten
  row : ∀ (i : Nat) (xs : List Int), rr[i]? = some xs → ∃ f : Nat, f < n ∧ xs = cyc ps n (f : Int)
  len : rr.length ≤ n
theorem Rws.of {n : Nat} {ps : List Int} (hb : Bij n ps) : Rws n ps (cso ps n n) :=
  have h := cso_cs hb n (Nat.le_refl _)
  ⟨hb, h.inn, h.all, fun i xs hx => cso_cyc n (Nat.le_refl _) xs (List.mem_of_getElem? hx), h.len⟩
theorem flat_same : ∀ {rr : List (List Int)} {i j : Nat} {xs ys : List Int} {y : Int}, rr.flatten.Nodup → rr[i]? = some xs → rr[j]? = some ys → y ∈ xs → y ∈ ys → i = j
  | [], i, j, xs, ys, y, h, hi, hj, h1, h2 => by simp at hi
  | z :: t, 0, 0, xs, ys, y, h, hi, hj, h1, h2 => rfl
  | z :: t, 0, j + 1, xs, ys, y, h, hi, hj, h1, h2 => by
    rw [List.flatten_cons, List.nodup_append] at h
    obtain rfl : z = xs := by simpa using hi
    exact absurd rfl (h.2.2 y h1 y (List.mem_flatten.2 ⟨ys, List.mem_of_getElem? (by simpa using hj), h2⟩))
  | z :: t, i + 1, 0, xs, ys, y, h, hi, hj, h1, h2 => by
    rw [List.flatten_cons, List.nodup_append] at h
    obtain rfl : z = ys := by simpa using hj
    exact absurd rfl (h.2.2 y h2 y (List.mem_flatten.2 ⟨xs, List.mem_of_getElem? (by simpa using hi), h1⟩))
  | z :: t, i + 1, j + 1, xs, ys, y, h, hi, hj, h1, h2 => by
    rw [List.flatten_cons, List.nodup_append] at h
    rw [flat_same (i := i) (j := j) h.2.1 (by simpa using hi) (by simpa using hj) h1 h2]
section
variable {n : Nat} {ps : List Int} {rr : List (List Int)} (h : Rws n ps rr)
include h
theorem Rws.same {i j : Nat} {xs ys : List Int} {y : Int} (hi : rr[i]? = some xs) (hj : rr[j]? = some ys) (h1 : y ∈ xs) (h2 : y ∈ ys) : i = j := flat_same h.inn.nd hi hj h1 h2
theorem Rws.has {y : Int} (y0 : 0 ≤ y) (y1 : y < n) : ∃ (i : Nat) (xs : List Int), rr[i]? = some xs ∧ y ∈ xs := by
  have := h.all y.toNat (by omega)
  rw [Int.toNat_of_nonneg y0] at this
  obtain ⟨xs, h1, h2⟩ := List.mem_flatten.1 this
  obtain ⟨i, hi, e⟩ := List.getElem_of_mem h1
  exact ⟨i, xs, by rw [List.getElem?_eq_getElem hi, e], h2⟩
theorem Rws.rng {i : Nat} {xs : List Int} {y : Int} (hx : rr[i]? = some xs) (hy : y ∈ xs) : 0 ≤ y ∧ y < n := by
  have : y ∈ rr.flatten := List.mem_flatten.2 ⟨xs, List.mem_of_getElem? hx, hy⟩
  exact ⟨h.inn.lo y this, h.inn.hi y this⟩
theorem Rws.way {i : Nat} {xs : List Int} (hx : rr[i]? = some xs) : ∃ f : Nat, f < n ∧ xs = cyc ps n (f : Int) ∧ pm.Way n ps f f xs := by
  obtain ⟨f, h1, h2⟩ := h.row i xs hx
  exact ⟨f, h1, h2, by rw [h2]; exact cyc_way h.bij (by omega) (by omega)⟩
theorem Rws.head {i : Nat} {xs : List Int} (hx : rr[i]? = some xs) : 0 < xs.length ∧ xs.getD 0 0 ∈ xs := by
  obtain ⟨f, h1, h2, w⟩ := h.way hx
  exact ⟨w.pos, getD_mem w.pos⟩
theorem Rws.reach {i : Nat} {xs : List Int} {y z : Int} (hx : rr[i]? = some xs) (hy : y ∈ xs) (hz : z ∈ xs) : ∃ m, it ps y m = z := by
  obtain ⟨f, h1, h2, w⟩ := h.way hx
  obtain ⟨a, a1, a2⟩ := mem_getD hy
  obtain ⟨b, b1, b2⟩ := mem_getD hz
  rw [way_it w a a1] at a2
  rw [way_it w b b1] at b2
  refine ⟨xs.length - a + b, ?_⟩
  rw [← a2, it_add, show a + (xs.length - a + b) = xs.length + b by omega, ← it_add, ← way_last w, b2]
theorem Rws.next {i : Nat} {xs : List Int} {y : Int} (hx : rr[i]? = some xs) (hy : y ∈ xs) : ps.getD y.toNat 0 ∈ xs := by
  obtain ⟨f, h1, h2, w⟩ := h.way hx
  obtain ⟨a, a1, a2⟩ := mem_getD hy
  by_cases q : a + 1 < xs.length
  · have := w.step a q
    rw [a2] at this
    rw [← this]
    exact getD_mem q
  · have e : a = xs.length - 1 := by omega
    have := w.last
    rw [← e, a2] at this
    rw [← this, ← w.head]
    exact getD_mem w.pos
theorem Rws.it_in {i : Nat} {xs : List Int} {y : Int} (hx : rr[i]? = some xs) (hy : y ∈ xs) : ∀ m, it ps y m ∈ xs
  | 0 => hy
  | m + 1 => h.next hx (Rws.it_in hx hy m)
end

def rix : List (List Int) → Int → Int
  | [], _ => -1
  | xs :: t, y => if y ∈ xs then 0 else if rix t y < 0 then -1 else rix t y + 1
theorem rix_low : ∀ (rr : List (List Int)) (y : Int), -1 ≤ rix rr y ∧ rix rr y < rr.length
  | [], y => by simp [rix]
  | xs :: t, y => by
    have := rix_low t y
    rw [rix]
    simp only [List.length_cons]
    split
    · omega
    · split <;> omega
theorem rix_at : ∀ {rr : List (List Int)} {y : Int} {k : Nat} {xs : List Int}, rr[k]? = some xs → y ∈ xs → (∀ j : Nat, j < k → ∀ zs : List Int, rr[j]? = some zs → ¬ y ∈ zs) → rix rr y = k
  | [], y, k, xs, h, _, _ => by simp at h
  | z :: t, y, 0, xs, h, hy, _ => by
    obtain rfl : z = xs := by simpa using h
    rw [rix, if_pos hy]; rfl
  | z :: t, y, k + 1, xs, h, hy, hn => by
    have := rix_at (rr := t) (y := y) (k := k) (by simpa using h) hy (fun j hj zs hz => hn (j + 1) (by omega) zs (by simpa using hz))
    rw [rix, if_neg (hn 0 (by omega) z rfl), this, if_neg (by omega)]
    omega
theorem rix_none : ∀ {rr : List (List Int)} {y : Int}, (∀ (j : Nat) (zs : List Int), rr[j]? = some zs → ¬ y ∈ zs) → rix rr y = -1
  | [], y, _ => rfl
  | z :: t, y, hn => by
    have := rix_none (rr := t) (y := y) (fun j zs hz => hn (j + 1) zs (by simpa using hz))
    rw [rix, if_neg (hn 0 z rfl), this, if_pos (by omega)]
theorem rix_mem : ∀ {rr : List (List Int)} {y : Int} {k : Nat}, rix rr y = k → ∃ xs, rr[k]? = some xs ∧ y ∈ xs
  | [], y, k, h => by simp [rix] at h
  | z :: t, y, k, h => by
    rw [rix] at h
    split at h
    · rename_i q
      have : k = 0 := by omega
      subst this
      exact ⟨z, rfl, q⟩
    · split at h
      · omega
      · obtain ⟨xs, h1, h2⟩ := rix_mem (rr := t) (y := y) (k := k - 1) (by omega)
        obtain ⟨m, rfl⟩ : ∃ m, k = m + 1 := ⟨k - 1, by omega⟩
        exact ⟨xs, by simpa using h1, h2⟩
theorem Rws.rix {n : Nat} {ps : List Int} {rr : List (List Int)} (h : Rws n ps rr) {i : Nat} {xs : List Int} {y : Int} (hx : rr[i]? = some xs) (hy : y ∈ xs) : rix rr y = i :=
  rix_at hx hy fun j hj zs hz q => by have := h.same hx hz hy q; omega

def regB (c xs : List Int) : Bool := xs.all fun x => decide (c.getD x.toNat 0 = x)
def abF (c u : List Int) (rr : List (List Int)) : List Int := rr.map fun xs => if regB c xs then rix rr (u.getD (xs.getD 0 0).toNat 0) else -1
theorem abF_len (c u : List Int) (rr : List (List Int)) : (abF c u rr).length = rr.length := by simp [abF]
theorem abF_at {c u : List Int} {rr : List (List Int)} {i : Nat} {xs : List Int} (h : rr[i]? = some xs) : at_ (abF c u rr) i = if regB c xs then rix rr (u.getD (xs.getD 0 0).toNat 0) else -1 := by
  simp [at_, abF, h]
theorem comm_fix {n : Nat} {r u : List Int} (s : Sf n r u) {x : Int} (x0 : 0 ≤ x) (x1 : x < n) : (comm r u).getD x.toNat 0 = x ↔ u.getD (r.getD x.toNat 0).toNat 0 = r.getD (u.getD x.toNat 0).toNat 0 := by
  have hr := s.br.maps x.toNat (by omega)
  have hu := s.bu.maps x.toNat (by omega)
  have hur := s.bu.maps (r.getD x.toNat 0).toNat (by omega)
  have lI : (Inv r).length = n := by rw [Inv_len, s.lr]
  have e : (comm r u).getD x.toNat 0 = (Inv u).getD ((Inv r).getD (u.getD (r.getD x.toNat 0).toNat 0).toNat 0).toNat 0 := by
    unfold comm
    have e1 : (thn r u).getD x.toNat 0 = u.getD (r.getD x.toNat 0).toNat 0 := thn_at (by rw [s.lr]; omega)
    rw [thn_at (by rw [thn_len, s.lr]; omega), e1, thn_at (by omega)]
  rw [e]
  constructor
  · intro q
    have iR := (Inv_ok s.r).maps (u.getD (r.getD x.toNat 0).toNat 0).toNat (by omega)
    rw [lI] at iR
    have := Inv_right s.u (x := (Inv r).getD (u.getD (r.getD x.toNat 0).toNat 0).toNat 0) iR.1 (by rw [s.lu]; exact iR.2)
    rw [q] at this
    rw [this]
    exact (Inv_right s.r hur.1 (by rw [s.lr]; exact hur.2)).symm
  · intro q
    rw [q, Inv_left s.r hu.1 (by rw [s.lr]; exact hu.2), Inv_left s.u x0 (by rw [s.lu]; exact x1)]
theorem ab_row {r u : List Int} {rr : List (List Int)} {i x : Nat} (hi : i < rr.length) (hx : at_ (abF (comm r u) u rr) i = x) : ∃ xs ys, rr[i]? = some xs ∧ rr[x]? = some ys ∧ regB (comm r u) xs = true ∧ u.getD (xs.getD 0 0).toNat 0 ∈ ys := by
  have e := List.getElem?_eq_getElem hi
  rw [abF_at e] at hx
  split at hx
  · rename_i q
    obtain ⟨ys, h1, h2⟩ := rix_mem hx
    exact ⟨_, ys, e, h1, q, h2⟩
  · omega
section
variable {n : Nat} {r u : List Int} (s : Sf n r u) {rr : List (List Int)} (h : Rws n r rr)
include s h
theorem up_it {i : Nat} {xs : List Int} (hx : rr[i]? = some xs) (hreg : regB (comm r u) xs = true) {y : Int} (hy : y ∈ xs) : ∀ m, u.getD (it r y m).toNat 0 = it r (u.getD y.toNat 0) m
  | 0 => rfl
  | m + 1 => by
    have hm := h.it_in hx hy m
    obtain ⟨a, b⟩ := h.rng hx hm
    have q : (comm r u).getD (it r y m).toNat 0 = it r y m := by
      have := List.all_eq_true.1 hreg _ hm
      simpa using this
    show u.getD (r.getD (it r y m).toNat 0).toNat 0 = r.getD (it r (u.getD y.toNat 0) m).toNat 0
    rw [← up_it hx hreg hy m]
    exact (comm_fix s a b).1 q
theorem ab_inj : Inj rr.length (abF (comm r u) u rr) := by
  refine ⟨abF_len _ _ _, fun i hi => ?_, fun i hi => ?_, fun i j x hi hj ei ej => ?_⟩
  · rw [abF_at (List.getElem?_eq_getElem hi)]
    split
    · exact (rix_low _ _).2
    · omega
  · rw [abF_at (List.getElem?_eq_getElem hi)]
    split
    · exact (rix_low _ _).1
    · omega
  · obtain ⟨xs, zs, x1, x2, x3, x4⟩ := ab_row hi ei
    obtain ⟨ys, zs', y1, y2, y3, y4⟩ := ab_row hj ej
    have e : zs' = zs := by rw [x2] at y2; exact (Option.some.inj y2).symm
    subst e
    obtain ⟨m, hm⟩ := h.reach x2 x4 y4
    rw [← up_it s h x1 x3 (h.head x1).2] at hm
    have a1 := h.it_in x1 (h.head x1).2 m
    have a2 := h.rng x1 a1
    have b1 := (h.head y1).2
    have b2 := h.rng y1 b1
    have := s.bu.inj _ _ (by omega) (by omega) hm
    have e2 : it r (xs.getD 0 0) m = ys.getD 0 0 := by omega
    rw [e2] at a1
    exact h.same x1 y1 a1 b1
/-- Rws of one cylinder have the same length. -/
theorem ab_len {i x : Nat} (hi : i < rr.length) (hx : at_ (abF (comm r u) u rr) i = x) {xs ys : List Int} (h1 : rr[i]? = some xs) (h2 : rr[x]? = some ys) : ys.length = xs.length := by
  obtain ⟨xs', ys', x1, x2, x3, x4⟩ := ab_row hi hx
  have e1 : xs' = xs := by rw [h1] at x1; exact (Option.some.inj x1).symm
  have e2 : ys' = ys := by rw [h2] at x2; exact (Option.some.inj x2).symm
  subst e1; subst e2
  have hf := (h.head h1).2
  obtain ⟨f0, f1⟩ := h.rng h1 hf
  obtain ⟨g0, g1⟩ := h.rng h2 x4
  obtain ⟨a, a1, a2, _⟩ := h.way h1
  obtain ⟨b, b1, b2, _⟩ := h.way h2
  have wf := cyc_way h.bij f0 f1
  have wg := cyc_way h.bij g0 g1
  have p1 : (cyc r n (xs'.getD 0 0)).length = xs'.length := by
    rw [a2] at hf
    have := per_same h.bij (f := (a : Int)) (by omega) (by omega) hf
    rw [← a2] at this hf
    exact this
  have p2 : (cyc r n (u.getD (xs'.getD 0 0).toNat 0)).length = ys'.length := by
    rw [b2] at x4
    have := per_same h.bij (f := (b : Int)) (by omega) (by omega) x4
    rw [← b2] at this
    exact this
  rw [← p1, ← p2]
  generalize hfe : xs'.getD 0 0 = f at *
  have ui := fun m => up_it s h h1 x3 (y := f) (by rw [← hfe]; exact (h.head h1).2) m
  generalize hge : u.getD f.toNat 0 = g at *
  have lf := way_last wf
  have lg := way_last wg
  have pf := wf.pos
  have pg := wg.pos
  rcases Nat.lt_trichotomy (cyc r n g).length (cyc r n f).length with q | q | q
  · have e : it r f (cyc r n g).length = f := by
      have e0 : u.getD (it r f (cyc r n g).length).toNat 0 = u.getD f.toNat 0 := by rw [ui, ← lg, hge]
      have hin := Go.Proofs.Ytngglhbcpeigcaa.pm.it_in h.bij f0 f1 (cyc r n g).length
      have := s.bu.inj _ _ (by omega) (by omega) e0
      omega
    have := nodup_getD wf.inn.nd (i := (cyc r n g).length) (j := 0) q pf (by rw [way_it wf _ q, e, wf.head])
    omega
  · exact q
  · have e : it r g (cyc r n f).length = g := by rw [← ui, ← lf, hge]
    have := nodup_getD wg.inn.nd (i := (cyc r n f).length) (j := 0) q pg (by rw [way_it wg _ q, e, wg.head])
    omega
end
end Go.Proofs.Ytngglhbcpeigcaa.cy

/-
  Slices of slices of ints: rows of headers, each with a row of its own; the laws' helpers eqIntSS, markIntSS, heldIntSS.
-/
namespace Go.Proofs.Ytngglhbcpeigcaa.mat
open Go.ChangeShapes Go.WideShapes Go.ChangeAt Go.RowKit
open Go.Proofs.Ytngglhbcpeigcaa.mem Go.Proofs.Ytngglhbcpeigcaa.ints
set_option linter.unusedVariables false
set_option maxRecDepth 100000

/-- The headers hs have the rows xss; those that are not empty lie in different blocks bl i, from lo on and below hi, none of them in ex. -/
structure Hs (w : World) (lo hi : Nat) (ex : Nat → Prop) (bl : Nat → Nat) (hs : List Value) (xss : List (List Int)) : Prop where
  len : hs.length = xss.length
  top : hi ≤ w.heap.size
  row : ∀ i xs, xss[i]? = some xs → ∃ A c, hs[i]? = some (.slice A xs.length c) ∧ (0 < xs.length → lo ≤ bl i ∧ bl i < hi ∧ ¬ ex (bl i) ∧ Row w (bl i) (bl i + 1) A xs.length (V xs))
  ne : ∀ i j xs ys, xss[i]? = some xs → xss[j]? = some ys → 0 < xs.length → 0 < ys.length → i ≠ j → bl i ≠ bl j

theorem Row.block {w w' : World} {g n : Nat} {A : Option Addr} {xs : List Value} (h : Row w g (g + 1) A n xs) (hb : w'.heap[g]? = w.heap[g]?) (hs : w.heap.size ≤ w'.heap.size) : Row w' g (g + 1) A n xs := by
  refine ⟨h.1, Nat.le_trans h.2.1 hs, fun hn => ?_⟩
  obtain ⟨g', off, e, h1, h2, hc⟩ := h.2.2 hn
  obtain rfl : g' = g := by omega
  refine ⟨g', off, e, h1, h2, fun j hj => ?_⟩
  rw [World.cell?_of_block (w := w) (a := ⟨g', off + j, none⟩) hb, World.frozen?_of_block (w := w) (a := ⟨g', off + j, none⟩) hb]
  exact hc j hj
theorem Hs.keep {w w' : World} {lo hi : Nat} {ex : Nat → Prop} {bl : Nat → Nat} {hs : List Value} {xss : List (List Int)} (h : Hs w lo hi ex bl hs xss) (hs' : w.heap.size ≤ w'.heap.size)
    (hk : ∀ b, lo ≤ b → b < hi → ¬ ex b → w'.heap[b]? = w.heap[b]?) : Hs w' lo hi ex bl hs xss := by
  refine ⟨h.len, Nat.le_trans h.top hs', fun i xs hx => ?_, h.ne⟩
  obtain ⟨A, c, e, hr⟩ := h.row i xs hx
  refine ⟨A, c, e, fun hp => ?_⟩
  obtain ⟨h1, h2, h3, h4⟩ := hr hp
  exact ⟨h1, h2, h3, Row.block h4 (hk _ h1 h2 h3) hs'⟩
theorem Hs.nil (w : World) (lo hi : Nat) (ex : Nat → Prop) (bl : Nat → Nat) (h : hi ≤ w.heap.size) : Hs w lo hi ex bl [] [] :=
  ⟨rfl, h, fun i xs hx => by simp at hx, fun i j xs ys hx => by simp at hx⟩
theorem Hs.exs {w : World} {lo hi : Nat} {ex ex' : Nat → Prop} {bl : Nat → Nat} {hs : List Value} {xss : List (List Int)} (h : Hs w lo hi ex bl hs xss) (he : ∀ b, lo ≤ b → b < hi → ¬ ex b → ¬ ex' b) : Hs w lo hi ex' bl hs xss := by
  refine ⟨h.len, h.top, fun i xs hx => ?_, h.ne⟩
  obtain ⟨A, c, e, hr⟩ := h.row i xs hx
  exact ⟨A, c, e, fun hp => ⟨(hr hp).1, (hr hp).2.1, he _ (hr hp).1 (hr hp).2.1 (hr hp).2.2.1, (hr hp).2.2.2⟩⟩
theorem Hs.wider {w : World} {lo hi lo' hi' : Nat} {ex : Nat → Prop} {bl : Nat → Nat} {hs : List Value} {xss : List (List Int)} (h : Hs w lo hi ex bl hs xss) (h0 : lo' ≤ lo) (h1 : hi ≤ hi') (h2 : hi' ≤ w.heap.size) : Hs w lo' hi' ex bl hs xss := by
  refine ⟨h.len, h2, fun i xs hx => ?_, h.ne⟩
  obtain ⟨A, c, e, hr⟩ := h.row i xs hx
  exact ⟨A, c, e, fun hp => ⟨by have := (hr hp).1; omega, by have := (hr hp).2.1; omega, (hr hp).2.2⟩⟩
theorem Hs.snoc {w : World} {lo hi : Nat} {ex : Nat → Prop} {bl : Nat → Nat} {hs : List Value} {xss : List (List Int)} (h : Hs w lo hi ex bl hs xss) {g c : Nat} {A : Option Addr} {xs : List Int} (hg : hi ≤ g) (hlo : lo ≤ hi) (hx : ¬ ex g) (hr : Row w g (g + 1) A xs.length (V xs)) :
    Hs w lo (g + 1) ex (fun i => if i = xss.length then g else bl i) (hs ++ [.slice A xs.length c]) (xss ++ [xs]) := by
  have hl := h.len
  refine ⟨by simp [hl], hr.2.1, fun i ys hy => ?_, fun i j ys zs hy hz y0 z0 hij => ?_⟩
  · rw [List.getElem?_append] at hy
    by_cases hi' : i < xss.length
    · rw [if_pos hi'] at hy
      obtain ⟨A', c', e, hr'⟩ := h.row i ys hy
      refine ⟨A', c', ?_, fun hp => ?_⟩
      · rw [List.getElem?_append_left (by omega)]; exact e
      · rw [if_neg (by omega)]
        obtain ⟨q1, q2, q3, q4⟩ := hr' hp
        exact ⟨q1, by omega, q3, q4⟩
    · rw [if_neg hi'] at hy
      have e0 : i = xss.length := by
        rcases Nat.lt_or_ge (i - xss.length) 1 with q | q
        · omega
        · rw [List.getElem?_eq_none (by simpa using q)] at hy; cases hy
      subst e0
      simp at hy
      subst hy
      refine ⟨A, c, ?_, fun hp => ?_⟩
      · rw [List.getElem?_append_right (by omega), hl]; simp
      · rw [if_pos rfl]
        exact ⟨by omega, by omega, hx, hr⟩
  · have hlt : ∀ (q : Nat) (us : List Int), (xss ++ [xs])[q]? = some us → q ≠ xss.length → xss[q]? = some us := by
      intro q us hq hne
      rw [List.getElem?_append] at hq
      by_cases hq' : q < xss.length
      · rw [if_pos hq'] at hq; exact hq
      · rw [if_neg hq', List.getElem?_eq_none (by simp; omega)] at hq; cases hq
    by_cases e1 : i = xss.length
    · by_cases e2 : j = xss.length
      · omega
      · simp only [if_pos e1, if_neg e2]
        obtain ⟨A', c', e, hr'⟩ := h.row j zs (hlt j zs hz e2)
        have := (hr' z0).2.1
        omega
    · by_cases e2 : j = xss.length
      · simp only [if_pos e2, if_neg e1]
        obtain ⟨A', c', e, hr'⟩ := h.row i ys (hlt i ys hy e1)
        have := (hr' y0).2.1
        omega
      · simp only [if_neg e1, if_neg e2]
        exact h.ne i j ys zs (hlt i ys hy e1) (hlt j zs hz e2) y0 z0 hij
/-- A row, alone: where it may be written. -/
theorem Hs.one {w : World} {lo hi : Nat} {ex : Nat → Prop} {bl : Nat → Nat} {hs : List Value} {xss : List (List Int)} (h : Hs w lo hi ex bl hs xss) {i : Nat} {xs : List Int} (hx : xss[i]? = some xs) :
    ∃ A c l u, hs[i]? = some (.slice A xs.length c) ∧ Row w l u A xs.length (V xs) ∧ (0 < xs.length → lo ≤ l ∧ u ≤ hi ∧ l = bl i ∧ u = l + 1 ∧ ¬ ex l) ∧ (xs.length = 0 → l = 0 ∧ u = 0) := by
  obtain ⟨A, c, e, hr⟩ := h.row i xs hx
  rcases Nat.eq_zero_or_pos xs.length with h0 | h0
  · refine ⟨A, c, 0, 0, e, ⟨by simp [V], Nat.zero_le _, fun q => by omega⟩, fun q => by omega, fun _ => ⟨rfl, rfl⟩⟩
  · obtain ⟨q1, q2, q3, q4⟩ := hr h0
    exact ⟨A, c, bl i, bl i + 1, e, q4, fun _ => ⟨q1, by omega, rfl, rfl, q3⟩, fun q => by omega⟩
theorem Hs.set_ {w w' : World} {lo hi : Nat} {ex : Nat → Prop} {bl : Nat → Nat} {hs : List Value} {xss : List (List Int)} (h : Hs w lo hi ex bl hs xss) {i l u c : Nat} {A : Option Addr} {xs ys : List Int} (hx : xss[i]? = some xs) (hl : ys.length = xs.length)
    (he : hs[i]? = some (.slice A xs.length c)) (hp : 0 < xs.length → lo ≤ l ∧ u ≤ hi ∧ l = bl i ∧ u = l + 1 ∧ ¬ ex l) (hr : Row w' l u A xs.length (V ys)) (ho : Out l u w w') (h0 : xs.length = 0 → l = 0 ∧ u = 0) : Hs w' lo hi ex bl hs (xss.set i ys) := by
  have hi' : i < xss.length := (List.getElem?_eq_some_iff.1 hx).1
  have key : ∀ j zs, (xss.set i ys)[j]? = some zs → ∃ zs0, xss[j]? = some zs0 ∧ zs0.length = zs.length ∧ (j ≠ i → zs0 = zs) := by
    intro j zs hz
    by_cases e : j = i
    · subst e
      rw [List.getElem?_set_self hi'] at hz
      obtain rfl := Option.some.inj hz
      exact ⟨xs, hx, hl.symm, fun q => absurd rfl q⟩
    · rw [List.getElem?_set_ne (by omega)] at hz
      exact ⟨zs, hz, rfl, fun _ => rfl⟩
  refine ⟨by simp [h.len], Nat.le_trans h.top ho.size, fun j zs hz => ?_, fun j k zs us hz hu z0 u0 hjk => ?_⟩
  · by_cases e : j = i
    · subst e
      rw [List.getElem?_set_self hi'] at hz
      obtain rfl := Option.some.inj hz
      refine ⟨A, c, by rw [hl]; exact he, fun q => ?_⟩
      rw [hl] at q
      obtain ⟨a1, a2, a3, a4, a5⟩ := hp q
      subst a4; subst a3
      exact ⟨a1, by omega, a5, by rw [hl]; exact hr⟩
    · rw [List.getElem?_set_ne (by omega)] at hz
      obtain ⟨A', c', e', hr'⟩ := h.row j zs hz
      refine ⟨A', c', e', fun q => ?_⟩
      obtain ⟨a1, a2, a3, a4⟩ := hr' q
      refine ⟨a1, a2, a3, Row.block a4 (ho.block _ (by have := h.top; omega) ?_) ho.size⟩
      rcases Nat.eq_zero_or_pos xs.length with x0 | x0
      · obtain ⟨b1, b2⟩ := h0 x0; right; omega
      · obtain ⟨b1, b2, b3, b4, b5⟩ := hp x0
        have := h.ne i j xs zs hx hz x0 q (by omega)
        omega
  · obtain ⟨z1, a1, a2, _⟩ := key j zs hz
    obtain ⟨u1, b1, b2, _⟩ := key k us hu
    exact h.ne j k z1 u1 a1 b1 (by omega) (by omega) hjk

/-- '.slice A n c' reads as the rows xss; all of it lies from lo on and below hi, each row in a block of its own. -/
def Mat (w : World) (lo hi : Nat) (A : Option Addr) (n : Nat) (xss : List (List Int)) : Prop :=
  xss.length = n ∧ hi ≤ w.heap.size ∧ ∃ hs bl G, Hs w lo hi (fun b => b = G) bl hs xss ∧ (0 < n → lo ≤ G ∧ G < hi ∧ Row w G (G + 1) A n hs)
theorem Mat.keep {w w' : World} {lo hi n B : Nat} {A : Option Addr} {xss : List (List Int)} (h : Mat w lo hi A n xss) (hb : Below B w w') (hB : hi ≤ B) : Mat w' lo hi A n xss := by
  obtain ⟨h1, h2, hs, bl, G, h3, h4⟩ := h
  refine ⟨h1, Nat.le_trans h2 hb.size, hs, bl, G, h3.keep hb.size (fun b _ q _ => hb.block b (by omega)), fun hn => ?_⟩
  obtain ⟨q1, q2, q3⟩ := h4 hn
  exact ⟨q1, q2, Row.block q3 (hb.block G (by omega)) hb.size⟩
theorem Mat.out {w w' : World} {lo hi lo' hi' n : Nat} {A : Option Addr} {xss : List (List Int)} (h : Mat w lo hi A n xss) (ho : Out lo' hi' w w') (hd : hi ≤ lo' ∨ hi' ≤ lo) : Mat w' lo hi A n xss := by
  obtain ⟨h1, h2, hs, bl, G, h3, h4⟩ := h
  refine ⟨h1, Nat.le_trans h2 ho.size, hs, bl, G, h3.keep ho.size (fun b p q _ => ho.block b (by omega) (by omega)), fun hn => ?_⟩
  obtain ⟨q1, q2, q3⟩ := h4 hn
  exact ⟨q1, q2, Row.block q3 (ho.block G (by omega) (by omega)) ho.size⟩
theorem Mat.wider {w : World} {lo hi lo' hi' n : Nat} {A : Option Addr} {xss : List (List Int)} (h : Mat w lo hi A n xss) (h0 : lo' ≤ lo) (h1 : hi ≤ hi') (h2 : hi' ≤ w.heap.size) : Mat w lo' hi' A n xss := by
  obtain ⟨a1, a2, hs, bl, G, h3, h4⟩ := h
  refine ⟨a1, h2, hs, bl, G, h3.wider h0 h1 h2, fun hn => ?_⟩
  obtain ⟨q1, q2, q3⟩ := h4 hn
  exact ⟨by omega, by omega, q3⟩
theorem Mat.nil (w : World) (lo hi : Nat) (A : Option Addr) (h : hi ≤ w.heap.size) : Mat w lo hi A 0 [] := ⟨rfl, h, [], fun _ => 0, 0, Hs.nil _ _ _ _ _ h, fun q => by omega⟩
theorem Mat.at_ {w : World} {lo hi n k : Nat} {A : Option Addr} {xss : List (List Int)} (h : Mat w lo hi A n xss) (hk : k < n) :
    ∃ G off A' c xs l u, A = some ⟨G, off, none⟩ ∧ xss[k]? = some xs ∧ w.cell? ⟨G, off + k, none⟩ = some (.slice A' xs.length c) ∧ Row w l u A' xs.length (V xs) ∧
      (∀ w' ys, ys.length = xs.length → Row w' l u A' xs.length (V ys) → Out l u w w' → Mat w' lo hi A n (xss.set k ys) ∧ Out lo hi w w') := by
  obtain ⟨h1, h2, hs, bl, G, h3, h4⟩ := h
  obtain ⟨q1, q2, q3⟩ := h4 (by omega)
  have hx : xss[k]? = some xss[k] := List.getElem?_eq_getElem (by omega)
  obtain ⟨A', c, l, u, e, hr, hp, hz⟩ := h3.one hx
  obtain ⟨g, off, v, rfl, g1, g2, hv, hc, _⟩ := q3.at_ hk
  obtain rfl : g = G := by omega
  rw [e] at hv
  obtain rfl := Option.some.inj hv
  refine ⟨g, off, A', c, xss[k], l, u, rfl, hx, hc, hr, fun w' ys hl hr' ho => ?_⟩
  refine ⟨⟨by simpa using h1, Nat.le_trans h2 ho.size, hs, bl, g, h3.set_ hx hl e hp hr' ho hz, fun _ => ⟨q1, q2, Row.block q3 (ho.block _ (by omega) ?_) ho.size⟩⟩, ?_⟩
  · rcases Nat.eq_zero_or_pos (xss[k]).length with x0 | x0
    · obtain ⟨b1, b2⟩ := hz x0; right; omega
    · obtain ⟨b1, b2, b3, b4, b5⟩ := hp x0; omega
  · rcases Nat.eq_zero_or_pos (xss[k]).length with x0 | x0
    · obtain ⟨b1, b2⟩ := hz x0
      exact ⟨ho.os, ho.tape, ho.output, ho.size, fun j hj _ => ho.block j hj (by omega)⟩
    · obtain ⟨b1, b2, b3, b4, b5⟩ := hp x0
      exact ho.wider b1 b2

def tot (xss : List (List Int)) : Nat := (xss.map List.length).sum
theorem tot_row {xss : List (List Int)} {k : Nat} {xs : List Int} (h : xss[k]? = some xs) : xs.length ≤ tot xss := by
  have hm := List.mem_of_getElem? h
  clear h
  unfold tot
  induction xss with
  | nil => simp at hm
  | cons a t ih =>
    rcases List.mem_cons.1 hm with rfl | hm
    · simp
    · have := ih hm; simp; omega
theorem tot_take {xss : List (List Int)} {k : Nat} {xs : List Int} (h : xss[k]? = some xs) : tot (xss.take (k + 1)) = tot (xss.take k) + xs.length := by
  unfold tot; rw [List.take_add_one, h]; simp
theorem tot_le (xss : List (List Int)) (k : Nat) : tot (xss.take k) ≤ tot xss := by
  have : tot xss = tot (xss.take k) + tot (xss.drop k) := by
    unfold tot; rw [← List.sum_append, ← List.map_append, List.take_append_drop]
  omega
def eqm (xss yss : List (List Int)) : Bool := decide (xss = yss)
theorem eqm_self (xss : List (List Int)) : eqm xss xss = true := by simp [eqm]
def SameM (xss yss : List (List Int)) (k : Nat) : Prop := ∀ j, j < k → xss[j]? = yss[j]?
theorem eqm_no {xss yss : List (List Int)} {k : Nat} {xs ys : List Int} (h1 : xss[k]? = some xs) (h2 : yss[k]? = some ys) (h : eqi xs ys = false) : eqm xss yss = false := by
  unfold eqm; rw [decide_eq_false_iff_not]; rintro rfl
  rw [h1] at h2
  obtain rfl := Option.some.inj h2
  simp [eqi] at h
theorem eqm_len {xss yss : List (List Int)} (h : xss.length ≠ yss.length) : eqm xss yss = false := by
  unfold eqm; rw [decide_eq_false_iff_not]; rintro rfl; exact h rfl
theorem eqm_yes {xss yss : List (List Int)} {n : Nat} (h1 : xss.length = n) (h2 : yss.length = n) (h : SameM xss yss n) : eqm xss yss = true := by
  unfold eqm; rw [decide_eq_true_iff]
  refine List.ext_getElem? fun i => ?_
  by_cases hi : i < n
  · exact h i hi
  · rw [List.getElem?_eq_none (by omega), List.getElem?_eq_none (by omega)]
theorem SameM.step {xss yss : List (List Int)} {k : Nat} {xs ys : List Int} (h : SameM xss yss k) (h1 : xss[k]? = some xs) (h2 : yss[k]? = some ys) (he : eqi xs ys = true) : SameM xss yss (k + 1) := by
  intro j hj
  by_cases e : j = k
  · subst e
    have : xs = ys := by simpa [eqi] using he
    rw [h1, h2, this]
  · exact h j (by omega)

theorem drawn_trans {a b c : World} (h : Drawn a b) (k : Drawn b c) : Drawn a c := by
  obtain ⟨m, rfl⟩ := h; obtain ⟨n, rfl⟩ := k; exact ⟨m + n, by simp⟩
theorem drawn_rd {w w' : World} {hi n : Nat} {A : Option Addr} {xs : List Value} (h : Drawn w w') (r : Rd w hi A n xs) : Rd w' hi A n xs := by
  obtain ⟨m, rfl⟩ := h; exact r

theorem eq_quiet {A : Option Addr} {n c : Nat} {B : Option Addr} {m d : Nat} {xs ys : List Int} {h1 h2 : Nat} {w w' : World} (hw : Drawn w w') (q : Nat)
    (hx : Rd w h1 A n (V xs)) (hy : Rd w h2 B m (V ys)) (hn : n ≤ maxLen) (hm : m ≤ maxLen) :
    Calls Try.prog 44 #[.slice A n c, .slice B m d] (w'.drewN q) fun e w'' => e = .returned (.bool (eqi xs ys)) ∧ ∃ j, w'' = w'.drewN j :=
  (eq_any A n c B m d xs ys h1 h2 (w'.drewN q) (drawn_rd (hw.more q) hx) (drawn_rd (hw.more q) hy) hn hm).mono fun _ _ ⟨he, j, hj⟩ => ⟨he, q + j, by rw [hj, World.drewN_drewN]⟩
/-- The rows' numbers from k on. -/
def marksm (k : Int) : List (List Int) → List (List Int)
  | [] => []
  | xs :: t => Marks k xs.length :: marksm (k + xs.length) t
theorem marks_len (k : Int) (n : Nat) : (Marks k n).length = n := by simp [Marks]
theorem marksm_len (xss : List (List Int)) : ∀ k, (marksm k xss).length = xss.length := by
  induction xss with
  | nil => intro k; rfl
  | cons a t ih => intro k; simp [marksm, ih]
theorem marksm_tot (xss : List (List Int)) : ∀ k, tot (marksm k xss) = tot xss := by
  induction xss with
  | nil => intro k; rfl
  | cons a t ih => intro k; have := ih (k + a.length); simp only [tot, marksm, List.map_cons, List.sum_cons, marks_len] at *; omega
theorem marksm_at (xss : List (List Int)) : ∀ (k : Int) (j : Nat) (xs : List Int), xss[j]? = some xs → (marksm k xss)[j]? = some (Marks (k + tot (xss.take j)) xs.length) := by
  induction xss with
  | nil => intro k j xs h; simp at h
  | cons a t ih =>
    intro k j xs h
    cases j with
    | zero => simp at h; subst h; simp [marksm, tot]
    | succ j =>
      simp at h
      have := ih (k + a.length) j xs h
      simp only [marksm, List.getElem?_cons_succ, List.take_succ_cons]
      rw [this]
      simp only [tot, List.map_cons, List.sum_cons]
      congr 2
      omega
/-- The first j rows are marked. -/
def mix (k : Int) (xss : List (List Int)) (j : Nat) : List (List Int) := (marksm k xss).take j ++ xss.drop j
theorem mix_zero (k : Int) (xss : List (List Int)) : mix k xss 0 = xss := by simp [mix]
theorem mix_all (k : Int) (xss : List (List Int)) {n : Nat} (h : xss.length = n) : mix k xss n = marksm k xss := by
  unfold mix; rw [List.take_of_length_le (by rw [marksm_len]; omega), List.drop_of_length_le (by omega), List.append_nil]
theorem mix_at {k : Int} {xss : List (List Int)} {j : Nat} (h : j < xss.length) : (mix k xss j)[j]? = xss[j]? := by
  unfold mix
  have hl : ((marksm k xss).take j).length = j := by rw [List.length_take, marksm_len]; omega
  rw [List.getElem?_append_right (by omega), hl]
  simp
theorem mix_step {k : Int} {xss : List (List Int)} {j : Nat} {xs : List Int} (h : xss[j]? = some xs) : (mix k xss j).set j (Marks (k + tot (xss.take j)) xs.length) = mix k xss (j + 1) := by
  have hj : j < xss.length := (List.getElem?_eq_some_iff.1 h).1
  have hl : ((marksm k xss).take j).length = j := by rw [List.length_take, marksm_len]; omega
  unfold mix
  rw [List.take_add_one, marksm_at xss k j xs h, List.set_append_right _ _ (by omega), hl, Nat.sub_self]
  have : xss.drop j = xs :: xss.drop (j + 1) := by
    rw [List.drop_eq_getElem_cons hj]
    congr 1
    rw [List.getElem?_eq_getElem hj] at h
    exact Option.some.inj h
  rw [this]
  simp
def MarkRelM (A : Option Addr) (n lo hi : Nat) (k : Int) (xss : List (List Int)) (w wr : World) (j : Nat) : Prop := Mat wr lo hi A n (mix k xss j) ∧ Out lo hi w wr

end Go.Proofs.Ytngglhbcpeigcaa.mat

/-
  A slice of slices that grows; contract of the program's cycleFrom.
-/
namespace Go.Proofs.Ytngglhbcpeigcaa.fns
open Go.ChangeShapes Go.WideShapes Go.ChangeAt Go.RowKit
open Go.Proofs.Ytngglhbcpeigcaa.mem Go.Proofs.Ytngglhbcpeigcaa.ints Go.Proofs.Ytngglhbcpeigcaa.arr Go.Proofs.Ytngglhbcpeigcaa.pm Go.Proofs.Ytngglhbcpeigcaa.permOk Go.Proofs.Ytngglhbcpeigcaa.permOf Go.Proofs.Ytngglhbcpeigcaa.inv Go.Proofs.Ytngglhbcpeigcaa.mat
set_option linter.unusedVariables false
set_option maxRecDepth 100000

def lenV : Value → Nat
  | .slice _ n _ => n
  | _ => 0
theorem own_base {w : World} {base base' : Nat} {e : TypeId} {v : Value} {n : Nat} {xs : List Value} (h : w.ownsRow base e 1 v n xs) (hb : base' ≤ base) : w.ownsRow base' e 1 v n xs := by
  refine ⟨h.1, ?_⟩
  rcases h.2 with h0 | ⟨g, cap, cur, h1, h2, h3⟩
  · exact .inl h0
  · exact .inr ⟨g, cap, cur, h1, Nat.le_trans hb h2, h3⟩
theorem own_arr {w : World} {base g n : Nat} {e : TypeId} {xs : List Value} (h : w.ownsRow base e 1 (.slice (some ⟨g, 0, none⟩) n n) n xs) : Arr w g xs e := by
  rcases h.2 with ⟨h0, _⟩ | ⟨g', cap, cur, h1, h2, h3, h4, h5, h6, h7⟩
  · cases h0
  · injection h1 with e1 e2 e3
    injection e1 with e1
    injection e1 with e1
    subst e1; subst e3
    unfold Arr
    rw [h3, ← h7, List.take_of_length_le (by simp; omega)]
/-- The block of a row that is not empty. -/
theorem own_row {w : World} {base : Nat} {e : TypeId} {A : Option Addr} {c : Nat} {xs : List Value} (h : w.ownsRow base e 1 (.slice A xs.length c) xs.length xs) (h0 : 0 < xs.length) : ∃ g, base ≤ g ∧ Row w g (g + 1) A xs.length xs := by
  have hr := Row.of_own h
  obtain ⟨g, off, e1, h1, h2, h3⟩ := hr.2.2 h0
  exact ⟨g, h1, hr.1, by omega, fun _ => ⟨g, off, e1, Nat.le_refl _, by omega, h3⟩⟩

/-- v owns the headers of the rows xss, from block bs on; the rows lie from lo on, none in v's block; v's block is not s. -/
def Mg (w : World) (bs lo s : Nat) (v : Value) (xss : List (List Int)) : Prop :=
  ∃ hs bl, w.ownsRow bs 26 1 v xss.length hs ∧ Hs w lo w.heap.size (fun b => v.ownBlock = some b) bl hs xss ∧ v.ownBlock ≠ some s
theorem Mg.keep {w w' : World} {bs lo s : Nat} {v : Value} {xss : List (List Int)} (h : Mg w bs lo s v xss) (hz : w.heap.size ≤ w'.heap.size) (h1 : bs ≤ lo) (h2 : s < lo)
    (hk : ∀ b, bs ≤ b → b < w.heap.size → b ≠ s → w'.heap[b]? = w.heap[b]?) : Mg w' bs lo s v xss := by
  obtain ⟨hs, bl, own, hh, ne⟩ := h
  refine ⟨hs, bl, ⟨own.1, ?_⟩, (hh.keep hz (fun b q1 q2 _ => hk b (by omega) q2 (by omega))).wider (Nat.le_refl _) hz (Nat.le_refl _), ne⟩
  rcases own.2 with h0 | ⟨g, cap, cur, q1, q2, q3, q4⟩
  · exact .inl h0
  · refine .inr ⟨g, cap, cur, q1, q2, ?_, q4⟩
    rw [hk g q2 (Array.getElem?_eq_some_iff.1 q3).1 (fun e => ne (by rw [q1, ← e]; rfl))]
    exact q3
theorem Mg.nil (w : World) (bs lo s : Nat) : Mg w bs lo s (.slice none 0 0) [] := ⟨[], fun _ => 0, ⟨rfl, .inl ⟨rfl, rfl⟩⟩, Hs.nil _ _ _ _ _ (Nat.le_refl _), by simp [Value.ownBlock]⟩
theorem Mg.empty {w : World} {bs lo s g : Nat} (h : w.heap[g]? = some (.cells #[] 26 (0, 0))) (h1 : bs ≤ g) (h2 : g ≠ s) : Mg w bs lo s (.slice (some ⟨g, 0, none⟩) 0 0) [] :=
  ⟨[], fun _ => 0, ⟨rfl, .inr ⟨g, 0, #[], rfl, h1, h, Nat.le_refl _, by simp, rfl, rfl⟩⟩, Hs.nil _ _ _ _ _ (Nat.le_refl _), by intro e; simp [Value.ownBlock] at e; exact h2 e⟩
theorem Mg.form {w : World} {bs lo s : Nat} {v : Value} {xss : List (List Int)} (h : Mg w bs lo s v xss) : ∃ A c, v = .slice A xss.length c := by
  obtain ⟨hs, bl, own, _⟩ := h
  exact own_form own
theorem Mg.push {w0 W w' : World} {bs lo s g c n : Nat} {v v' : Value} {xss : List (List Int)} {hs : List Value} {bl : Nat → Nat} {A : Option Addr} {xs : List Int}
    (hh : Hs w0 lo w0.heap.size (fun b => v.ownBlock = some b) bl hs xss) (ne : v.ownBlock ≠ some s) (hz : w0.heap.size ≤ W.heap.size) (hk : ∀ b, lo ≤ b → b < w0.heap.size → W.heap[b]? = w0.heap[b]?)
    (hlo : lo ≤ w0.heap.size) (hs0 : s < lo) (hr : Row W g (g + 1) A xs.length (V xs)) (hg0 : w0.heap.size ≤ g) (hv : ∀ b, v.ownBlock = some b → b < w0.heap.size)
    (hn : n = xss.length) (ho : w'.ownsRow bs 26 1 v' (n + 1) (hs ++ [.slice A xs.length c])) (hg : W.grownBy w' v.ownBlock) (hb : v'.ownBlock = v.ownBlock ∨ ∃ k, v'.ownBlock = some k ∧ W.heap.size + 1 ≤ k) : Mg w' bs lo s v' (xss ++ [xs]) := by
  subst hn
  have gl : g < W.heap.size := hr.2.1
  have H1 : Hs W lo w0.heap.size (fun b => v.ownBlock = some b) bl hs xss := hh.keep hz (fun b q1 q2 _ => hk b q1 q2)
  have H2 := H1.snoc (g := g) (c := c) (A := A) (xs := xs) hg0 hlo (fun e => by have := hv g e; omega) hr
  have H3 := H2.keep (w' := w') hg.size (fun b q1 q2 q3 => hg.block b (by omega) (fun e => q3 e.symm))
  refine ⟨_, _, by simpa using ho, (H3.exs ?_).wider (Nat.le_refl _) (by have := hg.size; omega) (Nat.le_refl _), ?_⟩
  · intro b q1 q2 q3 e
    rcases hb with q | ⟨k, q, hk⟩
    · exact q3 (by rw [← q]; exact e)
    · rw [q] at e; injection e with e; omega
  · rcases hb with q | ⟨k, q, hk⟩
    · rw [q]; exact ne
    · rw [q]; intro e; injection e with e; omega
theorem Mg.mat {w : World} {bs lo s : Nat} {A : Option Addr} {c : Nat} {xss : List (List Int)} (h : Mg w bs lo s (.slice A xss.length c) xss) {B : Nat} (h1 : B ≤ bs) (h2 : B ≤ lo) : Mat w B w.heap.size A xss.length xss := by
  obtain ⟨hs, bl, own, hh, ne⟩ := h
  refine ⟨rfl, Nat.le_refl _, ?_⟩
  rcases Nat.eq_zero_or_pos xss.length with h0 | h0
  · obtain rfl := List.eq_nil_of_length_eq_zero h0
    exact ⟨[], fun _ => 0, 0, Hs.nil _ _ _ _ _ (Nat.le_refl _), fun q => by simp at q⟩
  · have hl : hs.length = xss.length := by simpa using own.1
    rw [← hl] at own h0
    obtain ⟨g, hg, hr⟩ := own_row own h0
    obtain ⟨g', off, e, q1, q2, _⟩ := hr.2.2 h0
    obtain rfl : g' = g := by omega
    subst e
    have gl : g' < w.heap.size := hr.2.1
    refine ⟨hs, bl, g', (hh.exs (fun b _ _ q e => q (by rw [e]; rfl))).wider h2 (Nat.le_refl _) (Nat.le_refl _), fun _ => ⟨by omega, gl, ?_⟩⟩
    rw [hl] at hr
    exact hr

/-- A boxed permutation in the first block, and the row l that grows. -/
structure Cf (w wr : World) (ps : List Int) (v : Value) (l : List Int) : Prop where
  own : wr.ownsRow (w.heap.size + 1) 3 1 v l.length (V l)
  p : Arr wr w.heap.size (V ps) 60
  below : Below w.heap.size w wr
theorem Cf.next {w wr w' : World} {ps l : List Int} {v v' : Value} {z : Int} {n : Nat} (h : Cf w wr ps v l)
    (ho : w'.ownsRow (w.heap.size + 1) 3 1 v' (n + 1) (V l ++ [.int .i64 z])) (hn : n = l.length) (hg : wr.grownBy w' v.ownBlock) : Cf w w' ps v' (l ++ [z]) := by
  subst hn
  have e : V (l ++ [z]) = V l ++ [.int .i64 z] := by simp [V]
  refine ⟨by rw [e]; simpa using ho, ?_, ?_⟩
  · exact (hg.block _ h.p.lt (fun e => by have := (h.own.lt _ e.symm).1; omega)).trans h.p
  · exact h.below.trans ((Below.refl _ _).grown hg h.below.size (fun k hk => by have := (h.own.lt k hk).1; omega))

set_option maxHeartbeats 1000000 in
theorem cycleFrom_any (ps : List Int) (n : Nat) (f : Nat) (w : World) (hl : ps.length = 24) (hb : Bij n ps) (hn : n ≤ 24) (hf : f < n) :
    Calls Try.prog 71 #[.agg (V ps).toArray, .int .i64 f] w (Gives (cyc ps n f) w) := by
  obtain ⟨i0, hi0, hz0, hz1, hz2⟩ := info_parts infoI
  have HL := Lib.hid hl; have HB := Lib.hid hb; clear hl hb
  have hcf := ((Arr.new w (V ps) 60 rfl).alloc (.cells #[.int .i64 f] 3)).cell (V_getD (l := ps) (k := f) (by rw [HL.out]; omega))
  have CW := Lib.hid (Cw.start (ps := ps) (f := (f : Int)) (n := n) (by omega) (by omega))
  rw [Int.toNat_natCast] at CW
  have m0 := HB.out.maps f hf
  generalize ps.getD f 0 = x0 at *
  go_enter Try.func71, Try.ntmps71
  go_wp2
  go_loopw [5, 6] (fun v x wr => ∃ (z : Int) (acc : List Int) (m : Nat), x = .int .i64 z ∧ Cf w wr ps v acc ∧ Cw n ps f z acc m) (fun v _ _ => n + 1 - lenV v)
  case atStart =>
    refine ⟨x0, [(f : Int)], n, rfl, ⟨?_, (Arr.new w (V ps) _ rfl).alloc _, ((Below.refl _ _).alloc (Nat.le_refl _) _).alloc (by simp) _⟩, CW.out⟩
    exact ⟨rfl, .inr ⟨w.heap.size + 1, 1, #[.int .i64 f], rfl, Nat.le_refl _, Arr.new _ (V [(f : Int)]) _ (by simp), Nat.le_refl _, by unfold maxLen; omega, rfl, rfl⟩⟩
  case round =>
    obtain ⟨z, acc, m, rfl, hcf', hcw⟩ := hrel
    obtain ⟨C, cc, rfl⟩ := own_form hcf'.own
    have CF := Lib.hid hcf'; have CWW := Lib.hid hcw; clear hcf' hcw
    have hal : acc.length ≤ n := CWW.out.way.inn.len
    have zi := CWW.out.way.x_in HB.out
    obtain ⟨y, rfl⟩ := Int.eq_ofNat_of_zero_le zi.1
    have hy : y < n := by omega
    clear zi
    by_cases e : y = f
    · subst e
      have D := Lib.hid CWW.out.done
      go_wp2
      go_ret
      refine ⟨_, rfl, ?_, CF.out.below⟩
      have := own_base CF.out.own (base' := w.heap.size) (by omega)
      rw [D.out] at this
      rw [D.out]
      exact this
    · have hne : ((y : Int) != (f : Int)) = true := by simp; omega
      have NX : Hid (Cw n ps f (ps.getD y 0) (acc ++ [(y : Int)]) (m - 1)) := Lib.hid (by have := CWW.out.next HB.out (by omega); rw [Int.toNat_natCast] at this; exact this)
      have hsz : w.heap.size + 1 ≤ wr.heap.size := CF.out.p.lt
      clear e
      go_wp2_with (at_builtin; refine wpList_append_one wr _ _ rfl _ _ 26 rfl (w.heap.size + 1) 3 i0 _ 8 Try.underlying26 hi0 hz0 hz1 hz2 rfl _ _ _ rfl CF.out.own rfl rfl ?c4 (by decide) hsz ?_)
      case c4 => omega
      intro v' w' ho hg
      have HN := Lib.hid (CF.out.next ho rfl hg)
      clear ho hg CF
      obtain ⟨C', cc', rfl⟩ := own_form HN.out.own
      have hcy := HN.out.p.cell (V_getD (l := ps) (k := y) (by rw [HL.out]; omega))
      go_wp2
      go_roundw
      case rel => exact ⟨_, _, _, rfl, HN.out, NX.out⟩
      case measure => simp [lenV]; omega
end Go.Proofs.Ytngglhbcpeigcaa.fns

/-
  Contracts of the laws' same, sorted, lengths.
-/
namespace Go.Proofs.Ytngglhbcpeigcaa.fns
open Go.ChangeShapes Go.WideShapes Go.ChangeAt Go.RowKit
open Go.Proofs.Ytngglhbcpeigcaa.mem Go.Proofs.Ytngglhbcpeigcaa.ints Go.Proofs.Ytngglhbcpeigcaa.arr Go.Proofs.Ytngglhbcpeigcaa.pm Go.Proofs.Ytngglhbcpeigcaa.mat
set_option linter.unusedVariables false
set_option maxRecDepth 100000

theorem Grows.set_ {w wr : World} {b cc : Nat} {l : List Int} (h : Grows w wr (.slice (some ⟨b, 0, none⟩) l.length cc) l) (k : Nat) (z : Int) : Grows w (wr.setCell ⟨b, k, none⟩ (.int .i64 z)) (.slice (some ⟨b, 0, none⟩) (l.set k z).length cc) (l.set k z) := by
  have hb := h.own.lt b rfl
  have := (h.own.stored k (.int .i64 z)).1
  rw [V_set] at this
  exact ⟨by simpa using this, h.below.setCell hb.1 _⟩

def lensF (xss : List (List Int)) : List Int := xss.map fun xs => (xs.length : Int)
end Go.Proofs.Ytngglhbcpeigcaa.fns

/-
  The model's descending order (as the laws' own): contracts of l04Down and l04Lengths.
-/
namespace Go.Proofs.Ytngglhbcpeigcaa.fns
open Go.ChangeShapes Go.WideShapes Go.ChangeAt Go.RowKit
open Go.Proofs.Ytngglhbcpeigcaa.mem Go.Proofs.Ytngglhbcpeigcaa.ints Go.Proofs.Ytngglhbcpeigcaa.arr Go.Proofs.Ytngglhbcpeigcaa.pm Go.Proofs.Ytngglhbcpeigcaa.mat
set_option linter.unusedVariables false
set_option maxRecDepth 100000

end Go.Proofs.Ytngglhbcpeigcaa.fns
