import Derived.Test.YtngglhbcpeigcaaY06
import Derived.Test.YtngglhbcpeigcaaY02
import Derived.Test.YtngglhbcpeigcaaY05
import Derived.Laws.Tables
import Derived.Deep.MidRow
/-
  Surfaces as pairs of permutations: names from a square, under renaming. Plain mathematics.
-/
namespace Go.Proofs.Ytngglhbcpeigcaa.pm
open Go.Proofs.Ytngglhbcpeigcaa.arr Go.Proofs.Ytngglhbcpeigcaa.inv Go.Proofs.Ytngglhbcpeigcaa.permOf
set_option linter.unusedVariables false
set_option maxRecDepth 100000

theorem nodup_sub_len : ∀ (l m : List Int), l.Nodup → (∀ x ∈ l, x ∈ m) → l.length ≤ m.length := by
  intro l
  induction l with
  | nil => intros; simp
  | cons a t ih =>
    intro m hd hs
    have hd' := List.nodup_cons.1 hd
    have ha := hs a (by simp)
    have := ih (m.erase a) hd'.2 (fun x hx => (List.mem_erase_of_ne (fun (e : x = a) => hd'.1 (by rw [← e]; exact hx))).2 (hs x (by simp [hx])))
    rw [List.length_erase_of_mem ha] at this
    have : 0 < m.length := List.length_pos_of_mem ha
    simp
    omega
theorem nodup_sub_mem {l m : List Int} (hl : l.Nodup) (hs : ∀ x ∈ l, x ∈ m) (hlen : m.length ≤ l.length) {y : Int} (hy : y ∈ m) : y ∈ l := by
  by_cases h : y ∈ l
  · exact h
  · have := nodup_sub_len (y :: l) m (List.nodup_cons.2 ⟨h, hl⟩) (fun x hx => by
      rcases List.mem_cons.1 hx with rfl | hx
      · exact hy
      · exact hs x hx)
    simp at this
    omega
theorem add1_pre (l : List Int) (x : Int) : l <+: add1 l x := by
  unfold add1; split
  · exact List.prefix_refl _
  · exact List.prefix_append _ _
theorem add1_mem (l : List Int) (x : Int) : x ∈ add1 l x := by unfold add1; split <;> simp_all
theorem rnd_pre (ps qs l : List Int) (k : Nat) : l <+: rnd ps qs l k := by
  unfold rnd; split
  · exact (add1_pre _ _).trans (add1_pre _ _)
  · exact List.prefix_refl _
theorem rs_pre (ps qs : List Int) (f : Int) {k m : Nat} (h : k ≤ m) : rs ps qs f k <+: rs ps qs f m := by
  obtain ⟨j, rfl⟩ : ∃ j, m = k + j := ⟨m - k, by omega⟩
  induction j with
  | zero => exact List.prefix_refl _
  | succ j ih => exact (ih (by omega)).trans (rnd_pre _ _ _ _)
theorem pre_at {l m : List Int} (h : l <+: m) {k : Nat} (hk : k < l.length) : m.getD k 0 = l.getD k 0 := by
  obtain ⟨t, rfl⟩ := h
  simp only [List.getD]
  rw [List.getElem?_append_left hk]
theorem rs_early {ps qs : List Int} {f : Int} {k m : Nat} (hk : k < (rs ps qs f m).length) (hm : k ≤ m) : k < (rs ps qs f k).length := by
  rcases Nat.lt_or_ge k (rs ps qs f k).length with h | h
  · exact h
  · rw [rs_stop ps qs f h hm] at hk; omega
/-- What is reached is closed. -/
theorem reach_closed {n : Nat} {ps qs : List Int} (hn : ps.length = n) (hp : Maps n ps) (hq : Maps n qs) {f : Int} (f0 : 0 ≤ f) (f1 : f < n) {x : Int} (hx : x ∈ reach ps qs f) : ps.getD x.toNat 0 ∈ reach ps qs f ∧ qs.getD x.toNat 0 ∈ reach ps qs f := by
  unfold reach at hx ⊢
  rw [hn] at hx ⊢
  obtain ⟨k, hk, e⟩ := mem_getD hx
  have hl := (rs_in hp hq f0 f1 n).len
  have h1 := rs_early hk (by omega)
  rw [pre_at (rs_pre ps qs f (show k ≤ n by omega)) h1] at e
  obtain ⟨z, hz, _, ez⟩ := (rs_in hp hq f0 f1 k).at_ h1
  have st := rs_step ps qs f h1 ez
  have hpre := rs_pre ps qs f (show k + 1 ≤ n by omega)
  rw [ez] at e
  subst e
  rw [Int.toNat_natCast]
  have sub : ∀ y, y ∈ rs ps qs f (k + 1) → y ∈ rs ps qs f n := fun y hy => hpre.subset hy
  refine ⟨sub _ ?_, sub _ ?_⟩
  · rw [st]; exact (add1_pre _ _).subset (add1_mem _ _)
  · rw [st]; exact add1_mem _ _
theorem reach_start (ps qs : List Int) (f : Int) : f ∈ reach ps qs f := by
  have := rs_pre ps qs f (Nat.zero_le ps.length)
  exact this.subset (by simp [rs])
/-- What is reached lies in every closed set that has the beginning. -/
theorem reach_least {ps qs : List Int} {f : Int} (C : Int → Prop) (hf : C f) (hc : ∀ x, C x → C (ps.getD x.toNat 0) ∧ C (qs.getD x.toNat 0)) (k : Nat) : ∀ x ∈ rs ps qs f k, C x := by
  induction k with
  | zero => intro x hx; simp [rs] at hx; subst hx; exact hf
  | succ k ih =>
    intro x hx
    have hx' : x ∈ rnd ps qs (rs ps qs f k) k := hx
    unfold rnd at hx'
    split at hx'
    · rename_i hk
      have hy := hc _ (ih _ (getD_mem hk))
      unfold add1 at hx'
      split at hx' <;> split at hx' <;> (try simp at hx') <;> (first | exact ih x hx' | skip)
      all_goals
        rcases hx' with q | q
        · first
            | exact ih x q
            | (rcases q with q | q
               · exact ih x q
               · subst q; exact hy.1)
        · first
            | (subst q; exact hy.1)
            | (subst q; exact hy.2)
            | (rcases q with q | q
               · subst q; exact hy.1
               · subst q; exact hy.2)
    · exact ih x hx'
/-- A closed list is closed backwards. -/
theorem closed_back {n : Nat} {ps l : List Int} (hb : Bij n ps) (hl : In n l) (hc : ∀ x ∈ l, ps.getD x.toNat 0 ∈ l) {y : Int} (y0 : 0 ≤ y) (y1 : y < n) (h : ps.getD y.toNat 0 ∈ l) : y ∈ l := by
  have hm : (l.map fun x => ps.getD x.toNat 0).Nodup := by
    unfold List.Nodup
    rw [List.pairwise_map]
    refine List.Pairwise.imp_of_mem ?_ hl.nd
    intro a b ha hb' hab e
    have a0 := hl.lo a ha; have a1 := hl.hi a ha; have b0 := hl.lo b hb'; have b1 := hl.hi b hb'
    have := hb.inj _ _ (by omega) (by omega) e
    omega
  have := nodup_sub_mem hm (fun x hx => by obtain ⟨z, hz, rfl⟩ := List.mem_map.1 hx; exact hc z hz) (by simp) h
  obtain ⟨z, hz, e⟩ := List.mem_map.1 this
  have z0 := hl.lo z hz; have z1 := hl.hi z hz
  have := hb.inj _ _ (by omega) (by omega) e
  have : z = y := by omega
  exact this ▸ hz

/-- A valid surface of n squares. -/
structure Sf (n : Nat) (R U : List Int) : Prop where
  r : Ok R
  u : Ok U
  lr : R.length = n
  lu : U.length = n
  pos : 0 < n
  all : (reach R U 0).length = n
theorem Sf.br {n : Nat} {R U : List Int} (h : Sf n R U) : Bij n R := by have := h.r.bij; rw [h.lr] at this; exact this
theorem Sf.bu {n : Nat} {R U : List Int} (h : Sf n R U) : Bij n U := by have := h.u.bij; rw [h.lu] at this; exact this
theorem transB_iff {R U : List Int} : transB R U = true ↔ Sf R.length R U := by
  unfold transB
  simp only [Bool.and_eq_true, decide_eq_true_eq, okBB_iff]
  constructor
  · rintro ⟨⟨⟨h1, h2, h3⟩, h4⟩, h5⟩
    exact ⟨Ok.of R h1, Ok.of U h2, rfl, h3.symm, h4, h5⟩
  · intro h
    exact ⟨⟨⟨h.r.b, h.u.b, h.lu.symm⟩, h.pos⟩, h.all⟩
theorem Sf.inn {n : Nat} {R U : List Int} (h : Sf n R U) {f : Int} (f0 : 0 ≤ f) (f1 : f < n) : In n (reach R U f) := rs_in h.br.maps h.bu.maps f0 f1 _
/-- From every square all squares are reached. -/
theorem Sf.full {n : Nat} {R U : List Int} (h : Sf n R U) {f : Int} (f0 : 0 ≤ f) (f1 : f < n) {y : Int} (y0 : 0 ≤ y) (y1 : y < n) : y ∈ reach R U f := by
  have hin := h.inn f0 f1
  have hcl : ∀ x ∈ reach R U f, R.getD x.toNat 0 ∈ reach R U f ∧ U.getD x.toNat 0 ∈ reach R U f := fun x hx => reach_closed h.lr h.br.maps h.bu.maps f0 f1 hx
  have h0 : ∀ z : Int, 0 ≤ z → z < n → z ∈ reach R U 0 := by
    intro z z0 z1
    have i0 := h.inn (f := 0) (by omega) (by have := h.pos; omega)
    exact nodup_sub_mem i0.nd (m := rng n) (fun x hx => mem_rng.2 ⟨i0.lo x hx, i0.hi x hx⟩) (by rw [h.all]; simp [rng]) (mem_rng.2 ⟨z0, z1⟩)
  by_cases hz : (0 : Int) ∈ reach R U f
  · have := reach_least (ps := R) (qs := U) (f := 0) (fun x => x ∈ reach R U f) hz hcl R.length y
    exact this (h0 y y0 y1)
  · exfalso
    have := reach_least (ps := R) (qs := U) (f := 0) (fun x => (0 ≤ x ∧ x < n) ∧ ¬ x ∈ reach R U f) ⟨⟨by omega, by have := h.pos; omega⟩, hz⟩ (by
      rintro x ⟨⟨x0, x1⟩, hx⟩
      have m1 := h.br.maps x.toNat (by omega); have m2 := h.bu.maps x.toNat (by omega)
      exact ⟨⟨m1, fun q => hx (closed_back h.br hin (fun x hx => (hcl x hx).1) x0 x1 q)⟩, ⟨m2, fun q => hx (closed_back h.bu hin (fun x hx => (hcl x hx).2) x0 x1 q)⟩⟩) R.length f (h0 f f0 f1)
    exact this.2 (reach_start R U f)
theorem Sf.flen {n : Nat} {R U : List Int} (h : Sf n R U) {f : Int} (f0 : 0 ≤ f) (f1 : f < n) : (reach R U f).length = n := by
  have h1 := (h.inn f0 f1).len
  have h2 := nodup_sub_len (rng n) (reach R U f) (rng_nodup n) (fun x hx => by rw [mem_rng] at hx; exact h.full f0 f1 hx.1 hx.2)
  rw [rng_len] at h2
  omega
theorem In.ok {n : Nat} {l : List Int} (h : In n l) (hl : l.length = n) (h24 : n ≤ 24) : Ok l := by
  refine ⟨by omega, fun i hi => h.lo _ (getD_mem hi), fun i hi => ?_, fun i j hi hj e => nodup_getD h.nd hi hj e⟩
  have := h.hi _ (getD_mem hi); omega
theorem Sf.rok {n : Nat} {R U : List Int} (h : Sf n R U) {f : Int} (f0 : 0 ≤ f) (f1 : f < n) : Ok (reach R U f) := (h.inn f0 f1).ok (h.flen f0 f1) (by have := h.r.len; have := h.lr; omega)
/-- The names from f. -/
def nm (R U : List Int) (f : Int) : List Int := Inv (reach R U f)
theorem Sf.nok {n : Nat} {R U : List Int} (h : Sf n R U) {f : Int} (f0 : 0 ≤ f) (f1 : f < n) : Ok (nm R U f) ∧ (nm R U f).length = n := ⟨Inv_ok (h.rok f0 f1), by unfold nm; rw [Inv_len, h.flen f0 f1]⟩

/-- R', U' are R, U renamed by ns. -/
structure Iso (n : Nat) (R U R' U' ns : List Int) : Prop where
  s : Sf n R U
  okn : Ok ns
  ln : ns.length = n
  r : Ren n R R' ns
  u : Ren n U U' ns
theorem add1_map {n : Nat} {ns l : List Int} (hb : Bij n ns) (hl : In n l) {x : Int} (x0 : 0 ≤ x) (x1 : x < n) : add1 (l.map fun y => ns.getD y.toNat 0) (ns.getD x.toNat 0) = (add1 l x).map fun y => ns.getD y.toNat 0 := by
  have e : ns.getD x.toNat 0 ∈ (l.map fun y => ns.getD y.toNat 0) ↔ x ∈ l := by
    rw [List.mem_map]
    constructor
    · rintro ⟨y, hy, q⟩
      have := hl.lo y hy; have := hl.hi y hy
      have := hb.inj _ _ (by omega) (by omega) q
      have : y = x := by omega
      exact this ▸ hy
    · intro h; exact ⟨x, h, rfl⟩
  unfold add1
  by_cases h : x ∈ l
  · rw [if_pos h, if_pos (e.2 h)]
  · rw [if_neg h, if_neg (fun q => h (e.1 q))]; simp
theorem Iso.rs_eq {n : Nat} {R U R' U' ns : List Int} (h : Iso n R U R' U' ns) {f : Int} (f0 : 0 ≤ f) (f1 : f < n) (k : Nat) : rs R' U' (ns.getD f.toNat 0) k = (rs R U f k).map fun y => ns.getD y.toNat 0 := by
  induction k with
  | zero => rfl
  | succ k ih =>
    have hin := rs_in h.s.br.maps h.s.bu.maps f0 f1 k
    show rnd R' U' _ k = (rnd R U _ k).map _
    rw [ih]
    unfold rnd
    rw [List.length_map]
    split
    · rename_i hk
      obtain ⟨z, hz, _, ez⟩ := hin.at_ hk
      have e1 : ((rs R U f k).map fun y => ns.getD y.toNat 0).getD k 0 = ns.getD z 0 := by
        simp only [List.getD, List.getElem?_map, List.getElem?_eq_getElem hk, Option.map_some, Option.getD_some]
        have : (rs R U f k)[k] = (z : Int) := by rw [← ez]; simp [List.getD, List.getElem?_eq_getElem hk]
        rw [this]; simp
      have m1 := h.s.br.maps z hz; have m2 := h.s.bu.maps z hz
      rw [e1, ez, Int.toNat_natCast, h.r.eq z hz, h.u.eq z hz, add1_map h.r.s hin m1.1 m1.2, add1_map h.r.s (hin.add m1.1 m1.2) m2.1 m2.2]
    · rfl
theorem Iso.reach_eq {n : Nat} {R U R' U' ns : List Int} (h : Iso n R U R' U' ns) (hl : R'.length = n) {f : Int} (f0 : 0 ≤ f) (f1 : f < n) : reach R' U' (ns.getD f.toNat 0) = (reach R U f).map fun y => ns.getD y.toNat 0 := by
  unfold reach; rw [hl, h.s.lr]; exact h.rs_eq f0 f1 n
theorem map_at {g : Int → Int} {l : List Int} {k : Nat} (hk : k < l.length) : (l.map g).getD k 0 = g (l.getD k 0) := by
  simp [List.getD, List.getElem?_eq_getElem hk]
/-- A square's name from f is its new self's name from f's new self. -/
theorem Iso.nm_eq {n : Nat} {R U R' U' ns : List Int} (h : Iso n R U R' U' ns) (hl : R'.length = n) {f : Int} (f0 : 0 ≤ f) (f1 : f < n) {i : Nat} (hi : i < n) : (nm R' U' (ns.getD f.toNat 0)).getD (ns.getD i 0).toNat 0 = (nm R U f).getD i 0 := by
  have fl := h.s.flen f0 f1
  have ok := h.s.rok f0 f1
  obtain ⟨k, hk, e⟩ := mem_getD (h.s.full f0 f1 (y := (i : Int)) (by omega) (by omega))
  have a := Inv_at ok hk
  rw [e, Int.toNat_natCast] at a
  unfold nm
  rw [a, h.reach_eq hl f0 f1]
  have hin : In n ((reach R U f).map fun y => ns.getD y.toNat 0) := by
    have hn := h.s.inn f0 f1
    refine ⟨?_, fun x hx => ?_, fun x hx => ?_⟩
    · unfold List.Nodup
      rw [List.pairwise_map]
      refine List.Pairwise.imp_of_mem ?_ hn.nd
      intro a b ha hb hab q
      have := hn.lo a ha; have := hn.hi a ha; have := hn.lo b hb; have := hn.hi b hb
      have := h.r.s.inj _ _ (by omega) (by omega) q
      omega
    · obtain ⟨y, hy, rfl⟩ := List.mem_map.1 hx
      exact (h.r.s.maps _ (by have := hn.lo y hy; have := hn.hi y hy; omega)).1
    · obtain ⟨y, hy, rfl⟩ := List.mem_map.1 hx
      exact (h.r.s.maps _ (by have := hn.lo y hy; have := hn.hi y hy; omega)).2
  have ok2 := hin.ok (by simp [fl]) (by have := h.s.r.len; have := h.s.lr; omega)
  have b := Inv_at ok2 (k := k) (by simpa using hk)
  rw [map_at hk, e, Int.toNat_natCast] at b
  exact b
end Go.Proofs.Ytngglhbcpeigcaa.pm

/-
  The canonical form of a surface and its symmetries: plain mathematics.
-/
namespace Go.Proofs.Ytngglhbcpeigcaa.pm
open Go.Proofs.Ytngglhbcpeigcaa.arr Go.Proofs.Ytngglhbcpeigcaa.inv Go.Proofs.Ytngglhbcpeigcaa.permOf
set_option linter.unusedVariables false
set_option maxRecDepth 100000

abbrev Sur := List Int × List Int
/-- The surface with the names from f. -/
def Fm (R U : List Int) (n : Nat) (f : Int) : Sur := (renTo n R (nm R U f) n, renTo n U (nm R U f) n)
theorem ren_at' {n : Nat} {xs ys : List Int} (h : Ok ys) (lx : xs.length = n) (ly : ys.length = n) {k : Nat} (hk : k < n) : (renTo n xs ys n).getD (ys.getD k 0).toNat 0 = ys.getD (xs.getD k 0).toNat 0 := by
  subst lx; exact ren_at h ly.symm hk
theorem ren_list {n : Nat} {xs ys l : List Int} (h : Ok ys) (lx : xs.length = n) (ly : ys.length = n) (ll : l.length = n) (q : ∀ k, k < n → l.getD (ys.getD k 0).toNat 0 = ys.getD (xs.getD k 0).toNat 0) : renTo n xs ys n = l := by
  refine list_eq n (renTo_len _ _ _ _) ll fun i hi => ?_
  obtain ⟨k, hk, e⟩ := h.onto (y := i) (by omega)
  have a := ren_at' h lx ly (k := k) (by omega)
  have b := q k (by omega)
  rw [e, Int.toNat_natCast] at a b
  rw [a, b]
theorem Iso.F_eq {n : Nat} {R U R' U' ns : List Int} (h : Iso n R U R' U' ns) (s' : Sf n R' U') {f : Int} (f0 : 0 ≤ f) (f1 : f < n) : Fm R' U' n (ns.getD f.toNat 0) = Fm R U n f := by
  have g := h.r.s.maps f.toNat (by omega)
  obtain ⟨nk, nl⟩ := h.s.nok f0 f1
  obtain ⟨nk', nl'⟩ := s'.nok g.1 g.2
  have key : ∀ i, i < n → (nm R' U' (ns.getD f.toNat 0)).getD (ns.getD i 0).toNat 0 = (nm R U f).getD i 0 := fun i hi => h.nm_eq s'.lr f0 f1 hi
  have one : ∀ X X' : List Int, X.length = n → X'.length = n → Maps n X → Ren n X X' ns → renTo n X (nm R U f) n = renTo n X' (nm R' U' (ns.getD f.toNat 0)) n := by
    intro X X' lx lx' mx hr
    refine ren_list nk lx nl (renTo_len _ _ _ _) fun k hk => ?_
    have m := h.r.s.maps k hk
    have a := ren_at' nk' lx' nl' (k := (ns.getD k 0).toNat) (by omega)
    rw [key k hk, hr.eq k hk, key _ (by have := mx k hk; omega)] at a
    exact a
  unfold Fm
  rw [one R R' h.s.lr s'.lr h.s.br.maps h.r, one U U' h.s.lu s'.lu h.s.bu.maps h.u]
/-- A renamed surface is valid. -/
theorem mkIso {n : Nat} {R U ns : List Int} (s : Sf n R U) (hn : Ok ns) (ln : ns.length = n) : Iso n R U (renTo n R ns n) (renTo n U ns n) ns ∧ Sf n (renTo n R ns n) (renTo n U ns n) := by
  have eR : renF R ns = renTo n R ns n := by rw [renF_of s.r hn (by rw [s.lr, ln]), s.lr]
  have eU : renF U ns = renTo n U ns n := by rw [renF_of s.u hn (by rw [s.lu, ln]), s.lu]
  have rR := ren_ren s.r hn s.lr ln; have rU := ren_ren s.u hn s.lu ln
  have oR := ren_ok s.r hn s.lr ln; have oU := ren_ok s.u hn s.lu ln
  rw [eR] at rR oR; rw [eU] at rU oU
  have iso : Iso n R U (renTo n R ns n) (renTo n U ns n) ns := ⟨s, hn, ln, rR, rU⟩
  refine ⟨iso, oR.1, oU.1, oR.2, oU.2, s.pos, ?_⟩
  obtain ⟨g, hg, e⟩ := hn.onto (y := 0) (by have := s.pos; omega)
  have := iso.reach_eq oR.2 (f := (g : Int)) (by omega) (by omega)
  rw [Int.toNat_natCast, e] at this
  have e0 : ((0 : Nat) : Int) = 0 := rfl
  rw [e0] at this
  rw [this, List.length_map, s.flen (by omega) (by omega)]

/-- The first difference decides. -/
def lessL : List Int → List Int → Bool
  | a :: s, b :: t => if a = b then lessL s t else decide (a < b)
  | _, _ => false
theorem lessL_irr (a : List Int) : lessL a a = false := by
  induction a with
  | nil => rfl
  | cons x t ih => simp [lessL, ih]
theorem lessL_total : ∀ (a b : List Int), a.length = b.length → a ≠ b → lessL a b = true ∨ lessL b a = true := by
  intro a
  induction a with
  | nil => intro b hl hne; cases b with
    | nil => exact absurd rfl hne
    | cons y t => simp at hl
  | cons x s ih =>
    intro b hl hne
    cases b with
    | nil => simp at hl
    | cons y t =>
      simp only [lessL]
      by_cases e : x = y
      · subst e
        simp only [if_true]
        exact ih t (by simpa using hl) (fun q => hne (by rw [q]))
      · rw [if_neg e, if_neg (fun q => e q.symm)]
        simp only [decide_eq_true_eq]
        omega
theorem lessL_trans : ∀ (a b c : List Int), lessL a b = true → lessL b c = true → lessL a c = true := by
  intro a
  induction a with
  | nil => intro b c h; simp [lessL] at h
  | cons x s ih =>
    intro b c h1 h2
    cases b with
    | nil => simp [lessL] at h1
    | cons y t =>
      cases c with
      | nil => simp [lessL] at h2
      | cons z u =>
        simp only [lessL] at h1 h2 ⊢
        by_cases e1 : x = y
        · subst e1
          rw [if_pos rfl] at h1
          by_cases e2 : x = z
          · subst e2; rw [if_pos rfl] at h2 ⊢; exact ih t u h1 h2
          · rw [if_neg e2] at h2 ⊢; exact h2
        · rw [if_neg e1] at h1
          simp only [decide_eq_true_eq] at h1
          by_cases e2 : y = z
          · subst e2; rw [if_neg e1]; simpa using h1
          · rw [if_neg e2] at h2
            simp only [decide_eq_true_eq] at h2
            rw [if_neg (by omega)]
            simp only [decide_eq_true_eq]
            omega
/-- First Right, then Up. -/
def bef (a b : Sur) : Bool := if a.1 = b.1 then lessL a.2 b.2 else lessL a.1 b.1
theorem bef_irr (a : Sur) : bef a a = false := by simp [bef, lessL_irr]
theorem bef_total {a b : Sur} (h1 : a.1.length = b.1.length) (h2 : a.2.length = b.2.length) (hne : a ≠ b) : bef a b = true ∨ bef b a = true := by
  unfold bef
  by_cases e : a.1 = b.1
  · rw [if_pos e, if_pos e.symm]
    exact lessL_total _ _ h2 (fun q => hne (Prod.ext e q))
  · rw [if_neg e, if_neg (fun q => e q.symm)]
    exact lessL_total _ _ h1 e
theorem bef_trans {a b c : Sur} (h1 : bef a b = true) (h2 : bef b c = true) : bef a c = true := by
  unfold bef at *
  by_cases e1 : a.1 = b.1
  · rw [if_pos e1] at h1
    by_cases e2 : b.1 = c.1
    · rw [if_pos e2] at h2; rw [if_pos (e1.trans e2)]; exact lessL_trans _ _ _ h1 h2
    · rw [if_neg e2] at h2; rw [if_neg (fun q => e2 (e1.symm.trans q)), e1]; exact h2
  · rw [if_neg e1] at h1
    by_cases e2 : b.1 = c.1
    · rw [if_neg (fun q => e1 (q.trans e2.symm)), ← e2]; exact h1
    · rw [if_neg e2] at h2
      have := lessL_trans _ _ _ h1 h2
      rw [if_neg (fun q => by rw [q, lessL_irr] at this; cases this)]
      exact this
/-- The least of the first k + 1. -/
def canTo (F : Int → Sur) : Nat → Sur
  | 0 => F 0
  | k + 1 => if bef (F ((k : Int) + 1)) (canTo F k) then F ((k : Int) + 1) else canTo F k
theorem canTo_is (F : Int → Sur) (k : Nat) : ∃ j : Nat, j ≤ k ∧ canTo F k = F (j : Int) := by
  induction k with
  | zero => exact ⟨0, Nat.le_refl _, rfl⟩
  | succ k ih =>
    obtain ⟨j, hj, e⟩ := ih
    rw [canTo]; split
    · exact ⟨k + 1, Nat.le_refl _, by simp⟩
    · exact ⟨j, by omega, e⟩
theorem canTo_min (F : Int → Sur) (k : Nat) : ∀ i : Nat, i ≤ k → bef (F (i : Int)) (canTo F k) = false := by
  induction k with
  | zero => intro i hi; obtain rfl : i = 0 := by omega
            exact bef_irr _
  | succ k ih =>
    intro i hi
    rw [canTo]; split
    · rename_i h
      by_cases e : i = k + 1
      · subst e; simp [bef_irr]
      · cases q : bef (F (i : Int)) (F ((k : Int) + 1)) with
        | false => rfl
        | true => have := bef_trans q h; rw [ih i (by omega)] at this; cases this
    · rename_i h
      by_cases e : i = k + 1
      · subst e; simpa using h
      · exact ih i (by omega)
def can (R U : List Int) (n : Nat) : Sur := canTo (Fm R U n) (n - 1)
theorem Fm_len (R U : List Int) (n : Nat) (f : Int) : (Fm R U n f).1.length = n ∧ (Fm R U n f).2.length = n := ⟨renTo_len _ _ _ _, renTo_len _ _ _ _⟩
theorem can_is {R U : List Int} {n : Nat} (h : 0 < n) : ∃ j : Nat, j < n ∧ can R U n = Fm R U n (j : Int) := by
  obtain ⟨j, hj, e⟩ := canTo_is (Fm R U n) (n - 1)
  exact ⟨j, by omega, e⟩
theorem can_min {R U : List Int} {n i : Nat} (hi : i < n) : bef (Fm R U n (i : Int)) (can R U n) = false := canTo_min _ _ i (by omega)
/-- Two minima of the same set are one. -/
theorem can_unique {R U R' U' : List Int} {n : Nat} (hn : 0 < n) (h1 : ∀ i : Nat, i < n → ∃ j : Nat, j < n ∧ Fm R U n (i : Int) = Fm R' U' n (j : Int)) (h2 : ∀ j : Nat, j < n → ∃ i : Nat, i < n ∧ Fm R' U' n (j : Int) = Fm R U n (i : Int)) : can R' U' n = can R U n := by
  obtain ⟨a, ha, ea⟩ := can_is (R := R) (U := U) hn
  obtain ⟨b, hb, eb⟩ := can_is (R := R') (U := U') hn
  obtain ⟨a', ha', ea'⟩ := h1 a ha
  obtain ⟨b', hb', eb'⟩ := h2 b hb
  have m1 := can_min (R := R') (U := U') ha'
  have m2 := can_min (R := R) (U := U) hb'
  rw [← ea', ← ea] at m1
  rw [← eb', ← eb] at m2
  by_cases e : can R' U' n = can R U n
  · exact e
  · rcases bef_total (by rw [ea, eb, (Fm_len _ _ _ _).1, (Fm_len _ _ _ _).1]) (by rw [ea, eb, (Fm_len _ _ _ _).2, (Fm_len _ _ _ _).2]) e with q | q
    · rw [m2] at q; cases q
    · rw [m1] at q; cases q
theorem Iso.can_eq {n : Nat} {R U R' U' ns : List Int} (h : Iso n R U R' U' ns) (s' : Sf n R' U') : can R' U' n = can R U n := by
  refine can_unique h.s.pos (fun i hi => ?_) (fun j hj => ?_)
  · have m := h.r.s.maps i hi
    have := h.F_eq s' (f := (i : Int)) (by omega) (by omega)
    rw [Int.toNat_natCast] at this
    exact ⟨(ns.getD i 0).toNat, by omega, by rw [Int.toNat_of_nonneg m.1, this]⟩
  · obtain ⟨i, hi, e⟩ := h.okn.onto (y := j) (by have := h.ln; omega)
    have := h.F_eq s' (f := (i : Int)) (by omega) (by have := h.ln; omega)
    rw [Int.toNat_natCast, e] at this
    exact ⟨i, by have := h.ln; omega, this⟩
/-- The canonical form is a valid surface with the same canonical form. -/
theorem Sf.can_iso {n : Nat} {R U : List Int} (s : Sf n R U) : ∃ ns, Iso n R U (can R U n).1 (can R U n).2 ns ∧ Sf n (can R U n).1 (can R U n).2 := by
  obtain ⟨j, hj, e⟩ := can_is (R := R) (U := U) s.pos
  obtain ⟨k, l⟩ := s.nok (f := (j : Int)) (by omega) (by omega)
  rw [e]
  exact ⟨_, mkIso s k l⟩
end Go.Proofs.Ytngglhbcpeigcaa.pm

/-
  The symmetries of a surface divide its squares, and renaming keeps their number: plain mathematics.
-/
namespace Go.Proofs.Ytngglhbcpeigcaa.pm
open Go.Proofs.Ytngglhbcpeigcaa.arr Go.Proofs.Ytngglhbcpeigcaa.inv Go.Proofs.Ytngglhbcpeigcaa.permOf
set_option linter.unusedVariables false
set_option maxRecDepth 100000

theorem dvd_count {α : Type} [DecidableEq α] (K : Nat) : ∀ (m : Nat) (l : List α), l.length ≤ m → (∀ x ∈ l, l.countP (fun y => decide (y = x)) = K) → K ∣ l.length := by
  intro m
  induction m with
  | zero =>
    intro l hl _
    have : l.length = 0 := by omega
    rw [this]; exact Nat.dvd_zero K
  | succ m ih =>
    intro l hl h
    cases l with
    | nil => exact Nat.dvd_zero K
    | cons a t =>
      have hp := List.length_eq_countP_add_countP (fun y => decide (y = a)) (l := a :: t)
      have hc : (a :: t).countP (fun y => decide (y = a)) = K := h a (by simp)
      have kp : 0 < K := by rw [← hc]; exact List.countP_pos_iff.2 ⟨a, by simp, by simp⟩
      generalize hr : (fun y => decide ¬(decide (y = a)) = true) = r at hp
      have hf : (a :: t).countP r = ((a :: t).filter r).length := List.countP_eq_length_filter
      have hd := ih ((a :: t).filter r) (by rw [← hf]; omega) (by
        intro x hx
        obtain ⟨hx1, hx2⟩ := List.mem_filter.1 hx
        rw [List.countP_filter, ← h x hx1]
        refine List.countP_congr fun y _ => ?_
        constructor
        · intro q; simp only [Bool.and_eq_true] at q; exact q.1
        · intro q
          have e : y = x := by simpa using q
          subst e
          simp only [Bool.and_eq_true]
          exact ⟨by simp, hx2⟩)
      rw [hp, hc, hf]
      exact Nat.dvd_add (Nat.dvd_refl K) hd
/-- The renaming that takes f's names to h's. -/
def phi (R U : List Int) (f h : Int) : List Int := thn (nm R U f) (reach R U h)
section
variable {n : Nat} {R U : List Int} (s : Sf n R U) {f g h : Int} (f0 : 0 ≤ f) (f1 : f < n) (h0 : 0 ≤ h) (h1 : h < n)
include s f0 f1 h0 h1
theorem phi_ok : Ok (phi R U f h) ∧ (phi R U f h).length = n := by
  obtain ⟨k, l⟩ := s.nok f0 f1
  exact ⟨thn_ok k (s.rok h0 h1) (by rw [l, s.flen h0 h1]), by unfold phi; rw [thn_len, l]⟩
/-- h's name for phi's image is f's name. -/
theorem phi_nm {i : Nat} (hi : i < n) : (nm R U h).getD ((phi R U f h).getD i 0).toNat 0 = (nm R U f).getD i 0 := by
  obtain ⟨k, l⟩ := s.nok f0 f1
  unfold phi
  rw [thn_at (by omega)]
  have m := k.maps i (by omega)
  unfold nm at m ⊢
  have := Inv_at (s.rok h0 h1) (k := ((Inv (reach R U f)).getD i 0).toNat) (by rw [s.flen h0 h1]; unfold nm at l; omega)
  rw [this, Int.toNat_of_nonneg m.1]
theorem phi_f : (phi R U f h).getD f.toNat 0 = h := by
  obtain ⟨k, l⟩ := s.nok f0 f1
  have hr : ∀ q : Int, 0 ≤ q → q < n → (reach R U q).getD 0 0 = q := by
    intro q q0 q1
    have := rs_pre R U q (Nat.zero_le R.length)
    have e := pre_at this (k := 0) (by simp [rs])
    unfold reach; rw [e]; rfl
  have e := Inv_at (s.rok f0 f1) (k := 0) (by rw [s.flen f0 f1]; exact s.pos)
  rw [hr f f0 f1] at e
  unfold phi
  rw [thn_at (by omega)]
  unfold nm
  rw [e]
  exact hr h h0 h1
theorem phi_auto (e : Fm R U n h = Fm R U n f) : Iso n R U R U (phi R U f h) := by
  obtain ⟨pk, pl⟩ := phi_ok s f0 f1 h0 h1
  obtain ⟨fk, fl⟩ := s.nok f0 f1
  obtain ⟨hk, hl⟩ := s.nok h0 h1
  have eR : renTo n R (nm R U h) n = renTo n R (nm R U f) n := congrArg Prod.fst e
  have eU : renTo n U (nm R U h) n = renTo n U (nm R U f) n := congrArg Prod.snd e
  have pb : Bij n (phi R U f h) := by have := pk.bij; rw [pl] at this; exact this
  have one : ∀ X : List Int, X.length = n → Bij n X → renTo n X (nm R U h) n = renTo n X (nm R U f) n → Ren n X X (phi R U f h) := by
    intro X lx bx ex
    refine ⟨bx, bx, pb, fun i hi => ?_⟩
    have m := pb.maps i hi
    have mx := bx.maps i hi
    have a := ren_at' hk lx hl (k := ((phi R U f h).getD i 0).toNat) (by omega)
    rw [phi_nm s f0 f1 h0 h1 hi, ex, ren_at' fk lx fl hi, ← phi_nm s f0 f1 h0 h1 (i := (X.getD i 0).toNat) (by omega)] at a
    have m1 := bx.maps ((phi R U f h).getD i 0).toNat (by omega)
    have m2 := pb.maps (X.getD i 0).toNat (by omega)
    have := hk.inj _ _ (by omega) (by omega) a
    omega
  exact ⟨s, pk, pl, one R s.lr s.br eR, one U s.lu s.bu eU⟩
end
def fib (R U : List Int) (n : Nat) (f : Int) : List Int := (rng n).filter fun h => decide (Fm R U n h = Fm R U n f)
theorem mem_fib {R U : List Int} {n : Nat} {f h : Int} : h ∈ fib R U n f ↔ (0 ≤ h ∧ h < n) ∧ Fm R U n h = Fm R U n f := by
  unfold fib; rw [List.mem_filter, mem_rng]; simp
theorem fib_le {n : Nat} {R U : List Int} (s : Sf n R U) {f g : Int} (f0 : 0 ≤ f) (f1 : f < n) (g0 : 0 ≤ g) (g1 : g < n) : (fib R U n f).length ≤ (fib R U n g).length := by
  have := nodup_sub_len ((fib R U n f).map fun h => (phi R U f h).getD g.toNat 0) (fib R U n g) (by
    unfold List.Nodup
    rw [List.pairwise_map]
    refine List.Pairwise.imp_of_mem ?_ (List.Pairwise.filter _ (rng_nodup n))
    intro h h' hh hh' hne q
    obtain ⟨⟨a0, a1⟩, ae⟩ := mem_fib.1 hh
    obtain ⟨⟨b0, b1⟩, be⟩ := mem_fib.1 hh'
    have A := phi_auto s f0 f1 a0 a1 ae
    have B := phi_auto s f0 f1 b0 b1 be
    have p := A.r.s.maps g.toNat (by omega)
    have na := A.nm_eq s.lr g0 g1 (i := f.toNat) (by omega)
    have nb := B.nm_eq s.lr g0 g1 (i := f.toNat) (by omega)
    rw [← q, phi_f s f0 f1 b0 b1] at nb
    rw [phi_f s f0 f1 a0 a1] at na
    obtain ⟨nk, nl⟩ := s.nok p.1 p.2
    have := nk.inj _ _ (by omega) (by omega) (na.trans nb.symm)
    omega) (by
    intro x hx
    obtain ⟨h, hh, rfl⟩ := List.mem_map.1 hx
    obtain ⟨⟨a0, a1⟩, ae⟩ := mem_fib.1 hh
    have A := phi_auto s f0 f1 a0 a1 ae
    exact mem_fib.2 ⟨A.r.s.maps g.toNat (by omega), A.F_eq s g0 g1⟩)
  simpa using this
/-- The number of squares from which the names give the canonical form. -/
def sym (R U : List Int) (n : Nat) : Nat := (rng n).countP fun h => decide (Fm R U n h = can R U n)
theorem sym_fib {n : Nat} {R U : List Int} (s : Sf n R U) : ∃ j : Nat, j < n ∧ sym R U n = (fib R U n (j : Int)).length := by
  obtain ⟨j, hj, e⟩ := can_is (R := R) (U := U) s.pos
  exact ⟨j, hj, by unfold sym fib; rw [List.countP_eq_length_filter, e]⟩
theorem sym_pos {n : Nat} {R U : List Int} (s : Sf n R U) : 0 < sym R U n := by
  obtain ⟨j, hj, e⟩ := sym_fib s
  rw [e]
  exact List.length_pos_of_mem (mem_fib.2 ⟨⟨by omega, by omega⟩, rfl⟩ : (j : Int) ∈ fib R U n (j : Int))
theorem sym_le {n : Nat} {R U : List Int} : sym R U n ≤ n := by
  have := List.countP_le_length (p := fun h => decide (Fm R U n h = can R U n)) (l := rng n)
  rw [rng_len] at this
  exact this
theorem sym_dvd {n : Nat} {R U : List Int} (s : Sf n R U) : sym R U n ∣ n := by
  obtain ⟨j, hj, e⟩ := sym_fib s
  have := dvd_count (sym R U n) n ((rng n).map (Fm R U n)) (by simp [rng]) (by
    intro x hx
    obtain ⟨f, hf, rfl⟩ := List.mem_map.1 hx
    rw [mem_rng] at hf
    rw [List.countP_map, e]
    have q : (rng n).countP ((fun y => decide (y = Fm R U n f)) ∘ Fm R U n) = (fib R U n f).length := by
      unfold fib
      rw [List.countP_eq_length_filter]
      rfl
    rw [q]
    have a := fib_le s hf.1 hf.2 (g := (j : Int)) (by omega) (by omega)
    have b := fib_le s (f := (j : Int)) (by omega) (by omega) hf.1 hf.2
    omega)
  rw [List.length_map, rng_len] at this
  exact this
theorem Iso.sym_eq {n : Nat} {R U R' U' ns : List Int} (h : Iso n R U R' U' ns) (s' : Sf n R' U') : sym R' U' n = sym R U n := by
  unfold sym
  rw [← h.r.s.map_rng.countP_eq, List.countP_map]
  refine List.countP_congr fun x hx => ?_
  rw [mem_rng] at hx
  simp only [Function.comp]
  rw [h.F_eq s' hx.1 hx.2, h.can_eq s']
end Go.Proofs.Ytngglhbcpeigcaa.pm

/-
  The program's gluing: two arrays and a number, by value; gluingOf, surface.
-/
namespace Go.Proofs.Ytngglhbcpeigcaa.gl
open Go.ChangeShapes Go.WideShapes Go.ChangeAt Go.RowKit
open Go.Proofs.Ytngglhbcpeigcaa.mem Go.Proofs.Ytngglhbcpeigcaa.ints Go.Proofs.Ytngglhbcpeigcaa.arr Go.Proofs.Ytngglhbcpeigcaa.pm Go.Proofs.Ytngglhbcpeigcaa.permOk Go.Proofs.Ytngglhbcpeigcaa.permOf Go.Proofs.Ytngglhbcpeigcaa.inv Go.Proofs.Ytngglhbcpeigcaa.fns Go.Proofs.Ytngglhbcpeigcaa.sf
set_option linter.unusedVariables false
set_option maxRecDepth 100000

/-- Right, Up and the number of squares, in one row. -/
def gl (p q : List Int) (n : Nat) : List Int := p ++ q ++ [(n : Int)]
def zero49 : List Int := List.replicate 49 0
theorem gl_len {p q : List Int} (hp : p.length = 24) (hq : q.length = 24) (n : Nat) : (gl p q n).length = 49 := by simp [gl, hp, hq]
theorem zero49_len : zero49.length = 49 := by simp [zero49]
theorem info49 : (Try.prog.info? 62).map (·.size) = some 49 := by kernel_rfl
theorem size49 {l : List Int} (h : l.length = 49) : (Try.prog.info? 62).map (·.size) = some (V l).toArray.size := by rw [info49]; simp [V, h]
theorem list24 {l : List Int} (h : l.length = 24) : ∃ a0 a1 a2 a3 a4 a5 a6 a7 a8 a9 b0 b1 b2 b3 b4 b5 b6 b7 b8 b9 c0 c1 c2 c3, l = [a0, a1, a2, a3, a4, a5, a6, a7, a8, a9, b0, b1, b2, b3, b4, b5, b6, b7, b8, b9, c0, c1, c2, c3] := by
  match l, h with
  | [a0, a1, a2, a3, a4, a5, a6, a7, a8, a9, b0, b1, b2, b3, b4, b5, b6, b7, b8, b9, c0, c1, c2, c3], _ => exact ⟨a0, a1, a2, a3, a4, a5, a6, a7, a8, a9, b0, b1, b2, b3, b4, b5, b6, b7, b8, b9, c0, c1, c2, c3, rfl⟩
theorem built_gl {p q : List Int} (hp : p.length = 24) (hq : q.length = 24) (n : Nat) :
    Try.prog.built 62 [(0, .agg (V p).toArray), (1, .agg (V q).toArray), (2, .int .i64 n)] = some (V (gl p q n)).toArray := by
  obtain ⟨a0, a1, a2, a3, a4, a5, a6, a7, a8, a9, b0, b1, b2, b3, b4, b5, b6, b7, b8, b9, c0, c1, c2, c3, rfl⟩ := list24 hp
  obtain ⟨a0', a1', a2', a3', a4', a5', a6', a7', a8', a9', b0', b1', b2', b3', b4', b5', b6', b7', b8', b9', c0', c1', c2', c3', rfl⟩ := list24 hq
  kernel_rfl
theorem built_zero : Try.prog.built 62 [] = some (V zero49).toArray := by kernel_rfl
theorem wpList_build {P : Program} {ops : Array Oper} {rest : List Oper} {o : Oper} {a : Act} {w : World} {Q : Exit → Act → World → Prop} (hgd : o.guard = none) (t : TypeId) (parts : Array (Nat × Operand)) (ho : o.op = .build t parts)
    (l : List (Nat × Value)) (hl : (parts.toList.map fun p => (p.1, a.eval p.2)) = l) (cells : Array Value) (hb : P.built t l = some cells)
    (h : wpList P ops Q rest (a.put o.dst (.agg cells)) w) : wpList P ops Q (o :: rest) a w := by
  have hb' : P.built t (parts.map fun (i, x) => (i, a.eval x)).toList = some cells := by
    rw [Array.toList_map]
    subst hl
    exact hb
  refine wpList_plain hgd fun K hK => wp_build t parts ho (by rw [hb']; rfl) ?_
  rw [hb']
  exact hK _ _ h
theorem gl_right {w : World} {b : Nat} {p q : List Int} {n : Nat} {t : TypeId} (hp : p.length = 24) (h : Arr w b (V (gl p q n)) t) : w.rangeAt b 0 (V p) := fun j v hv => by
  have hj : j < 24 := by have := (List.getElem?_eq_some_iff.1 hv).1; simpa [V, hp] using this
  rw [Nat.zero_add]
  refine h.cell ?_
  rw [← hv]
  simp only [gl, V, List.map_append, List.append_assoc]
  rw [List.getElem?_append_left (by simp; omega)]
theorem gl_up {w : World} {b : Nat} {p q : List Int} {n : Nat} {t : TypeId} (hp : p.length = 24) (hq : q.length = 24) (h : Arr w b (V (gl p q n)) t) : w.rangeAt b 24 (V q) := fun j v hv => by
  have hj : j < 24 := by have := (List.getElem?_eq_some_iff.1 hv).1; simpa [V, hq] using this
  refine h.cell ?_
  rw [← hv]
  simp only [gl, V, List.map_append, List.append_assoc]
  rw [List.getElem?_append_right (by simp; omega), List.getElem?_append_left (by simp; omega)]
  congr 1; simp; omega
theorem gl_count {w : World} {b : Nat} {p q : List Int} {n : Nat} {t : TypeId} (hp : p.length = 24) (hq : q.length = 24) (h : Arr w b (V (gl p q n)) t) : w.cell? ⟨b, 48, none⟩ = some (.int .i64 n) := by
  refine h.cell ?_
  simp only [gl, V, List.map_append]
  rw [List.getElem?_append_right (by simp; omega)]
  simp [hp, hq]
theorem right_at {p q : List Int} {n k : Nat} (hp : p.length = 24) (hk : k < 24) : (gl p q n).getD k 0 = p.getD k 0 := by
  simp only [gl, List.append_assoc, List.getD]
  rw [List.getElem?_append_left (by omega)]
theorem up_at {p q : List Int} {n k : Nat} (hp : p.length = 24) (hq : q.length = 24) (hk : k < 24) : (gl p q n).getD (24 + k) 0 = q.getD k 0 := by
  simp only [gl, List.append_assoc, List.getD]
  rw [List.getElem?_append_right (by omega), List.getElem?_append_left (by omega)]
  congr 2; omega

theorem Srd.fst {w : World} {hi : Nat} {P Q : Option Addr} {n c m d : Nat} {r u : List Int} (h : Srd w hi (.agg #[.slice P n c, .slice Q m d]) r u) : Rd w hi P n (V r) := by
  obtain ⟨P', n', c', Q', m', d', e, a, b, _⟩ := h
  simp at e
  obtain ⟨⟨rfl, rfl, rfl⟩, rfl, rfl, rfl⟩ := e
  exact a
theorem Srd.snd {w : World} {hi : Nat} {P Q : Option Addr} {n c m d : Nat} {r u : List Int} (h : Srd w hi (.agg #[.slice P n c, .slice Q m d]) r u) : Rd w hi Q m (V u) := by
  obtain ⟨P', n', c', Q', m', d', e, a, b, _⟩ := h
  simp at e
  obtain ⟨⟨rfl, rfl, rfl⟩, rfl, rfl, rfl⟩ := e
  exact b
/-- What gluingOf gives. -/
def glv (r u : List Int) : List Int := if transB r u then gl (ext r) (ext u) r.length else zero49
theorem glv_len (r u : List Int) : (glv r u).length = 49 := by unfold glv; split; exact gl_len (ext_len _) (ext_len _) _; exact zero49_len
theorem glv_yes {r u : List Int} (h : transB r u = true) : glv r u = gl (ext r) (ext u) r.length := by simp [glv, h]
theorem glv_no {r u : List Int} (h : transB r u = false) : glv r u = zero49 := by simp [glv, h]
def GPost (r u : List Int) (w : World) (e : Ending) (w' : World) : Prop := e = .returned (.tuple #[.agg (V (glv r u)).toArray, .bool (transB r u)]) ∧ Below w.heap.size w w'
theorem gpost {r u l : List Int} {w w' : World} {b : Bool} (h : transB r u = b) (hl : glv r u = l) (hb : Below w.heap.size w w') : GPost r u w (.returned (.tuple #[.agg (V l).toArray, .bool b])) w' := by
  subst h; subst hl; exact ⟨rfl, hb⟩

set_option maxHeartbeats 4000000 in
theorem gluingOf_any (v : Value) (r u : List Int) (hi : Nat) (w : World) (hx : Srd w hi v r u) (hn : r.length ≤ 1048576) (hm : u.length ≤ 1048576) :
    Calls Try.prog 30 #[v] w (GPost r u w) := by
  have HX := Lib.hid hx; clear hx
  obtain ⟨P, n, c, Q, m, d, rfl, q1, q2, e1, e2, ht, HR⟩ := HX.out.open
  have L1 := Lib.hid q1
  have N0 := Lib.hid (fun o => Arr.new (w.alloc o) (V zero49) 62 (g := w.heap.size + 1) (by simp))
  have B0 : Hid (∀ a b, Below w.heap.size w ((w.alloc a).alloc b)) := Lib.hid (fun a b => ((Below.refl _ _).alloc (Nat.le_refl _) _).alloc (by simp) _)
  go_enter Try.func30, Try.ntmps30
  go_wp2_with fail
  refine (ok_impl _ r u hi _ (HX.out.keep (((Below.refl hi w).alloc ht _).alloc (by simp; omega) _) (Nat.le_refl _)) hn hm).mono ?_
  rintro e w1 ⟨rfl, b1⟩
  have hs1 : w.heap.size + 2 ≤ w1.heap.size := by have := b1.size; simpa using this
  have A0 := Lib.hid (((Arr.new w [.slice P n c, .slice Q m d] 28 rfl).alloc _).keep b1 (by simp <;> omega))
  have A1 := Lib.hid ((N0.out _).keep b1 (by simp))
  have B1 : Hid (Below w.heap.size w w1) := Lib.hid ((B0.out _ _).trans (b1.mono (by simp <;> omega)))
  clear b1 N0
  cases hq : transB r u
  · have HQ := Lib.hid hq; clear hq
    have HG := Lib.hid (glv_no HQ.out)
    go_wp2_with (first | (refine wpList_build rfl 62 _ rfl [] rfl (V zero49).toArray built_zero ?_) | (refine wpList_store_row rfl 62 _ _ rfl (w.heap.size + 1) (V zero49).toArray rfl rfl 62 (V zero49).toArray A1.out (size49 zero49_len) rfl (one_V _) ?_))
    exact bodyPost_ret (v := .tuple #[.agg (V zero49).toArray, .bool false]) (permOf.results_cell_tmp rfl _ _ (w.heap.size + 1) 62 (V zero49).toArray (0, 0) _ _ rfl rfl A1.out.row Try.underlying62 rfl (size49 zero49_len)) rfl (gpost HQ.out HG.out (below_setRow B1.out (by omega) _))
  · have hok := (transB_iff.1 hq)
    have HQ := Lib.hid hq; clear hq
    have HG := Lib.hid (glv_yes HQ.out)
    have HB : Hid (okBB r u = true) := Lib.hid (okBB_iff.2 ⟨hok.r.b, hok.u.b, by rw [hok.lu]⟩)
    have HS := Lib.hid hok; clear hok
    have c0 := A0.out.cell (k := 0) rfl
    have c1 := A0.out.cell (k := 1) rfl
    go_wp2_with fail
    refine (permsOf_any P n c Q m d r u hi hi _ (Srd.fst (HX.out.keep (B1.out.mono (by omega)) (Nat.le_refl _))) (Srd.snd (HX.out.keep (B1.out.mono (by omega)) (Nat.le_refl _))) (by omega) (by omega) (by omega) (by omega)).mono ?_
    rintro e w2 ⟨rfl, b2⟩
    rw [HB.out, if_pos rfl, if_pos rfl]
    have hs2 := b2.size
    replace A0 := Lib.hid (A0.out.keep b2 A0.out.lt)
    replace A1 := Lib.hid (A1.out.keep b2 A1.out.lt)
    replace B1 : Hid (Below w.heap.size w w2) := Lib.hid (B1.out.trans (b2.mono B1.out.size))
    clear b2 c0 c1
    go_wp2_with (first | (refine wpList_store_row rfl 60 (.tmp 4) (.tmp 17) rfl w2.heap.size (V (ext r)).toArray rfl rfl 60 (V zeros).toArray ((Arr.new w2 (V zeros) _ rfl).alloc _) (size_V (ext_len _)) (by simp [V_len, ext_len, zeros]) (one_V _) ?_; generalize hw3 : ((w2.alloc (.cells #[.int .i64 0, .int .i64 0, .int .i64 0, .int .i64 0, .int .i64 0, .int .i64 0, .int .i64 0, .int .i64 0, .int .i64 0, .int .i64 0, .int .i64 0, .int .i64 0, .int .i64 0, .int .i64 0, .int .i64 0, .int .i64 0, .int .i64 0, .int .i64 0, .int .i64 0, .int .i64 0, .int .i64 0, .int .i64 0, .int .i64 0, .int .i64 0] 60)).alloc (.cells #[.int .i64 0, .int .i64 0, .int .i64 0, .int .i64 0, .int .i64 0, .int .i64 0, .int .i64 0, .int .i64 0, .int .i64 0, .int .i64 0, .int .i64 0, .int .i64 0, .int .i64 0, .int .i64 0, .int .i64 0, .int .i64 0, .int .i64 0, .int .i64 0, .int .i64 0, .int .i64 0, .int .i64 0, .int .i64 0, .int .i64 0, .int .i64 0] 60)).setRow w2.heap.size (V (ext r)).toArray = w3; have S1 : Hid (Arr w3 w2.heap.size (V (ext r)) 60) := Lib.hid (by rw [← hw3]; exact ((Arr.new w2 (V zeros) _ rfl).alloc _).row); have S2 : Hid (Arr w3 (w2.heap.size + 1) (V zeros) 60) := Lib.hid (by rw [← hw3]; exact (Arr.new _ (V zeros) _ (by simp)).rowOther (by omega)); have b3 : Below w2.heap.size w2 w3 := (by rw [← hw3]; exact arr.below_setRow (((Below.refl _ _).alloc (Nat.le_refl _) _).alloc (by simp) _) (Nat.le_refl _) _); replace A0 := Lib.hid (A0.out.keep b3 A0.out.lt); replace A1 := Lib.hid (A1.out.keep b3 A1.out.lt); replace B1 : Hid (Below w.heap.size w w3) := Lib.hid (B1.out.trans (b3.mono B1.out.size)); clear hw3 b3) | (refine wpList_store_row rfl 60 (.tmp 5) (.tmp 18) rfl (w2.heap.size + 1) (V (ext u)).toArray rfl rfl 60 (V zeros).toArray S2.out (size_V (ext_len _)) (by simp [V_len, ext_len, zeros]) (one_V _) ?_; generalize hw4 : w3.setRow (w2.heap.size + 1) (V (ext u)).toArray = w4; have T1 : Hid (Arr w4 w2.heap.size (V (ext r)) 60) := Lib.hid (by rw [← hw4]; exact S1.out.rowOther (by omega)); have T2 : Hid (Arr w4 (w2.heap.size + 1) (V (ext u)) 60) := Lib.hid (by rw [← hw4]; exact S2.out.row); have b4 : Below w2.heap.size w3 w4 := (by rw [← hw4]; exact arr.below_setRow (Below.refl _ _) (by omega) _); replace A0 := Lib.hid (A0.out.keep b4 (by omega)); replace A1 := Lib.hid (A1.out.keep b4 (by omega)); replace B1 : Hid (Below w.heap.size w w4) := Lib.hid (B1.out.trans (b4.mono (by omega))); have c0 := A0.out.cell (k := 0) rfl; clear hw4 S1 S2 b4) | (refine wpList_load_row rfl 60 (.tmp 4) rfl w2.heap.size rfl 60 (V (ext r)).toArray (0, 0) _ T1.out Try.underlying60 rfl (size_V (ext_len _)) ?_) | (refine wpList_load_row rfl 60 (.tmp 5) rfl (w2.heap.size + 1) rfl 60 (V (ext u)).toArray (0, 0) _ T2.out Try.underlying60 rfl (size_V (ext_len _)) ?_) | (refine wpList_build rfl 62 _ rfl [(0, .agg (V (ext r)).toArray), (1, .agg (V (ext u)).toArray), (2, .int .i64 n)] rfl (V (gl (ext r) (ext u) n)).toArray (built_gl (ext_len _) (ext_len _) n) ?_) | (refine wpList_store_row rfl 62 _ _ rfl (w.heap.size + 1) (V (gl (ext r) (ext u) n)).toArray rfl rfl 62 (V zero49).toArray A1.out (size49 (gl_len (ext_len _) (ext_len _) n)) (by simp [V_len, gl_len, ext_len, zero49]) (one_V _) ?_))
    exact bodyPost_ret (v := .tuple #[.agg (V (gl (ext r) (ext u) n)).toArray, .bool true]) (permOf.results_cell_tmp rfl _ _ (w.heap.size + 1) 62 (V (gl (ext r) (ext u) n)).toArray (0, 0) _ _ rfl rfl A1.out.row Try.underlying62 rfl (size49 (gl_len (ext_len _) (ext_len _) n))) rfl (gpost HQ.out (by rw [HG.out, L1.out]) (below_setRow B1.out (by omega) _))
end Go.Proofs.Ytngglhbcpeigcaa.gl
