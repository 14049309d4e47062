/-
  Surfaces as pairs of permutations: names from a square, under renaming. Plain mathematics.
-/
import Derived.Test.YtglpiopjhddoeaaGrp
namespace Go.Proofs.Ytglpiopjhddoeaa.pm
open Go.Proofs.Ytglpiopjhddoeaa.arr Go.Proofs.Ytglpiopjhddoeaa.inv Go.Proofs.Ytglpiopjhddoeaa.permOf
set_option linter.unusedVariables false
set_option maxRecDepth 100000

theorem nodup_sub_len : ∀ (l m : List Int), l.Nodup → (∀ x ∈ l, x ∈ m) → l.length ≤ m.length := by
  intro l
  induction l with
  | nil => intros; simp
  | cons a t ih =>
    intro m hd hs
    have hd' := List.nodup_cons.1 hd
    have ha := hs a (by simp)
    have := ih (m.erase a) hd'.2 (fun x hx => (List.mem_erase_of_ne (fun (e : x = a) => hd'.1 (by rw [← e]; exact hx))).2 (hs x (by simp [hx])))
    rw [List.length_erase_of_mem ha] at this
    have : 0 < m.length := List.length_pos_of_mem ha
    simp
    omega
theorem nodup_sub_mem {l m : List Int} (hl : l.Nodup) (hs : ∀ x ∈ l, x ∈ m) (hlen : m.length ≤ l.length) {y : Int} (hy : y ∈ m) : y ∈ l := by
  by_cases h : y ∈ l
  · exact h
  · have := nodup_sub_len (y :: l) m (List.nodup_cons.2 ⟨h, hl⟩) (fun x hx => by
      rcases List.mem_cons.1 hx with rfl | hx
      · exact hy
      · exact hs x hx)
    simp at this
    omega
theorem add1_pre (l : List Int) (x : Int) : l <+: add1 l x := by
  unfold add1; split
  · exact List.prefix_refl _
  · exact List.prefix_append _ _
theorem add1_mem (l : List Int) (x : Int) : x ∈ add1 l x := by unfold add1; split <;> simp_all
theorem rnd_pre (ps qs l : List Int) (k : Nat) : l <+: rnd ps qs l k := by
  unfold rnd; split
  · exact (add1_pre _ _).trans (add1_pre _ _)
  · exact List.prefix_refl _
theorem rs_pre (ps qs : List Int) (f : Int) {k m : Nat} (h : k ≤ m) : rs ps qs f k <+: rs ps qs f m := by
  obtain ⟨j, rfl⟩ : ∃ j, m = k + j := ⟨m - k, by omega⟩
  induction j with
  | zero => exact List.prefix_refl _
  | succ j ih => exact (ih (by omega)).trans (rnd_pre _ _ _ _)
theorem pre_at {l m : List Int} (h : l <+: m) {k : Nat} (hk : k < l.length) : m.getD k 0 = l.getD k 0 := by
  obtain ⟨t, rfl⟩ := h
  simp only [List.getD]
  rw [List.getElem?_append_left hk]
theorem rs_early {ps qs : List Int} {f : Int} {k m : Nat} (hk : k < (rs ps qs f m).length) (hm : k ≤ m) : k < (rs ps qs f k).length := by
  rcases Nat.lt_or_ge k (rs ps qs f k).length with h | h
  · exact h
  · rw [rs_stop ps qs f h hm] at hk; omega
/-- What is reached is closed. -/
theorem reach_closed {n : Nat} {ps qs : List Int} (hn : ps.length = n) (hp : Maps n ps) (hq : Maps n qs) {f : Int} (f0 : 0 ≤ f) (f1 : f < n) {x : Int} (hx : x ∈ reach ps qs f) : ps.getD x.toNat 0 ∈ reach ps qs f ∧ qs.getD x.toNat 0 ∈ reach ps qs f := by
  unfold reach at hx ⊢
  rw [hn] at hx ⊢
  obtain ⟨k, hk, e⟩ := mem_getD hx
  have hl := (rs_in hp hq f0 f1 n).len
  have h1 := rs_early hk (by omega)
  rw [pre_at (rs_pre ps qs f (show k ≤ n by omega)) h1] at e
  obtain ⟨z, hz, _, ez⟩ := (rs_in hp hq f0 f1 k).at_ h1
  have st := rs_step ps qs f h1 ez
  have hpre := rs_pre ps qs f (show k + 1 ≤ n by omega)
  rw [ez] at e
  subst e
  rw [Int.toNat_natCast]
  have sub : ∀ y, y ∈ rs ps qs f (k + 1) → y ∈ rs ps qs f n := fun y hy => hpre.subset hy
  refine ⟨sub _ ?_, sub _ ?_⟩
  · rw [st]; exact (add1_pre _ _).subset (add1_mem _ _)
  · rw [st]; exact add1_mem _ _
theorem reach_start (ps qs : List Int) (f : Int) : f ∈ reach ps qs f := by
  have := rs_pre ps qs f (Nat.zero_le ps.length)
  exact this.subset (by simp [rs])
/-- What is reached lies in every closed set that has the beginning. -/
theorem reach_least {ps qs : List Int} {f : Int} (C : Int → Prop) (hf : C f) (hc : ∀ x, C x → C (ps.getD x.toNat 0) ∧ C (qs.getD x.toNat 0)) (k : Nat) : ∀ x ∈ rs ps qs f k, C x := by
  induction k with
  | zero => intro x hx; simp [rs] at hx; subst hx; exact hf
  | succ k ih =>
    intro x hx
    have hx' : x ∈ rnd ps qs (rs ps qs f k) k := hx
    unfold rnd at hx'
    split at hx'
    · rename_i hk
      have hy := hc _ (ih _ (getD_mem hk))
      unfold add1 at hx'
      split at hx' <;> split at hx' <;> (try simp at hx') <;> (first | exact ih x hx' | skip)
      all_goals
        rcases hx' with q | q
        · first
            | exact ih x q
            | (rcases q with q | q
               · exact ih x q
               · subst q; exact hy.1)
        · first
            | (subst q; exact hy.1)
            | (subst q; exact hy.2)
            | (rcases q with q | q
               · subst q; exact hy.1
               · subst q; exact hy.2)
    · exact ih x hx'
/-- A closed list is closed backwards. -/
theorem closed_back {n : Nat} {ps l : List Int} (hb : Bij n ps) (hl : In n l) (hc : ∀ x ∈ l, ps.getD x.toNat 0 ∈ l) {y : Int} (y0 : 0 ≤ y) (y1 : y < n) (h : ps.getD y.toNat 0 ∈ l) : y ∈ l := by
  have hm : (l.map fun x => ps.getD x.toNat 0).Nodup := by
    unfold List.Nodup
    rw [List.pairwise_map]
    refine List.Pairwise.imp_of_mem ?_ hl.nd
    intro a b ha hb' hab e
    have a0 := hl.lo a ha; have a1 := hl.hi a ha; have b0 := hl.lo b hb'; have b1 := hl.hi b hb'
    have := hb.inj _ _ (by omega) (by omega) e
    omega
  have := nodup_sub_mem hm (fun x hx => by obtain ⟨z, hz, rfl⟩ := List.mem_map.1 hx; exact hc z hz) (by simp) h
  obtain ⟨z, hz, e⟩ := List.mem_map.1 this
  have z0 := hl.lo z hz; have z1 := hl.hi z hz
  have := hb.inj _ _ (by omega) (by omega) e
  have : z = y := by omega
  exact this ▸ hz

/-- A valid surface of n squares. -/
structure Sf (n : Nat) (R U : List Int) : Prop where
  r : Ok R
  u : Ok U
  lr : R.length = n
  lu : U.length = n
  pos : 0 < n
  all : (reach R U 0).length = n
theorem Sf.br {n : Nat} {R U : List Int} (h : Sf n R U) : Bij n R := by have := h.r.bij; rw [h.lr] at this; exact this
theorem Sf.bu {n : Nat} {R U : List Int} (h : Sf n R U) : Bij n U := by have := h.u.bij; rw [h.lu] at this; exact this
theorem transB_iff {R U : List Int} : transB R U = true ↔ Sf R.length R U := by
  unfold transB
  simp only [Bool.and_eq_true, decide_eq_true_eq, okBB_iff]
  constructor
  · rintro ⟨⟨⟨h1, h2, h3⟩, h4⟩, h5⟩
    exact ⟨Ok.of R h1, Ok.of U h2, rfl, h3.symm, h4, h5⟩
  · intro h
    exact ⟨⟨⟨h.r.b, h.u.b, h.lu.symm⟩, h.pos⟩, h.all⟩
theorem Sf.inn {n : Nat} {R U : List Int} (h : Sf n R U) {f : Int} (f0 : 0 ≤ f) (f1 : f < n) : In n (reach R U f) := rs_in h.br.maps h.bu.maps f0 f1 _
/-- From every square all squares are reached. -/
theorem Sf.full {n : Nat} {R U : List Int} (h : Sf n R U) {f : Int} (f0 : 0 ≤ f) (f1 : f < n) {y : Int} (y0 : 0 ≤ y) (y1 : y < n) : y ∈ reach R U f := by
  have hin := h.inn f0 f1
  have hcl : ∀ x ∈ reach R U f, R.getD x.toNat 0 ∈ reach R U f ∧ U.getD x.toNat 0 ∈ reach R U f := fun x hx => reach_closed h.lr h.br.maps h.bu.maps f0 f1 hx
  have h0 : ∀ z : Int, 0 ≤ z → z < n → z ∈ reach R U 0 := by
    intro z z0 z1
    have i0 := h.inn (f := 0) (by omega) (by have := h.pos; omega)
    exact nodup_sub_mem i0.nd (m := rng n) (fun x hx => mem_rng.2 ⟨i0.lo x hx, i0.hi x hx⟩) (by rw [h.all]; simp [rng]) (mem_rng.2 ⟨z0, z1⟩)
  by_cases hz : (0 : Int) ∈ reach R U f
  · have := reach_least (ps := R) (qs := U) (f := 0) (fun x => x ∈ reach R U f) hz hcl R.length y
    exact this (h0 y y0 y1)
  · exfalso
    have := reach_least (ps := R) (qs := U) (f := 0) (fun x => (0 ≤ x ∧ x < n) ∧ ¬ x ∈ reach R U f) ⟨⟨by omega, by have := h.pos; omega⟩, hz⟩ (by
      rintro x ⟨⟨x0, x1⟩, hx⟩
      have m1 := h.br.maps x.toNat (by omega); have m2 := h.bu.maps x.toNat (by omega)
      exact ⟨⟨m1, fun q => hx (closed_back h.br hin (fun x hx => (hcl x hx).1) x0 x1 q)⟩, ⟨m2, fun q => hx (closed_back h.bu hin (fun x hx => (hcl x hx).2) x0 x1 q)⟩⟩) R.length f (h0 f f0 f1)
    exact this.2 (reach_start R U f)
theorem Sf.flen {n : Nat} {R U : List Int} (h : Sf n R U) {f : Int} (f0 : 0 ≤ f) (f1 : f < n) : (reach R U f).length = n := by
  have h1 := (h.inn f0 f1).len
  have h2 := nodup_sub_len (rng n) (reach R U f) (rng_nodup n) (fun x hx => by rw [mem_rng] at hx; exact h.full f0 f1 hx.1 hx.2)
  rw [rng_len] at h2
  omega
theorem In.ok {n : Nat} {l : List Int} (h : In n l) (hl : l.length = n) (h24 : n ≤ 24) : Ok l := by
  refine ⟨by omega, fun i hi => h.lo _ (getD_mem hi), fun i hi => ?_, fun i j hi hj e => nodup_getD h.nd hi hj e⟩
  have := h.hi _ (getD_mem hi); omega
theorem Sf.rok {n : Nat} {R U : List Int} (h : Sf n R U) {f : Int} (f0 : 0 ≤ f) (f1 : f < n) : Ok (reach R U f) := (h.inn f0 f1).ok (h.flen f0 f1) (by have := h.r.len; have := h.lr; omega)
/-- The names from f. -/
def nm (R U : List Int) (f : Int) : List Int := Inv (reach R U f)
theorem Sf.nok {n : Nat} {R U : List Int} (h : Sf n R U) {f : Int} (f0 : 0 ≤ f) (f1 : f < n) : Ok (nm R U f) ∧ (nm R U f).length = n := ⟨Inv_ok (h.rok f0 f1), by unfold nm; rw [Inv_len, h.flen f0 f1]⟩

/-- R', U' are R, U renamed by ns. -/
structure Iso (n : Nat) (R U R' U' ns : List Int) : Prop where
  s : Sf n R U
  okn : Ok ns
  ln : ns.length = n
  r : Ren n R R' ns
  u : Ren n U U' ns
theorem add1_map {n : Nat} {ns l : List Int} (hb : Bij n ns) (hl : In n l) {x : Int} (x0 : 0 ≤ x) (x1 : x < n) : add1 (l.map fun y => ns.getD y.toNat 0) (ns.getD x.toNat 0) = (add1 l x).map fun y => ns.getD y.toNat 0 := by
  have e : ns.getD x.toNat 0 ∈ (l.map fun y => ns.getD y.toNat 0) ↔ x ∈ l := by
    rw [List.mem_map]
    constructor
    · rintro ⟨y, hy, q⟩
      have := hl.lo y hy; have := hl.hi y hy
      have := hb.inj _ _ (by omega) (by omega) q
      have : y = x := by omega
      exact this ▸ hy
    · intro h; exact ⟨x, h, rfl⟩
  unfold add1
  by_cases h : x ∈ l
  · rw [if_pos h, if_pos (e.2 h)]
  · rw [if_neg h, if_neg (fun q => h (e.1 q))]; simp
theorem Iso.rs_eq {n : Nat} {R U R' U' ns : List Int} (h : Iso n R U R' U' ns) {f : Int} (f0 : 0 ≤ f) (f1 : f < n) (k : Nat) : rs R' U' (ns.getD f.toNat 0) k = (rs R U f k).map fun y => ns.getD y.toNat 0 := by
  induction k with
  | zero => rfl
  | succ k ih =>
    have hin := rs_in h.s.br.maps h.s.bu.maps f0 f1 k
    show rnd R' U' _ k = (rnd R U _ k).map _
    rw [ih]
    unfold rnd
    rw [List.length_map]
    split
    · rename_i hk
      obtain ⟨z, hz, _, ez⟩ := hin.at_ hk
      have e1 : ((rs R U f k).map fun y => ns.getD y.toNat 0).getD k 0 = ns.getD z 0 := by
        simp only [List.getD, List.getElem?_map, List.getElem?_eq_getElem hk, Option.map_some, Option.getD_some]
        have : (rs R U f k)[k] = (z : Int) := by rw [← ez]; simp [List.getD, List.getElem?_eq_getElem hk]
        rw [this]; simp
      have m1 := h.s.br.maps z hz; have m2 := h.s.bu.maps z hz
      rw [e1, ez, Int.toNat_natCast, h.r.eq z hz, h.u.eq z hz, add1_map h.r.s hin m1.1 m1.2, add1_map h.r.s (hin.add m1.1 m1.2) m2.1 m2.2]
    · rfl
theorem Iso.reach_eq {n : Nat} {R U R' U' ns : List Int} (h : Iso n R U R' U' ns) (hl : R'.length = n) {f : Int} (f0 : 0 ≤ f) (f1 : f < n) : reach R' U' (ns.getD f.toNat 0) = (reach R U f).map fun y => ns.getD y.toNat 0 := by
  unfold reach; rw [hl, h.s.lr]; exact h.rs_eq f0 f1 n
theorem map_at {g : Int → Int} {l : List Int} {k : Nat} (hk : k < l.length) : (l.map g).getD k 0 = g (l.getD k 0) := by
  simp [List.getD, List.getElem?_eq_getElem hk]
/-- A square's name from f is its new self's name from f's new self. -/
theorem Iso.nm_eq {n : Nat} {R U R' U' ns : List Int} (h : Iso n R U R' U' ns) (hl : R'.length = n) {f : Int} (f0 : 0 ≤ f) (f1 : f < n) {i : Nat} (hi : i < n) : (nm R' U' (ns.getD f.toNat 0)).getD (ns.getD i 0).toNat 0 = (nm R U f).getD i 0 := by
  have fl := h.s.flen f0 f1
  have ok := h.s.rok f0 f1
  obtain ⟨k, hk, e⟩ := mem_getD (h.s.full f0 f1 (y := (i : Int)) (by omega) (by omega))
  have a := Inv_at ok hk
  rw [e, Int.toNat_natCast] at a
  unfold nm
  rw [a, h.reach_eq hl f0 f1]
  have hin : In n ((reach R U f).map fun y => ns.getD y.toNat 0) := by
    have hn := h.s.inn f0 f1
    refine ⟨?_, fun x hx => ?_, fun x hx => ?_⟩
    · unfold List.Nodup
      rw [List.pairwise_map]
      refine List.Pairwise.imp_of_mem ?_ hn.nd
      intro a b ha hb hab q
      have := hn.lo a ha; have := hn.hi a ha; have := hn.lo b hb; have := hn.hi b hb
      have := h.r.s.inj _ _ (by omega) (by omega) q
      omega
    · obtain ⟨y, hy, rfl⟩ := List.mem_map.1 hx
      exact (h.r.s.maps _ (by have := hn.lo y hy; have := hn.hi y hy; omega)).1
    · obtain ⟨y, hy, rfl⟩ := List.mem_map.1 hx
      exact (h.r.s.maps _ (by have := hn.lo y hy; have := hn.hi y hy; omega)).2
  have ok2 := hin.ok (by simp [fl]) (by have := h.s.r.len; have := h.s.lr; omega)
  have b := Inv_at ok2 (k := k) (by simpa using hk)
  rw [map_at hk, e, Int.toNat_natCast] at b
  exact b
end Go.Proofs.Ytglpiopjhddoeaa.pm
