/-
  Words keep the angles, the stratum, the genus, the symmetries and the number of half turns: plain mathematics.
-/
import Derived.Test.YtpmojmhamgcfmaaY08
import Derived.Test.YtpmojmhamgcfmaaWCorM
import Derived.Test.YtpmojmhamgcfmaaWCanM
namespace Go.Proofs.Ytpmojmhamgcfmaa.ht
open Go.Proofs.Ytpmojmhamgcfmaa.arr Go.Proofs.Ytpmojmhamgcfmaa.inv Go.Proofs.Ytpmojmhamgcfmaa.permOf Go.Proofs.Ytpmojmhamgcfmaa.pm Go.Proofs.Ytpmojmhamgcfmaa.orb Go.Proofs.Ytpmojmhamgcfmaa.gl Go.Proofs.Ytpmojmhamgcfmaa.sf Go.Proofs.Ytpmojmhamgcfmaa.ints
set_option linter.unusedVariables false
set_option maxRecDepth 100000

/-- The lengths of the cycles, in order. -/
def lens (q : List Int) (n : Nat) : List Int := sortD ((cso q n n).map fun xs => (xs.length : Int))
theorem lens_ren {n : Nat} {X Y P : List Int} (h : Ren n X Y P) : lens Y n = lens X n := by
  unfold lens
  refine sortD_eq ?_
  have := h.lens.map (fun (k : Nat) => (k : Int))
  rw [List.map_map, List.map_map] at this
  exact this
theorem ang_lens {n : Nat} {R U : List Int} (s : Sf n R U) : angF R U = lens (comm R U) n := by
  unfold angF lens; rw [cr_cor s]
/-- A permutation of n. -/
structure Pk (n : Nat) (X : List Int) : Prop where
  ok : Ok X
  l : X.length = n
theorem Pk.thn {n : Nat} {X Y : List Int} (x : Pk n X) (y : Pk n Y) : Pk n (thn X Y) := ⟨thn_ok x.ok y.ok (by rw [x.l, y.l]), by rw [thn_len, x.l]⟩
theorem Pk.inv {n : Nat} {X : List Int} (x : Pk n X) : Pk n (Inv X) := ⟨Inv_ok x.ok, by rw [Inv_len, x.l]⟩
theorem Pk.as {n : Nat} {X Y : List Int} (x : Pk n X) (y : Pk n Y) (Z : List Int) : pm.thn (pm.thn X Y) Z = pm.thn X (pm.thn Y Z) := thn_assoc x.ok (by rw [x.l, y.l])
theorem Pk.c1 {n : Nat} {X Y : List Int} (x : Pk n X) (y : Pk n Y) : pm.thn (Inv X) (pm.thn X Y) = Y := by rw [← x.inv.as x, Inv_thn_self x.ok x.l, id_thn y.l]
theorem Pk.c2 {n : Nat} {X Y : List Int} (x : Pk n X) (y : Pk n Y) : pm.thn X (pm.thn (Inv X) Y) = Y := by rw [← x.as x.inv, thn_Inv x.ok x.l, id_thn y.l]
theorem Pk.e1 {n : Nat} {X : List Int} (x : Pk n X) : pm.thn (Inv X) X = rng n := Inv_thn_self x.ok x.l
theorem Pk.e2 {n : Nat} {X : List Int} (x : Pk n X) : pm.thn X (Inv X) = rng n := thn_Inv x.ok x.l
theorem Pk.id {n : Nat} {X : List Int} (x : Pk n X) : pm.thn X (rng n) = X := thn_id x.ok x.l
theorem Pk.it {n : Nat} {X Y : List Int} (x : Pk n X) (y : Pk n Y) : Inv (pm.thn X Y) = pm.thn (Inv Y) (Inv X) := Inv_thn x.ok y.ok (by rw [x.l, y.l])
theorem Pk.ii {n : Nat} {X : List Int} (x : Pk n X) : Inv (Inv X) = X := Inv_Inv x.ok
theorem Pk.bij {n : Nat} {X : List Int} (x : Pk n X) : Bij n X := bok x.ok x.l
section
variable {n : Nat} {R U : List Int} (s : Sf n R U)
include s
theorem pr : Pk n R := ⟨s.r, s.lr⟩
theorem pu : Pk n U := ⟨s.u, s.lu⟩
/-- A surface whose commutator is this one's, renamed by P, has its angles. -/
theorem comm_conj {R' U' P : List Int} (s' : Sf n R' U') (p : Pk n P) (h : thn (comm R U) P = thn P (comm R' U')) : angF R' U' = angF R U := by
  have c := s.comm
  have c' := s'.comm
  rw [ang_lens s, ang_lens s', lens_ren (ren_of c.1 c'.1 p.ok c.2 c'.2 p.l h)]
theorem ang_let (c : UInt8) : angF (letS c (R, U)).1 (letS c (R, U)).2 = angF R U := by
  have r := pr s; have u := pu s
  have ri := r.inv; have ui := u.inv
  have s' := letS_sf s c
  unfold letS at s' ⊢
  split
  · rename_i e
    rw [if_pos e] at s'
    refine comm_conj s s' r ?_
    show thn (thn (thn R U) (thn (Inv R) (Inv U))) R = thn R (thn (thn R (thn (Inv R) U)) (thn (Inv R) (Inv (thn (Inv R) U))))
    rw [r.c2 u, ri.it u, r.ii, (r.thn u).as (ri.thn ui), r.as u, ri.as ui]
  · rename_i e
    rw [if_neg e] at s'
    split
    · rename_i e2
      rw [if_pos e2] at s'
      refine comm_conj s s' ri ?_
      show thn (thn (thn R U) (thn (Inv R) (Inv U))) (Inv R) = thn (Inv R) (thn (thn R (thn R U)) (thn (Inv R) (Inv (thn R U))))
      rw [r.it u, r.as (r.thn u), r.c1 ((r.thn u).thn (ri.thn (ui.thn ri))), (r.thn u).as (ri.thn ui), ri.as ui]
    · rename_i e2
      rw [if_neg e2] at s'
      split
      · rename_i e3
        rw [if_pos e3] at s'
        refine comm_conj s s' u ?_
        show thn (thn (thn R U) (thn (Inv R) (Inv U))) U = thn U (thn (thn (Inv U) R) (thn (Inv (Inv U)) (Inv R)))
        rw [u.ii, ui.as r, u.c2 (r.thn (u.thn ri)), (r.thn u).as (ri.thn ui), ri.as ui, u.e1, ri.id, r.as u]
      · rename_i e3
        rw [if_neg e3] at s'
        refine comm_conj s s' r ?_
        show thn (thn (thn R U) (thn (Inv R) (Inv U))) R = thn R (thn (thn U (Inv R)) (thn (Inv U) (Inv (Inv R))))
        rw [r.ii, (r.thn u).as (ri.thn ui), ri.as ui, r.as u, u.as ri]
theorem sym_zero : sym R U n = (fib R U n 0).length := by
  have p := s.pos
  obtain ⟨j, hj, e⟩ := sym_fib s
  have a := fib_le s (f := 0) (g := (j : Int)) (by omega) (by omega) (by omega) (by omega)
  have b := fib_le s (f := (j : Int)) (g := 0) (by omega) (by omega) (by omega) (by omega)
  omega
end
theorem sym_le_let {n : Nat} {R U : List Int} (s : Sf n R U) (c : UInt8) : sym R U n ≤ sym (letS c (R, U)).1 (letS c (R, U)).2 n := by
  have p := s.pos
  have s' := letS_sf s c
  rw [sym_zero s, sym_zero s']
  refine nodup_sub_len _ _ (List.Pairwise.filter _ (rng_nodup n)) fun h hh => ?_
  obtain ⟨⟨a0, a1⟩, ae⟩ := mem_fib.1 hh
  have A := phi_auto s (f := 0) (by omega) (by omega) a0 a1 ae
  have B := let_iso A s c
  have E := B.F_eq s' (f := 0) (by omega) (by omega)
  rw [phi_f s (f := 0) (by omega) (by omega) a0 a1] at E
  exact mem_fib.2 ⟨⟨a0, a1⟩, E⟩
theorem sym_let {n : Nat} {R U : List Int} (s : Sf n R U) {c : UInt8} (hc : isL c = true) : sym (letS c (R, U)).1 (letS c (R, U)).2 n = sym R U n := by
  have a := sym_le_let s c
  have b := sym_le_let (letS_sf s c) (inL c)
  have e : letS (inL c) ((letS c (R, U)).1, (letS c (R, U)).2) = (R, U) := letS_inv s hc
  rw [e] at b
  exact Nat.le_antisymm b a
/-- How many half turns there are. -/
def tuN (R U : List Int) (n : Nat) : Nat := (rng n).countP fun j => itB R U (imF R U j)
theorem tuF_len {n : Nat} {R U : List Int} (s : Sf n R U) : (tuF R U).length = tuN R U n := by
  rw [tuF_yes (cr_t s) s.lr]
  unfold tuK tuN
  rw [s.lr, List.length_map, List.take_of_length_le (by rw [rng_len]; exact Nat.le_refl _), List.countP_eq_length_filter]
theorem mem_tu {n : Nat} {R U : List Int} (s : Sf n R U) {j : Int} (j0 : 0 ≤ j) (j1 : j < n) : itB R U (imF R U j) = true ↔ ∃ a, Ht n R U a ∧ a.getD 0 0 = j := by
  rw [it_iff s]
  constructor
  · intro h; exact ⟨_, h, im_zero s j0 j1⟩
  · rintro ⟨a, h, e⟩
    have := h.im s
    rw [e] at this
    rw [← this]; exact h
theorem Ht.eqs {n : Nat} {R U a : List Int} (s : Sf n R U) : Ht n R U a ↔ Pk n a ∧ thn R a = thn a (Inv R) ∧ thn U a = thn a (Inv U) := by
  constructor
  · intro h
    refine ⟨⟨h.ok, h.la⟩, list_eq n (by rw [thn_len]; exact s.lr) (by rw [thn_len]; exact h.la) fun i hi => ?_, list_eq n (by rw [thn_len]; exact s.lu) (by rw [thn_len]; exact h.la) fun i hi => ?_⟩
    · rw [thn_at (by rw [s.lr]; exact hi), thn_at (by rw [h.la]; exact hi)]; exact h.r i hi
    · rw [thn_at (by rw [s.lu]; exact hi), thn_at (by rw [h.la]; exact hi)]; exact h.u i hi
  · rintro ⟨p, e1, e2⟩
    refine ⟨p.ok, p.l, fun i hi => ?_, fun i hi => ?_⟩
    · have : (thn R a).getD i 0 = (thn a (Inv R)).getD i 0 := by rw [e1]
      rwa [thn_at (by rw [s.lr]; exact hi), thn_at (by rw [p.l]; exact hi)] at this
    · have : (thn U a).getD i 0 = (thn a (Inv U)).getD i 0 := by rw [e2]
      rwa [thn_at (by rw [s.lu]; exact hi), thn_at (by rw [p.l]; exact hi)] at this
/-- A letter's half turn to a surface's. -/
def htL (c : UInt8) (R : List Int) : List Int → List Int := fun a => if c.toNat = 84 then thn a R else if c.toNat = 116 then thn a (Inv R) else a
theorem ht_let {n : Nat} {R U a : List Int} (s : Sf n R U) (h : Ht n R U a) (c : UInt8) : Ht n (letS c (R, U)).1 (letS c (R, U)).2 (htL c R a) := by
  have r := pr s; have u := pu s
  have ri := r.inv; have ui := u.inv
  have s' := letS_sf s c
  obtain ⟨p, e1, e2⟩ := (Ht.eqs s).1 h
  -- the inverses' equations
  have f1 : thn (Inv R) a = thn a R := by
    have := conj_inv r.ok ri.ok p.ok r.l ri.l p.l e1
    rwa [r.ii] at this
  have f2 : thn (Inv U) a = thn a U := by
    have := conj_inv u.ok ui.ok p.ok u.l ui.l p.l e2
    rwa [u.ii] at this
  unfold letS at s' ⊢
  unfold htL
  split
  · rename_i e
    rw [if_pos e] at s'
    refine (Ht.eqs s').2 ⟨p.thn r, ?_, ?_⟩
    · show thn R (thn a R) = thn (thn a R) (Inv R)
      rw [← r.as p, e1, p.as ri, r.e1, p.id, p.as r, r.e2, p.id]
    · show thn (thn (Inv R) U) (thn a R) = thn (thn a R) (Inv (thn (Inv R) U))
      rw [ri.it u, r.ii, ri.as u, ← u.as p, e2, p.as ui, ← ri.as p, f1, p.as r]
  · rename_i e
    rw [if_neg e] at s'
    split
    · rename_i e2'
      rw [if_pos e2'] at s'
      refine (Ht.eqs s').2 ⟨p.thn ri, ?_, ?_⟩
      · show thn R (thn a (Inv R)) = thn (thn a (Inv R)) (Inv R)
        rw [← r.as p, e1]
      · show thn (thn R U) (thn a (Inv R)) = thn (thn a (Inv R)) (Inv (thn R U))
        rw [r.it u, r.as u, ← u.as p, e2, p.as ui, ← r.as p, e1, p.as ri]
    · rename_i e2'
      rw [if_neg e2'] at s'
      split
      · rename_i e3
        rw [if_pos e3] at s'
        refine (Ht.eqs s').2 ⟨p, ?_, e1⟩
        show thn (Inv U) a = thn a (Inv (Inv U))
        rw [u.ii]; exact f2
      · rename_i e3
        rw [if_neg e3] at s'
        refine (Ht.eqs s').2 ⟨p, e2, ?_⟩
        show thn (Inv R) a = thn a (Inv (Inv R))
        rw [r.ii]; exact f1
/-- Where a letter takes the image of the square 0. -/
def htJ (c : UInt8) (R : List Int) (j : Int) : Int := if c.toNat = 84 then R.getD j.toNat 0 else if c.toNat = 116 then (Inv R).getD j.toNat 0 else j
theorem tu_le_let {n : Nat} {R U : List Int} (s : Sf n R U) (c : UInt8) : tuN R U n ≤ tuN (letS c (R, U)).1 (letS c (R, U)).2 n := by
  have r := pr s
  have ri := r.inv
  have hp := s.pos
  have s' := letS_sf s c
  have hJ : ∀ a, Ht n R U a → (htL c R a).getD 0 0 = htJ c R (a.getD 0 0) := by
    intro a h
    unfold htL htJ
    split
    · rw [thn_at (by rw [h.la]; exact hp)]
    · split
      · rw [thn_at (by rw [h.la]; exact hp)]
      · rfl
  have inj : ∀ i j : Int, 0 ≤ i → i < n → 0 ≤ j → j < n → htJ c R i = htJ c R j → i = j := by
    intro i j i0 i1 j0 j1 e
    unfold htJ at e
    split at e
    · have := r.bij.inj _ _ (by omega) (by omega) e; omega
    · split at e
      · have := ri.bij.inj _ _ (by omega) (by omega) e; omega
      · exact e
  have := nodup_sub_len (((rng n).filter fun j => itB R U (imF R U j)).map (htJ c R)) ((rng n).filter fun j => itB (letS c (R, U)).1 (letS c (R, U)).2 (imF (letS c (R, U)).1 (letS c (R, U)).2 j)) (by
    unfold List.Nodup
    rw [List.pairwise_map]
    refine List.Pairwise.imp_of_mem ?_ (List.Pairwise.filter _ (rng_nodup n))
    intro i j hi hj hne e
    have a := mem_rng.1 (List.mem_filter.1 hi).1
    have b := mem_rng.1 (List.mem_filter.1 hj).1
    exact hne (inj i j a.1 a.2 b.1 b.2 e)) (by
    intro x hx
    obtain ⟨j, hj, rfl⟩ := List.mem_map.1 hx
    obtain ⟨h1, h2⟩ := List.mem_filter.1 hj
    have a := mem_rng.1 h1
    obtain ⟨t, ht, e⟩ := (mem_tu s a.1 a.2).1 h2
    have ht' := ht_let s ht c
    have e' := hJ t ht
    rw [e] at e'
    have m := ht'.ok.maps 0 (by rw [ht'.la]; exact hp)
    rw [ht'.la, e'] at m
    exact List.mem_filter.2 ⟨mem_rng.2 m, (mem_tu s' m.1 m.2).2 ⟨_, ht', e'⟩⟩)
  unfold tuN
  rw [List.countP_eq_length_filter, List.countP_eq_length_filter]
  simpa using this
theorem tu_let {n : Nat} {R U : List Int} (s : Sf n R U) {c : UInt8} (hc : isL c = true) : tuN (letS c (R, U)).1 (letS c (R, U)).2 n = tuN R U n := by
  have a := tu_le_let s c
  have b := tu_le_let (letS_sf s c) (inL c)
  have e : letS (inL c) ((letS c (R, U)).1, (letS c (R, U)).2) = (R, U) := letS_inv s hc
  rw [e] at b
  exact Nat.le_antisymm b a
/-- Two surfaces with one canonical form are isomorphic. -/
theorem iso_of_can {n : Nat} {R U R' U' : List Int} (s : Sf n R U) (s' : Sf n R' U') (h : can R U n = can R' U' n) : ∃ ns, Iso n R U R' U' ns := by
  obtain ⟨m, i, t⟩ := s.can_iso
  obtain ⟨m', i', t'⟩ := s'.can_iso
  rw [← h] at i'
  have p : Pk n m := ⟨i.okn, i.ln⟩
  have p' : Pk n m' := ⟨i'.okn, i'.ln⟩
  have key : ∀ X X' F : List Int, Pk n X → Pk n X' → Pk n F → Ren n X F m → Ren n X' F m' → thn X (thn m (Inv m')) = thn (thn m (Inv m')) X' := by
    intro X X' F x x' f a b
    have e := ren_thn a x.l p.l
    have e' := ren_thn b x'.l p'.l
    rw [← x.as p, e, p.as f]
    have : thn F (Inv m') = thn (Inv m') X' := by
      have q : thn (Inv m') (thn (thn X' m') (Inv m')) = thn (Inv m') X' := by rw [x'.as p', p'.e2, x'.id]
      rw [← q, e', p'.as f, p'.c1 (f.thn p'.inv)]
    rw [this, p.as p'.inv]
  have q := p.thn p'.inv
  have k1 := key R R' _ (pr s) (pr s') ⟨t.r, t.lr⟩ i.r i'.r
  have k2 := key U U' _ (pu s) (pu s') ⟨t.u, t.lu⟩ i.u i'.u
  exact ⟨_, s, q.ok, q.l, ren_of s.r s'.r q.ok s.lr s'.lr q.l k1, ren_of s.u s'.u q.ok s.lu s'.lu q.l k2⟩
theorem iso_iff {n : Nat} {R U R' U' : List Int} (s : Sf n R U) (s' : Sf n R' U') : isoF R U R' U' = true ↔ ∃ ns, Iso n R U R' U' ns := by
  constructor
  · intro h
    rw [iso_yes (cn.cn_t s) (cn.cn_t s'), s.lr, s'.lr] at h
    unfold sameF eqi at h
    rw [Bool.and_eq_true, decide_eq_true_eq, decide_eq_true_eq] at h
    exact iso_of_can s s' (Prod.ext h.1 h.2)
  · rintro ⟨ns, h⟩
    exact (cn.cn_iso h s').1
theorem iso_half {n : Nat} {R U : List Int} (s : Sf n R U) : isoF R U (Inv R) (Inv U) = decide (0 < tuN R U n) := by
  have hp := s.pos
  rw [Bool.eq_iff_iff, decide_eq_true_eq, iso_iff s (back_sf s)]
  unfold tuN
  rw [List.countP_pos_iff]
  constructor
  · rintro ⟨a, h⟩
    have h := Ht.of_iso h
    have m := h.ok.maps 0 (by rw [h.la]; exact hp)
    rw [h.la] at m
    exact ⟨_, mem_rng.2 m, (mem_tu s m.1 m.2).2 ⟨a, h, rfl⟩⟩
  · rintro ⟨j, hj, h⟩
    have m := mem_rng.1 hj
    exact ⟨_, ((it_iff s).1 h).iso s⟩
/-- What words keep. -/
structure Kept (n : Nat) (s t : Sur) : Prop where
  ang : angF t.1 t.2 = angF s.1 s.2
  sym : sym t.1 t.2 n = sym s.1 s.2 n
  tu : tuN t.1 t.2 n = tuN s.1 s.2 n
theorem kept_run {n : Nat} : ∀ (w : List UInt8) (s : Sur), w.all isL = true → Sf n s.1 s.2 → Kept n s (runS w s) := by
  intro w
  induction w with
  | nil => intro s _ _; exact ⟨rfl, rfl, rfl⟩
  | cons c w ih =>
    intro s hw h
    simp only [List.all_cons, Bool.and_eq_true] at hw
    have i := ih (letS c s) hw.2 (letS_sf (R := s.1) (U := s.2) h c)
    exact ⟨i.ang.trans (ang_let (R := s.1) (U := s.2) h c), i.sym.trans (sym_let (R := s.1) (U := s.2) h hw.1), i.tu.trans (tu_let (R := s.1) (U := s.2) h hw.1)⟩
end Go.Proofs.Ytpmojmhamgcfmaa.ht
