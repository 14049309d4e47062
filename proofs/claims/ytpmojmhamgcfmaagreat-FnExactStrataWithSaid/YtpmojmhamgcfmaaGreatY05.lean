import Derived.Test.YtpmojmhamgcfmaaGreatY04
/-
  The symmetries of a surface divide its squares, and renaming keeps their number: plain mathematics.
-/
namespace Go.Proofs.YtpmojmhamgcfmaaGreat.pm
open Go.Proofs.YtpmojmhamgcfmaaGreat.arr Go.Proofs.YtpmojmhamgcfmaaGreat.inv Go.Proofs.YtpmojmhamgcfmaaGreat.permOf
set_option linter.unusedVariables false
set_option maxRecDepth 100000

theorem dvd_count {α : Type} [DecidableEq α] (K : Nat) : ∀ (m : Nat) (l : List α), l.length ≤ m → (∀ x ∈ l, l.countP (fun y => decide (y = x)) = K) → K ∣ l.length := by
  intro m
  induction m with
  | zero =>
    intro l hl _
    have : l.length = 0 := by omega
    rw [this]; exact Nat.dvd_zero K
  | succ m ih =>
    intro l hl h
    cases l with
    | nil => exact Nat.dvd_zero K
    | cons a t =>
      have hp := List.length_eq_countP_add_countP (fun y => decide (y = a)) (l := a :: t)
      have hc : (a :: t).countP (fun y => decide (y = a)) = K := h a (by simp)
      have kp : 0 < K := by rw [← hc]; exact List.countP_pos_iff.2 ⟨a, by simp, by simp⟩
      generalize hr : (fun y => decide ¬(decide (y = a)) = true) = r at hp
      have hf : (a :: t).countP r = ((a :: t).filter r).length := List.countP_eq_length_filter
      have hd := ih ((a :: t).filter r) (by rw [← hf]; omega) (by
        intro x hx
        obtain ⟨hx1, hx2⟩ := List.mem_filter.1 hx
        rw [List.countP_filter, ← h x hx1]
        refine List.countP_congr fun y _ => ?_
        constructor
        · intro q; simp only [Bool.and_eq_true] at q; exact q.1
        · intro q
          have e : y = x := by simpa using q
          subst e
          simp only [Bool.and_eq_true]
          exact ⟨by simp, hx2⟩)
      rw [hp, hc, hf]
      exact Nat.dvd_add (Nat.dvd_refl K) hd
/-- The renaming that takes f's names to h's. -/
def phi (R U : List Int) (f h : Int) : List Int := thn (nm R U f) (reach R U h)
section
variable {n : Nat} {R U : List Int} (s : Sf n R U) {f g h : Int} (f0 : 0 ≤ f) (f1 : f < n) (h0 : 0 ≤ h) (h1 : h < n)
include s f0 f1 h0 h1
theorem phi_ok : Ok (phi R U f h) ∧ (phi R U f h).length = n := by
  obtain ⟨k, l⟩ := s.nok f0 f1
  exact ⟨thn_ok k (s.rok h0 h1) (by rw [l, s.flen h0 h1]), by unfold phi; rw [thn_len, l]⟩
/-- h's name for phi's image is f's name. -/
theorem phi_nm {i : Nat} (hi : i < n) : (nm R U h).getD ((phi R U f h).getD i 0).toNat 0 = (nm R U f).getD i 0 := by
  obtain ⟨k, l⟩ := s.nok f0 f1
  unfold phi
  rw [thn_at (by omega)]
  have m := k.maps i (by omega)
  unfold nm at m ⊢
  have := Inv_at (s.rok h0 h1) (k := ((Inv (reach R U f)).getD i 0).toNat) (by rw [s.flen h0 h1]; unfold nm at l; omega)
  rw [this, Int.toNat_of_nonneg m.1]
theorem phi_f : (phi R U f h).getD f.toNat 0 = h := by
  obtain ⟨k, l⟩ := s.nok f0 f1
  have hr : ∀ q : Int, 0 ≤ q → q < n → (reach R U q).getD 0 0 = q := by
    intro q q0 q1
    have := rs_pre R U q (Nat.zero_le R.length)
    have e := pre_at this (k := 0) (by simp [rs])
    unfold reach; rw [e]; rfl
  have e := Inv_at (s.rok f0 f1) (k := 0) (by rw [s.flen f0 f1]; exact s.pos)
  rw [hr f f0 f1] at e
  unfold phi
  rw [thn_at (by omega)]
  unfold nm
  rw [e]
  exact hr h h0 h1
theorem phi_auto (e : Fm R U n h = Fm R U n f) : Iso n R U R U (phi R U f h) := by
  obtain ⟨pk, pl⟩ := phi_ok s f0 f1 h0 h1
  obtain ⟨fk, fl⟩ := s.nok f0 f1
  obtain ⟨hk, hl⟩ := s.nok h0 h1
  have eR : renTo n R (nm R U h) n = renTo n R (nm R U f) n := congrArg Prod.fst e
  have eU : renTo n U (nm R U h) n = renTo n U (nm R U f) n := congrArg Prod.snd e
  have pb : Bij n (phi R U f h) := by have := pk.bij; rw [pl] at this; exact this
  have one : ∀ X : List Int, X.length = n → Bij n X → renTo n X (nm R U h) n = renTo n X (nm R U f) n → Ren n X X (phi R U f h) := by
    intro X lx bx ex
    refine ⟨bx, bx, pb, fun i hi => ?_⟩
    have m := pb.maps i hi
    have mx := bx.maps i hi
    have a := ren_at' hk lx hl (k := ((phi R U f h).getD i 0).toNat) (by omega)
    rw [phi_nm s f0 f1 h0 h1 hi, ex, ren_at' fk lx fl hi, ← phi_nm s f0 f1 h0 h1 (i := (X.getD i 0).toNat) (by omega)] at a
    have m1 := bx.maps ((phi R U f h).getD i 0).toNat (by omega)
    have m2 := pb.maps (X.getD i 0).toNat (by omega)
    have := hk.inj _ _ (by omega) (by omega) a
    omega
  exact ⟨s, pk, pl, one R s.lr s.br eR, one U s.lu s.bu eU⟩
end
def fib (R U : List Int) (n : Nat) (f : Int) : List Int := (rng n).filter fun h => decide (Fm R U n h = Fm R U n f)
theorem mem_fib {R U : List Int} {n : Nat} {f h : Int} : h ∈ fib R U n f ↔ (0 ≤ h ∧ h < n) ∧ Fm R U n h = Fm R U n f := by
  unfold fib; rw [List.mem_filter, mem_rng]; simp
theorem fib_le {n : Nat} {R U : List Int} (s : Sf n R U) {f g : Int} (f0 : 0 ≤ f) (f1 : f < n) (g0 : 0 ≤ g) (g1 : g < n) : (fib R U n f).length ≤ (fib R U n g).length := by
  have := nodup_sub_len ((fib R U n f).map fun h => (phi R U f h).getD g.toNat 0) (fib R U n g) (by
    unfold List.Nodup
    rw [List.pairwise_map]
    refine List.Pairwise.imp_of_mem ?_ (List.Pairwise.filter _ (rng_nodup n))
    intro h h' hh hh' hne q
    obtain ⟨⟨a0, a1⟩, ae⟩ := mem_fib.1 hh
    obtain ⟨⟨b0, b1⟩, be⟩ := mem_fib.1 hh'
    have A := phi_auto s f0 f1 a0 a1 ae
    have B := phi_auto s f0 f1 b0 b1 be
    have p := A.r.s.maps g.toNat (by omega)
    have na := A.nm_eq s.lr g0 g1 (i := f.toNat) (by omega)
    have nb := B.nm_eq s.lr g0 g1 (i := f.toNat) (by omega)
    rw [← q, phi_f s f0 f1 b0 b1] at nb
    rw [phi_f s f0 f1 a0 a1] at na
    obtain ⟨nk, nl⟩ := s.nok p.1 p.2
    have := nk.inj _ _ (by omega) (by omega) (na.trans nb.symm)
    omega) (by
    intro x hx
    obtain ⟨h, hh, rfl⟩ := List.mem_map.1 hx
    obtain ⟨⟨a0, a1⟩, ae⟩ := mem_fib.1 hh
    have A := phi_auto s f0 f1 a0 a1 ae
    exact mem_fib.2 ⟨A.r.s.maps g.toNat (by omega), A.F_eq s g0 g1⟩)
  simpa using this
/-- The number of squares from which the names give the canonical form. -/
def sym (R U : List Int) (n : Nat) : Nat := (rng n).countP fun h => decide (Fm R U n h = can R U n)
theorem sym_fib {n : Nat} {R U : List Int} (s : Sf n R U) : ∃ j : Nat, j < n ∧ sym R U n = (fib R U n (j : Int)).length := by
  obtain ⟨j, hj, e⟩ := can_is (R := R) (U := U) s.pos
  exact ⟨j, hj, by unfold sym fib; rw [List.countP_eq_length_filter, e]⟩
theorem sym_pos {n : Nat} {R U : List Int} (s : Sf n R U) : 0 < sym R U n := by
  obtain ⟨j, hj, e⟩ := sym_fib s
  rw [e]
  exact List.length_pos_of_mem (mem_fib.2 ⟨⟨by omega, by omega⟩, rfl⟩ : (j : Int) ∈ fib R U n (j : Int))
theorem sym_le {n : Nat} {R U : List Int} : sym R U n ≤ n := by
  have := List.countP_le_length (p := fun h => decide (Fm R U n h = can R U n)) (l := rng n)
  rw [rng_len] at this
  exact this
theorem sym_dvd {n : Nat} {R U : List Int} (s : Sf n R U) : sym R U n ∣ n := by
  obtain ⟨j, hj, e⟩ := sym_fib s
  have := dvd_count (sym R U n) n ((rng n).map (Fm R U n)) (by simp [rng]) (by
    intro x hx
    obtain ⟨f, hf, rfl⟩ := List.mem_map.1 hx
    rw [mem_rng] at hf
    rw [List.countP_map, e]
    have q : (rng n).countP ((fun y => decide (y = Fm R U n f)) ∘ Fm R U n) = (fib R U n f).length := by
      unfold fib
      rw [List.countP_eq_length_filter]
      rfl
    rw [q]
    have a := fib_le s hf.1 hf.2 (g := (j : Int)) (by omega) (by omega)
    have b := fib_le s (f := (j : Int)) (by omega) (by omega) hf.1 hf.2
    omega)
  rw [List.length_map, rng_len] at this
  exact this
theorem Iso.sym_eq {n : Nat} {R U R' U' ns : List Int} (h : Iso n R U R' U' ns) (s' : Sf n R' U') : sym R' U' n = sym R U n := by
  unfold sym
  rw [← h.r.s.map_rng.countP_eq, List.countP_map]
  refine List.countP_congr fun x hx => ?_
  rw [mem_rng] at hx
  simp only [Function.comp]
  rw [h.F_eq s' hx.1 hx.2, h.can_eq s']
end Go.Proofs.YtpmojmhamgcfmaaGreat.pm

/-
  The letters on surfaces: valid surfaces stay valid, and each letter is undone by its inverse. Plain mathematics.
-/
namespace Go.Proofs.YtpmojmhamgcfmaaGreat.pm
open Go.Proofs.YtpmojmhamgcfmaaGreat.arr Go.Proofs.YtpmojmhamgcfmaaGreat.inv Go.Proofs.YtpmojmhamgcfmaaGreat.permOf
set_option linter.unusedVariables false
set_option maxRecDepth 100000

theorem Inv_Inv {q : List Int} (h : Ok q) : Inv (Inv q) = q := by
  refine list_eq q.length (by rw [Inv_len, Inv_len]) rfl fun i hi => ?_
  have hk := Inv_ok h
  have m := h.maps i hi
  have a := Inv_at hk (k := (q.getD i 0).toNat) (by rw [Inv_len]; omega)
  rw [Inv_at h hi, Int.toNat_natCast] at a
  rw [a]
  omega
theorem Inv_right {q : List Int} (h : Ok q) {x : Int} (x0 : 0 ≤ x) (x1 : x < q.length) : q.getD ((Inv q).getD x.toNat 0).toNat 0 = x := by
  obtain ⟨k, hk, e1, e2⟩ := at_Inv h (i := x.toNat) (by omega)
  rw [e1, Int.toNat_natCast, e2]
  omega
theorem Inv_left {q : List Int} (h : Ok q) {x : Int} (x0 : 0 ≤ x) (x1 : x < q.length) : (Inv q).getD (q.getD x.toNat 0).toNat 0 = x := by
  rw [Inv_at h (k := x.toNat) (by omega)]; omega
theorem Inv_thn {p q : List Int} (hp : Ok p) (hq : Ok q) (l : p.length = q.length) : Inv (thn p q) = thn (Inv q) (Inv p) := by
  have := grp_inv hp hq rfl l.symm
  rw [back_eq hp hq rfl l.symm, thenF_of hp hq l, invF_of (thn_ok hp hq l)] at this
  exact this
theorem thn_assoc {p q r : List Int} (hp : Ok p) (lq : p.length = q.length) : thn (thn p q) r = thn p (thn q r) := by
  refine list_eq p.length (by rw [thn_len, thn_len]) (by rw [thn_len]) fun i hi => ?_
  have m := hp.maps i hi
  rw [thn_at (by rw [thn_len]; exact hi), thn_at (ys := q) hi, thn_at (ys := thn q r) hi, thn_at (by omega)]
theorem thn_id {n : Nat} {p : List Int} (hp : Ok p) (l : p.length = n) : thn p (rng n) = p := by
  refine list_eq p.length (by rw [thn_len]) rfl fun i hi => ?_
  have m := hp.maps i hi
  rw [thn_at hi, rng_at (by omega)]
  omega
theorem id_thn {n : Nat} {p : List Int} (l : p.length = n) : thn (rng n) p = p :=
  list_eq n (by rw [thn_len, rng_len]) l fun i hi => by rw [thn_at (by rw [rng_len]; exact hi), rng_at hi, Int.toNat_natCast]
theorem thn_Inv {n : Nat} {q : List Int} (hq : Ok q) (lq : q.length = n) : thn q (Inv q) = rng n :=
  list_eq n (by rw [thn_len]; exact lq) (rng_len n) fun i hi => by rw [thn_at (by omega), Inv_at hq (by omega), rng_at hi]
theorem Inv_thn_self {n : Nat} {q : List Int} (hq : Ok q) (lq : q.length = n) : thn (Inv q) q = rng n := by
  have := thn_Inv (Inv_ok hq) (n := n) (by rw [Inv_len]; exact lq)
  rw [Inv_Inv hq] at this
  exact this
/-- A surface whose closed sets are closed under those of a valid one is valid. -/
theorem Sf.of_closed {n : Nat} {R U R' U' : List Int} (s : Sf n R U) (r' : Ok R') (u' : Ok U') (lr' : R'.length = n) (lu' : U'.length = n)
    (hc : ∀ C : List Int, In n C → (∀ x ∈ C, R'.getD x.toNat 0 ∈ C ∧ U'.getD x.toNat 0 ∈ C) → ∀ x ∈ C, R.getD x.toNat 0 ∈ C ∧ U.getD x.toNat 0 ∈ C) : Sf n R' U' := by
  have b1 : Bij n R' := by have := r'.bij; rw [lr'] at this; exact this
  have b2 : Bij n U' := by have := u'.bij; rw [lu'] at this; exact this
  have hp := s.pos
  have hin : In n (reach R' U' 0) := rs_in b1.maps b2.maps (by omega) (by omega) _
  have hcl : ∀ x ∈ reach R' U' 0, R'.getD x.toNat 0 ∈ reach R' U' 0 ∧ U'.getD x.toNat 0 ∈ reach R' U' 0 := fun x hx => reach_closed lr' b1.maps b2.maps (by omega) (by omega) hx
  have := reach_least (ps := R) (qs := U) (f := 0) (fun x => x ∈ reach R' U' 0) (reach_start _ _ _) (hc _ hin hcl) R.length
  refine ⟨r', u', lr', lu', hp, ?_⟩
  have h1 := nodup_sub_len (rng n) (reach R' U' 0) (rng_nodup n) (fun x hx => by
    rw [mem_rng] at hx
    exact this x (s.full (f := 0) (by omega) (by omega) hx.1 hx.2))
  rw [rng_len] at h1
  have := hin.len
  omega
theorem closed_Inv {n : Nat} {q C : List Int} (hq : Ok q) (lq : q.length = n) (hC : In n C) (hc : ∀ x ∈ C, (Inv q).getD x.toNat 0 ∈ C) : ∀ x ∈ C, q.getD x.toNat 0 ∈ C := by
  intro x hx
  have x0 := hC.lo x hx; have x1 := hC.hi x hx
  have b : Bij n (Inv q) := by have := (Inv_ok hq).bij; rw [Inv_len, lq] at this; exact this
  have m := hq.maps x.toNat (by omega)
  refine closed_back b hC hc m.1 (by omega) ?_
  rw [Inv_left hq x0 (by omega)]
  exact hx
theorem closed_q {n : Nat} {q C : List Int} (hq : Ok q) (lq : q.length = n) (hC : In n C) (hc : ∀ x ∈ C, q.getD x.toNat 0 ∈ C) : ∀ x ∈ C, (Inv q).getD x.toNat 0 ∈ C := by
  have := closed_Inv (Inv_ok hq) (n := n) (by rw [Inv_len]; exact lq) hC (by rw [Inv_Inv hq]; exact hc)
  exact this
def shearS (s : Sur) : Sur := (s.1, thn (Inv s.1) s.2)
def unshearS (s : Sur) : Sur := (s.1, thn s.1 s.2)
def turnS (s : Sur) : Sur := (Inv s.2, s.1)
def unturnS (s : Sur) : Sur := (s.2, Inv s.1)
section
variable {n : Nat} {R U : List Int} (s : Sf n R U)
include s
theorem shear_sf : Sf n (shearS (R, U)).1 (shearS (R, U)).2 := by
  refine s.of_closed s.r (thn_ok (Inv_ok s.r) s.u (by rw [Inv_len, s.lr, s.lu])) s.lr (by show (thn (Inv R) U).length = n; rw [thn_len, Inv_len]; exact s.lr) fun C hC hc x hx => ?_
  have h1 : R.getD x.toNat 0 ∈ C := (hc x hx).1
  refine ⟨h1, ?_⟩
  have h2 : (thn (Inv R) U).getD (R.getD x.toNat 0).toNat 0 ∈ C := (hc _ h1).2
  have x0 := hC.lo x hx; have x1 := hC.hi x hx
  have m := s.r.maps x.toNat (by have := s.lr; omega)
  have lr := s.lr
  rw [thn_at (by rw [Inv_len]; omega), Inv_left s.r x0 (by omega)] at h2
  exact h2
theorem unshear_sf : Sf n (unshearS (R, U)).1 (unshearS (R, U)).2 := by
  refine s.of_closed s.r (thn_ok s.r s.u (by rw [s.lr, s.lu])) s.lr (by show (thn R U).length = n; rw [thn_len]; exact s.lr) fun C hC hc x hx => ?_
  refine ⟨(hc x hx).1, ?_⟩
  have lr := s.lr
  have x0 := hC.lo x hx; have x1 := hC.hi x hx
  have hi := closed_q s.r s.lr hC (fun x hx => (hc x hx).1) x hx
  have h2 := (hc _ hi).2
  have i0 := hC.lo _ hi; have i1 := hC.hi _ hi
  change (thn R U).getD _ 0 ∈ C at h2
  rw [thn_at (by omega), Inv_right s.r x0 (by omega)] at h2
  exact h2
theorem turn_sf : Sf n (turnS (R, U)).1 (turnS (R, U)).2 := by
  refine s.of_closed (Inv_ok s.u) s.r (by show (Inv U).length = n; rw [Inv_len]; exact s.lu) s.lr fun C hC hc x hx => ?_
  exact ⟨(hc x hx).2, closed_Inv s.u s.lu hC (fun x hx => (hc x hx).1) x hx⟩
theorem unturn_sf : Sf n (unturnS (R, U)).1 (unturnS (R, U)).2 := by
  refine s.of_closed s.u (Inv_ok s.r) s.lu (by show (Inv R).length = n; rw [Inv_len]; exact s.lr) fun C hC hc x hx => ?_
  exact ⟨closed_Inv s.r s.lr hC (fun x hx => (hc x hx).2) x hx, (hc x hx).1⟩
theorem unshear_shear : unshearS (shearS (R, U)) = (R, U) := by
  show (R, thn R (thn (Inv R) U)) = (R, U)
  rw [← thn_assoc s.r (by rw [Inv_len]), thn_Inv s.r s.lr, id_thn s.lu]
theorem shear_unshear : shearS (unshearS (R, U)) = (R, U) := by
  show (R, thn (Inv R) (thn R U)) = (R, U)
  rw [← thn_assoc (Inv_ok s.r) (by rw [Inv_len]), Inv_thn_self s.r s.lr, id_thn s.lu]
theorem unturn_turn : unturnS (turnS (R, U)) = (R, U) := by
  show (R, Inv (Inv U)) = (R, U)
  rw [Inv_Inv s.u]
theorem turn_unturn : turnS (unturnS (R, U)) = (R, U) := by
  show (Inv (Inv R), U) = (R, U)
  rw [Inv_Inv s.r]
theorem turn4 : turnS (turnS (turnS (turnS (R, U)))) = (R, U) := by
  show (Inv (Inv R), Inv (Inv U)) = (R, U)
  rw [Inv_Inv s.r, Inv_Inv s.u]
end
end Go.Proofs.YtpmojmhamgcfmaaGreat.pm

/-
  Letters and words on surfaces and matrices: plain mathematics.
-/
namespace Go.Proofs.YtpmojmhamgcfmaaGreat.pm
open Go.Proofs.YtpmojmhamgcfmaaGreat.arr Go.Proofs.YtpmojmhamgcfmaaGreat.inv Go.Proofs.YtpmojmhamgcfmaaGreat.permOf
set_option linter.unusedVariables false
set_option maxRecDepth 100000
/-- The four letters are the bytes 84 (T), 116 (t), 83 (S), 115 (s). -/
def isL (c : UInt8) : Bool := decide (c.toNat = 84) || decide (c.toNat = 116) || decide (c.toNat = 83) || decide (c.toNat = 115)
def letS (c : UInt8) (s : Sur) : Sur := if c.toNat = 84 then shearS s else if c.toNat = 116 then unshearS s else if c.toNat = 83 then turnS s else unturnS s
def inL (c : UInt8) : UInt8 := if c.toNat = 84 then 116 else if c.toNat = 116 then 84 else if c.toNat = 83 then 115 else 83
def runS (w : List UInt8) (s : Sur) : Sur := w.foldl (fun s c => letS c s) s
def invW (w : List UInt8) : List UInt8 := (w.map inL).reverse
theorem letS_sf {n : Nat} {R U : List Int} (s : Sf n R U) (c : UInt8) : Sf n (letS c (R, U)).1 (letS c (R, U)).2 := by
  unfold letS
  split
  · exact shear_sf s
  · split
    · exact unshear_sf s
    · split
      · exact turn_sf s
      · exact unturn_sf s
theorem isL_iff {c : UInt8} : isL c = true ↔ c.toNat = 84 ∨ c.toNat = 116 ∨ c.toNat = 83 ∨ c.toNat = 115 := by simp [isL, or_assoc]
theorem letS_inv {n : Nat} {R U : List Int} (s : Sf n R U) {c : UInt8} (hc : isL c = true) : letS (inL c) (letS c (R, U)) = (R, U) := by
  rcases isL_iff.1 hc with h | h | h | h
  · have e1 : letS c (R, U) = shearS (R, U) := by unfold letS; rw [if_pos h]
    have e2 : inL c = 116 := by unfold inL; rw [if_pos h]
    rw [e1, e2]; exact unshear_shear s
  · have e1 : letS c (R, U) = unshearS (R, U) := by unfold letS; rw [if_neg (by omega), if_pos h]
    have e2 : inL c = 84 := by unfold inL; rw [if_neg (by omega), if_pos h]
    rw [e1, e2]; exact shear_unshear s
  · have e1 : letS c (R, U) = turnS (R, U) := by unfold letS; rw [if_neg (by omega), if_neg (by omega), if_pos h]
    have e2 : inL c = 115 := by unfold inL; rw [if_neg (by omega), if_neg (by omega), if_pos h]
    rw [e1, e2]; exact unturn_turn s
  · have e1 : letS c (R, U) = unturnS (R, U) := by unfold letS; rw [if_neg (by omega), if_neg (by omega), if_neg (by omega)]
    have e2 : inL c = 83 := by unfold inL; rw [if_neg (by omega), if_neg (by omega), if_neg (by omega)]
    rw [e1, e2]; exact turn_unturn s
theorem runS_sf {n : Nat} : ∀ (w : List UInt8) (s : Sur), Sf n s.1 s.2 → Sf n (runS w s).1 (runS w s).2 := by
  intro w
  induction w with
  | nil => intro s h; exact h
  | cons c w ih => intro s h; exact ih (letS c s) (letS_sf (R := s.1) (U := s.2) h c)
theorem runS_snoc (w : List UInt8) (c : UInt8) (s : Sur) : runS (w ++ [c]) s = letS c (runS w s) := by simp [runS]
theorem runS_inv {n : Nat} : ∀ (w : List UInt8) (s : Sur), w.all isL = true → Sf n s.1 s.2 → runS (invW w) (runS w s) = s := by
  intro w
  induction w with
  | nil => intro s _ _; rfl
  | cons c w ih =>
    intro s hw h
    simp only [List.all_cons, Bool.and_eq_true] at hw
    have e : invW (c :: w) = invW w ++ [inL c] := by simp [invW]
    rw [e, runS_snoc]
    show letS (inL c) (runS (invW w) (runS w (letS c s))) = s
    rw [ih (letS c s) hw.2 (letS_sf (R := s.1) (U := s.2) h c)]
    exact letS_inv (R := s.1) (U := s.2) h hw.1
/-- A shear behind a turn, three times, is two turns, but for the names. -/
theorem st_is {n : Nat} {R U : List Int} (s : Sf n R U) : shearS (turnS (R, U)) = (Inv U, thn U R) := by
  show (Inv U, thn (Inv (Inv U)) R) = _
  rw [Inv_Inv s.u]
theorem st_sf {n : Nat} {R U : List Int} (s : Sf n R U) : Sf n (Inv U) (thn U R) := by
  have := shear_sf (turn_sf s)
  rw [show ((turnS (R, U)).1, (turnS (R, U)).2) = turnS (R, U) from rfl, st_is s] at this
  exact this
theorem ren_of {n : Nat} {X Y P : List Int} (x : Ok X) (y : Ok Y) (p : Ok P) (lx : X.length = n) (ly : Y.length = n) (lp : P.length = n) (h : thn X P = thn P Y) : Ren n X Y P := by
  have b : ∀ q : List Int, Ok q → q.length = n → Bij n q := fun q h l => by have := h.bij; rw [l] at this; exact this
  refine ⟨b X x lx, b Y y ly, b P p lp, fun i hi => ?_⟩
  have e : (thn X P).getD i 0 = (thn P Y).getD i 0 := by rw [h]
  rw [thn_at (by omega), thn_at (by omega)] at e
  exact e.symm
theorem sts_iso {n : Nat} {R U : List Int} (s : Sf n R U) :
    Iso n (shearS (turnS (shearS (turnS (shearS (turnS (R, U))))))).1 (shearS (turnS (shearS (turnS (shearS (turnS (R, U))))))).2 (turnS (turnS (R, U))).1 (turnS (turnS (R, U))).2 (thn U R) := by
  have s1 := st_sf s
  have s2 := st_sf s1
  have s3 := st_sf s2
  rw [st_is s, st_is s1, st_is s2]
  have lr := s.lr; have lu := s.lu
  obtain ⟨P, hP⟩ : ∃ P, P = thn U R := ⟨_, rfl⟩
  have okP : Ok P := by rw [hP]; exact thn_ok s.u s.r (by rw [lu, lr])
  have lP : P.length = n := by rw [hP, thn_len]; exact lu
  rw [← hP] at s1 s2 s3 ⊢
  have okI := Inv_ok s.u
  have e1 : Inv (thn P (Inv U)) = thn U (Inv P) := by rw [Inv_thn okP okI (by rw [Inv_len, lP, lu]), Inv_Inv s.u]
  have o1 : Ok (thn U (Inv P)) := thn_ok s.u (Inv_ok okP) (by rw [Inv_len, lP, lu])
  have o2 : Ok (thn P (Inv U)) := thn_ok okP okI (by rw [Inv_len, lP, lu])
  have o3 : Ok (thn (thn P (Inv U)) (Inv P)) := thn_ok o2 (Inv_ok okP) (by rw [thn_len, Inv_len])
  rw [e1] at s3 ⊢
  rw [show turnS (turnS (R, U)) = (Inv R, Inv U) from rfl]
  refine ⟨s3, okP, lP, ?_, ?_⟩
  · refine ren_of o1 (Inv_ok s.r) okP (by rw [thn_len]; exact lu) (by rw [Inv_len]; exact lr) lP ?_
    rw [thn_assoc s.u (by rw [Inv_len, lP, lu]), Inv_thn_self okP lP, thn_id s.u lu, hP, thn_assoc s.u (by rw [lu, lr]), thn_Inv s.r lr, thn_id s.u lu]
  · refine ren_of o3 okI okP (by rw [thn_len, thn_len]; exact lP) (by rw [Inv_len]; exact lu) lP ?_
    rw [thn_assoc o2 (by rw [thn_len, Inv_len]), Inv_thn_self okP lP, thn_id o2 (by rw [thn_len]; exact lP)]

/-! ### Matrices -/
abbrev Mx := Int × Int × Int × Int
def mulM (m k : Mx) : Mx := (m.1 * k.1 + m.2.1 * k.2.2.1, m.1 * k.2.1 + m.2.1 * k.2.2.2, m.2.2.1 * k.1 + m.2.2.2 * k.2.2.1, m.2.2.1 * k.2.1 + m.2.2.2 * k.2.2.2)
def detM (m : Mx) : Int := m.1 * m.2.2.2 - m.2.1 * m.2.2.1
def letM (c : UInt8) : Mx := if c.toNat = 84 then (1, 1, 0, 1) else if c.toNat = 116 then (1, -1, 0, 1) else if c.toNat = 83 then (0, -1, 1, 0) else (0, 1, -1, 0)
def matW (w : List UInt8) : Mx := w.foldl (fun m c => mulM (letM c) m) (1, 0, 0, 1)
theorem matW_snoc (w : List UInt8) (c : UInt8) : matW (w ++ [c]) = mulM (letM c) (matW w) := by simp [matW]
def Lim (p : Int) (m : Mx) : Prop := (-p ≤ m.1 ∧ m.1 ≤ p) ∧ (-p ≤ m.2.1 ∧ m.2.1 ≤ p) ∧ (-p ≤ m.2.2.1 ∧ m.2.2.1 ≤ p) ∧ (-p ≤ m.2.2.2 ∧ m.2.2.2 ≤ p)
theorem lim_let {p : Int} {m : Mx} (c : UInt8) (hp : 0 ≤ p) (h : Lim p m) : Lim (2 * p) (mulM (letM c) m) := by
  obtain ⟨a, b, cc, d⟩ := m
  obtain ⟨⟨h1, h2⟩, ⟨h3, h4⟩, ⟨h5, h6⟩, ⟨h7, h8⟩⟩ := h
  simp only at h1 h2 h3 h4 h5 h6 h7 h8
  unfold letM
  split
  · simp only [Lim, mulM]; omega
  · split
    · simp only [Lim, mulM]; omega
    · split
      · simp only [Lim, mulM]; omega
      · simp only [Lim, mulM]; omega
theorem lim_fold : ∀ (w : List UInt8) (p : Int) (m : Mx), 0 ≤ p → Lim p m → Lim (2 ^ w.length * p) (w.foldl (fun m c => mulM (letM c) m) m) := by
  intro w
  induction w with
  | nil => intro p m hp h; simpa using h
  | cons c w ih =>
    intro p m hp h
    have := ih (2 * p) _ (by omega) (lim_let c hp h)
    rw [List.foldl_cons, List.length_cons]
    rw [show (2 : Int) ^ (w.length + 1) * p = 2 ^ w.length * (2 * p) by rw [Int.pow_succ, Int.mul_assoc]]
    exact this
theorem matW_lim (w : List UInt8) (h : w.length ≤ 40) : Lim 1099511627776 (matW w) := by
  have h1 := lim_fold w 1 (1, 0, 0, 1) (by omega) (by unfold Lim; simp)
  have h2 : (2 : Int) ^ w.length ≤ 2 ^ 40 := by
    have : (2 : Nat) ^ w.length ≤ 2 ^ 40 := Nat.pow_le_pow_right (by omega) h
    exact_mod_cast this
  have h3 : (2 : Int) ^ 40 = 1099511627776 := by decide
  rw [Int.mul_one] at h1
  obtain ⟨⟨a1, a2⟩, ⟨a3, a4⟩, ⟨a5, a6⟩, ⟨a7, a8⟩⟩ := h1
  unfold matW Lim
  omega
theorem det_mul (m k : Mx) : detM (mulM m k) = detM m * detM k := by
  obtain ⟨a, b, c, d⟩ := m; obtain ⟨e, f, g, h⟩ := k
  simp only [detM, mulM]
  grind
theorem det_let (c : UInt8) : detM (letM c) = 1 := by
  unfold letM
  split
  · rfl
  · split
    · rfl
    · split <;> rfl
theorem det_fold : ∀ (w : List UInt8) (m : Mx), detM (w.foldl (fun m c => mulM (letM c) m) m) = detM m := by
  intro w
  induction w with
  | nil => intro m; rfl
  | cons c w ih => intro m; rw [List.foldl_cons, ih, det_mul, det_let, Int.one_mul]
theorem matW_det (w : List UInt8) : detM (matW w) = 1 := by unfold matW; rw [det_fold]; rfl
end Go.Proofs.YtpmojmhamgcfmaaGreat.pm

/-
  The orbit of a surface as lists: canonical forms, the first place of a form in a list, the search with its words.
-/
namespace Go.Proofs.YtpmojmhamgcfmaaGreat.orb
open Go.Proofs.YtpmojmhamgcfmaaGreat.pm
set_option linter.unusedVariables false
set_option maxRecDepth 100000

/-- The canonical form of a surface. -/
def cn (s : Sur) : Sur := can s.1 s.2 s.1.length
/-- The first place of x in L, or -1. -/
def fnd : List Sur → Sur → Int
  | [], _ => -1
  | y :: L, x => if y = x then 0 else if fnd L x < 0 then -1 else fnd L x + 1
theorem fnd_range (L : List Sur) (x : Sur) : fnd L x = -1 ∨ (0 ≤ fnd L x ∧ fnd L x < L.length) := by
  induction L with
  | nil => exact .inl rfl
  | cons y L ih =>
    unfold fnd
    split
    · right; simp
    · split
      · exact .inl rfl
      · right
        rcases ih with h | h
        · omega
        · simp; omega
theorem fnd_no {L : List Sur} {x : Sur} : fnd L x = -1 ↔ x ∉ L := by
  induction L with
  | nil => simp [fnd]
  | cons y L ih =>
    have hr := fnd_range L x
    unfold fnd
    by_cases h : y = x
    · simp [h]
    · rw [if_neg h]
      have hm : x ∉ y :: L ↔ x ∉ L := by simp [show ¬ x = y from fun e => h e.symm]
      rw [hm, ← ih]
      by_cases h' : fnd L x < 0
      · rw [if_pos h']; omega
      · rw [if_neg h']; omega
theorem fnd_neg {L : List Sur} {x : Sur} : fnd L x < 0 ↔ x ∉ L := by
  rw [← fnd_no]
  have := fnd_range L x
  omega
theorem fnd_at {L : List Sur} {x : Sur} {k : Nat} (h1 : L[k]? = some x) (h2 : ∀ j, j < k → L[j]? ≠ some x) : fnd L x = k := by
  induction L generalizing k with
  | nil => simp at h1
  | cons y L ih =>
    unfold fnd
    cases k with
    | zero => simp at h1; rw [if_pos h1]; rfl
    | succ k =>
      have h0 : ¬ y = x := fun e => h2 0 (by omega) (by simp [e])
      have := ih (k := k) (by simpa using h1) (fun j hj => by simpa using h2 (j + 1) (by omega))
      rw [if_neg h0, this, if_neg (by omega)]
      omega
theorem fnd_none {L : List Sur} {x : Sur} (h : ∀ j, j < L.length → L[j]? ≠ some x) : fnd L x = -1 := by
  rw [fnd_no]
  intro hx
  obtain ⟨j, hj, e⟩ := List.mem_iff_getElem.1 hx
  exact h j hj (by rw [List.getElem?_eq_getElem hj, e])
/-- Where the first place is. -/
theorem fnd_get {L : List Sur} {x : Sur} (h : x ∈ L) : ∃ k : Nat, fnd L x = k ∧ k < L.length ∧ L[k]? = some x := by
  induction L with
  | nil => simp at h
  | cons y L ih =>
    unfold fnd
    by_cases e : y = x
    · exact ⟨0, by simp [e], by simp, by simp [e]⟩
    · have hx : x ∈ L := by
        rcases List.mem_cons.1 h with q | q
        · exact absurd q.symm e
        · exact q
      obtain ⟨k, h1, h2, h3⟩ := ih hx
      exact ⟨k + 1, by rw [if_neg e, h1, if_neg (by omega)]; omega, by simp; omega, by simpa using h3⟩

abbrev LW := List Sur × List (List UInt8)
/-- The form after a letter. -/
def stp (c : UInt8) (s : Sur) : Sur := cn (letS c s)
/-- One letter at the surface number k: the form behind it is added if it is not there yet, with its word. -/
def addL (k : Nat) (c : UInt8) (q : LW) : LW :=
  if stp c (q.1.getD k ([], [])) ∈ q.1 then q else (q.1 ++ [stp c (q.1.getD k ([], []))], q.2 ++ [q.2.getD k [] ++ [c]])
def two (k : Nat) (q : LW) : LW := addL k 83 (addL k 84 q)
/-- The search from place k on, with fuel. -/
def orun : Nat → Nat → LW → Option LW
  | 0, _, _ => none
  | f + 1, k, q => if k < q.1.length then (if 120 < (two k q).1.length then none else orun f (k + 1) (two k q)) else some q
/-- The orbit of a surface, with the words: none if there are more than 120. -/
def orb (s : Sur) : Option LW := orun 122 0 ([cn s], [[]])

/-- What the search keeps: as many words as surfaces, all valid with n squares, and the word number k has at most k letters. -/
structure Oi (n : Nat) (q : LW) : Prop where
  len : q.2.length = q.1.length
  sf : ∀ x ∈ q.1, Sf n x.1 x.2
  wl : ∀ (k : Nat) (w : List UInt8), q.2[k]? = some w → w.length ≤ k
theorem cn_sf {n : Nat} {s : Sur} (h : Sf n s.1 s.2) : Sf n (cn s).1 (cn s).2 := by
  unfold cn
  rw [h.lr]
  obtain ⟨ns, _, h2⟩ := h.can_iso
  exact h2
theorem Oi.start {n : Nat} {s : Sur} (h : Sf n s.1 s.2) : Oi n ([cn s], [[]]) :=
  ⟨rfl, fun x hx => by simp at hx; subst hx; exact cn_sf h, fun k w hw => by
    cases k with
    | zero => simp at hw; subst hw; simp
    | succ k => simp at hw⟩
theorem Oi.at {n : Nat} {q : LW} (h : Oi n q) {k : Nat} (hk : k < q.1.length) : ∃ x w, q.1[k]? = some x ∧ q.1.getD k ([], []) = x ∧ Sf n x.1 x.2 ∧ q.2[k]? = some w ∧ q.2.getD k [] = w ∧ w.length ≤ k := by
  have hk2 : k < q.2.length := by rw [h.len]; exact hk
  have e2 := List.getElem?_eq_getElem hk2
  refine ⟨q.1[k], q.2[k], List.getElem?_eq_getElem hk, ?_, h.sf _ (List.getElem_mem hk), e2, ?_, h.wl k _ e2⟩
  · rw [List.getD_eq_getElem?_getD, List.getElem?_eq_getElem hk]; rfl
  · rw [List.getD_eq_getElem?_getD, e2]; rfl
theorem addL_sub (k : Nat) (c : UInt8) (q : LW) : ∃ r, (addL k c q).1 = q.1 ++ r ∧ r.length ≤ 1 := by
  unfold addL
  split
  · exact ⟨[], by simp⟩
  · exact ⟨_, rfl, by simp⟩
theorem addL_sub2 (k : Nat) (c : UInt8) (q : LW) : ∃ r, (addL k c q).2 = q.2 ++ r ∧ r.length ≤ 1 := by
  unfold addL
  split
  · exact ⟨[], by simp⟩
  · exact ⟨_, rfl, by simp⟩
theorem Oi.add {n : Nat} {q : LW} (h : Oi n q) {k : Nat} (hk : k < q.1.length) (c : UInt8) : Oi n (addL k c q) := by
  obtain ⟨x, w, h1, h2, h3, h4, h5, h6⟩ := h.at hk
  unfold addL
  split
  · exact h
  · refine ⟨by simp [h.len], fun y hy => ?_, fun j u hu => ?_⟩
    · rcases List.mem_append.1 hy with q' | q'
      · exact h.sf y q'
      · simp at q'
        subst q'
        rw [h1]
        exact cn_sf (letS_sf h3 c)
    · simp only at hu
      rw [List.getElem?_append] at hu
      split at hu
      · exact h.wl j u hu
      · rename_i hj
        have hl := h.len
        rcases Nat.eq_zero_or_pos (j - q.2.length) with e | e
        · rw [e] at hu
          simp at hu
          subst hu
          rw [show q.2[k]?.getD [] = w by rw [h4]; rfl]
          simp; omega
        · rw [List.getElem?_eq_none (by simp; omega)] at hu; cases hu
end Go.Proofs.YtpmojmhamgcfmaaGreat.orb
