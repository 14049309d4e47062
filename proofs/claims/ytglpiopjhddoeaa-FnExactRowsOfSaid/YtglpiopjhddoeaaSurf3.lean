/-
  The symmetries of a surface divide its squares, and renaming keeps their number: plain mathematics.
-/
import Derived.Test.YtglpiopjhddoeaaSurf2
namespace Go.Proofs.Ytglpiopjhddoeaa.pm
open Go.Proofs.Ytglpiopjhddoeaa.arr Go.Proofs.Ytglpiopjhddoeaa.inv Go.Proofs.Ytglpiopjhddoeaa.permOf
set_option linter.unusedVariables false
set_option maxRecDepth 100000

theorem dvd_count {α : Type} [DecidableEq α] (K : Nat) : ∀ (m : Nat) (l : List α), l.length ≤ m → (∀ x ∈ l, l.countP (fun y => decide (y = x)) = K) → K ∣ l.length := by
  intro m
  induction m with
  | zero =>
    intro l hl _
    have : l.length = 0 := by omega
    rw [this]; exact Nat.dvd_zero K
  | succ m ih =>
    intro l hl h
    cases l with
    | nil => exact Nat.dvd_zero K
    | cons a t =>
      have hp := List.length_eq_countP_add_countP (fun y => decide (y = a)) (l := a :: t)
      have hc : (a :: t).countP (fun y => decide (y = a)) = K := h a (by simp)
      have kp : 0 < K := by rw [← hc]; exact List.countP_pos_iff.2 ⟨a, by simp, by simp⟩
      generalize hr : (fun y => decide ¬(decide (y = a)) = true) = r at hp
      have hf : (a :: t).countP r = ((a :: t).filter r).length := List.countP_eq_length_filter
      have hd := ih ((a :: t).filter r) (by rw [← hf]; omega) (by
        intro x hx
        obtain ⟨hx1, hx2⟩ := List.mem_filter.1 hx
        rw [List.countP_filter, ← h x hx1]
        refine List.countP_congr fun y _ => ?_
        constructor
        · intro q; simp only [Bool.and_eq_true] at q; exact q.1
        · intro q
          have e : y = x := by simpa using q
          subst e
          simp only [Bool.and_eq_true]
          exact ⟨by simp, hx2⟩)
      rw [hp, hc, hf]
      exact Nat.dvd_add (Nat.dvd_refl K) hd
/-- The renaming that takes f's names to h's. -/
def phi (R U : List Int) (f h : Int) : List Int := thn (nm R U f) (reach R U h)
section
variable {n : Nat} {R U : List Int} (s : Sf n R U) {f g h : Int} (f0 : 0 ≤ f) (f1 : f < n) (h0 : 0 ≤ h) (h1 : h < n)
include s f0 f1 h0 h1
theorem phi_ok : Ok (phi R U f h) ∧ (phi R U f h).length = n := by
  obtain ⟨k, l⟩ := s.nok f0 f1
  exact ⟨thn_ok k (s.rok h0 h1) (by rw [l, s.flen h0 h1]), by unfold phi; rw [thn_len, l]⟩
/-- h's name for phi's image is f's name. -/
theorem phi_nm {i : Nat} (hi : i < n) : (nm R U h).getD ((phi R U f h).getD i 0).toNat 0 = (nm R U f).getD i 0 := by
  obtain ⟨k, l⟩ := s.nok f0 f1
  unfold phi
  rw [thn_at (by omega)]
  have m := k.maps i (by omega)
  unfold nm at m ⊢
  have := Inv_at (s.rok h0 h1) (k := ((Inv (reach R U f)).getD i 0).toNat) (by rw [s.flen h0 h1]; unfold nm at l; omega)
  rw [this, Int.toNat_of_nonneg m.1]
theorem phi_f : (phi R U f h).getD f.toNat 0 = h := by
  obtain ⟨k, l⟩ := s.nok f0 f1
  have hr : ∀ q : Int, 0 ≤ q → q < n → (reach R U q).getD 0 0 = q := by
    intro q q0 q1
    have := rs_pre R U q (Nat.zero_le R.length)
    have e := pre_at this (k := 0) (by simp [rs])
    unfold reach; rw [e]; rfl
  have e := Inv_at (s.rok f0 f1) (k := 0) (by rw [s.flen f0 f1]; exact s.pos)
  rw [hr f f0 f1] at e
  unfold phi
  rw [thn_at (by omega)]
  unfold nm
  rw [e]
  exact hr h h0 h1
theorem phi_auto (e : Fm R U n h = Fm R U n f) : Iso n R U R U (phi R U f h) := by
  obtain ⟨pk, pl⟩ := phi_ok s f0 f1 h0 h1
  obtain ⟨fk, fl⟩ := s.nok f0 f1
  obtain ⟨hk, hl⟩ := s.nok h0 h1
  have eR : renTo n R (nm R U h) n = renTo n R (nm R U f) n := congrArg Prod.fst e
  have eU : renTo n U (nm R U h) n = renTo n U (nm R U f) n := congrArg Prod.snd e
  have pb : Bij n (phi R U f h) := by have := pk.bij; rw [pl] at this; exact this
  have one : ∀ X : List Int, X.length = n → Bij n X → renTo n X (nm R U h) n = renTo n X (nm R U f) n → Ren n X X (phi R U f h) := by
    intro X lx bx ex
    refine ⟨bx, bx, pb, fun i hi => ?_⟩
    have m := pb.maps i hi
    have mx := bx.maps i hi
    have a := ren_at' hk lx hl (k := ((phi R U f h).getD i 0).toNat) (by omega)
    rw [phi_nm s f0 f1 h0 h1 hi, ex, ren_at' fk lx fl hi, ← phi_nm s f0 f1 h0 h1 (i := (X.getD i 0).toNat) (by omega)] at a
    have m1 := bx.maps ((phi R U f h).getD i 0).toNat (by omega)
    have m2 := pb.maps (X.getD i 0).toNat (by omega)
    have := hk.inj _ _ (by omega) (by omega) a
    omega
  exact ⟨s, pk, pl, one R s.lr s.br eR, one U s.lu s.bu eU⟩
end
def fib (R U : List Int) (n : Nat) (f : Int) : List Int := (rng n).filter fun h => decide (Fm R U n h = Fm R U n f)
theorem mem_fib {R U : List Int} {n : Nat} {f h : Int} : h ∈ fib R U n f ↔ (0 ≤ h ∧ h < n) ∧ Fm R U n h = Fm R U n f := by
  unfold fib; rw [List.mem_filter, mem_rng]; simp
theorem fib_le {n : Nat} {R U : List Int} (s : Sf n R U) {f g : Int} (f0 : 0 ≤ f) (f1 : f < n) (g0 : 0 ≤ g) (g1 : g < n) : (fib R U n f).length ≤ (fib R U n g).length := by
  have := nodup_sub_len ((fib R U n f).map fun h => (phi R U f h).getD g.toNat 0) (fib R U n g) (by
    unfold List.Nodup
    rw [List.pairwise_map]
    refine List.Pairwise.imp_of_mem ?_ (List.Pairwise.filter _ (rng_nodup n))
    intro h h' hh hh' hne q
    obtain ⟨⟨a0, a1⟩, ae⟩ := mem_fib.1 hh
    obtain ⟨⟨b0, b1⟩, be⟩ := mem_fib.1 hh'
    have A := phi_auto s f0 f1 a0 a1 ae
    have B := phi_auto s f0 f1 b0 b1 be
    have p := A.r.s.maps g.toNat (by omega)
    have na := A.nm_eq s.lr g0 g1 (i := f.toNat) (by omega)
    have nb := B.nm_eq s.lr g0 g1 (i := f.toNat) (by omega)
    rw [← q, phi_f s f0 f1 b0 b1] at nb
    rw [phi_f s f0 f1 a0 a1] at na
    obtain ⟨nk, nl⟩ := s.nok p.1 p.2
    have := nk.inj _ _ (by omega) (by omega) (na.trans nb.symm)
    omega) (by
    intro x hx
    obtain ⟨h, hh, rfl⟩ := List.mem_map.1 hx
    obtain ⟨⟨a0, a1⟩, ae⟩ := mem_fib.1 hh
    have A := phi_auto s f0 f1 a0 a1 ae
    exact mem_fib.2 ⟨A.r.s.maps g.toNat (by omega), A.F_eq s g0 g1⟩)
  simpa using this
/-- The number of squares from which the names give the canonical form. -/
def sym (R U : List Int) (n : Nat) : Nat := (rng n).countP fun h => decide (Fm R U n h = can R U n)
theorem sym_fib {n : Nat} {R U : List Int} (s : Sf n R U) : ∃ j : Nat, j < n ∧ sym R U n = (fib R U n (j : Int)).length := by
  obtain ⟨j, hj, e⟩ := can_is (R := R) (U := U) s.pos
  exact ⟨j, hj, by unfold sym fib; rw [List.countP_eq_length_filter, e]⟩
theorem sym_pos {n : Nat} {R U : List Int} (s : Sf n R U) : 0 < sym R U n := by
  obtain ⟨j, hj, e⟩ := sym_fib s
  rw [e]
  exact List.length_pos_of_mem (mem_fib.2 ⟨⟨by omega, by omega⟩, rfl⟩ : (j : Int) ∈ fib R U n (j : Int))
theorem sym_le {n : Nat} {R U : List Int} : sym R U n ≤ n := by
  have := List.countP_le_length (p := fun h => decide (Fm R U n h = can R U n)) (l := rng n)
  rw [rng_len] at this
  exact this
theorem sym_dvd {n : Nat} {R U : List Int} (s : Sf n R U) : sym R U n ∣ n := by
  obtain ⟨j, hj, e⟩ := sym_fib s
  have := dvd_count (sym R U n) n ((rng n).map (Fm R U n)) (by simp [rng]) (by
    intro x hx
    obtain ⟨f, hf, rfl⟩ := List.mem_map.1 hx
    rw [mem_rng] at hf
    rw [List.countP_map, e]
    have q : (rng n).countP ((fun y => decide (y = Fm R U n f)) ∘ Fm R U n) = (fib R U n f).length := by
      unfold fib
      rw [List.countP_eq_length_filter]
      rfl
    rw [q]
    have a := fib_le s hf.1 hf.2 (g := (j : Int)) (by omega) (by omega)
    have b := fib_le s (f := (j : Int)) (by omega) (by omega) hf.1 hf.2
    omega)
  rw [List.length_map, rng_len] at this
  exact this
theorem Iso.sym_eq {n : Nat} {R U R' U' ns : List Int} (h : Iso n R U R' U' ns) (s' : Sf n R' U') : sym R' U' n = sym R U n := by
  unfold sym
  rw [← h.r.s.map_rng.countP_eq, List.countP_map]
  refine List.countP_congr fun x hx => ?_
  rw [mem_rng] at hx
  simp only [Function.comp]
  rw [h.F_eq s' hx.1 hx.2, h.can_eq s']
end Go.Proofs.Ytglpiopjhddoeaa.pm
