import Derived.Test.YtpmojmhamgcfmaaY07
import Derived.Test.YtpmojmhamgcfmaaY06
import Derived.Lib.Slices
import Derived.Test.YtpmojmhamgcfmaaY04
import Derived.Laws.OwnMore
import Derived.Test.YtpmojmhamgcfmaaY01
/-
  Corners, angles, stratum and genus: plain mathematics.
-/
namespace Go.Proofs.Ytpmojmhamgcfmaa.pm
open Go.Proofs.Ytpmojmhamgcfmaa.arr Go.Proofs.Ytpmojmhamgcfmaa.inv Go.Proofs.Ytpmojmhamgcfmaa.permOf
set_option linter.unusedVariables false
set_option maxRecDepth 100000

theorem foldmin (l : List Int) : ∀ a : Int, l.foldl min a ≤ a ∧ (∀ y ∈ l, l.foldl min a ≤ y) ∧ (l.foldl min a = a ∨ l.foldl min a ∈ l) := by
  induction l with
  | nil => intro a; exact ⟨Int.le_refl _, by simp, .inl rfl⟩
  | cons x l ih =>
    intro a
    obtain ⟨h1, h2, h3⟩ := ih (min a x)
    rw [List.foldl_cons]
    refine ⟨by omega, fun y hy => ?_, ?_⟩
    · rcases List.mem_cons.1 hy with rfl | hy
      · omega
      · exact h2 y hy
    · rcases h3 with h3 | h3
      · rw [h3]
        rcases Int.le_total a x with q | q
        · exact .inl (by omega)
        · exact .inr (List.mem_cons.2 (.inl (by omega)))
      · exact .inr (List.mem_cons.2 (.inr h3))
theorem minOf_iff {l : List Int} {x : Int} (h : x ∈ l) : Lib.minOf l = x ↔ ∀ y ∈ l, x ≤ y := by
  cases l with
  | nil => simp at h
  | cons a l =>
    obtain ⟨h1, h2, h3⟩ := foldmin l a
    have e : Lib.minOf (a :: l) = l.foldl min a := by simp [Lib.minOf]
    rw [e]
    constructor
    · rintro rfl y hy
      rcases List.mem_cons.1 hy with rfl | hy
      · exact h1
      · exact h2 y hy
    · intro q
      have a1 : l.foldl min a ≤ x := by
        rcases List.mem_cons.1 h with rfl | h
        · exact h1
        · exact h2 x h
      have a2 : x ≤ l.foldl min a := by
        rcases h3 with h3 | h3
        · rw [h3]; exact q a (List.mem_cons.2 (.inl rfl))
        · exact q _ (List.mem_cons.2 (.inr h3))
      omega
theorem mn_iff {n : Nat} {ps : List Int} (hb : Bij n ps) {f : Int} (f0 : 0 ≤ f) (f1 : f < n) : Lib.minOf (cyc ps n f) = f ↔ mn ps n f = true := by
  rw [minOf_iff (cyc_self hb f0 f1)]; simp [mn]
theorem in_cso_iff {n k : Nat} {ps : List Int} (hb : Bij n ps) (hk : k < n) : (k : Int) ∈ (cso ps n k).flatten ↔ mn ps n (k : Int) = false := by
  rw [mem_cso hb k (by omega)]
  unfold mn
  rw [decide_eq_false_iff_not]
  constructor
  · rintro ⟨j, hj, q⟩ h
    have := h _ (cyc_symm hb (by omega) (by omega) q)
    omega
  · intro h
    have : ∃ y, y ∈ cyc ps n (k : Int) ∧ y < (k : Int) := by
      rcases Classical.em (∃ y, y ∈ cyc ps n (k : Int) ∧ y < (k : Int)) with q | q
      · exact q
      · exact absurd (fun y hy => Int.not_lt.1 (fun hlt => q ⟨y, hy, hlt⟩)) h
    obtain ⟨y, hy, hlt⟩ := this
    have hw := cyc_way (f := (k : Int)) hb (by omega) (by omega)
    have y0 := hw.inn.lo y hy
    exact ⟨y.toNat, by omega, by rw [Int.toNat_of_nonneg y0]; exact cyc_symm hb (by omega) (by omega) hy⟩
/-- The next cycle: that of k, if k is the least of it. -/
theorem cso_yes {n k : Nat} {ps : List Int} (hb : Bij n ps) (hk : k < n) (h : Lib.minOf (cyc ps n (k : Int)) = (k : Int)) : cso ps n (k + 1) = cso ps n k ++ [cyc ps n (k : Int)] := by
  have q := (mn_iff hb (by omega) (by omega)).1 h
  rw [cso, if_neg (fun e => by rw [(in_cso_iff hb hk).1 e] at q; cases q)]
theorem cso_no {n k : Nat} {ps : List Int} (hb : Bij n ps) (hk : k < n) (h : Lib.minOf (cyc ps n (k : Int)) ≠ (k : Int)) : cso ps n (k + 1) = cso ps n k := by
  rw [cso, if_pos]
  rw [in_cso_iff hb hk]
  cases q : mn ps n (k : Int) with
  | false => rfl
  | true => exact absurd ((mn_iff hb (by omega) (by omega)).2 q) h

theorem ok_ext {xs : List Int} (h : Ok xs) : Ok (ext xs) := by
  have hl := h.len
  refine ⟨by rw [ext_len]; omega, fun i hi => h.sq.lo i (by rwa [ext_len] at hi), fun i hi => by rw [ext_len] at *; exact h.sq.hi i hi, fun i j hi hj e => ?_⟩
  rw [ext_len] at hi hj
  rw [ext_at hi, ext_at hj] at e
  split at e <;> split at e
  · exact h.inj i j (by assumption) (by assumption) e
  · have := h.hi i (by assumption); omega
  · have := h.hi j (by assumption); omega
  · omega
theorem thn_ext {xs ys : List Int} (h : Ok xs) (h' : Ok ys) (e : xs.length = ys.length) : thenL (ext xs) (ext ys) = ext (thn xs ys) := by
  have hl := h.len
  refine list_eq 24 (by unfold thenL; exact tab_len _) (ext_len _) fun i hi => ?_
  rw [thenL_at _ _ hi, ext_at hi, ext_at hi, thn_len]
  by_cases q : i < xs.length
  · have a := h.lo i q; have b := h.hi i q
    rw [if_pos q, if_pos q, thn_at q, ext_at (by omega), if_pos (by omega)]
  · rw [if_neg q, if_neg q, Int.toNat_natCast, ext_at hi, if_neg (by omega)]
theorem inv_ext {xs : List Int} (h : Ok xs) : invTo 24 (ext xs) 24 = ext (Inv xs) := by
  have hl := h.len
  refine list_eq 24 (invTo_len _ _ _) (ext_len _) fun i hi => ?_
  rw [ext_at hi, Inv_len]
  by_cases q : i < xs.length
  · rw [if_pos q]
    obtain ⟨k, hk, e1, e2⟩ := at_Inv h q
    have a := inv_at (ok_ext h) (k := k) (by rw [ext_len]; omega)
    rw [ext_at (by omega), if_pos hk, e2, ext_len, Int.toNat_natCast] at a
    rw [a, e1]
  · rw [if_neg q]
    have a := inv_at (ok_ext h) (k := i) (by rw [ext_len]; omega)
    rw [ext_at hi, if_neg q, ext_len, Int.toNat_natCast] at a
    exact a
/-- The round as the program reckons it, among 24. -/
def ar24 (p q : List Int) : List Int := thenL (thenL (thenL p q) (invTo 24 p 24)) (invTo 24 q 24)
theorem ar24_len (p q : List Int) : (ar24 p q).length = 24 := by unfold ar24 thenL; exact tab_len _
section
variable {n : Nat} {R U : List Int} (s : Sf n R U)
include s
theorem Sf.small : n ≤ 24 := by have := s.r.len; have := s.lr; omega
theorem Sf.comm : Ok (comm R U) ∧ (comm R U).length = n := comm_ok s.r s.u s.lr s.lu
theorem Sf.commB : Bij n (pm.comm R U) := s.comm.1.bij' s.comm.2
theorem ar24_ext : ar24 (ext R) (ext U) = ext (comm R U) := by
  have l1 : R.length = U.length := by rw [s.lr, s.lu]
  have o1 := thn_ok s.r s.u l1
  have l2 : (thn R U).length = (Inv R).length := by rw [thn_len, Inv_len]
  have o2 := thn_ok o1 (Inv_ok s.r) l2
  have l3 : (thn (thn R U) (Inv R)).length = (Inv U).length := by rw [thn_len, thn_len, Inv_len, l1]
  unfold ar24
  rw [thn_ext s.r s.u l1, inv_ext s.r, inv_ext s.u, thn_ext o1 (Inv_ok s.r) l2, thn_ext o2 (Inv_ok s.u) l3, thn_assoc o1 l2]
  rfl
end
theorem take_ext (xs : List Int) (h : xs.length ≤ 24) : (ext xs).take xs.length = xs := by
  refine list_eq xs.length (by simp [ext_len]; omega) rfl fun i hi => ?_
  have e : (ext xs).getD i 0 = xs.getD i 0 := by rw [ext_at (by omega), if_pos hi]
  rw [← e]
  simp [List.getD, hi]

/-- The round, the corners, the angles, the stratum, the genus, whether a corner is regular. -/
def arF (r u : List Int) : List Int := if transB r u then comm r u else []
def corF (r u : List Int) : List (List Int) := if transB r u then cso (comm r u) r.length r.length else []
def angF (r u : List Int) : List Int := sortD ((corF r u).map fun xs => (xs.length : Int))
def strL (l : List Int) : List Int := (l.filter fun a => decide (1 < a)).map fun a => a - 1
def strF (r u : List Int) : List Int := strL (angF r u)
def genF (r u : List Int) : Int := if transB r u then 1 + ((r.length : Int) - (corF r u).length) / 2 else -1
def regF (r u : List Int) (a : Int) : Bool := transB r u && (decide (0 ≤ a) && (decide (a < r.length) && decide ((comm r u).getD a.toNat 0 = a)))
theorem arF_yes {r u : List Int} (h : transB r u = true) : arF r u = comm r u := by simp [arF, h]
theorem arF_no {r u : List Int} (h : transB r u = false) : arF r u = [] := by simp [arF, h]
theorem corF_yes {r u : List Int} (h : transB r u = true) : corF r u = cso (comm r u) r.length r.length := by simp [corF, h]
theorem corF_no {r u : List Int} (h : transB r u = false) : corF r u = [] := by simp [corF, h]
theorem corF_cyc {r u : List Int} (h : transB r u = true) : corF r u = cycF (comm r u) := by
  have s := transB_iff.1 h
  rw [corF_yes h, cycF, s.comm.1.b, if_pos rfl, s.comm.2]
theorem arF_len (r u : List Int) : (arF r u).length ≤ 1048576 := by
  unfold arF; split
  · rename_i h
    have s := transB_iff.1 h
    have := s.comm.2; have := s.small; omega
  · simp
theorem corF_small (r u : List Int) : (corF r u).length ≤ 24 ∧ ((corF r u).map List.length).sum ≤ 24 := by
  cases h : transB r u with
  | false => rw [corF_no h]; simp
  | true =>
    have s := transB_iff.1 h
    have hc := cso_cs s.commB r.length (Nat.le_refl _)
    have h1 := cso_len s.commB
    have := s.small; have := hc.len
    rw [corF_yes h]
    omega
theorem angF_len (r u : List Int) : (angF r u).length ≤ 1048576 := by
  have := (corF_small r u).1
  simp [angF, sortD_len]; omega
theorem strL_len (l : List Int) : (strL l).length ≤ l.length := by
  unfold strL; rw [List.length_map]; exact List.length_filter_le _ _
theorem strF_len (r u : List Int) : (strF r u).length ≤ 1048576 := Nat.le_trans (strL_len _) (angF_len r u)
theorem strL_snoc (l : List Int) (a : Int) : strL (l ++ [a]) = if 1 < a then strL l ++ [a - 1] else strL l := by
  unfold strL
  rw [List.filter_append, List.map_append]
  by_cases h : 1 < a <;> simp [h]
end Go.Proofs.Ytpmojmhamgcfmaa.pm

/-
  Half turns of a surface, and the two ways in which they are listed: plain mathematics.
-/
namespace Go.Proofs.Ytpmojmhamgcfmaa.ht
open Go.Proofs.Ytpmojmhamgcfmaa.arr Go.Proofs.Ytpmojmhamgcfmaa.inv Go.Proofs.Ytpmojmhamgcfmaa.permOf Go.Proofs.Ytpmojmhamgcfmaa.pm Go.Proofs.Ytpmojmhamgcfmaa.orb
set_option linter.unusedVariables false
set_option maxRecDepth 100000

def htB (R U a : List Int) : Bool := decide (∀ i, i < a.length → a.getD (R.getD i 0).toNat 0 = (Inv R).getD (a.getD i 0).toNat 0 ∧ a.getD (U.getD i 0).toNat 0 = (Inv U).getD (a.getD i 0).toNat 0)
def itB (r u a : List Int) : Bool := transB r u && (okB a && (decide (a.length = r.length) && htB r u a))
/-- a is a half turn of R, U. -/
structure Ht (n : Nat) (R U a : List Int) : Prop where
  ok : Ok a
  la : a.length = n
  r : ∀ i, i < n → a.getD (R.getD i 0).toNat 0 = (Inv R).getD (a.getD i 0).toNat 0
  u : ∀ i, i < n → a.getD (U.getD i 0).toNat 0 = (Inv U).getD (a.getD i 0).toNat 0
theorem htB_iff {n : Nat} {R U a : List Int} (o : Ok a) (la : a.length = n) : htB R U a = true ↔ Ht n R U a := by
  unfold htB
  rw [decide_eq_true_eq, la]
  exact ⟨fun h => ⟨o, la, fun i hi => (h i hi).1, fun i hi => (h i hi).2⟩, fun h i hi => ⟨h.r i hi, h.u i hi⟩⟩
theorem it_iff {n : Nat} {R U a : List Int} (s : Sf n R U) : itB R U a = true ↔ Ht n R U a := by
  unfold itB
  simp only [Bool.and_eq_true, decide_eq_true_eq]
  constructor
  · rintro ⟨_, o, l, h⟩
    exact (htB_iff (Ok.of a o) (l.trans s.lr)).1 h
  · intro h
    have lr := s.lr
    refine ⟨transB_iff.2 (by rw [lr]; exact s), h.ok.b, by rw [h.la, lr], (htB_iff h.ok h.la).2 h⟩
theorem back_sf {n : Nat} {R U : List Int} (s : Sf n R U) : Sf n (Inv R) (Inv U) := turn_sf (turn_sf s)
theorem binv {n : Nat} {q : List Int} (h : Ok q) (l : q.length = n) : Bij n (Inv q) := by have := (Inv_ok h).bij; rw [Inv_len, l] at this; exact this
theorem bok {n : Nat} {q : List Int} (h : Ok q) (l : q.length = n) : Bij n q := by have := h.bij; rw [l] at this; exact this
theorem Ht.iso {n : Nat} {R U a : List Int} (s : Sf n R U) (h : Ht n R U a) : Iso n R U (Inv R) (Inv U) a :=
  ⟨s, h.ok, h.la, ⟨s.br, binv s.r s.lr, bok h.ok h.la, fun i hi => (h.r i hi).symm⟩, ⟨s.bu, binv s.u s.lu, bok h.ok h.la, fun i hi => (h.u i hi).symm⟩⟩
theorem Ht.of_iso {n : Nat} {R U a : List Int} (h : Iso n R U (Inv R) (Inv U) a) : Ht n R U a := ⟨h.okn, h.ln, fun i hi => (h.r.eq i hi).symm, fun i hi => (h.u.eq i hi).symm⟩
/-- The program's test: renamed by a, the surface is the one after two turns. -/
theorem ren_iff {n : Nat} {R U a : List Int} (s : Sf n R U) (o : Ok a) (la : a.length = n) : (renTo n R a n = Inv R ∧ renTo n U a n = Inv U) ↔ Ht n R U a := by
  constructor
  · rintro ⟨e1, e2⟩
    refine ⟨o, la, fun i hi => ?_, fun i hi => ?_⟩
    · have := ren_at' o s.lr la hi; rw [e1] at this; exact this.symm
    · have := ren_at' o s.lu la hi; rw [e2] at this; exact this.symm
  · intro h
    exact ⟨ren_list o s.lr la (by rw [Inv_len]; exact s.lr) fun k hk => (h.r k hk).symm, ren_list o s.lu la (by rw [Inv_len]; exact s.lu) fun k hk => (h.u k hk).symm⟩
theorem reach_zero (R U : List Int) (q : Int) : (reach R U q).getD 0 0 = q := by
  have := rs_pre R U q (Nat.zero_le R.length)
  have e := pre_at this (k := 0) (by simp [rs])
  unfold reach; rw [e]; rfl
/-- The program's half turn with the image j. -/
def imF (R U : List Int) (j : Int) : List Int := thn (nm R U 0) (reach (Inv R) (Inv U) j)
section
variable {n : Nat} {R U : List Int} (s : Sf n R U)
include s
theorem im_ok {j : Int} (j0 : 0 ≤ j) (j1 : j < n) : Ok (imF R U j) ∧ (imF R U j).length = n := by
  have p := s.pos
  obtain ⟨k, l⟩ := s.nok (f := 0) (by omega) (by omega)
  have t := back_sf s
  exact ⟨thn_ok k (t.rok j0 j1) (by rw [l, t.flen j0 j1]), by unfold imF; rw [thn_len, l]⟩
theorem im_zero {j : Int} (j0 : 0 ≤ j) (j1 : j < n) : (imF R U j).getD 0 0 = j := by
  have p := s.pos
  obtain ⟨k, l⟩ := s.nok (f := 0) (by omega) (by omega)
  have e := Inv_at (s.rok (f := 0) (by omega) (by omega)) (k := 0) (by rw [s.flen (by omega) (by omega)]; exact p)
  rw [reach_zero] at e
  unfold imF
  rw [thn_at (by omega)]
  unfold nm
  have z : (0 : Int).toNat = 0 := rfl
  rw [z] at e
  rw [e]
  exact reach_zero _ _ _
theorem Ht.im {a : List Int} (h : Ht n R U a) : a = imF R U (a.getD 0 0) := by
  have p := s.pos
  have hi := h.iso s
  have t := back_sf s
  have j := h.ok.maps 0 (by rw [h.la]; exact p)
  rw [h.la] at j
  obtain ⟨k, l⟩ := s.nok (f := 0) (by omega) (by omega)
  refine list_eq n h.la (im_ok s j.1 j.2).2 fun i hi' => ?_
  have m := h.ok.maps i (by rw [h.la]; exact hi')
  rw [h.la] at m
  have e := hi.nm_eq t.lr (f := 0) (by omega) (by omega) hi'
  unfold imF
  rw [thn_at (by omega), ← e]
  have z : (0 : Int).toNat = 0 := rfl
  rw [z]
  unfold nm
  rw [Inv_right (t.rok j.1 j.2) m.1 (by rw [t.flen j.1 j.2]; exact m.2)]
end
/-- The specification's way: a square's neighbours are given the neighbours of its image. -/
def frW (X L st : List Int) (i : Int) : List Int := st.set (X.getD i.toNat 0).toNat (L.getD (st.getD i.toNat 0).toNat 0)
def frS (R U st : List Int) (i : Int) : List Int := frW U (Inv U) (frW R (Inv R) st i) i
def frK (R U : List Int) (j : Int) (k : Nat) : List Int := ((reach R U 0).take k).foldl (frS R U) ((List.replicate R.length 0).set 0 j)
def frF (R U : List Int) (j : Int) : List Int := frK R U j R.length
theorem frK_succ {R U : List Int} {j : Int} {k : Nat} {x : Int} (h : (reach R U 0)[k]? = some x) : frK R U j (k + 1) = frS R U (frK R U j k) x := by
  unfold frK; rw [List.take_add_one, h]; simp
/-- One write. -/
theorem frW_ok {n : Nat} {X L st W : List Int} {C : Int → Int → Prop} {i : Int} (bx : Maps n X) (bl : Maps n L) (ls : st.length = n) (ms : Maps n st) (i0 : 0 ≤ i) (i1 : i < n) (hi : i ∈ W) (hW : ∀ y ∈ W, 0 ≤ y)
    (hc : ∀ y v : Int, 0 ≤ y → y < n → 0 ≤ v → v < n → C y v → C (X.getD y.toNat 0) (L.getD v.toNat 0)) (h : ∀ y ∈ W, C y (st.getD y.toNat 0)) :
    (frW X L st i).length = n ∧ Maps n (frW X L st i) ∧ (∀ y ∈ add1 W (X.getD i.toNat 0), 0 ≤ y) ∧ ∀ y ∈ add1 W (X.getD i.toNat 0), C y ((frW X L st i).getD y.toNat 0) := by
  have m := bx i.toNat (by omega)
  have v := ms i.toNat (by omega)
  have v' := bl (st.getD i.toNat 0).toNat (by omega)
  have hin : ∀ y ∈ add1 W (X.getD i.toNat 0), y ∈ W ∨ y = X.getD i.toNat 0 := by
    intro y hy
    unfold add1 at hy
    split at hy
    · exact .inl hy
    · rcases List.mem_append.1 hy with q | q
      · exact .inl q
      · exact .inr (by simpa using q)
  have n0 : ∀ y ∈ add1 W (X.getD i.toNat 0), 0 ≤ y := fun y hy => by
    rcases hin y hy with q | q
    · exact hW y q
    · rw [q]; exact m.1
  refine ⟨by unfold frW; rw [List.length_set]; exact ls, fun k hk => ?_, n0, fun y hy => ?_⟩
  · unfold frW
    rw [getD_set]
    split
    · exact v'
    · exact ms k hk
  · unfold frW
    rw [getD_set]
    split
    · rename_i q
      have : y = X.getD i.toNat 0 := by have := n0 y hy; omega
      rw [this]
      exact hc i _ i0 i1 v.1 v.2 (h i hi)
    · rename_i q
      rcases hin y hy with p | p
      · exact h y p
      · exact absurd ⟨by rw [p], by rw [p, ls]; omega⟩ q
section
variable {n : Nat} {R U : List Int} (s : Sf n R U)
include s
theorem fr_inv {C : Int → Int → Prop} {j : Int} (j0 : 0 ≤ j) (j1 : j < n) (h0 : C 0 j)
    (hr : ∀ y v : Int, 0 ≤ y → y < n → 0 ≤ v → v < n → C y v → C (R.getD y.toNat 0) ((Inv R).getD v.toNat 0)) (hu : ∀ y v : Int, 0 ≤ y → y < n → 0 ≤ v → v < n → C y v → C (U.getD y.toNat 0) ((Inv U).getD v.toNat 0)) (k : Nat) (hk : k ≤ n) :
    (frK R U j k).length = n ∧ Maps n (frK R U j k) ∧ (∀ y ∈ rs R U 0 k, 0 ≤ y) ∧ ∀ y ∈ rs R U 0 k, C y ((frK R U j k).getD y.toNat 0) := by
  have p := s.pos
  have b1 := binv s.r s.lr
  have b2 := binv s.u s.lu
  have fl := s.flen (f := 0) (by omega) (by omega)
  induction k with
  | zero =>
    refine ⟨by simp [frK, s.lr], fun i hi => ?_, fun y hy => by simp [rs] at hy; omega, fun y hy => ?_⟩
    · simp only [frK, List.take_zero, List.foldl_nil]
      rw [getD_set]
      split
      · exact ⟨j0, j1⟩
      · simp [List.getD, s.lr, hi]; omega
    · have : y = 0 := by simpa [rs] using hy
      subst this
      simp only [frK, List.take_zero, List.foldl_nil]
      rw [getD_set, if_pos ⟨rfl, by rw [List.length_replicate, s.lr]; exact p⟩]
      exact h0
  | succ k ih =>
    obtain ⟨a1, a2, a3, a4⟩ := ih (by omega)
    have hin := rs_in s.br.maps s.bu.maps (f := 0) (by omega) (by omega) k
    have hl : k < (reach R U 0).length := by rw [fl]; omega
    have hl' : k < (rs R U 0 k).length := rs_early (m := R.length) hl (by rw [s.lr]; omega)
    obtain ⟨z, hz, e1, e2⟩ := hin.at_ hl'
    have e3 : (reach R U 0)[k]? = some (z : Int) := by
      have := pre_at (rs_pre R U 0 (show k ≤ R.length by rw [s.lr]; omega)) hl'
      rw [e2] at this
      rw [List.getElem?_eq_getElem hl]
      unfold reach at hl ⊢
      simp only [List.getD, List.getElem?_eq_getElem hl, Option.getD_some] at this
      rw [this]
    have st := rs_step R U 0 hl' e2
    rw [frK_succ e3, st]
    have hz' : (z : Int) ∈ rs R U 0 k := by rw [← e2]; exact getD_mem hl'
    have A := frW_ok (C := C) (i := (z : Int)) s.br.maps b1.maps a1 a2 (by omega) (by omega) hz' a3 hr a4
    rw [Int.toNat_natCast] at A
    have B := frW_ok (C := C) (i := (z : Int)) (W := add1 (rs R U 0 k) (R.getD z 0)) s.bu.maps b2.maps A.1 A.2.1 (by omega) (by omega) ((add1_pre _ _).subset hz') A.2.2.1 hu A.2.2.2
    rw [Int.toNat_natCast] at B
    exact B
theorem fr_bnd {j : Int} (j0 : 0 ≤ j) (j1 : j < n) (k : Nat) (hk : k ≤ n) : (frK R U j k).length = n ∧ Maps n (frK R U j k) := by
  have := fr_inv s (C := fun _ _ => True) j0 j1 trivial (fun _ _ _ _ _ _ _ => trivial) (fun _ _ _ _ _ _ _ => trivial) k hk
  exact ⟨this.1, this.2.1⟩
theorem mem_all {y : Nat} (hy : y < n) : (y : Int) ∈ rs R U 0 n := by
  have p := s.pos
  have := s.full (f := 0) (by omega) (by omega) (y := (y : Int)) (by omega) (by omega)
  unfold reach at this
  rwa [s.lr] at this
theorem fr_yes {a : List Int} (h : Ht n R U a) : frF R U (a.getD 0 0) = a := by
  have p := s.pos
  have j := h.ok.maps 0 (by rw [h.la]; exact p)
  rw [h.la] at j
  have := fr_inv s (C := fun y v => v = a.getD y.toNat 0) j.1 j.2 rfl (fun y v y0 y1 v0 v1 e => by have := h.r y.toNat (by omega); rw [this, e]) (fun y v y0 y1 v0 v1 e => by have := h.u y.toNat (by omega); rw [this, e]) n (Nat.le_refl n)
  unfold frF
  rw [s.lr]
  exact list_eq n this.1 h.la fun i hi => by have := this.2.2.2 i (mem_all s hi); rwa [Int.toNat_natCast] at this
theorem fr_zero {j : Int} (j0 : 0 ≤ j) (j1 : j < n) (h : Ht n R U (frF R U j)) : (frF R U j).getD 0 0 = j := by
  have p := s.pos
  have b1 := binv s.r s.lr
  have b2 := binv s.u s.lu
  rcases Classical.em ((frF R U j).getD 0 0 = j) with q | q
  · exact q
  · exfalso
    have := fr_inv s (C := fun y v => v ≠ (frF R U j).getD y.toNat 0) j0 j1 (fun e => q e.symm)
      (fun y v y0 y1 v0 v1 e e' => by
        have e2 := h.r y.toNat (by omega)
        rw [e2] at e'
        have m := h.ok.maps y.toNat (by rw [h.la]; omega)
        rw [h.la] at m
        have := b1.inj _ _ (by omega) (by omega) e'
        omega)
      (fun y v y0 y1 v0 v1 e e' => by
        have e2 := h.u y.toNat (by omega)
        rw [e2] at e'
        have m := h.ok.maps y.toNat (by rw [h.la]; omega)
        rw [h.la] at m
        have := b2.inj _ _ (by omega) (by omega) e'
        omega) n (Nat.le_refl n)
    have := this.2.2.2 (0 : Nat) (mem_all s p)
    have e : frF R U j = frK R U j n := by unfold frF; rw [s.lr]
    rw [e] at this
    exact this rfl
/-- Both ways find the same. -/
theorem fr_im {j : Int} (j0 : 0 ≤ j) (j1 : j < n) : itB R U (frF R U j) = itB R U (imF R U j) ∧ (itB R U (imF R U j) = true → frF R U j = imF R U j) := by
  have key : itB R U (imF R U j) = true → frF R U j = imF R U j := by
    intro h
    have h := (it_iff s).1 h
    have e := im_zero s j0 j1
    have := fr_yes s h
    rw [e] at this
    exact this
  refine ⟨?_, key⟩
  cases hb : itB R U (imF R U j)
  · cases ha : itB R U (frF R U j)
    · rfl
    · exfalso
      have h := (it_iff s).1 ha
      have := h.im s
      rw [fr_zero s j0 j1 h] at this
      rw [this, hb] at ha
      cases ha
  · rw [key hb, hb]
end
/-- All half turns. -/
def tuK (r u : List Int) (k : Nat) : List (List Int) := (((rng r.length).take k).filter fun j => itB r u (imF r u j)).map (imF r u)
def tuF (r u : List Int) : List (List Int) := if transB r u then tuK r u r.length else []
theorem tuF_yes {r u : List Int} {n : Nat} (h : transB r u = true) (hn : r.length = n) : tuF r u = tuK r u n := by simp [tuF, h, hn]
theorem tuF_no {r u : List Int} (h : transB r u = false) : tuF r u = [] := by simp [tuF, h]
theorem tuK_zero (r u : List Int) : tuK r u 0 = [] := rfl
theorem tuK_succ {n : Nat} {r u : List Int} (hn : r.length = n) {k : Nat} (hk : k < n) : tuK r u (k + 1) = if itB r u (imF r u (k : Int)) then tuK r u k ++ [imF r u (k : Int)] else tuK r u k := by
  have e : (rng r.length)[k]? = some (k : Int) := by rw [hn]; simp [rng, hk]
  unfold tuK
  rw [List.take_add_one, e]
  simp only [Option.toList, List.filter_append, List.map_append, List.filter_cons, List.filter_nil]
  split <;> simp
theorem tuK_len {n : Nat} {r u : List Int} (s : Sf n r u) (k : Nat) : (tuK r u k).length ≤ n ∧ ∀ l ∈ tuK r u k, l.length = n := by
  constructor
  · unfold tuK
    rw [List.length_map]
    refine Nat.le_trans (List.length_filter_le _ _) ?_
    rw [List.length_take, rng_len, s.lr]
    omega
  · intro l hl
    unfold tuK at hl
    obtain ⟨j, hj, rfl⟩ := List.mem_map.1 hl
    have := mem_rng.1 (List.mem_of_mem_take (List.mem_filter.1 hj).1)
    rw [s.lr] at this
    exact (im_ok s this.1 this.2).2
end Go.Proofs.Ytpmojmhamgcfmaa.ht

/-
  Contracts of PermOk, InversePerm, ThenPerm, IdentityPerm, of the model and of the program.
-/
namespace Go.Proofs.Ytpmojmhamgcfmaa.fns
open Go.ChangeShapes Go.WideShapes Go.ChangeAt Go.RowKit
open Go.Proofs.Ytpmojmhamgcfmaa.mem Go.Proofs.Ytpmojmhamgcfmaa.ints Go.Proofs.Ytpmojmhamgcfmaa.arr Go.Proofs.Ytpmojmhamgcfmaa.pm Go.Proofs.Ytpmojmhamgcfmaa.permOk Go.Proofs.Ytpmojmhamgcfmaa.permOf Go.Proofs.Ytpmojmhamgcfmaa.inv
set_option linter.unusedVariables false
set_option maxRecDepth 100000

theorem below_same {w w' : World} (h : w = w') : Below w.heap.size w w' := h ▸ Below.refl _ _
theorem ok_spec (A : Option Addr) (n c : Nat) (xs : List Int) (hi : Nat) (w : World) (hx : Rd w hi A n (V xs)) (hn : n ≤ 1048576) (hc : n ≤ c) :
    Calls Try.prog 53 #[.slice A n c] w fun e w' => e = .returned (.bool (okB xs)) ∧ Below w.heap.size w w' :=
  (permOk.spec_any A n c xs hi w hx hn hc).mono fun _ _ ⟨he, hw⟩ => ⟨he, below_same hw⟩

def Owns (w : World) (v : Value) (w' : World) (r : List Int) : Prop := w'.ownsRow w.heap.size 3 1 v r.length (V r)
def Gives (r : List Int) (w : World) (e : Ending) (w' : World) : Prop := ∃ v, e = .returned v ∧ w'.ownsRow w.heap.size 3 1 v r.length (V r) ∧ Below w.heap.size w w'
theorem gives_nil {w w' : World} (h : Below w.heap.size w w') : Gives [] w (.returned (.slice none 0 0)) w' :=
  ⟨_, rfl, ⟨rfl, .inl ⟨rfl, rfl⟩⟩, h⟩
theorem gives_later {w w1 w' : World} {r : List Int} {e : Ending} (hb : Below w.heap.size w w1) (h : Gives r w1 e w') : Gives r w e w' := by
  obtain ⟨v, he, ho, hb'⟩ := h
  refine ⟨v, he, ⟨ho.1, ?_⟩, hb.trans (hb'.mono hb.size)⟩
  rcases ho.2 with h0 | ⟨g, cap, cur, h1, h2, h3⟩
  · exact .inl h0
  · exact .inr ⟨g, cap, cur, h1, Nat.le_trans hb.size h2, h3⟩

set_option maxHeartbeats 400000 in
theorem list_gives (qs : List Int) (n : Nat) (w : World) (hl : qs.length = 24) (hn : n ≤ 24) :
    Calls Try.prog 50 #[.agg (V qs).toArray, .int .i64 n] w (Gives (qs.take n) w) :=
  list_any qs n w hl hn

end Go.Proofs.Ytpmojmhamgcfmaa.fns

/-
  Contracts of the model's InversePerm, ThenPerm, IdentityPerm; the program's ThenPerm, IdentityPerm.
-/
namespace Go.Proofs.Ytpmojmhamgcfmaa.fns
open Go.ChangeShapes Go.WideShapes Go.ChangeAt Go.RowKit
open Go.Proofs.Ytpmojmhamgcfmaa.mem Go.Proofs.Ytpmojmhamgcfmaa.ints Go.Proofs.Ytpmojmhamgcfmaa.arr Go.Proofs.Ytpmojmhamgcfmaa.pm Go.Proofs.Ytpmojmhamgcfmaa.permOk Go.Proofs.Ytpmojmhamgcfmaa.permOf Go.Proofs.Ytpmojmhamgcfmaa.inv
set_option linter.unusedVariables false
set_option maxRecDepth 100000

theorem Ok.nat {xs : List Int} (h : Ok xs) {k : Nat} (hk : k < xs.length) : ∃ z : Nat, z < xs.length ∧ xs[k]? = some (z : Int) ∧ xs.getD k 0 = (z : Int) := by
  have h1 := h.lo k hk; have h2 := h.hi k hk
  have e : xs[k]? = some (xs.getD k 0) := by rw [List.getD, List.getElem?_eq_getElem hk]; rfl
  exact ⟨(xs.getD k 0).toNat, by omega, by rw [e]; congr 1; omega, by omega⟩
/-- A made row at block w.heap.size holds l. -/
def Made (n : Nat) (w wr : World) (l : List Int) : Prop := wr.ownsRow w.heap.size 3 1 (.slice (some ⟨w.heap.size, 0, none⟩) n n) n (V l) ∧ Below w.heap.size w wr
theorem Made.cell {n : Nat} {w wr : World} {l : List Int} (h : Made n w wr l) {k : Nat} (hk : k < n) : wr.cell? ⟨w.heap.size, k, none⟩ = some (.int .i64 (l.getD k 0)) := by
  have hl : l.length = n := by simpa [V] using h.1.1
  rw [h.1.cellAt k (by omega)]
  exact V_getD (by omega)
theorem Made.set_ {n : Nat} {w wr : World} {l : List Int} (h : Made n w wr l) (k : Nat) (z : Int) : Made n w (wr.setCell ⟨w.heap.size, k, none⟩ (.int .i64 z)) (l.set k z) := by
  have := (h.1.stored k (.int .i64 z)).1
  rw [V_set] at this
  exact ⟨this, h.2.setCell (Nat.le_refl _) _⟩

set_option maxHeartbeats 1000000 in
theorem l02inv_any (A : Option Addr) (n c : Nat) (xs : List Int) (hi : Nat) (w : World) (hx : Rd w hi A n (V xs)) (ok : Ok xs) :
    Calls Try.prog 62 #[.slice A n c] w (Gives (invTo n xs n) w) := by
  obtain ⟨i0, hi0, hz0, hz1, hz2⟩ := info_parts infoI
  have lx : xs.length = n := by simpa [V] using hx.1
  have hn : n ≤ 24 := by have := ok.len; omega
  have LX := Lib.hid lx; clear lx
  have OK := Lib.hid ok; clear ok
  have HX := Lib.hid hx; clear hx
  have HZ2 := Lib.hid hz2; clear hz2
  go_enter Try.func62, Try.ntmps62
  go_wp2_with (at_make; refine wpList_make_full _ rfl _ _ 23 rfl w.heap.size 3 i0 _ 1 Try.underlying23 hi0 hz0 hz1 _ _ _ _ n rfl rfl rfl rfl ?b2 ?b3 (Nat.le_refl _) ?_)
  case b2 => rw [HZ2.out]; omega
  case b3 => unfold maxLen; omega
  intro w1 hown hg
  have hb1 : Below w.heap.size w w1 := (Below.refl _ _).grown hg (Nat.le_refl _) (by simp)
  have HM : Hid (Made n w w1 (invTo n xs 0)) := Lib.hid ⟨by simpa [invTo, V, toList_madeCells_one] using hown, hb1⟩
  clear hown hg hb1
  go_wp2
  go_loopw [11] (fun i wr => ∃ k : Nat, k ≤ n ∧ i = .int .i64 k ∧ Made n w wr (invTo n xs k)) (fun i _ => n - (intOf i).toNat)
  case atStart => exact ⟨0, Nat.zero_le _, rfl, HM.out⟩
  case round =>
    obtain ⟨k, hk, rfl, hm⟩ := hrel
    have HR := Lib.hid hm; clear hm HM
    by_cases hlt : k < n
    · obtain ⟨g, off, u, rfl, hgl, hxu, hcx⟩ := HX.out.at_ hlt
      obtain ⟨s, hxs, rfl⟩ := V_at hxu
      obtain ⟨z, hz, hqz, hqd⟩ := Ok.nat OK.out (k := k) (by rw [LX.out]; exact hlt)
      rw [hqz] at hxs
      obtain rfl := Option.some.inj hxs
      rw [LX.out] at hz
      have hgw : g < w.heap.size := Nat.lt_of_lt_of_le hgl HX.out.2.1
      rw [← HR.out.2.cell (p := ⟨g, off + k, none⟩) hgw] at hcx
      have hc := HR.out.cell hz
      have hf := HR.out.1.frozenAt z
      have HD := Lib.hid hqd; clear hqd hqz hxs hxu
      go_wp2
      go_roundw
      case rel =>
        refine ⟨k + 1, by omega, by go_num, ?_⟩
        have e : invTo n xs (k + 1) = (invTo n xs k).set z (k : Int) := by rw [invTo, HD.out]; rfl
        rw [e]
        exact HR.out.set_ z _
      case measure => simp [intOf]; omega
    · obtain rfl : k = n := by omega
      go_wp2
      go_ret
      exact ⟨_, rfl, by rw [invTo_len]; exact HR.out.1, HR.out.2⟩

end Go.Proofs.Ytpmojmhamgcfmaa.fns

/-
  Contracts of ThenPerm and IdentityPerm, of the model and of the program.
-/
namespace Go.Proofs.Ytpmojmhamgcfmaa.fns
open Go.ChangeShapes Go.WideShapes Go.ChangeAt Go.RowKit
open Go.Proofs.Ytpmojmhamgcfmaa.mem Go.Proofs.Ytpmojmhamgcfmaa.ints Go.Proofs.Ytpmojmhamgcfmaa.arr Go.Proofs.Ytpmojmhamgcfmaa.pm Go.Proofs.Ytpmojmhamgcfmaa.permOk Go.Proofs.Ytpmojmhamgcfmaa.permOf Go.Proofs.Ytpmojmhamgcfmaa.inv
set_option linter.unusedVariables false
set_option maxRecDepth 100000

/-- A row that grows: v holds l. -/
structure Grows (w wr : World) (v : Value) (l : List Int) : Prop where
  own : wr.ownsRow w.heap.size 3 1 v l.length (V l)
  below : Below w.heap.size w wr
theorem Grows.empty (w : World) : Grows w (w.alloc (.cells #[] 3)) (.slice (some ⟨w.heap.size, 0, none⟩) 0 0) [] :=
  ⟨⟨rfl, .inr ⟨w.heap.size, 0, #[], rfl, Nat.le_refl _, heap_alloc_last w _, Nat.le_refl _, by simp, rfl, rfl⟩⟩, (Below.refl _ _).alloc (Nat.le_refl _) _⟩
theorem Grows.one (w : World) (z : Int) : Grows w (w.alloc (.cells #[.int .i64 z] 3)) (.slice (some ⟨w.heap.size, 0, none⟩) 1 1) [z] :=
  ⟨⟨rfl, .inr ⟨w.heap.size, 1, #[.int .i64 z], rfl, Nat.le_refl _, heap_alloc_last w _, Nat.le_refl _, by unfold maxLen; omega, rfl, rfl⟩⟩, (Below.refl _ _).alloc (Nat.le_refl _) _⟩
theorem Grows.next {w wr w' : World} {v v' : Value} {l : List Int} {z : Int} {n : Nat} (h : Grows w wr v l) (ho : w'.ownsRow w.heap.size 3 1 v' (n + 1) (V l ++ [.int .i64 z])) (hn : n = l.length) (hg : wr.grownBy w' v.ownBlock) : Grows w w' v' (l ++ [z]) := by
  subst hn
  refine ⟨?_, h.below.trans (own_below h.own hg (Nat.le_refl _) h.below.size)⟩
  have e : V (l ++ [z]) = V l ++ [.int .i64 z] := by simp [V]
  rw [e]
  simpa using ho
theorem Grows.gives {w wr : World} {v : Value} {l : List Int} (h : Grows w wr v l) : Gives l w (.returned v) wr := ⟨v, rfl, h.own, h.below⟩
theorem thn_snoc (xs ys : List Int) {k z : Nat} (h : xs[k]? = some (z : Int)) : thn (xs.take (k + 1)) ys = thn (xs.take k) ys ++ [ys.getD z 0] := by
  rw [List.take_add_one, h]; simp [thn]

set_option maxHeartbeats 1000000 in
theorem l02then_any (A : Option Addr) (n c : Nat) (B : Option Addr) (m d : Nat) (xs ys : List Int) (h1 h2 : Nat) (w : World) (hx : Rd w h1 A n (V xs)) (hy : Rd w h2 B m (V ys)) (ok : Ok xs) (hnm : n = m) :
    Calls Try.prog 61 #[.slice A n c, .slice B m d] w (Gives (thn xs ys) w) := by
  subst hnm
  obtain ⟨i0, hi0, hz0, hz1, hz2⟩ := info_parts infoI
  have lx : xs.length = n := by simpa [V] using hx.1
  have ly : ys.length = n := by simpa [V] using hy.1
  have hn : n ≤ 24 := by have := ok.len; omega
  have LX := Lib.hid lx; have LY := Lib.hid ly; clear lx ly
  have OK := Lib.hid ok; clear ok
  have HX := Lib.hid hx; have HY := Lib.hid hy; clear hx hy
  go_enter Try.func61, Try.ntmps61
  go_wp2
  go_loopw [5, 11] (fun v i wr => ∃ k : Nat, k ≤ n ∧ i = .int .i64 k ∧ Grows w wr v (thn (xs.take k) ys)) (fun _ i _ => n - (intOf i).toNat)
  case atStart => exact ⟨0, Nat.zero_le _, rfl, Grows.empty w⟩
  case round =>
    obtain ⟨k, hk, rfl, hm⟩ := hrel
    have HR := Lib.hid hm; clear hm
    by_cases hlt : k < n
    · obtain ⟨g, off, u, rfl, hgl, hxu, hcx⟩ := HX.out.at_ hlt
      obtain ⟨s, hxs, rfl⟩ := V_at hxu
      obtain ⟨z, hz, hqz, hqd⟩ := Ok.nat OK.out (k := k) (by rw [LX.out]; exact hlt)
      rw [hqz] at hxs
      obtain rfl := Option.some.inj hxs
      rw [LX.out] at hz
      obtain ⟨g', off', u', rfl, hgl', hyu, hcy⟩ := HY.out.at_ hz
      obtain ⟨t, hyt, rfl⟩ := V_at hyu
      have hgw : g < w.heap.size := Nat.lt_of_lt_of_le hgl HX.out.2.1
      have hgw' : g' < w.heap.size := Nat.lt_of_lt_of_le hgl' HY.out.2.1
      rw [← HR.out.below.cell (p := ⟨g, off + k, none⟩) hgw] at hcx
      rw [← HR.out.below.cell (p := ⟨g', off' + z, none⟩) hgw'] at hcy
      have HQ := Lib.hid hqz; have HT := Lib.hid (permOk.getD_of hyt)
      have hsz := HR.out.below.size
      have HLN : Hid ((thn (xs.take k) ys).length = k) := Lib.hid (by have := LX.out; simp [thn]; omega)
      clear hqz hqd hxs hxu hyu hyt
      go_wp2_with (at_builtin; refine wpList_append_one wr _ _ rfl _ _ 23 rfl w.heap.size 3 i0 _ 8 Try.underlying23 hi0 hz0 hz1 hz2 rfl _ _ _ rfl HR.out.own rfl rfl ?c4 (by decide) hsz ?_)
      case c4 => rw [HLN.out]; omega
      intro v' w' ho hg
      have HN : Hid (Grows w w' v' (thn (xs.take (k + 1)) ys)) := Lib.hid (by
        rw [thn_snoc xs ys HQ.out, HT.out]
        exact HR.out.next ho rfl hg)
      clear ho hg HR hcx hcy
      go_wp2
      go_roundw
      case rel => exact ⟨k + 1, by omega, by go_num, HN.out⟩
      case measure => simp [intOf]; omega
    · obtain rfl : k = n := by omega
      go_wp2
      go_ret
      have := HR.out
      rw [List.take_of_length_le (by rw [LX.out]; exact Nat.le_refl _)] at this
      exact this.gives

set_option maxHeartbeats 1000000 in
theorem l02id_any (n : Nat) (w : World) (hn : n ≤ 24) :
    Calls Try.prog 63 #[.int .i64 n] w (Gives ((List.range n).map (fun (i : Nat) => (i : Int))) w) := by
  obtain ⟨i0, hi0, hz0, hz1, hz2⟩ := info_parts infoI
  go_enter Try.func63, Try.ntmps63
  go_wp2
  go_loopw [3, 4] (fun v i wr => ∃ k : Nat, k ≤ n ∧ i = .int .i64 k ∧ Grows w wr v ((List.range k).map (fun (i : Nat) => (i : Int)))) (fun _ i _ => n - (intOf i).toNat)
  case atStart => exact ⟨0, Nat.zero_le _, rfl, Grows.empty w⟩
  case round =>
    obtain ⟨k, hk, rfl, hm⟩ := hrel
    have HR := Lib.hid hm; clear hm
    by_cases hlt : k < n
    · have hsz := HR.out.below.size
      go_wp2_with (at_builtin; refine wpList_append_one wr _ _ rfl _ _ 23 rfl w.heap.size 3 i0 _ 8 Try.underlying23 hi0 hz0 hz1 hz2 rfl _ _ _ rfl HR.out.own rfl rfl ?c4 (by decide) hsz ?_)
      case c4 => simp; omega
      intro v' w' ho hg
      have HN : Hid (Grows w w' v' ((List.range (k + 1)).map (fun (i : Nat) => (i : Int)))) := Lib.hid (by
        rw [List.range_succ, List.map_append]
        exact HR.out.next ho (by simp) hg)
      clear ho hg HR
      go_wp2
      go_roundw
      case rel => exact ⟨k + 1, by omega, by go_num, HN.out⟩
      case measure => simp [intOf]; omega
    · obtain rfl : k = n := by omega
      go_wp2
      go_ret
      exact HR.out.gives

end Go.Proofs.Ytpmojmhamgcfmaa.fns

/-
  Contract of the program's ThenPerm.
-/
namespace Go.Proofs.Ytpmojmhamgcfmaa.fns
open Go.ChangeShapes Go.WideShapes Go.ChangeAt Go.RowKit
open Go.Proofs.Ytpmojmhamgcfmaa.mem Go.Proofs.Ytpmojmhamgcfmaa.ints Go.Proofs.Ytpmojmhamgcfmaa.arr Go.Proofs.Ytpmojmhamgcfmaa.pm Go.Proofs.Ytpmojmhamgcfmaa.permOk Go.Proofs.Ytpmojmhamgcfmaa.permOf Go.Proofs.Ytpmojmhamgcfmaa.inv
set_option linter.unusedVariables false
set_option maxRecDepth 100000

end Go.Proofs.Ytpmojmhamgcfmaa.fns

/-
  append of one element to a row of the call's own, with the block in which the result lies.
-/
namespace Go.Proofs.Ytpmojmhamgcfmaa.mem
open Go.ChangeShapes Go.WideShapes Go.ChangeAt Go.RowKit
set_option linter.unusedVariables false
set_option maxRecDepth 100000

/-- Where the result of an append of one cell lies: the library's laws for the three cases (nil, room, no room) all speak of the one run. -/
theorem one_where {P : Program} (w : World) (base : Nat) (t ty e : TypeId) (i : TypeInfo) (z : Value) (bytes : Nat) (ht : P.underlying t = some (.slice e)) (hi : P.info? e = some i) (hz : i.zero = some z)
    (hsize : i.size = 1) (hby : i.bytes = bytes) (hzs : z.cells.size = 1) (v : Value) (n : Nat) (xs : List Value) (hown : w.ownsRow base e 1 v n xs)
    (a : Addr) (u : Value) (hu : w.cell? a = some u) (ha : a.add 0 = a) (h1 : u.oneCell' = true) (hbytes : (n + 1) * bytes ≤ 140737488355328) (h63 : n + 1 ≤ maxLen) {v' : Value} {w' : World}
    (hr : (Builtin.append_ #[t, t] ty #[v, .slice (some a) 1 1]).run P w = .ok v' w') : v'.ownBlock = v.ownBlock ∨ ∃ k, v'.ownBlock = some k ∧ w.heap.size ≤ k := by
  have hc : ∀ j q, [u][j]? = some q → w.cell? (a.add j) = some q := by
    intro j q hj
    match j, hj with
    | 0, hj => simp at hj; subst hj; rw [ha]; exact hu
  have ho : ∀ q ∈ [u], q.oneCell' = true := by intro q hq; simp at hq; subst hq; exact h1
  have same : ∀ {v2 : Value} {w2 : World}, (Builtin.append_ #[t, t] ty #[v, .slice (some a) 1 1]).run P w = .ok v2 w2 → v' = v2 := by
    intro v2 w2 h2
    rw [hr] at h2
    injection h2
  rcases hown.2 with ⟨rfl, rfl⟩ | ⟨g, cap, cur, rfl, _⟩
  · have hn : w.ownsRow w.heap.size e 1 (.slice none 0 0) 0 xs := ⟨hown.1, .inl ⟨rfl, rfl⟩⟩
    obtain ⟨v2, w2, h2, own2, _, ne⟩ := run_append_own (P := P) w w.heap.size t ty e i z 1 bytes ht hi hz hsize hby hzs (by decide) _ 0 xs hn a 1 1 [u] rfl hc ho h63 hbytes (Nat.le_refl _)
    rw [same h2]
    cases hb : v2.ownBlock with
    | none => exact .inl rfl
    | some k => exact .inr ⟨k, rfl, (own2.lt k hb).1⟩
  · by_cases room : n + 1 ≤ cap
    · obtain ⟨w2, h2, _⟩ := run_append_fits (P := P) w base t ty e i 1 ht hi hsize g n cap xs hown a 1 1 [u] rfl hc ho room
      rw [same h2]
      exact .inl rfl
    · have h2 := run_append_grow (P := P) w t ty e i z ht hi hz ⟨g, 0, none⟩ n cap xs (by rw [hsize]; exact hown.1) (hown.cells rfl) a 1 1 [u] (by rw [hsize]; rfl) hc (by omega) (by unfold maxLen at h63; omega) (by rw [hby]; exact growslice_fits (by omega) hbytes)
      rw [same h2]
      exact .inr ⟨_, rfl, Nat.le_refl _⟩

/-- 'out = append(out, u)': as wpList_append_one; the result lies where it lay, or in a new block. -/
theorem wpList_append_one2 {P : Program} {ops : Array Oper} {rest : List Oper} {o : Oper} {a : Act} {Q : Exit → Act → World → Prop} (W : World) (u : Value) (ty : TypeId) (hgd : o.guard = none) (s x : Operand) (t : TypeId)
    (ho : o.op = .call { callee := .builtin .append, args := #[s, x], argTypes := #[t, t] })
    (base : Nat) (e : TypeId) (i : TypeInfo) (z : Value) (bytes size : Nat) (ht : P.underlying t = some (.slice e)) (hi : P.info? e = some i) (hz : i.zero = some z)
    (hsize : i.size = size) (hone : size = 1) (hby : i.bytes = bytes) (hzs : z.cells.size = 1)
    (v : Value) (n : Nat) (xs : List Value) (hs : a.eval s = v) (hown : W.ownsRow base e 1 v n xs)
    (hx : a.eval x = .slice (some ⟨W.heap.size, 0, none⟩) 1 1) (h1 : u.oneCell' = true)
    (hbytes : (n + 1) * bytes ≤ 140737488355328) (hb0 : 0 < bytes) (hbase : base ≤ W.heap.size)
    (h : ∀ v' w', w'.ownsRow base e 1 v' (n + 1) (xs ++ [u]) → W.grownBy w' v.ownBlock → (v'.ownBlock = v.ownBlock ∨ ∃ k, v'.ownBlock = some k ∧ W.heap.size + 1 ≤ k) → wpList P ops Q rest (a.put o.dst v') w') : wpList P ops Q (o :: rest) a (W.alloc (.cells #[u] ty)) := by
  subst hone
  have h63 : n + 1 ≤ maxLen := by
    have : (n + 1) * 1 ≤ (n + 1) * bytes := Nat.mul_le_mul_left _ hb0
    unfold maxLen; omega
  have hcell : (W.alloc (.cells #[u] ty)).cell? ⟨W.heap.size, 0, none⟩ = some u := by simp
  have hc : ∀ j q, [u][j]? = some q → (W.alloc (.cells #[u] ty)).cell? ((⟨W.heap.size, 0, none⟩ : Addr).add j) = some q := by
    intro j q hj
    match j, hj with
    | 0, hj => simp at hj; subst hj; simp [Addr.add]
  have hu : ∀ q ∈ [u], q.oneCell' = true := by intro q hq; simp at hq; subst hq; exact h1
  obtain ⟨v', w', hr, own', grown', _⟩ := run_append_own (P := P) (W.alloc (.cells #[u] ty)) base t o.type e i z 1 bytes ht hi hz hsize hby hzs (by decide) v n xs (hown.alloc _) ⟨W.heap.size, 0, none⟩ 1 1 [u] rfl hc hu h63 hbytes (by simp; omega)
  have hwh := one_where (P := P) (W.alloc (.cells #[u] ty)) base t o.type e i z bytes ht hi hz hsize hby hzs v n xs (hown.alloc _) ⟨W.heap.size, 0, none⟩ u hcell (by simp [Addr.add]) h1 hbytes h63 hr
  have hgo := h v' w' own' (grown_trans (World.grownBy_alloc W _ _) grown') (by simpa using hwh)
  refine wpList_plain hgd fun K hK => ?_
  simp [Oper.wp, execOp, ho, resolve, invoke, builtin, hs, hx, hr]
  exact hK _ _ hgo
end Go.Proofs.Ytpmojmhamgcfmaa.mem
