/-
  Permutations form a group: plain mathematics, in the words of the functions' answers.
-/
import Derived.Test.YtglpiopjhddoeaaConj
namespace Go.Proofs.Ytglpiopjhddoeaa.pm
open Go.Proofs.Ytglpiopjhddoeaa.arr Go.Proofs.Ytglpiopjhddoeaa.inv Go.Proofs.Ytglpiopjhddoeaa.permOf
set_option linter.unusedVariables false
set_option maxRecDepth 100000

def Inv (xs : List Int) : List Int := invTo xs.length xs xs.length
theorem Inv_len (xs : List Int) : (Inv xs).length = xs.length := invTo_len _ _ _
theorem Inv_at {xs : List Int} (h : Ok xs) {k : Nat} (hk : k < xs.length) : (Inv xs).getD (xs.getD k 0).toNat 0 = (k : Int) := inv_at h hk
theorem at_Inv {xs : List Int} (h : Ok xs) {i : Nat} (hi : i < xs.length) : ∃ k, k < xs.length ∧ (Inv xs).getD i 0 = (k : Int) ∧ xs.getD k 0 = (i : Int) := by
  obtain ⟨k, hk, e⟩ := h.onto hi
  refine ⟨k, hk, ?_, e⟩
  have := Inv_at h hk
  rw [e] at this
  simpa using this
theorem Inv_ok {xs : List Int} (h : Ok xs) : Ok (Inv xs) := by
  refine ⟨by rw [Inv_len]; exact h.len, fun i hi => ?_, fun i hi => ?_, fun i j hi hj e => ?_⟩
  · rw [Inv_len] at hi; obtain ⟨k, _, q, _⟩ := at_Inv h hi; omega
  · rw [Inv_len] at hi ⊢; obtain ⟨k, _, q, _⟩ := at_Inv h hi; omega
  · rw [Inv_len] at hi hj
    obtain ⟨k, _, q, r⟩ := at_Inv h hi
    obtain ⟨k', _, q', r'⟩ := at_Inv h hj
    have : k = k' := by omega
    subst this
    omega
theorem thn_len (xs ys : List Int) : (thn xs ys).length = xs.length := by simp [thn]
theorem thn_at {xs ys : List Int} {i : Nat} (hi : i < xs.length) : (thn xs ys).getD i 0 = ys.getD (xs.getD i 0).toNat 0 := by
  simp [thn, List.getD, List.getElem?_eq_getElem hi]
theorem thn_ok {xs ys : List Int} (h : Ok xs) (h' : Ok ys) (e : xs.length = ys.length) : Ok (thn xs ys) := by
  refine ⟨by rw [thn_len]; exact h.len, fun i hi => ?_, fun i hi => ?_, fun i j hi hj q => ?_⟩
  · rw [thn_len] at hi; rw [thn_at hi]; exact h'.lo _ (by have := h.ltN i hi; omega)
  · rw [thn_len] at hi ⊢; rw [thn_at hi, e]; exact h'.hi _ (by have := h.ltN i hi; omega)
  · rw [thn_len] at hi hj
    rw [thn_at hi, thn_at hj] at q
    have := h'.inj _ _ (by have := h.ltN i hi; omega) (by have := h.ltN j hj; omega) q
    exact h.injN i j hi hj this
theorem invF_of {xs : List Int} (h : Ok xs) : invF xs = Inv xs := by simp [invF, h.b, Inv]
theorem thenF_of {xs ys : List Int} (h : Ok xs) (h' : Ok ys) (e : xs.length = ys.length) : thenF xs ys = thn xs ys := by
  unfold thenF; rw [if_pos (okBB_iff.2 ⟨h.b, h'.b, e⟩)]
theorem renF_of {xs ys : List Int} (h : Ok xs) (h' : Ok ys) (e : xs.length = ys.length) : renF xs ys = renTo xs.length xs ys xs.length := by
  unfold renF; rw [if_pos (okBB_iff.2 ⟨h.b, h'.b, e⟩)]
theorem idF_of {n : Nat} (h : n ≤ 24) : idF (n : Int) = rng n := by
  unfold idF rng; rw [if_pos ⟨by omega, by omega⟩]; simp
theorem rng_len (n : Nat) : (rng n).length = n := by simp [rng]
theorem rng_at {n i : Nat} (h : i < n) : (rng n).getD i 0 = (i : Int) := by simp [rng, List.getD, h]
section
variable {p q s : List Int} {n : Nat} (hp : Ok p) (hq : Ok q) (hs : Ok s) (lp : p.length = n) (lq : q.length = n) (ls : s.length = n)
include hp hq lp lq
theorem back_eq : thenF (invF q) (invF p) = thn (Inv q) (Inv p) := by
  rw [invF_of hp, invF_of hq, thenF_of (Inv_ok hq) (Inv_ok hp) (by rw [Inv_len, Inv_len, lp, lq])]
theorem grp_id : thenF (thenF p q) (thenF (invF q) (invF p)) = idF (n : Int) := by
  have h24 := hp.len
  have okr := thn_ok hp hq (by omega)
  have okb := thn_ok (Inv_ok hq) (Inv_ok hp) (by rw [Inv_len, Inv_len, lp, lq])
  rw [back_eq hp hq lp lq, thenF_of hp hq (by omega), thenF_of okr okb (by rw [thn_len, thn_len, Inv_len, lp, lq]), idF_of (by omega)]
  refine list_eq n (by rw [thn_len, thn_len, lp]) (rng_len n) fun i hi => ?_
  have a1 := hp.ltN i (by omega)
  have a2 := hq.ltN _ (show (p.getD i 0).toNat < q.length by omega)
  have e1 : (thn p q).getD i 0 = q.getD (p.getD i 0).toNat 0 := thn_at (by omega)
  rw [thn_at (by rw [thn_len]; omega), e1, thn_at (by rw [Inv_len]; omega), Inv_at hq (by omega), Int.toNat_natCast, Inv_at hp (by omega), rng_at hi]
theorem grp_inv : invF (thenF p q) = thenF (invF q) (invF p) := by
  have h24 := hp.len
  have okr := thn_ok hp hq (by omega)
  rw [back_eq hp hq lp lq, thenF_of hp hq (by omega), invF_of okr]
  refine list_eq n (by rw [Inv_len, thn_len, lp]) (by rw [thn_len, Inv_len, lq]) fun j hj => ?_
  obtain ⟨k, hk, e1, e2⟩ := at_Inv okr (i := j) (by rw [thn_len]; omega)
  rw [thn_len] at hk
  rw [thn_at hk] at e2
  have a1 := hp.ltN k hk
  rw [e1, thn_at (by rw [Inv_len]; omega)]
  have := Inv_at hq (k := (p.getD k 0).toNat) (by omega)
  rw [e2, Int.toNat_natCast] at this
  rw [this, Int.toNat_natCast, Inv_at hp hk]
theorem grp_ren : renF p q = thenF (thenF (invF q) p) q := by
  have h24 := hp.len
  have ok1 := thn_ok (Inv_ok hq) hp (by rw [Inv_len]; omega)
  rw [invF_of hq, thenF_of (Inv_ok hq) hp (by rw [Inv_len]; omega), thenF_of ok1 hq (by rw [thn_len, Inv_len]), renF_of hp hq (by omega)]
  refine list_eq n (by rw [renTo_len, lp]) (by rw [thn_len, thn_len, Inv_len, lq]) fun j hj => ?_
  obtain ⟨k, hk, e1, e2⟩ := at_Inv hq (i := j) (by omega)
  rw [thn_at (by rw [thn_len, Inv_len]; omega), thn_at (by rw [Inv_len]; omega), e1, Int.toNat_natCast]
  have := ren_at (xs := p) hq (by omega) (k := k) (by omega)
  rw [e2, Int.toNat_natCast] at this
  exact this
theorem ren_ok : Ok (renF p q) ∧ (renF p q).length = n := by
  have ok1 := thn_ok (Inv_ok hq) hp (by rw [Inv_len]; omega)
  rw [grp_ren hp hq lp lq, invF_of hq, thenF_of (Inv_ok hq) hp (by rw [Inv_len]; omega), thenF_of ok1 hq (by rw [thn_len, Inv_len])]
  exact ⟨thn_ok ok1 hq (by rw [thn_len, Inv_len]), by rw [thn_len, thn_len, Inv_len, lq]⟩
theorem ren_ren : Ren n p (renF p q) q := by
  obtain ⟨h1, h2⟩ := ren_ok hp hq lp lq
  have b1 := hp.bij; have b2 := h1.bij; have b3 := hq.bij
  rw [lp] at b1; rw [h2] at b2; rw [lq] at b3
  refine ⟨b1, b2, b3, fun i hi => ?_⟩
  rw [renF_of hp hq (by omega)]
  exact ren_at hq (by omega) (by omega)
theorem ren_lens : sortD ((cycF (renF p q)).map fun xs => (xs.length : Int)) = sortD ((cycF p).map fun xs => (xs.length : Int)) := by
  obtain ⟨h1, h2⟩ := ren_ok hp hq lp lq
  have hl := (ren_ren hp hq lp lq).lens
  have e1 : cycF (renF p q) = cso (renF p q) n n := by simp [cycF, h1.b, h2]
  have e2 : cycF p = cso p n n := by simp [cycF, hp.b, lp]
  rw [e1, e2]
  refine sortD_eq ?_
  have := hl.map (fun (k : Nat) => (k : Int))
  rw [List.map_map, List.map_map] at this
  exact this
omit hq lq in
theorem cyc_tot : ((cycF p).map List.length).sum = n := by
  have b1 := hp.bij
  rw [lp] at b1
  have e2 : cycF p = cso p n n := by simp [cycF, hp.b, lp]
  rw [e2]; exact cso_len b1
end
end Go.Proofs.Ytglpiopjhddoeaa.pm
