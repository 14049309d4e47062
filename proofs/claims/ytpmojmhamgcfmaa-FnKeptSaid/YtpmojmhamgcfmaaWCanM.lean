/-
  What FnCanon says of surfaces.
-/
import Derived.Test.YtpmojmhamgcfmaaY19
namespace Go.Proofs.Ytpmojmhamgcfmaa.cn
open Go.Proofs.Ytpmojmhamgcfmaa.mem Go.Proofs.Ytpmojmhamgcfmaa.ints Go.Proofs.Ytpmojmhamgcfmaa.arr Go.Proofs.Ytpmojmhamgcfmaa.pm Go.Proofs.Ytpmojmhamgcfmaa.permOk Go.Proofs.Ytpmojmhamgcfmaa.permOf Go.Proofs.Ytpmojmhamgcfmaa.sf Go.Proofs.Ytpmojmhamgcfmaa.gl
set_option linter.unusedVariables false
set_option maxRecDepth 100000
theorem cn_t {N : Nat} {r u : List Int} (s : Sf N r u) : transB r u = true := by
  have h := s.lr; subst h; exact transB_iff.2 s
theorem cn_cf {N : Nat} {r u : List Int} (s : Sf N r u) : cfR r u = (can r u N).1 ∧ cfU r u = (can r u N).2 := by
  have := cf_yes (cn_t s); rw [s.lr] at this; exact this
theorem cn_can {N : Nat} {r u : List Int} (s : Sf N r u) : Sf N (cfR r u) (cfU r u) := by
  rw [(cn_cf s).1, (cn_cf s).2]
  obtain ⟨ns, h, h2⟩ := s.can_iso
  exact h2
theorem cn_iso_cf {N : Nat} {r u r' u' ns : List Int} (h : Iso N r u r' u' ns) (s' : Sf N r' u') : cfR r' u' = cfR r u ∧ cfU r' u' = cfU r u := by
  rw [(cn_cf s').1, (cn_cf s').2, (cn_cf h.s).1, (cn_cf h.s).2, h.can_eq s']
  exact ⟨rfl, rfl⟩
theorem cn_idem {N : Nat} {r u : List Int} (s : Sf N r u) : cfR (cfR r u) (cfU r u) = cfR r u ∧ cfU (cfR r u) (cfU r u) = cfU r u := by
  obtain ⟨ns, h, h2⟩ := s.can_iso
  rw [← (cn_cf s).1, ← (cn_cf s).2] at h h2
  exact cn_iso_cf h h2
theorem cn_rs {N : Nat} {r u ns : List Int} (s : Sf N r u) (ok : Ok ns) (ln : ns.length = N) : rsB r u ns = true ∧ Iso N r u (rsR r u ns) (rsU r u ns) ns ∧ Sf N (rsR r u ns) (rsU r u ns) := by
  obtain ⟨e1, e2, e3⟩ := rs_yes (cn_t s) ok.b (by rw [ln, s.lr])
  rw [s.lr] at e1 e2
  rw [e1, e2]
  exact ⟨e3, mkIso s ok ln⟩
theorem cn_same {a b a' b' : List Int} (h : a' = a ∧ b' = b) : sameF a b a' b' = true := by
  obtain ⟨rfl, rfl⟩ := h; simp [sameF, eqi]
theorem cn_iso {N : Nat} {r u r' u' ns : List Int} (h : Iso N r u r' u' ns) (s' : Sf N r' u') : isoF r u r' u' = true ∧ isoF r' u' r u = true := by
  have e := h.can_eq s'
  rw [iso_yes (cn_t h.s) (cn_t s'), iso_yes (cn_t s') (cn_t h.s), h.s.lr, s'.lr, e]
  exact ⟨cn_same ⟨rfl, rfl⟩, cn_same ⟨rfl, rfl⟩⟩
theorem cn_cs {N : Nat} {r u : List Int} (s : Sf N r u) : ∃ K : Nat, csF r u = (K : Int) ∧ 1 ≤ K ∧ K ≤ N ∧ (N : Int).tmod (K : Int) = 0 := by
  have e := cs_yes (cn_t s); rw [s.lr] at e
  refine ⟨sym r u N, e, sym_pos s, sym_le, ?_⟩
  rw [Int.tmod_eq_emod_of_nonneg (by omega)]
  exact_mod_cast Nat.mod_eq_zero_of_dvd (sym_dvd s)
theorem cn_cs_iso {N : Nat} {r u r' u' ns : List Int} (h : Iso N r u r' u' ns) (s' : Sf N r' u') : csF r' u' = csF r u := by
  have e := cs_yes (cn_t h.s); have e' := cs_yes (cn_t s')
  rw [h.s.lr] at e; rw [s'.lr] at e'
  rw [e, e', h.sym_eq s']
theorem cn_nf {N : Nat} {r u : List Int} (s : Sf N r u) {a : Int} (a0 : 0 ≤ a) (a1 : a < N) : Ok (nfF r u a) ∧ (nfF r u a).length = N := by
  rw [nfF_yes (cn_t s) a0 (by rw [s.lr]; exact a1)]
  exact s.nok a0 a1
theorem cn_cnt {N : Nat} {r u : List Int} (s : Sf N r u) : cntF r u = (N : Int) := by simp [cntF, cn_t s, s.lr]
end Go.Proofs.Ytpmojmhamgcfmaa.cn
