/-
  What FnListed asks of the lists. Plain mathematics.
-/
import Derived.Test.YtafpbnjfmieamaaY27
import Derived.Test.YtafpbnjfmieamaaWBw
import Derived.Test.YtafpbnjfmieamaaWBr
import Derived.Test.YtafpbnjfmieamaaY15
namespace Go.Proofs.Ytafpbnjfmieamaa.lst
open Go.Proofs.Ytafpbnjfmieamaa.mem Go.Proofs.Ytafpbnjfmieamaa.ints Go.Proofs.Ytafpbnjfmieamaa.pm Go.Proofs.Ytafpbnjfmieamaa.orb Go.Proofs.Ytafpbnjfmieamaa.gl
set_option linter.unusedVariables false
set_option maxRecDepth 100000

def litN : List Int := [1, 2, 3, 3, 2, 3, 3, 3, 3, 3, 3, 4]
theorem lit_n {j : Nat} (h : j < 12) : ∃ N : Nat, 1 ≤ N ∧ N ≤ 4 ∧ (V litN)[j]? = some (.int .i64 N) := by
  have : ∀ j : Fin 12, ∃ N : Fin 5, 1 ≤ N.val ∧ litN[j.val]? = some (N.val : Int) := by decide
  obtain ⟨N, h1, h2⟩ := this ⟨j, h⟩
  exact ⟨N.val, h1, by have := N.isLt; omega, by unfold V; rw [List.getElem?_map, h2]; rfl⟩
theorem four {P : Nat → Prop} (h : P 1 ∧ P 2 ∧ P 3 ∧ P 4) {N : Nat} (h1 : 1 ≤ N) (h4 : N ≤ 4) : P N := by
  have : N = 1 ∨ N = 2 ∨ N = 3 ∨ N = 4 := by omega
  rcases this with rfl | rfl | rfl | rfl
  · exact h.1
  · exact h.2.1
  · exact h.2.2.1
  · exact h.2.2.2
theorem lit_s {N : Nat} (h1 : 1 ≤ N) (h4 : N ≤ 4) : (V [0, 1, 3, 7, 26])[N]? = some (.int .i64 (numS N : Nat)) := four (P := fun N => (V [0, 1, 3, 7, 26])[N]? = some (.int .i64 (numS N : Nat))) ⟨rfl, rfl, rfl, rfl⟩ h1 h4
theorem lit_t {N : Nat} (h1 : 1 ≤ N) (h4 : N ≤ 4) : (V [0, 1, 3, 4, 7])[N]? = some (.int .i64 (toriN N : Nat)) := four (P := fun N => (V [0, 1, 3, 4, 7])[N]? = some (.int .i64 (toriN N : Nat))) ⟨rfl, rfl, rfl, rfl⟩ h1 h4
theorem swF_n {N : Nat} (h1 : 1 ≤ N) (h4 : N ≤ 4) : swF (N : Int) = swL N := by
  unfold swF
  rw [if_pos (by omega)]
  rfl
theorem swF_num {N : Nat} (h1 : 1 ≤ N) (h4 : N ≤ 4) : (swF (N : Int)).length = numS N := by rw [swF_n h1 h4, (sw_ok h1 h4).len]
theorem ctF_num {N : Nat} (h1 : 1 ≤ N) (h4 : N ≤ 4) : ctF (N : Int) = (toriN N : Nat) := by
  unfold ctF
  rw [if_pos (by omega)]
  have := (st_kernel ⟨N - 1, by omega⟩).1
  rw [show N - 1 + 1 = N by omega] at this
  rw [show ((N : Int)).toNat = N by omega, this]
/-- The surfaces of the first k strata. -/
def sumS (a : Int) (T : List (List Int)) : Nat := (T.map fun t => (siF a t).length).sum
theorem sumS_next {a : Int} {T : List (List Int)} {k : Nat} {t : List Int} (h : T[k]? = some t) : sumS a (T.take (k + 1)) = sumS a (T.take k) + (siF a t).length := by
  unfold sumS
  rw [List.take_add_one, h, List.map_append, List.sum_append]
  simp
theorem sumS_all {N : Nat} (h1 : 1 ≤ N) (h4 : N ≤ 4) : sumS (N : Int) (stF (N : Int)) = numS N := by
  have := (st_kernel ⟨N - 1, by omega⟩).2.1
  rw [show N - 1 + 1 = N by omega] at this
  rw [← this]
  unfold sumS stF siF siL
  rw [swF_n h1 h4]
theorem stF_few {N : Nat} (h1 : 1 ≤ N) (h4 : N ≤ 4) : (stF (N : Int)).length ≤ 26 := by
  have := (st_kernel ⟨N - 1, by omega⟩).2.2
  rw [show N - 1 + 1 = N by omega] at this
  unfold stF
  rw [swF_n h1 h4]
  exact this
theorem insT_small {L : List (List Int)} {t : List Int} (hl : ∀ y ∈ L, y.length ≤ 24) (ht : t.length ≤ 24) : ∀ y ∈ insT L t, y.length ≤ 24 := fun y hy => by
  rcases insT_mem hy with q | rfl
  · exact hl y q
  · exact ht
theorem stL_small : ∀ (L : List Sur) (A : List (List Int)), (∀ y ∈ A, y.length ≤ 24) → ∀ y ∈ L.foldl (fun a x => insT a (strF x.1 x.2)) A, y.length ≤ 24
  | [], A, h => h
  | s :: L, A, h => stL_small L _ (insT_small h (strF_small s.1 s.2))
theorem stF_small (a : Int) : ∀ t ∈ stF a, t.length ≤ 24 := stL_small _ _ (fun y hy => by simp at hy)
theorem siF_le (a : Int) (t : List Int) : (siF a t).length ≤ 26 := by
  have h1 := List.length_filter_le (fun x : Sur => decide (strF x.1 x.2 = t)) (swF a)
  have h2 := swF_len a
  unfold siF
  omega
theorem sumS_le (a : Int) : ∀ T : List (List Int), sumS a T ≤ 26 * T.length
  | [] => by simp [sumS]
  | t :: T => by
    have h1 := sumS_le a T
    have h2 := siF_le a t
    unfold sumS at h1 ⊢
    rw [List.map_cons, List.sum_cons, List.length_cons]
    omega
/-- A listed surface is its own canonical form. -/
theorem own_form_ {a : Int} {x : Sur} (h : x ∈ swF a) : Sf a.toNat x.1 x.2 ∧ transB x.1 x.2 = true ∧ cfR x.1 x.2 = x.1 ∧ cfU x.1 x.2 = x.2 := by
  unfold swF at h
  split at h
  · rename_i hr
    obtain ⟨s, c⟩ := ((sw_ok (n := a.toNat) (by omega) (by omega)).mem x).1 h
    have t : transB x.1 x.2 = true := transB_iff.2 (by rw [s.lr]; exact s)
    obtain ⟨e1, e2⟩ := cf_yes t
    have e3 : can x.1 x.2 x.1.length = x := c
    exact ⟨s, t, by rw [e1, e3], by rw [e2, e3]⟩
  · simp at h
/-- The canonical form of a surface with few squares is listed. -/
theorem form_in {N : Nat} (h1 : 1 ≤ N) (h4 : N ≤ 4) {r u : List Int} (hr : r.length = N) (ht : transB r u = true) : (cfR r u, cfU r u) ∈ swF (N : Int) := by
  have s := transB_iff.1 ht
  rw [hr] at s
  obtain ⟨e1, e2⟩ := cf_yes ht
  rw [swF_n h1 h4, e1, e2]
  have e3 : ((can r u r.length).1, (can r u r.length).2) = cn (r, u) := rfl
  rw [e3]
  exact ((sw_ok h1 h4).mem _).2 ⟨cn_sf (s := (r, u)) s, cn_cn s⟩
end Go.Proofs.Ytafpbnjfmieamaa.lst
