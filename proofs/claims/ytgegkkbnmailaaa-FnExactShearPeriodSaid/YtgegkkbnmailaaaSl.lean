/-
  A slice of surfaces that is read; the model's l06Find.
-/
import Derived.Test.YtgegkkbnmailaaaOm
import Derived.Test.YtgegkkbnmailaaaSfn
import Derived.Test.YtgegkkbnmailaaaRg
namespace Go.Proofs.Ytgegkkbnmailaaa.orb
open Go.ChangeShapes Go.WideShapes Go.ChangeAt Go.RowKit
open Go.Proofs.Ytgegkkbnmailaaa.mem Go.Proofs.Ytgegkkbnmailaaa.ints Go.Proofs.Ytgegkkbnmailaaa.arr Go.Proofs.Ytgegkkbnmailaaa.pm Go.Proofs.Ytgegkkbnmailaaa.sf
set_option linter.unusedVariables false
set_option maxRecDepth 100000

/-- v is a slice of surfaces that reads as L. -/
def Lrd (w : World) (hi : Nat) (v : Value) (L : List Sur) : Prop :=
  ∃ A n c, v = .slice A n c ∧ L.length = n ∧ n ≤ c ∧ hi ≤ w.heap.size ∧ (0 < n → ∃ g off, A = some ⟨g, off, none⟩ ∧ g < hi ∧
    ∀ (k : Nat) (s : Sur), L[k]? = some s → ∃ a b, w.cell? ⟨g, off + k * 2, none⟩ = some a ∧ w.cell? ⟨g, off + k * 2 + 1, none⟩ = some b ∧ Srd w hi (.agg #[a, b]) s.1 s.2)
theorem Lrd.keep {w w' : World} {hi B : Nat} {v : Value} {L : List Sur} (h : Lrd w hi v L) (hb : Below B w w') (hB : hi ≤ B) : Lrd w' hi v L := by
  obtain ⟨A, n, c, e, h1, h2, h3, h4⟩ := h
  refine ⟨A, n, c, e, h1, h2, Nat.le_trans h3 hb.size, fun hn => ?_⟩
  obtain ⟨g, off, q1, q2, q3⟩ := h4 hn
  refine ⟨g, off, q1, q2, fun k s hs => ?_⟩
  obtain ⟨a, b, c1, c2, c3⟩ := q3 k s hs
  exact ⟨a, b, by rw [hb.cell (p := ⟨g, off + k * 2, none⟩) (by show g < B; omega)]; exact c1, by rw [hb.cell (p := ⟨g, off + k * 2 + 1, none⟩) (by show g < B; omega)]; exact c2, c3.keep hb hB⟩
theorem Lrd.top {w : World} {hi : Nat} {v : Value} {L : List Sur} (h : Lrd w hi v L) : hi ≤ w.heap.size := by
  obtain ⟨A, n, c, e, h1, h2, h3, h4⟩ := h
  exact h3
theorem Lrd.at_ {w : World} {hi n c k : Nat} {A : Option Addr} {L : List Sur} (h : Lrd w hi (.slice A n c) L) (hk : k < n) :
    ∃ g off s P p cp Q q cq, A = some ⟨g, off, none⟩ ∧ g < hi ∧ L[k]? = some s ∧ w.cell? ⟨g, off + k * 2, none⟩ = some (.slice P p cp) ∧ w.cell? ⟨g, off + k * 2 + 1, none⟩ = some (.slice Q q cq) ∧ Srd w hi (.agg #[.slice P p cp, .slice Q q cq]) s.1 s.2 := by
  obtain ⟨A', n', c', e, h1, h2, h3, h4⟩ := h
  injection e with e1 e2 e3
  subst e1; subst e2; subst e3
  obtain ⟨g, off, q1, q2, q3⟩ := h4 (by omega)
  have hs := List.getElem?_eq_getElem (l := L) (i := k) (by omega)
  obtain ⟨a, b, c1, c2, c3⟩ := q3 k _ hs
  have c4 := c3
  obtain ⟨P, p, cp, Q, q, cq, e, _⟩ := c4
  simp at e
  obtain ⟨rfl, rfl⟩ := e
  exact ⟨g, off, _, P, p, cp, Q, q, cq, q1, q2, hs, c1, c2, c3⟩
def Rel (L : List Sur) (x : Sur) (w wr : World) (k : Nat) : Prop := Below w.heap.size w wr ∧ ∀ j, j < k → L[j]? ≠ some x
theorem same_eq {r u r' u' : List Int} : sameF r u r' u' = decide ((r, u) = (r', u')) := by
  unfold sameF eqi
  by_cases h1 : r = r' <;> by_cases h2 : u = u' <;> simp [h1, h2]
theorem Rel.step {L : List Sur} {x y : Sur} {w wr w' : World} {k : Nat} (h : Rel L x w wr k) (hb : Below w.heap.size w w') (hy : L[k]? = some y) (hne : sameF y.1 y.2 x.1 x.2 = false) : Rel L x w w' (k + 1) := by
  refine ⟨hb, fun j hj e => ?_⟩
  by_cases q : j = k
  · subst q
    rw [hy] at e
    injection e with e
    subst e
    rw [same_eq] at hne
    simp at hne
  · exact h.2 j (by omega) e

set_option maxHeartbeats 2000000 in
theorem find_spec (A : Option Addr) (n c : Nat) (L : List Sur) (v : Value) (x : Sur) (h1 h2 : Nat) (w : World) (hl : Lrd w h1 (.slice A n c) L) (hx : Srd w h2 v x.1 x.2)
    (hn : n ≤ 1048576) (hm : ∀ y ∈ L, y.1.length ≤ 1048576 ∧ y.2.length ≤ 1048576) (hx1 : x.1.length ≤ 1048576) (hx2 : x.2.length ≤ 1048576) :
    Calls Try.prog 57 #[.slice A n c, v] w fun e w' => e = .returned (.int .i64 (fnd L x)) ∧ Below w.heap.size w w' := by
  have ln : L.length = n := by obtain ⟨A', n', c', e, h1, _⟩ := hl; injection e with e1 e2 e3; subst e2; exact h1
  have LN := Lib.hid ln; have HL := Lib.hid hl; have HM := Lib.hid hm; clear ln hl hm
  obtain ⟨P, p, cp, Q, q, cq, rfl, q1, q2, e1, e2⟩ := hx
  have HX : Hid (Srd w h2 (.agg #[.slice P p cp, .slice Q q cq]) x.1 x.2) := Lib.hid ⟨_, _, _, _, _, _, rfl, q1, q2, e1, e2⟩
  clear q1 q2
  go_enter Try.func57, Try.ntmps57
  go_wp2
  have A0 := Lib.hid (Arr.new w [.slice P p cp, .slice Q q cq] 25 rfl)
  have B0 := Lib.hid ((Below.refl w.heap.size w).alloc (Nat.le_refl _) (.cells #[.slice P p cp, .slice Q q cq] 25))
  have s0 : w.heap.size < (w.alloc (.cells #[.slice P p cp, .slice Q q cq] 25)).heap.size := by simp
  generalize w.alloc (.cells #[.slice P p cp, .slice Q q cq] 25) = w0 at *
  go_loopw [5, 6, 9] (fun _ _ i wr => ∃ k : Nat, k ≤ n ∧ i = .int .i64 k ∧ Rel L x w0 wr k) (fun _ _ i _ => n - (intOf i).toNat)
  case atStart => exact ⟨0, Nat.zero_le _, rfl, Below.refl _ _, fun j hj => by omega⟩
  case round =>
    obtain ⟨k, hk, rfl, hr⟩ := hrel
    have HR := Lib.hid hr; clear hr
    have hsz := HR.out.1.size
    by_cases hlt : k < n
    · obtain ⟨g, off, y, P', p', cp', Q', q', cq', rfl, hg, hy, c0, c1, hsr⟩ := (HL.out.keep (B0.out.mono HL.out.top) (Nat.le_refl _)).at_ hlt
      have hgw : g < w0.heap.size := Nat.lt_of_lt_of_le hg (Nat.le_trans HL.out.top (by omega))
      rw [← HR.out.1.cell (p := ⟨g, off + k * 2, none⟩) hgw] at c0
      rw [← HR.out.1.cell (p := ⟨g, off + k * 2 + 1, none⟩) hgw] at c1
      have YS := Lib.hid (hsr.keep HR.out.1 (Nat.le_trans HL.out.top (by omega)))
      have HY := Lib.hid hy; clear hsr hy
      have ZA := Lib.hid (A0.out.keep HR.out.1 A0.out.lt)
      have d0 := fun o => (ZA.out.alloc o).cell (k := 0) rfl; have d1 := fun o => (ZA.out.alloc o).cell (k := 1) rfl
      have hym := HM.out y (List.mem_of_getElem? HY.out)
      go_wp2_with fail
      refine (same_spec _ y.1 y.2 _ x.1 x.2 _ _ _ (YS.out.keep ((Below.refl wr.heap.size wr).alloc (Nat.le_refl _) _) YS.out.top)
        ((HX.out.keep (B0.out.mono HX.out.top) (Nat.le_refl _)).keep (HR.out.1.trans ((Below.refl w0.heap.size wr).alloc hsz _)) (Nat.le_trans HX.out.top (by omega))) hym.1 hym.2 hx1 hx2).mono ?_
      rintro e w2 ⟨rfl, b2⟩
      have B2 : Hid (Below w0.heap.size w0 w2) := Lib.hid (HR.out.1.trans (((Below.refl w0.heap.size wr).alloc hsz _).trans (b2.mono (by simp; omega))))
      clear b2 c0 c1 d0 d1 ZA YS
      cases hq : sameF y.1 y.2 x.1 x.2
      · have HQ := Lib.hid hq; clear hq
        go_wp2_with fail
        go_roundw
        case rel => exact ⟨k + 1, by omega, by go_num, HR.out.step B2.out HY.out HQ.out⟩
        case measure => simp [intOf]; omega
      · have HF : Hid (fnd L x = k) := Lib.hid (by
          rw [same_eq, decide_eq_true_iff] at hq
          exact fnd_at (by rw [HY.out]; exact congrArg some hq) HR.out.2)
        clear hq
        go_wp2_with fail
        go_ret
        exact ⟨ret_int HF.out.symm, B0.out.trans (B2.out.mono B0.out.size)⟩
    · obtain rfl : k = n := by omega
      have HF : Hid (fnd L x = -1) := Lib.hid (fnd_none (by rw [LN.out]; exact HR.out.2))
      go_wp2_with fail
      go_ret
      exact ⟨ret_int HF.out.symm, B0.out.trans (HR.out.1.mono B0.out.size)⟩
end Go.Proofs.Ytgegkkbnmailaaa.orb
