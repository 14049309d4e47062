/-
  spec.MakePerm: a permutation, and that its slice's capacity is no less than its length.
-/
import Derived.Test.YtafpbnjfmieamaaWDrawP
namespace Go.Proofs.Ytafpbnjfmieamaa.cur
open Go.ChangeShapes Go.WideShapes Go.ChangeAt Go.RowKit
open Go.Proofs.Ytafpbnjfmieamaa.mem Go.Proofs.Ytafpbnjfmieamaa.ints Go.Proofs.Ytafpbnjfmieamaa.arr Go.Proofs.Ytafpbnjfmieamaa.pm Go.Proofs.Ytafpbnjfmieamaa.permOk Go.Proofs.Ytafpbnjfmieamaa.fns
set_option linter.unusedVariables false
set_option maxRecDepth 100000

theorem own_le {w : World} {base n c : Nat} {e : TypeId} {A : Option Addr} {xs : List Value} (h : w.ownsRow base e 1 (.slice A n c) n xs) : n ≤ c := by
  rcases h.2 with ⟨e, q⟩ | ⟨g, cap, cur, e, _, _, h3, _⟩
  · injection e; omega
  · injection e with e1 e2 e3; subst e3; exact h3
/-- A permutation of m elements in new memory. -/
def PermOut2 (m : Nat) (w : World) (e : Ending) (w' : World) : Prop :=
  ∃ A c xs, Ok xs ∧ xs.length = m ∧ e = .returned (.slice A m c) ∧ Row w' w.heap.size w'.heap.size A m (V xs) ∧ m ≤ c ∧ Below w.heap.size w w'
set_option maxHeartbeats 1000000 in
theorem makeP2_any (w : World) (hi : Nat) (A : Option Addr) (n c : Nat) (l : List Int) (q m : Nat) (hq : q ≤ 1000) (hm1 : 1 ≤ m) (hm : m ≤ 24) (hc : Code w hi A n l) :
    Calls Try.prog 11 #[.slice A n c, .int .i64 q, .int .i64 m] w (PermOut2 m w) := by
  have HC := Lib.hid hc; clear hc
  by_cases hm2 : m = 1
  · subst hm2
    go_enter Try.func11, Try.ntmps11
    go_wp2_with fail
    refine (skip_any w hi A n c l q hq HC.out).mono ?_
    rintro e w1 ⟨g, hg, hlt, rfl, hcur, hb⟩
    have HCU := Lib.hid hcur; have HB := Lib.hid hb; clear hcur hb
    go_wp2_with fail
    refine (drawP_any w1 g A n c l 1 (by omega) HCU.out).mono ?_
    rintro e w2 ⟨v, xs, ok, hl, rfl, ho, hcur, hout⟩
    obtain ⟨C, cc, rfl⟩ := own_form ho
    have HK := Lib.hid (own_le ho); have HO := Lib.hid (Row.of_own ho); have HOUT := Lib.hid hout; have OK := Lib.hid ok; have HL := Lib.hid hl; clear ho hcur hout ok hl
    go_wp2_with fail
    go_ret
    exact ⟨C, cc, xs, OK.out, HL.out, rfl, HO.out.wider HB.out.size (Nat.le_refl _) (Nat.le_refl _), HK.out, HB.out.trans (HOUT.out.below hg HB.out.size)⟩
  · have hm3 : 1 < m := by omega
    clear hm2
    go_enter Try.func11, Try.ntmps11
    go_wp2_with fail
    refine (skip_any w hi A n c l q hq HC.out).mono ?_
    rintro e w1 ⟨g, hg, hlt, rfl, hcur, hb⟩
    have HCU := Lib.hid hcur; have HB := Lib.hid hb; clear hcur hb
    go_wp2_with fail
    refine (drawP_any w1 g A n c l m (by omega) HCU.out).mono ?_
    rintro e w2 ⟨v, xs, ok, hl, rfl, ho, hcur, hout⟩
    obtain ⟨C, cc, rfl⟩ := own_form ho
    have HK := Lib.hid (own_le ho); have HO := Lib.hid (Row.of_own ho); have HOUT := Lib.hid hout; have OK := Lib.hid ok; have HL := Lib.hid hl; clear ho hcur hout ok hl
    go_wp2_with fail
    go_ret
    exact ⟨C, cc, xs, OK.out, HL.out, rfl, HO.out.wider HB.out.size (Nat.le_refl _) (Nat.le_refl _), HK.out, HB.out.trans (HOUT.out.below hg HB.out.size)⟩
end Go.Proofs.Ytafpbnjfmieamaa.cur
