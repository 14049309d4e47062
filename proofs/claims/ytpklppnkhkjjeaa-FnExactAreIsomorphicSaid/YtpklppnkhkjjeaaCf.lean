/-
  CanonOf of the model.
-/
import Derived.Test.YtpklppnkhkjjeaaCs
namespace Go.Proofs.Ytpklppnkhkjjeaa.gl
open Go.ChangeShapes Go.WideShapes Go.ChangeAt Go.RowKit
open Go.Proofs.Ytpklppnkhkjjeaa.mem Go.Proofs.Ytpklppnkhkjjeaa.ints Go.Proofs.Ytpklppnkhkjjeaa.arr Go.Proofs.Ytpklppnkhkjjeaa.pm Go.Proofs.Ytpklppnkhkjjeaa.permOk Go.Proofs.Ytpklppnkhkjjeaa.permOf Go.Proofs.Ytpklppnkhkjjeaa.inv Go.Proofs.Ytpklppnkhkjjeaa.fns Go.Proofs.Ytpklppnkhkjjeaa.sf
set_option linter.unusedVariables false

set_option maxHeartbeats 1000000 in
theorem cf_spec (v : Value) (r u : List Int) (hi : Nat) (w : World) (hx : Srd w hi v r u) (hn : r.length ≤ 1048576) (hm : u.length ≤ 1048576) :
    Calls Try.prog 39 #[v] w fun e w' => ∃ g, e = .returned (.tuple #[g, .bool (transB r u)]) ∧ Svl w' w.heap.size w'.heap.size g (cfR r u) (cfU r u) ∧ Below w.heap.size w w' := by
  have HX := Lib.hid hx
  obtain ⟨P, n, c, Q, m, d, rfl, q1, q2, e1, e2, ht, HR⟩ := hx.open
  have L1 := Lib.hid q1
  clear hx
  go_enter Try.func39, Try.ntmps39
  go_wp2_with fail
  refine (ok_spec _ r u hi _ (HX.out.keep (((Below.refl hi w).alloc ht _).alloc (by simp; omega) _) (Nat.le_refl _)) hn hm).mono ?_
  rintro e w1 ⟨rfl, b1⟩
  have A0 := Lib.hid (((Arr.new w [.slice P n c, .slice Q m d] 25 rfl).alloc _).keep b1 (by simp <;> omega))
  have A1 := Lib.hid ((Arr.new _ [.slice none 0 0, .slice none 0 0] 25 (g := w.heap.size + 1) (by simp)).keep b1 (by simp))
  have hs1 : w.heap.size + 2 ≤ w1.heap.size := by have := b1.size; simpa using this
  have c0 := A0.out.cell (k := 0) rfl
  have c1 := A0.out.cell (k := 1) rfl
  have B1 : Hid (Below w.heap.size w w1) := Lib.hid ((((Below.refl _ _).alloc (Nat.le_refl _) _).alloc (by simp) _).trans (b1.mono (by simp <;> omega))); clear b1
  cases hq : transB r u
  · obtain ⟨z1, z2⟩ := cf_no hq
    have Z1 := Lib.hid z1; have Z2 := Lib.hid z2; have HQ := Lib.hid hq; clear z1 z2 hq
    go_wp2_with (first | (refine wpList_build rfl 25 _ rfl [] rfl _ built2 ?_) | (refine wpList_store_row rfl 25 _ _ rfl (w.heap.size + 1) #[.slice none 0 0, .slice none 0 0] rfl rfl 25 #[.slice none 0 0, .slice none 0 0] A1.out size2 rfl (by simp [Value.oneCell']) ?_))
    exact bodyPost_ret (v := .tuple #[.agg #[.slice none 0 0, .slice none 0 0], .bool false]) (permOf.results_cell_tmp rfl _ _ (w.heap.size + 1) 25 #[.slice none 0 0, .slice none 0 0] (0, 0) _ _ rfl rfl A1.out.row Try.underlying25 rfl size2) rfl (sb_nil Z1.out Z2.out HQ.out (below_setRow B1.out (by omega) _))
  · obtain ⟨z1, z2⟩ := cf_yes hq
    rw [L1.out] at z1 z2
    have Z1 := Lib.hid z1; have Z2 := Lib.hid z2; have HQ := Lib.hid hq; clear z1 z2
    have HS : Hid (Sf n r u) := Lib.hid (by have := transB_iff.1 hq; rwa [L1.out] at this)
    have CL := Lib.hid (can_len r u HS.out.pos)
    clear hq
    go_wp2_with fail
    refine (canon_spec _ r u n hi _ (HX.out.keep (B1.out.mono ht) (Nat.le_refl _)) HS.out).mono ?_
    rintro e w6 ⟨g, rfl, sg, b1⟩
    obtain ⟨P3, c3, Q3, d3, rfl⟩ := sg.lens CL.out.1 CL.out.2
    have hs6 := b1.size
    replace A1 := Lib.hid (A1.out.keep b1 A1.out.lt)
    replace B1 := Lib.hid (B1.out.trans (b1.mono B1.out.size))
    have SG := Lib.hid sg
    clear b1 sg c0 c1 A0
    go_wp2_with (refine wpList_store_row rfl 25 _ _ rfl (w.heap.size + 1) #[.slice P3 n c3, .slice Q3 n d3] rfl rfl 25 #[.slice none 0 0, .slice none 0 0] A1.out size2 rfl (by simp [Value.oneCell']) ?_)
    exact bodyPost_ret (v := .tuple #[.agg #[.slice P3 n c3, .slice Q3 n d3], .bool true]) (permOf.results_cell_tmp rfl _ _ (w.heap.size + 1) 25 #[.slice P3 n c3, .slice Q3 n d3] (0, 0) _ _ rfl rfl A1.out.row Try.underlying25 rfl size2) rfl (by
      rw [Z1.out, Z2.out, HQ.out]
      have := Svl.row SG.out (g := w.heap.size + 1) (by omega) #[.slice P3 n c3, .slice Q3 n d3]
      exact ⟨_, rfl, (by simpa using this.later (by omega)), below_setRow B1.out (by omega) _⟩)
end Go.Proofs.Ytpklppnkhkjjeaa.gl
