/-
  Words on surfaces: l05Letter, l05Run and RunWord of the model, RunWord of the program.
-/
import Derived.Test.YtgegkkbnmailaaaLb
import Derived.Deep.CutRange
namespace Go.Proofs.Ytgegkkbnmailaaa.rw
open Go.ChangeShapes Go.WideShapes Go.ChangeAt Go.RowKit
open Go.Proofs.Ytgegkkbnmailaaa.mem Go.Proofs.Ytgegkkbnmailaaa.ints Go.Proofs.Ytgegkkbnmailaaa.arr Go.Proofs.Ytgegkkbnmailaaa.pm Go.Proofs.Ytgegkkbnmailaaa.permOk Go.Proofs.Ytgegkkbnmailaaa.permOf Go.Proofs.Ytgegkkbnmailaaa.inv Go.Proofs.Ytgegkkbnmailaaa.fns Go.Proofs.Ytgegkkbnmailaaa.sf Go.Proofs.Ytgegkkbnmailaaa.gl Go.Proofs.Ytgegkkbnmailaaa.mk Go.Proofs.Ytgegkkbnmailaaa.lw Go.Proofs.Ytgegkkbnmailaaa.la Go.Proofs.Ytgegkkbnmailaaa.wd
set_option linter.unusedVariables false
set_option maxRecDepth 100000
theorem letS84 {c : UInt8} (h : c.toNat = 84) (s : Sur) : letS c s = shearS s := by simp [letS, h]
theorem letS116 {c : UInt8} (h : c.toNat = 116) (s : Sur) : letS c s = unshearS s := by simp [letS, h]
theorem letS83 {c : UInt8} (h : c.toNat = 83) (s : Sur) : letS c s = turnS s := by simp [letS, h]
theorem letS115 {c : UInt8} (h : c.toNat = 115) (s : Sur) : letS c s = unturnS s := by simp [letS, h]
set_option maxHeartbeats 2000000 in
theorem letter_spec (v : Value) (r u : List Int) (N hi : Nat) (w : World) (hx : Srd w hi v r u) (hs : Sf N r u) (c : UInt8) (hc : isL c = true) :
    Calls Try.prog 85 #[v, .int .u8 (c.toNat : Int)] w fun e w' => ∃ g, e = .returned g ∧ Svl w' w.heap.size w'.heap.size g (letS c (r, u)).1 (letS c (r, u)).2 ∧ Below w.heap.size w w' := by
  have HX := Lib.hid hx
  obtain ⟨P, n, c', Q, m', d, rfl, q1, q2, e1, e2, ht, HR⟩ := hx.open
  have HS := Lib.hid hs
  clear hx hs HR q1 q2
  have HK := Lib.hid (letS_sf HS.out c)
  have N0 := Lib.hid (fun o => Arr.new (w.alloc o) [.slice none 0 0, .slice none 0 0] 25 (g := w.heap.size + 1) (by simp))
  rcases isL_iff.1 hc with h1 | h1 | h1 | h1
  · have EL := Lib.hid (letS84 h1 (r, u)); clear hc
    go_enter Try.func85, Try.ntmps85
    go_wp2_with fail
    refine (shear_any _ r u N hi _ (HX.out.keep (((Below.refl hi w).alloc ht _).alloc (by simp; omega) _) (Nat.le_refl _)) HS.out).mono ?_
    rintro e w6 ⟨g, rfl, sg, b1⟩
    have A1 := Lib.hid ((N0.out _).keep b1 (by simp))
    have hs1 : w.heap.size + 2 ≤ w6.heap.size := by have := b1.size; simpa using this
    replace sg : Svl w6 (w.heap.size + 2) w6.heap.size g (letS c (r, u)).1 (letS c (r, u)).2 := by rw [EL.out]; have t := sg; simp at t; exact t
    have B1 : Hid (Below w.heap.size w w6) := Lib.hid ((((Below.refl _ _).alloc (Nat.le_refl _) _).alloc (by simp) _).trans (b1.mono (by simp <;> omega))); clear b1
    obtain ⟨P3, c3, Q3, d3, rfl⟩ := sg.lens HK.out.lr HK.out.lu
    have SG := Lib.hid sg; clear sg
    go_wp2_with (refine wpList_store_row rfl 25 _ _ rfl (w.heap.size + 1) #[.slice P3 N c3, .slice Q3 N d3] rfl rfl 25 #[.slice none 0 0, .slice none 0 0] A1.out size2 rfl (by simp [Value.oneCell']) ?_)
    exact bodyPost_ret (v := .agg #[.slice P3 N c3, .slice Q3 N d3]) (results_cell_row rfl _ _ (w.heap.size + 1) 25 #[.slice P3 N c3, .slice Q3 N d3] (0, 0) _ rfl A1.out.row Try.underlying25 rfl size2) rfl (by
      have := Svl.row SG.out (g := w.heap.size + 1) (by omega) #[.slice P3 N c3, .slice Q3 N d3]
      exact ⟨_, rfl, (by simpa using this.later (by omega)), below_setRow B1.out (by omega) _⟩)
  · have EL := Lib.hid (letS116 h1 (r, u)); clear hc
    go_enter Try.func85, Try.ntmps85
    go_wp2_with fail
    refine (unshear_any _ r u N hi _ (HX.out.keep (((Below.refl hi w).alloc ht _).alloc (by simp; omega) _) (Nat.le_refl _)) HS.out).mono ?_
    rintro e w6 ⟨g, rfl, sg, b1⟩
    have A1 := Lib.hid ((N0.out _).keep b1 (by simp))
    have hs1 : w.heap.size + 2 ≤ w6.heap.size := by have := b1.size; simpa using this
    replace sg : Svl w6 (w.heap.size + 2) w6.heap.size g (letS c (r, u)).1 (letS c (r, u)).2 := by rw [EL.out]; have t := sg; simp at t; exact t
    have B1 : Hid (Below w.heap.size w w6) := Lib.hid ((((Below.refl _ _).alloc (Nat.le_refl _) _).alloc (by simp) _).trans (b1.mono (by simp <;> omega))); clear b1
    obtain ⟨P3, c3, Q3, d3, rfl⟩ := sg.lens HK.out.lr HK.out.lu
    have SG := Lib.hid sg; clear sg
    go_wp2_with (refine wpList_store_row rfl 25 _ _ rfl (w.heap.size + 1) #[.slice P3 N c3, .slice Q3 N d3] rfl rfl 25 #[.slice none 0 0, .slice none 0 0] A1.out size2 rfl (by simp [Value.oneCell']) ?_)
    exact bodyPost_ret (v := .agg #[.slice P3 N c3, .slice Q3 N d3]) (results_cell_row rfl _ _ (w.heap.size + 1) 25 #[.slice P3 N c3, .slice Q3 N d3] (0, 0) _ rfl A1.out.row Try.underlying25 rfl size2) rfl (by
      have := Svl.row SG.out (g := w.heap.size + 1) (by omega) #[.slice P3 N c3, .slice Q3 N d3]
      exact ⟨_, rfl, (by simpa using this.later (by omega)), below_setRow B1.out (by omega) _⟩)
  · have EL := Lib.hid (letS83 h1 (r, u)); clear hc
    go_enter Try.func85, Try.ntmps85
    go_wp2_with fail
    refine (turn_any _ r u N hi _ (HX.out.keep (((Below.refl hi w).alloc ht _).alloc (by simp; omega) _) (Nat.le_refl _)) HS.out).mono ?_
    rintro e w6 ⟨g, rfl, sg, b1⟩
    have A1 := Lib.hid ((N0.out _).keep b1 (by simp))
    have hs1 : w.heap.size + 2 ≤ w6.heap.size := by have := b1.size; simpa using this
    replace sg : Svl w6 (w.heap.size + 2) w6.heap.size g (letS c (r, u)).1 (letS c (r, u)).2 := by rw [EL.out]; have t := sg; simp at t; exact t
    have B1 : Hid (Below w.heap.size w w6) := Lib.hid ((((Below.refl _ _).alloc (Nat.le_refl _) _).alloc (by simp) _).trans (b1.mono (by simp <;> omega))); clear b1
    obtain ⟨P3, c3, Q3, d3, rfl⟩ := sg.lens HK.out.lr HK.out.lu
    have SG := Lib.hid sg; clear sg
    go_wp2_with (refine wpList_store_row rfl 25 _ _ rfl (w.heap.size + 1) #[.slice P3 N c3, .slice Q3 N d3] rfl rfl 25 #[.slice none 0 0, .slice none 0 0] A1.out size2 rfl (by simp [Value.oneCell']) ?_)
    exact bodyPost_ret (v := .agg #[.slice P3 N c3, .slice Q3 N d3]) (results_cell_row rfl _ _ (w.heap.size + 1) 25 #[.slice P3 N c3, .slice Q3 N d3] (0, 0) _ rfl A1.out.row Try.underlying25 rfl size2) rfl (by
      have := Svl.row SG.out (g := w.heap.size + 1) (by omega) #[.slice P3 N c3, .slice Q3 N d3]
      exact ⟨_, rfl, (by simpa using this.later (by omega)), below_setRow B1.out (by omega) _⟩)
  · have EL := Lib.hid (letS115 h1 (r, u)); clear hc
    go_enter Try.func85, Try.ntmps85
    go_wp2_with fail
    refine (unturn_any _ r u N hi _ (HX.out.keep (((Below.refl hi w).alloc ht _).alloc (by simp; omega) _) (Nat.le_refl _)) HS.out).mono ?_
    rintro e w6 ⟨g, rfl, sg, b1⟩
    have A1 := Lib.hid ((N0.out _).keep b1 (by simp))
    have hs1 : w.heap.size + 2 ≤ w6.heap.size := by have := b1.size; simpa using this
    replace sg : Svl w6 (w.heap.size + 2) w6.heap.size g (letS c (r, u)).1 (letS c (r, u)).2 := by rw [EL.out]; have t := sg; simp at t; exact t
    have B1 : Hid (Below w.heap.size w w6) := Lib.hid ((((Below.refl _ _).alloc (Nat.le_refl _) _).alloc (by simp) _).trans (b1.mono (by simp <;> omega))); clear b1
    obtain ⟨P3, c3, Q3, d3, rfl⟩ := sg.lens HK.out.lr HK.out.lu
    have SG := Lib.hid sg; clear sg
    go_wp2_with (refine wpList_store_row rfl 25 _ _ rfl (w.heap.size + 1) #[.slice P3 N c3, .slice Q3 N d3] rfl rfl 25 #[.slice none 0 0, .slice none 0 0] A1.out size2 rfl (by simp [Value.oneCell']) ?_)
    exact bodyPost_ret (v := .agg #[.slice P3 N c3, .slice Q3 N d3]) (results_cell_row rfl _ _ (w.heap.size + 1) 25 #[.slice P3 N c3, .slice Q3 N d3] (0, 0) _ rfl A1.out.row Try.underlying25 rfl size2) rfl (by
      have := Svl.row SG.out (g := w.heap.size + 1) (by omega) #[.slice P3 N c3, .slice Q3 N d3]
      exact ⟨_, rfl, (by simpa using this.later (by omega)), below_setRow B1.out (by omega) _⟩)
/-- What l05Run keeps between two letters: a box with the surface's headers, two rows, each apart from the others. -/
def Bx (w wr : World) (B5 m : Nat) (r u : List Int) : Prop :=
  ∃ P c Q d l1 h1 l2 h2, Arr wr B5 [.slice P m c, .slice Q m d] 25 ∧ Row wr l1 h1 P m (V r) ∧ Row wr l2 h2 Q m (V u) ∧ m ≤ c ∧ m ≤ d ∧ w.heap.size + 2 ≤ l1 ∧ w.heap.size + 2 ≤ l2 ∧ (h1 ≤ l2 ∨ h2 ≤ l1) ∧
    (h1 ≤ B5 ∨ B5 < l1) ∧ (h2 ≤ B5 ∨ B5 < l2) ∧ w.heap.size + 2 ≤ B5 ∧ Arr wr (w.heap.size + 1) [.slice none 0 0, .slice none 0 0] 25 ∧ Below w.heap.size w wr
theorem row_set {w : World} {lo hi n g : Nat} {A : Option Addr} {xs : List Value} (h : Row w lo hi A n xs) (hg : hi ≤ g ∨ g < lo) (cs : Array Value) : Row (w.setRow g cs) lo hi A n xs :=
  h.out ((Out.refl g (g + 1) w).row_ (Nat.le_refl _) (Nat.lt_succ_self _) cs) (by omega)
theorem own_far {w w' : World} {base b : Nat} {e : TypeId} {g n c : Nat} {xs : List Value} {v : Value} (h : w.ownsRow base e 1 (.slice (some ⟨g, 0, none⟩) n c) n xs) (hg : w.grownBy w' v.ownBlock) (hv : v.ownBlock = some b) (hne : g ≠ b) : w'.ownsRow base e 1 (.slice (some ⟨g, 0, none⟩) n c) n xs := by
  refine ⟨h.1, ?_⟩
  rcases h.2 with ⟨h0, _⟩ | ⟨g', cap, cur, q1, q2, q3, q4⟩
  · exact absurd h0 (by simp)
  · refine .inr ⟨g', cap, cur, q1, q2, ?_, q4⟩
    injection q1 with q1 _ _; injection q1 with q1; injection q1 with q1 _ _
    subst q1
    rw [hg.block _ (Array.getElem?_eq_some_iff.1 q3).1 (by rw [hv]; intro e; cases e; exact hne rfl)]; exact q3
theorem arr_far {w w' : World} {g b : Nat} {cs : List Value} {t : TypeId} {v : Value} (h : Arr w g cs t) (hg : w.grownBy w' v.ownBlock) (hv : v.ownBlock = some b) (hne : g ≠ b) : Arr w' g cs t := by
  unfold Arr
  rw [hg.block _ h.lt (by rw [hv]; intro e; cases e; exact hne rfl)]; exact h
end Go.Proofs.Ytgegkkbnmailaaa.rw
