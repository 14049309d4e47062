/-
  What the letters answer (any lists); ShearSurface, UnshearSurface, TurnSurface, UnturnSurface of the model.
-/
import Derived.Test.YtdoohnphgembdaaSh2
import Derived.Test.YtdoohnphgembdaaRi
namespace Go.Proofs.Ytdoohnphgembdaa.lw
open Go.ChangeShapes Go.WideShapes Go.ChangeAt Go.RowKit
open Go.Proofs.Ytdoohnphgembdaa.mem Go.Proofs.Ytdoohnphgembdaa.ints Go.Proofs.Ytdoohnphgembdaa.arr Go.Proofs.Ytdoohnphgembdaa.pm Go.Proofs.Ytdoohnphgembdaa.permOk Go.Proofs.Ytdoohnphgembdaa.permOf Go.Proofs.Ytdoohnphgembdaa.inv Go.Proofs.Ytdoohnphgembdaa.fns Go.Proofs.Ytdoohnphgembdaa.sf Go.Proofs.Ytdoohnphgembdaa.gl Go.Proofs.Ytdoohnphgembdaa.mk
set_option linter.unusedVariables false
set_option maxRecDepth 100000
/-- What a function on surfaces answers: the empty surface, if the lists are no surface. -/
def acR (f : Sur → Sur) (r u : List Int) : List Int := if transB r u then (f (r, u)).1 else []
def acU (f : Sur → Sur) (r u : List Int) : List Int := if transB r u then (f (r, u)).2 else []
theorem ac_yes (f : Sur → Sur) {r u : List Int} (h : transB r u = true) : acR f r u = (f (r, u)).1 ∧ acU f r u = (f (r, u)).2 := by simp [acR, acU, h]
theorem ac_no (f : Sur → Sur) {r u : List Int} (h : transB r u = false) : acR f r u = [] ∧ acU f r u = [] := by simp [acR, acU, h]
/-- It keeps surfaces. -/
def Keeps (f : Sur → Sur) : Prop := ∀ n R U, Sf n R U → Sf n (f (R, U)).1 (f (R, U)).2
theorem acR_le {f : Sur → Sur} (hf : Keeps f) (r u : List Int) : (acR f r u).length ≤ 1048576 := by
  unfold acR; split
  · rename_i h; have s := hf _ _ _ (transB_iff.1 h); have := s.r.len; omega
  · simp
theorem acU_le {f : Sur → Sur} (hf : Keeps f) (r u : List Int) : (acU f r u).length ≤ 1048576 := by
  unfold acU; split
  · rename_i h; have s := hf _ _ _ (transB_iff.1 h); have := s.u.len; omega
  · simp
theorem sh_keeps : Keeps shearS := fun n R U s => shear_sf s
def shR (r u : List Int) : List Int := acR shearS r u
def shU (r u : List Int) : List Int := acU shearS r u
theorem shR_len (r u : List Int) : (shR r u).length ≤ 1048576 := acR_le sh_keeps r u
theorem shU_len (r u : List Int) : (shU r u).length ≤ 1048576 := acU_le sh_keeps r u
set_option maxHeartbeats 1000000 in
theorem sh_spec (v : Value) (r u : List Int) (hi : Nat) (w : World) (hx : Srd w hi v r u) (hn : r.length ≤ 1048576) (hm : u.length ≤ 1048576) :
    Calls Try.prog 25 #[v] w fun e w' => ∃ g, e = .returned (.tuple #[g, .bool (transB r u)]) ∧ Svl w' w.heap.size w'.heap.size g (shR r u) (shU r u) ∧ Below w.heap.size w w' := by
  have HX := Lib.hid hx
  obtain ⟨P, n, c, Q, m, d, rfl, q1, q2, e1, e2, ht, HR⟩ := hx.open
  have L1 := Lib.hid q1
  clear hx
  go_enter Try.func25, Try.ntmps25
  go_wp2_with fail
  refine (ok_spec _ r u hi _ (HX.out.keep (((Below.refl hi w).alloc ht _).alloc (by simp; omega) _) (Nat.le_refl _)) hn hm).mono ?_
  rintro e w1 ⟨rfl, b1⟩
  have A0 := Lib.hid (((Arr.new w [.slice P n c, .slice Q m d] 25 rfl).alloc _).keep b1 (by simp <;> omega))
  have A1 := Lib.hid ((Arr.new _ [.slice none 0 0, .slice none 0 0] 25 (g := w.heap.size + 1) (by simp)).keep b1 (by simp))
  have hs1 : w.heap.size + 2 ≤ w1.heap.size := by have := b1.size; simpa using this
  have c0 := A0.out.cell (k := 0) rfl
  have c1 := A0.out.cell (k := 1) rfl
  have B1 : Hid (Below w.heap.size w w1) := Lib.hid ((((Below.refl _ _).alloc (Nat.le_refl _) _).alloc (by simp) _).trans (b1.mono (by simp <;> omega))); clear b1
  cases hq : transB r u
  · obtain ⟨z1, z2⟩ := ac_no shearS hq
    have Z1 := Lib.hid z1; have Z2 := Lib.hid z2; have HQ := Lib.hid hq; clear z1 z2 hq
    go_wp2_with (first | (refine wpList_build rfl 25 _ rfl [] rfl _ built2 ?_) | (refine wpList_store_row rfl 25 _ _ rfl (w.heap.size + 1) #[.slice none 0 0, .slice none 0 0] rfl rfl 25 #[.slice none 0 0, .slice none 0 0] A1.out size2 rfl (by simp [Value.oneCell']) ?_))
    exact bodyPost_ret (v := .tuple #[.agg #[.slice none 0 0, .slice none 0 0], .bool false]) (permOf.results_cell_tmp rfl _ _ (w.heap.size + 1) 25 #[.slice none 0 0, .slice none 0 0] (0, 0) _ _ rfl rfl A1.out.row Try.underlying25 rfl size2) rfl (sb_nil (show shR r u = [] from Z1.out) (show shU r u = [] from Z2.out) HQ.out (below_setRow B1.out (by omega) _))
  · obtain ⟨z1, z2⟩ := ac_yes shearS hq
    have Z1 := Lib.hid z1; have Z2 := Lib.hid z2; have HQ := Lib.hid hq; clear z1 z2
    have HS : Hid (Sf n r u) := Lib.hid (by have := transB_iff.1 hq; rwa [L1.out] at this)
    have CL := Lib.hid (And.intro (shear_sf HS.out).lr (shear_sf HS.out).lu)
    clear hq
    go_wp2_with fail
    refine (shear_any _ r u n hi _ (HX.out.keep (B1.out.mono ht) (Nat.le_refl _)) HS.out).mono ?_
    rintro e w6 ⟨g, rfl, sg, b1⟩
    replace sg : Svl w6 w1.heap.size w6.heap.size g (shearS (r, u)).1 (shearS (r, u)).2 := sg
    obtain ⟨P3, c3, Q3, d3, rfl⟩ := sg.lens CL.out.1 CL.out.2
    have hs6 := b1.size
    replace A1 := Lib.hid (A1.out.keep b1 A1.out.lt)
    replace B1 := Lib.hid (B1.out.trans (b1.mono B1.out.size))
    have SG := Lib.hid sg
    clear b1 sg c0 c1 A0
    go_wp2_with (refine wpList_store_row rfl 25 _ _ rfl (w.heap.size + 1) #[.slice P3 n c3, .slice Q3 n d3] rfl rfl 25 #[.slice none 0 0, .slice none 0 0] A1.out size2 rfl (by simp [Value.oneCell']) ?_)
    exact bodyPost_ret (v := .tuple #[.agg #[.slice P3 n c3, .slice Q3 n d3], .bool true]) (permOf.results_cell_tmp rfl _ _ (w.heap.size + 1) 25 #[.slice P3 n c3, .slice Q3 n d3] (0, 0) _ _ rfl rfl A1.out.row Try.underlying25 rfl size2) rfl (by
      rw [show shR r u = _ from Z1.out, show shU r u = _ from Z2.out, HQ.out]
      have := Svl.row SG.out (g := w.heap.size + 1) (by omega) #[.slice P3 n c3, .slice Q3 n d3]
      exact ⟨_, rfl, (by simpa using this.later (by omega)), below_setRow B1.out (by omega) _⟩)
theorem us_keeps : Keeps unshearS := fun n R U s => unshear_sf s
def usR (r u : List Int) : List Int := acR unshearS r u
def usU (r u : List Int) : List Int := acU unshearS r u
theorem usR_len (r u : List Int) : (usR r u).length ≤ 1048576 := acR_le us_keeps r u
theorem usU_len (r u : List Int) : (usU r u).length ≤ 1048576 := acU_le us_keeps r u
set_option maxHeartbeats 1000000 in
theorem us_spec (v : Value) (r u : List Int) (hi : Nat) (w : World) (hx : Srd w hi v r u) (hn : r.length ≤ 1048576) (hm : u.length ≤ 1048576) :
    Calls Try.prog 30 #[v] w fun e w' => ∃ g, e = .returned (.tuple #[g, .bool (transB r u)]) ∧ Svl w' w.heap.size w'.heap.size g (usR r u) (usU r u) ∧ Below w.heap.size w w' := by
  have HX := Lib.hid hx
  obtain ⟨P, n, c, Q, m, d, rfl, q1, q2, e1, e2, ht, HR⟩ := hx.open
  have L1 := Lib.hid q1
  clear hx
  go_enter Try.func30, Try.ntmps30
  go_wp2_with fail
  refine (ok_spec _ r u hi _ (HX.out.keep (((Below.refl hi w).alloc ht _).alloc (by simp; omega) _) (Nat.le_refl _)) hn hm).mono ?_
  rintro e w1 ⟨rfl, b1⟩
  have A0 := Lib.hid (((Arr.new w [.slice P n c, .slice Q m d] 25 rfl).alloc _).keep b1 (by simp <;> omega))
  have A1 := Lib.hid ((Arr.new _ [.slice none 0 0, .slice none 0 0] 25 (g := w.heap.size + 1) (by simp)).keep b1 (by simp))
  have hs1 : w.heap.size + 2 ≤ w1.heap.size := by have := b1.size; simpa using this
  have c0 := A0.out.cell (k := 0) rfl
  have c1 := A0.out.cell (k := 1) rfl
  have B1 : Hid (Below w.heap.size w w1) := Lib.hid ((((Below.refl _ _).alloc (Nat.le_refl _) _).alloc (by simp) _).trans (b1.mono (by simp <;> omega))); clear b1
  cases hq : transB r u
  · obtain ⟨z1, z2⟩ := ac_no unshearS hq
    have Z1 := Lib.hid z1; have Z2 := Lib.hid z2; have HQ := Lib.hid hq; clear z1 z2 hq
    go_wp2_with (first | (refine wpList_build rfl 25 _ rfl [] rfl _ built2 ?_) | (refine wpList_store_row rfl 25 _ _ rfl (w.heap.size + 1) #[.slice none 0 0, .slice none 0 0] rfl rfl 25 #[.slice none 0 0, .slice none 0 0] A1.out size2 rfl (by simp [Value.oneCell']) ?_))
    exact bodyPost_ret (v := .tuple #[.agg #[.slice none 0 0, .slice none 0 0], .bool false]) (permOf.results_cell_tmp rfl _ _ (w.heap.size + 1) 25 #[.slice none 0 0, .slice none 0 0] (0, 0) _ _ rfl rfl A1.out.row Try.underlying25 rfl size2) rfl (sb_nil (show usR r u = [] from Z1.out) (show usU r u = [] from Z2.out) HQ.out (below_setRow B1.out (by omega) _))
  · obtain ⟨z1, z2⟩ := ac_yes unshearS hq
    have Z1 := Lib.hid z1; have Z2 := Lib.hid z2; have HQ := Lib.hid hq; clear z1 z2
    have HS : Hid (Sf n r u) := Lib.hid (by have := transB_iff.1 hq; rwa [L1.out] at this)
    have CL := Lib.hid (And.intro (unshear_sf HS.out).lr (unshear_sf HS.out).lu)
    clear hq
    go_wp2_with fail
    refine (unshear_any _ r u n hi _ (HX.out.keep (B1.out.mono ht) (Nat.le_refl _)) HS.out).mono ?_
    rintro e w6 ⟨g, rfl, sg, b1⟩
    replace sg : Svl w6 w1.heap.size w6.heap.size g (unshearS (r, u)).1 (unshearS (r, u)).2 := sg
    obtain ⟨P3, c3, Q3, d3, rfl⟩ := sg.lens CL.out.1 CL.out.2
    have hs6 := b1.size
    replace A1 := Lib.hid (A1.out.keep b1 A1.out.lt)
    replace B1 := Lib.hid (B1.out.trans (b1.mono B1.out.size))
    have SG := Lib.hid sg
    clear b1 sg c0 c1 A0
    go_wp2_with (refine wpList_store_row rfl 25 _ _ rfl (w.heap.size + 1) #[.slice P3 n c3, .slice Q3 n d3] rfl rfl 25 #[.slice none 0 0, .slice none 0 0] A1.out size2 rfl (by simp [Value.oneCell']) ?_)
    exact bodyPost_ret (v := .tuple #[.agg #[.slice P3 n c3, .slice Q3 n d3], .bool true]) (permOf.results_cell_tmp rfl _ _ (w.heap.size + 1) 25 #[.slice P3 n c3, .slice Q3 n d3] (0, 0) _ _ rfl rfl A1.out.row Try.underlying25 rfl size2) rfl (by
      rw [show usR r u = _ from Z1.out, show usU r u = _ from Z2.out, HQ.out]
      have := Svl.row SG.out (g := w.heap.size + 1) (by omega) #[.slice P3 n c3, .slice Q3 n d3]
      exact ⟨_, rfl, (by simpa using this.later (by omega)), below_setRow B1.out (by omega) _⟩)
theorem tu_keeps : Keeps turnS := fun n R U s => turn_sf s
def tuR (r u : List Int) : List Int := acR turnS r u
def tuU (r u : List Int) : List Int := acU turnS r u
theorem tuR_len (r u : List Int) : (tuR r u).length ≤ 1048576 := acR_le tu_keeps r u
theorem tuU_len (r u : List Int) : (tuU r u).length ≤ 1048576 := acU_le tu_keeps r u
set_option maxHeartbeats 1000000 in
theorem tu_spec (v : Value) (r u : List Int) (hi : Nat) (w : World) (hx : Srd w hi v r u) (hn : r.length ≤ 1048576) (hm : u.length ≤ 1048576) :
    Calls Try.prog 31 #[v] w fun e w' => ∃ g, e = .returned (.tuple #[g, .bool (transB r u)]) ∧ Svl w' w.heap.size w'.heap.size g (tuR r u) (tuU r u) ∧ Below w.heap.size w w' := by
  have HX := Lib.hid hx
  obtain ⟨P, n, c, Q, m, d, rfl, q1, q2, e1, e2, ht, HR⟩ := hx.open
  have L1 := Lib.hid q1
  clear hx
  go_enter Try.func31, Try.ntmps31
  go_wp2_with fail
  refine (ok_spec _ r u hi _ (HX.out.keep (((Below.refl hi w).alloc ht _).alloc (by simp; omega) _) (Nat.le_refl _)) hn hm).mono ?_
  rintro e w1 ⟨rfl, b1⟩
  have A0 := Lib.hid (((Arr.new w [.slice P n c, .slice Q m d] 25 rfl).alloc _).keep b1 (by simp <;> omega))
  have A1 := Lib.hid ((Arr.new _ [.slice none 0 0, .slice none 0 0] 25 (g := w.heap.size + 1) (by simp)).keep b1 (by simp))
  have hs1 : w.heap.size + 2 ≤ w1.heap.size := by have := b1.size; simpa using this
  have c0 := A0.out.cell (k := 0) rfl
  have c1 := A0.out.cell (k := 1) rfl
  have B1 : Hid (Below w.heap.size w w1) := Lib.hid ((((Below.refl _ _).alloc (Nat.le_refl _) _).alloc (by simp) _).trans (b1.mono (by simp <;> omega))); clear b1
  cases hq : transB r u
  · obtain ⟨z1, z2⟩ := ac_no turnS hq
    have Z1 := Lib.hid z1; have Z2 := Lib.hid z2; have HQ := Lib.hid hq; clear z1 z2 hq
    go_wp2_with (first | (refine wpList_build rfl 25 _ rfl [] rfl _ built2 ?_) | (refine wpList_store_row rfl 25 _ _ rfl (w.heap.size + 1) #[.slice none 0 0, .slice none 0 0] rfl rfl 25 #[.slice none 0 0, .slice none 0 0] A1.out size2 rfl (by simp [Value.oneCell']) ?_))
    exact bodyPost_ret (v := .tuple #[.agg #[.slice none 0 0, .slice none 0 0], .bool false]) (permOf.results_cell_tmp rfl _ _ (w.heap.size + 1) 25 #[.slice none 0 0, .slice none 0 0] (0, 0) _ _ rfl rfl A1.out.row Try.underlying25 rfl size2) rfl (sb_nil (show tuR r u = [] from Z1.out) (show tuU r u = [] from Z2.out) HQ.out (below_setRow B1.out (by omega) _))
  · obtain ⟨z1, z2⟩ := ac_yes turnS hq
    have Z1 := Lib.hid z1; have Z2 := Lib.hid z2; have HQ := Lib.hid hq; clear z1 z2
    have HS : Hid (Sf n r u) := Lib.hid (by have := transB_iff.1 hq; rwa [L1.out] at this)
    have CL := Lib.hid (And.intro (turn_sf HS.out).lr (turn_sf HS.out).lu)
    clear hq
    go_wp2_with fail
    refine (turn_any _ r u n hi _ (HX.out.keep (B1.out.mono ht) (Nat.le_refl _)) HS.out).mono ?_
    rintro e w6 ⟨g, rfl, sg, b1⟩
    replace sg : Svl w6 w1.heap.size w6.heap.size g (turnS (r, u)).1 (turnS (r, u)).2 := sg
    obtain ⟨P3, c3, Q3, d3, rfl⟩ := sg.lens CL.out.1 CL.out.2
    have hs6 := b1.size
    replace A1 := Lib.hid (A1.out.keep b1 A1.out.lt)
    replace B1 := Lib.hid (B1.out.trans (b1.mono B1.out.size))
    have SG := Lib.hid sg
    clear b1 sg c0 c1 A0
    go_wp2_with (refine wpList_store_row rfl 25 _ _ rfl (w.heap.size + 1) #[.slice P3 n c3, .slice Q3 n d3] rfl rfl 25 #[.slice none 0 0, .slice none 0 0] A1.out size2 rfl (by simp [Value.oneCell']) ?_)
    exact bodyPost_ret (v := .tuple #[.agg #[.slice P3 n c3, .slice Q3 n d3], .bool true]) (permOf.results_cell_tmp rfl _ _ (w.heap.size + 1) 25 #[.slice P3 n c3, .slice Q3 n d3] (0, 0) _ _ rfl rfl A1.out.row Try.underlying25 rfl size2) rfl (by
      rw [show tuR r u = _ from Z1.out, show tuU r u = _ from Z2.out, HQ.out]
      have := Svl.row SG.out (g := w.heap.size + 1) (by omega) #[.slice P3 n c3, .slice Q3 n d3]
      exact ⟨_, rfl, (by simpa using this.later (by omega)), below_setRow B1.out (by omega) _⟩)
theorem ut_keeps : Keeps unturnS := fun n R U s => unturn_sf s
def utR (r u : List Int) : List Int := acR unturnS r u
def utU (r u : List Int) : List Int := acU unturnS r u
theorem utR_len (r u : List Int) : (utR r u).length ≤ 1048576 := acR_le ut_keeps r u
theorem utU_len (r u : List Int) : (utU r u).length ≤ 1048576 := acU_le ut_keeps r u
set_option maxHeartbeats 1000000 in
theorem ut_spec (v : Value) (r u : List Int) (hi : Nat) (w : World) (hx : Srd w hi v r u) (hn : r.length ≤ 1048576) (hm : u.length ≤ 1048576) :
    Calls Try.prog 32 #[v] w fun e w' => ∃ g, e = .returned (.tuple #[g, .bool (transB r u)]) ∧ Svl w' w.heap.size w'.heap.size g (utR r u) (utU r u) ∧ Below w.heap.size w w' := by
  have HX := Lib.hid hx
  obtain ⟨P, n, c, Q, m, d, rfl, q1, q2, e1, e2, ht, HR⟩ := hx.open
  have L1 := Lib.hid q1
  clear hx
  go_enter Try.func32, Try.ntmps32
  go_wp2_with fail
  refine (ok_spec _ r u hi _ (HX.out.keep (((Below.refl hi w).alloc ht _).alloc (by simp; omega) _) (Nat.le_refl _)) hn hm).mono ?_
  rintro e w1 ⟨rfl, b1⟩
  have A0 := Lib.hid (((Arr.new w [.slice P n c, .slice Q m d] 25 rfl).alloc _).keep b1 (by simp <;> omega))
  have A1 := Lib.hid ((Arr.new _ [.slice none 0 0, .slice none 0 0] 25 (g := w.heap.size + 1) (by simp)).keep b1 (by simp))
  have hs1 : w.heap.size + 2 ≤ w1.heap.size := by have := b1.size; simpa using this
  have c0 := A0.out.cell (k := 0) rfl
  have c1 := A0.out.cell (k := 1) rfl
  have B1 : Hid (Below w.heap.size w w1) := Lib.hid ((((Below.refl _ _).alloc (Nat.le_refl _) _).alloc (by simp) _).trans (b1.mono (by simp <;> omega))); clear b1
  cases hq : transB r u
  · obtain ⟨z1, z2⟩ := ac_no unturnS hq
    have Z1 := Lib.hid z1; have Z2 := Lib.hid z2; have HQ := Lib.hid hq; clear z1 z2 hq
    go_wp2_with (first | (refine wpList_build rfl 25 _ rfl [] rfl _ built2 ?_) | (refine wpList_store_row rfl 25 _ _ rfl (w.heap.size + 1) #[.slice none 0 0, .slice none 0 0] rfl rfl 25 #[.slice none 0 0, .slice none 0 0] A1.out size2 rfl (by simp [Value.oneCell']) ?_))
    exact bodyPost_ret (v := .tuple #[.agg #[.slice none 0 0, .slice none 0 0], .bool false]) (permOf.results_cell_tmp rfl _ _ (w.heap.size + 1) 25 #[.slice none 0 0, .slice none 0 0] (0, 0) _ _ rfl rfl A1.out.row Try.underlying25 rfl size2) rfl (sb_nil (show utR r u = [] from Z1.out) (show utU r u = [] from Z2.out) HQ.out (below_setRow B1.out (by omega) _))
  · obtain ⟨z1, z2⟩ := ac_yes unturnS hq
    have Z1 := Lib.hid z1; have Z2 := Lib.hid z2; have HQ := Lib.hid hq; clear z1 z2
    have HS : Hid (Sf n r u) := Lib.hid (by have := transB_iff.1 hq; rwa [L1.out] at this)
    have CL := Lib.hid (And.intro (unturn_sf HS.out).lr (unturn_sf HS.out).lu)
    clear hq
    go_wp2_with fail
    refine (unturn_any _ r u n hi _ (HX.out.keep (B1.out.mono ht) (Nat.le_refl _)) HS.out).mono ?_
    rintro e w6 ⟨g, rfl, sg, b1⟩
    replace sg : Svl w6 w1.heap.size w6.heap.size g (unturnS (r, u)).1 (unturnS (r, u)).2 := sg
    obtain ⟨P3, c3, Q3, d3, rfl⟩ := sg.lens CL.out.1 CL.out.2
    have hs6 := b1.size
    replace A1 := Lib.hid (A1.out.keep b1 A1.out.lt)
    replace B1 := Lib.hid (B1.out.trans (b1.mono B1.out.size))
    have SG := Lib.hid sg
    clear b1 sg c0 c1 A0
    go_wp2_with (refine wpList_store_row rfl 25 _ _ rfl (w.heap.size + 1) #[.slice P3 n c3, .slice Q3 n d3] rfl rfl 25 #[.slice none 0 0, .slice none 0 0] A1.out size2 rfl (by simp [Value.oneCell']) ?_)
    exact bodyPost_ret (v := .tuple #[.agg #[.slice P3 n c3, .slice Q3 n d3], .bool true]) (permOf.results_cell_tmp rfl _ _ (w.heap.size + 1) 25 #[.slice P3 n c3, .slice Q3 n d3] (0, 0) _ _ rfl rfl A1.out.row Try.underlying25 rfl size2) rfl (by
      rw [show utR r u = _ from Z1.out, show utU r u = _ from Z2.out, HQ.out]
      have := Svl.row SG.out (g := w.heap.size + 1) (by omega) #[.slice P3 n c3, .slice Q3 n d3]
      exact ⟨_, rfl, (by simpa using this.later (by omega)), below_setRow B1.out (by omega) _⟩)
end Go.Proofs.Ytdoohnphgembdaa.lw
