/-
  RenameSurface, of the model and of the program.
-/
import Derived.Test.YtpklppnkhkjjeaaNf
namespace Go.Proofs.Ytpklppnkhkjjeaa.gl
open Go.ChangeShapes Go.WideShapes Go.ChangeAt Go.RowKit
open Go.Proofs.Ytpklppnkhkjjeaa.mem Go.Proofs.Ytpklppnkhkjjeaa.ints Go.Proofs.Ytpklppnkhkjjeaa.arr Go.Proofs.Ytpklppnkhkjjeaa.pm Go.Proofs.Ytpklppnkhkjjeaa.permOk Go.Proofs.Ytpklppnkhkjjeaa.permOf Go.Proofs.Ytpklppnkhkjjeaa.inv Go.Proofs.Ytpklppnkhkjjeaa.fns Go.Proofs.Ytpklppnkhkjjeaa.sf
set_option linter.unusedVariables false

/-- A surface and a bool. -/
def SB (r u : List Int) (b : Bool) (w : World) (e : Ending) (w' : World) : Prop := ∃ g, e = .returned (.tuple #[g, .bool b]) ∧ Svl w' w.heap.size w'.heap.size g r u ∧ Below w.heap.size w w'
theorem built2 : Try.prog.built 25 [] = some #[.slice none 0 0, .slice none 0 0] := by kernel_rfl
theorem sb_nil {w w1 : World} {b : Bool} {r u : List Int} (hr : r = []) (hu : u = []) (hb : b = false) (h : Below w.heap.size w w1) : SB r u b w (.returned (.tuple #[.agg #[.slice none 0 0, .slice none 0 0], .bool false])) w1 := by
  subst hr; subst hu; subst hb
  exact ⟨_, rfl, Svl.nil _ _ _ (Nat.le_refl _) h.size, h⟩
theorem Svl.row {w : World} {lo hi g : Nat} {v : Value} {r u : List Int} (h : Svl w lo hi v r u) (hg : g < lo) (cs : Array Value) : Svl (w.setRow g cs) lo hi v r u :=
  h.out ((Out.refl 0 (g + 1) w).row_ (Nat.zero_le _) (Nat.lt_succ_self _) cs) (.inr (by omega))
def rsB (r u ns : List Int) : Bool := transB r u && okB ns && decide (ns.length = r.length)
def rsR (r u ns : List Int) : List Int := if rsB r u ns then renTo r.length r ns r.length else []
def rsU (r u ns : List Int) : List Int := if rsB r u ns then renTo r.length u ns r.length else []
theorem rsB_iff {r u ns : List Int} : rsB r u ns = true ↔ transB r u = true ∧ okB ns = true ∧ ns.length = r.length := by simp [rsB, and_assoc]
theorem rs_no {r u ns : List Int} (h : ¬ (transB r u = true ∧ okB ns = true ∧ ns.length = r.length)) : rsR r u ns = [] ∧ rsU r u ns = [] ∧ rsB r u ns = false := by
  have : rsB r u ns = false := by rw [← Bool.not_eq_true, rsB_iff]; exact h
  simp [rsR, rsU, this]
theorem rs_yes {r u ns : List Int} (h : transB r u = true) (h2 : okB ns = true) (h3 : ns.length = r.length) : rsR r u ns = renTo r.length r ns r.length ∧ rsU r u ns = renTo r.length u ns r.length ∧ rsB r u ns = true := by
  have : rsB r u ns = true := rsB_iff.2 ⟨h, h2, h3⟩
  simp [rsR, rsU, this]
theorem rsR_len (r u ns : List Int) : (rsR r u ns).length ≤ 1048576 := by
  unfold rsR; split
  · rename_i h; have := (transB_iff.1 (rsB_iff.1 h).1).r.len; rw [renTo_len]; omega
  · simp
theorem rsU_len (r u ns : List Int) : (rsU r u ns).length ≤ 1048576 := by
  unfold rsU; split
  · rename_i h; have := (transB_iff.1 (rsB_iff.1 h).1).r.len; rw [renTo_len]; omega
  · simp

set_option maxHeartbeats 400000 in
theorem rs_spec (v : Value) (r u : List Int) (A : Option Addr) (a ca : Nat) (ns : List Int) (hi h2 : Nat) (w : World) (hx : Srd w hi v r u) (hy : Rd w h2 A a (V ns)) (hn : r.length ≤ 1048576) (hm : u.length ≤ 1048576) (hna : a ≤ 1048576) (hca : a ≤ ca) :
    Calls Try.prog 36 #[v, .slice A a ca] w fun e w' => ∃ g, e = .returned (.tuple #[g, .bool (rsB r u ns)]) ∧ Svl w' w.heap.size w'.heap.size g (rsR r u ns) (rsU r u ns) ∧ Below w.heap.size w w' := by
  have la : ns.length = a := by simpa [V] using hy.1
  have HX := Lib.hid hx; have HY := Lib.hid hy
  obtain ⟨P, n, c, Q, m, d, rfl, q1, q2, e1, e2, ht, HR⟩ := hx.open
  have h2' := hy.2.1
  clear hx hy
  go_enter Try.func36, Try.ntmps36
  go_wp2_with fail
  refine (ok_spec _ r u hi _ (HX.out.keep (((Below.refl hi w).alloc ht _).alloc (by simp; omega) _) (Nat.le_refl _)) hn hm).mono ?_
  rintro e w1 ⟨rfl, b1⟩
  have A0 := Lib.hid (((Arr.new w [.slice P n c, .slice Q m d] 25 rfl).alloc _).keep b1 (by simp <;> omega))
  have A1 := Lib.hid ((Arr.new _ [.slice none 0 0, .slice none 0 0] 25 (g := w.heap.size + 1) (by simp)).keep b1 (by simp))
  have hs1 : w.heap.size + 2 ≤ w1.heap.size := by have := b1.size; simpa using this
  have c0 := A0.out.cell (k := 0) rfl
  have c1 := A0.out.cell (k := 1) rfl
  have B1 : Hid (Below w.heap.size w w1) := Lib.hid ((((Below.refl _ _).alloc (Nat.le_refl _) _).alloc (by simp) _).trans (b1.mono (by simp <;> omega))); clear b1
  by_cases hq : transB r u = true
  · rw [hq]
    go_wp2_with fail
    refine (permOk.spec_any A a ca ns _ _ (HY.out.keep (B1.out.mono h2') (Nat.le_refl _)) hna hca).mono ?_
    rintro e w2 ⟨rfl, rfl⟩
    by_cases oy : okB ns = true
    · rw [oy]
      by_cases he : a = n
      · obtain ⟨z1, z2, z3⟩ := rs_yes hq oy (by omega)
        have Z1 := Lib.hid z1; have Z2 := Lib.hid z2; have Z3 := Lib.hid z3
        have HS := Lib.hid (transB_iff.1 hq); have HN := Lib.hid (Ok.of ns oy)
        have he' := he.symm
        clear he
        subst he'
        clear hq oy z1 z2 z3
        go_wp2_with fail
        refine (rename_spec _ r u A n ca ns r.length hi h2 _ (HX.out.keep (B1.out.mono ht) (Nat.le_refl _)) (HY.out.keep (B1.out.mono h2') (Nat.le_refl _)) HS.out HN.out (by omega)).mono ?_
        rintro e w3 ⟨g, rfl, sg, b1⟩
        have s3 := b1.size
        obtain ⟨P3, c3, Q3, d3, rfl⟩ := sg.len
        have A1' := Lib.hid (A1.out.keep b1 A1.out.lt)
        have SG := Lib.hid sg
        have B3 := Lib.hid (B1.out.trans (b1.mono B1.out.size))
        clear b1 sg c0 c1
        have zl1 : (renTo r.length r ns r.length).length = n := by rw [renTo_len]; exact q1
        have zl2 : (renTo r.length u ns r.length).length = n := by rw [renTo_len]; exact q1
        rw [zl1, zl2] at SG ⊢
        go_wp2_with (refine wpList_store_row rfl 25 _ _ rfl (w.heap.size + 1) #[.slice P3 n c3, .slice Q3 n d3] rfl rfl 25 #[.slice none 0 0, .slice none 0 0] A1'.out size2 rfl (by simp [Value.oneCell']) ?_)
        exact bodyPost_ret (v := .tuple #[.agg #[.slice P3 n c3, .slice Q3 n d3], .bool true]) (permOf.results_cell_tmp rfl _ _ (w.heap.size + 1) 25 #[.slice P3 n c3, .slice Q3 n d3] (0, 0) _ _ rfl rfl A1'.out.row Try.underlying25 rfl size2) rfl (by
          rw [Z1.out, Z2.out, Z3.out]
          have := Svl.row SG.out (g := w.heap.size + 1) (by omega) #[.slice P3 n c3, .slice Q3 n d3]
          exact ⟨_, rfl, (by simpa using this.later (by omega)), below_setRow B3.out (by omega) _⟩)
      · obtain ⟨z1, z2, z3⟩ := rs_no (r := r) (u := u) (ns := ns) (fun h => by omega)
        have Z1 := Lib.hid z1; have Z2 := Lib.hid z2; have Z3 := Lib.hid z3
        have hne : ((a : Int) != (n : Int)) = true := by simp; omega
        clear hq oy z1 z2 z3
        go_wp2_with (first | (refine wpList_build rfl 25 _ rfl [] rfl _ built2 ?_) | (refine wpList_store_row rfl 25 _ _ rfl (w.heap.size + 1) #[.slice none 0 0, .slice none 0 0] rfl rfl 25 #[.slice none 0 0, .slice none 0 0] A1.out size2 rfl (by simp [Value.oneCell']) ?_))
        exact bodyPost_ret (v := .tuple #[.agg #[.slice none 0 0, .slice none 0 0], .bool false]) (permOf.results_cell_tmp rfl _ _ (w.heap.size + 1) 25 #[.slice none 0 0, .slice none 0 0] (0, 0) _ _ rfl rfl A1.out.row Try.underlying25 rfl size2) rfl (sb_nil Z1.out Z2.out Z3.out (below_setRow B1.out (by omega) _))
    · have oy' : okB ns = false := by simpa using oy
      rw [oy']
      obtain ⟨z1, z2, z3⟩ := rs_no (r := r) (u := u) (ns := ns) (fun h => oy h.2.1)
      have Z1 := Lib.hid z1; have Z2 := Lib.hid z2; have Z3 := Lib.hid z3
      clear hq oy oy' z1 z2 z3
      go_wp2_with (first | (refine wpList_build rfl 25 _ rfl [] rfl _ built2 ?_) | (refine wpList_store_row rfl 25 _ _ rfl (w.heap.size + 1) #[.slice none 0 0, .slice none 0 0] rfl rfl 25 #[.slice none 0 0, .slice none 0 0] A1.out size2 rfl (by simp [Value.oneCell']) ?_))
      exact bodyPost_ret (v := .tuple #[.agg #[.slice none 0 0, .slice none 0 0], .bool false]) (permOf.results_cell_tmp rfl _ _ (w.heap.size + 1) 25 #[.slice none 0 0, .slice none 0 0] (0, 0) _ _ rfl rfl A1.out.row Try.underlying25 rfl size2) rfl (sb_nil Z1.out Z2.out Z3.out (below_setRow B1.out (by omega) _))
  · have hq' : transB r u = false := by simpa using hq
    rw [hq']
    obtain ⟨z1, z2, z3⟩ := rs_no (r := r) (u := u) (ns := ns) (fun h => hq h.1)
    have Z1 := Lib.hid z1; have Z2 := Lib.hid z2; have Z3 := Lib.hid z3
    clear hq hq' z1 z2 z3
    go_wp2_with (first | (refine wpList_build rfl 25 _ rfl [] rfl _ built2 ?_) | (refine wpList_store_row rfl 25 _ _ rfl (w.heap.size + 1) #[.slice none 0 0, .slice none 0 0] rfl rfl 25 #[.slice none 0 0, .slice none 0 0] A1.out size2 rfl (by simp [Value.oneCell']) ?_))
    exact bodyPost_ret (v := .tuple #[.agg #[.slice none 0 0, .slice none 0 0], .bool false]) (permOf.results_cell_tmp rfl _ _ (w.heap.size + 1) 25 #[.slice none 0 0, .slice none 0 0] (0, 0) _ _ rfl rfl A1.out.row Try.underlying25 rfl size2) rfl (sb_nil Z1.out Z2.out Z3.out (below_setRow B1.out (by omega) _))
end Go.Proofs.Ytpklppnkhkjjeaa.gl
