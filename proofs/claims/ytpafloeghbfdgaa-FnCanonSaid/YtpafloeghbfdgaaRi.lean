/-
  RenameSurface of the program.
-/
import Derived.Test.YtpafloeghbfdgaaRs
namespace Go.Proofs.Ytpafloeghbfdgaa.gl
open Go.ChangeShapes Go.WideShapes Go.ChangeAt Go.RowKit
open Go.Proofs.Ytpafloeghbfdgaa.mem Go.Proofs.Ytpafloeghbfdgaa.ints Go.Proofs.Ytpafloeghbfdgaa.arr Go.Proofs.Ytpafloeghbfdgaa.pm Go.Proofs.Ytpafloeghbfdgaa.permOk Go.Proofs.Ytpafloeghbfdgaa.permOf Go.Proofs.Ytpafloeghbfdgaa.inv Go.Proofs.Ytpafloeghbfdgaa.fns Go.Proofs.Ytpafloeghbfdgaa.sf
set_option linter.unusedVariables false
set_option maxRecDepth 100000

theorem take_ren24 {n : Nat} {xs ys : List Int} (h : Ok xs) (h' : Ok ys) (lx : xs.length = n) (ly : ys.length = n) : (ren24 (ext xs) (ext ys)).take n = renTo n xs ys n := by
  rw [ren24_ext h h' lx ly]
  have e := ext_take (renTo n xs ys n) (by rw [renTo_len]; have := h.len; omega)
  rwa [renTo_len] at e

set_option maxHeartbeats 1000000 in
theorem rs_impl (v : Value) (r u : List Int) (A : Option Addr) (a ca : Nat) (ns : List Int) (hi h2 : Nat) (w : World) (hx : Srd w hi v r u) (hy : Rd w h2 A a (V ns)) (hn : r.length ≤ 1048576) (hm : u.length ≤ 1048576) (hna : a ≤ 1048576) :
    Calls Try.prog 39 #[v, .slice A a ca] w fun e w' => ∃ g, e = .returned (.tuple #[g, .bool (rsB r u ns)]) ∧ Svl w' w.heap.size w'.heap.size g (rsR r u ns) (rsU r u ns) ∧ Below w.heap.size w w' := by
  have la : ns.length = a := by simpa [V] using hy.1
  have LA := Lib.hid la; clear la
  have HX := Lib.hid hx; have HY := Lib.hid hy
  obtain ⟨P, n, c, Q, m, d, rfl, q1, q2, e1, e2, ht, HR⟩ := hx.open
  have L1 := Lib.hid q1
  have h2' := hy.2.1
  clear hx hy
  have N0 := Lib.hid (fun o => Arr.new (w.alloc o) [.slice none 0 0, .slice none 0 0] 25 (g := w.heap.size + 1) (by simp))
  go_enter Try.func39, Try.ntmps39
  go_wp2_with fail
  refine (gluingOf_any _ r u hi _ (HX.out.keep (((Below.refl hi w).alloc ht _).alloc (by simp; omega) _) (Nat.le_refl _)) hn hm).mono ?_
  rintro e w1 ⟨rfl, b1⟩
  have A1 := Lib.hid ((N0.out _).keep b1 (by simp))
  have hs1 : w.heap.size + 2 ≤ w1.heap.size := by have := b1.size; simpa using this
  have B1 : Hid (Below w.heap.size w w1) := Lib.hid ((((Below.refl _ _).alloc (Nat.le_refl _) _).alloc (by simp) _).trans (b1.mono (by simp <;> omega))); clear b1 N0
  go_wp2_with (refine wpList_store_row rfl 63 _ _ rfl w1.heap.size (V (glv r u)).toArray rfl rfl 63 (V zero49).toArray (Arr.new w1 (V zero49) _ rfl) (size49 (glv_len _ _)) (by simp [V_len, glv_len, zero49]) (one_V _) ?_; generalize hw2 : (w1.alloc (.cells #[.int .i64 0, .int .i64 0, .int .i64 0, .int .i64 0, .int .i64 0, .int .i64 0, .int .i64 0, .int .i64 0, .int .i64 0, .int .i64 0, .int .i64 0, .int .i64 0, .int .i64 0, .int .i64 0, .int .i64 0, .int .i64 0, .int .i64 0, .int .i64 0, .int .i64 0, .int .i64 0, .int .i64 0, .int .i64 0, .int .i64 0, .int .i64 0, .int .i64 0, .int .i64 0, .int .i64 0, .int .i64 0, .int .i64 0, .int .i64 0, .int .i64 0, .int .i64 0, .int .i64 0, .int .i64 0, .int .i64 0, .int .i64 0, .int .i64 0, .int .i64 0, .int .i64 0, .int .i64 0, .int .i64 0, .int .i64 0, .int .i64 0, .int .i64 0, .int .i64 0, .int .i64 0, .int .i64 0, .int .i64 0, .int .i64 0] 63)).setRow w1.heap.size (V (glv r u)).toArray = w2; have A2 : Hid (Arr w2 w1.heap.size (V (glv r u)) 63) := Lib.hid (by rw [← hw2]; exact (Arr.new w1 (V zero49) _ rfl).row); have b1 : Below w1.heap.size w1 w2 := (by rw [← hw2]; exact arr.below_setRow ((Below.refl _ _).alloc (Nat.le_refl _) _) (Nat.le_refl _) _); have s2 := b1.size; replace A1 := Lib.hid (A1.out.keep b1 A1.out.lt); replace B1 : Hid (Below w.heap.size w w2) := Lib.hid (B1.out.trans (b1.mono B1.out.size)); clear hw2 b1)
  refine (permOf_any A a ca ns _ _ (HY.out.keep (B1.out.mono h2') (Nat.le_refl _)) hna).mono ?_
  rintro e w3 ⟨rfl, b1⟩
  have s3 := b1.size
  replace A1 := Lib.hid (A1.out.keep b1 A1.out.lt)
  replace A2 := Lib.hid (A2.out.keep b1 A2.out.lt)
  replace B1 := Lib.hid (B1.out.trans (b1.mono B1.out.size))
  clear b1
  by_cases hq : transB r u = true
  · rw [hq]
    by_cases oy : okB ns = true
    · rw [oy]
      have HP : Hid (pv ns = ext ns) := Lib.hid (by simp [pv, oy])
      rw [glv_yes hq, L1.out] at A2
      have cc := gl_count (n := n) (ext_len r) (ext_len u) A2.out
      by_cases he : a = n
      · have he' := he.symm
        clear he
        subst he'
        obtain ⟨z1, z2, z3⟩ := rs_yes hq oy (by rw [LA.out, L1.out])
        have Z1 := Lib.hid z1; have Z2 := Lib.hid z2; have Z3 := Lib.hid z3
        have HS := Lib.hid (transB_iff.1 hq); have HN := Lib.hid (Ok.of ns oy)
        have hn24 : n ≤ 24 := by have := HN.out.len; rw [LA.out] at this; exact this
        clear hq oy z1 z2 z3
        rw [HP.out]
        go_wp2_with (first | (refine wpList_store_row rfl 61 _ _ rfl w3.heap.size (V (ext ns)).toArray rfl rfl 61 (V zeros).toArray (Arr.new w3 (V zeros) _ rfl) (size_V (ext_len _)) (by simp [V_len, ext_len, zeros]) (one_V _) ?_; generalize hw4 : (w3.alloc (.cells #[.int .i64 0, .int .i64 0, .int .i64 0, .int .i64 0, .int .i64 0, .int .i64 0, .int .i64 0, .int .i64 0, .int .i64 0, .int .i64 0, .int .i64 0, .int .i64 0, .int .i64 0, .int .i64 0, .int .i64 0, .int .i64 0, .int .i64 0, .int .i64 0, .int .i64 0, .int .i64 0, .int .i64 0, .int .i64 0, .int .i64 0, .int .i64 0] 61)).setRow w3.heap.size (V (ext ns)).toArray = w4; have A3 : Hid (Arr w4 w3.heap.size (V (ext ns)) 61) := Lib.hid (by rw [← hw4]; exact (Arr.new w3 (V zeros) _ rfl).row); have b1 : Below w3.heap.size w3 w4 := (by rw [← hw4]; exact arr.below_setRow ((Below.refl _ _).alloc (Nat.le_refl _) _) (Nat.le_refl _) _); have s4 := b1.size; replace A1 := Lib.hid (A1.out.keep b1 A1.out.lt); replace A2 := Lib.hid (A2.out.keep b1 A2.out.lt); replace B1 : Hid (Below w.heap.size w w4) := Lib.hid (B1.out.trans (b1.mono B1.out.size)); clear hw4 b1; have cc := gl_count (n := n) (ext_len r) (ext_len u) A2.out) | (refine wpList_load_row rfl 63 _ rfl w1.heap.size rfl 63 (V (gl (ext r) (ext u) n)).toArray (0, 0) _ A2.out Try.underlying63 rfl (size49 (gl_len (ext_len _) (ext_len _) _)) ?_) | (refine wpList_load_row rfl 61 _ rfl w3.heap.size rfl 61 (V (ext ns)).toArray (0, 0) _ A3.out Try.underlying61 rfl (size_V (ext_len _)) ?_))
        refine (renamed_any (ext r) (ext u) (ext ns) n _ HS.out.r.sq HS.out.u.sq HN.out.sq).mono ?_
        rintro e w5 ⟨rfl, b1⟩
        have s5 := b1.size
        replace A1 := Lib.hid (A1.out.keep b1 A1.out.lt)
        replace B1 := Lib.hid (B1.out.trans (b1.mono B1.out.size))
        clear b1 cc A2 A3
        go_wp2_with fail
        refine (surface_any _ _ n _ (ren24_len _ _) (ren24_len _ _) hn24).mono ?_
        rintro e w6 ⟨g, rfl, sg, b1⟩
        rw [take_ren24 HS.out.r HN.out L1.out LA.out, take_ren24 HS.out.u HN.out (by rw [HS.out.lu, L1.out]) LA.out] at sg
        have s6 := b1.size
        obtain ⟨P3, c3, Q3, d3, rfl⟩ := sg.lens (renTo_len _ _ _ _) (renTo_len _ _ _ _)
        replace A1 := Lib.hid (A1.out.keep b1 A1.out.lt)
        replace B1 := Lib.hid (B1.out.trans (b1.mono B1.out.size))
        have SG := Lib.hid sg
        clear b1 sg
        go_wp2_with (refine wpList_store_row rfl 25 _ _ rfl (w.heap.size + 1) #[.slice P3 n c3, .slice Q3 n d3] rfl rfl 25 #[.slice none 0 0, .slice none 0 0] A1.out size2 rfl (by simp [Value.oneCell']) ?_)
        exact bodyPost_ret (v := .tuple #[.agg #[.slice P3 n c3, .slice Q3 n d3], .bool true]) (permOf.results_cell_tmp rfl _ _ (w.heap.size + 1) 25 #[.slice P3 n c3, .slice Q3 n d3] (0, 0) _ _ rfl rfl A1.out.row Try.underlying25 rfl size2) rfl (by
          rw [Z1.out, Z2.out, Z3.out, L1.out]
          have := Svl.row SG.out (g := w.heap.size + 1) (by omega) #[.slice P3 n c3, .slice Q3 n d3]
          exact ⟨_, rfl, (by simpa using this.later (by omega)), below_setRow B1.out (by omega) _⟩)
      · obtain ⟨z1, z2, z3⟩ := rs_no (r := r) (u := u) (ns := ns) (fun h => he (by rw [← LA.out, h.2.2, L1.out]))
        have Z1 := Lib.hid z1; have Z2 := Lib.hid z2; have Z3 := Lib.hid z3
        have hne : ((a : Int) != (n : Int)) = true := by simp; omega
        clear hq oy z1 z2 z3
        rw [HP.out]
        go_wp2_with (first | (refine wpList_store_row rfl 61 _ _ rfl w3.heap.size (V (ext ns)).toArray rfl rfl 61 (V zeros).toArray (Arr.new w3 (V zeros) _ rfl) (size_V (ext_len _)) (by simp [V_len, ext_len, zeros]) (one_V _) ?_; generalize hw4 : (w3.alloc (.cells #[.int .i64 0, .int .i64 0, .int .i64 0, .int .i64 0, .int .i64 0, .int .i64 0, .int .i64 0, .int .i64 0, .int .i64 0, .int .i64 0, .int .i64 0, .int .i64 0, .int .i64 0, .int .i64 0, .int .i64 0, .int .i64 0, .int .i64 0, .int .i64 0, .int .i64 0, .int .i64 0, .int .i64 0, .int .i64 0, .int .i64 0, .int .i64 0] 61)).setRow w3.heap.size (V (ext ns)).toArray = w4; have A3 : Hid (Arr w4 w3.heap.size (V (ext ns)) 61) := Lib.hid (by rw [← hw4]; exact (Arr.new w3 (V zeros) _ rfl).row); have b1 : Below w3.heap.size w3 w4 := (by rw [← hw4]; exact arr.below_setRow ((Below.refl _ _).alloc (Nat.le_refl _) _) (Nat.le_refl _) _); have s4 := b1.size; replace A1 := Lib.hid (A1.out.keep b1 A1.out.lt); replace A2 := Lib.hid (A2.out.keep b1 A2.out.lt); replace B1 : Hid (Below w.heap.size w w4) := Lib.hid (B1.out.trans (b1.mono B1.out.size)); clear hw4 b1; have cc := gl_count (n := n) (ext_len r) (ext_len u) A2.out) | (refine wpList_build rfl 25 _ rfl [] rfl _ built2 ?_) | (refine wpList_store_row rfl 25 _ _ rfl (w.heap.size + 1) #[.slice none 0 0, .slice none 0 0] rfl rfl 25 #[.slice none 0 0, .slice none 0 0] A1.out size2 rfl (by simp [Value.oneCell']) ?_))
        exact bodyPost_ret (v := .tuple #[.agg #[.slice none 0 0, .slice none 0 0], .bool false]) (permOf.results_cell_tmp rfl _ _ (w.heap.size + 1) 25 #[.slice none 0 0, .slice none 0 0] (0, 0) _ _ rfl rfl A1.out.row Try.underlying25 rfl size2) rfl (sb_nil Z1.out Z2.out Z3.out (below_setRow B1.out (by omega) _))

    · have oy' : okB ns = false := by simpa using oy
      rw [oy']
      have HP : Hid (pv ns = zeros) := Lib.hid (by simp [pv, oy'])
      obtain ⟨z1, z2, z3⟩ := rs_no (r := r) (u := u) (ns := ns) (fun h => oy h.2.1)
      have Z1 := Lib.hid z1; have Z2 := Lib.hid z2; have Z3 := Lib.hid z3
      clear hq oy oy' z1 z2 z3
      rw [HP.out]
      go_wp2_with (first | (refine wpList_store_row rfl 61 _ _ rfl w3.heap.size (V zeros).toArray rfl rfl 61 (V zeros).toArray (Arr.new w3 (V zeros) _ rfl) (size_V zeros_len) (rfl) (one_V _) ?_; generalize hw4 : (w3.alloc (.cells #[.int .i64 0, .int .i64 0, .int .i64 0, .int .i64 0, .int .i64 0, .int .i64 0, .int .i64 0, .int .i64 0, .int .i64 0, .int .i64 0, .int .i64 0, .int .i64 0, .int .i64 0, .int .i64 0, .int .i64 0, .int .i64 0, .int .i64 0, .int .i64 0, .int .i64 0, .int .i64 0, .int .i64 0, .int .i64 0, .int .i64 0, .int .i64 0] 61)).setRow w3.heap.size (V zeros).toArray = w4; have A3 : Hid (Arr w4 w3.heap.size (V zeros) 61) := Lib.hid (by rw [← hw4]; exact (Arr.new w3 (V zeros) _ rfl).row); have b1 : Below w3.heap.size w3 w4 := (by rw [← hw4]; exact arr.below_setRow ((Below.refl _ _).alloc (Nat.le_refl _) _) (Nat.le_refl _) _); have s4 := b1.size; replace A1 := Lib.hid (A1.out.keep b1 A1.out.lt); replace A2 := Lib.hid (A2.out.keep b1 A2.out.lt); replace B1 : Hid (Below w.heap.size w w4) := Lib.hid (B1.out.trans (b1.mono B1.out.size)); clear hw4 b1) | (refine wpList_build rfl 25 _ rfl [] rfl _ built2 ?_) | (refine wpList_store_row rfl 25 _ _ rfl (w.heap.size + 1) #[.slice none 0 0, .slice none 0 0] rfl rfl 25 #[.slice none 0 0, .slice none 0 0] A1.out size2 rfl (by simp [Value.oneCell']) ?_))
      exact bodyPost_ret (v := .tuple #[.agg #[.slice none 0 0, .slice none 0 0], .bool false]) (permOf.results_cell_tmp rfl _ _ (w.heap.size + 1) 25 #[.slice none 0 0, .slice none 0 0] (0, 0) _ _ rfl rfl A1.out.row Try.underlying25 rfl size2) rfl (sb_nil Z1.out Z2.out Z3.out (below_setRow B1.out (by omega) _))

  · have hq' : transB r u = false := by simpa using hq
    rw [hq']
    obtain ⟨z1, z2, z3⟩ := rs_no (r := r) (u := u) (ns := ns) (fun h => hq h.1)
    have Z1 := Lib.hid z1; have Z2 := Lib.hid z2; have Z3 := Lib.hid z3
    clear hq hq' z1 z2 z3
    go_wp2_with (first | (refine wpList_store_row rfl 61 _ _ rfl w3.heap.size (V (pv ns)).toArray rfl rfl 61 (V zeros).toArray (Arr.new w3 (V zeros) _ rfl) (size_V (pv_len _)) (by simp [V_len, pv_len, zeros]) (one_V _) ?_; generalize hw4 : (w3.alloc (.cells #[.int .i64 0, .int .i64 0, .int .i64 0, .int .i64 0, .int .i64 0, .int .i64 0, .int .i64 0, .int .i64 0, .int .i64 0, .int .i64 0, .int .i64 0, .int .i64 0, .int .i64 0, .int .i64 0, .int .i64 0, .int .i64 0, .int .i64 0, .int .i64 0, .int .i64 0, .int .i64 0, .int .i64 0, .int .i64 0, .int .i64 0, .int .i64 0] 61)).setRow w3.heap.size (V (pv ns)).toArray = w4; have A3 : Hid (Arr w4 w3.heap.size (V (pv ns)) 61) := Lib.hid (by rw [← hw4]; exact (Arr.new w3 (V zeros) _ rfl).row); have b1 : Below w3.heap.size w3 w4 := (by rw [← hw4]; exact arr.below_setRow ((Below.refl _ _).alloc (Nat.le_refl _) _) (Nat.le_refl _) _); have s4 := b1.size; replace A1 := Lib.hid (A1.out.keep b1 A1.out.lt); replace A2 := Lib.hid (A2.out.keep b1 A2.out.lt); replace B1 : Hid (Below w.heap.size w w4) := Lib.hid (B1.out.trans (b1.mono B1.out.size)); clear hw4 b1) | (refine wpList_build rfl 25 _ rfl [] rfl _ built2 ?_) | (refine wpList_store_row rfl 25 _ _ rfl (w.heap.size + 1) #[.slice none 0 0, .slice none 0 0] rfl rfl 25 #[.slice none 0 0, .slice none 0 0] A1.out size2 rfl (by simp [Value.oneCell']) ?_))
    exact bodyPost_ret (v := .tuple #[.agg #[.slice none 0 0, .slice none 0 0], .bool false]) (permOf.results_cell_tmp rfl _ _ (w.heap.size + 1) 25 #[.slice none 0 0, .slice none 0 0] (0, 0) _ _ rfl rfl A1.out.row Try.underlying25 rfl size2) rfl (sb_nil Z1.out Z2.out Z3.out (below_setRow B1.out (by omega) _))

end Go.Proofs.Ytpafloeghbfdgaa.gl
