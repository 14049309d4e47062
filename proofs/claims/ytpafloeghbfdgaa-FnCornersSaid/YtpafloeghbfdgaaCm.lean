/-
  Contract of the program's CornersOf.
-/
import Derived.Test.YtpafloeghbfdgaaCl
import Derived.Test.YtpafloeghbfdgaaAs
namespace Go.Proofs.Ytpafloeghbfdgaa.gl
open Go.ChangeShapes Go.WideShapes Go.ChangeAt Go.RowKit
open Go.Proofs.Ytpafloeghbfdgaa.mem Go.Proofs.Ytpafloeghbfdgaa.ints Go.Proofs.Ytpafloeghbfdgaa.arr Go.Proofs.Ytpafloeghbfdgaa.pm Go.Proofs.Ytpafloeghbfdgaa.permOk Go.Proofs.Ytpafloeghbfdgaa.permOf Go.Proofs.Ytpafloeghbfdgaa.inv Go.Proofs.Ytpafloeghbfdgaa.fns Go.Proofs.Ytpafloeghbfdgaa.sf Go.Proofs.Ytpafloeghbfdgaa.mat Go.Proofs.Ytpafloeghbfdgaa.rf
set_option linter.unusedVariables false
set_option maxRecDepth 100000

theorem cso_pos {n : Nat} {ps : List Int} (hb : Bij n ps) : ∀ c ∈ cso ps n n, 0 < c.length := by
  intro c hc
  obtain ⟨i, hi, rfl⟩ := cso_cyc n (Nat.le_refl _) c hc
  exact (cyc_way (f := (i : Int)) hb (by omega) (by omega)).pos
theorem cso_le {n : Nat} {ps : List Int} (hb : Bij n ps) : (cso ps n n).length ≤ n := (cso_cs hb n (Nat.le_refl _)).len

set_option maxHeartbeats 2000000 in
theorem co_impl0 (v : Value) (r u : List Int) (hi : Nat) (w : World) (hx : Srd w hi v r u) (hn : r.length ≤ 1048576) (hm : u.length ≤ 1048576) :
    Calls Try.prog 16 #[v] w (MGives (corF r u) w) := by
  have HX := Lib.hid hx; clear hx
  obtain ⟨P, n, c, Q, m, d, rfl, q1, q2, e1, e2, ht, HR⟩ := HX.out.open
  have L1 := Lib.hid q1
  clear HR
  go_enter Try.func16, Try.ntmps16
  go_wp2_with fail
  refine (gluingOf_any _ r u hi _ (HX.out.keep ((Below.refl hi w).alloc ht _) (Nat.le_refl _)) hn hm).mono ?_
  rintro e w1 ⟨rfl, b1⟩
  have B1 := Lib.hid (below1 _ _ b1); clear b1

  cases hq : transB r u
  · have HF := Lib.hid (corF_no hq); clear hq
    go_wp2_with (refine wpList_store_row rfl 63 _ _ rfl w1.heap.size (V (glv r u)).toArray rfl rfl 63 (V zero49).toArray (Arr.new w1 (V zero49) _ rfl) (size49 (glv_len _ _)) (by simp [V_len, glv_len, zero49]) (one_V _) ?_; generalize hw_ : (w1.alloc (.cells #[.int .i64 0, .int .i64 0, .int .i64 0, .int .i64 0, .int .i64 0, .int .i64 0, .int .i64 0, .int .i64 0, .int .i64 0, .int .i64 0, .int .i64 0, .int .i64 0, .int .i64 0, .int .i64 0, .int .i64 0, .int .i64 0, .int .i64 0, .int .i64 0, .int .i64 0, .int .i64 0, .int .i64 0, .int .i64 0, .int .i64 0, .int .i64 0, .int .i64 0, .int .i64 0, .int .i64 0, .int .i64 0, .int .i64 0, .int .i64 0, .int .i64 0, .int .i64 0, .int .i64 0, .int .i64 0, .int .i64 0, .int .i64 0, .int .i64 0, .int .i64 0, .int .i64 0, .int .i64 0, .int .i64 0, .int .i64 0, .int .i64 0, .int .i64 0, .int .i64 0, .int .i64 0, .int .i64 0, .int .i64 0, .int .i64 0] 63)).setRow w1.heap.size (V (glv r u)).toArray = w2; have A2 : Hid (Arr w2 w1.heap.size (V (glv r u)) 63) := Lib.hid (by rw [← hw_]; exact (Arr.new w1 (V zero49) _ rfl).row); have b1 : Below w1.heap.size w1 w2 := (by rw [← hw_]; exact arr.below_setRow ((Below.refl _ _).alloc (Nat.le_refl _) _) (Nat.le_refl _) _); have t_ : w1.heap.size + 1 ≤ w2.heap.size := (by rw [← hw_]; simp); clear hw_; replace B1 := Lib.hid (B1.out.trans (b1.mono B1.out.size)); clear b1)
    go_ret
    exact mgives_eq HF.out (mgives_nil B1.out)
  · have HS : Hid (Sf n r u) := Lib.hid (by have := transB_iff.1 hq; rwa [L1.out] at this)
    have HF : Hid (corF r u = cso (comm r u) n n) := Lib.hid (by rw [corF_yes hq, L1.out])
    have HG : Hid (glv r u = gl (ext r) (ext u) n) := Lib.hid (by rw [glv_yes hq, L1.out])
    have hn24 : n ≤ 24 := HS.out.small
    have hcl : (cso (comm r u) n n).length ≤ 1048576 := by have := cso_le HS.out.commB; omega
    clear hq
    rw [HG.out]
    go_wp2_with (first | (refine wpList_store_row rfl 63 _ _ rfl w1.heap.size (V (gl (ext r) (ext u) n)).toArray rfl rfl 63 (V zero49).toArray (Arr.new w1 (V zero49) _ rfl) (size49 (gl_len (ext_len _) (ext_len _) n)) (by simp [V_len, gl_len, ext_len, zero49]) (one_V _) ?_; generalize hw_ : (w1.alloc (.cells #[.int .i64 0, .int .i64 0, .int .i64 0, .int .i64 0, .int .i64 0, .int .i64 0, .int .i64 0, .int .i64 0, .int .i64 0, .int .i64 0, .int .i64 0, .int .i64 0, .int .i64 0, .int .i64 0, .int .i64 0, .int .i64 0, .int .i64 0, .int .i64 0, .int .i64 0, .int .i64 0, .int .i64 0, .int .i64 0, .int .i64 0, .int .i64 0, .int .i64 0, .int .i64 0, .int .i64 0, .int .i64 0, .int .i64 0, .int .i64 0, .int .i64 0, .int .i64 0, .int .i64 0, .int .i64 0, .int .i64 0, .int .i64 0, .int .i64 0, .int .i64 0, .int .i64 0, .int .i64 0, .int .i64 0, .int .i64 0, .int .i64 0, .int .i64 0, .int .i64 0, .int .i64 0, .int .i64 0, .int .i64 0, .int .i64 0] 63)).setRow w1.heap.size (V (gl (ext r) (ext u) n)).toArray = w2; have A2 : Hid (Arr w2 w1.heap.size (V (gl (ext r) (ext u) n)) 63) := Lib.hid (by rw [← hw_]; exact (Arr.new w1 (V zero49) _ rfl).row); have b1 : Below w1.heap.size w1 w2 := (by rw [← hw_]; exact arr.below_setRow ((Below.refl _ _).alloc (Nat.le_refl _) _) (Nat.le_refl _) _); have t_ : w1.heap.size + 1 ≤ w2.heap.size := (by rw [← hw_]; simp); clear hw_; replace B1 := Lib.hid (B1.out.trans (b1.mono B1.out.size)); clear b1) | (refine wpList_load_row rfl 63 (.tmp 3) rfl w1.heap.size rfl 63 (V (gl (ext r) (ext u) n)).toArray (0, 0) _ A2.out Try.underlying63 rfl (size49 (gl_len (ext_len _) (ext_len _) n)) ?_))
    refine (corners_any (ext r) (ext u) n _ (ext_len _) (ext_len _)).mono ?_
    rintro e w3 ⟨rfl, rfl⟩
    have A3 := Arr.new w2 (V (gl (ext r) (ext u) n)) 63 rfl
    have SQ := Lib.hid (corners_seq r u n w2.heap.size _ HS.out A3)
    have B3 := Lib.hid (B1.out.alloc B1.out.size (.cells (V (gl (ext r) (ext u) n)).toArray 63))
    clear A3 A2
    go_wp2_with fail
    refine (collect_any _ _ w2.heap.size _ _ hcl (cso_pos HS.out.commB) corners_enters SQ.out (by simp)).mono ?_
    rintro e w4 hg
    obtain ⟨P3, c3, rfl, o3, b3⟩ := mgives_eq HF.out (mgives_later B3.out hg)
    have O3 := Lib.hid o3; have BB := Lib.hid b3; clear o3 b3 hg
    go_wp2_with fail
    go_ret
    exact ⟨P3, c3, rfl, O3.out, BB.out⟩

theorem co_impl (v : Value) (r u : List Int) (hi : Nat) (w : World) (hx : Srd w hi v r u) (hn : r.length ≤ 1048576) (hm : u.length ≤ 1048576) :
    Calls Try.prog 16 #[v] w fun e w' => ∃ A c, e = .returned (.slice A (corF r u).length c) ∧ Mat w' w.heap.size w'.heap.size A (corF r u).length (corF r u) ∧ Below w.heap.size w w' :=
  co_impl0 v r u hi w hx hn hm

theorem corF_bnd (r u : List Int) : (corF r u).length ≤ 1048576 ∧ tot (corF r u) ≤ 1048576 := by
  have := corF_small r u
  exact ⟨by omega, by have := this.2; unfold tot; omega⟩end Go.Proofs.Ytpafloeghbfdgaa.gl
