/-
  RowsOf: what it answers; contracts of the specification's and of the program's.
-/
import Derived.Test.YtglpiopjhddoeaaAs
import Derived.Test.YtglpiopjhddoeaaLp
namespace Go.Proofs.Ytglpiopjhddoeaa.cy
open Go.ChangeShapes Go.WideShapes Go.ChangeAt Go.RowKit
open Go.Proofs.Ytglpiopjhddoeaa.mem Go.Proofs.Ytglpiopjhddoeaa.ints Go.Proofs.Ytglpiopjhddoeaa.arr Go.Proofs.Ytglpiopjhddoeaa.pm Go.Proofs.Ytglpiopjhddoeaa.permOk Go.Proofs.Ytglpiopjhddoeaa.permOf Go.Proofs.Ytglpiopjhddoeaa.inv Go.Proofs.Ytglpiopjhddoeaa.fns Go.Proofs.Ytglpiopjhddoeaa.sf Go.Proofs.Ytglpiopjhddoeaa.mat Go.Proofs.Ytglpiopjhddoeaa.gl Go.Proofs.Ytglpiopjhddoeaa.lp
set_option linter.unusedVariables false
set_option maxRecDepth 100000

def rowF (r u : List Int) : List (List Int) := if transB r u then cycF r else []
theorem rowF_yes {r u : List Int} (h : transB r u = true) : rowF r u = cycF r := by simp [rowF, h]
theorem rowF_no {r u : List Int} (h : transB r u = false) : rowF r u = [] := by simp [rowF, h]
theorem rowF_bnd (r u : List Int) : (rowF r u).length ≤ 1048576 ∧ tot (rowF r u) ≤ 1048576 := by
  unfold rowF
  split
  · exact cycF_small r
  · simp [tot]
theorem cycF_gl {r u : List Int} {n : Nat} (h : transB r u = true) (hn : r.length = n) : cycF r = cso (ext r) n n := by
  have s := transB_iff.1 h
  rw [← hn, cycF_ext s.r, cycF, s.r.b, if_pos rfl]

set_option maxHeartbeats 1000000 in
theorem ro_spec (v : Value) (r u : List Int) (hi : Nat) (w : World) (hx : Srd w hi v r u) (hn : r.length ≤ 1048576) (hm : u.length ≤ 1048576) :
    Calls Try.prog 16 #[v] w (MGives (rowF r u) w) := by
  have HX := Lib.hid hx; clear hx
  obtain ⟨P, n, c, Q, m, d, rfl, q1, q2, e1, e2, ht, HR⟩ := HX.out.open
  go_enter Try.func16, Try.ntmps16
  go_wp2_with fail
  refine (ok_spec _ r u hi _ (HX.out.keep ((Below.refl hi w).alloc ht _) (Nat.le_refl _)) hn hm).mono ?_
  rintro e w1 ⟨rfl, b1⟩
  have A0 := Lib.hid ((Arr.new w [.slice P n c, .slice Q m d] 25 rfl).keep b1 (by simp))
  have c0 := A0.out.cell (k := 0) rfl
  have c1 := A0.out.cell (k := 1) rfl
  have B1 := Lib.hid (below1 _ _ b1); clear b1
  have X1 : Hid (Srd w1 hi (.agg #[.slice P n c, .slice Q m d]) r u) := Lib.hid (HX.out.keep (B1.out.mono ht) (Nat.le_refl _))
  cases hq : transB r u
  · have HF := Lib.hid (rowF_no hq); clear hq
    go_wp2_with fail
    go_ret
    exact mgives_eq HF.out (mgives_nil B1.out)
  · have HF := Lib.hid (rowF_yes hq); clear hq
    go_wp2_with fail
    refine (cyc_spec P n c r hi _ (Srd.fst X1.out) (by omega) e1).mono ?_
    rintro e w3 hg
    obtain ⟨P3, c3, rfl, o3, b3⟩ := mgives_eq HF.out (mgives_later B1.out hg)
    have O3 := Lib.hid o3; have B3 := Lib.hid b3; clear o3 b3 hg
    go_wp2_with fail
    go_ret
    exact ⟨P3, c3, rfl, O3.out, B3.out⟩

set_option maxHeartbeats 2000000 in
theorem ro_impl (v : Value) (r u : List Int) (hi : Nat) (w : World) (hx : Srd w hi v r u) (hn : r.length ≤ 1048576) (hm : u.length ≤ 1048576) :
    Calls Try.prog 11 #[v] w (MGives (rowF r u) w) := by
  have HX := Lib.hid hx; clear hx
  obtain ⟨P, n, c, Q, m, d, rfl, q1, q2, e1, e2, ht, HR⟩ := HX.out.open
  have L1 := Lib.hid q1
  clear HR
  go_enter Try.func11, Try.ntmps11
  go_wp2_with fail
  refine (gluingOf_any _ r u hi _ (HX.out.keep ((Below.refl hi w).alloc ht _) (Nat.le_refl _)) hn hm).mono ?_
  rintro e w1 ⟨rfl, b1⟩
  have B1 := Lib.hid (below1 _ _ b1); clear b1
  cases hq : transB r u
  · have HF := Lib.hid (rowF_no hq); clear hq
    go_wp2_with (refine wpList_store_row rfl 63 _ _ rfl w1.heap.size (V (glv r u)).toArray rfl rfl 63 (V zero49).toArray (Arr.new w1 (V zero49) _ rfl) (size49 (glv_len _ _)) (by simp [V_len, glv_len, zero49]) (one_V _) ?_; generalize hw_ : (w1.alloc (.cells #[.int .i64 0, .int .i64 0, .int .i64 0, .int .i64 0, .int .i64 0, .int .i64 0, .int .i64 0, .int .i64 0, .int .i64 0, .int .i64 0, .int .i64 0, .int .i64 0, .int .i64 0, .int .i64 0, .int .i64 0, .int .i64 0, .int .i64 0, .int .i64 0, .int .i64 0, .int .i64 0, .int .i64 0, .int .i64 0, .int .i64 0, .int .i64 0, .int .i64 0, .int .i64 0, .int .i64 0, .int .i64 0, .int .i64 0, .int .i64 0, .int .i64 0, .int .i64 0, .int .i64 0, .int .i64 0, .int .i64 0, .int .i64 0, .int .i64 0, .int .i64 0, .int .i64 0, .int .i64 0, .int .i64 0, .int .i64 0, .int .i64 0, .int .i64 0, .int .i64 0, .int .i64 0, .int .i64 0, .int .i64 0, .int .i64 0] 63)).setRow w1.heap.size (V (glv r u)).toArray = w2; have A2 : Hid (Arr w2 w1.heap.size (V (glv r u)) 63) := Lib.hid (by rw [← hw_]; exact (Arr.new w1 (V zero49) _ rfl).row); have b1 : Below w1.heap.size w1 w2 := (by rw [← hw_]; exact arr.below_setRow ((Below.refl _ _).alloc (Nat.le_refl _) _) (Nat.le_refl _) _); have t_ : w1.heap.size + 1 ≤ w2.heap.size := (by rw [← hw_]; simp); clear hw_; replace B1 := Lib.hid (B1.out.trans (b1.mono B1.out.size)); clear b1)
    go_ret
    exact mgives_eq HF.out (mgives_nil B1.out)
  · have HS : Hid (Sf n r u) := Lib.hid (by have := transB_iff.1 hq; rwa [L1.out] at this)
    have HF : Hid (rowF r u = cso (ext r) n n) := Lib.hid (by rw [rowF_yes hq, cycF_gl hq L1.out])
    have HG : Hid (glv r u = gl (ext r) (ext u) n) := Lib.hid (by rw [glv_yes hq, L1.out])
    have hn24 : n ≤ 24 := HS.out.small
    have HB : Hid (Bij n (ext r)) := Lib.hid (by have := HS.out.r.bijExt; rwa [HS.out.lr] at this)
    clear hq
    rw [HG.out]
    go_wp2_with (first | (refine wpList_store_row rfl 63 _ _ rfl w1.heap.size (V (gl (ext r) (ext u) n)).toArray rfl rfl 63 (V zero49).toArray (Arr.new w1 (V zero49) _ rfl) (size49 (gl_len (ext_len _) (ext_len _) n)) (by simp [V_len, gl_len, ext_len, zero49]) (one_V _) ?_; generalize hw_ : (w1.alloc (.cells #[.int .i64 0, .int .i64 0, .int .i64 0, .int .i64 0, .int .i64 0, .int .i64 0, .int .i64 0, .int .i64 0, .int .i64 0, .int .i64 0, .int .i64 0, .int .i64 0, .int .i64 0, .int .i64 0, .int .i64 0, .int .i64 0, .int .i64 0, .int .i64 0, .int .i64 0, .int .i64 0, .int .i64 0, .int .i64 0, .int .i64 0, .int .i64 0, .int .i64 0, .int .i64 0, .int .i64 0, .int .i64 0, .int .i64 0, .int .i64 0, .int .i64 0, .int .i64 0, .int .i64 0, .int .i64 0, .int .i64 0, .int .i64 0, .int .i64 0, .int .i64 0, .int .i64 0, .int .i64 0, .int .i64 0, .int .i64 0, .int .i64 0, .int .i64 0, .int .i64 0, .int .i64 0, .int .i64 0, .int .i64 0, .int .i64 0] 63)).setRow w1.heap.size (V (gl (ext r) (ext u) n)).toArray = w2; have A2 : Hid (Arr w2 w1.heap.size (V (gl (ext r) (ext u) n)) 63) := Lib.hid (by rw [← hw_]; exact (Arr.new w1 (V zero49) _ rfl).row); have b1 : Below w1.heap.size w1 w2 := (by rw [← hw_]; exact arr.below_setRow ((Below.refl _ _).alloc (Nat.le_refl _) _) (Nat.le_refl _) _); have t_ : w1.heap.size + 1 ≤ w2.heap.size := (by rw [← hw_]; simp); clear hw_; replace B1 := Lib.hid (B1.out.trans (b1.mono B1.out.size)); clear b1; have hct := gl_count (ext_len r) (ext_len u) A2.out) | (refine wpList_load_part rfl 61 (.tmp 12) rfl w1.heap.size 0 rfl (V (ext r)) _ (fun j v hv => gl_right (ext_len r) A2.out j v hv) Try.underlying61 rfl (by rw [size_V (ext_len r)]; simp) ?_))
    refine (cycles_any (ext r) n _ (ext_len _) HB.out hn24).mono ?_
    rintro e w4 hg
    obtain ⟨P3, c3, rfl, o3, b3⟩ := mgives_eq HF.out (mgives_later B1.out hg)
    have O3 := Lib.hid o3; have BB := Lib.hid b3; clear o3 b3 hg
    go_wp2_with fail
    go_ret
    exact ⟨P3, c3, rfl, O3.out, BB.out⟩
end Go.Proofs.Ytglpiopjhddoeaa.cy
