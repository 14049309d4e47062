/-
  CanonOf, CountSymmetries and AreIsomorphic of the program.
-/
import Derived.Test.YtgegkkbnmailaaaCn
import Derived.Test.YtgegkkbnmailaaaRi
namespace Go.Proofs.Ytgegkkbnmailaaa.gl
open Go.ChangeShapes Go.WideShapes Go.ChangeAt Go.RowKit
open Go.Proofs.Ytgegkkbnmailaaa.mem Go.Proofs.Ytgegkkbnmailaaa.ints Go.Proofs.Ytgegkkbnmailaaa.arr Go.Proofs.Ytgegkkbnmailaaa.pm Go.Proofs.Ytgegkkbnmailaaa.permOk Go.Proofs.Ytgegkkbnmailaaa.permOf Go.Proofs.Ytgegkkbnmailaaa.inv Go.Proofs.Ytgegkkbnmailaaa.fns Go.Proofs.Ytgegkkbnmailaaa.sf
set_option linter.unusedVariables false
set_option maxRecDepth 100000

/-- What CanonOf gives. -/
def cfR (r u : List Int) : List Int := if transB r u then (can r u r.length).1 else []
def cfU (r u : List Int) : List Int := if transB r u then (can r u r.length).2 else []
theorem can_len (r u : List Int) {n : Nat} (h : 0 < n) : (can r u n).1.length = n ∧ (can r u n).2.length = n := by
  obtain ⟨j, hj, e⟩ := can_is (R := r) (U := u) h
  rw [e]; exact Fm_len _ _ _ _
theorem cf_yes {r u : List Int} (h : transB r u = true) : cfR r u = (can r u r.length).1 ∧ cfU r u = (can r u r.length).2 := by simp [cfR, cfU, h]
theorem cf_no {r u : List Int} (h : transB r u = false) : cfR r u = [] ∧ cfU r u = [] := by simp [cfR, cfU, h]
theorem cfR_len (r u : List Int) : (cfR r u).length ≤ 1048576 := by
  unfold cfR; split
  · rename_i h; have s := transB_iff.1 h; rw [(can_len r u s.pos).1]; have := s.r.len; omega
  · simp
theorem cfU_len (r u : List Int) : (cfU r u).length ≤ 1048576 := by
  unfold cfU; split
  · rename_i h; have s := transB_iff.1 h; rw [(can_len r u s.pos).2]; have := s.r.len; omega
  · simp
def csF (r u : List Int) : Int := if transB r u then (sym r u r.length : Int) else 0
theorem cs_yes {r u : List Int} (h : transB r u = true) : csF r u = (sym r u r.length : Int) := by simp [csF, h]
theorem cs_no {r u : List Int} (h : transB r u = false) : csF r u = 0 := by simp [csF, h]

set_option maxHeartbeats 1000000 in
theorem cf_impl (v : Value) (r u : List Int) (hi : Nat) (w : World) (hx : Srd w hi v r u) (hn : r.length ≤ 1048576) (hm : u.length ≤ 1048576) :
    Calls Try.prog 17 #[v] w fun e w' => ∃ g, e = .returned (.tuple #[g, .bool (transB r u)]) ∧ Svl w' w.heap.size w'.heap.size g (cfR r u) (cfU r u) ∧ Below w.heap.size w w' := by
  have HX := Lib.hid hx
  obtain ⟨P, n, c, Q, m, d, rfl, q1, q2, e1, e2, ht, HR⟩ := hx.open
  have L1 := Lib.hid q1
  clear hx
  have N0 := Lib.hid (fun o => Arr.new (w.alloc o) [.slice none 0 0, .slice none 0 0] 25 (g := w.heap.size + 1) (by simp))
  go_enter Try.func17, Try.ntmps17
  go_wp2_with fail
  refine (gluingOf_any _ r u hi _ (HX.out.keep (((Below.refl hi w).alloc ht _).alloc (by simp; omega) _) (Nat.le_refl _)) hn hm).mono ?_
  rintro e w1 ⟨rfl, b1⟩
  have A1 := Lib.hid ((N0.out _).keep b1 (by simp))
  have hs1 : w.heap.size + 2 ≤ w1.heap.size := by have := b1.size; simpa using this
  have B1 : Hid (Below w.heap.size w w1) := Lib.hid ((((Below.refl _ _).alloc (Nat.le_refl _) _).alloc (by simp) _).trans (b1.mono (by simp <;> omega))); clear b1 N0
  cases hq : transB r u
  · obtain ⟨z1, z2⟩ := cf_no hq
    have Z1 := Lib.hid z1; have Z2 := Lib.hid z2; have HQ := Lib.hid hq; clear z1 z2
    go_wp2_with (first | (refine wpList_store_row rfl 62 _ _ rfl w1.heap.size (V (glv r u)).toArray rfl rfl 62 (V zero49).toArray (Arr.new w1 (V zero49) _ rfl) (size49 (glv_len _ _)) (by simp [V_len, glv_len, zero49]) (one_V _) ?_; generalize hw2 : (w1.alloc (.cells #[.int .i64 0, .int .i64 0, .int .i64 0, .int .i64 0, .int .i64 0, .int .i64 0, .int .i64 0, .int .i64 0, .int .i64 0, .int .i64 0, .int .i64 0, .int .i64 0, .int .i64 0, .int .i64 0, .int .i64 0, .int .i64 0, .int .i64 0, .int .i64 0, .int .i64 0, .int .i64 0, .int .i64 0, .int .i64 0, .int .i64 0, .int .i64 0, .int .i64 0, .int .i64 0, .int .i64 0, .int .i64 0, .int .i64 0, .int .i64 0, .int .i64 0, .int .i64 0, .int .i64 0, .int .i64 0, .int .i64 0, .int .i64 0, .int .i64 0, .int .i64 0, .int .i64 0, .int .i64 0, .int .i64 0, .int .i64 0, .int .i64 0, .int .i64 0, .int .i64 0, .int .i64 0, .int .i64 0, .int .i64 0, .int .i64 0] 62)).setRow w1.heap.size (V (glv r u)).toArray = w2; have A2 : Hid (Arr w2 w1.heap.size (V (glv r u)) 62) := Lib.hid (by rw [← hw2]; exact (Arr.new w1 (V zero49) _ rfl).row); have b1 : Below w1.heap.size w1 w2 := (by rw [← hw2]; exact arr.below_setRow ((Below.refl _ _).alloc (Nat.le_refl _) _) (Nat.le_refl _) _); have s2 := b1.size; replace A1 := Lib.hid (A1.out.keep b1 A1.out.lt); replace B1 : Hid (Below w.heap.size w w2) := Lib.hid (B1.out.trans (b1.mono B1.out.size)); clear hw2 b1) | (refine wpList_build rfl 25 _ rfl [] rfl _ built2 ?_) | (refine wpList_store_row rfl 25 _ _ rfl (w.heap.size + 1) #[.slice none 0 0, .slice none 0 0] rfl rfl 25 #[.slice none 0 0, .slice none 0 0] A1.out size2 rfl (by simp [Value.oneCell']) ?_))
    exact bodyPost_ret (v := .tuple #[.agg #[.slice none 0 0, .slice none 0 0], .bool false]) (permOf.results_cell_tmp rfl _ _ (w.heap.size + 1) 25 #[.slice none 0 0, .slice none 0 0] (0, 0) _ _ rfl rfl A1.out.row Try.underlying25 rfl size2) rfl (sb_nil Z1.out Z2.out HQ.out (below_setRow B1.out (by omega) _))
  · obtain ⟨z1, z2⟩ := cf_yes hq
    rw [L1.out] at z1 z2
    have Z1 := Lib.hid z1; have Z2 := Lib.hid z2; have HQ := Lib.hid hq; clear z1 z2
    have HS : Hid (Sf n r u) := Lib.hid (by have := transB_iff.1 hq; rwa [L1.out] at this)
    have HG : Hid (glv r u = gl (ext r) (ext u) n) := Lib.hid (by rw [glv_yes hq, L1.out])
    have hn24 : n ≤ 24 := by have := HS.out.r.len; rwa [L1.out] at this
    have CL := Lib.hid (can_len r u HS.out.pos)
    clear hq
    go_wp2_with (first | (refine wpList_store_row rfl 62 _ _ rfl w1.heap.size (V (glv r u)).toArray rfl rfl 62 (V zero49).toArray (Arr.new w1 (V zero49) _ rfl) (size49 (glv_len _ _)) (by simp [V_len, glv_len, zero49]) (one_V _) ?_; generalize hw2 : (w1.alloc (.cells #[.int .i64 0, .int .i64 0, .int .i64 0, .int .i64 0, .int .i64 0, .int .i64 0, .int .i64 0, .int .i64 0, .int .i64 0, .int .i64 0, .int .i64 0, .int .i64 0, .int .i64 0, .int .i64 0, .int .i64 0, .int .i64 0, .int .i64 0, .int .i64 0, .int .i64 0, .int .i64 0, .int .i64 0, .int .i64 0, .int .i64 0, .int .i64 0, .int .i64 0, .int .i64 0, .int .i64 0, .int .i64 0, .int .i64 0, .int .i64 0, .int .i64 0, .int .i64 0, .int .i64 0, .int .i64 0, .int .i64 0, .int .i64 0, .int .i64 0, .int .i64 0, .int .i64 0, .int .i64 0, .int .i64 0, .int .i64 0, .int .i64 0, .int .i64 0, .int .i64 0, .int .i64 0, .int .i64 0, .int .i64 0, .int .i64 0] 62)).setRow w1.heap.size (V (glv r u)).toArray = w2; have A2 : Hid (Arr w2 w1.heap.size (V (glv r u)) 62) := Lib.hid (by rw [← hw2]; exact (Arr.new w1 (V zero49) _ rfl).row); have b1 : Below w1.heap.size w1 w2 := (by rw [← hw2]; exact arr.below_setRow ((Below.refl _ _).alloc (Nat.le_refl _) _) (Nat.le_refl _) _); have s2 := b1.size; replace A1 := Lib.hid (A1.out.keep b1 A1.out.lt); replace B1 : Hid (Below w.heap.size w w2) := Lib.hid (B1.out.trans (b1.mono B1.out.size)); clear hw2 b1; rw [HG.out] at A2) | (refine wpList_load_row rfl 62 _ rfl w1.heap.size rfl 62 (V (gl (ext r) (ext u) n)).toArray (0, 0) _ A2.out Try.underlying62 rfl (size49 (gl_len (ext_len _) (ext_len _) _)) ?_) | fail)
    refine (canon_any r u n _ HS.out).mono ?_
    rintro e w3 ⟨B, D, mm, rfl, _, _, b1⟩
    replace A1 := Lib.hid (A1.out.keep b1 A1.out.lt)
    replace B1 := Lib.hid (B1.out.trans (b1.mono B1.out.size))
    have hs3 := b1.size
    clear b1 A2
    go_wp2_with (first | (refine wpList_store_row rfl 62 _ _ rfl w3.heap.size (V (cn r u n)).toArray rfl rfl 62 (V zero49).toArray (Arr.new w3 (V zero49) _ rfl) (size49 (cn_len _ _ _)) (by simp [V_len, cn_len, zero49]) (one_V _) ?_; generalize hw4 : (w3.alloc (.cells #[.int .i64 0, .int .i64 0, .int .i64 0, .int .i64 0, .int .i64 0, .int .i64 0, .int .i64 0, .int .i64 0, .int .i64 0, .int .i64 0, .int .i64 0, .int .i64 0, .int .i64 0, .int .i64 0, .int .i64 0, .int .i64 0, .int .i64 0, .int .i64 0, .int .i64 0, .int .i64 0, .int .i64 0, .int .i64 0, .int .i64 0, .int .i64 0, .int .i64 0, .int .i64 0, .int .i64 0, .int .i64 0, .int .i64 0, .int .i64 0, .int .i64 0, .int .i64 0, .int .i64 0, .int .i64 0, .int .i64 0, .int .i64 0, .int .i64 0, .int .i64 0, .int .i64 0, .int .i64 0, .int .i64 0, .int .i64 0, .int .i64 0, .int .i64 0, .int .i64 0, .int .i64 0, .int .i64 0, .int .i64 0, .int .i64 0] 62)).setRow w3.heap.size (V (cn r u n)).toArray = w4; have A3 : Hid (Arr w4 w3.heap.size (V (cn r u n)) 62) := Lib.hid (by rw [← hw4]; exact (Arr.new w3 (V zero49) _ rfl).row); have b1 : Below w3.heap.size w3 w4 := (by rw [← hw4]; exact arr.below_setRow ((Below.refl _ _).alloc (Nat.le_refl _) _) (Nat.le_refl _) _); have s4 := b1.size; replace A1 := Lib.hid (A1.out.keep b1 A1.out.lt); replace B1 := Lib.hid (B1.out.trans (b1.mono B1.out.size)); clear hw4 b1) | (refine wpList_load_row rfl 62 _ rfl w3.heap.size rfl 62 (V (cn r u n)).toArray (0, 0) _ A3.out Try.underlying62 rfl (size49 (cn_len _ _ _)) ?_) | fail)
    refine (surface_any (ext (can r u n).1) (ext (can r u n).2) n _ (ext_len _) (ext_len _) hn24).mono ?_
    rintro e w6 ⟨g, rfl, sg, b1⟩
    have t1 : (ext (can r u n).1).take n = (can r u n).1 := by have := ext_take (can r u n).1 (by rw [CL.out.1]; exact hn24); rwa [CL.out.1] at this
    have t2 : (ext (can r u n).2).take n = (can r u n).2 := by have := ext_take (can r u n).2 (by rw [CL.out.2]; exact hn24); rwa [CL.out.2] at this
    rw [t1, t2] at sg
    obtain ⟨P3, c3, Q3, d3, rfl⟩ := sg.lens CL.out.1 CL.out.2
    have hs6 := b1.size
    replace A1 := Lib.hid (A1.out.keep b1 A1.out.lt)
    replace B1 := Lib.hid (B1.out.trans (b1.mono B1.out.size))
    have SG := Lib.hid sg
    clear b1 sg t1 t2
    go_wp2_with (refine wpList_store_row rfl 25 _ _ rfl (w.heap.size + 1) #[.slice P3 n c3, .slice Q3 n d3] rfl rfl 25 #[.slice none 0 0, .slice none 0 0] A1.out size2 rfl (by simp [Value.oneCell']) ?_)
    exact bodyPost_ret (v := .tuple #[.agg #[.slice P3 n c3, .slice Q3 n d3], .bool true]) (permOf.results_cell_tmp rfl _ _ (w.heap.size + 1) 25 #[.slice P3 n c3, .slice Q3 n d3] (0, 0) _ _ rfl rfl A1.out.row Try.underlying25 rfl size2) rfl (by
      rw [Z1.out, Z2.out, HQ.out]
      have := Svl.row SG.out (g := w.heap.size + 1) (by omega) #[.slice P3 n c3, .slice Q3 n d3]
      exact ⟨_, rfl, (by simpa using this.later (by omega)), below_setRow B1.out (by omega) _⟩)

end Go.Proofs.Ytgegkkbnmailaaa.gl
