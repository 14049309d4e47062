/-
  The program's PathRounds and PathText.
-/
import Derived.Test.YtkkklpchkkdhfaaVa
import Derived.Test.YtkkklpchkkdhfaaShelf
namespace Go.Proofs.Ytkkklpchkkdhfaa.pth
open Go.ChangeShapes Go.WideShapes Go.ChangeAt Go.RowKit
open Go.Proofs.Ytkkklpchkkdhfaa.mem Go.Proofs.Ytkkklpchkkdhfaa.ints Go.Proofs.Ytkkklpchkkdhfaa.arr Go.Proofs.Ytkkklpchkkdhfaa.pm Go.Proofs.Ytkkklpchkkdhfaa.permOk Go.Proofs.Ytkkklpchkkdhfaa.permOf Go.Proofs.Ytkkklpchkkdhfaa.inv Go.Proofs.Ytkkklpchkkdhfaa.fns Go.Proofs.Ytkkklpchkkdhfaa.sf Go.Proofs.Ytkkklpchkkdhfaa.gl Go.Proofs.Ytkkklpchkkdhfaa.dr
set_option linter.unusedVariables false
set_option maxRecDepth 100000
set_option linter.unusedSimpArgs false
theorem rep_wd (L : List UInt8) (k : Nat) : (⟨(Lib.repeatL (wd L).data.toList k).toArray⟩ : ByteArray) = wd (rpL L k) := by
  have h : Lib.repeatL (wd L).data.toList k = rpL L k := by
    have e : (wd L).data.toList = L := by simp [wd]
    rw [e]
    induction k with
    | zero => rfl
    | succ k ih => rw [Lib.repeatL_add L k 1, ih]; simp [Lib.repeatL, rpL]
  rw [h]; rfl
theorem bw_len (r u : List Int) (i p q : Int) : (bwL r u i p q).length ≤ 12 := by
  unfold bwL
  cases h : okQ r u i p q
  · simp
  · obtain ⟨_, _, hs⟩ := okQ_facts h
    obtain ⟨a, b, rfl, rfl, hab, _⟩ := sl_nat hs
    rw [if_pos rfl, swL_len]
    simpa using hab

set_option maxHeartbeats 4000000 in
theorem pr_impl (v : Value) (r u : List Int) (i p q : Int) (hi : Nat) (w : World) (hx : Srd w hi v r u) (hn : r.length ≤ 1048576) (hm : u.length ≤ 1048576) (i0 : -9223372036854775808 ≤ i) (i1 : i ≤ 9223372036854775807) (p0 : -9223372036854775808 ≤ p) (p1 : p ≤ 9223372036854775807) (q0 : -9223372036854775808 ≤ q) (q1' : q ≤ 9223372036854775807) :
    Calls Try.prog 18 #[v, .int .i64 i, .int .i64 p, .int .i64 q] w fun e w' => e = .returned (.int .i64 (rdF r u i p q)) ∧ Below w.heap.size w w' := by
  have HX := Lib.hid hx; clear hx
  obtain ⟨P, n, c, Q, m, d, rfl, q1, q2, e1, e2, ht, HR⟩ := HX.out.open
  clear HR q1 q2
  have hK24 := rd_le r u i p q
  have hL12 := bw_len r u i p q
  go_enter Try.func18, Try.ntmps18
  go_wp2_with fail
  refine (pa_impl _ r u i p q hi _ (HX.out.keep ((Below.refl hi w).alloc ht _) (Nat.le_refl _)) hn hm i0 i1 p0 p1 q0 q1').mono ?_
  rintro e w1 ⟨G, A, c1, hG, hGo, rfl, o1, b1⟩
  have hs1 : w.heap.size + 1 ≤ w1.heap.size := by have := b1.size; simpa using this
  have B1 := Lib.hid (below1 _ _ b1)
  clear b1
  rw [bg_len]
  clear o1 hGo
  obtain ⟨K, hK⟩ : ∃ K, K = rdF r u i p q := ⟨_, rfl⟩
  have RK := Lib.hid hK
  rw [← hK] at hK24 ⊢
  clear hK
  generalize wd (bwL r u i p q) = W at *
  go_wp2_with (refine wpList_store_row rfl 66 _ _ rfl w1.heap.size (pL G W (.slice A K c1)).toArray rfl rfl 66 (pL zero49 (wd []) (.slice none 0 0)).toArray (Arr.new w1 (pL zero49 (wd []) (.slice none 0 0)) _ rfl) (sizeP hG _ _) (by rw [List.size_toArray, List.size_toArray, pL_len hG, pL_len zero49_len]) (oneP _ _ _ _ _) ?_; generalize hw_ : (w1.alloc (.cells #[.int .i64 0, .int .i64 0, .int .i64 0, .int .i64 0, .int .i64 0, .int .i64 0, .int .i64 0, .int .i64 0, .int .i64 0, .int .i64 0, .int .i64 0, .int .i64 0, .int .i64 0, .int .i64 0, .int .i64 0, .int .i64 0, .int .i64 0, .int .i64 0, .int .i64 0, .int .i64 0, .int .i64 0, .int .i64 0, .int .i64 0, .int .i64 0, .int .i64 0, .int .i64 0, .int .i64 0, .int .i64 0, .int .i64 0, .int .i64 0, .int .i64 0, .int .i64 0, .int .i64 0, .int .i64 0, .int .i64 0, .int .i64 0, .int .i64 0, .int .i64 0, .int .i64 0, .int .i64 0, .int .i64 0, .int .i64 0, .int .i64 0, .int .i64 0, .int .i64 0, .int .i64 0, .int .i64 0, .int .i64 0, .int .i64 0, .string ⟨#[]⟩, .slice none 0 0] 66)).setRow w1.heap.size (pL G W (.slice A K c1)).toArray = w2; have A2 : Hid (Arr w2 w1.heap.size (pL G W (.slice A K c1)) 66) := Lib.hid (by rw [← hw_]; exact (Arr.new w1 (pL zero49 (wd []) (.slice none 0 0)) _ rfl).row); have b2 : Below w1.heap.size w1 w2 := (by rw [← hw_]; exact arr.below_setRow ((Below.refl _ _).alloc (Nat.le_refl _) _) (Nat.le_refl _) _); have t_ : w1.heap.size + 1 ≤ w2.heap.size := (by rw [← hw_]; simp); clear hw_; replace B1 := Lib.hid (B1.out.trans (b2.mono B1.out.size)); have c49 := pL_word hG A2.out; have c50 := pL_begins hG A2.out)
  exact bodyPost_ret (v := .int .i64 (K : Int)) (by simp [results]) rfl ⟨by rw [RK.out], B1.out⟩

set_option maxHeartbeats 4000000 in
theorem pt_impl (v : Value) (r u : List Int) (i p q : Int) (hi : Nat) (w : World) (hx : Srd w hi v r u) (hn : r.length ≤ 1048576) (hm : u.length ≤ 1048576) (i0 : -9223372036854775808 ≤ i) (i1 : i ≤ 9223372036854775807) (p0 : -9223372036854775808 ≤ p) (p1 : p ≤ 9223372036854775807) (q0 : -9223372036854775808 ≤ q) (q1' : q ≤ 9223372036854775807) :
    Calls Try.prog 19 #[v, .int .i64 i, .int .i64 p, .int .i64 q] w fun e w' => e = .returned (.string (ptF r u i p q)) ∧ Below w.heap.size w w' := by
  have HX := Lib.hid hx; clear hx
  obtain ⟨P, n, c, Q, m, d, rfl, q1, q2, e1, e2, ht, HR⟩ := HX.out.open
  clear HR q1 q2
  have hK24 := rd_le r u i p q
  have hL12 := bw_len r u i p q
  go_enter Try.func19, Try.ntmps19
  go_wp2_with fail
  refine (pa_impl _ r u i p q hi _ (HX.out.keep ((Below.refl hi w).alloc ht _) (Nat.le_refl _)) hn hm i0 i1 p0 p1 q0 q1').mono ?_
  rintro e w1 ⟨G, A, c1, hG, hGo, rfl, o1, b1⟩
  have hs1 : w.heap.size + 1 ≤ w1.heap.size := by have := b1.size; simpa using this
  have B1 := Lib.hid (below1 _ _ b1)
  clear b1
  rw [bg_len]
  clear o1 hGo
  have PTE := Lib.hid (pt_bw r u i p q)
  generalize rdF r u i p q = K at *
  have hWs : (wd (bwL r u i p q)).size ≤ 12 := by rw [wd_size]; exact hL12
  have RW := Lib.hid (rep_wd (bwL r u i p q) K)
  obtain ⟨W, hW⟩ : ∃ W, W = wd (bwL r u i p q) := ⟨_, rfl⟩
  rw [← hW] at RW hWs ⊢
  clear hW
  go_wp2_with (refine wpList_store_row rfl 66 _ _ rfl w1.heap.size (pL G W (.slice A K c1)).toArray rfl rfl 66 (pL zero49 (wd []) (.slice none 0 0)).toArray (Arr.new w1 (pL zero49 (wd []) (.slice none 0 0)) _ rfl) (sizeP hG _ _) (by rw [List.size_toArray, List.size_toArray, pL_len hG, pL_len zero49_len]) (oneP _ _ _ _ _) ?_; generalize hw_ : (w1.alloc (.cells #[.int .i64 0, .int .i64 0, .int .i64 0, .int .i64 0, .int .i64 0, .int .i64 0, .int .i64 0, .int .i64 0, .int .i64 0, .int .i64 0, .int .i64 0, .int .i64 0, .int .i64 0, .int .i64 0, .int .i64 0, .int .i64 0, .int .i64 0, .int .i64 0, .int .i64 0, .int .i64 0, .int .i64 0, .int .i64 0, .int .i64 0, .int .i64 0, .int .i64 0, .int .i64 0, .int .i64 0, .int .i64 0, .int .i64 0, .int .i64 0, .int .i64 0, .int .i64 0, .int .i64 0, .int .i64 0, .int .i64 0, .int .i64 0, .int .i64 0, .int .i64 0, .int .i64 0, .int .i64 0, .int .i64 0, .int .i64 0, .int .i64 0, .int .i64 0, .int .i64 0, .int .i64 0, .int .i64 0, .int .i64 0, .int .i64 0, .string ⟨#[]⟩, .slice none 0 0] 66)).setRow w1.heap.size (pL G W (.slice A K c1)).toArray = w2; have A2 : Hid (Arr w2 w1.heap.size (pL G W (.slice A K c1)) 66) := Lib.hid (by rw [← hw_]; exact (Arr.new w1 (pL zero49 (wd []) (.slice none 0 0)) _ rfl).row); have b2 : Below w1.heap.size w1 w2 := (by rw [← hw_]; exact arr.below_setRow ((Below.refl _ _).alloc (Nat.le_refl _) _) (Nat.le_refl _) _); have t_ : w1.heap.size + 1 ≤ w2.heap.size := (by rw [← hw_]; simp); clear hw_; replace B1 := Lib.hid (B1.out.trans (b2.mono B1.out.size)); have c49 := pL_word hG A2.out; have c50 := pL_begins hG A2.out)
  clear HX c49 c50
  refine (Try.strings_Repeat W K _ (by omega) (by have := Nat.mul_le_mul hWs hK24; omega)).mono ?_
  rintro e w3 ⟨rfl, b3⟩
  rw [RW.out]
  replace B1 := Lib.hid (B1.out.trans (b3.mono B1.out.size))
  go_wp2_with fail
  exact bodyPost_ret (v := .string (wd (rpL (bwL r u i p q) K))) (by simp [results]) rfl ⟨by rw [PTE.out], B1.out⟩
end Go.Proofs.Ytkkklpchkkdhfaa.pth
