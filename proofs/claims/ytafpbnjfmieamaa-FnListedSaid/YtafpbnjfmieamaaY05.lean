import Derived.Test.YtafpbnjfmieamaaY04
import Derived.Test.YtafpbnjfmieamaaY01
import Derived.Test.YtafpbnjfmieamaaY03
import Derived.RegionTactic
import Derived.BigRegion
/-
  Contracts of IsTransitive, of the model and of the program.
-/
namespace Go.Proofs.Ytafpbnjfmieamaa.fns
open Go.ChangeShapes Go.WideShapes Go.ChangeAt Go.RowKit
open Go.Proofs.Ytafpbnjfmieamaa.mem Go.Proofs.Ytafpbnjfmieamaa.ints Go.Proofs.Ytafpbnjfmieamaa.arr Go.Proofs.Ytafpbnjfmieamaa.pm Go.Proofs.Ytafpbnjfmieamaa.permOk Go.Proofs.Ytafpbnjfmieamaa.permOf Go.Proofs.Ytafpbnjfmieamaa.inv
set_option linter.unusedVariables false
set_option maxRecDepth 100000

theorem wpList_load_row_g {P : Program} {ops : Array Oper} {rest : List Oper} {o : Oper} {a : Act} {w : World} {Q : Exit → Act → World → Prop} (hw : Region.wanted o (yielded ops a.tmps) = true) (ty : TypeId) (x : Operand) (ho : o.op = .load ty x)
    (g : Nat) (hx : a.eval x = .pointer (some ⟨g, 0, none⟩)) (t : TypeId) (cs : Array Value) (fr : Nat × Nat) (d : TypeDesc) (hg : w.heap[g]? = some (.cells cs t fr))
    (hu : P.underlying ty = some d) (hd : (match d with | .struct _ | .array _ _ => true | _ => false) = true) (hi : (P.info? ty).map (·.size) = some cs.size)
    (h : wpList P ops Q rest (a.put o.dst (.agg cs)) w) : wpList P ops Q (o :: rest) a w :=
  wpList_step fun K hK => by rw [if_pos hw]; exact wp_load_row ty x ho g hx t cs fr d hg hu hd hi (hK _ _ h)
set_option maxHeartbeats 1000000 in
theorem trans_spec (A : Option Addr) (n c : Nat) (xs : List Int) (B : Option Addr) (m d : Nat) (ys : List Int) (h1 h2 : Nat) (w : World) (hx : Rd w h1 A n (V xs)) (hy : Rd w h2 B m (V ys)) (hn : n ≤ 1048576) (hm : m ≤ 1048576) (hc : n ≤ c) (hd : m ≤ d) :
    Calls Try.prog 67 #[.slice A n c, .slice B m d] w fun e w' => e = .returned (.bool (transB xs ys)) ∧ Below w.heap.size w w' := by
  have lx : xs.length = n := by simpa [V] using hx.1
  have ly : ys.length = m := by simpa [V] using hy.1
  have LX := Lib.hid lx; have LY := Lib.hid ly; clear lx ly
  have HX := Lib.hid hx; have HY := Lib.hid hy; clear hx hy
  by_cases ox : okB xs = true
  · by_cases oy : okB ys = true
    · by_cases hnm : n = m
      · subst hnm
        by_cases hn0 : 0 < n
        · have OX := Lib.hid (Ok.of xs ox); have OY := Lib.hid (Ok.of ys oy)
          have R : Hid (transB xs ys = decide ((reach xs ys 0).length = n)) := Lib.hid (by simp [transB, okBB, ox, oy, LX.out, LY.out, hn0])
          have HOX := Lib.hid ox; have HOY := Lib.hid oy; clear ox oy
          go_enter Try.func67, Try.ntmps67
          go_wp2_with fail
          refine (permOk.spec_any A n c xs _ _ HX.out hn hc).mono ?_
          rintro e w1 ⟨rfl, rfl⟩
          rw [HOX.out]
          go_wp2_with fail
          refine (permOk.spec_any B n d ys _ _ HY.out hm hd).mono ?_
          rintro e w1 ⟨rfl, rfl⟩
          rw [HOY.out]
          go_wp2_with fail
          refine (reach_any A n c B n d xs ys 0 _ _ _ HX.out HY.out OX.out OY.out rfl (by omega) (by omega)).mono ?_
          rintro e w3 ⟨v, rfl, ho, hb⟩
          obtain ⟨C, cc, rfl⟩ := own_form ho
          have HB := Lib.hid hb; clear ho hb
          have HLN : Hid ((reach xs ys 0).length = (reach xs ys 0).length) := Lib.hid rfl
          generalize (reach xs ys 0).length = r at *
          by_cases hr : r = n
          · subst hr
            go_wp2_with fail
            go_ret
            exact ⟨ret_bool (by rw [R.out]; simp), HB.out⟩
          · have hq : ((r : Int) == (n : Int)) = false := by simp; omega
            have HR := Lib.hid hr; clear hr
            go_wp2_with fail
            go_ret
            exact ⟨ret_bool (by rw [R.out, decide_eq_false HR.out]), HB.out⟩
        · obtain rfl : n = 0 := by omega
          have R : Hid (transB xs ys = false) := Lib.hid (by simp [transB, LX.out])
          have HOX := Lib.hid ox; have HOY := Lib.hid oy; clear ox oy
          go_enter Try.func67, Try.ntmps67
          go_wp2_with fail
          refine (permOk.spec_any A 0 c xs _ _ HX.out hn hc).mono ?_
          rintro e w1 ⟨rfl, rfl⟩
          rw [HOX.out]
          go_wp2_with fail
          refine (permOk.spec_any B 0 d ys _ _ HY.out hm hd).mono ?_
          rintro e w1 ⟨rfl, rfl⟩
          rw [HOY.out]
          go_wp2_with fail
          go_ret
          exact ⟨ret_bool R.out.symm, Below.refl _ _⟩
      · have R : Hid (transB xs ys = false) := Lib.hid (by simp [transB, okBB, LX.out, LY.out, hnm])
        have hb : ((n : Int) == (m : Int)) = false := by simp; omega
        have HOX := Lib.hid ox; have HOY := Lib.hid oy; clear ox oy hnm
        go_enter Try.func67, Try.ntmps67
        go_wp2_with fail
        refine (permOk.spec_any A n c xs _ _ HX.out hn hc).mono ?_
        rintro e w1 ⟨rfl, rfl⟩
        rw [HOX.out]
        go_wp2_with fail
        refine (permOk.spec_any B m d ys _ _ HY.out hm hd).mono ?_
        rintro e w1 ⟨rfl, rfl⟩
        rw [HOY.out]
        go_wp2_with fail
        go_ret
        exact ⟨ret_bool R.out.symm, Below.refl _ _⟩
    · have oy' : okB ys = false := by simpa using oy
      have R : Hid (transB xs ys = false) := Lib.hid (by simp [transB, okBB, oy'])
      have HOX := Lib.hid ox; have HOY := Lib.hid oy'; clear ox oy oy'
      go_enter Try.func67, Try.ntmps67
      go_wp2_with fail
      refine (permOk.spec_any A n c xs _ _ HX.out hn hc).mono ?_
      rintro e w1 ⟨rfl, rfl⟩
      rw [HOX.out]
      go_wp2_with fail
      refine (permOk.spec_any B m d ys _ _ HY.out hm hd).mono ?_
      rintro e w1 ⟨rfl, rfl⟩
      rw [HOY.out]
      go_wp2_with fail
      go_ret
      exact ⟨ret_bool R.out.symm, Below.refl _ _⟩
  · have ox' : okB xs = false := by simpa using ox
    have R : Hid (transB xs ys = false) := Lib.hid (by simp [transB, okBB, ox'])
    have HOX := Lib.hid ox'; clear ox ox'
    go_enter Try.func67, Try.ntmps67
    go_wp2_with fail
    refine (permOk.spec_any A n c xs _ _ HX.out hn hc).mono ?_
    rintro e w1 ⟨rfl, rfl⟩
    rw [HOX.out]
    go_wp2_with fail
    go_ret
    exact ⟨ret_bool R.out.symm, Below.refl _ _⟩
set_option maxHeartbeats 2000000 in
theorem trans_impl_pos (A : Option Addr) (n c : Nat) (xs : List Int) (B : Option Addr) (m d : Nat) (ys : List Int) (h1 h2 : Nat) (w : World) (hx : Rd w h1 A n (V xs)) (hy : Rd w h2 B m (V ys)) (hn : n ≤ 1048576) (hm : m ≤ 1048576) (hn0 : 0 < n) :
    Calls Try.prog 36 #[.slice A n c, .slice B m d] w fun e w' => e = .returned (.bool (transB xs ys)) ∧ Below w.heap.size w w' := by
  have lx : xs.length = n := by simpa [V] using hx.1
  have ly : ys.length = m := by simpa [V] using hy.1
  have LX := Lib.hid lx; have LY := Lib.hid ly; clear lx ly
  have HX := Lib.hid hx; have HY := Lib.hid hy; clear hx hy
  by_cases hall : okBB xs ys = true
  · obtain ⟨ox, oy, el⟩ := okBB_iff.1 hall
    have OX := Lib.hid (Ok.of xs ox); have OY := Lib.hid (Ok.of ys oy)
    have hn24 : n ≤ 24 := by have := OX.out.len; rw [LX.out] at this; exact this
    have HF : Hid (transB xs ys = decide ((reach (ext xs) (ext ys) 0).length = n)) := Lib.hid (by rw [reach_ext OX.out OY.out el (by omega) (by rw [LX.out]; omega)]; simp [transB, hall, LX.out, hn0])
    have HA := Lib.hid hall; clear hall ox oy el
    go_enter Try.func36, Try.ntmps36
    go_wp2_with fail
    refine (permsOf_any A n c B m d xs ys _ _ _ HX.out HY.out hn hm HX.out.2.1 HY.out.2.1).mono ?_
    rintro e w1 ⟨rfl, b1⟩
    rw [HA.out, if_pos rfl, if_pos rfl]
    have B1 := Lib.hid b1; clear b1
    go_wp2_with (first | (refine wpList_store_row rfl 60 (.tmp 5) (.tmp 12) rfl w1.heap.size (V (ext xs)).toArray rfl rfl 60 (V zeros).toArray ((Arr.new w1 (V zeros) _ rfl).alloc _) (size_V (ext_len _)) (by simp [V_len, ext_len, zeros]) (one_V _) ?_; generalize hw3 : ((w1.alloc (.cells #[.int .i64 0, .int .i64 0, .int .i64 0, .int .i64 0, .int .i64 0, .int .i64 0, .int .i64 0, .int .i64 0, .int .i64 0, .int .i64 0, .int .i64 0, .int .i64 0, .int .i64 0, .int .i64 0, .int .i64 0, .int .i64 0, .int .i64 0, .int .i64 0, .int .i64 0, .int .i64 0, .int .i64 0, .int .i64 0, .int .i64 0, .int .i64 0] 60)).alloc (.cells #[.int .i64 0, .int .i64 0, .int .i64 0, .int .i64 0, .int .i64 0, .int .i64 0, .int .i64 0, .int .i64 0, .int .i64 0, .int .i64 0, .int .i64 0, .int .i64 0, .int .i64 0, .int .i64 0, .int .i64 0, .int .i64 0, .int .i64 0, .int .i64 0, .int .i64 0, .int .i64 0, .int .i64 0, .int .i64 0, .int .i64 0, .int .i64 0] 60)).setRow w1.heap.size (V (ext xs)).toArray = w3; have S1 : Hid (Arr w3 w1.heap.size (V (ext xs)) 60) := Lib.hid (by rw [← hw3]; exact ((Arr.new w1 (V zeros) _ rfl).alloc _).row); have S2 : Hid (Arr w3 (w1.heap.size + 1) (V zeros) 60) := Lib.hid (by rw [← hw3]; exact (Arr.new _ (V zeros) _ (by simp)).rowOther (by omega)); have B3 : Hid (Below w.heap.size w w3) := Lib.hid (by rw [← hw3]; exact arr.below_setRow ((B1.out.alloc B1.out.size _).alloc (by have := B1.out.size; simp; omega) _) B1.out.size _); clear hw3) | (refine wpList_store_row rfl 60 (.tmp 6) (.tmp 13) rfl (w1.heap.size + 1) (V (ext ys)).toArray rfl rfl 60 (V zeros).toArray S2.out (size_V (ext_len _)) (by simp [V_len, ext_len, zeros]) (one_V _) ?_; generalize hw4 : w3.setRow (w1.heap.size + 1) (V (ext ys)).toArray = w4; have T1 : Hid (Arr w4 w1.heap.size (V (ext xs)) 60) := Lib.hid (by rw [← hw4]; exact S1.out.rowOther (by omega)); have T2 : Hid (Arr w4 (w1.heap.size + 1) (V (ext ys)) 60) := Lib.hid (by rw [← hw4]; exact S2.out.row); have B4 : Hid (Below w.heap.size w w4) := Lib.hid (by rw [← hw4]; exact arr.below_setRow B3.out (by have := B1.out.size; omega) _); clear hw4 S1 S2 B3) | (refine wpList_load_row_g rfl 60 (.tmp 5) rfl w1.heap.size rfl 60 (V (ext xs)).toArray (0, 0) _ T1.out Try.underlying60 rfl (size_V (ext_len _)) ?_) | (refine wpList_load_row_g rfl 60 (.tmp 6) rfl (w1.heap.size + 1) rfl 60 (V (ext ys)).toArray (0, 0) _ T2.out Try.underlying60 rfl (size_V (ext_len _)) ?_))
    refine (count_any (ext xs) (ext ys) _ OX.out.sq OY.out.sq).mono ?_
    rintro e w2 ⟨rfl, b2⟩
    have B2 := Lib.hid (B4.out.trans (b2.mono B4.out.size))
    clear b2 B1 B4 T1 T2
    generalize (reach (ext xs) (ext ys) 0).length = r at *
    by_cases hr : r = n
    · subst hr
      go_wp2_with fail
      go_ret
      exact ⟨ret_bool (by rw [HF.out]; simp), B2.out⟩
    · have hq : ((r : Int) == (n : Int)) = false := by simp; omega
      have HR := Lib.hid hr; clear hr
      go_wp2_with fail
      go_ret
      exact ⟨ret_bool (by rw [HF.out, decide_eq_false HR.out]), B2.out⟩
  · have hall' : okBB xs ys = false := by simpa using hall
    have HF : Hid (transB xs ys = false) := Lib.hid (by simp [transB, hall'])
    have HA := Lib.hid hall'; clear hall hall'
    go_enter Try.func36, Try.ntmps36
    go_wp2_with fail
    refine (permsOf_any A n c B m d xs ys _ _ _ HX.out HY.out hn hm HX.out.2.1 HY.out.2.1).mono ?_
    rintro e w1 ⟨rfl, b1⟩
    rw [HA.out, if_neg (by decide), if_neg (by decide)]
    have B1 := Lib.hid b1; clear b1
    go_wp2_with (first | (refine wpList_store_row rfl 60 (.tmp 5) (.tmp 12) rfl w1.heap.size (V zeros).toArray rfl rfl 60 (V zeros).toArray ((Arr.new w1 (V zeros) _ rfl).alloc _) (size_V zeros_len) rfl (one_V _) ?_; generalize hw3 : ((w1.alloc (.cells #[.int .i64 0, .int .i64 0, .int .i64 0, .int .i64 0, .int .i64 0, .int .i64 0, .int .i64 0, .int .i64 0, .int .i64 0, .int .i64 0, .int .i64 0, .int .i64 0, .int .i64 0, .int .i64 0, .int .i64 0, .int .i64 0, .int .i64 0, .int .i64 0, .int .i64 0, .int .i64 0, .int .i64 0, .int .i64 0, .int .i64 0, .int .i64 0] 60)).alloc (.cells #[.int .i64 0, .int .i64 0, .int .i64 0, .int .i64 0, .int .i64 0, .int .i64 0, .int .i64 0, .int .i64 0, .int .i64 0, .int .i64 0, .int .i64 0, .int .i64 0, .int .i64 0, .int .i64 0, .int .i64 0, .int .i64 0, .int .i64 0, .int .i64 0, .int .i64 0, .int .i64 0, .int .i64 0, .int .i64 0, .int .i64 0, .int .i64 0] 60)).setRow w1.heap.size (V zeros).toArray = w3; have S1 : Hid (Arr w3 w1.heap.size (V zeros) 60) := Lib.hid (by rw [← hw3]; exact ((Arr.new w1 (V zeros) _ rfl).alloc _).row); have S2 : Hid (Arr w3 (w1.heap.size + 1) (V zeros) 60) := Lib.hid (by rw [← hw3]; exact (Arr.new _ (V zeros) _ (by simp)).rowOther (by omega)); have B3 : Hid (Below w.heap.size w w3) := Lib.hid (by rw [← hw3]; exact arr.below_setRow ((B1.out.alloc B1.out.size _).alloc (by have := B1.out.size; simp; omega) _) B1.out.size _); clear hw3) | (refine wpList_store_row rfl 60 (.tmp 6) (.tmp 13) rfl (w1.heap.size + 1) (V zeros).toArray rfl rfl 60 (V zeros).toArray S2.out (size_V zeros_len) rfl (one_V _) ?_; generalize hw4 : w3.setRow (w1.heap.size + 1) (V zeros).toArray = w4; have T1 : Hid (Arr w4 w1.heap.size (V zeros) 60) := Lib.hid (by rw [← hw4]; exact S1.out.rowOther (by omega)); have T2 : Hid (Arr w4 (w1.heap.size + 1) (V zeros) 60) := Lib.hid (by rw [← hw4]; exact S2.out.row); have B4 : Hid (Below w.heap.size w w4) := Lib.hid (by rw [← hw4]; exact arr.below_setRow B3.out (by have := B1.out.size; omega) _); clear hw4 S1 S2 B3))
    go_ret
    exact ⟨ret_bool HF.out.symm, B4.out⟩

set_option maxHeartbeats 2000000 in
theorem trans_impl_zero (A : Option Addr) (n c : Nat) (xs : List Int) (B : Option Addr) (m d : Nat) (ys : List Int) (h1 h2 : Nat) (w : World) (hx : Rd w h1 A n (V xs)) (hy : Rd w h2 B m (V ys)) (hn : n ≤ 1048576) (hm : m ≤ 1048576) (hn0 : n = 0) :
    Calls Try.prog 36 #[.slice A n c, .slice B m d] w fun e w' => e = .returned (.bool (transB xs ys)) ∧ Below w.heap.size w w' := by
  subst hn0
  have lx : xs.length = 0 := by simpa [V] using hx.1
  have ly : ys.length = m := by simpa [V] using hy.1
  have LX := Lib.hid lx; have LY := Lib.hid ly; clear lx ly
  have HX := Lib.hid hx; have HY := Lib.hid hy; clear hx hy
  by_cases hall : okBB xs ys = true
  · obtain ⟨ox, oy, el⟩ := okBB_iff.1 hall
    have OX := Lib.hid (Ok.of xs ox); have OY := Lib.hid (Ok.of ys oy)
    have hn24 : 0 ≤ 24 := by have := OX.out.len; rw [LX.out] at this; exact this
    have HF : Hid (transB xs ys = false) := Lib.hid (by simp [transB, LX.out])
    have HA := Lib.hid hall; clear hall ox oy el
    go_enter Try.func36, Try.ntmps36
    go_wp2_with fail
    refine (permsOf_any A 0 c B m d xs ys _ _ _ HX.out HY.out hn hm HX.out.2.1 HY.out.2.1).mono ?_
    rintro e w1 ⟨rfl, b1⟩
    rw [HA.out, if_pos rfl, if_pos rfl]
    have B1 := Lib.hid b1; clear b1
    go_wp2_with (first | (refine wpList_store_row rfl 60 (.tmp 5) (.tmp 12) rfl w1.heap.size (V (ext xs)).toArray rfl rfl 60 (V zeros).toArray ((Arr.new w1 (V zeros) _ rfl).alloc _) (size_V (ext_len _)) (by simp [V_len, ext_len, zeros]) (one_V _) ?_; generalize hw3 : ((w1.alloc (.cells #[.int .i64 0, .int .i64 0, .int .i64 0, .int .i64 0, .int .i64 0, .int .i64 0, .int .i64 0, .int .i64 0, .int .i64 0, .int .i64 0, .int .i64 0, .int .i64 0, .int .i64 0, .int .i64 0, .int .i64 0, .int .i64 0, .int .i64 0, .int .i64 0, .int .i64 0, .int .i64 0, .int .i64 0, .int .i64 0, .int .i64 0, .int .i64 0] 60)).alloc (.cells #[.int .i64 0, .int .i64 0, .int .i64 0, .int .i64 0, .int .i64 0, .int .i64 0, .int .i64 0, .int .i64 0, .int .i64 0, .int .i64 0, .int .i64 0, .int .i64 0, .int .i64 0, .int .i64 0, .int .i64 0, .int .i64 0, .int .i64 0, .int .i64 0, .int .i64 0, .int .i64 0, .int .i64 0, .int .i64 0, .int .i64 0, .int .i64 0] 60)).setRow w1.heap.size (V (ext xs)).toArray = w3; have S1 : Hid (Arr w3 w1.heap.size (V (ext xs)) 60) := Lib.hid (by rw [← hw3]; exact ((Arr.new w1 (V zeros) _ rfl).alloc _).row); have S2 : Hid (Arr w3 (w1.heap.size + 1) (V zeros) 60) := Lib.hid (by rw [← hw3]; exact (Arr.new _ (V zeros) _ (by simp)).rowOther (by omega)); have B3 : Hid (Below w.heap.size w w3) := Lib.hid (by rw [← hw3]; exact arr.below_setRow ((B1.out.alloc B1.out.size _).alloc (by have := B1.out.size; simp; omega) _) B1.out.size _); clear hw3) | (refine wpList_store_row rfl 60 (.tmp 6) (.tmp 13) rfl (w1.heap.size + 1) (V (ext ys)).toArray rfl rfl 60 (V zeros).toArray S2.out (size_V (ext_len _)) (by simp [V_len, ext_len, zeros]) (one_V _) ?_; generalize hw4 : w3.setRow (w1.heap.size + 1) (V (ext ys)).toArray = w4; have T1 : Hid (Arr w4 w1.heap.size (V (ext xs)) 60) := Lib.hid (by rw [← hw4]; exact S1.out.rowOther (by omega)); have T2 : Hid (Arr w4 (w1.heap.size + 1) (V (ext ys)) 60) := Lib.hid (by rw [← hw4]; exact S2.out.row); have B4 : Hid (Below w.heap.size w w4) := Lib.hid (by rw [← hw4]; exact arr.below_setRow B3.out (by have := B1.out.size; omega) _); clear hw4 S1 S2 B3))
    go_ret
    exact ⟨ret_bool HF.out.symm, B4.out⟩
  · have hall' : okBB xs ys = false := by simpa using hall
    have HF : Hid (transB xs ys = false) := Lib.hid (by simp [transB, hall'])
    have HA := Lib.hid hall'; clear hall hall'
    go_enter Try.func36, Try.ntmps36
    go_wp2_with fail
    refine (permsOf_any A 0 c B m d xs ys _ _ _ HX.out HY.out hn hm HX.out.2.1 HY.out.2.1).mono ?_
    rintro e w1 ⟨rfl, b1⟩
    rw [HA.out, if_neg (by decide), if_neg (by decide)]
    have B1 := Lib.hid b1; clear b1
    go_wp2_with (first | (refine wpList_store_row rfl 60 (.tmp 5) (.tmp 12) rfl w1.heap.size (V zeros).toArray rfl rfl 60 (V zeros).toArray ((Arr.new w1 (V zeros) _ rfl).alloc _) (size_V zeros_len) rfl (one_V _) ?_; generalize hw3 : ((w1.alloc (.cells #[.int .i64 0, .int .i64 0, .int .i64 0, .int .i64 0, .int .i64 0, .int .i64 0, .int .i64 0, .int .i64 0, .int .i64 0, .int .i64 0, .int .i64 0, .int .i64 0, .int .i64 0, .int .i64 0, .int .i64 0, .int .i64 0, .int .i64 0, .int .i64 0, .int .i64 0, .int .i64 0, .int .i64 0, .int .i64 0, .int .i64 0, .int .i64 0] 60)).alloc (.cells #[.int .i64 0, .int .i64 0, .int .i64 0, .int .i64 0, .int .i64 0, .int .i64 0, .int .i64 0, .int .i64 0, .int .i64 0, .int .i64 0, .int .i64 0, .int .i64 0, .int .i64 0, .int .i64 0, .int .i64 0, .int .i64 0, .int .i64 0, .int .i64 0, .int .i64 0, .int .i64 0, .int .i64 0, .int .i64 0, .int .i64 0, .int .i64 0] 60)).setRow w1.heap.size (V zeros).toArray = w3; have S1 : Hid (Arr w3 w1.heap.size (V zeros) 60) := Lib.hid (by rw [← hw3]; exact ((Arr.new w1 (V zeros) _ rfl).alloc _).row); have S2 : Hid (Arr w3 (w1.heap.size + 1) (V zeros) 60) := Lib.hid (by rw [← hw3]; exact (Arr.new _ (V zeros) _ (by simp)).rowOther (by omega)); have B3 : Hid (Below w.heap.size w w3) := Lib.hid (by rw [← hw3]; exact arr.below_setRow ((B1.out.alloc B1.out.size _).alloc (by have := B1.out.size; simp; omega) _) B1.out.size _); clear hw3) | (refine wpList_store_row rfl 60 (.tmp 6) (.tmp 13) rfl (w1.heap.size + 1) (V zeros).toArray rfl rfl 60 (V zeros).toArray S2.out (size_V zeros_len) rfl (one_V _) ?_; generalize hw4 : w3.setRow (w1.heap.size + 1) (V zeros).toArray = w4; have T1 : Hid (Arr w4 w1.heap.size (V zeros) 60) := Lib.hid (by rw [← hw4]; exact S1.out.rowOther (by omega)); have T2 : Hid (Arr w4 (w1.heap.size + 1) (V zeros) 60) := Lib.hid (by rw [← hw4]; exact S2.out.row); have B4 : Hid (Below w.heap.size w w4) := Lib.hid (by rw [← hw4]; exact arr.below_setRow B3.out (by have := B1.out.size; omega) _); clear hw4 S1 S2 B3))
    go_ret
    exact ⟨ret_bool HF.out.symm, B4.out⟩
theorem trans_impl (A : Option Addr) (n c : Nat) (xs : List Int) (B : Option Addr) (m d : Nat) (ys : List Int) (h1 h2 : Nat) (w : World) (hx : Rd w h1 A n (V xs)) (hy : Rd w h2 B m (V ys)) (hn : n ≤ 1048576) (hm : m ≤ 1048576) :
    Calls Try.prog 36 #[.slice A n c, .slice B m d] w fun e w' => e = .returned (.bool (transB xs ys)) ∧ Below w.heap.size w w' := by
  rcases Nat.eq_zero_or_pos n with h0 | h0
  · exact trans_impl_zero A n c xs B m d ys h1 h2 w hx hy hn hm h0
  · exact trans_impl_pos A n c xs B m d ys h1 h2 w hx hy hn hm h0
end Go.Proofs.Ytafpbnjfmieamaa.fns

/-
  Contracts of spec.SameList, slices.Equal at ints, impl.SameList.
-/
namespace Go.Proofs.Ytafpbnjfmieamaa.same
open Go.ChangeShapes Go.WideShapes Go.ChangeAt Go.RowKit
open Go.Proofs.Ytafpbnjfmieamaa.mem Go.Proofs.Ytafpbnjfmieamaa.ints
set_option linter.unusedVariables false
set_option maxRecDepth 100000

set_option maxHeartbeats 400000 in
theorem spec_any (A : Option Addr) (n c : Nat) (B : Option Addr) (m d : Nat) (xs ys : List Int) (h1 h2 : Nat) (w : World)
    (hx : Rd w h1 A n (V xs)) (hy : Rd w h2 B m (V ys)) (hn : n ≤ maxLen) (hm : m ≤ maxLen) :
    Calls Try.prog 73 #[.slice A n c, .slice B m d] w fun e w' => e = .returned (.bool (eqi xs ys)) ∧ Drawn w w' := by
  unfold maxLen at hn hm
  have lx : xs.length = n := by simpa [V] using hx.1
  have ly : ys.length = m := by simpa [V] using hy.1
  have LX := Lib.hid lx; have LY := Lib.hid ly; clear lx ly
  have HX := Lib.hid hx; have HY := Lib.hid hy; clear hx hy
  by_cases hnm : n = m
  · obtain rfl : m = n := hnm.symm
    clear hnm
    go_enter Try.func73, Try.ntmps73
    go_wp2
    go_loopw [14] (fun i wr => ∃ k : Nat, k ≤ m ∧ i = .int .i64 k ∧ Drawn w wr ∧ Same xs ys k) (fun i _ => m - (intOf i).toNat)
    case atStart => exact ⟨0, Nat.zero_le _, rfl, ⟨0, rfl⟩, fun j hj => by omega⟩
    case round =>
      obtain ⟨k, hk, rfl, hdr, hsame⟩ := hrel
      have HS := Lib.hid hsame; have HD := Lib.hid hdr; clear hsame hdr
      by_cases hlt : k < m
      · obtain ⟨g, off, u, rfl, _, hxu, hcx⟩ := HX.out.at_ hlt
        obtain ⟨g', off', u', rfl, _, hyu, hcy⟩ := HY.out.at_ hlt
        obtain ⟨s, hxs, rfl⟩ := V_at hxu
        obtain ⟨t, hyt, rfl⟩ := V_at hyu
        rw [← HD.out.cell] at hcx hcy
        have HXS := Lib.hid hxs; have HYT := Lib.hid hyt; clear hxs hyt hxu hyu
        by_cases hst : s = t
        · subst hst
          go_wp2
          go_roundw
          case rel => exact ⟨k + 1, by omega, by go_num, HD.out, HS.out.step HXS.out HYT.out⟩
          case measure => simp [intOf]; omega
        · have hb : (s != t) = true := by simpa using hst
          have HST := Lib.hid hst; clear hst
          go_wp2
          go_ret
          exact ⟨ret_bool (eqi_no HXS.out HYT.out HST.out).symm, HD.out⟩
      · obtain rfl : k = m := by omega
        go_wp2
        go_ret
        exact ⟨ret_bool (eqi_yes LX.out LY.out HS.out).symm, HD.out⟩
  · have hb : ((n : Int) != (m : Int)) = true := by simp; omega
    have HB : eqi xs ys = false := eqi_len (by rw [LX.out, LY.out]; exact hnm)
    have HB := Lib.hid HB
    clear hnm
    go_enter Try.func73, Try.ntmps73
    go_wp2
    go_ret
    exact ⟨ret_bool HB.out.symm, 0, rfl⟩

set_option maxHeartbeats 400000 in
theorem equal_any (A : Option Addr) (n c : Nat) (B : Option Addr) (m d : Nat) (xs ys : List Int) (h1 h2 : Nat) (w : World)
    (hx : Rd w h1 A n (V xs)) (hy : Rd w h2 B m (V ys)) (hn : n ≤ maxLen) (hm : m ≤ maxLen) :
    Calls Try.prog 60 #[.slice A n c, .slice B m d] w fun e w' => e = .returned (.bool (eqi xs ys)) ∧ Drawn w w' := by
  unfold maxLen at hn hm
  have lx : xs.length = n := by simpa [V] using hx.1
  have ly : ys.length = m := by simpa [V] using hy.1
  have LX := Lib.hid lx; have LY := Lib.hid ly; clear lx ly
  have HX := Lib.hid hx; have HY := Lib.hid hy; clear hx hy
  by_cases hnm : n = m
  · obtain rfl : m = n := hnm.symm
    clear hnm
    go_enter Try.func60, Try.ntmps60
    go_wp2
    go_loopw [13] (fun i wr => ∃ k : Nat, k ≤ m ∧ i = .int .i64 k ∧ Drawn w wr ∧ Same xs ys k) (fun i _ => m - (intOf i).toNat)
    case atStart => exact ⟨0, Nat.zero_le _, rfl, ⟨0, rfl⟩, fun j hj => by omega⟩
    case round =>
      obtain ⟨k, hk, rfl, hdr, hsame⟩ := hrel
      have HS := Lib.hid hsame; have HD := Lib.hid hdr; clear hsame hdr
      by_cases hlt : k < m
      · obtain ⟨g, off, u, rfl, _, hxu, hcx⟩ := HX.out.at_ hlt
        obtain ⟨g', off', u', rfl, _, hyu, hcy⟩ := HY.out.at_ hlt
        obtain ⟨s, hxs, rfl⟩ := V_at hxu
        obtain ⟨t, hyt, rfl⟩ := V_at hyu
        rw [← HD.out.cell] at hcx hcy
        have HXS := Lib.hid hxs; have HYT := Lib.hid hyt; clear hxs hyt hxu hyu
        by_cases hst : s = t
        · subst hst
          go_wp2
          go_quiet (fail)
          go_wp2
          go_roundw
          case rel => exact ⟨k + 1, by omega, by go_num, HD.out.more _, HS.out.step HXS.out HYT.out⟩
          case measure => simp [intOf]; omega
        · have hb : (s != t) = true := by simpa using hst
          have HST := Lib.hid hst; clear hst
          go_wp2
          go_quiet (fail)
          go_wp2
          go_ret
          exact ⟨ret_bool (eqi_no HXS.out HYT.out HST.out).symm, HD.out.more _⟩
      · obtain rfl : k = m := by omega
        go_wp2
        go_ret
        exact ⟨ret_bool (eqi_yes LX.out LY.out HS.out).symm, HD.out⟩
  · have hb : ((n : Int) != (m : Int)) = true := by simp; omega
    have HB : eqi xs ys = false := eqi_len (by rw [LX.out, LY.out]; exact hnm)
    have HB := Lib.hid HB
    clear hnm
    go_enter Try.func60, Try.ntmps60
    go_wp2
    go_ret
    exact ⟨ret_bool HB.out.symm, 0, rfl⟩


theorem impl_any (A : Option Addr) (n c : Nat) (B : Option Addr) (m d : Nat) (xs ys : List Int) (h1 h2 : Nat) (w : World)
    (hx : Rd w h1 A n (V xs)) (hy : Rd w h2 B m (V ys)) (hn : n ≤ maxLen) (hm : m ≤ maxLen) :
    Calls Try.prog 31 #[.slice A n c, .slice B m d] w fun e w' => e = .returned (.bool (eqi xs ys)) ∧ Drawn w w' := by
  have HX := Lib.hid hx; have HY := Lib.hid hy; clear hx hy
  go_enter Try.func31, Try.ntmps31
  go_wp2_with fail
  refine (equal_any A n c B m d xs ys _ _ _ HX.out HY.out hn hm).mono ?_
  rintro e w' ⟨rfl, hd⟩
  have HD := Lib.hid hd; clear hd
  go_wp2_with fail
  go_ret
  exact ⟨rfl, HD.out⟩

theorem spec_b (A : Option Addr) (n c : Nat) (xs : List Int) (B : Option Addr) (m d : Nat) (ys : List Int) (h1 h2 : Nat) (w : World)
    (hx : Rd w h1 A n (V xs)) (hy : Rd w h2 B m (V ys)) (hn : n ≤ 1048576) (hm : m ≤ 1048576) :
    Calls Try.prog 73 #[.slice A n c, .slice B m d] w fun e w' => e = .returned (.bool (eqi xs ys)) ∧ Below w.heap.size w w' :=
  (spec_any A n c B m d xs ys h1 h2 w hx hy (by unfold maxLen; omega) (by unfold maxLen; omega)).mono fun _ _ ⟨he, hd⟩ => ⟨he, hd.below _⟩

theorem impl_b (A : Option Addr) (n c : Nat) (xs : List Int) (B : Option Addr) (m d : Nat) (ys : List Int) (h1 h2 : Nat) (w : World)
    (hx : Rd w h1 A n (V xs)) (hy : Rd w h2 B m (V ys)) (hn : n ≤ 1048576) (hm : m ≤ 1048576) :
    Calls Try.prog 31 #[.slice A n c, .slice B m d] w fun e w' => e = .returned (.bool (eqi xs ys)) ∧ Below w.heap.size w w' :=
  (impl_any A n c B m d xs ys h1 h2 w hx hy (by unfold maxLen; omega) (by unfold maxLen; omega)).mono fun _ _ ⟨he, hd⟩ => ⟨he, hd.below _⟩

end Go.Proofs.Ytafpbnjfmieamaa.same

/-
  Contracts of SurfaceOk, CountSquares, SameSurface, of the model and of the program.
-/
namespace Go.Proofs.Ytafpbnjfmieamaa.sf
open Go.ChangeShapes Go.WideShapes Go.ChangeAt Go.RowKit
open Go.Proofs.Ytafpbnjfmieamaa.mem Go.Proofs.Ytafpbnjfmieamaa.ints Go.Proofs.Ytafpbnjfmieamaa.arr Go.Proofs.Ytafpbnjfmieamaa.pm Go.Proofs.Ytafpbnjfmieamaa.fns
set_option linter.unusedVariables false
set_option maxRecDepth 100000

theorem Srd.open {w : World} {hi : Nat} {v : Value} {r u : List Int} (h : Srd w hi v r u) :
    ∃ P n c Q m d, v = .agg #[.slice P n c, .slice Q m d] ∧ r.length = n ∧ u.length = m ∧ n ≤ c ∧ m ≤ d ∧ hi ≤ w.heap.size ∧ Hid (∀ o, Rd (w.alloc o) hi P n (V r) ∧ Rd (w.alloc o) hi Q m (V u)) := by
  obtain ⟨P, n, c, Q, m, d, rfl, a, b, e1, e2⟩ := h
  exact ⟨P, n, c, Q, m, d, rfl, by simpa [V] using a.1, by simpa [V] using b.1, e1, e2, a.2.1, Lib.hid (fun o => ⟨a.keep ((Below.refl hi w).alloc a.2.1 o) (Nat.le_refl _), b.keep ((Below.refl hi w).alloc a.2.1 o) (Nat.le_refl _)⟩)⟩
theorem below1 (w : World) (o : Obj) {w' : World} (h : Below (w.alloc o).heap.size (w.alloc o) w') : Below w.heap.size w w' := ((Below.refl _ _).alloc (Nat.le_refl _) _).trans (h.mono (by simp))

set_option maxHeartbeats 400000 in
theorem ok_spec (v : Value) (r u : List Int) (hi : Nat) (w : World) (hx : Srd w hi v r u) (hn : r.length ≤ 1048576) (hm : u.length ≤ 1048576) :
    Calls Try.prog 39 #[v] w fun e w' => e = .returned (.bool (transB r u)) ∧ Below w.heap.size w w' := by
  obtain ⟨P, n, c, Q, m, d, rfl, q1, q2, e1, e2, ht, HR⟩ := hx.open
  clear hx
  go_enter Try.func39, Try.ntmps39
  go_wp2_with fail
  refine (trans_spec P n c r Q m d u _ _ _ (HR.out _).1 (HR.out _).2 (by omega) (by omega) e1 e2).mono ?_
  rintro e w1 ⟨rfl, b1⟩
  have B1 := Lib.hid (below1 _ _ b1); clear b1
  go_wp2_with fail
  go_ret
  exact ⟨rfl, B1.out⟩

set_option maxHeartbeats 400000 in
theorem ok_impl (v : Value) (r u : List Int) (hi : Nat) (w : World) (hx : Srd w hi v r u) (hn : r.length ≤ 1048576) (hm : u.length ≤ 1048576) :
    Calls Try.prog 14 #[v] w fun e w' => e = .returned (.bool (transB r u)) ∧ Below w.heap.size w w' := by
  obtain ⟨P, n, c, Q, m, d, rfl, q1, q2, e1, e2, ht, HR⟩ := hx.open
  clear hx
  go_enter Try.func14, Try.ntmps14
  go_wp2_with fail
  refine (trans_impl P n c r Q m d u _ _ _ (HR.out _).1 (HR.out _).2 (by omega) (by omega)).mono ?_
  rintro e w1 ⟨rfl, b1⟩
  have B1 := Lib.hid (below1 _ _ b1); clear b1
  go_wp2_with fail
  go_ret
  exact ⟨rfl, B1.out⟩

def cntF (r u : List Int) : Int := if transB r u then r.length else 0
def sameF (r u r' u' : List Int) : Bool := eqi r r' && eqi u u'
set_option maxHeartbeats 1000000 in
theorem same_spec (x : Value) (r u : List Int) (y : Value) (r' u' : List Int) (h1 h2 : Nat) (w : World) (hx : Srd w h1 x r u) (hy : Srd w h2 y r' u') (hn : r.length ≤ 1048576) (hm : u.length ≤ 1048576) (hn' : r'.length ≤ 1048576) (hm' : u'.length ≤ 1048576) :
    Calls Try.prog 68 #[x, y] w fun e w' => e = .returned (.bool (sameF r u r' u')) ∧ Below w.heap.size w w' := by
  obtain ⟨P, n, c, Q, m, d, rfl, rp, rq, e1, e2⟩ := hx
  obtain ⟨P', n', c', Q', m', d', rfl, rp', rq', e1', e2'⟩ := hy
  have q1 : r.length = n := by simpa [V] using rp.1
  have q2 : u.length = m := by simpa [V] using rq.1
  have q1' : r'.length = n' := by simpa [V] using rp'.1
  have q2' : u'.length = m' := by simpa [V] using rq'.1
  have RP := Lib.hid rp; have RQ := Lib.hid rq; have RP' := Lib.hid rp'; have RQ' := Lib.hid rq'; clear rp rq rp' rq'
  have HI := RP.out.2.1; have HI' := RP'.out.2.1
  have B1 : Hid (∀ a b, Below w.heap.size w ((w.alloc a).alloc b)) := Lib.hid (fun a b => ((Below.refl _ _).alloc (Nat.le_refl _) _).alloc (by simp) _)
  go_enter Try.func68, Try.ntmps68
  go_wp2_with fail
  refine (same.spec_b P n c r P' n' c' r' _ _ _ (RP.out.keep (B1.out _ _) HI) (RP'.out.keep (B1.out _ _) HI') (by omega) (by omega)).mono ?_
  rintro e w1 ⟨rfl, d1⟩
  by_cases hh : eqi r r' = true
  · rw [hh]
    have D1 := Lib.hid d1; clear d1
    have c1 := (((Arr.new w [.slice P n c, .slice Q m d] 33 rfl).alloc (.cells #[.slice P' n' c', .slice Q' m' d'] 33)).keep D1.out (by simp <;> omega)).cell (k := 1) rfl
    have c2 := ((Arr.new (w.alloc (.cells #[.slice P n c, .slice Q m d] 33)) [.slice P' n' c', .slice Q' m' d'] 33 (g := w.heap.size + 1) (by simp <;> omega)).keep D1.out (by simp <;> omega)).cell (k := 1) rfl
    have BB : Hid (Below w.heap.size w w1) := Lib.hid ((B1.out _ _).trans (D1.out.mono (by simp <;> omega)))
    go_wp2_with fail
    refine (same.spec_b Q m d u Q' m' d' u' _ _ _ (RQ.out.keep BB.out HI) (RQ'.out.keep BB.out HI') (by omega) (by omega)).mono ?_
    rintro e w2 ⟨rfl, d2⟩
    have BB2 : Hid (Below w.heap.size w w2) := Lib.hid (BB.out.trans (d2.mono BB.out.size))
    clear d2
    have HH := Lib.hid hh; clear hh
    cases hq : eqi u u' <;> (have HQ := Lib.hid hq; clear hq; go_wp2_with fail; go_ret; exact ⟨ret_bool (by rw [sameF, HH.out, HQ.out]; rfl), BB2.out⟩)
  · have hf : eqi r r' = false := by simpa using hh
    rw [hf]
    have BB : Hid (Below w.heap.size w w1) := Lib.hid ((B1.out _ _).trans (d1.mono (by simp <;> omega)))
    have HH := Lib.hid hf; clear d1 hf hh
    go_wp2_with fail
    go_ret
    exact ⟨ret_bool (by rw [sameF, HH.out]; rfl), BB.out⟩
set_option maxHeartbeats 1000000 in
theorem same_impl (x : Value) (r u : List Int) (y : Value) (r' u' : List Int) (h1 h2 : Nat) (w : World) (hx : Srd w h1 x r u) (hy : Srd w h2 y r' u') (hn : r.length ≤ 1048576) (hm : u.length ≤ 1048576) (hn' : r'.length ≤ 1048576) (hm' : u'.length ≤ 1048576) :
    Calls Try.prog 13 #[x, y] w fun e w' => e = .returned (.bool (sameF r u r' u')) ∧ Below w.heap.size w w' := by
  obtain ⟨P, n, c, Q, m, d, rfl, rp, rq, e1, e2⟩ := hx
  obtain ⟨P', n', c', Q', m', d', rfl, rp', rq', e1', e2'⟩ := hy
  have q1 : r.length = n := by simpa [V] using rp.1
  have q2 : u.length = m := by simpa [V] using rq.1
  have q1' : r'.length = n' := by simpa [V] using rp'.1
  have q2' : u'.length = m' := by simpa [V] using rq'.1
  have RP := Lib.hid rp; have RQ := Lib.hid rq; have RP' := Lib.hid rp'; have RQ' := Lib.hid rq'; clear rp rq rp' rq'
  have HI := RP.out.2.1; have HI' := RP'.out.2.1
  have B1 : Hid (∀ a b, Below w.heap.size w ((w.alloc a).alloc b)) := Lib.hid (fun a b => ((Below.refl _ _).alloc (Nat.le_refl _) _).alloc (by simp) _)
  go_enter Try.func13, Try.ntmps13
  go_wp2_with fail
  refine (same.impl_b P n c r P' n' c' r' _ _ _ (RP.out.keep (B1.out _ _) HI) (RP'.out.keep (B1.out _ _) HI') (by omega) (by omega)).mono ?_
  rintro e w1 ⟨rfl, d1⟩
  by_cases hh : eqi r r' = true
  · rw [hh]
    have D1 := Lib.hid d1; clear d1
    have c1 := (((Arr.new w [.slice P n c, .slice Q m d] 33 rfl).alloc (.cells #[.slice P' n' c', .slice Q' m' d'] 33)).keep D1.out (by simp <;> omega)).cell (k := 1) rfl
    have c2 := ((Arr.new (w.alloc (.cells #[.slice P n c, .slice Q m d] 33)) [.slice P' n' c', .slice Q' m' d'] 33 (g := w.heap.size + 1) (by simp <;> omega)).keep D1.out (by simp <;> omega)).cell (k := 1) rfl
    have BB : Hid (Below w.heap.size w w1) := Lib.hid ((B1.out _ _).trans (D1.out.mono (by simp <;> omega)))
    go_wp2_with fail
    refine (same.impl_b Q m d u Q' m' d' u' _ _ _ (RQ.out.keep BB.out HI) (RQ'.out.keep BB.out HI') (by omega) (by omega)).mono ?_
    rintro e w2 ⟨rfl, d2⟩
    have BB2 : Hid (Below w.heap.size w w2) := Lib.hid (BB.out.trans (d2.mono BB.out.size))
    clear d2
    have HH := Lib.hid hh; clear hh
    cases hq : eqi u u' <;> (have HQ := Lib.hid hq; clear hq; go_wp2_with fail; go_ret; exact ⟨ret_bool (by rw [sameF, HH.out, HQ.out]; rfl), BB2.out⟩)
  · have hf : eqi r r' = false := by simpa using hh
    rw [hf]
    have BB : Hid (Below w.heap.size w w1) := Lib.hid ((B1.out _ _).trans (d1.mono (by simp <;> omega)))
    have HH := Lib.hid hf; clear d1 hf hh
    go_wp2_with fail
    go_ret
    exact ⟨ret_bool (by rw [sameF, HH.out]; rfl), BB.out⟩
end Go.Proofs.Ytafpbnjfmieamaa.sf

/-
  Contracts of RenamePerm, of the model and of the program.
-/
namespace Go.Proofs.Ytafpbnjfmieamaa.fns
open Go.ChangeShapes Go.WideShapes Go.ChangeAt Go.RowKit
open Go.Proofs.Ytafpbnjfmieamaa.mem Go.Proofs.Ytafpbnjfmieamaa.ints Go.Proofs.Ytafpbnjfmieamaa.arr Go.Proofs.Ytafpbnjfmieamaa.pm Go.Proofs.Ytafpbnjfmieamaa.permOk Go.Proofs.Ytafpbnjfmieamaa.permOf Go.Proofs.Ytafpbnjfmieamaa.inv
set_option linter.unusedVariables false
set_option maxRecDepth 100000

theorem Made.drew {n : Nat} {w wr : World} {l : List Int} (h : Made n w wr l) : Made n w wr.drew l := ⟨h.1.drew, ⟨h.2.os, h.2.tape, h.2.output, h.2.size, h.2.block⟩⟩
set_option maxHeartbeats 1000000 in
theorem l02ren_any (A : Option Addr) (n c : Nat) (B : Option Addr) (m d : Nat) (xs ys : List Int) (h1 h2 : Nat) (w : World) (hx : Rd w h1 A n (V xs)) (hy : Rd w h2 B m (V ys)) (ok : Ok xs) (oky : Ok ys) (hnm : n = m) :
    Calls Try.prog 92 #[.slice A n c, .slice B m d] w (Gives (renTo n xs ys n) w) := by
  subst hnm
  obtain ⟨i0, hi0, hz0, hz1, hz2⟩ := info_parts infoI
  have lx : xs.length = n := by simpa [V] using hx.1
  have ly : ys.length = n := by simpa [V] using hy.1
  have hn : n ≤ 24 := by have := ok.len; omega
  have LX := Lib.hid lx; have LY := Lib.hid ly; clear lx ly
  have OK := Lib.hid ok; have OKY := Lib.hid oky; clear ok oky
  have HX := Lib.hid hx; have HY := Lib.hid hy; clear hx hy
  have HZ2 := Lib.hid hz2; clear hz2
  go_enter Try.func92, Try.ntmps92
  go_wp2_with (at_make; refine wpList_make_full _ rfl _ _ 23 rfl w.heap.size 3 i0 _ 1 Try.underlying23 hi0 hz0 hz1 _ _ _ _ n rfl rfl rfl rfl ?b2 ?b3 (Nat.le_refl _) ?_)
  case b2 => rw [HZ2.out]; omega
  case b3 => unfold maxLen; omega
  intro w1 hown hg
  have hb1 : Below w.heap.size w w1 := (Below.refl _ _).grown hg (Nat.le_refl _) (by simp)
  have HM : Hid (Made n w w1 (renTo n xs ys 0)) := Lib.hid ⟨by simpa [renTo, setTo, V, toList_madeCells_one] using hown, hb1⟩
  clear hown hg hb1
  go_wp2
  go_loopw [13] (fun i wr => ∃ k : Nat, k ≤ n ∧ i = .int .i64 k ∧ Made n w wr (renTo n xs ys k)) (fun i _ => n - (intOf i).toNat)
  case atStart => exact ⟨0, Nat.zero_le _, rfl, HM.out⟩
  case round =>
    obtain ⟨k, hk, rfl, hm⟩ := hrel
    have HR := Lib.hid hm; clear hm HM
    by_cases hlt : k < n
    · obtain ⟨g, off, u, rfl, hgl, hxu, hcx⟩ := HX.out.at_ hlt
      obtain ⟨s, hxs, rfl⟩ := V_at hxu
      obtain ⟨z, hz, hqz, hqd⟩ := Ok.nat OK.out (k := k) (by rw [LX.out]; exact hlt)
      rw [hqz] at hxs
      obtain rfl := Option.some.inj hxs
      rw [LX.out] at hz
      obtain ⟨g', off', u', e', hgl', hyu, hcy⟩ := HY.out.at_ hz
      obtain ⟨t, hyt, rfl⟩ := V_at hyu
      obtain ⟨g2, off2, u2, rfl, hgl2, hyu2, hcy2⟩ := HY.out.at_ hlt
      injection e' with e'; injection e' with e1 e2; subst e1; subst e2
      obtain ⟨t2, hyt2, rfl⟩ := V_at hyu2
      obtain ⟨z2, hz2, hqz2, hqd2⟩ := Ok.nat OKY.out (k := k) (by rw [LY.out]; exact hlt)
      rw [hqz2] at hyt2
      obtain rfl := Option.some.inj hyt2
      rw [LY.out] at hz2
      have hgw : g < w.heap.size := Nat.lt_of_lt_of_le hgl HX.out.2.1
      have hgw' : g2 < w.heap.size := Nat.lt_of_lt_of_le hgl' HY.out.2.1
      rw [← HR.out.2.cell (p := ⟨g, off + k, none⟩) hgw] at hcx
      rw [← HR.out.2.cell (p := ⟨g2, off2 + z, none⟩) hgw'] at hcy
      rw [← HR.out.2.cell (p := ⟨g2, off2 + k, none⟩) hgw'] at hcy2
      have hc := HR.out.cell hz2
      have hf := HR.out.1.frozenAt z2
      have HD := Lib.hid hqd; have HD2 := Lib.hid hqd2; have HT := Lib.hid (permOk.getD_of hyt); clear hqd hqz hxs hxu hyu hyt hqz2 hqd2 hyt2 hyu2
      go_wp2
      go_region
      go_wp2
      go_roundw
      case rel =>
        refine ⟨k + 1, by omega, by go_num, ?_⟩
        rw [renTo_succ, HD.out, HD2.out, Int.toNat_natCast, Int.toNat_natCast, HT.out]
        exact (HR.out.set_ z2 _).drew
      case measure => simp [intOf]; omega
    · obtain rfl : k = n := by omega
      go_wp2
      go_ret
      exact ⟨_, rfl, by rw [renTo_len]; exact HR.out.1, HR.out.2⟩

/-- All below base is as it was, and 'top' blocks are there. -/
structure Kp (base top : Nat) (w w' : World) : Prop where
  below : Below base w w'
  size : top ≤ w'.heap.size
theorem range_arr {w : World} {g : Nat} {cs : List Value} {t : TypeId} (h : Arr w g cs t) : w.rangeAt g 0 cs := fun j v hv => by rw [Nat.zero_add]; exact h.cell hv
theorem Kp.start {base a b top : Nat} {w W : World} {xs ys : List Value} {t : TypeId} (h1 : Arr W a xs t) (h2 : Arr W b ys t) (hb : Below base w W) (hs : top ≤ W.heap.size) :
    W.drew.rangeAt a 0 xs ∧ W.drew.rangeAt b 0 ys ∧ Kp base top w W.drew :=
  ⟨by simpa using range_arr h1, by simpa using range_arr h2, ⟨hb.os, hb.tape, hb.output, hb.size, hb.block⟩, hs⟩
theorem Kp.later {base a b top : Nat} {w W W' : World} {xs ys : List Value} (ha : a < top) (hb : b < top) (h : W.rangeAt a 0 xs ∧ W.rangeAt b 0 ys ∧ Kp base top w W) (hB : Below W.heap.size W W') (hw : base ≤ top) :
    W'.rangeAt a 0 xs ∧ W'.rangeAt b 0 ys ∧ Kp base top w W' := by
  obtain ⟨h1, h2, h3⟩ := h
  have hs := h3.size
  refine ⟨fun j v hv => ?_, fun j v hv => ?_, h3.below.trans (hB.mono (by omega)), Nat.le_trans hs hB.size⟩
  · rw [hB.cell (p := ⟨a, 0 + j, none⟩) (show a < _ by omega)]; exact h1 j v hv
  · rw [hB.cell (p := ⟨b, 0 + j, none⟩) (show b < _ by omega)]; exact h2 j v hv

end Go.Proofs.Ytafpbnjfmieamaa.fns
