import Derived.Test.YtddppmbllcnkoaaZ04
import Derived.Test.YtddppmbllcnkoaaZ08
import Derived.Test.YtddppmbllcnkoaaZ05
import Derived.RegionTactic
import Derived.BigRegion
/-
  Contracts of IsTransitive, of the model and of the program.
-/
namespace Go.Proofs.Ytddppmbllcnkoaa.fns
open Go.ChangeShapes Go.WideShapes Go.ChangeAt Go.RowKit
open Go.Proofs.Ytddppmbllcnkoaa.mem Go.Proofs.Ytddppmbllcnkoaa.ints Go.Proofs.Ytddppmbllcnkoaa.arr Go.Proofs.Ytddppmbllcnkoaa.pm Go.Proofs.Ytddppmbllcnkoaa.permOk Go.Proofs.Ytddppmbllcnkoaa.permOf Go.Proofs.Ytddppmbllcnkoaa.inv
set_option linter.unusedVariables false
set_option maxRecDepth 100000

theorem wpList_load_row_g {P : Program} {ops : Array Oper} {rest : List Oper} {o : Oper} {a : Act} {w : World} {Q : Exit → Act → World → Prop} (hw : Region.wanted o (yielded ops a.tmps) = true) (ty : TypeId) (x : Operand) (ho : o.op = .load ty x)
    (g : Nat) (hx : a.eval x = .pointer (some ⟨g, 0, none⟩)) (t : TypeId) (cs : Array Value) (fr : Nat × Nat) (d : TypeDesc) (hg : w.heap[g]? = some (.cells cs t fr))
    (hu : P.underlying ty = some d) (hd : (match d with | .struct _ | .array _ _ => true | _ => false) = true) (hi : (P.info? ty).map (·.size) = some cs.size)
    (h : wpList P ops Q rest (a.put o.dst (.agg cs)) w) : wpList P ops Q (o :: rest) a w :=
  wpList_step fun K hK => by rw [if_pos hw]; exact wp_load_row ty x ho g hx t cs fr d hg hu hd hi (hK _ _ h)
set_option maxHeartbeats 1000000 in
theorem trans_spec (A : Option Addr) (n c : Nat) (xs : List Int) (B : Option Addr) (m d : Nat) (ys : List Int) (h1 h2 : Nat) (w : World) (hx : Rd w h1 A n (V xs)) (hy : Rd w h2 B m (V ys)) (hn : n ≤ 1048576) (hm : m ≤ 1048576) (hc : n ≤ c) (hd : m ≤ d) :
    Calls sqp.prog 94 #[.slice A n c, .slice B m d] w fun e w' => e = .returned (.bool (transB xs ys)) ∧ Below w.heap.size w w' := by
  have lx : xs.length = n := by simpa [V] using hx.1
  have ly : ys.length = m := by simpa [V] using hy.1
  have LX := Lib.hid lx; have LY := Lib.hid ly; clear lx ly
  have HX := Lib.hid hx; have HY := Lib.hid hy; clear hx hy
  by_cases ox : okB xs = true
  · by_cases oy : okB ys = true
    · by_cases hnm : n = m
      · subst hnm
        by_cases hn0 : 0 < n
        · have OX := Lib.hid (Ok.of xs ox); have OY := Lib.hid (Ok.of ys oy)
          have R : Hid (transB xs ys = decide ((reach xs ys 0).length = n)) := Lib.hid (by simp [transB, okBB, ox, oy, LX.out, LY.out, hn0])
          have HOX := Lib.hid ox; have HOY := Lib.hid oy; clear ox oy
          go_enter sqp.func94, sqp.ntmps94
          go_wp2_with fail
          refine (permOk.spec_any A n c xs _ _ HX.out hn hc).mono ?_
          rintro e w1 ⟨rfl, rfl⟩
          rw [HOX.out]
          go_wp2_with fail
          refine (permOk.spec_any B n d ys _ _ HY.out hm hd).mono ?_
          rintro e w1 ⟨rfl, rfl⟩
          rw [HOY.out]
          go_wp2_with fail
          refine (reach_any A n c B n d xs ys 0 _ _ _ HX.out HY.out OX.out OY.out rfl (by omega) (by omega)).mono ?_
          rintro e w3 ⟨v, rfl, ho, hb⟩
          obtain ⟨C, cc, rfl⟩ := own_form ho
          have HB := Lib.hid hb; clear ho hb
          have HLN : Hid ((reach xs ys 0).length = (reach xs ys 0).length) := Lib.hid rfl
          generalize (reach xs ys 0).length = r at *
          by_cases hr : r = n
          · subst hr
            go_wp2_with fail
            go_ret
            exact ⟨ret_bool (by rw [R.out]; simp), HB.out⟩
          · have hq : ((r : Int) == (n : Int)) = false := by simp; omega
            have HR := Lib.hid hr; clear hr
            go_wp2_with fail
            go_ret
            exact ⟨ret_bool (by rw [R.out, decide_eq_false HR.out]), HB.out⟩
        · obtain rfl : n = 0 := by omega
          have R : Hid (transB xs ys = false) := Lib.hid (by simp [transB, LX.out])
          have HOX := Lib.hid ox; have HOY := Lib.hid oy; clear ox oy
          go_enter sqp.func94, sqp.ntmps94
          go_wp2_with fail
          refine (permOk.spec_any A 0 c xs _ _ HX.out hn hc).mono ?_
          rintro e w1 ⟨rfl, rfl⟩
          rw [HOX.out]
          go_wp2_with fail
          refine (permOk.spec_any B 0 d ys _ _ HY.out hm hd).mono ?_
          rintro e w1 ⟨rfl, rfl⟩
          rw [HOY.out]
          go_wp2_with fail
          go_ret
          exact ⟨ret_bool R.out.symm, Below.refl _ _⟩
      · have R : Hid (transB xs ys = false) := Lib.hid (by simp [transB, okBB, LX.out, LY.out, hnm])
        have hb : ((n : Int) == (m : Int)) = false := by simp; omega
        have HOX := Lib.hid ox; have HOY := Lib.hid oy; clear ox oy hnm
        go_enter sqp.func94, sqp.ntmps94
        go_wp2_with fail
        refine (permOk.spec_any A n c xs _ _ HX.out hn hc).mono ?_
        rintro e w1 ⟨rfl, rfl⟩
        rw [HOX.out]
        go_wp2_with fail
        refine (permOk.spec_any B m d ys _ _ HY.out hm hd).mono ?_
        rintro e w1 ⟨rfl, rfl⟩
        rw [HOY.out]
        go_wp2_with fail
        go_ret
        exact ⟨ret_bool R.out.symm, Below.refl _ _⟩
    · have oy' : okB ys = false := by simpa using oy
      have R : Hid (transB xs ys = false) := Lib.hid (by simp [transB, okBB, oy'])
      have HOX := Lib.hid ox; have HOY := Lib.hid oy'; clear ox oy oy'
      go_enter sqp.func94, sqp.ntmps94
      go_wp2_with fail
      refine (permOk.spec_any A n c xs _ _ HX.out hn hc).mono ?_
      rintro e w1 ⟨rfl, rfl⟩
      rw [HOX.out]
      go_wp2_with fail
      refine (permOk.spec_any B m d ys _ _ HY.out hm hd).mono ?_
      rintro e w1 ⟨rfl, rfl⟩
      rw [HOY.out]
      go_wp2_with fail
      go_ret
      exact ⟨ret_bool R.out.symm, Below.refl _ _⟩
  · have ox' : okB xs = false := by simpa using ox
    have R : Hid (transB xs ys = false) := Lib.hid (by simp [transB, okBB, ox'])
    have HOX := Lib.hid ox'; clear ox ox'
    go_enter sqp.func94, sqp.ntmps94
    go_wp2_with fail
    refine (permOk.spec_any A n c xs _ _ HX.out hn hc).mono ?_
    rintro e w1 ⟨rfl, rfl⟩
    rw [HOX.out]
    go_wp2_with fail
    go_ret
    exact ⟨ret_bool R.out.symm, Below.refl _ _⟩
set_option maxHeartbeats 2000000 in
theorem trans_impl_pos (A : Option Addr) (n c : Nat) (xs : List Int) (B : Option Addr) (m d : Nat) (ys : List Int) (h1 h2 : Nat) (w : World) (hx : Rd w h1 A n (V xs)) (hy : Rd w h2 B m (V ys)) (hn : n ≤ 1048576) (hm : m ≤ 1048576) (hn0 : 0 < n) :
    Calls sqp.prog 106 #[.slice A n c, .slice B m d] w fun e w' => e = .returned (.bool (transB xs ys)) ∧ Below w.heap.size w w' := by
  have lx : xs.length = n := by simpa [V] using hx.1
  have ly : ys.length = m := by simpa [V] using hy.1
  have LX := Lib.hid lx; have LY := Lib.hid ly; clear lx ly
  have HX := Lib.hid hx; have HY := Lib.hid hy; clear hx hy
  by_cases hall : okBB xs ys = true
  · obtain ⟨ox, oy, el⟩ := okBB_iff.1 hall
    have OX := Lib.hid (Ok.of xs ox); have OY := Lib.hid (Ok.of ys oy)
    have hn24 : n ≤ 24 := by have := OX.out.len; rw [LX.out] at this; exact this
    have HF : Hid (transB xs ys = decide ((reach (ext xs) (ext ys) 0).length = n)) := Lib.hid (by rw [reach_ext OX.out OY.out el (by omega) (by rw [LX.out]; omega)]; simp [transB, hall, LX.out, hn0])
    have HA := Lib.hid hall; clear hall ox oy el
    go_enter sqp.func106, sqp.ntmps106
    go_wp2_with fail
    refine (permsOf_any A n c B m d xs ys _ _ _ HX.out HY.out hn hm HX.out.2.1 HY.out.2.1).mono ?_
    rintro e w1 ⟨rfl, b1⟩
    rw [HA.out, if_pos rfl, if_pos rfl]
    have B1 := Lib.hid b1; clear b1
    go_wp2_with (first | (refine wpList_store_row rfl 63 (.tmp 5) (.tmp 12) rfl w1.heap.size (V (ext xs)).toArray rfl rfl 63 (V zeros).toArray ((Arr.new w1 (V zeros) _ rfl).alloc _) (size_V (ext_len _)) (by simp [V_len, ext_len, zeros]) (one_V _) ?_; generalize hw3 : ((w1.alloc (.cells #[.int .i64 0, .int .i64 0, .int .i64 0, .int .i64 0, .int .i64 0, .int .i64 0, .int .i64 0, .int .i64 0, .int .i64 0, .int .i64 0, .int .i64 0, .int .i64 0, .int .i64 0, .int .i64 0, .int .i64 0, .int .i64 0, .int .i64 0, .int .i64 0, .int .i64 0, .int .i64 0, .int .i64 0, .int .i64 0, .int .i64 0, .int .i64 0] 63)).alloc (.cells #[.int .i64 0, .int .i64 0, .int .i64 0, .int .i64 0, .int .i64 0, .int .i64 0, .int .i64 0, .int .i64 0, .int .i64 0, .int .i64 0, .int .i64 0, .int .i64 0, .int .i64 0, .int .i64 0, .int .i64 0, .int .i64 0, .int .i64 0, .int .i64 0, .int .i64 0, .int .i64 0, .int .i64 0, .int .i64 0, .int .i64 0, .int .i64 0] 63)).setRow w1.heap.size (V (ext xs)).toArray = w3; have S1 : Hid (Arr w3 w1.heap.size (V (ext xs)) 63) := Lib.hid (by rw [← hw3]; exact ((Arr.new w1 (V zeros) _ rfl).alloc _).row); have S2 : Hid (Arr w3 (w1.heap.size + 1) (V zeros) 63) := Lib.hid (by rw [← hw3]; exact (Arr.new _ (V zeros) _ (by simp)).rowOther (by omega)); have B3 : Hid (Below w.heap.size w w3) := Lib.hid (by rw [← hw3]; exact arr.below_setRow ((B1.out.alloc B1.out.size _).alloc (by have := B1.out.size; simp; omega) _) B1.out.size _); clear hw3) | (refine wpList_store_row rfl 63 (.tmp 6) (.tmp 13) rfl (w1.heap.size + 1) (V (ext ys)).toArray rfl rfl 63 (V zeros).toArray S2.out (size_V (ext_len _)) (by simp [V_len, ext_len, zeros]) (one_V _) ?_; generalize hw4 : w3.setRow (w1.heap.size + 1) (V (ext ys)).toArray = w4; have T1 : Hid (Arr w4 w1.heap.size (V (ext xs)) 63) := Lib.hid (by rw [← hw4]; exact S1.out.rowOther (by omega)); have T2 : Hid (Arr w4 (w1.heap.size + 1) (V (ext ys)) 63) := Lib.hid (by rw [← hw4]; exact S2.out.row); have B4 : Hid (Below w.heap.size w w4) := Lib.hid (by rw [← hw4]; exact arr.below_setRow B3.out (by have := B1.out.size; omega) _); clear hw4 S1 S2 B3) | (refine wpList_load_row_g rfl 63 (.tmp 5) rfl w1.heap.size rfl 63 (V (ext xs)).toArray (0, 0) _ T1.out sqp.underlying63 rfl (size_V (ext_len _)) ?_) | (refine wpList_load_row_g rfl 63 (.tmp 6) rfl (w1.heap.size + 1) rfl 63 (V (ext ys)).toArray (0, 0) _ T2.out sqp.underlying63 rfl (size_V (ext_len _)) ?_))
    refine (count_any (ext xs) (ext ys) _ OX.out.sq OY.out.sq).mono ?_
    rintro e w2 ⟨rfl, b2⟩
    have B2 := Lib.hid (B4.out.trans (b2.mono B4.out.size))
    clear b2 B1 B4 T1 T2
    generalize (reach (ext xs) (ext ys) 0).length = r at *
    by_cases hr : r = n
    · subst hr
      go_wp2_with fail
      go_ret
      exact ⟨ret_bool (by rw [HF.out]; simp), B2.out⟩
    · have hq : ((r : Int) == (n : Int)) = false := by simp; omega
      have HR := Lib.hid hr; clear hr
      go_wp2_with fail
      go_ret
      exact ⟨ret_bool (by rw [HF.out, decide_eq_false HR.out]), B2.out⟩
  · have hall' : okBB xs ys = false := by simpa using hall
    have HF : Hid (transB xs ys = false) := Lib.hid (by simp [transB, hall'])
    have HA := Lib.hid hall'; clear hall hall'
    go_enter sqp.func106, sqp.ntmps106
    go_wp2_with fail
    refine (permsOf_any A n c B m d xs ys _ _ _ HX.out HY.out hn hm HX.out.2.1 HY.out.2.1).mono ?_
    rintro e w1 ⟨rfl, b1⟩
    rw [HA.out, if_neg (by decide), if_neg (by decide)]
    have B1 := Lib.hid b1; clear b1
    go_wp2_with (first | (refine wpList_store_row rfl 63 (.tmp 5) (.tmp 12) rfl w1.heap.size (V zeros).toArray rfl rfl 63 (V zeros).toArray ((Arr.new w1 (V zeros) _ rfl).alloc _) (size_V zeros_len) rfl (one_V _) ?_; generalize hw3 : ((w1.alloc (.cells #[.int .i64 0, .int .i64 0, .int .i64 0, .int .i64 0, .int .i64 0, .int .i64 0, .int .i64 0, .int .i64 0, .int .i64 0, .int .i64 0, .int .i64 0, .int .i64 0, .int .i64 0, .int .i64 0, .int .i64 0, .int .i64 0, .int .i64 0, .int .i64 0, .int .i64 0, .int .i64 0, .int .i64 0, .int .i64 0, .int .i64 0, .int .i64 0] 63)).alloc (.cells #[.int .i64 0, .int .i64 0, .int .i64 0, .int .i64 0, .int .i64 0, .int .i64 0, .int .i64 0, .int .i64 0, .int .i64 0, .int .i64 0, .int .i64 0, .int .i64 0, .int .i64 0, .int .i64 0, .int .i64 0, .int .i64 0, .int .i64 0, .int .i64 0, .int .i64 0, .int .i64 0, .int .i64 0, .int .i64 0, .int .i64 0, .int .i64 0] 63)).setRow w1.heap.size (V zeros).toArray = w3; have S1 : Hid (Arr w3 w1.heap.size (V zeros) 63) := Lib.hid (by rw [← hw3]; exact ((Arr.new w1 (V zeros) _ rfl).alloc _).row); have S2 : Hid (Arr w3 (w1.heap.size + 1) (V zeros) 63) := Lib.hid (by rw [← hw3]; exact (Arr.new _ (V zeros) _ (by simp)).rowOther (by omega)); have B3 : Hid (Below w.heap.size w w3) := Lib.hid (by rw [← hw3]; exact arr.below_setRow ((B1.out.alloc B1.out.size _).alloc (by have := B1.out.size; simp; omega) _) B1.out.size _); clear hw3) | (refine wpList_store_row rfl 63 (.tmp 6) (.tmp 13) rfl (w1.heap.size + 1) (V zeros).toArray rfl rfl 63 (V zeros).toArray S2.out (size_V zeros_len) rfl (one_V _) ?_; generalize hw4 : w3.setRow (w1.heap.size + 1) (V zeros).toArray = w4; have T1 : Hid (Arr w4 w1.heap.size (V zeros) 63) := Lib.hid (by rw [← hw4]; exact S1.out.rowOther (by omega)); have T2 : Hid (Arr w4 (w1.heap.size + 1) (V zeros) 63) := Lib.hid (by rw [← hw4]; exact S2.out.row); have B4 : Hid (Below w.heap.size w w4) := Lib.hid (by rw [← hw4]; exact arr.below_setRow B3.out (by have := B1.out.size; omega) _); clear hw4 S1 S2 B3))
    go_ret
    exact ⟨ret_bool HF.out.symm, B4.out⟩

set_option maxHeartbeats 2000000 in
theorem trans_impl_zero (A : Option Addr) (n c : Nat) (xs : List Int) (B : Option Addr) (m d : Nat) (ys : List Int) (h1 h2 : Nat) (w : World) (hx : Rd w h1 A n (V xs)) (hy : Rd w h2 B m (V ys)) (hn : n ≤ 1048576) (hm : m ≤ 1048576) (hn0 : n = 0) :
    Calls sqp.prog 106 #[.slice A n c, .slice B m d] w fun e w' => e = .returned (.bool (transB xs ys)) ∧ Below w.heap.size w w' := by
  subst hn0
  have lx : xs.length = 0 := by simpa [V] using hx.1
  have ly : ys.length = m := by simpa [V] using hy.1
  have LX := Lib.hid lx; have LY := Lib.hid ly; clear lx ly
  have HX := Lib.hid hx; have HY := Lib.hid hy; clear hx hy
  by_cases hall : okBB xs ys = true
  · obtain ⟨ox, oy, el⟩ := okBB_iff.1 hall
    have OX := Lib.hid (Ok.of xs ox); have OY := Lib.hid (Ok.of ys oy)
    have hn24 : 0 ≤ 24 := by have := OX.out.len; rw [LX.out] at this; exact this
    have HF : Hid (transB xs ys = false) := Lib.hid (by simp [transB, LX.out])
    have HA := Lib.hid hall; clear hall ox oy el
    go_enter sqp.func106, sqp.ntmps106
    go_wp2_with fail
    refine (permsOf_any A 0 c B m d xs ys _ _ _ HX.out HY.out hn hm HX.out.2.1 HY.out.2.1).mono ?_
    rintro e w1 ⟨rfl, b1⟩
    rw [HA.out, if_pos rfl, if_pos rfl]
    have B1 := Lib.hid b1; clear b1
    go_wp2_with (first | (refine wpList_store_row rfl 63 (.tmp 5) (.tmp 12) rfl w1.heap.size (V (ext xs)).toArray rfl rfl 63 (V zeros).toArray ((Arr.new w1 (V zeros) _ rfl).alloc _) (size_V (ext_len _)) (by simp [V_len, ext_len, zeros]) (one_V _) ?_; generalize hw3 : ((w1.alloc (.cells #[.int .i64 0, .int .i64 0, .int .i64 0, .int .i64 0, .int .i64 0, .int .i64 0, .int .i64 0, .int .i64 0, .int .i64 0, .int .i64 0, .int .i64 0, .int .i64 0, .int .i64 0, .int .i64 0, .int .i64 0, .int .i64 0, .int .i64 0, .int .i64 0, .int .i64 0, .int .i64 0, .int .i64 0, .int .i64 0, .int .i64 0, .int .i64 0] 63)).alloc (.cells #[.int .i64 0, .int .i64 0, .int .i64 0, .int .i64 0, .int .i64 0, .int .i64 0, .int .i64 0, .int .i64 0, .int .i64 0, .int .i64 0, .int .i64 0, .int .i64 0, .int .i64 0, .int .i64 0, .int .i64 0, .int .i64 0, .int .i64 0, .int .i64 0, .int .i64 0, .int .i64 0, .int .i64 0, .int .i64 0, .int .i64 0, .int .i64 0] 63)).setRow w1.heap.size (V (ext xs)).toArray = w3; have S1 : Hid (Arr w3 w1.heap.size (V (ext xs)) 63) := Lib.hid (by rw [← hw3]; exact ((Arr.new w1 (V zeros) _ rfl).alloc _).row); have S2 : Hid (Arr w3 (w1.heap.size + 1) (V zeros) 63) := Lib.hid (by rw [← hw3]; exact (Arr.new _ (V zeros) _ (by simp)).rowOther (by omega)); have B3 : Hid (Below w.heap.size w w3) := Lib.hid (by rw [← hw3]; exact arr.below_setRow ((B1.out.alloc B1.out.size _).alloc (by have := B1.out.size; simp; omega) _) B1.out.size _); clear hw3) | (refine wpList_store_row rfl 63 (.tmp 6) (.tmp 13) rfl (w1.heap.size + 1) (V (ext ys)).toArray rfl rfl 63 (V zeros).toArray S2.out (size_V (ext_len _)) (by simp [V_len, ext_len, zeros]) (one_V _) ?_; generalize hw4 : w3.setRow (w1.heap.size + 1) (V (ext ys)).toArray = w4; have T1 : Hid (Arr w4 w1.heap.size (V (ext xs)) 63) := Lib.hid (by rw [← hw4]; exact S1.out.rowOther (by omega)); have T2 : Hid (Arr w4 (w1.heap.size + 1) (V (ext ys)) 63) := Lib.hid (by rw [← hw4]; exact S2.out.row); have B4 : Hid (Below w.heap.size w w4) := Lib.hid (by rw [← hw4]; exact arr.below_setRow B3.out (by have := B1.out.size; omega) _); clear hw4 S1 S2 B3))
    go_ret
    exact ⟨ret_bool HF.out.symm, B4.out⟩
  · have hall' : okBB xs ys = false := by simpa using hall
    have HF : Hid (transB xs ys = false) := Lib.hid (by simp [transB, hall'])
    have HA := Lib.hid hall'; clear hall hall'
    go_enter sqp.func106, sqp.ntmps106
    go_wp2_with fail
    refine (permsOf_any A 0 c B m d xs ys _ _ _ HX.out HY.out hn hm HX.out.2.1 HY.out.2.1).mono ?_
    rintro e w1 ⟨rfl, b1⟩
    rw [HA.out, if_neg (by decide), if_neg (by decide)]
    have B1 := Lib.hid b1; clear b1
    go_wp2_with (first | (refine wpList_store_row rfl 63 (.tmp 5) (.tmp 12) rfl w1.heap.size (V zeros).toArray rfl rfl 63 (V zeros).toArray ((Arr.new w1 (V zeros) _ rfl).alloc _) (size_V zeros_len) rfl (one_V _) ?_; generalize hw3 : ((w1.alloc (.cells #[.int .i64 0, .int .i64 0, .int .i64 0, .int .i64 0, .int .i64 0, .int .i64 0, .int .i64 0, .int .i64 0, .int .i64 0, .int .i64 0, .int .i64 0, .int .i64 0, .int .i64 0, .int .i64 0, .int .i64 0, .int .i64 0, .int .i64 0, .int .i64 0, .int .i64 0, .int .i64 0, .int .i64 0, .int .i64 0, .int .i64 0, .int .i64 0] 63)).alloc (.cells #[.int .i64 0, .int .i64 0, .int .i64 0, .int .i64 0, .int .i64 0, .int .i64 0, .int .i64 0, .int .i64 0, .int .i64 0, .int .i64 0, .int .i64 0, .int .i64 0, .int .i64 0, .int .i64 0, .int .i64 0, .int .i64 0, .int .i64 0, .int .i64 0, .int .i64 0, .int .i64 0, .int .i64 0, .int .i64 0, .int .i64 0, .int .i64 0] 63)).setRow w1.heap.size (V zeros).toArray = w3; have S1 : Hid (Arr w3 w1.heap.size (V zeros) 63) := Lib.hid (by rw [← hw3]; exact ((Arr.new w1 (V zeros) _ rfl).alloc _).row); have S2 : Hid (Arr w3 (w1.heap.size + 1) (V zeros) 63) := Lib.hid (by rw [← hw3]; exact (Arr.new _ (V zeros) _ (by simp)).rowOther (by omega)); have B3 : Hid (Below w.heap.size w w3) := Lib.hid (by rw [← hw3]; exact arr.below_setRow ((B1.out.alloc B1.out.size _).alloc (by have := B1.out.size; simp; omega) _) B1.out.size _); clear hw3) | (refine wpList_store_row rfl 63 (.tmp 6) (.tmp 13) rfl (w1.heap.size + 1) (V zeros).toArray rfl rfl 63 (V zeros).toArray S2.out (size_V zeros_len) rfl (one_V _) ?_; generalize hw4 : w3.setRow (w1.heap.size + 1) (V zeros).toArray = w4; have T1 : Hid (Arr w4 w1.heap.size (V zeros) 63) := Lib.hid (by rw [← hw4]; exact S1.out.rowOther (by omega)); have T2 : Hid (Arr w4 (w1.heap.size + 1) (V zeros) 63) := Lib.hid (by rw [← hw4]; exact S2.out.row); have B4 : Hid (Below w.heap.size w w4) := Lib.hid (by rw [← hw4]; exact arr.below_setRow B3.out (by have := B1.out.size; omega) _); clear hw4 S1 S2 B3))
    go_ret
    exact ⟨ret_bool HF.out.symm, B4.out⟩
theorem trans_impl (A : Option Addr) (n c : Nat) (xs : List Int) (B : Option Addr) (m d : Nat) (ys : List Int) (h1 h2 : Nat) (w : World) (hx : Rd w h1 A n (V xs)) (hy : Rd w h2 B m (V ys)) (hn : n ≤ 1048576) (hm : m ≤ 1048576) :
    Calls sqp.prog 106 #[.slice A n c, .slice B m d] w fun e w' => e = .returned (.bool (transB xs ys)) ∧ Below w.heap.size w w' := by
  rcases Nat.eq_zero_or_pos n with h0 | h0
  · exact trans_impl_zero A n c xs B m d ys h1 h2 w hx hy hn hm h0
  · exact trans_impl_pos A n c xs B m d ys h1 h2 w hx hy hn hm h0
end Go.Proofs.Ytddppmbllcnkoaa.fns

/-
  Contracts of spec.SameList, slices.Equal at ints, impl.SameList.
-/
namespace Go.Proofs.Ytddppmbllcnkoaa.same
open Go.ChangeShapes Go.WideShapes Go.ChangeAt Go.RowKit
open Go.Proofs.Ytddppmbllcnkoaa.mem Go.Proofs.Ytddppmbllcnkoaa.ints
set_option linter.unusedVariables false
set_option maxRecDepth 100000

set_option maxHeartbeats 400000 in
theorem spec_any (A : Option Addr) (n c : Nat) (B : Option Addr) (m d : Nat) (xs ys : List Int) (h1 h2 : Nat) (w : World)
    (hx : Rd w h1 A n (V xs)) (hy : Rd w h2 B m (V ys)) (hn : n ≤ maxLen) (hm : m ≤ maxLen) :
    Calls sqp.prog 132 #[.slice A n c, .slice B m d] w fun e w' => e = .returned (.bool (eqi xs ys)) ∧ Drawn w w' := by
  unfold maxLen at hn hm
  have lx : xs.length = n := by simpa [V] using hx.1
  have ly : ys.length = m := by simpa [V] using hy.1
  have LX := Lib.hid lx; have LY := Lib.hid ly; clear lx ly
  have HX := Lib.hid hx; have HY := Lib.hid hy; clear hx hy
  by_cases hnm : n = m
  · obtain rfl : m = n := hnm.symm
    clear hnm
    go_enter sqp.func132, sqp.ntmps132
    go_wp2
    go_loopw [14] (fun i wr => ∃ k : Nat, k ≤ m ∧ i = .int .i64 k ∧ Drawn w wr ∧ Same xs ys k) (fun i _ => m - (intOf i).toNat)
    case atStart => exact ⟨0, Nat.zero_le _, rfl, ⟨0, rfl⟩, fun j hj => by omega⟩
    case round =>
      obtain ⟨k, hk, rfl, hdr, hsame⟩ := hrel
      have HS := Lib.hid hsame; have HD := Lib.hid hdr; clear hsame hdr
      by_cases hlt : k < m
      · obtain ⟨g, off, u, rfl, _, hxu, hcx⟩ := HX.out.at_ hlt
        obtain ⟨g', off', u', rfl, _, hyu, hcy⟩ := HY.out.at_ hlt
        obtain ⟨s, hxs, rfl⟩ := V_at hxu
        obtain ⟨t, hyt, rfl⟩ := V_at hyu
        rw [← HD.out.cell] at hcx hcy
        have HXS := Lib.hid hxs; have HYT := Lib.hid hyt; clear hxs hyt hxu hyu
        by_cases hst : s = t
        · subst hst
          go_wp2
          go_roundw
          case rel => exact ⟨k + 1, by omega, by go_num, HD.out, HS.out.step HXS.out HYT.out⟩
          case measure => simp [intOf]; omega
        · have hb : (s != t) = true := by simpa using hst
          have HST := Lib.hid hst; clear hst
          go_wp2
          go_ret
          exact ⟨ret_bool (eqi_no HXS.out HYT.out HST.out).symm, HD.out⟩
      · obtain rfl : k = m := by omega
        go_wp2
        go_ret
        exact ⟨ret_bool (eqi_yes LX.out LY.out HS.out).symm, HD.out⟩
  · have hb : ((n : Int) != (m : Int)) = true := by simp; omega
    have HB : eqi xs ys = false := eqi_len (by rw [LX.out, LY.out]; exact hnm)
    have HB := Lib.hid HB
    clear hnm
    go_enter sqp.func132, sqp.ntmps132
    go_wp2
    go_ret
    exact ⟨ret_bool HB.out.symm, 0, rfl⟩

theorem spec_b (A : Option Addr) (n c : Nat) (xs : List Int) (B : Option Addr) (m d : Nat) (ys : List Int) (h1 h2 : Nat) (w : World)
    (hx : Rd w h1 A n (V xs)) (hy : Rd w h2 B m (V ys)) (hn : n ≤ 1048576) (hm : m ≤ 1048576) :
    Calls sqp.prog 132 #[.slice A n c, .slice B m d] w fun e w' => e = .returned (.bool (eqi xs ys)) ∧ Below w.heap.size w w' :=
  (spec_any A n c B m d xs ys h1 h2 w hx hy (by unfold maxLen; omega) (by unfold maxLen; omega)).mono fun _ _ ⟨he, hd⟩ => ⟨he, hd.below _⟩

end Go.Proofs.Ytddppmbllcnkoaa.same

/-
  Contracts of SurfaceOk, CountSquares, SameSurface, of the model and of the program.
-/
namespace Go.Proofs.Ytddppmbllcnkoaa.sf
open Go.ChangeShapes Go.WideShapes Go.ChangeAt Go.RowKit
open Go.Proofs.Ytddppmbllcnkoaa.mem Go.Proofs.Ytddppmbllcnkoaa.ints Go.Proofs.Ytddppmbllcnkoaa.arr Go.Proofs.Ytddppmbllcnkoaa.pm Go.Proofs.Ytddppmbllcnkoaa.fns
set_option linter.unusedVariables false
set_option maxRecDepth 100000

theorem Srd.open {w : World} {hi : Nat} {v : Value} {r u : List Int} (h : Srd w hi v r u) :
    ∃ P n c Q m d, v = .agg #[.slice P n c, .slice Q m d] ∧ r.length = n ∧ u.length = m ∧ n ≤ c ∧ m ≤ d ∧ hi ≤ w.heap.size ∧ Hid (∀ o, Rd (w.alloc o) hi P n (V r) ∧ Rd (w.alloc o) hi Q m (V u)) := by
  obtain ⟨P, n, c, Q, m, d, rfl, a, b, e1, e2⟩ := h
  exact ⟨P, n, c, Q, m, d, rfl, by simpa [V] using a.1, by simpa [V] using b.1, e1, e2, a.2.1, Lib.hid (fun o => ⟨a.keep ((Below.refl hi w).alloc a.2.1 o) (Nat.le_refl _), b.keep ((Below.refl hi w).alloc a.2.1 o) (Nat.le_refl _)⟩)⟩
theorem below1 (w : World) (o : Obj) {w' : World} (h : Below (w.alloc o).heap.size (w.alloc o) w') : Below w.heap.size w w' := ((Below.refl _ _).alloc (Nat.le_refl _) _).trans (h.mono (by simp))

set_option maxHeartbeats 400000 in
theorem ok_spec (v : Value) (r u : List Int) (hi : Nat) (w : World) (hx : Srd w hi v r u) (hn : r.length ≤ 1048576) (hm : u.length ≤ 1048576) :
    Calls sqp.prog 65 #[v] w fun e w' => e = .returned (.bool (transB r u)) ∧ Below w.heap.size w w' := by
  obtain ⟨P, n, c, Q, m, d, rfl, q1, q2, e1, e2, ht, HR⟩ := hx.open
  clear hx
  go_enter sqp.func65, sqp.ntmps65
  go_wp2_with fail
  refine (trans_spec P n c r Q m d u _ _ _ (HR.out _).1 (HR.out _).2 (by omega) (by omega) e1 e2).mono ?_
  rintro e w1 ⟨rfl, b1⟩
  have B1 := Lib.hid (below1 _ _ b1); clear b1
  go_wp2_with fail
  go_ret
  exact ⟨rfl, B1.out⟩

set_option maxHeartbeats 400000 in
theorem ok_impl (v : Value) (r u : List Int) (hi : Nat) (w : World) (hx : Srd w hi v r u) (hn : r.length ≤ 1048576) (hm : u.length ≤ 1048576) :
    Calls sqp.prog 84 #[v] w fun e w' => e = .returned (.bool (transB r u)) ∧ Below w.heap.size w w' := by
  obtain ⟨P, n, c, Q, m, d, rfl, q1, q2, e1, e2, ht, HR⟩ := hx.open
  clear hx
  go_enter sqp.func84, sqp.ntmps84
  go_wp2_with fail
  refine (trans_impl P n c r Q m d u _ _ _ (HR.out _).1 (HR.out _).2 (by omega) (by omega)).mono ?_
  rintro e w1 ⟨rfl, b1⟩
  have B1 := Lib.hid (below1 _ _ b1); clear b1
  go_wp2_with fail
  go_ret
  exact ⟨rfl, B1.out⟩

def sameF (r u r' u' : List Int) : Bool := eqi r r' && eqi u u'
set_option maxHeartbeats 1000000 in
theorem same_spec (x : Value) (r u : List Int) (y : Value) (r' u' : List Int) (h1 h2 : Nat) (w : World) (hx : Srd w h1 x r u) (hy : Srd w h2 y r' u') (hn : r.length ≤ 1048576) (hm : u.length ≤ 1048576) (hn' : r'.length ≤ 1048576) (hm' : u'.length ≤ 1048576) :
    Calls sqp.prog 96 #[x, y] w fun e w' => e = .returned (.bool (sameF r u r' u')) ∧ Below w.heap.size w w' := by
  obtain ⟨P, n, c, Q, m, d, rfl, rp, rq, e1, e2⟩ := hx
  obtain ⟨P', n', c', Q', m', d', rfl, rp', rq', e1', e2'⟩ := hy
  have q1 : r.length = n := by simpa [V] using rp.1
  have q2 : u.length = m := by simpa [V] using rq.1
  have q1' : r'.length = n' := by simpa [V] using rp'.1
  have q2' : u'.length = m' := by simpa [V] using rq'.1
  have RP := Lib.hid rp; have RQ := Lib.hid rq; have RP' := Lib.hid rp'; have RQ' := Lib.hid rq'; clear rp rq rp' rq'
  have HI := RP.out.2.1; have HI' := RP'.out.2.1
  have B1 : Hid (∀ a b, Below w.heap.size w ((w.alloc a).alloc b)) := Lib.hid (fun a b => ((Below.refl _ _).alloc (Nat.le_refl _) _).alloc (by simp) _)
  go_enter sqp.func96, sqp.ntmps96
  go_wp2_with fail
  refine (same.spec_b P n c r P' n' c' r' _ _ _ (RP.out.keep (B1.out _ _) HI) (RP'.out.keep (B1.out _ _) HI') (by omega) (by omega)).mono ?_
  rintro e w1 ⟨rfl, d1⟩
  by_cases hh : eqi r r' = true
  · rw [hh]
    have D1 := Lib.hid d1; clear d1
    have c1 := (((Arr.new w [.slice P n c, .slice Q m d] 25 rfl).alloc (.cells #[.slice P' n' c', .slice Q' m' d'] 25)).keep D1.out (by simp <;> omega)).cell (k := 1) rfl
    have c2 := ((Arr.new (w.alloc (.cells #[.slice P n c, .slice Q m d] 25)) [.slice P' n' c', .slice Q' m' d'] 25 (g := w.heap.size + 1) (by simp <;> omega)).keep D1.out (by simp <;> omega)).cell (k := 1) rfl
    have BB : Hid (Below w.heap.size w w1) := Lib.hid ((B1.out _ _).trans (D1.out.mono (by simp <;> omega)))
    go_wp2_with fail
    refine (same.spec_b Q m d u Q' m' d' u' _ _ _ (RQ.out.keep BB.out HI) (RQ'.out.keep BB.out HI') (by omega) (by omega)).mono ?_
    rintro e w2 ⟨rfl, d2⟩
    have BB2 : Hid (Below w.heap.size w w2) := Lib.hid (BB.out.trans (d2.mono BB.out.size))
    clear d2
    have HH := Lib.hid hh; clear hh
    cases hq : eqi u u' <;> (have HQ := Lib.hid hq; clear hq; go_wp2_with fail; go_ret; exact ⟨ret_bool (by rw [sameF, HH.out, HQ.out]; rfl), BB2.out⟩)
  · have hf : eqi r r' = false := by simpa using hh
    rw [hf]
    have BB : Hid (Below w.heap.size w w1) := Lib.hid ((B1.out _ _).trans (d1.mono (by simp <;> omega)))
    have HH := Lib.hid hf; clear d1 hf hh
    go_wp2_with fail
    go_ret
    exact ⟨ret_bool (by rw [sameF, HH.out]; rfl), BB.out⟩
end Go.Proofs.Ytddppmbllcnkoaa.sf

/-
  Contracts of RenamePerm, of the model and of the program.
-/
namespace Go.Proofs.Ytddppmbllcnkoaa.fns
open Go.ChangeShapes Go.WideShapes Go.ChangeAt Go.RowKit
open Go.Proofs.Ytddppmbllcnkoaa.mem Go.Proofs.Ytddppmbllcnkoaa.ints Go.Proofs.Ytddppmbllcnkoaa.arr Go.Proofs.Ytddppmbllcnkoaa.pm Go.Proofs.Ytddppmbllcnkoaa.permOk Go.Proofs.Ytddppmbllcnkoaa.permOf Go.Proofs.Ytddppmbllcnkoaa.inv
set_option linter.unusedVariables false
set_option maxRecDepth 100000

theorem Made.drew {n : Nat} {w wr : World} {l : List Int} (h : Made n w wr l) : Made n w wr.drew l := ⟨h.1.drew, ⟨h.2.os, h.2.tape, h.2.output, h.2.size, h.2.block⟩⟩
set_option maxHeartbeats 1000000 in
theorem l02ren_any (A : Option Addr) (n c : Nat) (B : Option Addr) (m d : Nat) (xs ys : List Int) (h1 h2 : Nat) (w : World) (hx : Rd w h1 A n (V xs)) (hy : Rd w h2 B m (V ys)) (ok : Ok xs) (oky : Ok ys) (hnm : n = m) :
    Calls sqp.prog 133 #[.slice A n c, .slice B m d] w (Gives (renTo n xs ys n) w) := by
  subst hnm
  obtain ⟨i0, hi0, hz0, hz1, hz2⟩ := info_parts infoI
  have lx : xs.length = n := by simpa [V] using hx.1
  have ly : ys.length = n := by simpa [V] using hy.1
  have hn : n ≤ 24 := by have := ok.len; omega
  have LX := Lib.hid lx; have LY := Lib.hid ly; clear lx ly
  have OK := Lib.hid ok; have OKY := Lib.hid oky; clear ok oky
  have HX := Lib.hid hx; have HY := Lib.hid hy; clear hx hy
  have HZ2 := Lib.hid hz2; clear hz2
  go_enter sqp.func133, sqp.ntmps133
  go_wp2_with (at_make; refine wpList_make_full _ rfl _ _ 23 rfl w.heap.size 3 i0 _ 1 sqp.underlying23 hi0 hz0 hz1 _ _ _ _ n rfl rfl rfl rfl ?b2 ?b3 (Nat.le_refl _) ?_)
  case b2 => rw [HZ2.out]; omega
  case b3 => unfold maxLen; omega
  intro w1 hown hg
  have hb1 : Below w.heap.size w w1 := (Below.refl _ _).grown hg (Nat.le_refl _) (by simp)
  have HM : Hid (Made n w w1 (renTo n xs ys 0)) := Lib.hid ⟨by simpa [renTo, setTo, V, toList_madeCells_one] using hown, hb1⟩
  clear hown hg hb1
  go_wp2
  go_loopw [13] (fun i wr => ∃ k : Nat, k ≤ n ∧ i = .int .i64 k ∧ Made n w wr (renTo n xs ys k)) (fun i _ => n - (intOf i).toNat)
  case atStart => exact ⟨0, Nat.zero_le _, rfl, HM.out⟩
  case round =>
    obtain ⟨k, hk, rfl, hm⟩ := hrel
    have HR := Lib.hid hm; clear hm HM
    by_cases hlt : k < n
    · obtain ⟨g, off, u, rfl, hgl, hxu, hcx⟩ := HX.out.at_ hlt
      obtain ⟨s, hxs, rfl⟩ := V_at hxu
      obtain ⟨z, hz, hqz, hqd⟩ := Ok.nat OK.out (k := k) (by rw [LX.out]; exact hlt)
      rw [hqz] at hxs
      obtain rfl := Option.some.inj hxs
      rw [LX.out] at hz
      obtain ⟨g', off', u', e', hgl', hyu, hcy⟩ := HY.out.at_ hz
      obtain ⟨t, hyt, rfl⟩ := V_at hyu
      obtain ⟨g2, off2, u2, rfl, hgl2, hyu2, hcy2⟩ := HY.out.at_ hlt
      injection e' with e'; injection e' with e1 e2; subst e1; subst e2
      obtain ⟨t2, hyt2, rfl⟩ := V_at hyu2
      obtain ⟨z2, hz2, hqz2, hqd2⟩ := Ok.nat OKY.out (k := k) (by rw [LY.out]; exact hlt)
      rw [hqz2] at hyt2
      obtain rfl := Option.some.inj hyt2
      rw [LY.out] at hz2
      have hgw : g < w.heap.size := Nat.lt_of_lt_of_le hgl HX.out.2.1
      have hgw' : g2 < w.heap.size := Nat.lt_of_lt_of_le hgl' HY.out.2.1
      rw [← HR.out.2.cell (p := ⟨g, off + k, none⟩) hgw] at hcx
      rw [← HR.out.2.cell (p := ⟨g2, off2 + z, none⟩) hgw'] at hcy
      rw [← HR.out.2.cell (p := ⟨g2, off2 + k, none⟩) hgw'] at hcy2
      have hc := HR.out.cell hz2
      have hf := HR.out.1.frozenAt z2
      have HD := Lib.hid hqd; have HD2 := Lib.hid hqd2; have HT := Lib.hid (permOk.getD_of hyt); clear hqd hqz hxs hxu hyu hyt hqz2 hqd2 hyt2 hyu2
      go_wp2
      go_region
      go_wp2
      go_roundw
      case rel =>
        refine ⟨k + 1, by omega, by go_num, ?_⟩
        rw [renTo_succ, HD.out, HD2.out, Int.toNat_natCast, Int.toNat_natCast, HT.out]
        exact (HR.out.set_ z2 _).drew
      case measure => simp [intOf]; omega
    · obtain rfl : k = n := by omega
      go_wp2
      go_ret
      exact ⟨_, rfl, by rw [renTo_len]; exact HR.out.1, HR.out.2⟩

end Go.Proofs.Ytddppmbllcnkoaa.fns

/-
  The cycles of a permutation: plain mathematics.
-/
namespace Go.Proofs.Ytddppmbllcnkoaa.pm
open Go.Proofs.Ytddppmbllcnkoaa.arr Go.Proofs.Ytddppmbllcnkoaa.inv Go.Proofs.Ytddppmbllcnkoaa.permOf
set_option linter.unusedVariables false
set_option maxRecDepth 100000

/-- Numbers from 0 up to n go to such numbers, different ones to different ones. -/
structure Bij (n : Nat) (ps : List Int) : Prop where
  maps : Maps n ps
  inj : ∀ i j : Nat, i < n → j < n → ps.getD i 0 = ps.getD j 0 → i = j
theorem Ok.bij {xs : List Int} (h : Ok xs) : Bij xs.length xs := ⟨h.maps, h.inj⟩
theorem getD_mem {l : List Int} {i : Nat} (h : i < l.length) : l.getD i 0 ∈ l := by
  simp [List.getD, List.getElem?_eq_getElem h]
theorem mem_getD {l : List Int} {x : Int} (h : x ∈ l) : ∃ i, i < l.length ∧ l.getD i 0 = x := by
  obtain ⟨i, hi, e⟩ := List.getElem_of_mem h
  exact ⟨i, hi, by simp [List.getD, List.getElem?_eq_getElem hi, e]⟩
theorem nodup_getD {l : List Int} (h : l.Nodup) {i j : Nat} (hi : i < l.length) (hj : j < l.length) (e : l.getD i 0 = l.getD j 0) : i = j := by
  simp only [List.getD, List.getElem?_eq_getElem hi, List.getElem?_eq_getElem hj, Option.getD_some] at e
  have hp := List.pairwise_iff_getElem.1 h
  rcases Nat.lt_trichotomy i j with q | q | q
  · exact absurd e (hp i j hi hj q)
  · exact q
  · exact absurd e.symm (hp j i hj hi q)
structure Cs (n : Nat) (ps : List Int) (k : Nat) (out : List (List Int)) : Prop where
  inn : In n out.flatten
  back : ∀ y : Nat, y < n → ps.getD y 0 ∈ out.flatten → (y : Int) ∈ out.flatten
  all : ∀ i : Nat, i < k → (i : Int) ∈ out.flatten
  len : out.length ≤ k
end Go.Proofs.Ytddppmbllcnkoaa.pm

/-
  Insertion in descending order: plain mathematics.
-/
namespace Go.Proofs.Ytddppmbllcnkoaa.pm
set_option linter.unusedVariables false
set_option maxRecDepth 100000

end Go.Proofs.Ytddppmbllcnkoaa.pm

/-
  Permutations form a group; renaming keeps the lengths of the cycles: plain mathematics.
-/
namespace Go.Proofs.Ytddppmbllcnkoaa.pm
open Go.Proofs.Ytddppmbllcnkoaa.arr Go.Proofs.Ytddppmbllcnkoaa.inv Go.Proofs.Ytddppmbllcnkoaa.permOf
set_option linter.unusedVariables false
set_option maxRecDepth 100000

/-- m steps from f on. -/
def it (ps : List Int) (f : Int) : Nat → Int
  | 0 => f
  | m + 1 => ps.getD (it ps f m).toNat 0
def rng (n : Nat) : List Int := (List.range n).map fun (i : Nat) => (i : Int)
theorem mem_rng {n : Nat} {x : Int} : x ∈ rng n ↔ 0 ≤ x ∧ x < n := by
  unfold rng
  rw [List.mem_map]
  constructor
  · rintro ⟨i, hi, rfl⟩; simp at hi; omega
  · intro h; exact ⟨x.toNat, by simp; omega, by omega⟩
theorem rng_nodup (n : Nat) : (rng n).Nodup := by
  unfold rng List.Nodup
  rw [List.pairwise_map]
  exact List.Pairwise.imp (fun h => by omega) (List.pairwise_lt_range (n := n))
/-- qs is ps renamed by the bijection ns. -/
structure Ren (n : Nat) (ps qs ns : List Int) : Prop where
  p : Bij n ps
  q : Bij n qs
  s : Bij n ns
  eq : ∀ i, i < n → qs.getD (ns.getD i 0).toNat 0 = ns.getD (ps.getD i 0).toNat 0
end Go.Proofs.Ytddppmbllcnkoaa.pm

/-
  Permutations form a group: plain mathematics, in the words of the functions' answers.
-/
namespace Go.Proofs.Ytddppmbllcnkoaa.pm
open Go.Proofs.Ytddppmbllcnkoaa.arr Go.Proofs.Ytddppmbllcnkoaa.inv Go.Proofs.Ytddppmbllcnkoaa.permOf
set_option linter.unusedVariables false
set_option maxRecDepth 100000

def Inv (xs : List Int) : List Int := invTo xs.length xs xs.length
theorem Inv_len (xs : List Int) : (Inv xs).length = xs.length := invTo_len _ _ _
theorem Inv_at {xs : List Int} (h : Ok xs) {k : Nat} (hk : k < xs.length) : (Inv xs).getD (xs.getD k 0).toNat 0 = (k : Int) := inv_at h hk
theorem at_Inv {xs : List Int} (h : Ok xs) {i : Nat} (hi : i < xs.length) : ∃ k, k < xs.length ∧ (Inv xs).getD i 0 = (k : Int) ∧ xs.getD k 0 = (i : Int) := by
  obtain ⟨k, hk, e⟩ := h.onto hi
  refine ⟨k, hk, ?_, e⟩
  have := Inv_at h hk
  rw [e] at this
  simpa using this
theorem Inv_ok {xs : List Int} (h : Ok xs) : Ok (Inv xs) := by
  refine ⟨by rw [Inv_len]; exact h.len, fun i hi => ?_, fun i hi => ?_, fun i j hi hj e => ?_⟩
  · rw [Inv_len] at hi; obtain ⟨k, _, q, _⟩ := at_Inv h hi; omega
  · rw [Inv_len] at hi ⊢; obtain ⟨k, _, q, _⟩ := at_Inv h hi; omega
  · rw [Inv_len] at hi hj
    obtain ⟨k, _, q, r⟩ := at_Inv h hi
    obtain ⟨k', _, q', r'⟩ := at_Inv h hj
    have : k = k' := by omega
    subst this
    omega
theorem thn_len (xs ys : List Int) : (thn xs ys).length = xs.length := by simp [thn]
theorem thn_at {xs ys : List Int} {i : Nat} (hi : i < xs.length) : (thn xs ys).getD i 0 = ys.getD (xs.getD i 0).toNat 0 := by
  simp [thn, List.getD, List.getElem?_eq_getElem hi]
theorem thn_ok {xs ys : List Int} (h : Ok xs) (h' : Ok ys) (e : xs.length = ys.length) : Ok (thn xs ys) := by
  refine ⟨by rw [thn_len]; exact h.len, fun i hi => ?_, fun i hi => ?_, fun i j hi hj q => ?_⟩
  · rw [thn_len] at hi; rw [thn_at hi]; exact h'.lo _ (by have := h.ltN i hi; omega)
  · rw [thn_len] at hi ⊢; rw [thn_at hi, e]; exact h'.hi _ (by have := h.ltN i hi; omega)
  · rw [thn_len] at hi hj
    rw [thn_at hi, thn_at hj] at q
    have := h'.inj _ _ (by have := h.ltN i hi; omega) (by have := h.ltN j hj; omega) q
    exact h.injN i j hi hj this
theorem invF_of {xs : List Int} (h : Ok xs) : invF xs = Inv xs := by simp [invF, h.b, Inv]
theorem thenF_of {xs ys : List Int} (h : Ok xs) (h' : Ok ys) (e : xs.length = ys.length) : thenF xs ys = thn xs ys := by
  unfold thenF; rw [if_pos (okBB_iff.2 ⟨h.b, h'.b, e⟩)]
theorem renF_of {xs ys : List Int} (h : Ok xs) (h' : Ok ys) (e : xs.length = ys.length) : renF xs ys = renTo xs.length xs ys xs.length := by
  unfold renF; rw [if_pos (okBB_iff.2 ⟨h.b, h'.b, e⟩)]
theorem idF_of {n : Nat} (h : n ≤ 24) : idF (n : Int) = rng n := by
  unfold idF rng; rw [if_pos ⟨by omega, by omega⟩]; simp
theorem rng_len (n : Nat) : (rng n).length = n := by simp [rng]
theorem rng_at {n i : Nat} (h : i < n) : (rng n).getD i 0 = (i : Int) := by simp [rng, List.getD, h]
section
variable {p q s : List Int} {n : Nat} (hp : Ok p) (hq : Ok q) (hs : Ok s) (lp : p.length = n) (lq : q.length = n) (ls : s.length = n)
include hp hq lp lq
theorem back_eq : thenF (invF q) (invF p) = thn (Inv q) (Inv p) := by
  rw [invF_of hp, invF_of hq, thenF_of (Inv_ok hq) (Inv_ok hp) (by rw [Inv_len, Inv_len, lp, lq])]
theorem grp_id : thenF (thenF p q) (thenF (invF q) (invF p)) = idF (n : Int) := by
  have h24 := hp.len
  have okr := thn_ok hp hq (by omega)
  have okb := thn_ok (Inv_ok hq) (Inv_ok hp) (by rw [Inv_len, Inv_len, lp, lq])
  rw [back_eq hp hq lp lq, thenF_of hp hq (by omega), thenF_of okr okb (by rw [thn_len, thn_len, Inv_len, lp, lq]), idF_of (by omega)]
  refine list_eq n (by rw [thn_len, thn_len, lp]) (rng_len n) fun i hi => ?_
  have a1 := hp.ltN i (by omega)
  have a2 := hq.ltN _ (show (p.getD i 0).toNat < q.length by omega)
  have e1 : (thn p q).getD i 0 = q.getD (p.getD i 0).toNat 0 := thn_at (by omega)
  rw [thn_at (by rw [thn_len]; omega), e1, thn_at (by rw [Inv_len]; omega), Inv_at hq (by omega), Int.toNat_natCast, Inv_at hp (by omega), rng_at hi]
theorem grp_ren : renF p q = thenF (thenF (invF q) p) q := by
  have h24 := hp.len
  have ok1 := thn_ok (Inv_ok hq) hp (by rw [Inv_len]; omega)
  rw [invF_of hq, thenF_of (Inv_ok hq) hp (by rw [Inv_len]; omega), thenF_of ok1 hq (by rw [thn_len, Inv_len]), renF_of hp hq (by omega)]
  refine list_eq n (by rw [renTo_len, lp]) (by rw [thn_len, thn_len, Inv_len, lq]) fun j hj => ?_
  obtain ⟨k, hk, e1, e2⟩ := at_Inv hq (i := j) (by omega)
  rw [thn_at (by rw [thn_len, Inv_len]; omega), thn_at (by rw [Inv_len]; omega), e1, Int.toNat_natCast]
  have := ren_at (xs := p) hq (by omega) (k := k) (by omega)
  rw [e2, Int.toNat_natCast] at this
  exact this
theorem ren_ok : Ok (renF p q) ∧ (renF p q).length = n := by
  have ok1 := thn_ok (Inv_ok hq) hp (by rw [Inv_len]; omega)
  rw [grp_ren hp hq lp lq, invF_of hq, thenF_of (Inv_ok hq) hp (by rw [Inv_len]; omega), thenF_of ok1 hq (by rw [thn_len, Inv_len])]
  exact ⟨thn_ok ok1 hq (by rw [thn_len, Inv_len]), by rw [thn_len, thn_len, Inv_len, lq]⟩
theorem ren_ren : Ren n p (renF p q) q := by
  obtain ⟨h1, h2⟩ := ren_ok hp hq lp lq
  have b1 := hp.bij; have b2 := h1.bij; have b3 := hq.bij
  rw [lp] at b1; rw [h2] at b2; rw [lq] at b3
  refine ⟨b1, b2, b3, fun i hi => ?_⟩
  rw [renF_of hp hq (by omega)]
  exact ren_at hq (by omega) (by omega)
end
end Go.Proofs.Ytddppmbllcnkoaa.pm
