/-
  Contracts of IsTransitive, of the model and of the program.
-/
import Derived.Test.YtkkklpchkkdhfaaCount
namespace Go.Proofs.Ytkkklpchkkdhfaa.fns
open Go.ChangeShapes Go.WideShapes Go.ChangeAt Go.RowKit
open Go.Proofs.Ytkkklpchkkdhfaa.mem Go.Proofs.Ytkkklpchkkdhfaa.ints Go.Proofs.Ytkkklpchkkdhfaa.arr Go.Proofs.Ytkkklpchkkdhfaa.pm Go.Proofs.Ytkkklpchkkdhfaa.permOk Go.Proofs.Ytkkklpchkkdhfaa.permOf Go.Proofs.Ytkkklpchkkdhfaa.inv
set_option linter.unusedVariables false
set_option maxRecDepth 100000

theorem wpList_load_row_g {P : Program} {ops : Array Oper} {rest : List Oper} {o : Oper} {a : Act} {w : World} {Q : Exit → Act → World → Prop} (hw : Region.wanted o (yielded ops a.tmps) = true) (ty : TypeId) (x : Operand) (ho : o.op = .load ty x)
    (g : Nat) (hx : a.eval x = .pointer (some ⟨g, 0, none⟩)) (t : TypeId) (cs : Array Value) (fr : Nat × Nat) (d : TypeDesc) (hg : w.heap[g]? = some (.cells cs t fr))
    (hu : P.underlying ty = some d) (hd : (match d with | .struct _ | .array _ _ => true | _ => false) = true) (hi : (P.info? ty).map (·.size) = some cs.size)
    (h : wpList P ops Q rest (a.put o.dst (.agg cs)) w) : wpList P ops Q (o :: rest) a w :=
  wpList_step fun K hK => by rw [if_pos hw]; exact wp_load_row ty x ho g hx t cs fr d hg hu hd hi (hK _ _ h)
set_option maxHeartbeats 1000000 in
theorem trans_spec (A : Option Addr) (n c : Nat) (xs : List Int) (B : Option Addr) (m d : Nat) (ys : List Int) (h1 h2 : Nat) (w : World) (hx : Rd w h1 A n (V xs)) (hy : Rd w h2 B m (V ys)) (hn : n ≤ 1048576) (hm : m ≤ 1048576) (hc : n ≤ c) (hd : m ≤ d) :
    Calls Try.prog 82 #[.slice A n c, .slice B m d] w fun e w' => e = .returned (.bool (transB xs ys)) ∧ Below w.heap.size w w' := by
  have lx : xs.length = n := by simpa [V] using hx.1
  have ly : ys.length = m := by simpa [V] using hy.1
  have LX := Lib.hid lx; have LY := Lib.hid ly; clear lx ly
  have HX := Lib.hid hx; have HY := Lib.hid hy; clear hx hy
  by_cases ox : okB xs = true
  · by_cases oy : okB ys = true
    · by_cases hnm : n = m
      · subst hnm
        by_cases hn0 : 0 < n
        · have OX := Lib.hid (Ok.of xs ox); have OY := Lib.hid (Ok.of ys oy)
          have R : Hid (transB xs ys = decide ((reach xs ys 0).length = n)) := Lib.hid (by simp [transB, okBB, ox, oy, LX.out, LY.out, hn0])
          have HOX := Lib.hid ox; have HOY := Lib.hid oy; clear ox oy
          go_enter Try.func82, Try.ntmps82
          go_wp2_with fail
          refine (permOk.spec_any A n c xs _ _ HX.out hn hc).mono ?_
          rintro e w1 ⟨rfl, rfl⟩
          rw [HOX.out]
          go_wp2_with fail
          refine (permOk.spec_any B n d ys _ _ HY.out hm hd).mono ?_
          rintro e w1 ⟨rfl, rfl⟩
          rw [HOY.out]
          go_wp2_with fail
          refine (reach_any A n c B n d xs ys 0 _ _ _ HX.out HY.out OX.out OY.out rfl (by omega) (by omega)).mono ?_
          rintro e w3 ⟨v, rfl, ho, hb⟩
          obtain ⟨C, cc, rfl⟩ := own_form ho
          have HB := Lib.hid hb; clear ho hb
          have HLN : Hid ((reach xs ys 0).length = (reach xs ys 0).length) := Lib.hid rfl
          generalize (reach xs ys 0).length = r at *
          by_cases hr : r = n
          · subst hr
            go_wp2_with fail
            go_ret
            exact ⟨ret_bool (by rw [R.out]; simp), HB.out⟩
          · have hq : ((r : Int) == (n : Int)) = false := by simp; omega
            have HR := Lib.hid hr; clear hr
            go_wp2_with fail
            go_ret
            exact ⟨ret_bool (by rw [R.out, decide_eq_false HR.out]), HB.out⟩
        · obtain rfl : n = 0 := by omega
          have R : Hid (transB xs ys = false) := Lib.hid (by simp [transB, LX.out])
          have HOX := Lib.hid ox; have HOY := Lib.hid oy; clear ox oy
          go_enter Try.func82, Try.ntmps82
          go_wp2_with fail
          refine (permOk.spec_any A 0 c xs _ _ HX.out hn hc).mono ?_
          rintro e w1 ⟨rfl, rfl⟩
          rw [HOX.out]
          go_wp2_with fail
          refine (permOk.spec_any B 0 d ys _ _ HY.out hm hd).mono ?_
          rintro e w1 ⟨rfl, rfl⟩
          rw [HOY.out]
          go_wp2_with fail
          go_ret
          exact ⟨ret_bool R.out.symm, Below.refl _ _⟩
      · have R : Hid (transB xs ys = false) := Lib.hid (by simp [transB, okBB, LX.out, LY.out, hnm])
        have hb : ((n : Int) == (m : Int)) = false := by simp; omega
        have HOX := Lib.hid ox; have HOY := Lib.hid oy; clear ox oy hnm
        go_enter Try.func82, Try.ntmps82
        go_wp2_with fail
        refine (permOk.spec_any A n c xs _ _ HX.out hn hc).mono ?_
        rintro e w1 ⟨rfl, rfl⟩
        rw [HOX.out]
        go_wp2_with fail
        refine (permOk.spec_any B m d ys _ _ HY.out hm hd).mono ?_
        rintro e w1 ⟨rfl, rfl⟩
        rw [HOY.out]
        go_wp2_with fail
        go_ret
        exact ⟨ret_bool R.out.symm, Below.refl _ _⟩
    · have oy' : okB ys = false := by simpa using oy
      have R : Hid (transB xs ys = false) := Lib.hid (by simp [transB, okBB, oy'])
      have HOX := Lib.hid ox; have HOY := Lib.hid oy'; clear ox oy oy'
      go_enter Try.func82, Try.ntmps82
      go_wp2_with fail
      refine (permOk.spec_any A n c xs _ _ HX.out hn hc).mono ?_
      rintro e w1 ⟨rfl, rfl⟩
      rw [HOX.out]
      go_wp2_with fail
      refine (permOk.spec_any B m d ys _ _ HY.out hm hd).mono ?_
      rintro e w1 ⟨rfl, rfl⟩
      rw [HOY.out]
      go_wp2_with fail
      go_ret
      exact ⟨ret_bool R.out.symm, Below.refl _ _⟩
  · have ox' : okB xs = false := by simpa using ox
    have R : Hid (transB xs ys = false) := Lib.hid (by simp [transB, okBB, ox'])
    have HOX := Lib.hid ox'; clear ox ox'
    go_enter Try.func82, Try.ntmps82
    go_wp2_with fail
    refine (permOk.spec_any A n c xs _ _ HX.out hn hc).mono ?_
    rintro e w1 ⟨rfl, rfl⟩
    rw [HOX.out]
    go_wp2_with fail
    go_ret
    exact ⟨ret_bool R.out.symm, Below.refl _ _⟩
set_option maxHeartbeats 2000000 in
theorem trans_impl_pos (A : Option Addr) (n c : Nat) (xs : List Int) (B : Option Addr) (m d : Nat) (ys : List Int) (h1 h2 : Nat) (w : World) (hx : Rd w h1 A n (V xs)) (hy : Rd w h2 B m (V ys)) (hn : n ≤ 1048576) (hm : m ≤ 1048576) (hn0 : 0 < n) :
    Calls Try.prog 100 #[.slice A n c, .slice B m d] w fun e w' => e = .returned (.bool (transB xs ys)) ∧ Below w.heap.size w w' := by
  have lx : xs.length = n := by simpa [V] using hx.1
  have ly : ys.length = m := by simpa [V] using hy.1
  have LX := Lib.hid lx; have LY := Lib.hid ly; clear lx ly
  have HX := Lib.hid hx; have HY := Lib.hid hy; clear hx hy
  by_cases hall : okBB xs ys = true
  · obtain ⟨ox, oy, el⟩ := okBB_iff.1 hall
    have OX := Lib.hid (Ok.of xs ox); have OY := Lib.hid (Ok.of ys oy)
    have hn24 : n ≤ 24 := by have := OX.out.len; rw [LX.out] at this; exact this
    have HF : Hid (transB xs ys = decide ((reach (ext xs) (ext ys) 0).length = n)) := Lib.hid (by rw [reach_ext OX.out OY.out el (by omega) (by rw [LX.out]; omega)]; simp [transB, hall, LX.out, hn0])
    have HA := Lib.hid hall; clear hall ox oy el
    go_enter Try.func100, Try.ntmps100
    go_wp2_with fail
    refine (permsOf_any A n c B m d xs ys _ _ _ HX.out HY.out hn hm HX.out.2.1 HY.out.2.1).mono ?_
    rintro e w1 ⟨rfl, b1⟩
    rw [HA.out, if_pos rfl, if_pos rfl]
    have B1 := Lib.hid b1; clear b1
    go_wp2_with (first | (refine wpList_store_row rfl 62 (.tmp 5) (.tmp 12) rfl w1.heap.size (V (ext xs)).toArray rfl rfl 62 (V zeros).toArray ((Arr.new w1 (V zeros) _ rfl).alloc _) (size_V (ext_len _)) (by simp [V_len, ext_len, zeros]) (one_V _) ?_; generalize hw3 : ((w1.alloc (.cells #[.int .i64 0, .int .i64 0, .int .i64 0, .int .i64 0, .int .i64 0, .int .i64 0, .int .i64 0, .int .i64 0, .int .i64 0, .int .i64 0, .int .i64 0, .int .i64 0, .int .i64 0, .int .i64 0, .int .i64 0, .int .i64 0, .int .i64 0, .int .i64 0, .int .i64 0, .int .i64 0, .int .i64 0, .int .i64 0, .int .i64 0, .int .i64 0] 62)).alloc (.cells #[.int .i64 0, .int .i64 0, .int .i64 0, .int .i64 0, .int .i64 0, .int .i64 0, .int .i64 0, .int .i64 0, .int .i64 0, .int .i64 0, .int .i64 0, .int .i64 0, .int .i64 0, .int .i64 0, .int .i64 0, .int .i64 0, .int .i64 0, .int .i64 0, .int .i64 0, .int .i64 0, .int .i64 0, .int .i64 0, .int .i64 0, .int .i64 0] 62)).setRow w1.heap.size (V (ext xs)).toArray = w3; have S1 : Hid (Arr w3 w1.heap.size (V (ext xs)) 62) := Lib.hid (by rw [← hw3]; exact ((Arr.new w1 (V zeros) _ rfl).alloc _).row); have S2 : Hid (Arr w3 (w1.heap.size + 1) (V zeros) 62) := Lib.hid (by rw [← hw3]; exact (Arr.new _ (V zeros) _ (by simp)).rowOther (by omega)); have B3 : Hid (Below w.heap.size w w3) := Lib.hid (by rw [← hw3]; exact arr.below_setRow ((B1.out.alloc B1.out.size _).alloc (by have := B1.out.size; simp; omega) _) B1.out.size _); clear hw3) | (refine wpList_store_row rfl 62 (.tmp 6) (.tmp 13) rfl (w1.heap.size + 1) (V (ext ys)).toArray rfl rfl 62 (V zeros).toArray S2.out (size_V (ext_len _)) (by simp [V_len, ext_len, zeros]) (one_V _) ?_; generalize hw4 : w3.setRow (w1.heap.size + 1) (V (ext ys)).toArray = w4; have T1 : Hid (Arr w4 w1.heap.size (V (ext xs)) 62) := Lib.hid (by rw [← hw4]; exact S1.out.rowOther (by omega)); have T2 : Hid (Arr w4 (w1.heap.size + 1) (V (ext ys)) 62) := Lib.hid (by rw [← hw4]; exact S2.out.row); have B4 : Hid (Below w.heap.size w w4) := Lib.hid (by rw [← hw4]; exact arr.below_setRow B3.out (by have := B1.out.size; omega) _); clear hw4 S1 S2 B3) | (refine wpList_load_row_g rfl 62 (.tmp 5) rfl w1.heap.size rfl 62 (V (ext xs)).toArray (0, 0) _ T1.out Try.underlying62 rfl (size_V (ext_len _)) ?_) | (refine wpList_load_row_g rfl 62 (.tmp 6) rfl (w1.heap.size + 1) rfl 62 (V (ext ys)).toArray (0, 0) _ T2.out Try.underlying62 rfl (size_V (ext_len _)) ?_))
    refine (count_any (ext xs) (ext ys) _ OX.out.sq OY.out.sq).mono ?_
    rintro e w2 ⟨rfl, b2⟩
    have B2 := Lib.hid (B4.out.trans (b2.mono B4.out.size))
    clear b2 B1 B4 T1 T2
    generalize (reach (ext xs) (ext ys) 0).length = r at *
    by_cases hr : r = n
    · subst hr
      go_wp2_with fail
      go_ret
      exact ⟨ret_bool (by rw [HF.out]; simp), B2.out⟩
    · have hq : ((r : Int) == (n : Int)) = false := by simp; omega
      have HR := Lib.hid hr; clear hr
      go_wp2_with fail
      go_ret
      exact ⟨ret_bool (by rw [HF.out, decide_eq_false HR.out]), B2.out⟩
  · have hall' : okBB xs ys = false := by simpa using hall
    have HF : Hid (transB xs ys = false) := Lib.hid (by simp [transB, hall'])
    have HA := Lib.hid hall'; clear hall hall'
    go_enter Try.func100, Try.ntmps100
    go_wp2_with fail
    refine (permsOf_any A n c B m d xs ys _ _ _ HX.out HY.out hn hm HX.out.2.1 HY.out.2.1).mono ?_
    rintro e w1 ⟨rfl, b1⟩
    rw [HA.out, if_neg (by decide), if_neg (by decide)]
    have B1 := Lib.hid b1; clear b1
    go_wp2_with (first | (refine wpList_store_row rfl 62 (.tmp 5) (.tmp 12) rfl w1.heap.size (V zeros).toArray rfl rfl 62 (V zeros).toArray ((Arr.new w1 (V zeros) _ rfl).alloc _) (size_V zeros_len) rfl (one_V _) ?_; generalize hw3 : ((w1.alloc (.cells #[.int .i64 0, .int .i64 0, .int .i64 0, .int .i64 0, .int .i64 0, .int .i64 0, .int .i64 0, .int .i64 0, .int .i64 0, .int .i64 0, .int .i64 0, .int .i64 0, .int .i64 0, .int .i64 0, .int .i64 0, .int .i64 0, .int .i64 0, .int .i64 0, .int .i64 0, .int .i64 0, .int .i64 0, .int .i64 0, .int .i64 0, .int .i64 0] 62)).alloc (.cells #[.int .i64 0, .int .i64 0, .int .i64 0, .int .i64 0, .int .i64 0, .int .i64 0, .int .i64 0, .int .i64 0, .int .i64 0, .int .i64 0, .int .i64 0, .int .i64 0, .int .i64 0, .int .i64 0, .int .i64 0, .int .i64 0, .int .i64 0, .int .i64 0, .int .i64 0, .int .i64 0, .int .i64 0, .int .i64 0, .int .i64 0, .int .i64 0] 62)).setRow w1.heap.size (V zeros).toArray = w3; have S1 : Hid (Arr w3 w1.heap.size (V zeros) 62) := Lib.hid (by rw [← hw3]; exact ((Arr.new w1 (V zeros) _ rfl).alloc _).row); have S2 : Hid (Arr w3 (w1.heap.size + 1) (V zeros) 62) := Lib.hid (by rw [← hw3]; exact (Arr.new _ (V zeros) _ (by simp)).rowOther (by omega)); have B3 : Hid (Below w.heap.size w w3) := Lib.hid (by rw [← hw3]; exact arr.below_setRow ((B1.out.alloc B1.out.size _).alloc (by have := B1.out.size; simp; omega) _) B1.out.size _); clear hw3) | (refine wpList_store_row rfl 62 (.tmp 6) (.tmp 13) rfl (w1.heap.size + 1) (V zeros).toArray rfl rfl 62 (V zeros).toArray S2.out (size_V zeros_len) rfl (one_V _) ?_; generalize hw4 : w3.setRow (w1.heap.size + 1) (V zeros).toArray = w4; have T1 : Hid (Arr w4 w1.heap.size (V zeros) 62) := Lib.hid (by rw [← hw4]; exact S1.out.rowOther (by omega)); have T2 : Hid (Arr w4 (w1.heap.size + 1) (V zeros) 62) := Lib.hid (by rw [← hw4]; exact S2.out.row); have B4 : Hid (Below w.heap.size w w4) := Lib.hid (by rw [← hw4]; exact arr.below_setRow B3.out (by have := B1.out.size; omega) _); clear hw4 S1 S2 B3))
    go_ret
    exact ⟨ret_bool HF.out.symm, B4.out⟩

set_option maxHeartbeats 2000000 in
theorem trans_impl_zero (A : Option Addr) (n c : Nat) (xs : List Int) (B : Option Addr) (m d : Nat) (ys : List Int) (h1 h2 : Nat) (w : World) (hx : Rd w h1 A n (V xs)) (hy : Rd w h2 B m (V ys)) (hn : n ≤ 1048576) (hm : m ≤ 1048576) (hn0 : n = 0) :
    Calls Try.prog 100 #[.slice A n c, .slice B m d] w fun e w' => e = .returned (.bool (transB xs ys)) ∧ Below w.heap.size w w' := by
  subst hn0
  have lx : xs.length = 0 := by simpa [V] using hx.1
  have ly : ys.length = m := by simpa [V] using hy.1
  have LX := Lib.hid lx; have LY := Lib.hid ly; clear lx ly
  have HX := Lib.hid hx; have HY := Lib.hid hy; clear hx hy
  by_cases hall : okBB xs ys = true
  · obtain ⟨ox, oy, el⟩ := okBB_iff.1 hall
    have OX := Lib.hid (Ok.of xs ox); have OY := Lib.hid (Ok.of ys oy)
    have hn24 : 0 ≤ 24 := by have := OX.out.len; rw [LX.out] at this; exact this
    have HF : Hid (transB xs ys = false) := Lib.hid (by simp [transB, LX.out])
    have HA := Lib.hid hall; clear hall ox oy el
    go_enter Try.func100, Try.ntmps100
    go_wp2_with fail
    refine (permsOf_any A 0 c B m d xs ys _ _ _ HX.out HY.out hn hm HX.out.2.1 HY.out.2.1).mono ?_
    rintro e w1 ⟨rfl, b1⟩
    rw [HA.out, if_pos rfl, if_pos rfl]
    have B1 := Lib.hid b1; clear b1
    go_wp2_with (first | (refine wpList_store_row rfl 62 (.tmp 5) (.tmp 12) rfl w1.heap.size (V (ext xs)).toArray rfl rfl 62 (V zeros).toArray ((Arr.new w1 (V zeros) _ rfl).alloc _) (size_V (ext_len _)) (by simp [V_len, ext_len, zeros]) (one_V _) ?_; generalize hw3 : ((w1.alloc (.cells #[.int .i64 0, .int .i64 0, .int .i64 0, .int .i64 0, .int .i64 0, .int .i64 0, .int .i64 0, .int .i64 0, .int .i64 0, .int .i64 0, .int .i64 0, .int .i64 0, .int .i64 0, .int .i64 0, .int .i64 0, .int .i64 0, .int .i64 0, .int .i64 0, .int .i64 0, .int .i64 0, .int .i64 0, .int .i64 0, .int .i64 0, .int .i64 0] 62)).alloc (.cells #[.int .i64 0, .int .i64 0, .int .i64 0, .int .i64 0, .int .i64 0, .int .i64 0, .int .i64 0, .int .i64 0, .int .i64 0, .int .i64 0, .int .i64 0, .int .i64 0, .int .i64 0, .int .i64 0, .int .i64 0, .int .i64 0, .int .i64 0, .int .i64 0, .int .i64 0, .int .i64 0, .int .i64 0, .int .i64 0, .int .i64 0, .int .i64 0] 62)).setRow w1.heap.size (V (ext xs)).toArray = w3; have S1 : Hid (Arr w3 w1.heap.size (V (ext xs)) 62) := Lib.hid (by rw [← hw3]; exact ((Arr.new w1 (V zeros) _ rfl).alloc _).row); have S2 : Hid (Arr w3 (w1.heap.size + 1) (V zeros) 62) := Lib.hid (by rw [← hw3]; exact (Arr.new _ (V zeros) _ (by simp)).rowOther (by omega)); have B3 : Hid (Below w.heap.size w w3) := Lib.hid (by rw [← hw3]; exact arr.below_setRow ((B1.out.alloc B1.out.size _).alloc (by have := B1.out.size; simp; omega) _) B1.out.size _); clear hw3) | (refine wpList_store_row rfl 62 (.tmp 6) (.tmp 13) rfl (w1.heap.size + 1) (V (ext ys)).toArray rfl rfl 62 (V zeros).toArray S2.out (size_V (ext_len _)) (by simp [V_len, ext_len, zeros]) (one_V _) ?_; generalize hw4 : w3.setRow (w1.heap.size + 1) (V (ext ys)).toArray = w4; have T1 : Hid (Arr w4 w1.heap.size (V (ext xs)) 62) := Lib.hid (by rw [← hw4]; exact S1.out.rowOther (by omega)); have T2 : Hid (Arr w4 (w1.heap.size + 1) (V (ext ys)) 62) := Lib.hid (by rw [← hw4]; exact S2.out.row); have B4 : Hid (Below w.heap.size w w4) := Lib.hid (by rw [← hw4]; exact arr.below_setRow B3.out (by have := B1.out.size; omega) _); clear hw4 S1 S2 B3))
    go_ret
    exact ⟨ret_bool HF.out.symm, B4.out⟩
  · have hall' : okBB xs ys = false := by simpa using hall
    have HF : Hid (transB xs ys = false) := Lib.hid (by simp [transB, hall'])
    have HA := Lib.hid hall'; clear hall hall'
    go_enter Try.func100, Try.ntmps100
    go_wp2_with fail
    refine (permsOf_any A 0 c B m d xs ys _ _ _ HX.out HY.out hn hm HX.out.2.1 HY.out.2.1).mono ?_
    rintro e w1 ⟨rfl, b1⟩
    rw [HA.out, if_neg (by decide), if_neg (by decide)]
    have B1 := Lib.hid b1; clear b1
    go_wp2_with (first | (refine wpList_store_row rfl 62 (.tmp 5) (.tmp 12) rfl w1.heap.size (V zeros).toArray rfl rfl 62 (V zeros).toArray ((Arr.new w1 (V zeros) _ rfl).alloc _) (size_V zeros_len) rfl (one_V _) ?_; generalize hw3 : ((w1.alloc (.cells #[.int .i64 0, .int .i64 0, .int .i64 0, .int .i64 0, .int .i64 0, .int .i64 0, .int .i64 0, .int .i64 0, .int .i64 0, .int .i64 0, .int .i64 0, .int .i64 0, .int .i64 0, .int .i64 0, .int .i64 0, .int .i64 0, .int .i64 0, .int .i64 0, .int .i64 0, .int .i64 0, .int .i64 0, .int .i64 0, .int .i64 0, .int .i64 0] 62)).alloc (.cells #[.int .i64 0, .int .i64 0, .int .i64 0, .int .i64 0, .int .i64 0, .int .i64 0, .int .i64 0, .int .i64 0, .int .i64 0, .int .i64 0, .int .i64 0, .int .i64 0, .int .i64 0, .int .i64 0, .int .i64 0, .int .i64 0, .int .i64 0, .int .i64 0, .int .i64 0, .int .i64 0, .int .i64 0, .int .i64 0, .int .i64 0, .int .i64 0] 62)).setRow w1.heap.size (V zeros).toArray = w3; have S1 : Hid (Arr w3 w1.heap.size (V zeros) 62) := Lib.hid (by rw [← hw3]; exact ((Arr.new w1 (V zeros) _ rfl).alloc _).row); have S2 : Hid (Arr w3 (w1.heap.size + 1) (V zeros) 62) := Lib.hid (by rw [← hw3]; exact (Arr.new _ (V zeros) _ (by simp)).rowOther (by omega)); have B3 : Hid (Below w.heap.size w w3) := Lib.hid (by rw [← hw3]; exact arr.below_setRow ((B1.out.alloc B1.out.size _).alloc (by have := B1.out.size; simp; omega) _) B1.out.size _); clear hw3) | (refine wpList_store_row rfl 62 (.tmp 6) (.tmp 13) rfl (w1.heap.size + 1) (V zeros).toArray rfl rfl 62 (V zeros).toArray S2.out (size_V zeros_len) rfl (one_V _) ?_; generalize hw4 : w3.setRow (w1.heap.size + 1) (V zeros).toArray = w4; have T1 : Hid (Arr w4 w1.heap.size (V zeros) 62) := Lib.hid (by rw [← hw4]; exact S1.out.rowOther (by omega)); have T2 : Hid (Arr w4 (w1.heap.size + 1) (V zeros) 62) := Lib.hid (by rw [← hw4]; exact S2.out.row); have B4 : Hid (Below w.heap.size w w4) := Lib.hid (by rw [← hw4]; exact arr.below_setRow B3.out (by have := B1.out.size; omega) _); clear hw4 S1 S2 B3))
    go_ret
    exact ⟨ret_bool HF.out.symm, B4.out⟩
theorem trans_impl (A : Option Addr) (n c : Nat) (xs : List Int) (B : Option Addr) (m d : Nat) (ys : List Int) (h1 h2 : Nat) (w : World) (hx : Rd w h1 A n (V xs)) (hy : Rd w h2 B m (V ys)) (hn : n ≤ 1048576) (hm : m ≤ 1048576) :
    Calls Try.prog 100 #[.slice A n c, .slice B m d] w fun e w' => e = .returned (.bool (transB xs ys)) ∧ Below w.heap.size w w' := by
  rcases Nat.eq_zero_or_pos n with h0 | h0
  · exact trans_impl_zero A n c xs B m d ys h1 h2 w hx hy hn hm h0
  · exact trans_impl_pos A n c xs B m d ys h1 h2 w hx hy hn hm h0
end Go.Proofs.Ytkkklpchkkdhfaa.fns
