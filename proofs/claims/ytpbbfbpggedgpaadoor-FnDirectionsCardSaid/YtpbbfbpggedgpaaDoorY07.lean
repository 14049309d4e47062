import Derived.Test.YtpbbfbpggedgpaaDoorY06
import Derived.Test.YtpbbfbpggedgpaaDoorY01
import Derived.Test.YtpbbfbpggedgpaaDoorY05
import Derived.Test.YtpbbfbpggedgpaaDoorY04
import Derived.RegionTactic
import Derived.BigRegion
import Derived.Laws.Tables
import Derived.Deep.MidRow
/-
  Contracts of IsTransitive, of the model and of the program.
-/
namespace Go.Proofs.YtpbbfbpggedgpaaDoor.fns
open Go.ChangeShapes Go.WideShapes Go.ChangeAt Go.RowKit
open Go.Proofs.YtpbbfbpggedgpaaDoor.mem Go.Proofs.YtpbbfbpggedgpaaDoor.ints Go.Proofs.YtpbbfbpggedgpaaDoor.arr Go.Proofs.YtpbbfbpggedgpaaDoor.pm Go.Proofs.YtpbbfbpggedgpaaDoor.permOk Go.Proofs.YtpbbfbpggedgpaaDoor.permOf Go.Proofs.YtpbbfbpggedgpaaDoor.inv
set_option linter.unusedVariables false
set_option maxRecDepth 100000

theorem wpList_load_row_g {P : Program} {ops : Array Oper} {rest : List Oper} {o : Oper} {a : Act} {w : World} {Q : Exit → Act → World → Prop} (hw : Region.wanted o (yielded ops a.tmps) = true) (ty : TypeId) (x : Operand) (ho : o.op = .load ty x)
    (g : Nat) (hx : a.eval x = .pointer (some ⟨g, 0, none⟩)) (t : TypeId) (cs : Array Value) (fr : Nat × Nat) (d : TypeDesc) (hg : w.heap[g]? = some (.cells cs t fr))
    (hu : P.underlying ty = some d) (hd : (match d with | .struct _ | .array _ _ => true | _ => false) = true) (hi : (P.info? ty).map (·.size) = some cs.size)
    (h : wpList P ops Q rest (a.put o.dst (.agg cs)) w) : wpList P ops Q (o :: rest) a w :=
  wpList_step fun K hK => by rw [if_pos hw]; exact wp_load_row ty x ho g hx t cs fr d hg hu hd hi (hK _ _ h)
set_option maxHeartbeats 1000000 in
theorem trans_spec (A : Option Addr) (n c : Nat) (xs : List Int) (B : Option Addr) (m d : Nat) (ys : List Int) (h1 h2 : Nat) (w : World) (hx : Rd w h1 A n (V xs)) (hy : Rd w h2 B m (V ys)) (hn : n ≤ 1048576) (hm : m ≤ 1048576) (hc : n ≤ c) (hd : m ≤ d) :
    Calls Tryd.prog 54 #[.slice A n c, .slice B m d] w fun e w' => e = .returned (.bool (transB xs ys)) ∧ Below w.heap.size w w' := by
  have lx : xs.length = n := by simpa [V] using hx.1
  have ly : ys.length = m := by simpa [V] using hy.1
  have LX := Lib.hid lx; have LY := Lib.hid ly; clear lx ly
  have HX := Lib.hid hx; have HY := Lib.hid hy; clear hx hy
  by_cases ox : okB xs = true
  · by_cases oy : okB ys = true
    · by_cases hnm : n = m
      · subst hnm
        by_cases hn0 : 0 < n
        · have OX := Lib.hid (Ok.of xs ox); have OY := Lib.hid (Ok.of ys oy)
          have R : Hid (transB xs ys = decide ((reach xs ys 0).length = n)) := Lib.hid (by simp [transB, okBB, ox, oy, LX.out, LY.out, hn0])
          have HOX := Lib.hid ox; have HOY := Lib.hid oy; clear ox oy
          go_enter Tryd.func54, Tryd.ntmps54
          go_wp2_with fail
          refine (permOk.spec_any A n c xs _ _ HX.out hn hc).mono ?_
          rintro e w1 ⟨rfl, rfl⟩
          rw [HOX.out]
          go_wp2_with fail
          refine (permOk.spec_any B n d ys _ _ HY.out hm hd).mono ?_
          rintro e w1 ⟨rfl, rfl⟩
          rw [HOY.out]
          go_wp2_with fail
          refine (reach_any A n c B n d xs ys 0 _ _ _ HX.out HY.out OX.out OY.out rfl (by omega) (by omega)).mono ?_
          rintro e w3 ⟨v, rfl, ho, hb⟩
          obtain ⟨C, cc, rfl⟩ := own_form ho
          have HB := Lib.hid hb; clear ho hb
          have HLN : Hid ((reach xs ys 0).length = (reach xs ys 0).length) := Lib.hid rfl
          generalize (reach xs ys 0).length = r at *
          by_cases hr : r = n
          · subst hr
            go_wp2_with fail
            go_ret
            exact ⟨ret_bool (by rw [R.out]; simp), HB.out⟩
          · have hq : ((r : Int) == (n : Int)) = false := by simp; omega
            have HR := Lib.hid hr; clear hr
            go_wp2_with fail
            go_ret
            exact ⟨ret_bool (by rw [R.out, decide_eq_false HR.out]), HB.out⟩
        · obtain rfl : n = 0 := by omega
          have R : Hid (transB xs ys = false) := Lib.hid (by simp [transB, LX.out])
          have HOX := Lib.hid ox; have HOY := Lib.hid oy; clear ox oy
          go_enter Tryd.func54, Tryd.ntmps54
          go_wp2_with fail
          refine (permOk.spec_any A 0 c xs _ _ HX.out hn hc).mono ?_
          rintro e w1 ⟨rfl, rfl⟩
          rw [HOX.out]
          go_wp2_with fail
          refine (permOk.spec_any B 0 d ys _ _ HY.out hm hd).mono ?_
          rintro e w1 ⟨rfl, rfl⟩
          rw [HOY.out]
          go_wp2_with fail
          go_ret
          exact ⟨ret_bool R.out.symm, Below.refl _ _⟩
      · have R : Hid (transB xs ys = false) := Lib.hid (by simp [transB, okBB, LX.out, LY.out, hnm])
        have hb : ((n : Int) == (m : Int)) = false := by simp; omega
        have HOX := Lib.hid ox; have HOY := Lib.hid oy; clear ox oy hnm
        go_enter Tryd.func54, Tryd.ntmps54
        go_wp2_with fail
        refine (permOk.spec_any A n c xs _ _ HX.out hn hc).mono ?_
        rintro e w1 ⟨rfl, rfl⟩
        rw [HOX.out]
        go_wp2_with fail
        refine (permOk.spec_any B m d ys _ _ HY.out hm hd).mono ?_
        rintro e w1 ⟨rfl, rfl⟩
        rw [HOY.out]
        go_wp2_with fail
        go_ret
        exact ⟨ret_bool R.out.symm, Below.refl _ _⟩
    · have oy' : okB ys = false := by simpa using oy
      have R : Hid (transB xs ys = false) := Lib.hid (by simp [transB, okBB, oy'])
      have HOX := Lib.hid ox; have HOY := Lib.hid oy'; clear ox oy oy'
      go_enter Tryd.func54, Tryd.ntmps54
      go_wp2_with fail
      refine (permOk.spec_any A n c xs _ _ HX.out hn hc).mono ?_
      rintro e w1 ⟨rfl, rfl⟩
      rw [HOX.out]
      go_wp2_with fail
      refine (permOk.spec_any B m d ys _ _ HY.out hm hd).mono ?_
      rintro e w1 ⟨rfl, rfl⟩
      rw [HOY.out]
      go_wp2_with fail
      go_ret
      exact ⟨ret_bool R.out.symm, Below.refl _ _⟩
  · have ox' : okB xs = false := by simpa using ox
    have R : Hid (transB xs ys = false) := Lib.hid (by simp [transB, okBB, ox'])
    have HOX := Lib.hid ox'; clear ox ox'
    go_enter Tryd.func54, Tryd.ntmps54
    go_wp2_with fail
    refine (permOk.spec_any A n c xs _ _ HX.out hn hc).mono ?_
    rintro e w1 ⟨rfl, rfl⟩
    rw [HOX.out]
    go_wp2_with fail
    go_ret
    exact ⟨ret_bool R.out.symm, Below.refl _ _⟩
set_option maxHeartbeats 2000000 in
theorem trans_impl_pos (A : Option Addr) (n c : Nat) (xs : List Int) (B : Option Addr) (m d : Nat) (ys : List Int) (h1 h2 : Nat) (w : World) (hx : Rd w h1 A n (V xs)) (hy : Rd w h2 B m (V ys)) (hn : n ≤ 1048576) (hm : m ≤ 1048576) (hn0 : 0 < n) :
    Calls Tryd.prog 59 #[.slice A n c, .slice B m d] w fun e w' => e = .returned (.bool (transB xs ys)) ∧ Below w.heap.size w w' := by
  have lx : xs.length = n := by simpa [V] using hx.1
  have ly : ys.length = m := by simpa [V] using hy.1
  have LX := Lib.hid lx; have LY := Lib.hid ly; clear lx ly
  have HX := Lib.hid hx; have HY := Lib.hid hy; clear hx hy
  by_cases hall : okBB xs ys = true
  · obtain ⟨ox, oy, el⟩ := okBB_iff.1 hall
    have OX := Lib.hid (Ok.of xs ox); have OY := Lib.hid (Ok.of ys oy)
    have hn24 : n ≤ 24 := by have := OX.out.len; rw [LX.out] at this; exact this
    have HF : Hid (transB xs ys = decide ((reach (ext xs) (ext ys) 0).length = n)) := Lib.hid (by rw [reach_ext OX.out OY.out el (by omega) (by rw [LX.out]; omega)]; simp [transB, hall, LX.out, hn0])
    have HA := Lib.hid hall; clear hall ox oy el
    go_enter Tryd.func59, Tryd.ntmps59
    go_wp2_with fail
    refine (permsOf_any A n c B m d xs ys _ _ _ HX.out HY.out hn hm HX.out.2.1 HY.out.2.1).mono ?_
    rintro e w1 ⟨rfl, b1⟩
    rw [HA.out, if_pos rfl, if_pos rfl]
    have B1 := Lib.hid b1; clear b1
    go_wp2_with (first | (refine wpList_store_row rfl 67 (.tmp 5) (.tmp 12) rfl w1.heap.size (V (ext xs)).toArray rfl rfl 67 (V zeros).toArray ((Arr.new w1 (V zeros) _ rfl).alloc _) (size_V (ext_len _)) (by simp [V_len, ext_len, zeros]) (one_V _) ?_; generalize hw3 : ((w1.alloc (.cells #[.int .i64 0, .int .i64 0, .int .i64 0, .int .i64 0, .int .i64 0, .int .i64 0, .int .i64 0, .int .i64 0, .int .i64 0, .int .i64 0, .int .i64 0, .int .i64 0, .int .i64 0, .int .i64 0, .int .i64 0, .int .i64 0, .int .i64 0, .int .i64 0, .int .i64 0, .int .i64 0, .int .i64 0, .int .i64 0, .int .i64 0, .int .i64 0] 67)).alloc (.cells #[.int .i64 0, .int .i64 0, .int .i64 0, .int .i64 0, .int .i64 0, .int .i64 0, .int .i64 0, .int .i64 0, .int .i64 0, .int .i64 0, .int .i64 0, .int .i64 0, .int .i64 0, .int .i64 0, .int .i64 0, .int .i64 0, .int .i64 0, .int .i64 0, .int .i64 0, .int .i64 0, .int .i64 0, .int .i64 0, .int .i64 0, .int .i64 0] 67)).setRow w1.heap.size (V (ext xs)).toArray = w3; have S1 : Hid (Arr w3 w1.heap.size (V (ext xs)) 67) := Lib.hid (by rw [← hw3]; exact ((Arr.new w1 (V zeros) _ rfl).alloc _).row); have S2 : Hid (Arr w3 (w1.heap.size + 1) (V zeros) 67) := Lib.hid (by rw [← hw3]; exact (Arr.new _ (V zeros) _ (by simp)).rowOther (by omega)); have B3 : Hid (Below w.heap.size w w3) := Lib.hid (by rw [← hw3]; exact arr.below_setRow ((B1.out.alloc B1.out.size _).alloc (by have := B1.out.size; simp; omega) _) B1.out.size _); clear hw3) | (refine wpList_store_row rfl 67 (.tmp 6) (.tmp 13) rfl (w1.heap.size + 1) (V (ext ys)).toArray rfl rfl 67 (V zeros).toArray S2.out (size_V (ext_len _)) (by simp [V_len, ext_len, zeros]) (one_V _) ?_; generalize hw4 : w3.setRow (w1.heap.size + 1) (V (ext ys)).toArray = w4; have T1 : Hid (Arr w4 w1.heap.size (V (ext xs)) 67) := Lib.hid (by rw [← hw4]; exact S1.out.rowOther (by omega)); have T2 : Hid (Arr w4 (w1.heap.size + 1) (V (ext ys)) 67) := Lib.hid (by rw [← hw4]; exact S2.out.row); have B4 : Hid (Below w.heap.size w w4) := Lib.hid (by rw [← hw4]; exact arr.below_setRow B3.out (by have := B1.out.size; omega) _); clear hw4 S1 S2 B3) | (refine wpList_load_row_g rfl 67 (.tmp 5) rfl w1.heap.size rfl 67 (V (ext xs)).toArray (0, 0) _ T1.out Tryd.underlying67 rfl (size_V (ext_len _)) ?_) | (refine wpList_load_row_g rfl 67 (.tmp 6) rfl (w1.heap.size + 1) rfl 67 (V (ext ys)).toArray (0, 0) _ T2.out Tryd.underlying67 rfl (size_V (ext_len _)) ?_))
    refine (count_any (ext xs) (ext ys) _ OX.out.sq OY.out.sq).mono ?_
    rintro e w2 ⟨rfl, b2⟩
    have B2 := Lib.hid (B4.out.trans (b2.mono B4.out.size))
    clear b2 B1 B4 T1 T2
    generalize (reach (ext xs) (ext ys) 0).length = r at *
    by_cases hr : r = n
    · subst hr
      go_wp2_with fail
      go_ret
      exact ⟨ret_bool (by rw [HF.out]; simp), B2.out⟩
    · have hq : ((r : Int) == (n : Int)) = false := by simp; omega
      have HR := Lib.hid hr; clear hr
      go_wp2_with fail
      go_ret
      exact ⟨ret_bool (by rw [HF.out, decide_eq_false HR.out]), B2.out⟩
  · have hall' : okBB xs ys = false := by simpa using hall
    have HF : Hid (transB xs ys = false) := Lib.hid (by simp [transB, hall'])
    have HA := Lib.hid hall'; clear hall hall'
    go_enter Tryd.func59, Tryd.ntmps59
    go_wp2_with fail
    refine (permsOf_any A n c B m d xs ys _ _ _ HX.out HY.out hn hm HX.out.2.1 HY.out.2.1).mono ?_
    rintro e w1 ⟨rfl, b1⟩
    rw [HA.out, if_neg (by decide), if_neg (by decide)]
    have B1 := Lib.hid b1; clear b1
    go_wp2_with (first | (refine wpList_store_row rfl 67 (.tmp 5) (.tmp 12) rfl w1.heap.size (V zeros).toArray rfl rfl 67 (V zeros).toArray ((Arr.new w1 (V zeros) _ rfl).alloc _) (size_V zeros_len) rfl (one_V _) ?_; generalize hw3 : ((w1.alloc (.cells #[.int .i64 0, .int .i64 0, .int .i64 0, .int .i64 0, .int .i64 0, .int .i64 0, .int .i64 0, .int .i64 0, .int .i64 0, .int .i64 0, .int .i64 0, .int .i64 0, .int .i64 0, .int .i64 0, .int .i64 0, .int .i64 0, .int .i64 0, .int .i64 0, .int .i64 0, .int .i64 0, .int .i64 0, .int .i64 0, .int .i64 0, .int .i64 0] 67)).alloc (.cells #[.int .i64 0, .int .i64 0, .int .i64 0, .int .i64 0, .int .i64 0, .int .i64 0, .int .i64 0, .int .i64 0, .int .i64 0, .int .i64 0, .int .i64 0, .int .i64 0, .int .i64 0, .int .i64 0, .int .i64 0, .int .i64 0, .int .i64 0, .int .i64 0, .int .i64 0, .int .i64 0, .int .i64 0, .int .i64 0, .int .i64 0, .int .i64 0] 67)).setRow w1.heap.size (V zeros).toArray = w3; have S1 : Hid (Arr w3 w1.heap.size (V zeros) 67) := Lib.hid (by rw [← hw3]; exact ((Arr.new w1 (V zeros) _ rfl).alloc _).row); have S2 : Hid (Arr w3 (w1.heap.size + 1) (V zeros) 67) := Lib.hid (by rw [← hw3]; exact (Arr.new _ (V zeros) _ (by simp)).rowOther (by omega)); have B3 : Hid (Below w.heap.size w w3) := Lib.hid (by rw [← hw3]; exact arr.below_setRow ((B1.out.alloc B1.out.size _).alloc (by have := B1.out.size; simp; omega) _) B1.out.size _); clear hw3) | (refine wpList_store_row rfl 67 (.tmp 6) (.tmp 13) rfl (w1.heap.size + 1) (V zeros).toArray rfl rfl 67 (V zeros).toArray S2.out (size_V zeros_len) rfl (one_V _) ?_; generalize hw4 : w3.setRow (w1.heap.size + 1) (V zeros).toArray = w4; have T1 : Hid (Arr w4 w1.heap.size (V zeros) 67) := Lib.hid (by rw [← hw4]; exact S1.out.rowOther (by omega)); have T2 : Hid (Arr w4 (w1.heap.size + 1) (V zeros) 67) := Lib.hid (by rw [← hw4]; exact S2.out.row); have B4 : Hid (Below w.heap.size w w4) := Lib.hid (by rw [← hw4]; exact arr.below_setRow B3.out (by have := B1.out.size; omega) _); clear hw4 S1 S2 B3))
    go_ret
    exact ⟨ret_bool HF.out.symm, B4.out⟩

set_option maxHeartbeats 2000000 in
theorem trans_impl_zero (A : Option Addr) (n c : Nat) (xs : List Int) (B : Option Addr) (m d : Nat) (ys : List Int) (h1 h2 : Nat) (w : World) (hx : Rd w h1 A n (V xs)) (hy : Rd w h2 B m (V ys)) (hn : n ≤ 1048576) (hm : m ≤ 1048576) (hn0 : n = 0) :
    Calls Tryd.prog 59 #[.slice A n c, .slice B m d] w fun e w' => e = .returned (.bool (transB xs ys)) ∧ Below w.heap.size w w' := by
  subst hn0
  have lx : xs.length = 0 := by simpa [V] using hx.1
  have ly : ys.length = m := by simpa [V] using hy.1
  have LX := Lib.hid lx; have LY := Lib.hid ly; clear lx ly
  have HX := Lib.hid hx; have HY := Lib.hid hy; clear hx hy
  by_cases hall : okBB xs ys = true
  · obtain ⟨ox, oy, el⟩ := okBB_iff.1 hall
    have OX := Lib.hid (Ok.of xs ox); have OY := Lib.hid (Ok.of ys oy)
    have hn24 : 0 ≤ 24 := by have := OX.out.len; rw [LX.out] at this; exact this
    have HF : Hid (transB xs ys = false) := Lib.hid (by simp [transB, LX.out])
    have HA := Lib.hid hall; clear hall ox oy el
    go_enter Tryd.func59, Tryd.ntmps59
    go_wp2_with fail
    refine (permsOf_any A 0 c B m d xs ys _ _ _ HX.out HY.out hn hm HX.out.2.1 HY.out.2.1).mono ?_
    rintro e w1 ⟨rfl, b1⟩
    rw [HA.out, if_pos rfl, if_pos rfl]
    have B1 := Lib.hid b1; clear b1
    go_wp2_with (first | (refine wpList_store_row rfl 67 (.tmp 5) (.tmp 12) rfl w1.heap.size (V (ext xs)).toArray rfl rfl 67 (V zeros).toArray ((Arr.new w1 (V zeros) _ rfl).alloc _) (size_V (ext_len _)) (by simp [V_len, ext_len, zeros]) (one_V _) ?_; generalize hw3 : ((w1.alloc (.cells #[.int .i64 0, .int .i64 0, .int .i64 0, .int .i64 0, .int .i64 0, .int .i64 0, .int .i64 0, .int .i64 0, .int .i64 0, .int .i64 0, .int .i64 0, .int .i64 0, .int .i64 0, .int .i64 0, .int .i64 0, .int .i64 0, .int .i64 0, .int .i64 0, .int .i64 0, .int .i64 0, .int .i64 0, .int .i64 0, .int .i64 0, .int .i64 0] 67)).alloc (.cells #[.int .i64 0, .int .i64 0, .int .i64 0, .int .i64 0, .int .i64 0, .int .i64 0, .int .i64 0, .int .i64 0, .int .i64 0, .int .i64 0, .int .i64 0, .int .i64 0, .int .i64 0, .int .i64 0, .int .i64 0, .int .i64 0, .int .i64 0, .int .i64 0, .int .i64 0, .int .i64 0, .int .i64 0, .int .i64 0, .int .i64 0, .int .i64 0] 67)).setRow w1.heap.size (V (ext xs)).toArray = w3; have S1 : Hid (Arr w3 w1.heap.size (V (ext xs)) 67) := Lib.hid (by rw [← hw3]; exact ((Arr.new w1 (V zeros) _ rfl).alloc _).row); have S2 : Hid (Arr w3 (w1.heap.size + 1) (V zeros) 67) := Lib.hid (by rw [← hw3]; exact (Arr.new _ (V zeros) _ (by simp)).rowOther (by omega)); have B3 : Hid (Below w.heap.size w w3) := Lib.hid (by rw [← hw3]; exact arr.below_setRow ((B1.out.alloc B1.out.size _).alloc (by have := B1.out.size; simp; omega) _) B1.out.size _); clear hw3) | (refine wpList_store_row rfl 67 (.tmp 6) (.tmp 13) rfl (w1.heap.size + 1) (V (ext ys)).toArray rfl rfl 67 (V zeros).toArray S2.out (size_V (ext_len _)) (by simp [V_len, ext_len, zeros]) (one_V _) ?_; generalize hw4 : w3.setRow (w1.heap.size + 1) (V (ext ys)).toArray = w4; have T1 : Hid (Arr w4 w1.heap.size (V (ext xs)) 67) := Lib.hid (by rw [← hw4]; exact S1.out.rowOther (by omega)); have T2 : Hid (Arr w4 (w1.heap.size + 1) (V (ext ys)) 67) := Lib.hid (by rw [← hw4]; exact S2.out.row); have B4 : Hid (Below w.heap.size w w4) := Lib.hid (by rw [← hw4]; exact arr.below_setRow B3.out (by have := B1.out.size; omega) _); clear hw4 S1 S2 B3))
    go_ret
    exact ⟨ret_bool HF.out.symm, B4.out⟩
  · have hall' : okBB xs ys = false := by simpa using hall
    have HF : Hid (transB xs ys = false) := Lib.hid (by simp [transB, hall'])
    have HA := Lib.hid hall'; clear hall hall'
    go_enter Tryd.func59, Tryd.ntmps59
    go_wp2_with fail
    refine (permsOf_any A 0 c B m d xs ys _ _ _ HX.out HY.out hn hm HX.out.2.1 HY.out.2.1).mono ?_
    rintro e w1 ⟨rfl, b1⟩
    rw [HA.out, if_neg (by decide), if_neg (by decide)]
    have B1 := Lib.hid b1; clear b1
    go_wp2_with (first | (refine wpList_store_row rfl 67 (.tmp 5) (.tmp 12) rfl w1.heap.size (V zeros).toArray rfl rfl 67 (V zeros).toArray ((Arr.new w1 (V zeros) _ rfl).alloc _) (size_V zeros_len) rfl (one_V _) ?_; generalize hw3 : ((w1.alloc (.cells #[.int .i64 0, .int .i64 0, .int .i64 0, .int .i64 0, .int .i64 0, .int .i64 0, .int .i64 0, .int .i64 0, .int .i64 0, .int .i64 0, .int .i64 0, .int .i64 0, .int .i64 0, .int .i64 0, .int .i64 0, .int .i64 0, .int .i64 0, .int .i64 0, .int .i64 0, .int .i64 0, .int .i64 0, .int .i64 0, .int .i64 0, .int .i64 0] 67)).alloc (.cells #[.int .i64 0, .int .i64 0, .int .i64 0, .int .i64 0, .int .i64 0, .int .i64 0, .int .i64 0, .int .i64 0, .int .i64 0, .int .i64 0, .int .i64 0, .int .i64 0, .int .i64 0, .int .i64 0, .int .i64 0, .int .i64 0, .int .i64 0, .int .i64 0, .int .i64 0, .int .i64 0, .int .i64 0, .int .i64 0, .int .i64 0, .int .i64 0] 67)).setRow w1.heap.size (V zeros).toArray = w3; have S1 : Hid (Arr w3 w1.heap.size (V zeros) 67) := Lib.hid (by rw [← hw3]; exact ((Arr.new w1 (V zeros) _ rfl).alloc _).row); have S2 : Hid (Arr w3 (w1.heap.size + 1) (V zeros) 67) := Lib.hid (by rw [← hw3]; exact (Arr.new _ (V zeros) _ (by simp)).rowOther (by omega)); have B3 : Hid (Below w.heap.size w w3) := Lib.hid (by rw [← hw3]; exact arr.below_setRow ((B1.out.alloc B1.out.size _).alloc (by have := B1.out.size; simp; omega) _) B1.out.size _); clear hw3) | (refine wpList_store_row rfl 67 (.tmp 6) (.tmp 13) rfl (w1.heap.size + 1) (V zeros).toArray rfl rfl 67 (V zeros).toArray S2.out (size_V zeros_len) rfl (one_V _) ?_; generalize hw4 : w3.setRow (w1.heap.size + 1) (V zeros).toArray = w4; have T1 : Hid (Arr w4 w1.heap.size (V zeros) 67) := Lib.hid (by rw [← hw4]; exact S1.out.rowOther (by omega)); have T2 : Hid (Arr w4 (w1.heap.size + 1) (V zeros) 67) := Lib.hid (by rw [← hw4]; exact S2.out.row); have B4 : Hid (Below w.heap.size w w4) := Lib.hid (by rw [← hw4]; exact arr.below_setRow B3.out (by have := B1.out.size; omega) _); clear hw4 S1 S2 B3))
    go_ret
    exact ⟨ret_bool HF.out.symm, B4.out⟩
theorem trans_impl (A : Option Addr) (n c : Nat) (xs : List Int) (B : Option Addr) (m d : Nat) (ys : List Int) (h1 h2 : Nat) (w : World) (hx : Rd w h1 A n (V xs)) (hy : Rd w h2 B m (V ys)) (hn : n ≤ 1048576) (hm : m ≤ 1048576) :
    Calls Tryd.prog 59 #[.slice A n c, .slice B m d] w fun e w' => e = .returned (.bool (transB xs ys)) ∧ Below w.heap.size w w' := by
  rcases Nat.eq_zero_or_pos n with h0 | h0
  · exact trans_impl_zero A n c xs B m d ys h1 h2 w hx hy hn hm h0
  · exact trans_impl_pos A n c xs B m d ys h1 h2 w hx hy hn hm h0
end Go.Proofs.YtpbbfbpggedgpaaDoor.fns

/-
  Contracts of spec.SameList, slices.Equal at ints, impl.SameList.
-/
namespace Go.Proofs.YtpbbfbpggedgpaaDoor.same
open Go.ChangeShapes Go.WideShapes Go.ChangeAt Go.RowKit
open Go.Proofs.YtpbbfbpggedgpaaDoor.mem Go.Proofs.YtpbbfbpggedgpaaDoor.ints
set_option linter.unusedVariables false
set_option maxRecDepth 100000

end Go.Proofs.YtpbbfbpggedgpaaDoor.same

/-
  Contracts of SurfaceOk, CountSquares, SameSurface, of the model and of the program.
-/
namespace Go.Proofs.YtpbbfbpggedgpaaDoor.sf
open Go.ChangeShapes Go.WideShapes Go.ChangeAt Go.RowKit
open Go.Proofs.YtpbbfbpggedgpaaDoor.mem Go.Proofs.YtpbbfbpggedgpaaDoor.ints Go.Proofs.YtpbbfbpggedgpaaDoor.arr Go.Proofs.YtpbbfbpggedgpaaDoor.pm Go.Proofs.YtpbbfbpggedgpaaDoor.fns
set_option linter.unusedVariables false
set_option maxRecDepth 100000

theorem Srd.open {w : World} {hi : Nat} {v : Value} {r u : List Int} (h : Srd w hi v r u) :
    ∃ P n c Q m d, v = .agg #[.slice P n c, .slice Q m d] ∧ r.length = n ∧ u.length = m ∧ n ≤ c ∧ m ≤ d ∧ hi ≤ w.heap.size ∧ Hid (∀ o, Rd (w.alloc o) hi P n (V r) ∧ Rd (w.alloc o) hi Q m (V u)) := by
  obtain ⟨P, n, c, Q, m, d, rfl, a, b, e1, e2⟩ := h
  exact ⟨P, n, c, Q, m, d, rfl, by simpa [V] using a.1, by simpa [V] using b.1, e1, e2, a.2.1, Lib.hid (fun o => ⟨a.keep ((Below.refl hi w).alloc a.2.1 o) (Nat.le_refl _), b.keep ((Below.refl hi w).alloc a.2.1 o) (Nat.le_refl _)⟩)⟩
theorem below1 (w : World) (o : Obj) {w' : World} (h : Below (w.alloc o).heap.size (w.alloc o) w') : Below w.heap.size w w' := ((Below.refl _ _).alloc (Nat.le_refl _) _).trans (h.mono (by simp))

set_option maxHeartbeats 400000 in
theorem ok_spec (v : Value) (r u : List Int) (hi : Nat) (w : World) (hx : Srd w hi v r u) (hn : r.length ≤ 1048576) (hm : u.length ≤ 1048576) :
    Calls Tryd.prog 44 #[v] w fun e w' => e = .returned (.bool (transB r u)) ∧ Below w.heap.size w w' := by
  obtain ⟨P, n, c, Q, m, d, rfl, q1, q2, e1, e2, ht, HR⟩ := hx.open
  clear hx
  go_enter Tryd.func44, Tryd.ntmps44
  go_wp2_with fail
  refine (trans_spec P n c r Q m d u _ _ _ (HR.out _).1 (HR.out _).2 (by omega) (by omega) e1 e2).mono ?_
  rintro e w1 ⟨rfl, b1⟩
  have B1 := Lib.hid (below1 _ _ b1); clear b1
  go_wp2_with fail
  go_ret
  exact ⟨rfl, B1.out⟩

set_option maxHeartbeats 400000 in
theorem ok_impl (v : Value) (r u : List Int) (hi : Nat) (w : World) (hx : Srd w hi v r u) (hn : r.length ≤ 1048576) (hm : u.length ≤ 1048576) :
    Calls Tryd.prog 49 #[v] w fun e w' => e = .returned (.bool (transB r u)) ∧ Below w.heap.size w w' := by
  obtain ⟨P, n, c, Q, m, d, rfl, q1, q2, e1, e2, ht, HR⟩ := hx.open
  clear hx
  go_enter Tryd.func49, Tryd.ntmps49
  go_wp2_with fail
  refine (trans_impl P n c r Q m d u _ _ _ (HR.out _).1 (HR.out _).2 (by omega) (by omega)).mono ?_
  rintro e w1 ⟨rfl, b1⟩
  have B1 := Lib.hid (below1 _ _ b1); clear b1
  go_wp2_with fail
  go_ret
  exact ⟨rfl, B1.out⟩

def cntF (r u : List Int) : Int := if transB r u then r.length else 0
def sameF (r u r' u' : List Int) : Bool := eqi r r' && eqi u u'
end Go.Proofs.YtpbbfbpggedgpaaDoor.sf

/-
  Contracts of RenamePerm, of the model and of the program.
-/
namespace Go.Proofs.YtpbbfbpggedgpaaDoor.fns
open Go.ChangeShapes Go.WideShapes Go.ChangeAt Go.RowKit
open Go.Proofs.YtpbbfbpggedgpaaDoor.mem Go.Proofs.YtpbbfbpggedgpaaDoor.ints Go.Proofs.YtpbbfbpggedgpaaDoor.arr Go.Proofs.YtpbbfbpggedgpaaDoor.pm Go.Proofs.YtpbbfbpggedgpaaDoor.permOk Go.Proofs.YtpbbfbpggedgpaaDoor.permOf Go.Proofs.YtpbbfbpggedgpaaDoor.inv
set_option linter.unusedVariables false
set_option maxRecDepth 100000

theorem Made.drew {n : Nat} {w wr : World} {l : List Int} (h : Made n w wr l) : Made n w wr.drew l := ⟨h.1.drew, ⟨h.2.os, h.2.tape, h.2.output, h.2.size, h.2.block⟩⟩
/-- All below base is as it was, and 'top' blocks are there. -/
structure Kp (base top : Nat) (w w' : World) : Prop where
  below : Below base w w'
  size : top ≤ w'.heap.size
theorem range_arr {w : World} {g : Nat} {cs : List Value} {t : TypeId} (h : Arr w g cs t) : w.rangeAt g 0 cs := fun j v hv => by rw [Nat.zero_add]; exact h.cell hv
theorem Kp.start {base a b top : Nat} {w W : World} {xs ys : List Value} {t : TypeId} (h1 : Arr W a xs t) (h2 : Arr W b ys t) (hb : Below base w W) (hs : top ≤ W.heap.size) :
    W.drew.rangeAt a 0 xs ∧ W.drew.rangeAt b 0 ys ∧ Kp base top w W.drew :=
  ⟨by simpa using range_arr h1, by simpa using range_arr h2, ⟨hb.os, hb.tape, hb.output, hb.size, hb.block⟩, hs⟩
theorem Kp.later {base a b top : Nat} {w W W' : World} {xs ys : List Value} (ha : a < top) (hb : b < top) (h : W.rangeAt a 0 xs ∧ W.rangeAt b 0 ys ∧ Kp base top w W) (hB : Below W.heap.size W W') (hw : base ≤ top) :
    W'.rangeAt a 0 xs ∧ W'.rangeAt b 0 ys ∧ Kp base top w W' := by
  obtain ⟨h1, h2, h3⟩ := h
  have hs := h3.size
  refine ⟨fun j v hv => ?_, fun j v hv => ?_, h3.below.trans (hB.mono (by omega)), Nat.le_trans hs hB.size⟩
  · rw [hB.cell (p := ⟨a, 0 + j, none⟩) (show a < _ by omega)]; exact h1 j v hv
  · rw [hB.cell (p := ⟨b, 0 + j, none⟩) (show b < _ by omega)]; exact h2 j v hv

end Go.Proofs.YtpbbfbpggedgpaaDoor.fns

/-
  The program's gluing: two arrays and a number, by value; gluingOf, surface.
-/
namespace Go.Proofs.YtpbbfbpggedgpaaDoor.gl
open Go.ChangeShapes Go.WideShapes Go.ChangeAt Go.RowKit
open Go.Proofs.YtpbbfbpggedgpaaDoor.mem Go.Proofs.YtpbbfbpggedgpaaDoor.ints Go.Proofs.YtpbbfbpggedgpaaDoor.arr Go.Proofs.YtpbbfbpggedgpaaDoor.pm Go.Proofs.YtpbbfbpggedgpaaDoor.permOk Go.Proofs.YtpbbfbpggedgpaaDoor.permOf Go.Proofs.YtpbbfbpggedgpaaDoor.inv Go.Proofs.YtpbbfbpggedgpaaDoor.fns Go.Proofs.YtpbbfbpggedgpaaDoor.sf
set_option linter.unusedVariables false
set_option maxRecDepth 100000

/-- Right, Up and the number of squares, in one row. -/
def gl (p q : List Int) (n : Nat) : List Int := p ++ q ++ [(n : Int)]
def zero49 : List Int := List.replicate 49 0
theorem gl_len {p q : List Int} (hp : p.length = 24) (hq : q.length = 24) (n : Nat) : (gl p q n).length = 49 := by simp [gl, hp, hq]
theorem zero49_len : zero49.length = 49 := by simp [zero49]
theorem info49 : (Tryd.prog.info? 69).map (·.size) = some 49 := by kernel_rfl
theorem size49 {l : List Int} (h : l.length = 49) : (Tryd.prog.info? 69).map (·.size) = some (V l).toArray.size := by rw [info49]; simp [V, h]
theorem list24 {l : List Int} (h : l.length = 24) : ∃ a0 a1 a2 a3 a4 a5 a6 a7 a8 a9 b0 b1 b2 b3 b4 b5 b6 b7 b8 b9 c0 c1 c2 c3, l = [a0, a1, a2, a3, a4, a5, a6, a7, a8, a9, b0, b1, b2, b3, b4, b5, b6, b7, b8, b9, c0, c1, c2, c3] := by
  match l, h with
  | [a0, a1, a2, a3, a4, a5, a6, a7, a8, a9, b0, b1, b2, b3, b4, b5, b6, b7, b8, b9, c0, c1, c2, c3], _ => exact ⟨a0, a1, a2, a3, a4, a5, a6, a7, a8, a9, b0, b1, b2, b3, b4, b5, b6, b7, b8, b9, c0, c1, c2, c3, rfl⟩
theorem built_gl {p q : List Int} (hp : p.length = 24) (hq : q.length = 24) (n : Nat) :
    Tryd.prog.built 69 [(0, .agg (V p).toArray), (1, .agg (V q).toArray), (2, .int .i64 n)] = some (V (gl p q n)).toArray := by
  obtain ⟨a0, a1, a2, a3, a4, a5, a6, a7, a8, a9, b0, b1, b2, b3, b4, b5, b6, b7, b8, b9, c0, c1, c2, c3, rfl⟩ := list24 hp
  obtain ⟨a0', a1', a2', a3', a4', a5', a6', a7', a8', a9', b0', b1', b2', b3', b4', b5', b6', b7', b8', b9', c0', c1', c2', c3', rfl⟩ := list24 hq
  kernel_rfl
theorem built_zero : Tryd.prog.built 69 [] = some (V zero49).toArray := by kernel_rfl
theorem wpList_build {P : Program} {ops : Array Oper} {rest : List Oper} {o : Oper} {a : Act} {w : World} {Q : Exit → Act → World → Prop} (hgd : o.guard = none) (t : TypeId) (parts : Array (Nat × Operand)) (ho : o.op = .build t parts)
    (l : List (Nat × Value)) (hl : (parts.toList.map fun p => (p.1, a.eval p.2)) = l) (cells : Array Value) (hb : P.built t l = some cells)
    (h : wpList P ops Q rest (a.put o.dst (.agg cells)) w) : wpList P ops Q (o :: rest) a w := by
  have hb' : P.built t (parts.map fun (i, x) => (i, a.eval x)).toList = some cells := by
    rw [Array.toList_map]
    subst hl
    exact hb
  refine wpList_plain hgd fun K hK => wp_build t parts ho (by rw [hb']; rfl) ?_
  rw [hb']
  exact hK _ _ h
theorem gl_right {w : World} {b : Nat} {p q : List Int} {n : Nat} {t : TypeId} (hp : p.length = 24) (h : Arr w b (V (gl p q n)) t) : w.rangeAt b 0 (V p) := fun j v hv => by
  have hj : j < 24 := by have := (List.getElem?_eq_some_iff.1 hv).1; simpa [V, hp] using this
  rw [Nat.zero_add]
  refine h.cell ?_
  rw [← hv]
  simp only [gl, V, List.map_append, List.append_assoc]
  rw [List.getElem?_append_left (by simp; omega)]
theorem gl_up {w : World} {b : Nat} {p q : List Int} {n : Nat} {t : TypeId} (hp : p.length = 24) (hq : q.length = 24) (h : Arr w b (V (gl p q n)) t) : w.rangeAt b 24 (V q) := fun j v hv => by
  have hj : j < 24 := by have := (List.getElem?_eq_some_iff.1 hv).1; simpa [V, hq] using this
  refine h.cell ?_
  rw [← hv]
  simp only [gl, V, List.map_append, List.append_assoc]
  rw [List.getElem?_append_right (by simp; omega), List.getElem?_append_left (by simp; omega)]
  congr 1; simp; omega
theorem gl_count {w : World} {b : Nat} {p q : List Int} {n : Nat} {t : TypeId} (hp : p.length = 24) (hq : q.length = 24) (h : Arr w b (V (gl p q n)) t) : w.cell? ⟨b, 48, none⟩ = some (.int .i64 n) := by
  refine h.cell ?_
  simp only [gl, V, List.map_append]
  rw [List.getElem?_append_right (by simp; omega)]
  simp [hp, hq]
theorem right_at {p q : List Int} {n k : Nat} (hp : p.length = 24) (hk : k < 24) : (gl p q n).getD k 0 = p.getD k 0 := by
  simp only [gl, List.append_assoc, List.getD]
  rw [List.getElem?_append_left (by omega)]
theorem up_at {p q : List Int} {n k : Nat} (hp : p.length = 24) (hq : q.length = 24) (hk : k < 24) : (gl p q n).getD (24 + k) 0 = q.getD k 0 := by
  simp only [gl, List.append_assoc, List.getD]
  rw [List.getElem?_append_right (by omega), List.getElem?_append_left (by omega)]
  congr 2; omega

theorem Srd.fst {w : World} {hi : Nat} {P Q : Option Addr} {n c m d : Nat} {r u : List Int} (h : Srd w hi (.agg #[.slice P n c, .slice Q m d]) r u) : Rd w hi P n (V r) := by
  obtain ⟨P', n', c', Q', m', d', e, a, b, _⟩ := h
  simp at e
  obtain ⟨⟨rfl, rfl, rfl⟩, rfl, rfl, rfl⟩ := e
  exact a
theorem Srd.snd {w : World} {hi : Nat} {P Q : Option Addr} {n c m d : Nat} {r u : List Int} (h : Srd w hi (.agg #[.slice P n c, .slice Q m d]) r u) : Rd w hi Q m (V u) := by
  obtain ⟨P', n', c', Q', m', d', e, a, b, _⟩ := h
  simp at e
  obtain ⟨⟨rfl, rfl, rfl⟩, rfl, rfl, rfl⟩ := e
  exact b
/-- What gluingOf gives. -/
def glv (r u : List Int) : List Int := if transB r u then gl (ext r) (ext u) r.length else zero49
theorem glv_len (r u : List Int) : (glv r u).length = 49 := by unfold glv; split; exact gl_len (ext_len _) (ext_len _) _; exact zero49_len
theorem glv_yes {r u : List Int} (h : transB r u = true) : glv r u = gl (ext r) (ext u) r.length := by simp [glv, h]
theorem glv_no {r u : List Int} (h : transB r u = false) : glv r u = zero49 := by simp [glv, h]
def GPost (r u : List Int) (w : World) (e : Ending) (w' : World) : Prop := e = .returned (.tuple #[.agg (V (glv r u)).toArray, .bool (transB r u)]) ∧ Below w.heap.size w w'
theorem gpost {r u l : List Int} {w w' : World} {b : Bool} (h : transB r u = b) (hl : glv r u = l) (hb : Below w.heap.size w w') : GPost r u w (.returned (.tuple #[.agg (V l).toArray, .bool b])) w' := by
  subst h; subst hl; exact ⟨rfl, hb⟩

set_option maxHeartbeats 4000000 in
theorem gluingOf_any (v : Value) (r u : List Int) (hi : Nat) (w : World) (hx : Srd w hi v r u) (hn : r.length ≤ 1048576) (hm : u.length ≤ 1048576) :
    Calls Tryd.prog 30 #[v] w (GPost r u w) := by
  have HX := Lib.hid hx; clear hx
  obtain ⟨P, n, c, Q, m, d, rfl, q1, q2, e1, e2, ht, HR⟩ := HX.out.open
  have L1 := Lib.hid q1
  have N0 := Lib.hid (fun o => Arr.new (w.alloc o) (V zero49) 69 (g := w.heap.size + 1) (by simp))
  have B0 : Hid (∀ a b, Below w.heap.size w ((w.alloc a).alloc b)) := Lib.hid (fun a b => ((Below.refl _ _).alloc (Nat.le_refl _) _).alloc (by simp) _)
  go_enter Tryd.func30, Tryd.ntmps30
  go_wp2_with fail
  refine (ok_impl _ r u hi _ (HX.out.keep (((Below.refl hi w).alloc ht _).alloc (by simp; omega) _) (Nat.le_refl _)) hn hm).mono ?_
  rintro e w1 ⟨rfl, b1⟩
  have hs1 : w.heap.size + 2 ≤ w1.heap.size := by have := b1.size; simpa using this
  have A0 := Lib.hid (((Arr.new w [.slice P n c, .slice Q m d] 25 rfl).alloc _).keep b1 (by simp <;> omega))
  have A1 := Lib.hid ((N0.out _).keep b1 (by simp))
  have B1 : Hid (Below w.heap.size w w1) := Lib.hid ((B0.out _ _).trans (b1.mono (by simp <;> omega)))
  clear b1 N0
  cases hq : transB r u
  · have HQ := Lib.hid hq; clear hq
    have HG := Lib.hid (glv_no HQ.out)
    go_wp2_with (first | (refine wpList_build rfl 69 _ rfl [] rfl (V zero49).toArray built_zero ?_) | (refine wpList_store_row rfl 69 _ _ rfl (w.heap.size + 1) (V zero49).toArray rfl rfl 69 (V zero49).toArray A1.out (size49 zero49_len) rfl (one_V _) ?_))
    exact bodyPost_ret (v := .tuple #[.agg (V zero49).toArray, .bool false]) (permOf.results_cell_tmp rfl _ _ (w.heap.size + 1) 69 (V zero49).toArray (0, 0) _ _ rfl rfl A1.out.row Tryd.underlying69 rfl (size49 zero49_len)) rfl (gpost HQ.out HG.out (below_setRow B1.out (by omega) _))
  · have hok := (transB_iff.1 hq)
    have HQ := Lib.hid hq; clear hq
    have HG := Lib.hid (glv_yes HQ.out)
    have HB : Hid (okBB r u = true) := Lib.hid (okBB_iff.2 ⟨hok.r.b, hok.u.b, by rw [hok.lu]⟩)
    have HS := Lib.hid hok; clear hok
    have c0 := A0.out.cell (k := 0) rfl
    have c1 := A0.out.cell (k := 1) rfl
    go_wp2_with fail
    refine (permsOf_any P n c Q m d r u hi hi _ (Srd.fst (HX.out.keep (B1.out.mono (by omega)) (Nat.le_refl _))) (Srd.snd (HX.out.keep (B1.out.mono (by omega)) (Nat.le_refl _))) (by omega) (by omega) (by omega) (by omega)).mono ?_
    rintro e w2 ⟨rfl, b2⟩
    rw [HB.out, if_pos rfl, if_pos rfl]
    have hs2 := b2.size
    replace A0 := Lib.hid (A0.out.keep b2 A0.out.lt)
    replace A1 := Lib.hid (A1.out.keep b2 A1.out.lt)
    replace B1 : Hid (Below w.heap.size w w2) := Lib.hid (B1.out.trans (b2.mono B1.out.size))
    clear b2 c0 c1
    go_wp2_with (first | (refine wpList_store_row rfl 67 (.tmp 4) (.tmp 17) rfl w2.heap.size (V (ext r)).toArray rfl rfl 67 (V zeros).toArray ((Arr.new w2 (V zeros) _ rfl).alloc _) (size_V (ext_len _)) (by simp [V_len, ext_len, zeros]) (one_V _) ?_; generalize hw3 : ((w2.alloc (.cells #[.int .i64 0, .int .i64 0, .int .i64 0, .int .i64 0, .int .i64 0, .int .i64 0, .int .i64 0, .int .i64 0, .int .i64 0, .int .i64 0, .int .i64 0, .int .i64 0, .int .i64 0, .int .i64 0, .int .i64 0, .int .i64 0, .int .i64 0, .int .i64 0, .int .i64 0, .int .i64 0, .int .i64 0, .int .i64 0, .int .i64 0, .int .i64 0] 67)).alloc (.cells #[.int .i64 0, .int .i64 0, .int .i64 0, .int .i64 0, .int .i64 0, .int .i64 0, .int .i64 0, .int .i64 0, .int .i64 0, .int .i64 0, .int .i64 0, .int .i64 0, .int .i64 0, .int .i64 0, .int .i64 0, .int .i64 0, .int .i64 0, .int .i64 0, .int .i64 0, .int .i64 0, .int .i64 0, .int .i64 0, .int .i64 0, .int .i64 0] 67)).setRow w2.heap.size (V (ext r)).toArray = w3; have S1 : Hid (Arr w3 w2.heap.size (V (ext r)) 67) := Lib.hid (by rw [← hw3]; exact ((Arr.new w2 (V zeros) _ rfl).alloc _).row); have S2 : Hid (Arr w3 (w2.heap.size + 1) (V zeros) 67) := Lib.hid (by rw [← hw3]; exact (Arr.new _ (V zeros) _ (by simp)).rowOther (by omega)); have b3 : Below w2.heap.size w2 w3 := (by rw [← hw3]; exact arr.below_setRow (((Below.refl _ _).alloc (Nat.le_refl _) _).alloc (by simp) _) (Nat.le_refl _) _); replace A0 := Lib.hid (A0.out.keep b3 A0.out.lt); replace A1 := Lib.hid (A1.out.keep b3 A1.out.lt); replace B1 : Hid (Below w.heap.size w w3) := Lib.hid (B1.out.trans (b3.mono B1.out.size)); clear hw3 b3) | (refine wpList_store_row rfl 67 (.tmp 5) (.tmp 18) rfl (w2.heap.size + 1) (V (ext u)).toArray rfl rfl 67 (V zeros).toArray S2.out (size_V (ext_len _)) (by simp [V_len, ext_len, zeros]) (one_V _) ?_; generalize hw4 : w3.setRow (w2.heap.size + 1) (V (ext u)).toArray = w4; have T1 : Hid (Arr w4 w2.heap.size (V (ext r)) 67) := Lib.hid (by rw [← hw4]; exact S1.out.rowOther (by omega)); have T2 : Hid (Arr w4 (w2.heap.size + 1) (V (ext u)) 67) := Lib.hid (by rw [← hw4]; exact S2.out.row); have b4 : Below w2.heap.size w3 w4 := (by rw [← hw4]; exact arr.below_setRow (Below.refl _ _) (by omega) _); replace A0 := Lib.hid (A0.out.keep b4 (by omega)); replace A1 := Lib.hid (A1.out.keep b4 (by omega)); replace B1 : Hid (Below w.heap.size w w4) := Lib.hid (B1.out.trans (b4.mono (by omega))); have c0 := A0.out.cell (k := 0) rfl; clear hw4 S1 S2 b4) | (refine wpList_load_row rfl 67 (.tmp 4) rfl w2.heap.size rfl 67 (V (ext r)).toArray (0, 0) _ T1.out Tryd.underlying67 rfl (size_V (ext_len _)) ?_) | (refine wpList_load_row rfl 67 (.tmp 5) rfl (w2.heap.size + 1) rfl 67 (V (ext u)).toArray (0, 0) _ T2.out Tryd.underlying67 rfl (size_V (ext_len _)) ?_) | (refine wpList_build rfl 69 _ rfl [(0, .agg (V (ext r)).toArray), (1, .agg (V (ext u)).toArray), (2, .int .i64 n)] rfl (V (gl (ext r) (ext u) n)).toArray (built_gl (ext_len _) (ext_len _) n) ?_) | (refine wpList_store_row rfl 69 _ _ rfl (w.heap.size + 1) (V (gl (ext r) (ext u) n)).toArray rfl rfl 69 (V zero49).toArray A1.out (size49 (gl_len (ext_len _) (ext_len _) n)) (by simp [V_len, gl_len, ext_len, zero49]) (one_V _) ?_))
    exact bodyPost_ret (v := .tuple #[.agg (V (gl (ext r) (ext u) n)).toArray, .bool true]) (permOf.results_cell_tmp rfl _ _ (w.heap.size + 1) 69 (V (gl (ext r) (ext u) n)).toArray (0, 0) _ _ rfl rfl A1.out.row Tryd.underlying69 rfl (size49 (gl_len (ext_len _) (ext_len _) n))) rfl (gpost HQ.out (by rw [HG.out, L1.out]) (below_setRow B1.out (by omega) _))
end Go.Proofs.YtpbbfbpggedgpaaDoor.gl
