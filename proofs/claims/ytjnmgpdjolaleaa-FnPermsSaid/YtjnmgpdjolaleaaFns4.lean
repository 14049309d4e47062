/-
  Contract of the program's ThenPerm.
-/
import Derived.Test.YtjnmgpdjolaleaaFns3
namespace Go.Proofs.Ytjnmgpdjolaleaa.fns
open Go.ChangeShapes Go.WideShapes Go.ChangeAt Go.RowKit
open Go.Proofs.Ytjnmgpdjolaleaa.mem Go.Proofs.Ytjnmgpdjolaleaa.ints Go.Proofs.Ytjnmgpdjolaleaa.arr Go.Proofs.Ytjnmgpdjolaleaa.pm Go.Proofs.Ytjnmgpdjolaleaa.permOk Go.Proofs.Ytjnmgpdjolaleaa.permOf Go.Proofs.Ytjnmgpdjolaleaa.inv
set_option linter.unusedVariables false

set_option maxHeartbeats 2000000 in
theorem then_impl0 (A : Option Addr) (n c : Nat) (xs : List Int) (B : Option Addr) (m d : Nat) (ys : List Int) (h1 h2 : Nat) (w : World) (hx : Rd w h1 A n (V xs)) (hy : Rd w h2 B m (V ys)) (hn : n ≤ 1048576) (hm : m ≤ 1048576) :
    Calls Try.prog 15 #[.slice A n c, .slice B m d] w (Gives (thenF xs ys) w) := by
  have lx : xs.length = n := by simpa [V] using hx.1
  have ly : ys.length = m := by simpa [V] using hy.1
  have LX := Lib.hid lx; have LY := Lib.hid ly; clear lx ly
  have HX := Lib.hid hx; have HY := Lib.hid hy; clear hx hy
  by_cases hall : okBB xs ys = true
  · obtain ⟨ox, oy, el⟩ := okBB_iff.1 hall
    have OX := Lib.hid (Ok.of xs ox); have OY := Lib.hid (Ok.of ys oy)
    have hn24 : n ≤ 24 := by have := OX.out.len; rw [LX.out] at this; exact this
    have HF : Hid (thenF xs ys = (thenL (ext xs) (ext ys)).take n) := Lib.hid (by rw [← LX.out, take_then OX.out OY.out el]; simp [thenF, hall])
    have HA := Lib.hid hall; clear hall ox oy el
    go_enter Try.func15, Try.ntmps15
    go_wp2_with fail
    refine (permsOf_any A n c B m d xs ys _ _ _ HX.out HY.out hn hm HX.out.2.1 HY.out.2.1).mono ?_
    rintro e w1 ⟨rfl, b1⟩
    rw [HA.out, if_pos rfl, if_pos rfl]
    have B1 := Lib.hid b1; clear b1
    go_wp2_with (first | (refine wpList_store_row rfl 44 (.tmp 5) (.tmp 12) rfl w1.heap.size (V (ext xs)).toArray rfl rfl 44 (V zeros).toArray ((Arr.new w1 (V zeros) _ rfl).alloc _) (size_V (ext_len _)) (by simp [V_len, ext_len, zeros]) (one_V _) ?_; generalize hw3 : ((w1.alloc (.cells #[.int .i64 0, .int .i64 0, .int .i64 0, .int .i64 0, .int .i64 0, .int .i64 0, .int .i64 0, .int .i64 0, .int .i64 0, .int .i64 0, .int .i64 0, .int .i64 0, .int .i64 0, .int .i64 0, .int .i64 0, .int .i64 0, .int .i64 0, .int .i64 0, .int .i64 0, .int .i64 0, .int .i64 0, .int .i64 0, .int .i64 0, .int .i64 0] 44)).alloc (.cells #[.int .i64 0, .int .i64 0, .int .i64 0, .int .i64 0, .int .i64 0, .int .i64 0, .int .i64 0, .int .i64 0, .int .i64 0, .int .i64 0, .int .i64 0, .int .i64 0, .int .i64 0, .int .i64 0, .int .i64 0, .int .i64 0, .int .i64 0, .int .i64 0, .int .i64 0, .int .i64 0, .int .i64 0, .int .i64 0, .int .i64 0, .int .i64 0] 44)).setRow w1.heap.size (V (ext xs)).toArray = w3; have S1 : Hid (Arr w3 w1.heap.size (V (ext xs)) 44) := Lib.hid (by rw [← hw3]; exact ((Arr.new w1 (V zeros) _ rfl).alloc _).row); have S2 : Hid (Arr w3 (w1.heap.size + 1) (V zeros) 44) := Lib.hid (by rw [← hw3]; exact (Arr.new _ (V zeros) _ (by simp)).rowOther (by omega)); have B3 : Hid (Below w.heap.size w w3) := Lib.hid (by rw [← hw3]; exact arr.below_setRow ((B1.out.alloc B1.out.size _).alloc (by have := B1.out.size; simp; omega) _) B1.out.size _); clear hw3) | (refine wpList_store_row rfl 44 (.tmp 6) (.tmp 13) rfl (w1.heap.size + 1) (V (ext ys)).toArray rfl rfl 44 (V zeros).toArray S2.out (size_V (ext_len _)) (by simp [V_len, ext_len, zeros]) (one_V _) ?_; generalize hw4 : w3.setRow (w1.heap.size + 1) (V (ext ys)).toArray = w4; have T1 : Hid (Arr w4 w1.heap.size (V (ext xs)) 44) := Lib.hid (by rw [← hw4]; exact S1.out.rowOther (by omega)); have T2 : Hid (Arr w4 (w1.heap.size + 1) (V (ext ys)) 44) := Lib.hid (by rw [← hw4]; exact S2.out.row); have B4 : Hid (Below w.heap.size w w4) := Lib.hid (by rw [← hw4]; exact arr.below_setRow B3.out (by have := B1.out.size; omega) _); clear hw4 S1 S2 B3) | (refine wpList_load_row rfl 44 (.tmp 5) rfl w1.heap.size rfl 44 (V (ext xs)).toArray (0, 0) _ T1.out Try.underlying44 rfl (size_V (ext_len _)) ?_) | (refine wpList_load_row rfl 44 (.tmp 6) rfl (w1.heap.size + 1) rfl 44 (V (ext ys)).toArray (0, 0) _ T2.out Try.underlying44 rfl (size_V (ext_len _)) ?_))
    refine (inv.then_any (ext xs) (ext ys) _ OX.out.sq OY.out.sq).mono ?_
    rintro e w2 ⟨rfl, b2⟩
    have B2 := Lib.hid (B4.out.trans (b2.mono B4.out.size))
    clear b2 B1 B4 T1 T2
    go_wp2_with fail
    refine (list_gives (thenL (ext xs) (ext ys)) n _ (tab_len _) hn24).mono ?_
    rintro e w3 hg
    rw [← HF.out] at hg
    obtain ⟨v, rfl, ho, hb⟩ := gives_later B2.out hg
    have HOW := Lib.hid ho; have HB := Lib.hid hb; clear ho hb hg
    go_wp2_with fail
    go_ret
    exact ⟨v, rfl, HOW.out, HB.out⟩
  · have hall' : okBB xs ys = false := by simpa using hall
    have HF : Hid (thenF xs ys = []) := Lib.hid (by simp [thenF, hall'])
    have HA := Lib.hid hall'; clear hall hall'
    rw [HF.out]
    go_enter Try.func15, Try.ntmps15
    go_wp2_with fail
    refine (permsOf_any A n c B m d xs ys _ _ _ HX.out HY.out hn hm HX.out.2.1 HY.out.2.1).mono ?_
    rintro e w1 ⟨rfl, b1⟩
    rw [HA.out, if_neg (by decide), if_neg (by decide)]
    have B1 := Lib.hid b1; clear b1
    go_wp2_with (first | (refine wpList_store_row rfl 44 (.tmp 5) (.tmp 12) rfl w1.heap.size (V zeros).toArray rfl rfl 44 (V zeros).toArray ((Arr.new w1 (V zeros) _ rfl).alloc _) (size_V zeros_len) rfl (one_V _) ?_; generalize hw3 : ((w1.alloc (.cells #[.int .i64 0, .int .i64 0, .int .i64 0, .int .i64 0, .int .i64 0, .int .i64 0, .int .i64 0, .int .i64 0, .int .i64 0, .int .i64 0, .int .i64 0, .int .i64 0, .int .i64 0, .int .i64 0, .int .i64 0, .int .i64 0, .int .i64 0, .int .i64 0, .int .i64 0, .int .i64 0, .int .i64 0, .int .i64 0, .int .i64 0, .int .i64 0] 44)).alloc (.cells #[.int .i64 0, .int .i64 0, .int .i64 0, .int .i64 0, .int .i64 0, .int .i64 0, .int .i64 0, .int .i64 0, .int .i64 0, .int .i64 0, .int .i64 0, .int .i64 0, .int .i64 0, .int .i64 0, .int .i64 0, .int .i64 0, .int .i64 0, .int .i64 0, .int .i64 0, .int .i64 0, .int .i64 0, .int .i64 0, .int .i64 0, .int .i64 0] 44)).setRow w1.heap.size (V zeros).toArray = w3; have S1 : Hid (Arr w3 w1.heap.size (V zeros) 44) := Lib.hid (by rw [← hw3]; exact ((Arr.new w1 (V zeros) _ rfl).alloc _).row); have S2 : Hid (Arr w3 (w1.heap.size + 1) (V zeros) 44) := Lib.hid (by rw [← hw3]; exact (Arr.new _ (V zeros) _ (by simp)).rowOther (by omega)); have B3 : Hid (Below w.heap.size w w3) := Lib.hid (by rw [← hw3]; exact arr.below_setRow ((B1.out.alloc B1.out.size _).alloc (by have := B1.out.size; simp; omega) _) B1.out.size _); clear hw3) | (refine wpList_store_row rfl 44 (.tmp 6) (.tmp 13) rfl (w1.heap.size + 1) (V zeros).toArray rfl rfl 44 (V zeros).toArray S2.out (size_V zeros_len) rfl (one_V _) ?_; generalize hw4 : w3.setRow (w1.heap.size + 1) (V zeros).toArray = w4; have T1 : Hid (Arr w4 w1.heap.size (V zeros) 44) := Lib.hid (by rw [← hw4]; exact S1.out.rowOther (by omega)); have T2 : Hid (Arr w4 (w1.heap.size + 1) (V zeros) 44) := Lib.hid (by rw [← hw4]; exact S2.out.row); have B4 : Hid (Below w.heap.size w w4) := Lib.hid (by rw [← hw4]; exact arr.below_setRow B3.out (by have := B1.out.size; omega) _); clear hw4 S1 S2 B3))
    go_ret
    exact gives_nil B4.out
theorem then_impl (A : Option Addr) (n c : Nat) (xs : List Int) (B : Option Addr) (m d : Nat) (ys : List Int) (h1 h2 : Nat) (w : World) (hx : Rd w h1 A n (V xs)) (hy : Rd w h2 B m (V ys)) (hn : n ≤ 1048576) (hm : m ≤ 1048576) :
    Calls Try.prog 15 #[.slice A n c, .slice B m d] w fun e w' => ∃ v, e = .returned v ∧ w'.ownsRow w.heap.size 3 1 v (thenF xs ys).length (V (thenF xs ys)) ∧ Below w.heap.size w w' :=
  then_impl0 A n c xs B m d ys h1 h2 w hx hy hn hm
end Go.Proofs.Ytjnmgpdjolaleaa.fns
