/-
  Contracts of PermOk, InversePerm, ThenPerm, IdentityPerm, of the model and of the program.
-/
import Derived.Test.YtjnmgpdjolaleaaPm2
namespace Go.Proofs.Ytjnmgpdjolaleaa.fns
open Go.ChangeShapes Go.WideShapes Go.ChangeAt Go.RowKit
open Go.Proofs.Ytjnmgpdjolaleaa.mem Go.Proofs.Ytjnmgpdjolaleaa.ints Go.Proofs.Ytjnmgpdjolaleaa.arr Go.Proofs.Ytjnmgpdjolaleaa.pm Go.Proofs.Ytjnmgpdjolaleaa.permOk Go.Proofs.Ytjnmgpdjolaleaa.permOf Go.Proofs.Ytjnmgpdjolaleaa.inv
set_option linter.unusedVariables false

theorem below_same {w w' : World} (h : w = w') : Below w.heap.size w w' := h ▸ Below.refl _ _
theorem ok_spec (A : Option Addr) (n c : Nat) (xs : List Int) (hi : Nat) (w : World) (hx : Rd w hi A n (V xs)) (hn : n ≤ 1048576) (hc : n ≤ c) :
    Calls Try.prog 21 #[.slice A n c] w fun e w' => e = .returned (.bool (okB xs)) ∧ Below w.heap.size w w' :=
  (permOk.spec_any A n c xs hi w hx hn hc).mono fun _ _ ⟨he, hw⟩ => ⟨he, below_same hw⟩

set_option maxHeartbeats 400000 in
theorem ok_impl (A : Option Addr) (n c : Nat) (xs : List Int) (hi : Nat) (w : World) (hx : Rd w hi A n (V xs)) (hn : n ≤ 1048576) :
    Calls Try.prog 23 #[.slice A n c] w fun e w' => e = .returned (.bool (okB xs)) ∧ Below w.heap.size w w' := by
  have HX := Lib.hid hx; clear hx
  go_enter Try.func23, Try.ntmps23
  go_wp2_with fail
  refine (permOf_any A n c xs _ _ HX.out hn).mono ?_
  rintro e w1 ⟨rfl, b1⟩
  have B1 := Lib.hid b1; clear b1
  go_wp2_with (refine wpList_store_row rfl 44 _ _ rfl w1.heap.size (V (pv xs)).toArray rfl rfl 44 (V zeros).toArray (Arr.new w1 (V zeros) _ rfl) (size_V (pv_len _)) (by simp [V_len, pv_len, zeros]) (one_V _) ?_)
  go_ret
  exact ⟨rfl, arr.below_setRow (B1.out.alloc B1.out.size _) B1.out.size _⟩

def Owns (w : World) (v : Value) (w' : World) (r : List Int) : Prop := w'.ownsRow w.heap.size 3 1 v r.length (V r)
def Gives (r : List Int) (w : World) (e : Ending) (w' : World) : Prop := ∃ v, e = .returned v ∧ w'.ownsRow w.heap.size 3 1 v r.length (V r) ∧ Below w.heap.size w w'
theorem gives_nil {w w' : World} (h : Below w.heap.size w w') : Gives [] w (.returned (.slice none 0 0)) w' :=
  ⟨_, rfl, ⟨rfl, .inl ⟨rfl, rfl⟩⟩, h⟩
theorem gives_later {w w1 w' : World} {r : List Int} {e : Ending} (hb : Below w.heap.size w w1) (h : Gives r w1 e w') : Gives r w e w' := by
  obtain ⟨v, he, ho, hb'⟩ := h
  refine ⟨v, he, ⟨ho.1, ?_⟩, hb.trans (hb'.mono hb.size)⟩
  rcases ho.2 with h0 | ⟨g, cap, cur, h1, h2, h3⟩
  · exact .inl h0
  · exact .inr ⟨g, cap, cur, h1, Nat.le_trans hb.size h2, h3⟩

set_option maxHeartbeats 400000 in
theorem list_gives (qs : List Int) (n : Nat) (w : World) (hl : qs.length = 24) (hn : n ≤ 24) :
    Calls Try.prog 43 #[.agg (V qs).toArray, .int .i64 n] w (Gives (qs.take n) w) :=
  list_any qs n w hl hn

set_option maxHeartbeats 1000000 in
theorem inv_impl0 (A : Option Addr) (n c : Nat) (xs : List Int) (hi : Nat) (w : World) (hx : Rd w hi A n (V xs)) (hn : n ≤ 1048576) :
    Calls Try.prog 16 #[.slice A n c] w (Gives (invF xs) w) := by
  have lx : xs.length = n := by simpa [V] using hx.1
  have LX := Lib.hid lx; clear lx
  have HX := Lib.hid hx; clear hx
  by_cases ox : okB xs = true
  · have OK := Lib.hid (Ok.of xs ox)
    have hn24 : n ≤ 24 := by have := OK.out.len; rw [LX.out] at this; exact this
    have HV : Hid (pv xs = ext xs) := Lib.hid (by simp [pv, ox])
    have HF : Hid (invF xs = (invTo 24 (ext xs) 24).take n) := Lib.hid (by rw [← LX.out, take_inv OK.out]; simp [invF, ox])
    have HO := Lib.hid ox; clear ox
    go_enter Try.func16, Try.ntmps16
    go_wp2_with fail
    refine (permOf_any A n c xs _ _ HX.out hn).mono ?_
    rintro e w1 ⟨rfl, b1⟩
    rw [HO.out, HV.out]
    have B1 := Lib.hid b1; clear b1
    have N1 := Lib.hid ((Arr.new w1 (V zeros) 44 rfl).row (cs' := V (ext xs)))
    go_wp2_with (first | (refine wpList_store_row rfl 44 (.tmp 3) (.tmp 8) rfl w1.heap.size (V (ext xs)).toArray rfl rfl 44 (V zeros).toArray (Arr.new w1 (V zeros) _ rfl) (size_V (ext_len _)) (by simp [V_len, ext_len, zeros]) (one_V _) ?_) | (refine wpList_load_row rfl 44 (.tmp 3) rfl w1.heap.size rfl 44 (V (ext xs)).toArray (0, 0) _ N1.out Try.underlying44 rfl (size_V (ext_len _)) ?_))
    refine (inverse_any (ext xs) _ OK.out.sq).mono ?_
    rintro e w2 ⟨rfl, b2⟩
    have B2 := Lib.hid ((arr.below_setRow (B1.out.alloc B1.out.size _) B1.out.size _).trans (b2.mono (by have := B1.out.size; simp; omega)))
    clear b2 N1 B1
    go_wp2_with fail
    refine (list_gives _ n _ (invTo_len _ _ _) hn24).mono ?_
    rintro e w3 hg
    rw [← HF.out] at hg
    have HG := Lib.hid (gives_later B2.out hg); clear hg
    obtain ⟨v, rfl, ho, hb⟩ := HG.out
    have HOW := Lib.hid ho; have HB := Lib.hid hb; clear ho hb HG
    go_wp2_with fail
    go_ret
    exact ⟨v, rfl, HOW.out, HB.out⟩
  · have ox' : okB xs = false := by simpa using ox
    have HF : Hid (invF xs = []) := Lib.hid (by simp [invF, ox'])
    have HO := Lib.hid ox'; clear ox ox'
    rw [HF.out]
    go_enter Try.func16, Try.ntmps16
    go_wp2_with fail
    refine (permOf_any A n c xs _ _ HX.out hn).mono ?_
    rintro e w1 ⟨rfl, b1⟩
    rw [HO.out]
    have B1 := Lib.hid b1; clear b1
    go_wp2_with (refine wpList_store_row rfl 44 (.tmp 3) (.tmp 8) rfl w1.heap.size (V (pv xs)).toArray rfl rfl 44 (V zeros).toArray (Arr.new w1 (V zeros) _ rfl) (size_V (pv_len _)) (by simp [V_len, pv_len, zeros]) (one_V _) ?_)
    go_ret
    exact gives_nil (arr.below_setRow (B1.out.alloc B1.out.size _) B1.out.size _)
theorem inv_impl (A : Option Addr) (n c : Nat) (xs : List Int) (hi : Nat) (w : World) (hx : Rd w hi A n (V xs)) (hn : n ≤ 1048576) :
    Calls Try.prog 16 #[.slice A n c] w fun e w' => ∃ v, e = .returned v ∧ w'.ownsRow w.heap.size 3 1 v (invF xs).length (V (invF xs)) ∧ Below w.heap.size w w' :=
  inv_impl0 A n c xs hi w hx hn
end Go.Proofs.Ytjnmgpdjolaleaa.fns
