/-
  IsFixedBy and HasHalfTurn, of the model and of the program.
-/
import Derived.Test.YtpmojmhamgcfmaaWRx
import Derived.Test.YtpmojmhamgcfmaaWIx
namespace Go.Proofs.Ytpmojmhamgcfmaa.rw
open Go.ChangeShapes Go.WideShapes Go.ChangeAt Go.RowKit
open Go.Proofs.Ytpmojmhamgcfmaa.mem Go.Proofs.Ytpmojmhamgcfmaa.ints Go.Proofs.Ytpmojmhamgcfmaa.arr Go.Proofs.Ytpmojmhamgcfmaa.pm Go.Proofs.Ytpmojmhamgcfmaa.permOk Go.Proofs.Ytpmojmhamgcfmaa.permOf Go.Proofs.Ytpmojmhamgcfmaa.inv Go.Proofs.Ytpmojmhamgcfmaa.fns Go.Proofs.Ytpmojmhamgcfmaa.sf Go.Proofs.Ytpmojmhamgcfmaa.gl Go.Proofs.Ytpmojmhamgcfmaa.mk Go.Proofs.Ytpmojmhamgcfmaa.lw Go.Proofs.Ytpmojmhamgcfmaa.la Go.Proofs.Ytpmojmhamgcfmaa.wd
set_option linter.unusedVariables false
set_option maxRecDepth 100000
/-- What IsFixedBy answers. -/
def fixF (r u : List Int) (s : ByteArray) : Bool := rwB r u s && isoF r u (rwR r u s) (rwU r u s)
theorem eqi_comm (a b : List Int) : eqi a b = eqi b a := by
  unfold eqi; exact decide_eq_decide.2 eq_comm
theorem iso_comm (r u r' u' : List Int) : isoF r u r' u' = isoF r' u' r u := by
  unfold isoF sameF
  rw [eqi_comm (can r u r.length).1, eqi_comm (can r u r.length).2]
  cases transB r u <;> cases transB r' u' <;> rfl
theorem fix_no {r u : List Int} {s : ByteArray} (h : rwB r u s = false) : fixF r u s = false := by simp [fixF, h]
theorem fix_yes {r u : List Int} {s : ByteArray} (h : rwB r u s = true) : fixF r u s = isoF r u (rwR r u s) (rwU r u s) := by simp [fixF, h]
set_option maxHeartbeats 1000000 in
theorem fix_impl (v : Value) (r u : List Int) (s : ByteArray) (hi : Nat) (w : World) (hx : Srd w hi v r u) (hn : r.length ≤ 1048576) (hm : u.length ≤ 1048576) (hs : s.size ≤ 1048576) :
    Calls Try.prog 44 #[v, .string s] w fun e w' => e = .returned (.bool (fixF r u s)) ∧ Below w.heap.size w w' := by
  have HX := Lib.hid hx
  obtain ⟨P, n, c, Q, m, d, rfl, q1, q2, e1, e2, ht, HR⟩ := hx.open
  clear hx
  go_enter Try.func44, Try.ntmps44
  go_wp2_with fail
  refine (rw_impl _ r u s hi _ (HX.out.keep ((Below.refl hi w).alloc ht _) (Nat.le_refl _)) hn hm hs).mono ?_
  rintro e w1 ⟨g, rfl, sg, b1⟩
  have A0 := Lib.hid ((Arr.new w [.slice P n c, .slice Q m d] 25 rfl).keep b1 (by simp))
  have hs1 : w.heap.size + 1 ≤ w1.heap.size := by have := b1.size; simpa using this
  have c0 := A0.out.cell (k := 0) rfl
  have c1 := A0.out.cell (k := 1) rfl
  have B1 : Hid (Below w.heap.size w w1) := Lib.hid (((Below.refl _ _).alloc (Nat.le_refl _) _).trans (b1.mono (by simp))); clear b1
  obtain ⟨P3, c3, Q3, d3, rfl⟩ := sg.len
  have SG := Lib.hid sg; clear sg
  have HL := rwR_len r u s; have HM := rwU_len r u s
  go_wp2_with (refine wpList_store_row rfl 25 _ _ rfl w1.heap.size #[.slice P3 (rwR r u s).length c3, .slice Q3 (rwU r u s).length d3] rfl rfl 25 #[.slice none 0 0, .slice none 0 0] (Arr.new w1 [.slice none 0 0, .slice none 0 0] _ rfl) size2 rfl (by simp [Value.oneCell']) ?_; generalize hw : (w1.alloc (.cells #[.slice none 0 0, .slice none 0 0] 25)).setRow w1.heap.size #[.slice P3 (rwR r u s).length c3, .slice Q3 (rwU r u s).length d3] = w2; have A1 : Hid (Arr w2 w1.heap.size [.slice P3 (rwR r u s).length c3, .slice Q3 (rwU r u s).length d3] 25) := Lib.hid (by rw [← hw]; exact (Arr.new w1 [.slice none 0 0, .slice none 0 0] _ rfl).row); have b1 : Below w1.heap.size w1 w2 := (by rw [← hw]; exact below_setRow ((Below.refl _ _).alloc (Nat.le_refl _) _) (Nat.le_refl _) _); have t5 : w1.heap.size + 1 ≤ w2.heap.size := (by rw [← hw]; simp); clear hw; have s5 := b1.size; clear c0 c1; replace A0 := Lib.hid (A0.out.keep b1 A0.out.lt); have c0 := A0.out.cell (k := 0) rfl; have c1 := A0.out.cell (k := 1) rfl; replace SG := Lib.hid (SG.out.keep b1 SG.out.top); replace B1 := Lib.hid (B1.out.trans (b1.mono B1.out.size)); clear b1; have c2 := A1.out.cell (k := 0) rfl; have c3' := A1.out.cell (k := 1) rfl; cases hq : rwB r u s)
  · have HF := Lib.hid (fix_no hq)
    clear hq
    go_ret
    exact ⟨mem.ret_bool HF.out.symm, B1.out⟩
  · have HF := Lib.hid (fix_yes hq)
    clear hq
    refine (iso_impl _ r u _ (rwR r u s) (rwU r u s) hi w1.heap.size _ (HX.out.keep (B1.out.mono ht) (Nat.le_refl _)) SG.out.rd hn hm HL HM).mono ?_
    rintro e w3 ⟨rfl, b1⟩
    replace B1 := Lib.hid (B1.out.trans (b1.mono B1.out.size))
    go_wp2_with fail
    go_ret
    exact ⟨mem.ret_bool (by rw [HF.out]), B1.out⟩
/-- What HasHalfTurn answers: the word SS. -/
def halfF (r u : List Int) : Bool := fixF r u ⟨#[83, 83]⟩
theorem half_impl (v : Value) (r u : List Int) (hi : Nat) (w : World) (hx : Srd w hi v r u) (hn : r.length ≤ 1048576) (hm : u.length ≤ 1048576) :
    Calls Try.prog 16 #[v] w fun e w' => e = .returned (.bool (halfF r u)) ∧ Below w.heap.size w w' := by
  have HX := Lib.hid hx
  obtain ⟨P, n, c, Q, m, d, rfl, q1, q2, e1, e2, ht, HR⟩ := hx.open
  clear hx
  go_enter Try.func16, Try.ntmps16
  go_wp2_with fail
  refine (fix_impl _ r u _ hi _ (HX.out.keep ((Below.refl hi w).alloc ht _) (Nat.le_refl _)) hn hm (by decide)).mono ?_
  rintro e w1 ⟨rfl, b1⟩
  have B1 : Hid (Below w.heap.size w w1) := Lib.hid (((Below.refl _ _).alloc (Nat.le_refl _) _).trans (b1.mono (by simp))); clear b1
  go_wp2_with fail
  go_ret
  exact ⟨rfl, B1.out⟩
end Go.Proofs.Ytpmojmhamgcfmaa.rw
