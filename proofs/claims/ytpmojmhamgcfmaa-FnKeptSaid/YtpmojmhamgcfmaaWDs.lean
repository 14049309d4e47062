/-
  A surface that is drawn.
-/
import Derived.Test.YtpmojmhamgcfmaaY15
import Derived.Test.YtpmojmhamgcfmaaWDrawP
namespace Go.Proofs.Ytpmojmhamgcfmaa.mk
open Go.ChangeShapes Go.WideShapes Go.ChangeAt Go.RowKit
open Go.Proofs.Ytpmojmhamgcfmaa.mem Go.Proofs.Ytpmojmhamgcfmaa.ints Go.Proofs.Ytpmojmhamgcfmaa.arr Go.Proofs.Ytpmojmhamgcfmaa.pm Go.Proofs.Ytpmojmhamgcfmaa.permOk Go.Proofs.Ytpmojmhamgcfmaa.permOf Go.Proofs.Ytpmojmhamgcfmaa.inv Go.Proofs.Ytpmojmhamgcfmaa.sf Go.Proofs.Ytpmojmhamgcfmaa.gl Go.Proofs.Ytpmojmhamgcfmaa.cur
set_option linter.unusedVariables false
set_option maxRecDepth 100000
theorem el_ok4 : ∀ a : Fin 6, ∀ h : Fin 5, 1 ≤ a.1 → 1 ≤ h.1 → transB (elFR a.1 h.1) (elFU a.1 h.1) = true ∧ (elFR a.1 h.1).length = a.1 + h.1 - 1 := by decide +kernel
theorem el_sf {a h : Int} (a1 : 1 ≤ a) (a2 : a ≤ 5) (h1 : 1 ≤ h) (h2 : h ≤ 4) : ∃ N, N ≤ 8 ∧ Sf N (elFR a h) (elFU a h) := by
  obtain ⟨A, rfl⟩ := Int.eq_ofNat_of_zero_le (show 0 ≤ a by omega)
  obtain ⟨H, rfl⟩ := Int.eq_ofNat_of_zero_le (show 0 ≤ h by omega)
  have := el_ok4 ⟨A, by omega⟩ ⟨H, by omega⟩ (by show 1 ≤ A; omega) (by show 1 ≤ H; omega)
  have t := transB_iff.1 this.1
  exact ⟨_, by have := this.2; simp only at this; omega, t⟩
theorem el_sf1 {m : Nat} (m1 : 1 ≤ m) (m5 : m ≤ 5) : ∃ N, N = m ∧ Sf N (elFR (m : Int) 1) (elFU (m : Int) 1) := by
  have := el_ok4 ⟨m, by omega⟩ ⟨1, by omega⟩ m1 (Nat.le_refl _)
  have e : (elFR (m : Int) 1).length = m := by have := this.2; simp only [Nat.add_sub_cancel] at this; exact this
  have t := transB_iff.1 this.1
  exact ⟨_, e, t⟩
theorem to_ok4 : ∀ a : Fin 5, ∀ h : Fin 4, 1 ≤ a.1 → 1 ≤ h.1 → transB (toR a.1 h.1) (toU a.1 h.1) = true ∧ (toR a.1 h.1).length = a.1 * h.1 := by decide +kernel
theorem to_sf {a h : Int} (a1 : 1 ≤ a) (a2 : a ≤ 4) (h1 : 1 ≤ h) (h2 : h ≤ 3) : ∃ N, N ≤ 12 ∧ Sf N (toR a h) (toU a h) := by
  obtain ⟨A, rfl⟩ := Int.eq_ofNat_of_zero_le (show 0 ≤ a by omega)
  obtain ⟨H, rfl⟩ := Int.eq_ofNat_of_zero_le (show 0 ≤ h by omega)
  have := to_ok4 ⟨A, by omega⟩ ⟨H, by omega⟩ (by show 1 ≤ A; omega) (by show 1 ≤ H; omega)
  have t := transB_iff.1 this.1
  exact ⟨_, by have h3 := this.2; simp only at h3; rw [h3]; exact Nat.mul_le_mul (show A ≤ 4 by omega) (show H ≤ 3 by omega), t⟩
/-- A valid surface of at most M squares, of the call's own. -/
def Drawn (M g : Nat) (A : Option Addr) (n c : Nat) (l : List Int) (w : World) (e : Ending) (w' : World) : Prop :=
  ∃ v r u N, N ≤ M ∧ Sf N r u ∧ e = .returned v ∧ Svl w' w.heap.size w'.heap.size v r u ∧ Cur w' g A n c l ∧ Out g (g + 1) w w'
structure Dw (w wr : World) (g : Nat) (A : Option Addr) (n c : Nat) (l : List Int) : Prop where
  res : Arr wr w.heap.size [.slice none 0 0, .slice none 0 0] 25
  cur : Cur wr g A n c l
  out : Out g (g + 1) w wr
  lt : g < w.heap.size
theorem Dw.later {w wr w' : World} {g n c : Nat} {A : Option Addr} {l : List Int} (h : Dw w wr g A n c l) (hc : Cur w' g A n c l) (ho : Out g (g + 1) wr w') : Dw w w' g A n c l :=
  ⟨h.res.out ho (.inr h.lt), hc, h.out.trans ho, h.lt⟩
theorem Dw.below {w wr w' : World} {g n c : Nat} {A : Option Addr} {l : List Int} (h : Dw w wr g A n c l) (hb : Below wr.heap.size wr w') : Dw w w' g A n c l :=
  h.later (h.cur.keep hb h.cur.lt) (Out.of_below hb)
theorem Dw.size {w wr : World} {g n c : Nat} {A : Option Addr} {l : List Int} (h : Dw w wr g A n c l) : w.heap.size < wr.heap.size := h.res.lt
theorem _root_.Go.Proofs.Ytpmojmhamgcfmaa.mem.Out.trans_below {g : Nat} {w a b : World} {B : Nat} (h : Out g (g + 1) w a) (hb : Below B a b) (hB : w.heap.size ≤ B) : Out g (g + 1) w b :=
  ⟨hb.os.trans h.os, hb.tape.trans h.tape, hb.output.trans h.output, Nat.le_trans h.size hb.size, fun k hk hne => (hb.block k (by omega)).trans (h.block k hk hne)⟩
set_option maxHeartbeats 4000000 in
theorem drawM_any (mo : Nat) (mo1 : 1 ≤ mo) (mo5 : mo ≤ 5) (w : World) (g : Nat) (A : Option Addr) (n c : Nat) (l : List Int) (hc : Cur w g A n c l) :
    Calls Try.prog 35 #[.pointer (some ⟨g, 0, none⟩), .int .i64 (mo : Int)] w (Drawn mo g A n c l w) := by
  have hlt0 := hc.lt
  have DW0 : Hid (Dw w (w.alloc (.cells #[.slice none 0 0, .slice none 0 0] 25)) g A n c l) := Lib.hid ⟨Arr.new w [.slice none 0 0, .slice none 0 0] _ rfl, hc.keep ((Below.refl _ _).alloc (Nat.le_refl _) _) hlt0, Out.of_below ((Below.refl _ _).alloc (Nat.le_refl _) _), hlt0⟩
  clear hc
  go_enter Try.func35, Try.ntmps35
  go_wp2_with fail
  refine (below_any _ g A n c l (mo : Int) (by omega) (by omega) DW0.out.cur).mono ?_
  rintro e w1 ⟨x, x0, x1, rfl, hc1, o1⟩
  have DW := Lib.hid (DW0.out.later hc1 o1)
  clear hc1 o1 DW0
  obtain ⟨m, hm⟩ := Int.eq_ofNat_of_zero_le (show 0 ≤ 1 + x by omega)
  have hm1 : 1 ≤ m := by omega
  have hm5 : m ≤ mo := by omega
  have hmw : IntKind.i64.wrap (m : Int) = (m : Int) := w_in (by omega)
  clear x0 x1
  go_wp2_with fail
  clear hmw hm
  go_loopw [6] (fun i wr => ∃ k : Nat, k ≤ 8 ∧ i = .int .i64 k ∧ Dw w wr g A n c l) (fun i _ => 8 - (intOf i).toNat)
  case atStart => exact ⟨0, Nat.zero_le _, rfl, DW.out⟩
  case round =>
    obtain ⟨k, hk, rfl, ht⟩ := hrel
    clear DW
    have DW := Lib.hid ht; clear ht
    by_cases hlt : k < 8
    · go_wp2_with fail
      refine (drawP_any _ g A n c l m (by omega) DW.out.cur).mono ?_
      rintro e w2 ⟨v1, r, okr, lr, rfl, ow1, hc1, o1⟩
      have sz := DW.out.size
      have s1 := o1.size
      replace DW := Lib.hid (DW.out.later hc1 o1); clear hc1 o1
      obtain ⟨P1, d1, rfl⟩ := own_form ow1
      have hd1 := (own_cap ow1).2
      have OKR := Lib.hid okr; have LR := Lib.hid lr; have R1 := Lib.hid (Row.of_own ow1); clear okr lr ow1
      go_wp2_with fail
      refine (drawP_any _ g A n c l m (by omega) DW.out.cur).mono ?_
      rintro e w3 ⟨v2, u, oku, lu, rfl, ow2, hc1, o1⟩
      have sz2 := DW.out.lt
      have s2 := o1.size
      replace R1 := Lib.hid (R1.out.out o1 (.inr (by omega)))
      replace DW := Lib.hid (DW.out.later hc1 o1); clear hc1 o1
      obtain ⟨P2, d2, rfl⟩ := own_form ow2
      have hd2 := (own_cap ow2).2
      have OKU := Lib.hid oku; have LU := Lib.hid lu; have R2 := Lib.hid (Row.of_own ow2); clear oku lu ow2
      have SV : Hid (Svl w3 (w.heap.size + 1) w3.heap.size (.agg #[.slice P1 m d1, .slice P2 m d2]) r u) := Lib.hid (Svl.later (Svl.mk2 R1.out R2.out s1 hd1 hd2) (by omega))
      clear R1 R2
      go_wp2_with (refine wpList_store_row rfl 25 _ _ rfl w3.heap.size #[.slice P1 m d1, .slice P2 m d2] rfl rfl 25 #[.slice none 0 0, .slice none 0 0] (Arr.new w3 [.slice none 0 0, .slice none 0 0] _ rfl) size2 rfl (by simp [Value.oneCell']) ?_; generalize hw : (w3.alloc (.cells #[.slice none 0 0, .slice none 0 0] 25)).setRow w3.heap.size #[.slice P1 m d1, .slice P2 m d2] = w4; have NB : Hid (Arr w4 w3.heap.size [.slice P1 m d1, .slice P2 m d2] 25) := Lib.hid (by rw [← hw]; exact (Arr.new w3 [.slice none 0 0, .slice none 0 0] _ rfl).row); have bb : Below w3.heap.size w3 w4 := (by rw [← hw]; exact below_setRow ((Below.refl _ _).alloc (Nat.le_refl _) _) (Nat.le_refl _) _); have tt : w3.heap.size + 1 ≤ w4.heap.size := (by rw [← hw]; simp); clear hw; replace SV := Lib.hid (SV.out.keep bb (Nat.le_refl _)); replace DW := Lib.hid (DW.out.below bb); have hc0 := NB.out.cell (k := 0) rfl; have hc1 := NB.out.cell (k := 1) rfl)
      have LM : Hid (r.length = m) := LR
      go_wp2_with fail
      refine (sf.ok_spec (.agg #[.slice P1 m d1, .slice P2 m d2]) r u _ w4 SV.out.rd (by rw [LR.out]; omega) (by rw [LU.out]; omega)).mono ?_
      rintro e w5 ⟨rfl, b5⟩
      have sb := b5.size
      replace SV := Lib.hid (SV.out.keep b5 SV.out.top)
      have NB2 := Lib.hid (NB.out.keep b5 NB.out.lt)
      replace DW := Lib.hid (DW.out.below b5)
      clear b5 NB hc0 hc1 bb
      have hc0 := NB2.out.cell (k := 0) rfl
      have hc1 := NB2.out.cell (k := 1) rfl
      cases ht : transB r u
      · go_wp2
        go_roundw
        case rel => exact ⟨k + 1, by omega, by go_num, DW.out⟩
        case measure => simp [intOf]; omega
      · have SF := Lib.hid (transB_iff.1 ht)
        have LE : Hid (r.length ≤ mo) := Lib.hid (by rw [LR.out]; omega)
        clear ht
        go_wp2_with (first | (fail) | (refine wpList_store_row rfl 25 _ _ rfl w.heap.size #[.slice P1 m d1, .slice P2 m d2] rfl rfl 25 #[.slice none 0 0, .slice none 0 0] DW.out.res size2 rfl (by simp [Value.oneCell']) ?_))
        exact bodyPost_ret (v := .agg #[.slice P1 m d1, .slice P2 m d2]) (results_cell_row rfl _ _ w.heap.size 25 #[.slice P1 m d1, .slice P2 m d2] (0, 0) _ rfl DW.out.res.row Try.underlying25 rfl size2) rfl (by
          have sz := DW.out.size
          have b_ := below_setRow (Below.refl w.heap.size w5) (Nat.le_refl _) #[.slice P1 m d1, .slice P2 m d2]
          have sv := Svl.row SV.out (g := w.heap.size) (by omega) #[.slice P1 m d1, .slice P2 m d2]
          exact ⟨_, _, _, _, LE.out, SF.out, rfl, (by simpa using Svl.later (lo' := w.heap.size) (Svl.wide sv) (by omega)), DW.out.cur.keep b_ DW.out.lt, DW.out.out.trans_below b_ (Nat.le_refl _)⟩)
    · obtain rfl : k = 8 := by omega
      obtain ⟨N, hN0, sf⟩ := el_sf1 (m := m) hm1 (by omega)
      have hN : N ≤ mo := by omega
      clear hN0
      have SF := Lib.hid sf; have LE := Lib.hid hN; clear sf hN
      go_wp2_with fail
      refine (el_spec (m : Int) 1 _ (by omega) (by omega) (by omega) (by omega)).mono ?_
      rintro e w2 ⟨v1, rfl, sv, b2⟩
      obtain ⟨P1, d1, P2, d2, rfl⟩ := sv.lens SF.out.lr SF.out.lu
      have sz := DW.out.size
      replace DW := Lib.hid (DW.out.below b2)
      have SV : Hid (Svl w2 (w.heap.size + 1) w2.heap.size _ _ _) := Lib.hid (sv.later (by omega))
      clear sv b2
      go_wp2_with (first | (refine wpList_store_row rfl 25 _ _ rfl w2.heap.size #[.slice P1 N d1, .slice P2 N d2] rfl rfl 25 #[.slice none 0 0, .slice none 0 0] (Arr.new w2 [.slice none 0 0, .slice none 0 0] _ rfl) size2 rfl (by simp [Value.oneCell']) ?_; generalize hw : (w2.alloc (.cells #[.slice none 0 0, .slice none 0 0] 25)).setRow w2.heap.size #[.slice P1 N d1, .slice P2 N d2] = w4; have NB : Hid (Arr w4 w2.heap.size [.slice P1 N d1, .slice P2 N d2] 25) := Lib.hid (by rw [← hw]; exact (Arr.new w2 [.slice none 0 0, .slice none 0 0] _ rfl).row); have bb : Below w2.heap.size w2 w4 := (by rw [← hw]; exact below_setRow ((Below.refl _ _).alloc (Nat.le_refl _) _) (Nat.le_refl _) _); have tt : w2.heap.size + 1 ≤ w4.heap.size := (by rw [← hw]; simp); clear hw; replace SV := Lib.hid (SV.out.keep bb (Nat.le_refl _)); replace DW := Lib.hid (DW.out.below bb); have hc0 := NB.out.cell (k := 0) rfl; have hc1 := NB.out.cell (k := 1) rfl) | (refine wpList_store_row rfl 25 _ _ rfl w.heap.size #[.slice P1 N d1, .slice P2 N d2] rfl rfl 25 #[.slice none 0 0, .slice none 0 0] DW.out.res size2 rfl (by simp [Value.oneCell']) ?_))
      exact bodyPost_ret (v := .agg #[.slice P1 N d1, .slice P2 N d2]) (results_cell_row rfl _ _ w.heap.size 25 #[.slice P1 N d1, .slice P2 N d2] (0, 0) _ rfl DW.out.res.row Try.underlying25 rfl size2) rfl (by
        have sz := DW.out.size
        have b_ := below_setRow (Below.refl w.heap.size w4) (Nat.le_refl _) #[.slice P1 N d1, .slice P2 N d2]
        have sv := Svl.row SV.out (g := w.heap.size) (by omega) #[.slice P1 N d1, .slice P2 N d2]
        exact ⟨_, _, _, _, LE.out, SF.out, rfl, (by simpa using Svl.later (lo' := w.heap.size) (Svl.wide sv) (by omega)), DW.out.cur.keep b_ DW.out.lt, DW.out.out.trans_below b_ (Nat.le_refl _)⟩)

theorem draw5_any (w : World) (g : Nat) (A : Option Addr) (n c : Nat) (l : List Int) (hc : Cur w g A n c l) :
    Calls Try.prog 35 #[.pointer (some ⟨g, 0, none⟩), .int .i64 5] w (Drawn 8 g A n c l w) :=
  (drawM_any 5 (by decide) (by decide) w g A n c l hc).mono fun _ _ ⟨v, r, u, N, h1, h2⟩ => ⟨v, r, u, N, by omega, h2⟩
end Go.Proofs.Ytpmojmhamgcfmaa.mk
