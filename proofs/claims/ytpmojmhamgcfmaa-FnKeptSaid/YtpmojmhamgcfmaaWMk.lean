/-
  MakeSurface.
-/
import Derived.Test.YtpmojmhamgcfmaaWDs
import Derived.Test.YtpmojmhamgcfmaaWTi
namespace Go.Proofs.Ytpmojmhamgcfmaa.mk
open Go.ChangeShapes Go.WideShapes Go.ChangeAt Go.RowKit
open Go.Proofs.Ytpmojmhamgcfmaa.mem Go.Proofs.Ytpmojmhamgcfmaa.ints Go.Proofs.Ytpmojmhamgcfmaa.arr Go.Proofs.Ytpmojmhamgcfmaa.pm Go.Proofs.Ytpmojmhamgcfmaa.permOk Go.Proofs.Ytpmojmhamgcfmaa.permOf Go.Proofs.Ytpmojmhamgcfmaa.inv Go.Proofs.Ytpmojmhamgcfmaa.sf Go.Proofs.Ytpmojmhamgcfmaa.gl Go.Proofs.Ytpmojmhamgcfmaa.cur
set_option linter.unusedVariables false
set_option maxRecDepth 100000
def Makes (w : World) (e : Ending) (w' : World) : Prop :=
  ∃ v r u N, N ≤ 12 ∧ Sf N r u ∧ e = .returned v ∧ Svl w' w.heap.size w'.heap.size v r u ∧ Below w.heap.size w w'
structure Mw (w wr : World) (g : Nat) (A : Option Addr) (n c : Nat) (l : List Int) : Prop where
  res : Arr wr w.heap.size [.slice none 0 0, .slice none 0 0] 25
  cur : Cur wr g A n c l
  below : Below w.heap.size w wr
  gt : w.heap.size < g
theorem Mw.later {w wr w' : World} {g n c : Nat} {A : Option Addr} {l : List Int} (h : Mw w wr g A n c l) (hc : Cur w' g A n c l) (ho : Out g (g + 1) wr w') : Mw w w' g A n c l :=
  ⟨h.res.out ho (.inl h.gt), hc, h.below.trans (ho.below (Nat.le_of_lt h.gt) h.below.size), h.gt⟩
theorem Mw.under {w wr w' : World} {g n c : Nat} {A : Option Addr} {l : List Int} (h : Mw w wr g A n c l) (hb : Below wr.heap.size wr w') : Mw w w' g A n c l :=
  ⟨h.res.keep hb h.res.lt, h.cur.keep hb h.cur.lt, h.below.trans (hb.mono h.below.size), h.gt⟩
theorem Mw.store {w wr : World} {g n c b : Nat} {A : Option Addr} {l : List Int} (h : Mw w wr g A n c l) (hb : g < b) (cs : Array Value) : Mw w (wr.setRow b cs) g A n c l := by
  have ho : Out b (b + 1) wr (wr.setRow b cs) := (Out.refl b (b + 1) wr).row_ (Nat.le_refl _) (Nat.lt_succ_self _) cs
  have := h.gt
  exact ⟨h.res.out ho (.inl (by omega)), h.cur.out ho hb, h.below.trans (ho.below (by omega) h.below.size), h.gt⟩
/-- The surface in its box b. -/
structure Bx (wr : World) (g b N c d : Nat) (P Q : Option Addr) (r u : List Int) : Prop where
  small : N ≤ 12
  sf : Sf N r u
  box : Arr wr b [.slice P N c, .slice Q N d] 25
  row : ∃ lo hi, Svl wr lo hi (.agg #[.slice P N c, .slice Q N d]) r u ∧ g < lo ∧ (hi ≤ b ∨ b < lo)
  gb : g < b
theorem Bx.later {wr w' : World} {g b N c d : Nat} {P Q : Option Addr} {r u : List Int} (h : Bx wr g b N c d P Q r u) (ho : Out g (g + 1) wr w') : Bx w' g b N c d P Q r u := by
  obtain ⟨lo, hi, sv, h1, h2⟩ := h.row
  have := h.gb
  exact ⟨h.small, h.sf, h.box.out ho (.inr (by omega)), ⟨lo, hi, sv.out ho (.inr (by omega)), h1, h2⟩, h.gb⟩
theorem Bx.rd {wr : World} {g b N c d : Nat} {P Q : Option Addr} {r u : List Int} (h : Bx wr g b N c d P Q r u) : Srd wr wr.heap.size (.agg #[.slice P N c, .slice Q N d]) r u := by
  obtain ⟨lo, hi, sv, h1, h2⟩ := h.row
  exact sv.rd.up
theorem Bx.store {wr w' : World} {g b N c d c' d' : Nat} {P Q P' Q' : Option Addr} {r u r' u' : List Int} (h : Bx wr g b N c d P Q r u) (hb : Below wr.heap.size wr w') (s : Sf N r' u') (sv : Svl w' wr.heap.size w'.heap.size (.agg #[.slice P' N c', .slice Q' N d']) r' u') :
    Bx (w'.setRow b #[.slice P' N c', .slice Q' N d']) g b N c' d' P' Q' r' u' := by
  have ho : Out b (b + 1) w' (w'.setRow b #[.slice P' N c', .slice Q' N d']) := (Out.refl b (b + 1) w').row_ (Nat.le_refl _) (Nat.lt_succ_self _) _
  have h1 := h.gb; have h2 := h.box.lt
  exact ⟨h.small, s, (h.box.keep hb h2).row, ⟨_, _, sv.out ho (.inr (by omega)), by omega, .inr (by omega)⟩, h1⟩
theorem Bx.done {w wr : World} {g b N c d : Nat} {P Q : Option Addr} {r u : List Int} (h : Bx wr g b N c d P Q r u) (hg : w.heap.size < g) : Svl (wr.setRow w.heap.size #[.slice P N c, .slice Q N d]) w.heap.size (wr.setRow w.heap.size #[.slice P N c, .slice Q N d]).heap.size (.agg #[.slice P N c, .slice Q N d]) r u := by
  obtain ⟨lo, hi, sv, h1, h2⟩ := h.row
  exact Svl.wide (Svl.later (Svl.row sv (g := w.heap.size) (by omega) _) (by omega))

set_option maxHeartbeats 4000000 in
theorem make_any (w : World) (hi : Nat) (A : Option Addr) (n c : Nat) (l : List Int) (hc : cur.Code w hi A n l) :
    Calls Try.prog 6 #[.slice A n c] w (Makes w) := by
  have HC := Lib.hid hc; clear hc
  go_enter Try.func6, Try.ntmps6
  go_wp2_with fail
  refine (new_any _ hi A n c l (HC.out.keep ((Below.refl w.heap.size w).alloc (Nat.le_refl _) _) HC.out.rd.2.1)).mono ?_
  rintro e w1 ⟨g, hg, hlt, rfl, hcur, hb⟩
  have MW : Hid (Mw w w1 g A n c l) := Lib.hid ⟨(Arr.new w [.slice none 0 0, .slice none 0 0] _ rfl).keep hb (by simp), hcur, ((Below.refl w.heap.size w).alloc (Nat.le_refl _) _).trans (hb.mono (by simp)), (by simp at hg; omega)⟩
  clear hg hlt hcur hb
  go_wp2_with fail
  refine (below_any _ g A n c l 4 (by omega) (by omega) MW.out.cur).mono ?_
  rintro e w2 ⟨x, x0, x1, rfl, hc1, o1⟩
  replace MW := Lib.hid (MW.out.later hc1 o1); clear hc1 o1
  by_cases hx : x = 0
  · subst hx
    go_wp2_with fail
    refine (below_any _ g A n c l 4 (by omega) (by omega) MW.out.cur).mono ?_
    rintro e w3 ⟨y, y0, y1, rfl, hc1, o1⟩
    replace MW := Lib.hid (MW.out.later hc1 o1); clear hc1 o1
    obtain ⟨a', ha'⟩ := Int.eq_ofNat_of_zero_le (show 0 ≤ 1 + y by omega)
    have ha1 : 1 ≤ a' := by omega
    have ha5 : a' ≤ 4 := by omega
    have haw : IntKind.i64.wrap (a' : Int) = (a' : Int) := w_in (by omega)
    clear y0 y1
    go_wp2_with fail
    refine (below_any _ g A n c l 3 (by omega) (by omega) MW.out.cur).mono ?_
    rintro e w4 ⟨z, z0, z1, rfl, hc1, o1⟩
    replace MW := Lib.hid (MW.out.later hc1 o1); clear hc1 o1
    obtain ⟨b', hb'⟩ := Int.eq_ofNat_of_zero_le (show 0 ≤ 1 + z by omega)
    have hb1 : 1 ≤ b' := by omega
    have hb5 : b' ≤ 3 := by omega
    have hbw : IntKind.i64.wrap (b' : Int) = (b' : Int) := w_in (by omega)
    clear z0 z1
    obtain ⟨N, hN, sf⟩ := to_sf (a := (a' : Int)) (h := (b' : Int)) (by omega) (by omega) (by omega) (by omega)
    have SF := Lib.hid sf; have LE : Hid (N ≤ 12) := Lib.hid (by omega); clear sf hN
    go_wp2_with fail
    refine (to_spec (a' : Int) (b' : Int) _ (by omega) (by omega) (by omega) (by omega)).mono ?_
    rintro e w5 ⟨v1, rfl, sv, b2⟩
    obtain ⟨P1, d1, P2, d2, rfl⟩ := sv.lens SF.out.lr SF.out.lu
    have GL : Hid (g < w4.heap.size) := Lib.hid MW.out.cur.lt
    have sv5 := b2.size
    replace MW := Lib.hid (MW.out.under b2)
    have SV := Lib.hid sv
    clear sv b2 haw hbw ha' hb'
    go_wp2_with (refine wpList_store_row rfl 25 _ _ rfl w5.heap.size #[.slice P1 N d1, .slice P2 N d2] rfl rfl 25 #[.slice none 0 0, .slice none 0 0] (Arr.new w5 [.slice none 0 0, .slice none 0 0] _ rfl) size2 rfl (by simp [Value.oneCell']) ?_; generalize hw : (w5.alloc (.cells #[.slice none 0 0, .slice none 0 0] 25)).setRow w5.heap.size #[.slice P1 N d1, .slice P2 N d2] = w6; have NB : Hid (Arr w6 w5.heap.size [.slice P1 N d1, .slice P2 N d2] 25) := Lib.hid (by rw [← hw]; exact (Arr.new w5 [.slice none 0 0, .slice none 0 0] _ rfl).row); have bb : Below w5.heap.size w5 w6 := (by rw [← hw]; exact below_setRow ((Below.refl _ _).alloc (Nat.le_refl _) _) (Nat.le_refl _) _); have tt : w5.heap.size + 1 ≤ w6.heap.size := (by rw [← hw]; simp); clear hw; have BX : Hid (Bx w6 g w5.heap.size N d1 d2 P1 P2 _ _) := Lib.hid ⟨LE.out, SF.out, NB.out, ⟨_, _, SV.out.keep bb (Nat.le_refl _), GL.out, .inl (Nat.le_refl _)⟩, Nat.lt_of_lt_of_le GL.out sv5⟩; replace MW := Lib.hid (MW.out.under bb); have hc0 := NB.out.cell (k := 0) rfl; have hc1 := NB.out.cell (k := 1) rfl)
    have hsz := NB.out.lt
    generalize w5.heap.size = b at *
    clear hc0 hc1 NB
    go_wp2_with fail
    refine (below_any _ g A n c l 4 (by omega) (by omega) MW.out.cur).mono ?_
    rintro e w7 ⟨z, z0, z1, rfl, hc1, o1⟩
    replace MW := Lib.hid (MW.out.later hc1 o1); replace BX := Lib.hid (BX.out.later o1); clear hc1 o1
    obtain ⟨K, rfl⟩ := Int.eq_ofNat_of_zero_le z0
    have hK : K ≤ 3 := by omega
    clear z0 z1
    go_wp2_with fail
    go_loopw [6] (fun i wr => ∃ (k : Nat) (P1 P2 : Option Addr) (d1 d2 : Nat) (r u : List Int), k ≤ 3 ∧ i = .int .i64 k ∧ Mw w wr g A n c l ∧ Bx wr g b N d1 d2 P1 P2 r u) (fun i _ => (intOf i).toNat)
    case atStart => exact ⟨K, _, _, _, _, _, _, hK, rfl, MW.out, BX.out⟩
    case round =>
      obtain ⟨k, P1, P2, d1, d2, r, u, hk, rfl, hm, hbx⟩ := hrel
      clear MW BX
      have MW := Lib.hid hm; have BX := Lib.hid hbx; clear hm hbx
      have hc0 := BX.out.box.cell (k := 0) rfl
      have hc1 := BX.out.box.cell (k := 1) rfl
      by_cases hlt : 0 < k
      · have hdk : decide (0 < (k : Int)) = true := by simp; omega
        go_wp2_with fail
        refine (shear_any (.agg #[.slice P1 N d1, .slice P2 N d2]) r u N _ _ BX.out.rd BX.out.sf).mono ?_
        rintro e w8 ⟨v2, rfl, sv, b2⟩
        have SF : Hid (Sf N r (thn (Inv r) u)) := Lib.hid (shear_sf BX.out.sf)
        obtain ⟨P3, d3, P4, d4, rfl⟩ := sv.lens SF.out.lr SF.out.lu
        have BX2 := Lib.hid (BX.out.store b2 SF.out sv)
        have BO := Lib.hid (BX.out.box.keep b2 BX.out.box.lt)
        have MW2 := Lib.hid ((MW.out.under b2).store BX.out.gb #[.slice P3 N d3, .slice P4 N d4])
        clear sv b2 hc0 hc1 MW BX
        go_wp2_with (refine wpList_store_row rfl 25 _ _ rfl b #[.slice P3 N d3, .slice P4 N d4] rfl rfl 25 #[.slice P1 N d1, .slice P2 N d2] BO.out size2 rfl (by simp [Value.oneCell']) ?_)
        obtain ⟨k', rfl⟩ : ∃ k', k = k' + 1 := ⟨k - 1, by omega⟩
        go_wp2
        go_roundw
        case rel => exact ⟨k', _, _, _, _, _, _, by omega, by go_num, MW2.out, BX2.out⟩
        case measure => simp [intOf]
      · obtain rfl : k = 0 := by omega
        go_wp2_with (first | (refine wpList_store_row rfl 25 _ _ rfl w.heap.size #[.slice P1 N d1, .slice P2 N d2] rfl rfl 25 #[.slice none 0 0, .slice none 0 0] MW.out.res size2 rfl (by simp [Value.oneCell']) ?_))
        exact bodyPost_ret (v := .agg #[.slice P1 N d1, .slice P2 N d2]) (results_cell_row rfl _ _ w.heap.size 25 #[.slice P1 N d1, .slice P2 N d2] (0, 0) _ rfl MW.out.res.row Try.underlying25 rfl size2) rfl
          ⟨_, _, _, _, BX.out.small, BX.out.sf, rfl, BX.out.done MW.out.gt, below_setRow MW.out.below (Nat.le_refl _) _⟩

  by_cases hx1 : x = 1
  · subst hx1
    clear hx
    go_wp2_with fail
    refine (below_any _ g A n c l 4 (by omega) (by omega) MW.out.cur).mono ?_
    rintro e w3 ⟨y, y0, y1, rfl, hc1, o1⟩
    replace MW := Lib.hid (MW.out.later hc1 o1); clear hc1 o1
    obtain ⟨a', ha'⟩ := Int.eq_ofNat_of_zero_le (show 0 ≤ 1 + y by omega)
    have ha1 : 1 ≤ a' := by omega
    have ha5 : a' ≤ 4 := by omega
    have haw : IntKind.i64.wrap (a' : Int) = (a' : Int) := w_in (by omega)
    clear y0 y1
    go_wp2_with fail
    refine (below_any _ g A n c l 4 (by omega) (by omega) MW.out.cur).mono ?_
    rintro e w4 ⟨z, z0, z1, rfl, hc1, o1⟩
    replace MW := Lib.hid (MW.out.later hc1 o1); clear hc1 o1
    obtain ⟨b', hb'⟩ := Int.eq_ofNat_of_zero_le (show 0 ≤ 1 + z by omega)
    have hb1 : 1 ≤ b' := by omega
    have hb5 : b' ≤ 4 := by omega
    have hbw : IntKind.i64.wrap (b' : Int) = (b' : Int) := w_in (by omega)
    clear z0 z1
    obtain ⟨N, hN, sf⟩ := el_sf (a := (a' : Int)) (h := (b' : Int)) (by omega) (by omega) (by omega) (by omega)
    have SF := Lib.hid sf; have LE : Hid (N ≤ 12) := Lib.hid (by omega); clear sf hN
    go_wp2_with fail
    refine (el_spec (a' : Int) (b' : Int) _ (by omega) (by omega) (by omega) (by omega)).mono ?_
    rintro e w5 ⟨v1, rfl, sv, b2⟩
    obtain ⟨P1, d1, P2, d2, rfl⟩ := sv.lens SF.out.lr SF.out.lu
    have GL : Hid (g < w4.heap.size) := Lib.hid MW.out.cur.lt
    have sv5 := b2.size
    replace MW := Lib.hid (MW.out.under b2)
    have SV := Lib.hid sv
    clear sv b2 haw hbw ha' hb'
    go_wp2_with (first | (refine wpList_store_row rfl 25 _ _ rfl w5.heap.size #[.slice P1 N d1, .slice P2 N d2] rfl rfl 25 #[.slice none 0 0, .slice none 0 0] (Arr.new w5 [.slice none 0 0, .slice none 0 0] _ rfl) size2 rfl (by simp [Value.oneCell']) ?_; generalize hw : (w5.alloc (.cells #[.slice none 0 0, .slice none 0 0] 25)).setRow w5.heap.size #[.slice P1 N d1, .slice P2 N d2] = w6; have NB : Hid (Arr w6 w5.heap.size [.slice P1 N d1, .slice P2 N d2] 25) := Lib.hid (by rw [← hw]; exact (Arr.new w5 [.slice none 0 0, .slice none 0 0] _ rfl).row); have bb : Below w5.heap.size w5 w6 := (by rw [← hw]; exact below_setRow ((Below.refl _ _).alloc (Nat.le_refl _) _) (Nat.le_refl _) _); have tt : w5.heap.size + 1 ≤ w6.heap.size := (by rw [← hw]; simp); clear hw; have BX : Hid (Bx w6 g w5.heap.size N d1 d2 P1 P2 _ _) := Lib.hid ⟨LE.out, SF.out, NB.out, ⟨_, _, SV.out.keep bb (Nat.le_refl _), GL.out, .inl (Nat.le_refl _)⟩, Nat.lt_of_lt_of_le GL.out sv5⟩; replace MW := Lib.hid (MW.out.under bb); have hc0 := NB.out.cell (k := 0) rfl; have hc1 := NB.out.cell (k := 1) rfl) | (refine wpList_store_row rfl 25 _ _ rfl w.heap.size #[.slice P1 N d1, .slice P2 N d2] rfl rfl 25 #[.slice none 0 0, .slice none 0 0] MW.out.res size2 rfl (by simp [Value.oneCell']) ?_))
    exact bodyPost_ret (v := .agg #[.slice P1 N d1, .slice P2 N d2]) (results_cell_row rfl _ _ w.heap.size 25 #[.slice P1 N d1, .slice P2 N d2] (0, 0) _ rfl MW.out.res.row Try.underlying25 rfl size2) rfl
      ⟨_, _, _, _, BX.out.small, BX.out.sf, rfl, BX.out.done MW.out.gt, below_setRow MW.out.below (Nat.le_refl _) _⟩

  · go_wp2_with fail
    refine (draw5_any _ g A n c l MW.out.cur).mono ?_
    rintro e w3 ⟨v, r, u, N, hN, sf, rfl, sv, hc1, o1⟩
    have SF := Lib.hid sf
    obtain ⟨P1, d1, P2, d2, rfl⟩ := sv.lens sf.lr sf.lu
    have GL : g < w2.heap.size := MW.out.cur.lt
    replace MW := Lib.hid (MW.out.later hc1 o1)
    have gt := MW.out.gt
    have SV : Hid (Svl w3 (w.heap.size + 1) w3.heap.size _ _ _) := Lib.hid (sv.later (by omega))
    clear sf sv hc1 o1
    go_wp2_with (refine wpList_store_row rfl 25 _ _ rfl w.heap.size #[.slice P1 N d1, .slice P2 N d2] rfl rfl 25 #[.slice none 0 0, .slice none 0 0] MW.out.res size2 rfl (by simp [Value.oneCell']) ?_)
    exact bodyPost_ret (v := .agg #[.slice P1 N d1, .slice P2 N d2]) (results_cell_row rfl _ _ w.heap.size 25 #[.slice P1 N d1, .slice P2 N d2] (0, 0) _ rfl MW.out.res.row Try.underlying25 rfl size2) rfl
      ⟨_, _, _, _, by omega, SF.out, rfl, Svl.wide (Svl.later (Svl.row SV.out (g := w.heap.size) (by omega) _) (by omega)), below_setRow MW.out.below (Nat.le_refl _) _⟩
end Go.Proofs.Ytpmojmhamgcfmaa.mk
