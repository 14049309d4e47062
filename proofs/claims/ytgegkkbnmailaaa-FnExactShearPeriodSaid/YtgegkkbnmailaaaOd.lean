/-
  ShearPeriod of the model.
-/
import Derived.Test.YtgegkkbnmailaaaOb
import Derived.Test.YtgegkkbnmailaaaSp
namespace Go.Proofs.Ytgegkkbnmailaaa.orb
open Go.ChangeShapes Go.WideShapes Go.ChangeAt Go.RowKit Go.Joins Go.Deep
open Go.Proofs.Ytgegkkbnmailaaa.mem Go.Proofs.Ytgegkkbnmailaaa.ints Go.Proofs.Ytgegkkbnmailaaa.arr Go.Proofs.Ytgegkkbnmailaaa.pm Go.Proofs.Ytgegkkbnmailaaa.sf
set_option linter.unusedVariables false
set_option maxRecDepth 100000

/-- The state of the search: the boxes b3 with the canonical form, b4 with the surface behind k shears. -/
structure Pg (s : Sur) (N : Nat) (w wr : World) (b3 b4 : Nat) (P1 Q1 : Option Addr) (c1 d1 : Nat) (x : Value × Value) (k : Nat) : Prop where
  box3 : Arr wr b3 [.slice P1 N c1, .slice Q1 N d1] 25
  box4 : Arr wr b4 [x.1, x.2] 25
  fst : ∃ l h, Svl wr l h (.agg #[.slice P1 N c1, .slice Q1 N d1]) (cn s).1 (cn s).2 ∧ h ≤ b3
  snd : ∃ l h P Q c d, x = (.slice P N c, .slice Q N d) ∧ Svl wr l h (.agg #[.slice P N c, .slice Q N d]) (shN k s).1 (shN k s).2
  bel : Below w.heap.size w wr
  lt : w.heap.size ≤ b3
  lt2 : b3 < b4
  sg : Sg s k
theorem Pg.keep {s : Sur} {N : Nat} {w wr w' : World} {b3 b4 : Nat} {P1 Q1 : Option Addr} {c1 d1 : Nat} {x : Value × Value} {k : Nat} (h : Pg s N w wr b3 b4 P1 Q1 c1 d1 x k) (hb : Below wr.heap.size wr w') : Pg s N w w' b3 b4 P1 Q1 c1 d1 x k := by
  obtain ⟨l, hh, h1, h2⟩ := h.fst
  obtain ⟨l', hh', P, Q, c, d, e, h3⟩ := h.snd
  exact ⟨h.box3.keep hb h.box3.lt, h.box4.keep hb h.box4.lt, ⟨l, hh, h1.keep hb h1.top, h2⟩, ⟨l', hh', P, Q, c, d, e, h3.keep hb h3.top⟩, h.bel.trans (hb.mono h.bel.size), h.lt, h.lt2, h.sg⟩

set_option maxHeartbeats 2000000 in
theorem sp_spec (v : Value) (r u : List Int) (hi : Nat) (w : World) (hx : Srd w hi v r u) (hn : r.length ≤ 1048576) (hm : u.length ≤ 1048576) :
    Calls Try.prog 37 #[v] w fun e w' => e = .returned (.int .i64 (spF r u)) ∧ Below w.heap.size w w' := by
  have HX := Lib.hid hx; clear hx
  obtain ⟨P, n, c, Q, m, d, rfl, q1, q2, e1, e2, ht, HR⟩ := HX.out.open
  have L1 := Lib.hid q1
  clear HR q1 q2
  go_enter Try.func37, Try.ntmps37
  go_wp2_with fail
  refine (ok_spec _ r u hi _ (HX.out.keep ((Below.refl hi w).alloc ht _) (Nat.le_refl _)) hn hm).mono ?_
  rintro e w1 ⟨rfl, b1⟩
  have A0 := Lib.hid ((Arr.new w [.slice P n c, .slice Q m d] 25 rfl).keep b1 (by simp))
  have c0 := A0.out.cell (k := 0) rfl; have c1 := A0.out.cell (k := 1) rfl
  have hs1 : w.heap.size < w1.heap.size := by have := b1.size; simp at this; omega
  have B1 := Lib.hid (below1 _ _ b1); clear b1
  have X1 := Lib.hid (HX.out.keep (B1.out.mono ht) (Nat.le_refl _))
  cases hq : transB r u
  · have HF : Hid (spF r u = 0) := Lib.hid (by simp [spF, hq])
    clear hq
    go_wp2_with fail
    go_ret
    exact ⟨ret_int HF.out.symm, B1.out⟩
  · have HS : Hid (Sf n r u) := Lib.hid (by have := transB_iff.1 hq; rwa [L1.out] at this)
    have HF : Hid (spF r u = (spGo (r, u) 16777216 1 : Nat)) := Lib.hid (by simp [spF, hq])
    have hN24 : n ≤ 24 := by have := HS.out.r.len; rw [HS.out.lr] at this; omega
    have CS : Hid (Sf n (cn (r, u)).1 (cn (r, u)).2) := Lib.hid (cn_sf (s := (r, u)) HS.out)
    clear hq
    go_wp2_with fail
    refine (gl.canon_spec _ r u n hi _ X1.out HS.out).mono ?_
    rintro e w2 ⟨g, rfl, sg, b2⟩
    have ecn : can r u n = cn (r, u) := by unfold cn; rw [HS.out.lr]
    rw [ecn] at sg
    obtain ⟨P1, c1', Q1, d1', rfl⟩ := sg.lens CS.out.lr CS.out.lu
    have hs2 := b2.size
    have A2 := Lib.hid (A0.out.keep b2 A0.out.lt)
    have X2 := Lib.hid (X1.out.keep b2 X1.out.top)
    have B2 := Lib.hid (B1.out.trans (b2.mono B1.out.size))
    have F2 := Lib.hid sg; clear sg b2 c0 c1 A0 X1 B1 ecn
    have c0 := fun o => (A2.out.alloc o).cell (k := 0) rfl
    go_wp2_with (refine wpList_store_row rfl 25 _ _ rfl w2.heap.size #[.slice P1 n c1', .slice Q1 n d1'] rfl rfl 25 #[.slice none 0 0, .slice none 0 0] (Arr.new w2 [.slice none 0 0, .slice none 0 0] _ rfl) size2 rfl (by simp [Value.oneCell']) ?_; generalize hw : (w2.alloc (.cells #[.slice none 0 0, .slice none 0 0] 25)).setRow w2.heap.size #[.slice P1 n c1', .slice Q1 n d1'] = w3; have N3 : Hid (Arr w3 w2.heap.size [.slice P1 n c1', .slice Q1 n d1'] 25) := Lib.hid (by rw [← hw]; exact (Arr.new w2 [.slice none 0 0, .slice none 0 0] _ rfl).row); have b3 : Below w2.heap.size w2 w3 := (by rw [← hw]; exact below_setRow ((Below.refl _ _).alloc (Nat.le_refl _) _) (Nat.le_refl _) _); have s3 : w2.heap.size + 1 ≤ w3.heap.size := (by rw [← hw]; simp); clear hw c0; have A3 := Lib.hid (A2.out.keep b3 A2.out.lt); have c0 := A3.out.cell (k := 0) rfl; have c1 := A3.out.cell (k := 1) rfl; have X3 := Lib.hid (X2.out.keep b3 X2.out.top); have F3 := Lib.hid (F2.out.keep b3 (Nat.le_refl _)); have B3 := Lib.hid (B2.out.trans (b3.mono B2.out.size)); clear b3 A2 X2 F2 B2)
    refine (mk.shear_any _ r u n hi _ X3.out HS.out).mono ?_
    rintro e w4 ⟨g, rfl, sg, b4⟩
    have KS : Hid (Sf n (shN 1 (r, u)).1 (shN 1 (r, u)).2) := Lib.hid (shN_sf (s := (r, u)) HS.out 1)
    obtain ⟨P4, c4, Q4, d4, rfl⟩ := (show Svl w4 w3.heap.size w4.heap.size g (shN 1 (r, u)).1 (shN 1 (r, u)).2 from sg).lens KS.out.lr KS.out.lu
    have N4 := Lib.hid (N3.out.keep b4 N3.out.lt)
    have F4 := Lib.hid (F3.out.keep b4 (by omega))
    have B4 := Lib.hid (B3.out.trans (b4.mono B3.out.size))
    have G4 : Hid (Svl w4 w3.heap.size w4.heap.size (.agg #[.slice P4 n c4, .slice Q4 n d4]) (shN 1 (r, u)).1 (shN 1 (r, u)).2) := Lib.hid sg
    have hs4 := b4.size
    clear sg b4 N3 F3 B3 X3 A3 c0 c1
    go_wp2_with (refine wpList_store_row rfl 25 _ _ rfl w4.heap.size #[.slice P4 n c4, .slice Q4 n d4] rfl rfl 25 #[.slice none 0 0, .slice none 0 0] (Arr.new w4 [.slice none 0 0, .slice none 0 0] _ rfl) size2 rfl (by simp [Value.oneCell']) ?_; generalize hw : (w4.alloc (.cells #[.slice none 0 0, .slice none 0 0] 25)).setRow w4.heap.size #[.slice P4 n c4, .slice Q4 n d4] = w5; have N5 : Hid (Arr w5 w4.heap.size [.slice P4 n c4, .slice Q4 n d4] 25) := Lib.hid (by rw [← hw]; exact (Arr.new w4 [.slice none 0 0, .slice none 0 0] _ rfl).row); have b5 : Below w4.heap.size w4 w5 := (by rw [← hw]; exact below_setRow ((Below.refl _ _).alloc (Nat.le_refl _) _) (Nat.le_refl _) _); have s5 : w4.heap.size + 1 ≤ w5.heap.size := (by rw [← hw]; simp); clear hw; have PG : Hid (Pg (r, u) n w w5 w2.heap.size w4.heap.size P1 Q1 c1' d1' (.slice P4 n c4, .slice Q4 n d4) 1) := Lib.hid ⟨N4.out.keep b5 (by omega), N5.out, ⟨_, _, F4.out.keep b5 (by omega), Nat.le_refl _⟩, ⟨_, _, _, _, _, _, rfl, G4.out.keep b5 (Nat.le_refl _)⟩, B4.out.trans (b5.mono B4.out.size), by omega, by omega, Sg.start _⟩; clear b5 N4 N5 F4 G4 B4)
    generalize hb3 : w2.heap.size = b3 at *
    generalize hb4 : w4.heap.size = b4 at *
    clear hb3 hb4
    go_loopw [5] (fun i wr => ∃ (k : Nat) (x : Value × Value), i = .int .i64 k ∧ Pg (r, u) n w wr b3 b4 P1 Q1 c1' d1' x k) (fun i _ => 16777217 - (intOf i).toNat)
    case atStart => exact ⟨1, _, rfl, PG.out⟩
    case round =>
      obtain ⟨k, x, rfl, hg⟩ := hrel
      have PR := Lib.hid hg; clear hg PG
      have hk := PR.out.sg.le HS.out
      have hk0 := PR.out.sg.pos
      obtain ⟨lx, hx, P', Q', cx, dx, rfl, svx⟩ := PR.out.snd
      obtain ⟨l1, h1, svf, hl1⟩ := PR.out.fst
      have SX := Lib.hid svx; have SF := Lib.hid svf; clear svx svf
      have KS := Lib.hid (shN_sf (s := (r, u)) HS.out k)
      have lt3 := PR.out.box3.lt; have lt4 := PR.out.box4.lt
      have hlt := PR.out.lt; have hlt2 := PR.out.lt2
      go_wp2_with fail
      refine wp_region_held_drew (S := Hld wr.heap.size wr.heap.size wr [(b4, [.slice P' n cx, .slice Q' n dx]), (b3, [.slice P1 n c1', .slice Q1 n d1'])]) (by kernel_rfl) (Hld.start2 PR.out.box4 PR.out.box3) (fun hHeld => ?_)
      have b1 := hHeld.below
      generalize wr.drew = wd at *
      have PD := Lib.hid (PR.out.keep b1); have SXD := Lib.hid (SX.out.keep b1 SX.out.top); have SFD := Lib.hid (SF.out.keep b1 SF.out.top)
      have sd := b1.size
      clear b1 PR SX SF
      refine wpAnyH_take (i := 0) (v := .agg #[.slice P' n cx, .slice Q' n dx]) rfl (by kernel_rfl) (by kernel_rfl) (by kernel_rfl) (fun _ _ _ h => h) (yieldsIf_load_mid (by rfl) _ _ rfl b4 0 rfl [.slice P' n cx, .slice Q' n dx] _ (fun w h => h.fst) Try.underlying25 rfl (sizeS _ _)) hHeld ?_
      refine wpAnyH_take (i := 2) (v := .agg #[.slice P1 n c1', .slice Q1 n d1']) rfl (by kernel_rfl) (by kernel_rfl) (by kernel_rfl) (fun _ _ _ h => h) (yieldsIf_load_mid (by rfl) _ _ rfl b3 0 rfl [.slice P1 n c1', .slice Q1 n d1'] _ (fun w h => h.snd) Try.underlying25 rfl (sizeS _ _)) hHeld ?_
      refine wpAnyH_ready (rs := [1]) (by kernel_rfl) (by simp) (AllReadyH.cons rfl (fun K hK => ?_) AllReadyH.nil)
      go_simp
      refine (gl.canon_spec _ _ _ n _ _ SXD.out.rd KS.out).mono ?_
      rintro e w7 ⟨g, rfl, sg, b7⟩
      have CK : Hid (Sf n (cn (shN k (r, u))).1 (cn (shN k (r, u))).2) := Lib.hid (cn_sf KS.out)
      have ecn : can (shN k (r, u)).1 (shN k (r, u)).2 n = cn (shN k (r, u)) := by unfold cn; rw [KS.out.lr]
      rw [ecn] at sg
      obtain ⟨P7, c7, Q7, d7, rfl⟩ := sg.lens CK.out.lr CK.out.lu
      have P7G := Lib.hid (PD.out.keep b7)
      have SX7 := Lib.hid (SXD.out.keep b7 SXD.out.top); have SF7 := Lib.hid (SFD.out.keep b7 SFD.out.top); have SG7 := Lib.hid sg
      have s7 := b7.size
      go_wp2_with fail
      have hHeld2 := hHeld.later b7 (Nat.le_refl _); clear b7 hHeld sg ecn PD SXD SFD
      refine hK.out _ _ hHeld2 (fun hHeld => ?_)
      clear hK K hHeld2
      refine wpAnyH_ready (rs := [3]) (by kernel_rfl) (by simp) (AllReadyH.cons rfl (fun K hK => ?_) AllReadyH.nil)
      go_simp
      refine (same_spec _ _ _ _ _ _ _ _ _ SG7.out.rd SF7.out.rd (by rw [CK.out.lr]; omega) (by rw [CK.out.lu]; omega) (by rw [CS.out.lr]; omega) (by rw [CS.out.lu]; omega)).mono ?_
      rintro e w8 ⟨rfl, b8⟩
      have P8G := Lib.hid (P7G.out.keep b8)
      have SX8 := Lib.hid (SX7.out.keep b8 SX7.out.top)
      have s8 := b8.size
      have hHeld2 := hHeld.later b8 (Nat.le_refl _); clear b8 hHeld P7G SX7 SF7 SG7
      rw [same_eq]
      by_cases he : cn (shN k (r, u)) = cn (r, u)
      · have HE : Hid (spF r u = (k : Int)) := Lib.hid (by rw [HF.out, P8G.out.sg.done he])
        rw [show decide (((cn (shN k (r, u))).1, (cn (shN k (r, u))).2) = ((cn (r, u)).1, (cn (r, u)).2)) = true by simp [he]]
        clear he
        go_wp2_with fail
        refine hK.out _ _ hHeld2 (fun hHeld => ?_)
        clear hK K hHeld2
        refine wpAnyH_ready (rs := [4]) (by kernel_rfl) (by simp) (AllReadyH.cons rfl (fun K hK => ?_) AllReadyH.nil)
        go_simp
        refine hK.out _ _ hHeld (fun hHeld2 => ?_)
        clear hK K hHeld hHeld2
        refine wpAnyH_done (by kernel_rfl) ?_ _
        go_wp2_with fail
        go_ret
        exact ⟨ret_int HE.out.symm, P8G.out.bel⟩
      · have HN := Lib.hid (P8G.out.sg.next HS.out he)
        rw [show decide (((cn (shN k (r, u))).1, (cn (shN k (r, u))).2) = ((cn (r, u)).1, (cn (r, u)).2)) = false by simp only [decide_eq_false_iff_not]; intro e; exact he (by rw [Prod.mk.injEq] at e; exact Prod.ext e.1 e.2)]
        clear he
        go_wp2_with fail
        refine hK.out _ _ hHeld2 (fun hHeld => ?_)
        clear hK K hHeld2
        refine wpAnyH_ready (rs := [4]) (by kernel_rfl) (by simp) (AllReadyH.cons rfl (fun K hK => ?_) AllReadyH.nil)
        go_simp
        refine hK.out _ _ hHeld (fun hHeld2 => ?_)
        clear hK K hHeld hHeld2
        refine wpAnyH_done (by kernel_rfl) ?_ _
        have g0 := P8G.out.box4.cell (k := 0) rfl; have g1 := P8G.out.box4.cell (k := 1) rfl
        go_wp2_with fail
        refine (mk.shear_any _ _ _ n _ _ SX8.out.rd KS.out).mono ?_
        rintro e w9 ⟨g, rfl, sg9, b9⟩
        have KS2 := Lib.hid (shN_sf (s := (r, u)) HS.out (k + 1))
        have sg2 : Svl w9 _ w9.heap.size g (shN (k + 1) (r, u)).1 (shN (k + 1) (r, u)).2 := sg9
        obtain ⟨P9, c9, Q9, d9, rfl⟩ := sg2.lens KS2.out.lr KS2.out.lu
        have P9G := Lib.hid (P8G.out.keep b9)
        have SG9 := Lib.hid sg2
        have s9 := b9.size
        clear b9 sg9 sg2 SX8 P8G g0 g1
        have BX9 : Hid (Arr w9 b4 [.slice P' n cx, .slice Q' n dx] 25) := Lib.hid P9G.out.box4
        have PN0 : Hid (∃ W, W = w9.setRow b4 #[.slice P9 n c9, .slice Q9 n d9] ∧ Pg (r, u) n w W b3 b4 P1 Q1 c1' d1' (.slice P9 n c9, .slice Q9 n d9) (k + 1)) := Lib.hid (by
          obtain ⟨l, h, a1, a2⟩ := P9G.out.fst
          exact ⟨_, rfl, P9G.out.box3.rowOther (by omega), P9G.out.box4.row, ⟨l, h, a1.out ((Out.refl b4 (b4 + 1) w9).row_ (Nat.le_refl _) (Nat.lt_succ_self _) _) (.inl (by omega)), a2⟩, ⟨_, _, _, _, _, _, rfl, SG9.out.out ((Out.refl 0 (b4 + 1) w9).row_ (Nat.zero_le _) (Nat.lt_succ_self _) _) (.inr (by omega))⟩, below_setRow P9G.out.bel (by omega) _, hlt, hlt2, HN.out⟩)
        go_wp2_with (refine wpList_store_row rfl 25 _ _ rfl b4 #[.slice P9 n c9, .slice Q9 n d9] rfl rfl 25 #[.slice P' n cx, .slice Q' n dx] BX9.out size2 rfl (by simp [Value.oneCell']) ?_; obtain ⟨W, eW, hPN⟩ := PN0.out; rw [← eW]; have PN := Lib.hid hPN; clear hPN eW PN0 P9G BX9)
        go_roundw
        case rel => exact ⟨k + 1, _, by go_num, PN.out⟩
        case measure => simp [intOf]; omega
end Go.Proofs.Ytgegkkbnmailaaa.orb
