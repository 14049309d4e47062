import Derived.Test.YtpmojmhamgcfmaaGreatY10
import Derived.Test.YtpmojmhamgcfmaaGreatY12
import Derived.Deep.CutRange
import Derived.Test.YtpmojmhamgcfmaaGreatY07
/-
  The model's order and canonical form; CanonOf of the model.
-/
namespace Go.Proofs.YtpmojmhamgcfmaaGreat.gl
open Go.ChangeShapes Go.WideShapes Go.ChangeAt Go.RowKit
open Go.Proofs.YtpmojmhamgcfmaaGreat.mem Go.Proofs.YtpmojmhamgcfmaaGreat.ints Go.Proofs.YtpmojmhamgcfmaaGreat.arr Go.Proofs.YtpmojmhamgcfmaaGreat.pm Go.Proofs.YtpmojmhamgcfmaaGreat.permOk Go.Proofs.YtpmojmhamgcfmaaGreat.permOf Go.Proofs.YtpmojmhamgcfmaaGreat.inv Go.Proofs.YtpmojmhamgcfmaaGreat.fns Go.Proofs.YtpmojmhamgcfmaaGreat.sf
set_option linter.unusedVariables false
set_option maxRecDepth 100000

theorem lessL_at {k : Nat} {xs ys : List Int} {s t : Int} (hl : xs.length = ys.length) (h : Same xs ys k) (h1 : xs[k]? = some s) (h2 : ys[k]? = some t) (hne : s ≠ t) : lessL xs ys = decide (s < t) := by
  rw [← (cmpL_less xs ys hl).1, cmpL_at k xs ys s t h h1 h2 hne]
  by_cases q : s < t <;> simp [q]
set_option maxHeartbeats 1000000 in
theorem less_spec (A : Option Addr) (n c : Nat) (B : Option Addr) (m d : Nat) (xs ys : List Int) (h1 h2 : Nat) (w : World)
    (hx : Rd w h1 A n (V xs)) (hy : Rd w h2 B m (V ys)) (hn : n ≤ 1048576) (hnm : n = m) :
    Calls Tryz.prog 56 #[.slice A n c, .slice B m d] w fun e w' => e = .returned (.bool (lessL xs ys)) ∧ w' = w := by
  subst hnm
  have lx : xs.length = n := by simpa [V] using hx.1
  have ly : ys.length = n := by simpa [V] using hy.1
  have LX := Lib.hid lx; have LY := Lib.hid ly; clear lx ly
  have HX := Lib.hid hx; have HY := Lib.hid hy; clear hx hy
  go_enter Tryz.func56, Tryz.ntmps56
  go_wp2
  go_loopw [9] (fun i wr => ∃ k : Nat, k ≤ n ∧ i = .int .i64 k ∧ wr = w ∧ Same xs ys k) (fun i _ => n - (intOf i).toNat)
  case atStart => refine ⟨0, Nat.zero_le _, ?_, ?_, fun j hj => by omega⟩ <;> first | rfl | trivial
  case round =>
    obtain ⟨k, hk, rfl, rfl, hsame⟩ := hrel
    have HS := Lib.hid hsame; clear hsame
    by_cases hlt : k < n
    · obtain ⟨g, off, u, rfl, _, hxu, hcx⟩ := HX.out.at_ hlt
      obtain ⟨g', off', u', rfl, _, hyu, hcy⟩ := HY.out.at_ hlt
      obtain ⟨s, hxs, rfl⟩ := V_at hxu
      obtain ⟨t, hyt, rfl⟩ := V_at hyu
      have HXS := Lib.hid hxs; have HYT := Lib.hid hyt; clear hxs hyt hxu hyu
      by_cases hst : s = t
      · subst hst
        go_wp2
        go_roundw
        case rel => exact ⟨k + 1, by omega, by go_num, by first | rfl | trivial, HS.out.step HXS.out HYT.out⟩
        case measure => simp [intOf]; omega
      · have HC : Hid (lessL xs ys = decide (s < t)) := Lib.hid (lessL_at (by rw [LX.out, LY.out]) HS.out HXS.out HYT.out hst)
        have hb : (s != t) = true := by simpa using hst
        clear hst
        go_wp2
        go_ret
        exact ⟨ret_bool HC.out.symm, rfl⟩
    · obtain rfl : k = n := by omega
      have HC : Hid (lessL xs ys = false) := Lib.hid (by rw [same_all LX.out LY.out HS.out]; exact lessL_irr _)
      go_wp2
      go_ret
      exact ⟨ret_bool HC.out.symm, rfl⟩

set_option maxHeartbeats 1000000 in
theorem before_spec (x y : Value) (r u r' u' : List Int) (h1 h2 : Nat) (w : World) (hx : Srd w h1 x r u) (hy : Srd w h2 y r' u') (hn : r.length ≤ 1048576) (lr : r.length = r'.length) (lu : u.length = u'.length) (lm : u.length ≤ 1048576) :
    Calls Tryz.prog 37 #[x, y] w fun e w' => e = .returned (.bool (bef (r, u) (r', u'))) ∧ Below w.heap.size w w' := by
  obtain ⟨P, n, c, Q, m, d, rfl, rp, rq, e1, e2⟩ := hx
  obtain ⟨P', n', c', Q', m', d', rfl, rp', rq', e1', e2'⟩ := hy
  have q1 : r.length = n := by simpa [V] using rp.1
  have q2 : u.length = m := by simpa [V] using rq.1
  have q1' : r'.length = n' := by simpa [V] using rp'.1
  have q2' : u'.length = m' := by simpa [V] using rq'.1
  obtain rfl : n' = n := by omega
  obtain rfl : m' = m := by omega
  have RP := Lib.hid rp; have RQ := Lib.hid rq; have RP' := Lib.hid rp'; have RQ' := Lib.hid rq'; clear rp rq rp' rq'
  have HI := RP.out.2.1; have HI' := RP'.out.2.1
  have B1 : Hid (∀ a b, Below w.heap.size w ((w.alloc a).alloc b)) := Lib.hid (fun a b => ((Below.refl _ _).alloc (Nat.le_refl _) _).alloc (by simp) _)
  go_enter Tryz.func37, Tryz.ntmps37
  go_wp2_with fail
  refine (same.spec_b P n' c r P' n' c' r' _ _ _ (RP.out.keep (B1.out _ _) HI) (RP'.out.keep (B1.out _ _) HI') (by omega) (by omega)).mono ?_
  rintro e w1 ⟨rfl, d1⟩
  have D1 := Lib.hid d1; clear d1
  have c0 := (((Arr.new w [.slice P n' c, .slice Q m' d] 31 rfl).alloc (.cells #[.slice P' n' c', .slice Q' m' d'] 31)).keep D1.out (by simp <;> omega)).cell (k := 0) rfl
  have c1 := (((Arr.new w [.slice P n' c, .slice Q m' d] 31 rfl).alloc (.cells #[.slice P' n' c', .slice Q' m' d'] 31)).keep D1.out (by simp <;> omega)).cell (k := 1) rfl
  have c2 := ((Arr.new (w.alloc (.cells #[.slice P n' c, .slice Q m' d] 31)) [.slice P' n' c', .slice Q' m' d'] 31 (g := w.heap.size + 1) (by simp <;> omega)).keep D1.out (by simp <;> omega)).cell (k := 0) rfl
  have c3 := ((Arr.new (w.alloc (.cells #[.slice P n' c, .slice Q m' d] 31)) [.slice P' n' c', .slice Q' m' d'] 31 (g := w.heap.size + 1) (by simp <;> omega)).keep D1.out (by simp <;> omega)).cell (k := 1) rfl
  have BB : Hid (Below w.heap.size w w1) := Lib.hid ((B1.out _ _).trans (D1.out.mono (by simp <;> omega)))
  by_cases hh : r = r'
  · have HF : Hid (bef (r, u) (r', u') = lessL u u') := Lib.hid (by simp [bef, hh])
    have hq : eqi r r' = true := by subst hh; exact eqi_self _
    rw [hq]
    clear hh hq
    go_wp2_with fail
    refine (less_spec Q m' d Q' m' d' u u' _ _ _ (RQ.out.keep BB.out HI) (RQ'.out.keep BB.out HI') (by omega) rfl).mono ?_
    rintro e w2 ⟨rfl, rfl⟩
    go_wp2_with fail
    go_ret
    exact ⟨ret_bool HF.out.symm, BB.out⟩
  · have HF : Hid (bef (r, u) (r', u') = lessL r r') := Lib.hid (by simp [bef, hh])
    have hq : eqi r r' = false := by simp [eqi, hh]
    rw [hq]
    clear hh hq
    go_wp2_with fail
    refine (less_spec P n' c P' n' c' r r' _ _ _ (RP.out.keep BB.out HI) (RP'.out.keep BB.out HI') (by omega) rfl).mono ?_
    rintro e w2 ⟨rfl, rfl⟩
    go_wp2_with fail
    go_ret
    exact ⟨ret_bool HF.out.symm, BB.out⟩

/-- A box that holds a surface of n squares with both rows from lo on. -/
structure Bs (wr : World) (B lo n : Nat) (f : Sur) : Prop where
  ex : ∃ P c Q d hi, Arr wr B [.slice P n c, .slice Q n d] 31 ∧ Svl wr lo hi (.agg #[.slice P n c, .slice Q n d]) f.1 f.2
theorem Bs.keep {wr w' : World} {B lo n : Nat} {f : Sur} (h : Bs wr B lo n f) (hb : Below wr.heap.size wr w') : Bs w' B lo n f := by
  obtain ⟨P, c, Q, d, hi, a, s⟩ := h.ex
  exact ⟨P, c, Q, d, hi, a.keep hb a.lt, s.keep hb s.top⟩
/-- The argument's box, the result's box, and the best form so far. -/
structure Cs (w wr : World) (a b : Value) (n B3 : Nat) (f : Sur) : Prop where
  g : Arr wr w.heap.size [a, b] 31
  res : Arr wr (w.heap.size + 1) [.slice none 0 0, .slice none 0 0] 31
  best : Bs wr B3 (w.heap.size + 2) n f
  hB : w.heap.size + 2 ≤ B3
  below : Below w.heap.size w wr
theorem Cs.keep {w wr w' : World} {a b : Value} {n B3 : Nat} {f : Sur} (h : Cs w wr a b n B3 f) (hb : Below wr.heap.size wr w') : Cs w w' a b n B3 f :=
  ⟨h.g.keep hb h.g.lt, h.res.keep hb h.res.lt, h.best.keep hb, h.hB, h.below.trans (hb.mono h.below.size)⟩
theorem Cs.new {w wr : World} {a b : Value} {n B3 lo hi : Nat} {f f' : Sur} {P Q : Option Addr} {c d : Nat} (h : Cs w wr a b n B3 f) (hs : Svl wr lo hi (.agg #[.slice P n c, .slice Q n d]) f'.1 f'.2) (hl : B3 < lo) :
    Cs w (wr.setRow B3 #[.slice P n c, .slice Q n d]) a b n B3 f' := by
  have hB := h.hB
  obtain ⟨P', c', Q', d', hi', a', s'⟩ := h.best.ex
  refine ⟨h.g.rowOther (by omega), h.res.rowOther (by omega), ⟨P, c, Q, d, hi, a'.row, (Svl.row hs hl _).later (by omega)⟩, hB, below_setRow h.below (by omega) _⟩
def Fc (r u : List Int) (n k : Nat) : Sur := canTo (Fm r u n) k
theorem Fc_len (r u : List Int) (n k : Nat) : (Fc r u n k).1.length = n ∧ (Fc r u n k).2.length = n := by
  obtain ⟨j, hj, e⟩ := canTo_is (Fm r u n) k
  unfold Fc; rw [e]; exact Fm_len _ _ _ _

set_option maxHeartbeats 2000000 in
theorem canon_spec (v : Value) (r u : List Int) (n : Nat) (hi : Nat) (w : World) (hx : Srd w hi v r u) (s : Sf n r u) :
    Calls Tryz.prog 25 #[v] w fun e w' => ∃ g, e = .returned g ∧ Svl w' w.heap.size w'.heap.size g (can r u n).1 (can r u n).2 ∧ Below w.heap.size w w' := by
  have lr := s.lr; have lu := s.lu
  have hn24 : n ≤ 24 := by have := s.r.len; omega
  have HX := Lib.hid hx; have HS := Lib.hid s
  obtain ⟨P, n1, c, Q, m1, d, rfl, q1, q2, e1, e2, ht, HR⟩ := hx.open
  have hpos := s.pos
  obtain rfl : n1 = n := by omega
  obtain rfl : m1 = n1 := by omega
  clear hx s lr lu q1 q2 HR
  go_enter Tryz.func25, Tryz.ntmps25
  go_wp2_with fail
  generalize hw1 : (w.alloc (.cells #[.slice P m1 c, .slice Q m1 d] 31)).alloc (.cells #[.slice none 0 0, .slice none 0 0] 31) = w1
  have A0 : Hid (Arr w1 w.heap.size [.slice P m1 c, .slice Q m1 d] 31) := Lib.hid (by rw [← hw1]; exact (Arr.new w _ _ rfl).alloc _)
  have A1 : Hid (Arr w1 (w.heap.size + 1) [.slice none 0 0, .slice none 0 0] 31) := Lib.hid (by rw [← hw1]; exact Arr.new _ _ _ (by simp))
  have B1 : Hid (Below w.heap.size w w1) := Lib.hid (by rw [← hw1]; exact ((Below.refl _ _).alloc (Nat.le_refl _) _).alloc (by simp) _)
  have s1 : w.heap.size + 2 ≤ w1.heap.size := by rw [← hw1]; simp
  clear hw1
  go_cut [3] from 6 to 9 (fun p wx => ∃ B3, p = .pointer (some ⟨B3, 0, none⟩) ∧ Cs w wx (.slice P m1 c) (.slice Q m1 d) m1 B3 (Fm r u m1 0))
  case first =>
    refine wp_region_held_drew (S := Hld w.heap.size w1.heap.size w1 [(w.heap.size, [.slice P m1 c, .slice Q m1 d])]) (by kernel_rfl) ((Hld.start1 A0.out).lower (by omega)) (fun hHeld => ?_)
    have b1 : Below w1.heap.size w1 w1.drew := ⟨rfl, rfl, rfl, Nat.le_refl _, fun _ _ => rfl⟩
    generalize w1.drew = w2 at *
    have s2 := b1.size
    replace A0 := Lib.hid (A0.out.keep b1 A0.out.lt)
    replace A1 := Lib.hid (A1.out.keep b1 A1.out.lt)
    replace B1 := Lib.hid (B1.out.trans (b1.mono B1.out.size))
    clear b1
    refine wpAnyH_take (i := 0) (v := .agg #[.slice P m1 c, .slice Q m1 d]) rfl (by kernel_rfl) (by kernel_rfl) (by kernel_rfl) (fun _ _ _ h => h) (yieldsIf_load_mid (by rfl) _ _ rfl (w.heap.size) 0 rfl [.slice P m1 c, .slice Q m1 d] _ (fun w h => h.fst) Tryz.underlying31 rfl (sizeS _ _)) hHeld ?_
    refine wpAnyH_take (i := 1) (v := .agg #[.slice P m1 c, .slice Q m1 d]) rfl (by kernel_rfl) (by kernel_rfl) (by kernel_rfl) (fun _ _ _ h => h) (yieldsIf_load_mid (by rfl) _ _ rfl (w.heap.size) 0 rfl [.slice P m1 c, .slice Q m1 d] _ (fun w h => h.fst) Tryz.underlying31 rfl (sizeS _ _)) hHeld ?_
    refine wpAnyH_ready (rs := [2, 4]) (by kernel_rfl) (by simp) (AllReadyH.cons rfl (fun K hK => ?_) (AllReadyH.cons rfl (fun K hK => ?_) AllReadyH.nil))
    · go_simp
      refine (names_spec _ r u m1 0 hi _ (HX.out.keep (B1.out.mono ht) (Nat.le_refl _)) HS.out (Int.le_refl _) (by omega)).mono ?_
      rintro e w3 ⟨v1, rfl, o1, b1⟩
      obtain ⟨P1, c1, rfl, r1, C1⟩ := gives_rows o1
      have NK := Lib.hid (HS.out.nok (f := 0) (Int.le_refl _) (by omega))
      rw [NK.out.2] at r1 C1 ⊢
      have s3 := b1.size
      have R1 := Lib.hid r1; clear r1 o1
      replace A0 := Lib.hid (A0.out.keep b1 A0.out.lt)
      replace A1 := Lib.hid (A1.out.keep b1 A1.out.lt)
      replace B1 := Lib.hid (B1.out.trans (b1.mono B1.out.size))
      go_wp2_with fail
      have hHeld2 := hHeld.later b1 (by omega); clear b1 hHeld
      refine hK.out _ _ hHeld2 (fun hHeld => ?_)
      clear hK K hHeld2
      refine wpAnyH_ready (rs := [3, 4]) (by kernel_rfl) (by simp) (AllReadyH.cons rfl (fun K hK => ?_) (AllReadyH.cons rfl (fun K hK => ?_) AllReadyH.nil))
      · go_simp
        refine (rename_spec _ r u P1 m1 c1 (nm r u 0) m1 hi _ _ (HX.out.keep (B1.out.mono ht) (Nat.le_refl _)) R1.out.rd HS.out NK.out.1 NK.out.2).mono ?_
        rintro e w4 ⟨g, rfl, sg, b1⟩
        obtain ⟨P2, c2, Q2, d2, rfl⟩ := sg.lens (renTo_len _ _ _ _) (renTo_len _ _ _ _)
        have s4 := b1.size
        have SG := Lib.hid sg; clear sg R1
        replace A0 := Lib.hid (A0.out.keep b1 A0.out.lt)
        replace A1 := Lib.hid (A1.out.keep b1 A1.out.lt)
        replace B1 := Lib.hid (B1.out.trans (b1.mono B1.out.size))
        go_wp2_with fail
        have hHeld2 := hHeld.later b1 (by omega); clear b1 hHeld
        refine hK.out _ _ hHeld2 (fun hHeld => ?_)
        clear hK K hHeld2
        refine wpAnyH_ready (rs := [4]) (by kernel_rfl) (by simp) (AllReadyH.cons rfl (fun K hK => ?_) AllReadyH.nil)
        go_simp
        generalize hwa : w4.alloc (.cells #[.slice none 0 0, .slice none 0 0] 31) = wa
        have b1 : Below w4.heap.size w4 wa := by rw [← hwa]; exact (Below.refl _ _).alloc (Nat.le_refl _) _
        have AL : Hid (Arr wa w4.heap.size [.slice none 0 0, .slice none 0 0] 31) := Lib.hid (by rw [← hwa]; exact Arr.new _ _ _ rfl)
        have sa : w4.heap.size + 1 ≤ wa.heap.size := by rw [← hwa]; simp
        clear hwa
        replace A0 := Lib.hid (A0.out.keep b1 A0.out.lt)
        replace A1 := Lib.hid (A1.out.keep b1 A1.out.lt)
        replace B1 := Lib.hid (B1.out.trans (b1.mono B1.out.size))
        replace SG := Lib.hid (SG.out.keep b1 SG.out.top)
        have hHeld2 := hHeld.later b1 (by omega); clear b1 hHeld
        refine hK.out _ _ hHeld2 (fun hHeld => ?_)
        clear hK K hHeld2
        refine wpAnyH_ready (rs := [5]) (by kernel_rfl) (by simp) (AllReadyH.cons rfl (fun K hK => ?_) AllReadyH.nil)
        refine step_store_row rfl 31 _ _ rfl (w4.heap.size) #[.slice P2 m1 c2, .slice Q2 m1 d2] rfl rfl 31 #[.slice none 0 0, .slice none 0 0] AL.out size2 rfl (by simp [Value.oneCell']) ?_
        change K (Act.put _ none _) _
        simp only [Act.put]
        refine hK.out _ _ (hHeld.other (by omega) (by simp; omega) _) (fun hHeld2 => ?_)
        clear hK K hHeld2
        refine wpAnyH_done (by kernel_rfl) ?_ _
        go_wp2_with fail
        go_meet
        refine ⟨_, rfl, A0.out.rowOther (by omega), A1.out.rowOther (by omega), ⟨P2, c2, Q2, d2, w4.heap.size, AL.out.row, ?_⟩, by omega, below_setRow B1.out (by omega) _⟩
        exact (SG.out.out ((Out.refl (w4.heap.size) (w4.heap.size + 1) _).row_ (Nat.le_refl _) (Nat.lt_succ_self _) _) (by omega)).later (by omega)
      · go_simp
        generalize hwa : w3.alloc (.cells #[.slice none 0 0, .slice none 0 0] 31) = wa
        have b1 : Below w3.heap.size w3 wa := by rw [← hwa]; exact (Below.refl _ _).alloc (Nat.le_refl _) _
        have AL : Hid (Arr wa w3.heap.size [.slice none 0 0, .slice none 0 0] 31) := Lib.hid (by rw [← hwa]; exact Arr.new _ _ _ rfl)
        have sa : w3.heap.size + 1 ≤ wa.heap.size := by rw [← hwa]; simp
        clear hwa
        replace A0 := Lib.hid (A0.out.keep b1 A0.out.lt)
        replace A1 := Lib.hid (A1.out.keep b1 A1.out.lt)
        replace B1 := Lib.hid (B1.out.trans (b1.mono B1.out.size))
        replace R1 := Lib.hid (R1.out.keep b1 R1.out.2.1)
        have hHeld2 := hHeld.later b1 (by omega); clear b1 hHeld
        refine hK.out _ _ hHeld2 (fun hHeld => ?_)
        clear hK K hHeld2
        refine wpAnyH_ready (rs := [3]) (by kernel_rfl) (by simp) (AllReadyH.cons rfl (fun K hK => ?_) AllReadyH.nil)
        go_simp
        refine (rename_spec _ r u P1 m1 c1 (nm r u 0) m1 hi _ _ (HX.out.keep (B1.out.mono ht) (Nat.le_refl _)) R1.out.rd HS.out NK.out.1 NK.out.2).mono ?_
        rintro e w4 ⟨g, rfl, sg, b1⟩
        obtain ⟨P2, c2, Q2, d2, rfl⟩ := sg.lens (renTo_len _ _ _ _) (renTo_len _ _ _ _)
        have s4 := b1.size
        have SG := Lib.hid sg; clear sg R1
        replace A0 := Lib.hid (A0.out.keep b1 A0.out.lt)
        replace A1 := Lib.hid (A1.out.keep b1 A1.out.lt)
        replace B1 := Lib.hid (B1.out.trans (b1.mono B1.out.size))
        replace AL := Lib.hid (AL.out.keep b1 AL.out.lt)
        go_wp2_with fail
        have hHeld2 := hHeld.later b1 (by omega); clear b1 hHeld
        refine hK.out _ _ hHeld2 (fun hHeld => ?_)
        clear hK K hHeld2
        refine wpAnyH_ready (rs := [5]) (by kernel_rfl) (by simp) (AllReadyH.cons rfl (fun K hK => ?_) AllReadyH.nil)
        refine step_store_row rfl 31 _ _ rfl (w3.heap.size) #[.slice P2 m1 c2, .slice Q2 m1 d2] rfl rfl 31 #[.slice none 0 0, .slice none 0 0] AL.out size2 rfl (by simp [Value.oneCell']) ?_
        change K (Act.put _ none _) _
        simp only [Act.put]
        refine hK.out _ _ (hHeld.other (by omega) (by simp; omega) _) (fun hHeld2 => ?_)
        clear hK K hHeld2
        refine wpAnyH_done (by kernel_rfl) ?_ _
        go_wp2_with fail
        go_meet
        refine ⟨_, rfl, A0.out.rowOther (by omega), A1.out.rowOther (by omega), ⟨P2, c2, Q2, d2, w4.heap.size, AL.out.row, ?_⟩, by omega, below_setRow B1.out (by omega) _⟩
        exact (SG.out.out ((Out.refl (w3.heap.size) (w3.heap.size + 1) _).row_ (Nat.le_refl _) (Nat.lt_succ_self _) _) (by omega)).later (by omega)
    · go_simp
      generalize hwa : w2.alloc (.cells #[.slice none 0 0, .slice none 0 0] 31) = wa
      have b1 : Below w2.heap.size w2 wa := by rw [← hwa]; exact (Below.refl _ _).alloc (Nat.le_refl _) _
      have AL : Hid (Arr wa w2.heap.size [.slice none 0 0, .slice none 0 0] 31) := Lib.hid (by rw [← hwa]; exact Arr.new _ _ _ rfl)
      have sa : w2.heap.size + 1 ≤ wa.heap.size := by rw [← hwa]; simp
      clear hwa
      replace A0 := Lib.hid (A0.out.keep b1 A0.out.lt)
      replace A1 := Lib.hid (A1.out.keep b1 A1.out.lt)
      replace B1 := Lib.hid (B1.out.trans (b1.mono B1.out.size))
      have hHeld2 := hHeld.later b1 (by omega); clear b1 hHeld
      refine hK.out _ _ hHeld2 (fun hHeld => ?_)
      clear hK K hHeld2
      refine wpAnyH_ready (rs := [2]) (by kernel_rfl) (by simp) (AllReadyH.cons rfl (fun K hK => ?_) AllReadyH.nil)
      go_simp
      refine (names_spec _ r u m1 0 hi _ (HX.out.keep (B1.out.mono ht) (Nat.le_refl _)) HS.out (Int.le_refl _) (by omega)).mono ?_
      rintro e w3 ⟨v1, rfl, o1, b1⟩
      obtain ⟨P1, c1, rfl, r1, C1⟩ := gives_rows o1
      have NK := Lib.hid (HS.out.nok (f := 0) (Int.le_refl _) (by omega))
      rw [NK.out.2] at r1 C1 ⊢
      have s3 := b1.size
      have R1 := Lib.hid r1; clear r1 o1
      replace A0 := Lib.hid (A0.out.keep b1 A0.out.lt)
      replace A1 := Lib.hid (A1.out.keep b1 A1.out.lt)
      replace B1 := Lib.hid (B1.out.trans (b1.mono B1.out.size))
      replace AL := Lib.hid (AL.out.keep b1 AL.out.lt)
      go_wp2_with fail
      have hHeld2 := hHeld.later b1 (by omega); clear b1 hHeld
      refine hK.out _ _ hHeld2 (fun hHeld => ?_)
      clear hK K hHeld2
      refine wpAnyH_ready (rs := [3]) (by kernel_rfl) (by simp) (AllReadyH.cons rfl (fun K hK => ?_) AllReadyH.nil)
      go_simp
      refine (rename_spec _ r u P1 m1 c1 (nm r u 0) m1 hi _ _ (HX.out.keep (B1.out.mono ht) (Nat.le_refl _)) R1.out.rd HS.out NK.out.1 NK.out.2).mono ?_
      rintro e w4 ⟨g, rfl, sg, b1⟩
      obtain ⟨P2, c2, Q2, d2, rfl⟩ := sg.lens (renTo_len _ _ _ _) (renTo_len _ _ _ _)
      have s4 := b1.size
      have SG := Lib.hid sg; clear sg R1
      replace A0 := Lib.hid (A0.out.keep b1 A0.out.lt)
      replace A1 := Lib.hid (A1.out.keep b1 A1.out.lt)
      replace B1 := Lib.hid (B1.out.trans (b1.mono B1.out.size))
      replace AL := Lib.hid (AL.out.keep b1 AL.out.lt)
      go_wp2_with fail
      have hHeld2 := hHeld.later b1 (by omega); clear b1 hHeld
      refine hK.out _ _ hHeld2 (fun hHeld => ?_)
      clear hK K hHeld2
      refine wpAnyH_ready (rs := [5]) (by kernel_rfl) (by simp) (AllReadyH.cons rfl (fun K hK => ?_) AllReadyH.nil)
      refine step_store_row rfl 31 _ _ rfl (w2.heap.size) #[.slice P2 m1 c2, .slice Q2 m1 d2] rfl rfl 31 #[.slice none 0 0, .slice none 0 0] AL.out size2 rfl (by simp [Value.oneCell']) ?_
      change K (Act.put _ none _) _
      simp only [Act.put]
      refine hK.out _ _ (hHeld.other (by omega) (by simp; omega) _) (fun hHeld2 => ?_)
      clear hK K hHeld2
      refine wpAnyH_done (by kernel_rfl) ?_ _
      go_wp2_with fail
      go_meet
      refine ⟨_, rfl, A0.out.rowOther (by omega), A1.out.rowOther (by omega), ⟨P2, c2, Q2, d2, w4.heap.size, AL.out.row, ?_⟩, by omega, below_setRow B1.out (by omega) _⟩
      exact (SG.out.out ((Out.refl (w2.heap.size) (w2.heap.size + 1) _).row_ (Nat.le_refl _) (Nat.lt_succ_self _) _) (by omega)).later (by omega)
  case rest =>
    obtain ⟨B3, rfl, hcs⟩ := hcut
    have HC := Lib.hid hcs; clear hcs A0 A1 B1 s1
    go_wp2_with fail
    go_loopw [4] (fun i wr => ∃ k : Nat, k + 1 ≤ m1 ∧ i = .int .i64 ((k : Int) + 1) ∧ Cs w wr (.slice P m1 c) (.slice Q m1 d) m1 B3 (Fc r u m1 k)) (fun i _ => m1 - (intOf i).toNat)
    case atStart => exact ⟨0, hpos, rfl, HC.out⟩
    case round =>
      obtain ⟨k, hk, rfl, hcs⟩ := hrel
      have HR := Lib.hid hcs; clear hcs HC
      have c0 := HR.out.g.cell (k := 0) rfl
      by_cases hlt : (k : Int) + 1 < m1
      · go_wp2_with fail
        go_cut [5] from 10 to 25 (fun p wx => ∃ B5 lo, p = .pointer (some ⟨B5, 0, none⟩) ∧ Cs w wx (.slice P m1 c) (.slice Q m1 d) m1 B3 (Fc r u m1 k) ∧ Bs wx B5 lo m1 (Fm r u m1 ((k : Int) + 1)) ∧ B3 < lo)
        case first =>
          have hB := HR.out.hB
          have hBl : B3 < wr.heap.size := by obtain ⟨_, _, _, _, _, a, _⟩ := HR.out.best.ex; exact a.lt
          clear c0
          refine wp_region_held_drew (S := Hld wr.heap.size wr.heap.size wr [(w.heap.size, [.slice P m1 c, .slice Q m1 d])]) (by kernel_rfl) (Hld.start1 HR.out.g) (fun hHeld => ?_)
          have b1 : Below wr.heap.size wr wr.drew := ⟨rfl, rfl, rfl, Nat.le_refl _, fun _ _ => rfl⟩
          generalize wr.drew = w2 at *
          have s2 := b1.size
          have BW := Lib.hid b1
          clear b1
          refine wpAnyH_take (i := 0) (v := .agg #[.slice P m1 c, .slice Q m1 d]) rfl (by kernel_rfl) (by kernel_rfl) (by kernel_rfl) (fun _ _ _ h => h) (yieldsIf_load_mid (by rfl) _ _ rfl (w.heap.size) 0 rfl [.slice P m1 c, .slice Q m1 d] _ (fun w h => h.fst) Tryz.underlying31 rfl (sizeS _ _)) hHeld ?_
          refine wpAnyH_take (i := 1) (v := .agg #[.slice P m1 c, .slice Q m1 d]) rfl (by kernel_rfl) (by kernel_rfl) (by kernel_rfl) (fun _ _ _ h => h) (yieldsIf_load_mid (by rfl) _ _ rfl (w.heap.size) 0 rfl [.slice P m1 c, .slice Q m1 d] _ (fun w h => h.fst) Tryz.underlying31 rfl (sizeS _ _)) hHeld ?_
          refine wpAnyH_take (i := 2) (v := .int .i64 ((k : Int) + 1)) rfl (by kernel_rfl) (by kernel_rfl) (by kernel_rfl) (fun _ _ _ h => h) (Or.inl ⟨by rfl, fun w hSw => by go_simp⟩) hHeld ?_
          refine wpAnyH_ready (rs := [3, 5]) (by kernel_rfl) (by simp) (AllReadyH.cons rfl (fun K hK => ?_) (AllReadyH.cons rfl (fun K hK => ?_) AllReadyH.nil))
          · go_simp
            refine (names_spec _ r u m1 ((k : Int) + 1) hi _ (HX.out.keep ((HR.out.below.trans (BW.out.mono HR.out.below.size)).mono ht) (Nat.le_refl _)) HS.out (by omega) hlt).mono ?_
            rintro e w3 ⟨v1, rfl, o1, b1⟩
            obtain ⟨P1, c1, rfl, r1, C1⟩ := gives_rows o1
            have NK := Lib.hid (HS.out.nok (f := (k : Int) + 1) (by omega) hlt)
            rw [NK.out.2] at r1 C1 ⊢
            have s3 := b1.size
            have R1 := Lib.hid r1; clear r1 o1
            replace BW := Lib.hid (BW.out.trans (b1.mono BW.out.size))
            go_wp2_with fail
            have hHeld2 := hHeld.later b1 (by omega); clear b1 hHeld
            refine hK.out _ _ hHeld2 (fun hHeld => ?_)
            clear hK K hHeld2
            refine wpAnyH_ready (rs := [4, 5]) (by kernel_rfl) (by simp) (AllReadyH.cons rfl (fun K hK => ?_) (AllReadyH.cons rfl (fun K hK => ?_) AllReadyH.nil))
            · go_simp
              refine (rename_spec _ r u P1 m1 c1 (nm r u ((k : Int) + 1)) m1 hi _ _ (HX.out.keep ((HR.out.below.trans (BW.out.mono HR.out.below.size)).mono ht) (Nat.le_refl _)) R1.out.rd HS.out NK.out.1 NK.out.2).mono ?_
              rintro e w4 ⟨g, rfl, sg, b1⟩
              obtain ⟨P2, c2, Q2, d2, rfl⟩ := sg.lens (renTo_len _ _ _ _) (renTo_len _ _ _ _)
              have s4 := b1.size
              have SG := Lib.hid sg; clear sg R1
              replace BW := Lib.hid (BW.out.trans (b1.mono BW.out.size))
              go_wp2_with fail
              have hHeld2 := hHeld.later b1 (by omega); clear b1 hHeld
              refine hK.out _ _ hHeld2 (fun hHeld => ?_)
              clear hK K hHeld2
              refine wpAnyH_ready (rs := [5]) (by kernel_rfl) (by simp) (AllReadyH.cons rfl (fun K hK => ?_) AllReadyH.nil)
              go_simp
              generalize hwa : w4.alloc (.cells #[.slice none 0 0, .slice none 0 0] 31) = wa
              have b1 : Below w4.heap.size w4 wa := by rw [← hwa]; exact (Below.refl _ _).alloc (Nat.le_refl _) _
              have AL : Hid (Arr wa w4.heap.size [.slice none 0 0, .slice none 0 0] 31) := Lib.hid (by rw [← hwa]; exact Arr.new _ _ _ rfl)
              have sa : w4.heap.size + 1 ≤ wa.heap.size := by rw [← hwa]; simp
              clear hwa
              replace BW := Lib.hid (BW.out.trans (b1.mono BW.out.size))
              replace SG := Lib.hid (SG.out.keep b1 SG.out.top)
              have hHeld2 := hHeld.later b1 (by omega); clear b1 hHeld
              refine hK.out _ _ hHeld2 (fun hHeld => ?_)
              clear hK K hHeld2
              refine wpAnyH_ready (rs := [6]) (by kernel_rfl) (by simp) (AllReadyH.cons rfl (fun K hK => ?_) AllReadyH.nil)
              refine step_store_row rfl 31 _ _ rfl (w4.heap.size) #[.slice P2 m1 c2, .slice Q2 m1 d2] rfl rfl 31 #[.slice none 0 0, .slice none 0 0] AL.out size2 rfl (by simp [Value.oneCell']) ?_
              change K (Act.put _ none _) _
              simp only [Act.put]
              refine hK.out _ _ (hHeld.other (by omega) (by simp; omega) _) (fun hHeld2 => ?_)
              clear hK K hHeld2
              refine wpAnyH_done (by kernel_rfl) ?_ _
              go_wp2_with fail
              go_meet
              have hc := HR.out.keep (below_setRow BW.out (show wr.heap.size ≤ w4.heap.size by omega) #[.slice P2 m1 c2, .slice Q2 m1 d2])
              refine ⟨_, w3.heap.size, rfl, hc, ⟨P2, c2, Q2, d2, w4.heap.size, AL.out.row, ?_⟩, by omega⟩
              exact (SG.out.out ((Out.refl (w4.heap.size) (w4.heap.size + 1) _).row_ (Nat.le_refl _) (Nat.lt_succ_self _) _) (by omega)).later (by omega)
            · go_simp
              generalize hwa : w3.alloc (.cells #[.slice none 0 0, .slice none 0 0] 31) = wa
              have b1 : Below w3.heap.size w3 wa := by rw [← hwa]; exact (Below.refl _ _).alloc (Nat.le_refl _) _
              have AL : Hid (Arr wa w3.heap.size [.slice none 0 0, .slice none 0 0] 31) := Lib.hid (by rw [← hwa]; exact Arr.new _ _ _ rfl)
              have sa : w3.heap.size + 1 ≤ wa.heap.size := by rw [← hwa]; simp
              clear hwa
              replace BW := Lib.hid (BW.out.trans (b1.mono BW.out.size))
              replace R1 := Lib.hid (R1.out.keep b1 R1.out.2.1)
              have hHeld2 := hHeld.later b1 (by omega); clear b1 hHeld
              refine hK.out _ _ hHeld2 (fun hHeld => ?_)
              clear hK K hHeld2
              refine wpAnyH_ready (rs := [4]) (by kernel_rfl) (by simp) (AllReadyH.cons rfl (fun K hK => ?_) AllReadyH.nil)
              go_simp
              refine (rename_spec _ r u P1 m1 c1 (nm r u ((k : Int) + 1)) m1 hi _ _ (HX.out.keep ((HR.out.below.trans (BW.out.mono HR.out.below.size)).mono ht) (Nat.le_refl _)) R1.out.rd HS.out NK.out.1 NK.out.2).mono ?_
              rintro e w4 ⟨g, rfl, sg, b1⟩
              obtain ⟨P2, c2, Q2, d2, rfl⟩ := sg.lens (renTo_len _ _ _ _) (renTo_len _ _ _ _)
              have s4 := b1.size
              have SG := Lib.hid sg; clear sg R1
              replace BW := Lib.hid (BW.out.trans (b1.mono BW.out.size))
              replace AL := Lib.hid (AL.out.keep b1 AL.out.lt)
              go_wp2_with fail
              have hHeld2 := hHeld.later b1 (by omega); clear b1 hHeld
              refine hK.out _ _ hHeld2 (fun hHeld => ?_)
              clear hK K hHeld2
              refine wpAnyH_ready (rs := [6]) (by kernel_rfl) (by simp) (AllReadyH.cons rfl (fun K hK => ?_) AllReadyH.nil)
              refine step_store_row rfl 31 _ _ rfl (w3.heap.size) #[.slice P2 m1 c2, .slice Q2 m1 d2] rfl rfl 31 #[.slice none 0 0, .slice none 0 0] AL.out size2 rfl (by simp [Value.oneCell']) ?_
              change K (Act.put _ none _) _
              simp only [Act.put]
              refine hK.out _ _ (hHeld.other (by omega) (by simp; omega) _) (fun hHeld2 => ?_)
              clear hK K hHeld2
              refine wpAnyH_done (by kernel_rfl) ?_ _
              go_wp2_with fail
              go_meet
              have hc := HR.out.keep (below_setRow BW.out (show wr.heap.size ≤ w3.heap.size by omega) #[.slice P2 m1 c2, .slice Q2 m1 d2])
              refine ⟨_, wa.heap.size, rfl, hc, ⟨P2, c2, Q2, d2, w4.heap.size, AL.out.row, ?_⟩, by omega⟩
              exact (SG.out.out ((Out.refl (w3.heap.size) (w3.heap.size + 1) _).row_ (Nat.le_refl _) (Nat.lt_succ_self _) _) (by omega)).later (by omega)
          · go_simp
            generalize hwa : w2.alloc (.cells #[.slice none 0 0, .slice none 0 0] 31) = wa
            have b1 : Below w2.heap.size w2 wa := by rw [← hwa]; exact (Below.refl _ _).alloc (Nat.le_refl _) _
            have AL : Hid (Arr wa w2.heap.size [.slice none 0 0, .slice none 0 0] 31) := Lib.hid (by rw [← hwa]; exact Arr.new _ _ _ rfl)
            have sa : w2.heap.size + 1 ≤ wa.heap.size := by rw [← hwa]; simp
            clear hwa
            replace BW := Lib.hid (BW.out.trans (b1.mono BW.out.size))
            have hHeld2 := hHeld.later b1 (by omega); clear b1 hHeld
            refine hK.out _ _ hHeld2 (fun hHeld => ?_)
            clear hK K hHeld2
            refine wpAnyH_ready (rs := [3]) (by kernel_rfl) (by simp) (AllReadyH.cons rfl (fun K hK => ?_) AllReadyH.nil)
            go_simp
            refine (names_spec _ r u m1 ((k : Int) + 1) hi _ (HX.out.keep ((HR.out.below.trans (BW.out.mono HR.out.below.size)).mono ht) (Nat.le_refl _)) HS.out (by omega) hlt).mono ?_
            rintro e w3 ⟨v1, rfl, o1, b1⟩
            obtain ⟨P1, c1, rfl, r1, C1⟩ := gives_rows o1
            have NK := Lib.hid (HS.out.nok (f := (k : Int) + 1) (by omega) hlt)
            rw [NK.out.2] at r1 C1 ⊢
            have s3 := b1.size
            have R1 := Lib.hid r1; clear r1 o1
            replace BW := Lib.hid (BW.out.trans (b1.mono BW.out.size))
            replace AL := Lib.hid (AL.out.keep b1 AL.out.lt)
            go_wp2_with fail
            have hHeld2 := hHeld.later b1 (by omega); clear b1 hHeld
            refine hK.out _ _ hHeld2 (fun hHeld => ?_)
            clear hK K hHeld2
            refine wpAnyH_ready (rs := [4]) (by kernel_rfl) (by simp) (AllReadyH.cons rfl (fun K hK => ?_) AllReadyH.nil)
            go_simp
            refine (rename_spec _ r u P1 m1 c1 (nm r u ((k : Int) + 1)) m1 hi _ _ (HX.out.keep ((HR.out.below.trans (BW.out.mono HR.out.below.size)).mono ht) (Nat.le_refl _)) R1.out.rd HS.out NK.out.1 NK.out.2).mono ?_
            rintro e w4 ⟨g, rfl, sg, b1⟩
            obtain ⟨P2, c2, Q2, d2, rfl⟩ := sg.lens (renTo_len _ _ _ _) (renTo_len _ _ _ _)
            have s4 := b1.size
            have SG := Lib.hid sg; clear sg R1
            replace BW := Lib.hid (BW.out.trans (b1.mono BW.out.size))
            replace AL := Lib.hid (AL.out.keep b1 AL.out.lt)
            go_wp2_with fail
            have hHeld2 := hHeld.later b1 (by omega); clear b1 hHeld
            refine hK.out _ _ hHeld2 (fun hHeld => ?_)
            clear hK K hHeld2
            refine wpAnyH_ready (rs := [6]) (by kernel_rfl) (by simp) (AllReadyH.cons rfl (fun K hK => ?_) AllReadyH.nil)
            refine step_store_row rfl 31 _ _ rfl (w2.heap.size) #[.slice P2 m1 c2, .slice Q2 m1 d2] rfl rfl 31 #[.slice none 0 0, .slice none 0 0] AL.out size2 rfl (by simp [Value.oneCell']) ?_
            change K (Act.put _ none _) _
            simp only [Act.put]
            refine hK.out _ _ (hHeld.other (by omega) (by simp; omega) _) (fun hHeld2 => ?_)
            clear hK K hHeld2
            refine wpAnyH_done (by kernel_rfl) ?_ _
            go_wp2_with fail
            go_meet
            have hc := HR.out.keep (below_setRow BW.out (show wr.heap.size ≤ w2.heap.size by omega) #[.slice P2 m1 c2, .slice Q2 m1 d2])
            refine ⟨_, w3.heap.size, rfl, hc, ⟨P2, c2, Q2, d2, w4.heap.size, AL.out.row, ?_⟩, by omega⟩
            exact (SG.out.out ((Out.refl (w2.heap.size) (w2.heap.size + 1) _).row_ (Nat.le_refl _) (Nat.lt_succ_self _) _) (by omega)).later (by omega)
        case rest =>
          obtain ⟨B5, lo, rfl, hc5, hb5, hlo⟩ := hcut
          have H5 := Lib.hid hc5; have HB5 := Lib.hid hb5; clear hc5 hb5 HR c0
          obtain ⟨P5, c5, Q5, d5, hi5, a5, s5⟩ := HB5.out.ex
          obtain ⟨P3, c3, Q3, d3, hi3, a3, s3⟩ := H5.out.best.ex
          have c50 := a5.cell (k := 0) rfl
          have c51 := a5.cell (k := 1) rfl
          have c30 := a3.cell (k := 0) rfl
          have c31 := a3.cell (k := 1) rfl
          have A5 := Lib.hid a5; have S5 := Lib.hid s5; have A3 := Lib.hid a3; have S3 := Lib.hid s3
          clear a5 s5 a3 s3
          have l5 := Fm_len r u m1 ((k : Int) + 1)
          have l3 := Fc_len r u m1 k
          have LL := Lib.hid (And.intro l5 l3); clear l5 l3
          go_wp2_with fail
          refine (before_spec _ _ (Fm r u m1 ((k : Int) + 1)).1 (Fm r u m1 ((k : Int) + 1)).2 (Fc r u m1 k).1 (Fc r u m1 k).2 _ _ _ S5.out.rd S3.out.rd (by have := LL.out.1.1; omega) (by rw [LL.out.1.1, LL.out.2.1]) (by rw [LL.out.1.2, LL.out.2.2]) (by have := LL.out.1.2; omega)).mono ?_
          rintro e w6 ⟨rfl, b1⟩
          have hs6 := b1.size
          have H6 := Lib.hid (H5.out.keep b1)
          replace A5 := Lib.hid (A5.out.keep b1 A5.out.lt)
          replace A3 := Lib.hid (A3.out.keep b1 A3.out.lt)
          replace S5 := Lib.hid (S5.out.keep b1 S5.out.top)
          clear b1 H5 S3 HB5 c50 c51 c30 c31
          by_cases hb : bef (Fm r u m1 ((k : Int) + 1)) (Fc r u m1 k) = true
          · have HF : Hid (Fc r u m1 (k + 1) = Fm r u m1 ((k : Int) + 1)) := Lib.hid (by unfold Fc at hb ⊢; rw [canTo, if_pos hb])
            rw [show ((Fm r u m1 ((k : Int) + 1)).1, (Fm r u m1 ((k : Int) + 1)).2) = Fm r u m1 ((k : Int) + 1) from rfl, show ((Fc r u m1 k).1, (Fc r u m1 k).2) = Fc r u m1 k from rfl, hb]
            clear hb
            go_wp2_with (first | (refine wpList_load_row rfl 31 (.tmp 5) rfl B5 rfl 31 #[.slice P5 m1 c5, .slice Q5 m1 d5] (0, 0) _ A5.out Tryz.underlying31 rfl size2 ?_) | (refine wpList_store_row rfl 31 _ _ rfl B3 #[.slice P5 m1 c5, .slice Q5 m1 d5] rfl rfl 31 #[.slice P3 m1 c3, .slice Q3 m1 d3] A3.out size2 rfl (by simp [Value.oneCell']) ?_) | fail)
            go_roundw
            case rel => exact ⟨k + 1, by omega, by go_num, by rw [HF.out]; exact H6.out.new S5.out hlo⟩
            case measure => simp [intOf]; omega
          · have hb' : bef (Fm r u m1 ((k : Int) + 1)) (Fc r u m1 k) = false := by simpa using hb
            have HF : Hid (Fc r u m1 (k + 1) = Fc r u m1 k) := Lib.hid (by unfold Fc at hb ⊢; rw [canTo, if_neg hb])
            rw [show ((Fm r u m1 ((k : Int) + 1)).1, (Fm r u m1 ((k : Int) + 1)).2) = Fm r u m1 ((k : Int) + 1) from rfl, show ((Fc r u m1 k).1, (Fc r u m1 k).2) = Fc r u m1 k from rfl, hb']
            clear hb hb'
            go_wp2_with fail
            go_roundw
            case rel => exact ⟨k + 1, by omega, by go_num, by rw [HF.out]; exact H6.out⟩
            case measure => simp [intOf]; omega
      · obtain rfl : m1 = k + 1 := by omega
        have HF : Hid (Fc r u (k + 1) k = can r u (k + 1)) := Lib.hid rfl
        obtain ⟨P3, c3, Q3, d3, hi3, a3, s3⟩ := HR.out.best.ex
        have hB := HR.out.hB
        have A3 := Lib.hid a3; have S3 := Lib.hid s3; clear a3 s3
        go_wp2_with (first | (refine wpList_load_row rfl 31 _ rfl B3 rfl 31 #[.slice P3 (k + 1) c3, .slice Q3 (k + 1) d3] (0, 0) _ A3.out Tryz.underlying31 rfl size2 ?_) | (refine wpList_store_row rfl 31 _ _ rfl (w.heap.size + 1) #[.slice P3 (k + 1) c3, .slice Q3 (k + 1) d3] rfl rfl 31 #[.slice none 0 0, .slice none 0 0] HR.out.res size2 rfl (by simp [Value.oneCell']) ?_) | fail)
        exact bodyPost_ret (v := .agg #[.slice P3 (k + 1) c3, .slice Q3 (k + 1) d3]) (results_cell_row rfl _ _ (w.heap.size + 1) 31 #[.slice P3 (k + 1) c3, .slice Q3 (k + 1) d3] (0, 0) _ rfl HR.out.res.row Tryz.underlying31 rfl size2) rfl (by
          rw [HF.out] at S3
          have := Svl.row S3.out (g := w.heap.size + 1) (by omega) #[.slice P3 (k + 1) c3, .slice Q3 (k + 1) d3]
          exact ⟨_, rfl, (this.later (by omega)).wide, below_setRow HR.out.below (by omega) _⟩)
end Go.Proofs.YtpmojmhamgcfmaaGreat.gl

/-
  l10Less of the model: lists in ascending lexicographic order.
-/
namespace Go.Proofs.YtpmojmhamgcfmaaGreat.lst
open Go.ChangeShapes Go.WideShapes Go.ChangeAt Go.RowKit
open Go.Proofs.YtpmojmhamgcfmaaGreat.mem Go.Proofs.YtpmojmhamgcfmaaGreat.ints Go.Proofs.YtpmojmhamgcfmaaGreat.arr Go.Proofs.YtpmojmhamgcfmaaGreat.pm Go.Proofs.YtpmojmhamgcfmaaGreat.sf
set_option linter.unusedVariables false
set_option maxRecDepth 100000

/-- Behind the first k, which are the same. -/
theorem lessX_drop {xs ys : List Int} : ∀ {k : Nat}, k ≤ xs.length → (∀ j, j < k → xs[j]? = ys[j]?) → lessX xs ys = lessX (xs.drop k) (ys.drop k)
  | 0, _, _ => by simp
  | k + 1, hk, h => by
    rw [lessX_drop (k := k) (by omega) (fun j hj => h j (by omega))]
    have e := h k (by omega)
    have hx := List.getElem?_eq_getElem (show k < xs.length by omega)
    rw [hx] at e
    obtain ⟨hy, ey⟩ := List.getElem?_eq_some_iff.1 e.symm
    rw [List.drop_eq_getElem_cons (show k < xs.length by omega), List.drop_eq_getElem_cons hy, ey, lessX, if_pos rfl]
theorem lessX_end {xs ys : List Int} {k : Nat} (hk : k < xs.length) (hy : ys.length ≤ k) (h : ∀ j, j < k → xs[j]? = ys[j]?) : lessX xs ys = false := by
  rw [lessX_drop (by omega) h, List.drop_eq_getElem_cons hk, List.drop_of_length_le hy]
  rfl
theorem lessX_at {xs ys : List Int} {k : Nat} {s t : Int} (hx : xs[k]? = some s) (hy : ys[k]? = some t) (h : ∀ j, j < k → xs[j]? = ys[j]?) (hne : s ≠ t) : lessX xs ys = decide (s < t) := by
  obtain ⟨h1, e1⟩ := List.getElem?_eq_some_iff.1 hx
  obtain ⟨h2, e2⟩ := List.getElem?_eq_some_iff.1 hy
  rw [lessX_drop (by omega) h, List.drop_eq_getElem_cons h1, List.drop_eq_getElem_cons h2, e1, e2, lessX, if_neg hne]
theorem lessX_all {xs ys : List Int} (h : ∀ j, j < xs.length → xs[j]? = ys[j]?) : lessX xs ys = decide (xs.length < ys.length) := by
  rw [lessX_drop (Nat.le_refl _) h, List.drop_of_length_le (Nat.le_refl _), lessX]
  by_cases q : xs.length < ys.length
  · rw [List.drop_eq_getElem_cons q]; simp [q]
  · rw [List.drop_of_length_le (by omega)]; simp [q]
set_option maxHeartbeats 1000000 in
theorem lessX_spec (A : Option Addr) (n c : Nat) (B : Option Addr) (m d : Nat) (xs ys : List Int) (h1 h2 : Nat) (w : World)
    (hx : Rd w h1 A n (V xs)) (hy : Rd w h2 B m (V ys)) (hn : n ≤ 1048576) (hm : m ≤ 1048576) :
    Calls Tryz.prog 11 #[.slice A n c, .slice B m d] w fun e w' => e = .returned (.bool (lessX xs ys)) ∧ w' = w := by
  have lx : xs.length = n := by simpa [V] using hx.1
  have ly : ys.length = m := by simpa [V] using hy.1
  have LX := Lib.hid lx; have LY := Lib.hid ly; clear lx ly
  have HX := Lib.hid hx; have HY := Lib.hid hy; clear hx hy
  go_enter Tryz.func11, Tryz.ntmps11
  go_wp2
  go_loopw [9] (fun i wr => ∃ k : Nat, k ≤ n ∧ i = .int .i64 k ∧ wr = w ∧ ∀ j, j < k → xs[j]? = ys[j]?) (fun i _ => n - (intOf i).toNat)
  case atStart => refine ⟨0, Nat.zero_le _, ?_, ?_, fun j hj => by omega⟩ <;> first | rfl | trivial
  case round =>
    obtain ⟨k, hk, rfl, rfl, hsame⟩ := hrel
    have HS := Lib.hid hsame; clear hsame
    by_cases hlt : k < n
    · obtain ⟨g, off, u, rfl, _, hxu, hcx⟩ := HX.out.at_ hlt
      obtain ⟨s, hxs, rfl⟩ := V_at hxu
      have HXS := Lib.hid hxs; clear hxs hxu
      by_cases hkm : k < m
      · obtain ⟨g', off', u', rfl, _, hyu, hcy⟩ := HY.out.at_ hkm
        obtain ⟨t, hyt, rfl⟩ := V_at hyu
        have HYT := Lib.hid hyt; clear hyt hyu
        by_cases hst : s = t
        · subst hst
          go_wp2
          go_roundw
          case rel => exact ⟨k + 1, by omega, by go_num, by first | rfl | trivial, fun j hj => by
            rcases Nat.lt_or_ge j k with q | q
            · exact HS.out j q
            · obtain rfl : j = k := by omega
              rw [HXS.out, HYT.out]⟩
          case measure => simp [intOf]; omega
        · have HC : Hid (lessX xs ys = decide (s < t)) := Lib.hid (lessX_at HXS.out HYT.out HS.out hst)
          have hb : (s != t) = true := by simpa using hst
          clear hst
          go_wp2
          go_ret
          exact ⟨ret_bool HC.out.symm, rfl⟩
      · have HC : Hid (lessX xs ys = false) := Lib.hid (lessX_end (by rw [LX.out]; exact hlt) (by rw [LY.out]; omega) HS.out)
        go_wp2
        go_ret
        exact ⟨ret_bool HC.out.symm, rfl⟩
    · obtain rfl : k = n := by omega
      have HC : Hid (lessX xs ys = decide (k < m)) := Lib.hid (by rw [lessX_all (by rw [LX.out]; exact HS.out), LX.out, LY.out])
      have hd : decide ((k : Int) < (m : Int)) = decide (k < m) := by simp
      go_wp2
      go_ret
      exact ⟨by rw [HC.out]; first | rfl | (simp), rfl⟩
end Go.Proofs.YtpmojmhamgcfmaaGreat.lst
