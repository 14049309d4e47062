import Derived.Test.YtpmojmhamgcfmaaGreatY11
/-
  The program's canonical form.
-/
namespace Go.Proofs.YtpmojmhamgcfmaaGreat.gl
open Go.ChangeShapes Go.WideShapes Go.ChangeAt Go.RowKit Go.Maps
open Go.Proofs.YtpmojmhamgcfmaaGreat.mem Go.Proofs.YtpmojmhamgcfmaaGreat.ints Go.Proofs.YtpmojmhamgcfmaaGreat.arr Go.Proofs.YtpmojmhamgcfmaaGreat.pm Go.Proofs.YtpmojmhamgcfmaaGreat.permOk Go.Proofs.YtpmojmhamgcfmaaGreat.permOf Go.Proofs.YtpmojmhamgcfmaaGreat.inv Go.Proofs.YtpmojmhamgcfmaaGreat.fns Go.Proofs.YtpmojmhamgcfmaaGreat.sf
set_option linter.unusedVariables false
set_option maxRecDepth 100000

/-- The program's names from square i. -/
def nf (r u : List Int) (i : Nat) : List Int := ext (nm r u (i : Int))
/-- The form from square i, as the program holds it. -/
def frm (r u : List Int) (n i : Nat) : List Int := gl (ext (Fm r u n (i : Int)).1) (ext (Fm r u n (i : Int)).2) n
theorem frm_len (r u : List Int) (n i : Nat) : (frm r u n i).length = 49 := gl_len (ext_len _) (ext_len _) _
theorem nf_sq {n : Nat} {r u : List Int} (s : Sf n r u) {i : Nat} (hi : i < n) : Sq (nf r u i) := (s.nok (f := (i : Int)) (by omega) (by omega)).1.sq
theorem frm_ren {n : Nat} {r u : List Int} (s : Sf n r u) {i : Nat} (hi : i < n) : gl (ren24 (ext r) (nf r u i)) (ren24 (ext u) (nf r u i)) n = frm r u n i := by
  obtain ⟨nk, nl⟩ := s.nok (f := (i : Int)) (by omega) (by omega)
  unfold nf frm Fm
  rw [ren24_ext s.r nk s.lr nl, ren24_ext s.u nk s.lu nl]

/-- The boxed gluing, the result's box, and the map that holds the names of the first k squares. -/
structure C1 (w wr : World) (r u : List Int) (n k : Nat) (D : DataW Unit) : Prop where
  g : Arr wr w.heap.size (V (gl (ext r) (ext u) n)) 62
  res : Arr wr (w.heap.size + 1) (V zero49) 62
  mp : wr.ownsMap Tryz.prog 3 pElem (w.heap.size + 2) k D
  holds : Holds D k (fun _ => true) (nf r u)
  below : Below w.heap.size w wr
theorem C1.keep {w wr w' : World} {r u : List Int} {n k : Nat} {D : DataW Unit} (h : C1 w wr r u n k D) (hb : Below wr.heap.size wr w') : C1 w w' r u n k D :=
  ⟨h.g.keep hb h.g.lt, h.res.keep hb h.res.lt, h.mp.kept (row := none) ⟨hb.os, hb.tape, hb.output, hb.size, fun i hi _ => hb.block i hi⟩ (by simp), h.holds, h.below.trans (hb.mono h.below.size)⟩
theorem C1.put {w wr w' : World} {r u : List Int} {n k : Nat} {D : DataW Unit} (h : C1 w wr r u n k D) (ho : w'.ownsMap Tryz.prog 3 pElem (w.heap.size + 2) (k + 1) (D.put (kk k) (dat (nf r u k)))) (hg : wr.grownBy w' (some (w.heap.size + 2))) : C1 w w' r u n (k + 1) (D.put (kk k) (dat (nf r u k))) :=
  ⟨(hg.block _ h.g.lt (by simp)).trans h.g, (hg.block _ h.res.lt (by simp)).trans h.res, ho, h.holds.put, h.below.grown hg h.below.size (fun k hk => by injection hk with e; omega)⟩
theorem made_at {w : World} {b : Nat} (h : b = w.heap.size) : (w.alloc (.map #[] 0)).ownsMap Tryz.prog 3 pElem b 0 (.map []) := by
  subst h; exact World.ownsMap_made _ _ _ _
theorem C1.look {w wr : World} {r u : List Int} {n k : Nat} {D : DataW Unit} (h : C1 w wr r u n k D) {i : Nat} (hi : i < k) (hk : k ≤ 24) :
    (Instr.lookup 92 (.map (some (w.heap.size + 2))) (.int .i64 (i : Int)) false).run Tryz.prog wr = .ok (.agg (V (nf r u i)).toArray) wr := by
  have hz : (zeroValue 60).run Tryz.prog wr = .ok (.agg (V zeros).toArray) wr := by kernel_rfl
  obtain ⟨v, ps, hrun, hv⟩ := h.mp.lookup lawI Tryz.underlying92 hz (pElem_mk zeros) (kk_key (i := i) (by omega))
  rw [h.holds.at_ i hi rfl] at hv
  obtain ⟨l, rfl, e⟩ := pElem_inv hv
  simp only [Prod.mk.injEq] at e
  rw [hrun, dat_inj e.1]
/-- Behind the first loop: the least form so far lies in a box of its own. -/
structure C2 (w wr : World) (r u : List Int) (n L : Nat) (ls : List Int) : Prop where
  g : Arr wr w.heap.size (V (gl (ext r) (ext u) n)) 62
  res : Arr wr (w.heap.size + 1) (V zero49) 62
  l : Arr wr L (V ls) 62
  hL : w.heap.size + 3 ≤ L
  below : Below w.heap.size w wr
theorem C2.keep {w wr w' : World} {r u ls : List Int} {n L : Nat} (h : C2 w wr r u n L ls) (hb : Below wr.heap.size wr w') : C2 w w' r u n L ls :=
  ⟨h.g.keep hb h.g.lt, h.res.keep hb h.res.lt, h.l.keep hb h.l.lt, h.hL, h.below.trans (hb.mono h.below.size)⟩
theorem C2.grown {w wr w' : World} {r u ls : List Int} {n L : Nat} {row : Option Nat} (h : C2 w wr r u n L ls) (hg : wr.grownBy w' row) (hr : ∀ k, row = some k → k = w.heap.size + 2 ∨ (L < k)) : C2 w w' r u n L ls := by
  have hL := h.hL
  have ne : ∀ k, k ≤ L → k ≠ w.heap.size + 2 → some k ≠ row := fun k h1 h2 e => by rcases hr k e.symm with q | q <;> omega
  exact ⟨(hg.block _ h.g.lt (ne _ (by omega) (by omega))).trans h.g, (hg.block _ h.res.lt (ne _ (by omega) (by omega))).trans h.res, (hg.block _ h.l.lt (ne _ (by omega) (by omega))).trans h.l, hL, h.below.grown hg h.below.size (fun k hk => by rcases hr k hk with q | q <;> omega)⟩
/-- While the map is ranged over: iterator R. -/
structure C3 (w wr : World) (r u : List Int) (n L R : Nat) (D : DataW Unit) (left : Lit → Bool) (cnt : Nat) (ls : List Int) : Prop where
  rg : wr.ranges Tryz.prog 3 pElem (w.heap.size + 2) R n D left cnt
  c : C2 w wr r u n L ls
  hR : L < R
theorem C3.keep {w wr w' : World} {r u ls : List Int} {n L R cnt : Nat} {D : DataW Unit} {left : Lit → Bool} (h : C3 w wr r u n L R D left cnt ls) (hb : Below wr.heap.size wr w') : C3 w w' r u n L R D left cnt ls :=
  ⟨h.rg.kept (row := none) ⟨hb.os, hb.tape, hb.output, hb.size, fun i hi _ => hb.block i hi⟩ (by simp) (by simp), h.c.keep hb, h.hR⟩
theorem C3.set {w wr : World} {r u ls ls' : List Int} {n L R cnt : Nat} {D : DataW Unit} {left : Lit → Bool} (h : C3 w wr r u n L R D left cnt ls) : C3 w (wr.setRow L (V ls').toArray) r u n L R D left cnt ls' := by
  have hL := h.c.hL; have hR := h.hR
  refine ⟨h.rg.kept (row := some L) ⟨rfl, rfl, rfl, by simp, fun i hi hne => setRow_other wr L i _ (fun e => hne (by rw [e]))⟩ (by simp; omega) (by simp; omega), ⟨h.c.g.rowOther (by omega), h.c.res.rowOther (by omega), h.c.l.row, hL, below_setRow h.c.below (by omega) _⟩, hR⟩
theorem inv_key : ∀ key kl, keyOf Tryz.prog 3 key = some kl → ∃ x, key = Value.int .i64 x := fun key kl h => by
  obtain ⟨x, e, _⟩ := keyOf_int_inv Tryz.underlying3 h; exact ⟨x, e⟩
theorem inv_val : ∀ v y, pElem v = some y → ∃ l : List Int, v = .agg (V l).toArray := fun v y h => by
  obtain ⟨l, e, _⟩ := pElem_inv h; exact ⟨l, e⟩
/-- Which entry has come. -/
theorem came {D : DataW Unit} {n : Nat} {keep : Nat → Bool} {f : Nat → List Int} (h : Holds D n keep f) {x : Int} {l : List Int} {kl : Lit} {y : DataW Unit × List MemPlace} (hk : keyOf Tryz.prog 3 (.int .i64 x) = some kl) (hh : has D kl = true) (hy : pElem (.agg (V l).toArray) = some y) (hat : ∀ zd, D.atKey kl zd = y.1) :
    ∃ i, i < n ∧ keep i = true ∧ x = (i : Int) ∧ kl = kk i ∧ l = f i := by
  obtain ⟨i, hi, ki, rfl⟩ := h.key _ hh
  obtain ⟨x', ex, e, _⟩ := keyOf_int_inv Tryz.underlying3 hk
  injection ex with _ ex
  subst ex
  simp only [kk, Lit.int.injEq, true_and] at e
  rw [pElem_mk] at hy
  have := hat .nil
  rw [h.at_ i hi ki] at this
  rw [← Option.some.inj hy] at this
  exact ⟨i, hi, ki, e.symm, rfl, (dat_inj this).symm⟩
theorem cmp_bef (r u : List Int) (n i j : Nat) (hn : n ≤ 24) : decide (cmpG (ext (Fm r u n (i : Int)).1) (ext (Fm r u n (i : Int)).2) (ext (Fm r u n (j : Int)).1) (ext (Fm r u n (j : Int)).2) < 0) = bef (Fm r u n (i : Int)) (Fm r u n (j : Int)) := by
  rw [cmpG_bef (by rw [ext_len, ext_len]) (by rw [ext_len, ext_len])]
  obtain ⟨a1, a2⟩ := Fm_len r u n (i : Int)
  obtain ⟨b1, b2⟩ := Fm_len r u n (j : Int)
  exact bef_ext (by rw [a1, b1]) (by rw [a2, b2]) (by omega) (by omega)
/-- Whatever is not before a form is not before one that is before it. -/
theorem bef_le {a b c : Sur} (h1 : bef b c = true) (h2 : bef a c = false) : bef a b = false := by
  cases h : bef a b
  · rfl
  · rw [bef_trans h h1] at h2; cases h2
/-- The canonical form, as the program holds it. -/
def cn (r u : List Int) (n : Nat) : List Int := gl (ext (can r u n).1) (ext (can r u n).2) n
theorem cn_len (r u : List Int) (n : Nat) : (cn r u n).length = 49 := gl_len (ext_len _) (ext_len _) _
theorem least_can {r u : List Int} {n j : Nat} (hpos : 0 < n) (hj : j < n) (h : ∀ i, i < n → bef (Fm r u n (i : Int)) (Fm r u n (j : Int)) = false) : Fm r u n (j : Int) = can r u n := by
  obtain ⟨i, hi, e⟩ := can_is (R := r) (U := u) hpos
  obtain ⟨a1, a2⟩ := Fm_len r u n (i : Int)
  obtain ⟨b1, b2⟩ := Fm_len r u n (j : Int)
  refine Classical.byContradiction fun hne => ?_
  rw [e] at hne
  rcases bef_total (by rw [b1, a1]) (by rw [b2, a2]) hne with q | q
  · have := can_min (R := r) (U := u) (n := n) hj
    rw [e, q] at this; cases this
  · rw [h i hi] at q; cases q
theorem eq_frm (r u : List Int) {n i : Nat} (hn : n ≤ 24) (hpos : 0 < n) (w : World) :
    (Op.equalIn 10000 62 (.agg (V (frm r u n i)).toArray) (.agg (V (cn r u n)).toArray)).run Tryz.prog w = .ok (decide (Fm r u n (i : Int) = can r u n)) w := by
  unfold frm cn
  rw [eq_gl (ext_len _) (ext_len _) (ext_len _) (ext_len _)]
  obtain ⟨j, hj, e⟩ := can_is (R := r) (U := u) hpos
  obtain ⟨a1, a2⟩ := Fm_len r u n (i : Int)
  obtain ⟨b1, b2⟩ := Fm_len r u n (j : Int)
  rw [e]
  congr 1
  rw [decide_eq_decide]
  constructor
  · rintro ⟨q1, q2⟩
    exact Prod.ext (ext_inj (by rw [a1, b1]) (by omega) q1) (ext_inj (by rw [a2, b2]) (by omega) q2)
  · intro q; rw [q]; exact ⟨rfl, rfl⟩
theorem sym_count (r u : List Int) (n : Nat) : (List.range n).countP (fun (i : Nat) => decide (Fm r u n (i : Int) = can r u n)) = sym r u n := by
  unfold sym rng
  rw [List.countP_map]
  rfl
set_option maxHeartbeats 4000000 in
theorem canon_any (r u : List Int) (n : Nat) (w : World) (s : Sf n r u) :
    Calls Tryz.prog 67 #[.agg (V (gl (ext r) (ext u) n)).toArray] w fun e w' => ∃ B D m, e = .returned (.tuple #[.agg (V (gl (ext (can r u n).1) (ext (can r u n).2) n)).toArray, .map (some B)]) ∧ w'.ownsMap Tryz.prog 3 pElem B m D ∧ Maps.size D = sym r u n ∧ Below w.heap.size w w' := by
  have hn24 : n ≤ 24 := by have := s.r.len; have := s.lr; omega
  have HS := Lib.hid s; clear s
  have hmm := @run_makeMap Tryz.prog
  have NG : Hid (∀ a b, Arr (((w.alloc (.cells (V (gl (ext r) (ext u) n)).toArray 62)).alloc a).alloc b) w.heap.size (V (gl (ext r) (ext u) n)) 62) := Lib.hid (fun a b => ((Arr.new w _ _ rfl).alloc _).alloc _)
  have cc := fun a b => gl_count (n := n) (ext_len r) (ext_len u) (NG.out a b)
  go_enter Tryz.func67, Tryz.ntmps67
  go_wp2_with fail
  go_loopw [15] (fun i wr => ∃ k : Nat, k ≤ n ∧ i = .int .i64 k ∧ ∃ D, C1 w wr r u n k D) (fun i _ => n - (intOf i).toNat)
  case atStart =>
    refine ⟨0, Nat.zero_le _, rfl, .map [], ?_, ?_, ?_, Holds.empty _ _, ?_⟩
    · exact NG.out _ _
    · exact (Arr.new _ (V zero49) _ (by simp)).alloc _
    · exact made_at (by simp)
    · exact (((Below.refl _ _).alloc (Nat.le_refl _) _).alloc (by simp) _).alloc (by simp; omega) _
  case round =>
    obtain ⟨k, hk, rfl, D, hc⟩ := hrel
    have HC := Lib.hid hc; clear hc cc NG
    have hszw : w.heap.size + 2 < wr.heap.size := HC.out.mp.lt
    by_cases hlt : k < n
    · go_wp2_with (refine wpList_load_row rfl 62 _ rfl w.heap.size rfl 62 (V (gl (ext r) (ext u) n)).toArray (0, 0) _ HC.out.g Tryz.underlying62 rfl (size49 (gl_len (ext_len _) (ext_len _) _)) ?_)
      refine (names_any (ext r) (ext u) n k _ HS.out.r.sq HS.out.u.sq (by omega)).mono ?_
      rintro e w1 ⟨rfl, b1⟩
      have hnf : nmsF (ext r) (ext u) (k : Int) = nf r u k := nmsF_eq HS.out (by omega) (by omega)
      rw [hnf]
      have HC1 := Lib.hid (HC.out.keep b1)
      clear b1 hnf HC
      go_wp2_with (at_mapUpdate; refine wpList_mapUpdate_own _ rfl _ _ _ 92 rfl 3 60 lawI Tryz.underlying92 pElem (w.heap.size + 2) k D rfl HC1.out.mp (by unfold maxLen; omega) _ _ (kk k) rfl rfl (kk_key (by omega)) (dat (nf r u k)) [] (pElem_mk _) ?_; intro w2 hown2 hgrow2)
      have HC2 : Hid (C1 w w2 r u n (k + 1) (D.put (kk k) (dat (nf r u k)))) := Lib.hid (HC1.out.put hown2 hgrow2)
      clear hown2 hgrow2 HC1
      go_roundw
      case rel => exact ⟨k + 1, by omega, by go_num, _, HC2.out⟩
      case measure => simp [intOf]; omega
    · obtain rfl : k = n := by omega
      have hpos := HS.out.pos
      have hlk : (Instr.lookup 92 (.map (some (w.heap.size + 1 + 1))) (.int .i64 0) false).run Tryz.prog wr = .ok (.agg (V (nf r u 0)).toArray) wr := HC.out.look (i := 0) hpos hn24
      go_wp2_with (refine wpList_load_row rfl 62 _ rfl w.heap.size rfl 62 (V (gl (ext r) (ext u) k)).toArray (0, 0) _ HC.out.g Tryz.underlying62 rfl (size49 (gl_len (ext_len _) (ext_len _) _)) ?_)
      refine (renamed_any (ext r) (ext u) (nf r u 0) k _ HS.out.r.sq HS.out.u.sq (nf_sq HS.out hpos)).mono ?_
      rintro e w1 ⟨rfl, b1⟩
      rw [frm_ren HS.out hpos]
      have HC1 := Lib.hid (HC.out.keep b1)
      have hs1 := b1.size
      clear b1 HC hlk
      go_wp2_with (first | (refine wpList_store_row rfl 62 _ _ rfl w1.heap.size (V (frm r u k 0)).toArray rfl rfl 62 (V zero49).toArray (Arr.new w1 (V zero49) _ rfl) (size49 (frm_len _ _ _ _)) (by simp [V_len, frm_len, zero49]) (one_V _) ?_; generalize hw2 : (w1.alloc (.cells #[.int .i64 0, .int .i64 0, .int .i64 0, .int .i64 0, .int .i64 0, .int .i64 0, .int .i64 0, .int .i64 0, .int .i64 0, .int .i64 0, .int .i64 0, .int .i64 0, .int .i64 0, .int .i64 0, .int .i64 0, .int .i64 0, .int .i64 0, .int .i64 0, .int .i64 0, .int .i64 0, .int .i64 0, .int .i64 0, .int .i64 0, .int .i64 0, .int .i64 0, .int .i64 0, .int .i64 0, .int .i64 0, .int .i64 0, .int .i64 0, .int .i64 0, .int .i64 0, .int .i64 0, .int .i64 0, .int .i64 0, .int .i64 0, .int .i64 0, .int .i64 0, .int .i64 0, .int .i64 0, .int .i64 0, .int .i64 0, .int .i64 0, .int .i64 0, .int .i64 0, .int .i64 0, .int .i64 0, .int .i64 0, .int .i64 0] 62)).setRow w1.heap.size (V (frm r u k 0)).toArray = w2; have b2 : Below w1.heap.size w1 w2 := (by rw [← hw2]; exact arr.below_setRow ((Below.refl _ _).alloc (Nat.le_refl _) _) (Nat.le_refl _) _); have A2 : Hid (Arr w2 w1.heap.size (V (frm r u k 0)) 62) := Lib.hid (by rw [← hw2]; exact (Arr.new w1 (V zero49) _ rfl).row); have HC2 := Lib.hid (HC1.out.keep b2); clear hw2 b2 HC1) | (at_range; refine wpList_range_own _ rfl _ 92 rfl 3 60 lawI Tryz.underlying92 pElem (w.heap.size + 2) k D rfl HC2.out.mp ?_; intro w3 hrg0 hg0 hs0; go_frame) | fail)
      have HH := Lib.hid HC2.out.holds
      have HB0 : Hid (C3 w w3 r u k w1.heap.size w2.heap.size D (has D) (size D) (frm r u k 0)) := Lib.hid ⟨hrg0, (C2.mk HC2.out.g HC2.out.res A2.out (by omega) HC2.out.below).grown hg0 (fun k hk => by cases hk), A2.out.lt⟩
      clear hg0 hs0 hrg0 HC2 A2
      generalize w2.heap.size = R at *
      generalize w1.heap.size = L at *
      go_loopw [33] (fun _ wr => ∃ (left : Lit → Bool) (cnt j : Nat), C3 w wr r u k L R D left cnt (frm r u k j) ∧ j < k ∧ (∀ kl, left kl = true → has D kl = true) ∧ (∀ i, i < k → left (kk i) = false → bef (Fm r u k (i : Int)) (Fm r u k (j : Int)) = false)) (fun _ wr => wr.rangeLeft (w.heap.size + 2) R)
      case atStart => exact ⟨_, _, 0, HB0.out, hpos, fun kl h => h, fun i hi h => by rw [HH.out.has_ i hi rfl] at h; cases h⟩
      case round =>
        obtain ⟨left, cnt, j, hc3, hj, hsub, hmin⟩ := hrel
        have H3 := Lib.hid hc3; have HSUB := Lib.hid hsub; have HMIN := Lib.hid hmin
        clear hc3 hsub hmin HB0
        go_wp2_with (first | (at_next; refine wpList_next_ranges _ rfl _ rfl 3 lawI pElem (Value.int .i64) (fun l : List Int => .agg (V l).toArray) inv_key inv_val (w.heap.size + 2) R k D left cnt rfl H3.out.rg ?_ ?_) | fail)
        · intro hc0 hl0
          have HF : Hid (Fm r u k (j : Int) = can r u k) := Lib.hid (least_can hpos hj (fun i hi => HMIN.out i hi (hl0 _)))
          have HLS : Hid (frm r u k j = cn r u k) := Lib.hid (by unfold frm cn; rw [HF.out])
          rw [HLS.out] at H3
          clear hc0 hl0 HMIN HSUB HLS
          go_wp2_with (first | (at_range; refine wpList_range_own _ rfl _ 92 rfl 3 60 lawI Tryz.underlying92 pElem (w.heap.size + 2) k D rfl H3.out.rg.owns ?_; intro w3 hrg0 hg0 hs0; go_frame) | fail)
          have HC0 : Hid (C3 w w3 r u k L wr.heap.size D (has D) (size D) (cn r u k)) := Lib.hid ⟨hrg0, H3.out.c.grown hg0 (fun k hk => by cases hk), H3.out.c.l.lt⟩
          have HH0 : Hid (Holds D k (fun i => has D (kk i) || decide (Fm r u k (i : Int) = can r u k)) (nf r u)) := Lib.hid (HH.out.congr (fun i hi => by rw [HH.out.has_ i hi rfl]; rfl))
          clear hg0 hs0 hrg0 H3 HH HF
          generalize wr.heap.size = R2 at *
          go_loopw [47] (fun _ wr => ∃ (left : Lit → Bool) (cnt : Nat) (D' : DataW Unit), C3 w wr r u k L R2 D' left cnt (cn r u k) ∧ (∀ kl, left kl = true → has D' kl = true) ∧ Holds D' k (fun i => left (kk i) || decide (Fm r u k (i : Int) = can r u k)) (nf r u)) (fun _ wr => wr.rangeLeft (w.heap.size + 2) R2)
          case atStart => exact ⟨_, _, _, HC0.out, fun kl h => h, HH0.out⟩
          case round =>
            obtain ⟨left, cnt, D', hc3, hsub, hhold⟩ := hrel
            have H3 := Lib.hid hc3; have HSUB := Lib.hid hsub; have HH := Lib.hid hhold
            clear hc3 hsub hhold HC0 HH0
            go_wp2_with (first | (at_next; refine wpList_next_ranges _ rfl _ rfl 3 lawI pElem (Value.int .i64) (fun l : List Int => .agg (V l).toArray) inv_key inv_val (w.heap.size + 2) R2 k D' left cnt rfl H3.out.rg ?_ ?_) | fail)
            · intro hc0 hl0
              have HSZ : Hid (Maps.size D' = sym r u k) := Lib.hid (by
                obtain ⟨es, e1, e2, e3⟩ := H3.out.rg.owns.entries lawI
                rw [(HH.out.congr (keep' := fun (i : Nat) => decide (Fm r u k (i : Int) = can r u k)) (fun i hi => by rw [hl0]; simp)).size e1 e2 e3]
                exact sym_count r u k)
              clear hc0 hl0
              go_wp2_with (first | (refine wpList_load_row rfl 62 _ rfl L rfl 62 (V (cn r u k)).toArray (0, 0) _ H3.out.c.l Tryz.underlying62 rfl (size49 (cn_len _ _ _)) ?_) | (refine wpList_store_row rfl 62 _ _ rfl (w.heap.size + 1) (V (cn r u k)).toArray rfl rfl 62 (V zero49).toArray H3.out.c.res (size49 (cn_len _ _ _)) (by simp [V_len, cn_len, zero49]) (one_V _) ?_) | fail)
              exact bodyPost_ret (v := .tuple #[.agg (V (cn r u k)).toArray, .map (some (w.heap.size + 2))]) (permOf.results_cell_tmp rfl _ _ (w.heap.size + 1) 62 (V (cn r u k)).toArray (0, 0) _ _ rfl rfl H3.out.c.res.row Tryz.underlying62 rfl (size49 (cn_len _ _ _))) rfl
                ⟨w.heap.size + 2, D', k, rfl, H3.out.rg.owns.kept (row := some (w.heap.size + 1)) ⟨rfl, rfl, rfl, by simp, fun i hi hne => setRow_other _ _ i _ (fun e => hne (by rw [e]))⟩ (by simp), HSZ.out, below_setRow H3.out.c.below (by omega) _⟩
            · intro x l kl y ps w4 cnt1 hkx hlk hy hat hrg1 hltc hg1 hs1 hen
              obtain ⟨i, hi, _, rfl, rfl, rfl⟩ := came HH.out hkx (HSUB.out _ hlk) hy hat
              have H4 : Hid (C3 w w4 r u k L R2 D' (fun z => left z && !z.sameKey (kk i)) cnt1 (cn r u k)) := Lib.hid ⟨hrg1, H3.out.c.grown hg1 (fun q hq => by injection hq with e; exact .inr (by have := H3.out.hR; omega)), H3.out.hR⟩
              have HLK := Lib.hid hlk
              clear hkx hlk hy hat hrg1 hg1 hs1
              generalize hlf : (fun z => left z && !z.sameKey (kk i)) = lf at H4
              have HLF : Hid (∀ kl, lf kl = (left kl && !kl.sameKey (kk i))) := Lib.hid (fun kl => by rw [← hlf])
              clear hlf
              go_wp2_with (first | (refine wpList_store_row rfl 60 _ _ rfl w4.heap.size (V (nf r u i)).toArray rfl rfl 60 (V zeros).toArray (Arr.new w4 (V zeros) _ rfl) (size_V (ext_len _)) (by simp [V_len, nf, ext_len, zeros]) (one_V _) ?_; generalize hw5 : (w4.alloc (.cells #[.int .i64 0, .int .i64 0, .int .i64 0, .int .i64 0, .int .i64 0, .int .i64 0, .int .i64 0, .int .i64 0, .int .i64 0, .int .i64 0, .int .i64 0, .int .i64 0, .int .i64 0, .int .i64 0, .int .i64 0, .int .i64 0, .int .i64 0, .int .i64 0, .int .i64 0, .int .i64 0, .int .i64 0, .int .i64 0, .int .i64 0, .int .i64 0] 60)).setRow w4.heap.size (V (nf r u i)).toArray = w5; have b2 : Below w4.heap.size w4 w5 := (by rw [← hw5]; exact arr.below_setRow ((Below.refl _ _).alloc (Nat.le_refl _) _) (Nat.le_refl _) _); have A8 : Hid (Arr w5 w4.heap.size (V (nf r u i)) 60) := Lib.hid (by rw [← hw5]; exact (Arr.new w4 (V zeros) _ rfl).row); replace H4 := Lib.hid (H4.out.keep b2); clear hw5 b2) | fail)
              refine wp_region_held_drew (S := Hld w5.heap.size w5.heap.size w5 [(w.heap.size, V (gl (ext r) (ext u) k)), (w4.heap.size, V (nf r u i)), (L, V (cn r u k))]) (by kernel_rfl) (Hld.start3 H4.out.c.g A8.out H4.out.c.l) (fun hHeld => ?_)
              have b1 := hHeld.below
              generalize w5.drew = w6 at *
              replace H4 := Lib.hid (H4.out.keep b1)
              clear b1 A8 hen
              refine wpAnyH_take (i := 0) (v := .agg (V (gl (ext r) (ext u) k)).toArray) rfl (by kernel_rfl) (by kernel_rfl) (by kernel_rfl) (fun _ _ _ h => h) (yieldsIf_load_mid (by rfl) _ _ rfl w.heap.size 0 rfl (V (gl (ext r) (ext u) k)) _ (fun w h => h.fst) Tryz.underlying62 rfl (hi49 (gl_len (ext_len _) (ext_len _) _))) hHeld ?_
              refine wpAnyH_take (i := 1) (v := .agg (V (nf r u i)).toArray) rfl (by kernel_rfl) (by kernel_rfl) (by kernel_rfl) (fun _ _ _ h => h) (yieldsIf_load_mid (by rfl) _ _ rfl w4.heap.size 0 rfl (V (nf r u i)) _ (fun w h => h.snd) Tryz.underlying60 rfl (hi24 (ext_len _))) hHeld ?_
              refine wpAnyH_take (i := 3) (v := .agg (V (cn r u k)).toArray) rfl (by kernel_rfl) (by kernel_rfl) (by kernel_rfl) (fun _ _ _ h => h) (yieldsIf_load_mid (by rfl) _ _ rfl L 0 rfl (V (cn r u k)) _ (fun w h => h.trd) Tryz.underlying62 rfl (hi49 (cn_len _ _ _))) hHeld ?_
              refine wpAnyH_ready (rs := [2]) (by kernel_rfl) (by simp) (AllReadyH.cons rfl (fun K hK => ?_) AllReadyH.nil)
              go_simp
              refine (renamed_any (ext r) (ext u) (nf r u i) k _ HS.out.r.sq HS.out.u.sq (nf_sq HS.out hi)).mono ?_
              rintro e w7 ⟨rfl, b1⟩
              rw [frm_ren HS.out hi]
              replace H4 := Lib.hid (H4.out.keep b1)
              go_wp2_with fail
              have hHeld2 := hHeld.later b1 (Nat.le_refl _); clear b1 hHeld
              refine hK.out _ _ hHeld2 (fun hHeld => ?_)
              clear hK K hHeld2
              have heq := eq_frm r u (i := i) hn24 hpos w7
              refine wpAnyH_ready (rs := [4]) (by kernel_rfl) (by simp) (AllReadyH.cons rfl (fun K hK => ?_) AllReadyH.nil)
              refine step_cmp_gl rfl _ _ _ rfl _ _ rfl rfl _ heq ?_
              change K (Act.put _ (some 53) _) _
              simp only [Act.put, List.setIfInBounds_toArray, List.set_cons_zero, List.set_cons_succ]
              refine hK.out _ _ hHeld (fun hHeld2 => ?_)
              clear hK K hHeld hHeld2 heq
              refine wpAnyH_done (by kernel_rfl) ?_ _
              by_cases hf : Fm r u k (i : Int) = can r u k
              · have HFC := Lib.hid hf
                have hd : decide (Fm r u k (i : Int) = can r u k) = true := decide_eq_true hf
                rw [hd]
                clear hf hd
                go_wp2_with fail
                go_roundw
                case rel => exact ⟨lf, cnt1, D', H4.out, fun kl h => HSUB.out kl (by rw [HLF.out] at h; simp at h; exact h.1), HH.out.congr (fun i' hi' => by
                  rw [HLF.out]
                  by_cases e : i' = i
                  · subst e; rw [decide_eq_true HFC.out, HLK.out]; simp
                  · rw [sameKey_ne (fun e2 => e (kk_inj e2))]; simp)⟩
                case measure => rw [H4.out.rg.left_eq, H3.out.rg.left_eq]; exact hltc
              · have HFC := Lib.hid hf
                have hd : decide (Fm r u k (i : Int) = can r u k) = false := decide_eq_false hf
                rw [hd]
                clear hf hd
                go_wp2_with (first | (at_delete; refine wpList_delete_ranges _ rfl _ _ 92 3 rfl 60 lawI Tryz.underlying92 pElem (w.heap.size + 2) R2 k D' lf cnt1 rfl H4.out.rg _ (kk i) rfl (kk_key (by omega)) ?_; intro w8 cnt2 hrg2 hle hturn; go_frame) | fail)
                have e2 : (fun z => lf z && !z.sameKey (kk i)) = lf := by
                  funext z
                  rw [HLF.out]
                  cases left z <;> cases z.sameKey (kk i) <;> rfl
                rw [e2] at hrg2
                have H5 : Hid (C3 w w8 r u k L R2 (D'.del (kk i)) lf cnt2 (cn r u k)) := Lib.hid ⟨hrg2, H4.out.c.grown hturn.grown (fun q hq => by injection hq with e; exact .inl e.symm), H4.out.hR⟩
                clear hrg2 hturn
                go_roundw
                case rel => exact ⟨lf, cnt2, _, H5.out, fun kl h => by
                  rw [HLF.out] at h
                  simp only [Bool.and_eq_true, Bool.not_eq_true'] at h
                  rw [has_del_other (fun e => by subst e; rw [WideAt.sameKey_self (kk_lit i)] at h; cases h.2)]
                  exact HSUB.out kl h.1, HH.out.del (fun i' hi' e => by rw [HLF.out, sameKey_ne (fun e2 => e (kk_inj e2))]; simp) (by rw [HLF.out, WideAt.sameKey_self (kk_lit i), decide_eq_false HFC.out]; simp)⟩
                case measure => rw [H5.out.rg.left_eq, H3.out.rg.left_eq]; omega
        · intro x l kl y ps w4 cnt1 hkx hlk hy hat hrg1 hltc hg1 hs1 hen
          obtain ⟨i, hi, _, rfl, rfl, rfl⟩ := came HH.out hkx (HSUB.out _ hlk) hy hat
          have H4 : Hid (C3 w w4 r u k L R D (fun z => left z && !z.sameKey (kk i)) cnt1 (frm r u k j)) := Lib.hid ⟨hrg1, H3.out.c.grown hg1 (fun q hq => by injection hq with e; exact .inr (by have := H3.out.hR; omega)), H3.out.hR⟩
          clear hkx hlk hy hat hrg1 hg1 hs1
          generalize hlf : (fun z => left z && !z.sameKey (kk i)) = lf at H4
          have HLF : Hid (∀ kl, lf kl = (left kl && !kl.sameKey (kk i))) := Lib.hid (fun kl => by rw [← hlf])
          clear hlf
          go_wp2_with (first | (refine wpList_store_row rfl 60 _ _ rfl w4.heap.size (V (nf r u i)).toArray rfl rfl 60 (V zeros).toArray (Arr.new w4 (V zeros) _ rfl) (size_V (ext_len _)) (by simp [V_len, nf, ext_len, zeros]) (one_V _) ?_; generalize hw5 : (w4.alloc (.cells #[.int .i64 0, .int .i64 0, .int .i64 0, .int .i64 0, .int .i64 0, .int .i64 0, .int .i64 0, .int .i64 0, .int .i64 0, .int .i64 0, .int .i64 0, .int .i64 0, .int .i64 0, .int .i64 0, .int .i64 0, .int .i64 0, .int .i64 0, .int .i64 0, .int .i64 0, .int .i64 0, .int .i64 0, .int .i64 0, .int .i64 0, .int .i64 0] 60)).setRow w4.heap.size (V (nf r u i)).toArray = w5; have b2 : Below w4.heap.size w4 w5 := (by rw [← hw5]; exact arr.below_setRow ((Below.refl _ _).alloc (Nat.le_refl _) _) (Nat.le_refl _) _); have A8 : Hid (Arr w5 w4.heap.size (V (nf r u i)) 60) := Lib.hid (by rw [← hw5]; exact (Arr.new w4 (V zeros) _ rfl).row); replace H4 := Lib.hid (H4.out.keep b2); clear hw5 b2) | (refine wpList_load_row rfl 62 _ rfl w.heap.size rfl 62 (V (gl (ext r) (ext u) k)).toArray (0, 0) _ H4.out.c.g Tryz.underlying62 rfl (size49 (gl_len (ext_len _) (ext_len _) _)) ?_) | (refine wpList_load_row rfl 60 _ rfl w4.heap.size rfl 60 (V (nf r u i)).toArray (0, 0) _ A8.out Tryz.underlying60 rfl (size_V (ext_len _)) ?_) | fail)
          refine (renamed_any (ext r) (ext u) (nf r u i) k _ HS.out.r.sq HS.out.u.sq (nf_sq HS.out hi)).mono ?_
          rintro e w6 ⟨rfl, b1⟩
          rw [frm_ren HS.out hi]
          replace H4 := Lib.hid (H4.out.keep b1)
          clear b1 A8 hen
          go_wp2_with (first | (refine wpList_store_row rfl 62 _ _ rfl w6.heap.size (V (frm r u k i)).toArray rfl rfl 62 (V zero49).toArray (Arr.new w6 (V zero49) _ rfl) (size49 (frm_len _ _ _ _)) (by simp [V_len, frm_len, zero49]) (one_V _) ?_; generalize hw7 : (w6.alloc (.cells #[.int .i64 0, .int .i64 0, .int .i64 0, .int .i64 0, .int .i64 0, .int .i64 0, .int .i64 0, .int .i64 0, .int .i64 0, .int .i64 0, .int .i64 0, .int .i64 0, .int .i64 0, .int .i64 0, .int .i64 0, .int .i64 0, .int .i64 0, .int .i64 0, .int .i64 0, .int .i64 0, .int .i64 0, .int .i64 0, .int .i64 0, .int .i64 0, .int .i64 0, .int .i64 0, .int .i64 0, .int .i64 0, .int .i64 0, .int .i64 0, .int .i64 0, .int .i64 0, .int .i64 0, .int .i64 0, .int .i64 0, .int .i64 0, .int .i64 0, .int .i64 0, .int .i64 0, .int .i64 0, .int .i64 0, .int .i64 0, .int .i64 0, .int .i64 0, .int .i64 0, .int .i64 0, .int .i64 0, .int .i64 0, .int .i64 0] 62)).setRow w6.heap.size (V (frm r u k i)).toArray = w7; have b2 : Below w6.heap.size w6 w7 := (by rw [← hw7]; exact arr.below_setRow ((Below.refl _ _).alloc (Nat.le_refl _) _) (Nat.le_refl _) _); have A9 : Hid (Arr w7 w6.heap.size (V (frm r u k i)) 62) := Lib.hid (by rw [← hw7]; exact (Arr.new w6 (V zero49) _ rfl).row); replace H4 := Lib.hid (H4.out.keep b2); clear hw7 b2) | (refine wpList_load_row rfl 62 (.tmp 9) rfl w6.heap.size rfl 62 (V (frm r u k i)).toArray (0, 0) _ A9.out Tryz.underlying62 rfl (size49 (frm_len _ _ _ _)) ?_) | (refine wpList_load_row rfl 62 (.tmp 6) rfl L rfl 62 (V (frm r u k j)).toArray (0, 0) _ H4.out.c.l Tryz.underlying62 rfl (size49 (frm_len _ _ _ _)) ?_) | fail)
          refine (compare_any (ext (Fm r u k (i : Int)).1) (ext (Fm r u k (i : Int)).2) (ext (Fm r u k (j : Int)).1) (ext (Fm r u k (j : Int)).2) k k _ (ext_len _) (ext_len _) (ext_len _) (ext_len _)).mono ?_
          rintro e w8 ⟨rfl, b1⟩
          replace H4 := Lib.hid (H4.out.keep b1)
          replace A9 := Lib.hid (A9.out.keep b1 A9.out.lt)
          clear b1
          have hcb := cmp_bef r u k i j hn24
          generalize cmpG (ext (Fm r u k (i : Int)).1) (ext (Fm r u k (i : Int)).2) (ext (Fm r u k (j : Int)).1) (ext (Fm r u k (j : Int)).2) = cg at *
          by_cases hb : bef (Fm r u k (i : Int)) (Fm r u k (j : Int)) = true
          · rw [hb] at hcb
            have HBF := Lib.hid hb; clear hb
            go_wp2_with (first | (refine wpList_load_row rfl 62 (.tmp 9) rfl w6.heap.size rfl 62 (V (frm r u k i)).toArray (0, 0) _ A9.out Tryz.underlying62 rfl (size49 (frm_len _ _ _ _)) ?_) | (refine wpList_store_row rfl 62 _ _ rfl L (V (frm r u k i)).toArray rfl rfl 62 (V (frm r u k j)).toArray H4.out.c.l (size49 (frm_len _ _ _ _)) (by simp [V_len, frm_len]) (one_V _) ?_; go_frame) | fail)
            have H5 := Lib.hid (H4.out.set (ls' := frm r u k i))
            go_roundw
            case rel => exact ⟨lf, cnt1, i, H5.out, hi, fun kl h => HSUB.out kl (by rw [HLF.out] at h; simp at h; exact h.1), fun i' hi' h => by
              rw [HLF.out] at h
              rcases Bool.and_eq_false_iff.1 h with h | h
              · exact bef_le HBF.out (HMIN.out i' hi' h)
              · have := kk_inj (WideAt.sameKey_eq (by simpa using h)); subst this; exact bef_irr _⟩
            case measure => rw [H5.out.rg.left_eq, H3.out.rg.left_eq]; exact hltc
          · have hb' : bef (Fm r u k (i : Int)) (Fm r u k (j : Int)) = false := by simpa using hb
            rw [hb'] at hcb
            have HBF := Lib.hid hb'; clear hb hb'
            go_wp2_with fail
            go_roundw
            case rel => exact ⟨lf, cnt1, j, H4.out, hj, fun kl h => HSUB.out kl (by rw [HLF.out] at h; simp at h; exact h.1), fun i' hi' h => by
              rw [HLF.out] at h
              rcases Bool.and_eq_false_iff.1 h with h | h
              · exact HMIN.out i' hi' h
              · have := kk_inj (WideAt.sameKey_eq (by simpa using h)); subst this; exact HBF.out⟩
            case measure => rw [H4.out.rg.left_eq, H3.out.rg.left_eq]; exact hltc
end Go.Proofs.YtpmojmhamgcfmaaGreat.gl

/-
  RenameSurface, of the model and of the program.
-/
namespace Go.Proofs.YtpmojmhamgcfmaaGreat.gl
open Go.ChangeShapes Go.WideShapes Go.ChangeAt Go.RowKit
open Go.Proofs.YtpmojmhamgcfmaaGreat.mem Go.Proofs.YtpmojmhamgcfmaaGreat.ints Go.Proofs.YtpmojmhamgcfmaaGreat.arr Go.Proofs.YtpmojmhamgcfmaaGreat.pm Go.Proofs.YtpmojmhamgcfmaaGreat.permOk Go.Proofs.YtpmojmhamgcfmaaGreat.permOf Go.Proofs.YtpmojmhamgcfmaaGreat.inv Go.Proofs.YtpmojmhamgcfmaaGreat.fns Go.Proofs.YtpmojmhamgcfmaaGreat.sf
set_option linter.unusedVariables false
set_option maxRecDepth 100000

/-- A surface and a bool. -/
def SB (r u : List Int) (b : Bool) (w : World) (e : Ending) (w' : World) : Prop := ∃ g, e = .returned (.tuple #[g, .bool b]) ∧ Svl w' w.heap.size w'.heap.size g r u ∧ Below w.heap.size w w'
theorem built2 : Tryz.prog.built 31 [] = some #[.slice none 0 0, .slice none 0 0] := by kernel_rfl
theorem sb_nil {w w1 : World} {b : Bool} {r u : List Int} (hr : r = []) (hu : u = []) (hb : b = false) (h : Below w.heap.size w w1) : SB r u b w (.returned (.tuple #[.agg #[.slice none 0 0, .slice none 0 0], .bool false])) w1 := by
  subst hr; subst hu; subst hb
  exact ⟨_, rfl, Svl.nil _ _ _ (Nat.le_refl _) h.size, h⟩
theorem Svl.row {w : World} {lo hi g : Nat} {v : Value} {r u : List Int} (h : Svl w lo hi v r u) (hg : g < lo) (cs : Array Value) : Svl (w.setRow g cs) lo hi v r u :=
  h.out ((Out.refl 0 (g + 1) w).row_ (Nat.zero_le _) (Nat.lt_succ_self _) cs) (.inr (by omega))
def rsB (r u ns : List Int) : Bool := transB r u && okB ns && decide (ns.length = r.length)
def rsR (r u ns : List Int) : List Int := if rsB r u ns then renTo r.length r ns r.length else []
def rsU (r u ns : List Int) : List Int := if rsB r u ns then renTo r.length u ns r.length else []
theorem rsB_iff {r u ns : List Int} : rsB r u ns = true ↔ transB r u = true ∧ okB ns = true ∧ ns.length = r.length := by simp [rsB, and_assoc]
theorem rs_no {r u ns : List Int} (h : ¬ (transB r u = true ∧ okB ns = true ∧ ns.length = r.length)) : rsR r u ns = [] ∧ rsU r u ns = [] ∧ rsB r u ns = false := by
  have : rsB r u ns = false := by rw [← Bool.not_eq_true, rsB_iff]; exact h
  simp [rsR, rsU, this]
theorem rs_yes {r u ns : List Int} (h : transB r u = true) (h2 : okB ns = true) (h3 : ns.length = r.length) : rsR r u ns = renTo r.length r ns r.length ∧ rsU r u ns = renTo r.length u ns r.length ∧ rsB r u ns = true := by
  have : rsB r u ns = true := rsB_iff.2 ⟨h, h2, h3⟩
  simp [rsR, rsU, this]
theorem rsR_len (r u ns : List Int) : (rsR r u ns).length ≤ 1048576 := by
  unfold rsR; split
  · rename_i h; have := (transB_iff.1 (rsB_iff.1 h).1).r.len; rw [renTo_len]; omega
  · simp
theorem rsU_len (r u ns : List Int) : (rsU r u ns).length ≤ 1048576 := by
  unfold rsU; split
  · rename_i h; have := (transB_iff.1 (rsB_iff.1 h).1).r.len; rw [renTo_len]; omega
  · simp

end Go.Proofs.YtpmojmhamgcfmaaGreat.gl

/-
  RenameSurface of the program.
-/
namespace Go.Proofs.YtpmojmhamgcfmaaGreat.gl
open Go.ChangeShapes Go.WideShapes Go.ChangeAt Go.RowKit
open Go.Proofs.YtpmojmhamgcfmaaGreat.mem Go.Proofs.YtpmojmhamgcfmaaGreat.ints Go.Proofs.YtpmojmhamgcfmaaGreat.arr Go.Proofs.YtpmojmhamgcfmaaGreat.pm Go.Proofs.YtpmojmhamgcfmaaGreat.permOk Go.Proofs.YtpmojmhamgcfmaaGreat.permOf Go.Proofs.YtpmojmhamgcfmaaGreat.inv Go.Proofs.YtpmojmhamgcfmaaGreat.fns Go.Proofs.YtpmojmhamgcfmaaGreat.sf
set_option linter.unusedVariables false
set_option maxRecDepth 100000

theorem take_ren24 {n : Nat} {xs ys : List Int} (h : Ok xs) (h' : Ok ys) (lx : xs.length = n) (ly : ys.length = n) : (ren24 (ext xs) (ext ys)).take n = renTo n xs ys n := by
  rw [ren24_ext h h' lx ly]
  have e := ext_take (renTo n xs ys n) (by rw [renTo_len]; have := h.len; omega)
  rwa [renTo_len] at e

end Go.Proofs.YtpmojmhamgcfmaaGreat.gl

/-
  CanonOf, CountSymmetries and AreIsomorphic of the program.
-/
namespace Go.Proofs.YtpmojmhamgcfmaaGreat.gl
open Go.ChangeShapes Go.WideShapes Go.ChangeAt Go.RowKit
open Go.Proofs.YtpmojmhamgcfmaaGreat.mem Go.Proofs.YtpmojmhamgcfmaaGreat.ints Go.Proofs.YtpmojmhamgcfmaaGreat.arr Go.Proofs.YtpmojmhamgcfmaaGreat.pm Go.Proofs.YtpmojmhamgcfmaaGreat.permOk Go.Proofs.YtpmojmhamgcfmaaGreat.permOf Go.Proofs.YtpmojmhamgcfmaaGreat.inv Go.Proofs.YtpmojmhamgcfmaaGreat.fns Go.Proofs.YtpmojmhamgcfmaaGreat.sf
set_option linter.unusedVariables false
set_option maxRecDepth 100000

/-- What CanonOf gives. -/
def cfR (r u : List Int) : List Int := if transB r u then (can r u r.length).1 else []
def cfU (r u : List Int) : List Int := if transB r u then (can r u r.length).2 else []
theorem can_len (r u : List Int) {n : Nat} (h : 0 < n) : (can r u n).1.length = n ∧ (can r u n).2.length = n := by
  obtain ⟨j, hj, e⟩ := can_is (R := r) (U := u) h
  rw [e]; exact Fm_len _ _ _ _
theorem cf_yes {r u : List Int} (h : transB r u = true) : cfR r u = (can r u r.length).1 ∧ cfU r u = (can r u r.length).2 := by simp [cfR, cfU, h]
theorem cf_no {r u : List Int} (h : transB r u = false) : cfR r u = [] ∧ cfU r u = [] := by simp [cfR, cfU, h]
theorem cfR_len (r u : List Int) : (cfR r u).length ≤ 1048576 := by
  unfold cfR; split
  · rename_i h; have s := transB_iff.1 h; rw [(can_len r u s.pos).1]; have := s.r.len; omega
  · simp
theorem cfU_len (r u : List Int) : (cfU r u).length ≤ 1048576 := by
  unfold cfU; split
  · rename_i h; have s := transB_iff.1 h; rw [(can_len r u s.pos).2]; have := s.r.len; omega
  · simp
def csF (r u : List Int) : Int := if transB r u then (sym r u r.length : Int) else 0
theorem cs_yes {r u : List Int} (h : transB r u = true) : csF r u = (sym r u r.length : Int) := by simp [csF, h]
theorem cs_no {r u : List Int} (h : transB r u = false) : csF r u = 0 := by simp [csF, h]

end Go.Proofs.YtpmojmhamgcfmaaGreat.gl
