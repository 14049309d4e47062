import Derived.Test.YtkkklpchkkdhfaaY13
/-
  The program's PathSquares and Visits.
-/
namespace Go.Proofs.Ytkkklpchkkdhfaa.pth
open Go.ChangeShapes Go.WideShapes Go.ChangeAt Go.RowKit
open Go.Proofs.Ytkkklpchkkdhfaa.mem Go.Proofs.Ytkkklpchkkdhfaa.ints Go.Proofs.Ytkkklpchkkdhfaa.arr Go.Proofs.Ytkkklpchkkdhfaa.pm Go.Proofs.Ytkkklpchkkdhfaa.permOk Go.Proofs.Ytkkklpchkkdhfaa.permOf Go.Proofs.Ytkkklpchkkdhfaa.inv Go.Proofs.Ytkkklpchkkdhfaa.fns Go.Proofs.Ytkkklpchkkdhfaa.sf Go.Proofs.Ytkkklpchkkdhfaa.gl Go.Proofs.Ytkkklpchkkdhfaa.dr
set_option linter.unusedVariables false
set_option maxRecDepth 100000
set_option linter.unusedSimpArgs false
theorem bg_in (r u : List Int) (i p q : Int) : ∀ x ∈ bgF r u i p q, 0 ≤ x ∧ x < r.length := by
  unfold bgF
  cases h : okQ r u i p q
  · simp
  · obtain ⟨s, ⟨i0, i1⟩, _⟩ := okQ_facts h
    intro x hx
    rw [if_pos rfl] at hx
    exact ⟨(cyc_way (pe_bij h) i0 i1).inn.lo x hx, (cyc_way (pe_bij h) i0 i1).inn.hi x hx⟩
theorem sq_bg (r u : List Int) (i p q : Int) : sqM r u (bwL r u i p q) (bgF r u i p q) = psF r u i p q := by
  cases h : okQ r u i p q
  · rw [ps_no h]; simp [bgF, h, sqM]
  · obtain ⟨s, ⟨i0, i1⟩, _⟩ := okQ_facts h
    have hw := cyc_way (pe_bij h) i0 i1
    rw [ps_yes h]
    have hl := bg_len r u i p q
    have hb : bgF r u i p q = cyc (peF r u p q) r.length i := by simp [bgF, h]
    have hL : bwL r u i p q = swL p.toNat q.toNat := by simp [bwL, h]
    rw [← hl, hb, hL]
    generalize cyc (peF r u p q) r.length i = C at *
    have : ∀ k, k ≤ C.length → sqM r u (swL p.toNat q.toNat) (C.take k) = psK r u (swL p.toNat q.toNat) (peF r u p q) i k := by
      intro k
      induction k with
      | zero => intro _; rfl
      | succ k ih =>
        intro hk
        have hg := way_it hw k (by omega)
        rw [List.getD_eq_getElem?_getD, List.getElem?_eq_getElem (by omega)] at hg
        rw [List.take_add_one, List.getElem?_eq_getElem (by omega)]
        rw [show (some C[k]).toList = [C[k]] from rfl, sqM_snoc, ih (by omega), psK]
        rw [show C[k] = it (peF r u p q) i k from hg]
    have e := this C.length (Nat.le_refl _)
    rwa [List.take_length] at e
theorem viF_len (r u : List Int) (i p q : Int) : (viF r u i p q).length ≤ 1048576 := by
  cases h : okQ r u i p q
  · rw [vi_no h]; simp
  · rw [vi_yes h, vsK_len]; have := (okQ_facts h).1.small; omega
theorem pL_count {w : World} {b : Nat} {G p q : List Int} {n : Nat} {W : ByteArray} {B : Value} {t : TypeId} (hG : G = gl (ext p) (ext q) n) (h : Arr w b (pL G W B) t) : w.cell? ⟨b, 48, none⟩ = some (.int .i64 n) := by
  refine h.cell ?_
  subst hG
  unfold pL gl
  rw [List.getElem?_append_left (by rw [V_len]; simp [ext_len])]
  unfold V
  rw [List.map_append, List.getElem?_append_right (by simp [ext_len])]
  simp [ext_len]

set_option maxHeartbeats 4000000 in
theorem ps_impl (v : Value) (r u : List Int) (i p q : Int) (hi : Nat) (w : World) (hx : Srd w hi v r u) (hn : r.length ≤ 1048576) (hm : u.length ≤ 1048576) (i0 : -9223372036854775808 ≤ i) (i1 : i ≤ 9223372036854775807) (p0 : -9223372036854775808 ≤ p) (p1 : p ≤ 9223372036854775807) (q0 : -9223372036854775808 ≤ q) (q1' : q ≤ 9223372036854775807) :
    Calls Try.prog 17 #[v, .int .i64 i, .int .i64 p, .int .i64 q] w (PSPost r u i p q w) := by
  have HX := Lib.hid hx; clear hx
  obtain ⟨P, n, c, Q, m, d, rfl, q1, q2, e1, e2, ht, HR⟩ := HX.out.open
  clear HR q1 q2
  have hK24 := rd_le r u i p q
  have hL12 := bw_len r u i p q
  go_enter Try.func17, Try.ntmps17
  go_wp2_with fail
  refine (pa_impl _ r u i p q hi _ (HX.out.keep ((Below.refl hi w).alloc ht _) (Nat.le_refl _)) hn hm i0 i1 p0 p1 q0 q1').mono ?_
  rintro e w1 ⟨G, A, c1, hG, hGo, rfl, o1, b1⟩
  have hs1 : w.heap.size + 1 ≤ w1.heap.size := by have := b1.size; simpa using this
  have B1 := Lib.hid (below1 _ _ b1)
  clear b1
  have OB := Lib.hid (Row.of_own o1).rd
  have GO := Lib.hid hGo
  have SQB := Lib.hid (sq_bg r u i p q)
  have BIN := Lib.hid (bg_in r u i p q)
  have HWC : Hid (∀ c ∈ bwL r u i p q, c = 114 ∨ c = 117) := Lib.hid (by unfold bwL; intro c hc; split at hc; exact swL_or hc; simp at hc)
  have HK : Hid ((bgF r u i p q).length = 0 ∨ (Sf r.length r u ∧ G = gl (ext r) (ext u) r.length)) := Lib.hid (by
    cases h : okQ r u i p q
    · left; simp [bgF, h]
    · right; exact ⟨(okQ_facts h).1, GO.out h⟩)
  have hB24 : (bgF r u i p q).length ≤ 24 := by rw [bg_len]; exact hK24
  clear o1 hGo
  have PSL := psF_len r u i p q
  have OKE : Hid (okQ r u i p q = okQ r u i p q) := Lib.hid rfl
  obtain ⟨ob, hob⟩ : ∃ ob, ob = okQ r u i p q := ⟨_, rfl⟩
  have HOB := Lib.hid hob
  rw [← hob]
  clear hob OKE GO
  obtain ⟨LW, hLW⟩ : ∃ LW, LW = bwL r u i p q := ⟨_, rfl⟩
  rw [← hLW] at HWC hL12 SQB ⊢
  obtain ⟨BG, hBG⟩ : ∃ BG, BG = bgF r u i p q := ⟨_, rfl⟩
  rw [← hBG] at HK BIN SQB OB hB24 ⊢
  clear hLW hBG
  obtain ⟨K, hKK⟩ : ∃ K, BG.length = K := ⟨_, rfl⟩
  have HBL := Lib.hid hKK
  rw [hKK] at HK OB hB24 ⊢
  clear hKK
  obtain ⟨W, hW⟩ : ∃ W, W = wd LW := ⟨_, rfl⟩
  have HW := Lib.hid hW
  rw [← hW]
  clear hW
  go_wp2_with (first | (refine wpList_store_row rfl 66 _ _ rfl w1.heap.size (pL G W (.slice A K c1)).toArray rfl rfl 66 (pL zero49 (wd []) (.slice none 0 0)).toArray (Arr.new w1 (pL zero49 (wd []) (.slice none 0 0)) _ rfl) (sizeP hG _ _) (by rw [List.size_toArray, List.size_toArray, pL_len hG, pL_len zero49_len]) (oneP _ _ _ _ _) ?_; generalize hw_ : (w1.alloc (.cells #[.int .i64 0, .int .i64 0, .int .i64 0, .int .i64 0, .int .i64 0, .int .i64 0, .int .i64 0, .int .i64 0, .int .i64 0, .int .i64 0, .int .i64 0, .int .i64 0, .int .i64 0, .int .i64 0, .int .i64 0, .int .i64 0, .int .i64 0, .int .i64 0, .int .i64 0, .int .i64 0, .int .i64 0, .int .i64 0, .int .i64 0, .int .i64 0, .int .i64 0, .int .i64 0, .int .i64 0, .int .i64 0, .int .i64 0, .int .i64 0, .int .i64 0, .int .i64 0, .int .i64 0, .int .i64 0, .int .i64 0, .int .i64 0, .int .i64 0, .int .i64 0, .int .i64 0, .int .i64 0, .int .i64 0, .int .i64 0, .int .i64 0, .int .i64 0, .int .i64 0, .int .i64 0, .int .i64 0, .int .i64 0, .int .i64 0, .string ⟨#[]⟩, .slice none 0 0] 66)).setRow w1.heap.size (pL G W (.slice A K c1)).toArray = w2; have A2 : Hid (Arr w2 w1.heap.size (pL G W (.slice A K c1)) 66) := Lib.hid (by rw [← hw_]; exact (Arr.new w1 (pL zero49 (wd []) (.slice none 0 0)) _ rfl).row); have b2 : Below w1.heap.size w1 w2 := (by rw [← hw_]; exact arr.below_setRow ((Below.refl _ _).alloc (Nat.le_refl _) _) (Nat.le_refl _) _); have t_ : w1.heap.size + 1 ≤ w2.heap.size := (by rw [← hw_]; simp); clear hw_; replace B1 := Lib.hid (B1.out.trans (b2.mono B1.out.size)); have c49 := pL_word hG A2.out; have c50 := pL_begins hG A2.out) | (refine wpList_load_row rfl 66 _ rfl w1.heap.size rfl 66 (pL G W (.slice A K c1)).toArray (0, 0) _ A2.out Try.underlying66 rfl (sizeP hG _ _) ?_))
  clear c49 c50
  rw [HW.out]
  refine (sqs_any G LW A K c1 r.length w1.heap.size BG r u _ hG (OB.out.keep b2 (Nat.le_refl _)) HBL.out (by omega) (by omega) hL12 HWC.out HK.out BIN.out).mono ?_
  rintro e w3 ⟨v3, rfl, o3, b3⟩
  rw [SQB.out] at o3
  obtain ⟨P3, c3, rfl⟩ := own_form o3
  have O3 := Lib.hid (own_low (base' := w.heap.size) o3 (by have := B1.out.size; omega))
  replace B1 := Lib.hid (B1.out.trans (b3.mono B1.out.size))
  clear o3 b2 b3
  go_wp2_with fail
  go_ret2
  exact ⟨P3, c3, by rw [← HOB.out]; rfl, O3.out, B1.out⟩

set_option maxHeartbeats 4000000 in
theorem vi_impl (v : Value) (r u : List Int) (i p q : Int) (hi : Nat) (w : World) (hx : Srd w hi v r u) (hn : r.length ≤ 1048576) (hm : u.length ≤ 1048576) (i0 : -9223372036854775808 ≤ i) (i1 : i ≤ 9223372036854775807) (p0 : -9223372036854775808 ≤ p) (p1 : p ≤ 9223372036854775807) (q0 : -9223372036854775808 ≤ q) (q1' : q ≤ 9223372036854775807) :
    Calls Try.prog 20 #[v, .int .i64 i, .int .i64 p, .int .i64 q] w (Gives (viF r u i p q) w) := by
  have HX := Lib.hid hx; clear hx
  obtain ⟨P, n, c, Q, m, d, rfl, q1, q2, e1, e2, ht, HR⟩ := HX.out.open
  clear HR q1 q2
  have hK24 := rd_le r u i p q
  have hL12 := bw_len r u i p q
  obtain ⟨i0_, hi0, hz0, hz1, hz2⟩ := info_parts infoI
  have HZ2 := Lib.hid hz2; clear hz2
  go_enter Try.func20, Try.ntmps20
  go_wp2_with fail
  refine (pa_impl _ r u i p q hi _ (HX.out.keep ((Below.refl hi w).alloc ht _) (Nat.le_refl _)) hn hm i0 i1 p0 p1 q0 q1').mono ?_
  rintro e w1 ⟨G, A, c1, hG, hGo, rfl, o1, b1⟩
  have hs1 : w.heap.size + 1 ≤ w1.heap.size := by have := b1.size; simpa using this
  have B1 := Lib.hid (below1 _ _ b1)
  clear b1
  have OB := Lib.hid (Row.of_own o1).rd
  have GO := Lib.hid hGo
  have SQB := Lib.hid (sq_bg r u i p q)
  have BIN := Lib.hid (bg_in r u i p q)
  have HWC : Hid (∀ c ∈ bwL r u i p q, c = 114 ∨ c = 117) := Lib.hid (by unfold bwL; intro c hc; split at hc; exact swL_or hc; simp at hc)
  have HK : Hid ((bgF r u i p q).length = 0 ∨ (Sf r.length r u ∧ G = gl (ext r) (ext u) r.length)) := Lib.hid (by
    cases h : okQ r u i p q
    · left; simp [bgF, h]
    · right; exact ⟨(okQ_facts h).1, GO.out h⟩)
  have hB24 : (bgF r u i p q).length ≤ 24 := by rw [bg_len]; exact hK24
  clear o1 hGo
  have PSL := psF_len r u i p q
  cases hq : okQ r u i p q
  · have HN := Lib.hid (vi_no hq)
    clear hq
    generalize bgF r u i p q = BG at *
    generalize hWW : wd (bwL r u i p q) = W at *
    generalize hKK : BG.length = K at *
    go_wp2_with (refine wpList_store_row rfl 66 _ _ rfl w1.heap.size (pL G W (.slice A K c1)).toArray rfl rfl 66 (pL zero49 (wd []) (.slice none 0 0)).toArray (Arr.new w1 (pL zero49 (wd []) (.slice none 0 0)) _ rfl) (sizeP hG _ _) (by rw [List.size_toArray, List.size_toArray, pL_len hG, pL_len zero49_len]) (oneP _ _ _ _ _) ?_; generalize hw_ : (w1.alloc (.cells #[.int .i64 0, .int .i64 0, .int .i64 0, .int .i64 0, .int .i64 0, .int .i64 0, .int .i64 0, .int .i64 0, .int .i64 0, .int .i64 0, .int .i64 0, .int .i64 0, .int .i64 0, .int .i64 0, .int .i64 0, .int .i64 0, .int .i64 0, .int .i64 0, .int .i64 0, .int .i64 0, .int .i64 0, .int .i64 0, .int .i64 0, .int .i64 0, .int .i64 0, .int .i64 0, .int .i64 0, .int .i64 0, .int .i64 0, .int .i64 0, .int .i64 0, .int .i64 0, .int .i64 0, .int .i64 0, .int .i64 0, .int .i64 0, .int .i64 0, .int .i64 0, .int .i64 0, .int .i64 0, .int .i64 0, .int .i64 0, .int .i64 0, .int .i64 0, .int .i64 0, .int .i64 0, .int .i64 0, .int .i64 0, .int .i64 0, .string ⟨#[]⟩, .slice none 0 0] 66)).setRow w1.heap.size (pL G W (.slice A K c1)).toArray = w2; have A2 : Hid (Arr w2 w1.heap.size (pL G W (.slice A K c1)) 66) := Lib.hid (by rw [← hw_]; exact (Arr.new w1 (pL zero49 (wd []) (.slice none 0 0)) _ rfl).row); have b2 : Below w1.heap.size w1 w2 := (by rw [← hw_]; exact arr.below_setRow ((Below.refl _ _).alloc (Nat.le_refl _) _) (Nat.le_refl _) _); have t_ : w1.heap.size + 1 ≤ w2.heap.size := (by rw [← hw_]; simp); clear hw_; replace B1 := Lib.hid (B1.out.trans (b2.mono B1.out.size)); have c49 := pL_word hG A2.out; have c50 := pL_begins hG A2.out)
    go_ret
    rw [HN.out]
    exact gives_nil B1.out
  have GE := Lib.hid (GO.out hq)
  have HF : Hid (viF r u i p q = vsK r.length (psF r u i p q)) := Lib.hid (vi_yes hq)
  obtain ⟨HS', ⟨i0', i1''⟩, hsl⟩ := okQ_facts hq
  have n24 : r.length ≤ 24 := HS'.small
  have PIN : Hid (∀ y ∈ psF r u i p q, 0 ≤ y ∧ y < r.length) := Lib.hid (by
    rw [ps_yes hq]
    exact psK_in HS' (pe_bij hq) i0' i1'' _)
  clear hq HS' i1'' hsl i0'
  generalize psF r u i p q = PS at *
  obtain ⟨LW, hLW⟩ : ∃ LW, LW = bwL r u i p q := ⟨_, rfl⟩
  rw [← hLW] at HWC hL12 SQB ⊢
  obtain ⟨BG, hBG⟩ : ∃ BG, BG = bgF r u i p q := ⟨_, rfl⟩
  rw [← hBG] at HK BIN SQB OB hB24 ⊢
  clear hLW hBG
  obtain ⟨K, hKK⟩ : ∃ K, BG.length = K := ⟨_, rfl⟩
  have HBL := Lib.hid hKK
  rw [hKK] at HK OB hB24 ⊢
  clear hKK
  obtain ⟨W, hW⟩ : ∃ W, W = wd LW := ⟨_, rfl⟩
  have HW := Lib.hid hW
  rw [← hW]
  clear hW GO
  obtain ⟨m, hm⟩ : ∃ m, m = r.length := ⟨_, rfl⟩
  have HM0 := Lib.hid hm
  rw [← hm] at n24 PIN HF HK BIN GE
  clear hm
  obtain ⟨N, hN⟩ : ∃ N, PS.length = N := ⟨_, rfl⟩
  have HN := Lib.hid hN
  rw [hN] at PSL
  clear hN
  go_wp2_with (first | (refine wpList_store_row rfl 66 _ _ rfl w1.heap.size (pL G W (.slice A K c1)).toArray rfl rfl 66 (pL zero49 (wd []) (.slice none 0 0)).toArray (Arr.new w1 (pL zero49 (wd []) (.slice none 0 0)) _ rfl) (sizeP hG _ _) (by rw [List.size_toArray, List.size_toArray, pL_len hG, pL_len zero49_len]) (oneP _ _ _ _ _) ?_; generalize hw_ : (w1.alloc (.cells #[.int .i64 0, .int .i64 0, .int .i64 0, .int .i64 0, .int .i64 0, .int .i64 0, .int .i64 0, .int .i64 0, .int .i64 0, .int .i64 0, .int .i64 0, .int .i64 0, .int .i64 0, .int .i64 0, .int .i64 0, .int .i64 0, .int .i64 0, .int .i64 0, .int .i64 0, .int .i64 0, .int .i64 0, .int .i64 0, .int .i64 0, .int .i64 0, .int .i64 0, .int .i64 0, .int .i64 0, .int .i64 0, .int .i64 0, .int .i64 0, .int .i64 0, .int .i64 0, .int .i64 0, .int .i64 0, .int .i64 0, .int .i64 0, .int .i64 0, .int .i64 0, .int .i64 0, .int .i64 0, .int .i64 0, .int .i64 0, .int .i64 0, .int .i64 0, .int .i64 0, .int .i64 0, .int .i64 0, .int .i64 0, .int .i64 0, .string ⟨#[]⟩, .slice none 0 0] 66)).setRow w1.heap.size (pL G W (.slice A K c1)).toArray = w2; have A2 : Hid (Arr w2 w1.heap.size (pL G W (.slice A K c1)) 66) := Lib.hid (by rw [← hw_]; exact (Arr.new w1 (pL zero49 (wd []) (.slice none 0 0)) _ rfl).row); have b2 : Below w1.heap.size w1 w2 := (by rw [← hw_]; exact arr.below_setRow ((Below.refl _ _).alloc (Nat.le_refl _) _) (Nat.le_refl _) _); have t_ : w1.heap.size + 1 ≤ w2.heap.size := (by rw [← hw_]; simp); clear hw_; replace B1 := Lib.hid (B1.out.trans (b2.mono B1.out.size)); have c49 := pL_word hG A2.out; have c50 := pL_begins hG A2.out; have c48 := pL_count GE.out A2.out) | (at_make; refine wpList_make_full _ rfl _ _ 30 rfl w2.heap.size 3 i0_ _ 1 Try.underlying30 hi0 hz0 hz1 _ _ _ _ m rfl rfl rfl rfl ?b2 ?b3 (Nat.le_refl _) ?_))
  case b2 => rw [HZ2.out]; omega
  case b3 => unfold maxLen; omega
  intro w3 hown hg
  have hb1 : Below w2.heap.size w2 w3 := (Below.refl _ _).grown hg (Nat.le_refl _) (by simp)
  have HM : Hid (Made m w2 w3 (vsK m (PS.take 0))) := Lib.hid ⟨by simpa [vsK, V, toList_madeCells_one] using hown, hb1⟩
  have m3 : w2.heap.size + 1 ≤ w3.heap.size := by have := (hown.lt w2.heap.size rfl).2; omega
  have A3 := Lib.hid (A2.out.keep hb1 A2.out.lt)
  replace B1 := Lib.hid (B1.out.trans (hb1.mono B1.out.size))
  have OB3 := Lib.hid (OB.out.keep (b2.trans (hb1.mono b2.size)) (Nat.le_refl _))
  clear hown hg c48 c49 c50 A2 OB hb1
  go_wp2_with (refine wpList_load_row rfl 66 _ rfl w1.heap.size rfl 66 (pL G W (.slice A K c1)).toArray (0, 0) _ A3.out Try.underlying66 rfl (sizeP hG _ _) ?_)
  rw [HW.out]
  refine (sqs_any G LW A K c1 m w1.heap.size BG r u _ hG OB3.out HBL.out (by omega) (by omega) hL12 HWC.out HK.out BIN.out).mono ?_
  rintro e w4 ⟨v4, rfl, o4, b4⟩
  rw [SQB.out] at o4
  obtain ⟨P4, c4, rfl⟩ := own_form o4
  have O4 := Lib.hid (Row.of_own o4)
  have HM4 : Hid (Made m w2 w4 (vsK m (PS.take 0))) := Lib.hid ⟨ownk HM.out.1 (fun b e => b4.block b (HM.out.1.lt b e).2), HM.out.2.trans (b4.mono HM.out.2.size)⟩
  have m4 := b4.size
  replace B1 := Lib.hid (B1.out.trans (b4.mono B1.out.size))
  clear o4 b4 HM A3 OB3 b2
  rw [HN.out] at O4 ⊢
  go_wp2_with fail
  go_loopw [31] (fun kv wr => ∃ k : Nat, k ≤ N ∧ kv = .int .i64 k ∧ Made m w2 wr (vsK m (PS.take k)) ∧ Out w2.heap.size (w2.heap.size + 1) w4 wr) (fun kv _ => N - (intOf kv).toNat)
  case atStart => exact ⟨0, Nat.zero_le _, rfl, HM4.out, Out.refl _ _ _⟩
  case round =>
    obtain ⟨k, hk, rfl, hmd, hou⟩ := hrel
    have HR := Lib.hid hmd; have HO := Lib.hid hou; clear hmd hou HM4
    by_cases hlt : k < N
    · have OW := Lib.hid (O4.out.out HO.out (Or.inr m3))
      obtain ⟨g, off, uu, rfl, hgl, hgh, hxu, hcx, _⟩ := OW.out.at_ hlt
      have hkl : k < PS.length := by rw [HN.out]; exact hlt
      rw [show (V PS)[k]? = some (.int .i64 PS[k]) by simp [V, List.getElem?_eq_getElem hkl]] at hxu
      obtain rfl := Option.some.inj hxu
      have hin := PIN.out PS[k] (List.getElem_mem _)
      obtain ⟨z, hz⟩ : ∃ z : Nat, PS[k] = (z : Int) := ⟨PS[k].toNat, by omega⟩
      have hzn : z < m := by omega
      have TK : Hid (vsK m (PS.take (k + 1)) = (vsK m (PS.take k)).set z ((vsK m (PS.take k)).getD z 0 + 1)) := Lib.hid (by
        rw [List.take_add_one, List.getElem?_eq_getElem hkl, hz]
        exact vsK_snoc m (PS.take k) (z : Int))
      have ft := vs_fit m (PS.take k) z
      rw [List.length_take] at ft
      rw [hz] at hcx
      have hc := HR.out.cell hzn
      have hf := HR.out.1.frozenAt z
      obtain ⟨cv, hcv⟩ : ∃ cv, (vsK m (PS.take k)).getD z 0 = cv := ⟨_, rfl⟩
      rw [hcv] at hc ft
      have HST : Hid (Made m w2 (wr.setCell ⟨w2.heap.size, z, none⟩ (.int .i64 (cv + 1))) (vsK m (PS.take (k + 1)))) := Lib.hid (by rw [TK.out, hcv]; exact HR.out.set_ z _)
      have HOS : Hid (Out w2.heap.size (w2.heap.size + 1) w4 (wr.setCell ⟨w2.heap.size, z, none⟩ (.int .i64 (cv + 1)))) := Lib.hid (HO.out.set_ (Nat.le_refl _) (by omega) _)
      have hw : IntKind.i64.wrap (cv + 1) = cv + 1 := IntWalk.i64_in _ (by omega)
      have hw2 : wrap64 (cv + 1) = cv + 1 := IntWalk.wrap64_in _ (by omega)
      clear hxu hz hcv TK hkl hin OW
      go_wp2
      go_roundw
      case rel => exact ⟨k + 1, by omega, by go_num, HST.out, HOS.out⟩
      case measure => first | (simp [intOf]; done) | (simp [intOf]; omega)
    · obtain rfl : k = N := by omega
      have e : PS.take k = PS := List.take_of_length_le (by rw [HN.out]; exact Nat.le_refl _)
      rw [e] at HR
      have BF := Lib.hid (B1.out.trans (HO.out.below (show w.heap.size ≤ w2.heap.size by omega) (by omega)))
      go_wp2
      go_ret
      refine ⟨_, rfl, ?_, BF.out⟩
      rw [HF.out, vsK_len]
      exact own_low HR.out.1 (by omega)
end Go.Proofs.Ytkkklpchkkdhfaa.pth
