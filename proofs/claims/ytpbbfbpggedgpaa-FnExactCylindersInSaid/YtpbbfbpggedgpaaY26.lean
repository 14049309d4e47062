import Derived.Test.YtpbbfbpggedgpaaY25
/-
  (impl.gluing).cylinders and impl.CylindersOf.
-/
namespace Go.Proofs.Ytpbbfbpggedgpaa.cy
open Go.ChangeShapes Go.WideShapes Go.ChangeAt Go.RowKit
open Go.Proofs.Ytpbbfbpggedgpaa.mem Go.Proofs.Ytpbbfbpggedgpaa.ints Go.Proofs.Ytpbbfbpggedgpaa.arr Go.Proofs.Ytpbbfbpggedgpaa.pm Go.Proofs.Ytpbbfbpggedgpaa.sf Go.Proofs.Ytpbbfbpggedgpaa.mat Go.Proofs.Ytpbbfbpggedgpaa.gl Go.Proofs.Ytpbbfbpggedgpaa.lp
set_option linter.unusedVariables false
set_option maxRecDepth 100000

noncomputable def cyF (r u : List Int) : List Cy := if transB r u then cyL (abF (comm r u) u (cycF r)) (cycF r) else []
theorem cyF_yes {r u : List Int} (h : transB r u = true) : cyF r u = cyL (abF (comm r u) u (cycF r)) (cycF r) := by simp [cyF, h]
theorem cyF_no {r u : List Int} (h : transB r u = false) : cyF r u = [] := by simp [cyF, h]
theorem cyF_24 (r u : List Int) : (cyF r u).length ≤ 24 := by
  cases h : transB r u with
  | false => rw [cyF_no h]; simp
  | true =>
    have s := cycF_rows h rfl
    rw [cyF_yes h]
    have := (cyS_ok (ab_inj s.sf s.rw) (cycF r).length (Nat.le_refl _)).2.2
    have := s.rw.len
    have := s.sf.small
    unfold cyL
    omega
theorem cyF_len (r u : List Int) : (cyF r u).length ≤ 1048576 := by have := cyF_24 r u; omega
/-- A list of cylinders of the call's own. -/
def CGives (L : List Cy) (w : World) (e : Ending) (w' : World) : Prop := ∃ A c, e = .returned (.slice A L.length c) ∧ Crow w' w.heap.size w'.heap.size A L.length L ∧ Below w.heap.size w w'
theorem Crow.of_own' {w : World} {base : Nat} {e : TypeId} {A : Option Addr} {n c : Nat} {L : List Cy} (hl : L.length = n) (h : w.ownsRow base e 2 (.slice A n c) n (V (fl L))) : Crow w base w.heap.size A n L := by
  refine ⟨hl, by simp [V, fl_len, hl], Nat.le_refl _, fun hn => ?_⟩
  have hlen := h.1
  rcases h.2 with ⟨hv, h0⟩ | ⟨g, cap, cur, hv, hb, hh, r⟩
  · omega
  · injection hv with hA hn' hc'
    subst hA; subst hc'
    have hlt : g < w.heap.size := by
      rcases Nat.lt_or_ge g w.heap.size with hlt | hge
      · exact hlt
      · rw [Array.getElem?_eq_none hge] at hh; cases hh
    refine ⟨g, 0, rfl, hb, hlt, fun j hj => ?_⟩
    rw [Nat.zero_add]
    exact ⟨h.cellAt j (by omega), h.frozenAt j⟩
theorem Crow.low {w : World} {lo lo' hi n : Nat} {A : Option Addr} {L : List Cy} (h : Crow w lo hi A n L) (hl : lo' ≤ lo) : Crow w lo' hi A n L := ⟨h.1, h.2.wider hl (Nat.le_refl _) h.2.2.1⟩
/-- Amid the list. -/
structure Cl (w1 wr : World) (B H0 : Nat) (A : Option Addr) (N : Nat) (rr : List (List Int)) (bs : Nat → Nat) (ab bl : List Int) (v : Value) (k : Nat) : Prop where
  rm : Rm wr B H0 A N rr bs ab bl (cyS ab rr k).1
  own : wr.ownsRow w1.heap.size 64 2 v (cyS ab rr k).2.length (V (fl (cyS ab rr k).2))
  fr : Fr N bs w1 wr
theorem own_Fr {w w' : World} {base n N : Nat} {bs : Nat → Nat} {v : Value} {xs : List Value} {e : TypeId} {size : Nat} (h : w.ownsRow base e size v n xs) (hf : Fr N bs w w') (hb : ∀ i, i < N → bs i < base) : w'.ownsRow base e size v n xs := by
  refine ⟨h.1, ?_⟩
  rcases h.2 with h0 | ⟨g, cap, cur, h1, h2, h3, h4⟩
  · exact .inl h0
  · refine .inr ⟨g, cap, cur, h1, h2, ?_, h4⟩
    have hlt : g < w.heap.size := by
      rcases Nat.lt_or_ge g w.heap.size with q | q
      · exact q
      · rw [Array.getElem?_eq_none q] at h3; cases h3
    rw [hf.block g hlt (fun i hi e => by have := hb i hi; omega)]
    exact h3
theorem Fr.grown {N : Nat} {bs : Nat → Nat} {w W w' : World} {base n : Nat} {v : Value} {xs : List Value} {e : TypeId} {size : Nat} (h : Fr N bs w W) (ho : W.ownsRow base e size v n xs) (hb : w.heap.size ≤ base) (hg : W.grownBy w' v.ownBlock) : Fr N bs w w' :=
  ⟨hg.os.trans h.os, hg.tape.trans h.tape, hg.output.trans h.output, Nat.le_trans h.size hg.size, fun k h1 h2 => (hg.block k (Nat.lt_of_lt_of_le h1 h.size) (fun e => by have := (ho.lt k e.symm).1; omega)).trans (h.block k h1 h2)⟩

set_option maxHeartbeats 2000000 in
theorem cys_any (r u : List Int) (n : Nat) (w : World) (hs : Sf n r u) :
    Calls Try.prog 59 #[.agg (V (gl (ext r) (ext u) n)).toArray] w (CGives (cyL (abF (comm r u) u (cycF r)) (cycF r)) w) := by
  have HS := Lib.hid hs
  have L49 := gl_len (ext_len r) (ext_len u) n
  have SW : Hid (Sw n r u (cycF r)) := Lib.hid (cycF_rows (transB_iff.2 (by rw [hs.lr]; exact hs)) hs.lr)
  have hn24 : n ≤ 24 := hs.small
  have G0 := Lib.hid (Arr.new w (V (gl (ext r) (ext u) n)) 52 rfl)
  clear hs
  go_enter Try.func59, Try.ntmps59
  go_wp2_with (refine wpList_load_row rfl 52 _ rfl w.heap.size rfl 52 (V (gl (ext r) (ext u) n)).toArray (0, 0) _ G0.out Try.underlying52 rfl (size49 L49) ?_)
  refine (rows_any r u n _ HS.out).mono ?_
  rintro e w1 ⟨A, c, H0, bs, rfl, b1, hrm⟩
  have B1 := Lib.hid (below1 _ _ b1)
  have hBH : w.heap.size + 1 ≤ (w.alloc (.cells (V (gl (ext r) (ext u) n)).toArray 52)).heap.size := by simp
  generalize (w.alloc (.cells (V (gl (ext r) (ext u) n)).toArray 52)).heap.size = B at *
  clear b1 G0
  have CI : Hid (∀ k, cyS (abF (comm r u) u (cycF r)) (cycF r) k = cyS (abF (comm r u) u (cycF r)) (cycF r) k) := Lib.hid (fun _ => rfl)
  generalize hL : cyL (abF (comm r u) u (cycF r)) (cycF r) = L at *
  have HLL := Lib.hid hL; clear hL
  have LNn : Hid ((cycF r).length ≤ n) := Lib.hid SW.out.rw.len
  have INJ := Lib.hid (ab_inj SW.out.sf SW.out.rw)
  generalize hN : (cycF r).length = N at *
  have LN := Lib.hid hN; clear hN
  have hN24 : N ≤ 24 := by have := LNn.out; omega
  have BK := Lib.hid (back_ok INJ.out)
  generalize hrr : cycF r = rr at *
  clear hrr
  generalize hbl : backL (abF (comm r u) u rr) N = bl at *
  clear hbl
  generalize hab : abF (comm r u) u rr = ab at *
  clear hab CI
  have OK : Hid (∀ k, k ≤ N → (cyS ab rr k).1.length = N ∧ Closed N ab (on (cyS ab rr k).1) ∧ (cyS ab rr k).2.length ≤ k) := Lib.hid (fun k hk => by have h := cyS_ok (ab := ab) (rr := rr) (by rw [LN.out]; exact INJ.out) k (by rw [LN.out]; exact hk); rwa [LN.out] at h)
  have CL0 : Hid (Cl w1 w1 B H0 A N rr bs ab bl (.slice none 0 0) 0) := Lib.hid ⟨by have h := hrm; rw [cyS, LN.out]; exact h, ⟨rfl, .inl ⟨rfl, rfl⟩⟩, Fr.below (Below.refl _ _)⟩
  have BSL : Hid (∀ i, i < N → bs i < w1.heap.size) := Lib.hid (fun i hi => hrm.lt hi)
  have hN0 : 0 < N := by
    obtain ⟨i, xs, h1, _⟩ := SW.out.rw.has (y := 0) (by omega) (by have := HS.out.pos; omega)
    have := (List.getElem?_eq_some_iff.1 h1).1
    rw [LN.out] at this
    omega
  have PTR : Hid (∀ q, A = some ⟨q, 0, none⟩ → q < w1.heap.size) := Lib.hid (fun q e => by
    obtain ⟨g, e2, _, h2, _⟩ := hrm.ptr hN0
    rw [e2] at e; injection e with e; injection e with e; omega)
  have HH0 : Hid (H0 ≤ w1.heap.size) := Lib.hid (by
    obtain ⟨P, c, _, q2⟩ := hrm.box 0 _ (List.getElem?_eq_getElem (by rw [LN.out]; exact hN0))
    exact q2.2.1)
  have BSG : Hid (∀ i, i < N → w.heap.size ≤ bs i) := Lib.hid (fun i hi => by have := hrm.ge i hi; have := hrm.low; omega)
  clear hrm
  obtain ⟨i0, hi0, hz0, hz1, hz2⟩ := info_parts infoCy
  go_wp2
  go_loopw [3, 9] (fun v i wr => ∃ k : Nat, k ≤ N ∧ i = .int .i64 k ∧ Cl w1 wr B H0 A N rr bs ab bl v k) (fun _ i _ => N - (intOf i).toNat)
  case atStart => exact ⟨0, Nat.zero_le _, rfl, CL0.out⟩
  case round =>
    obtain ⟨k, hk, rfl, hcl⟩ := hrel
    obtain ⟨C, cc, rfl⟩ := own_form hcl.own
    have CL := Lib.hid hcl; clear hcl CL0
    have hsz := CL.out.fr.size
    by_cases hlt : k < N
    · obtain ⟨gp, rfl, _, hgl, hne, hcp⟩ := CL.out.rm.ptr (by omega)
      have hcp := hcp k hlt
      obtain ⟨xs, hxk⟩ : ∃ xs, rr[k]? = some xs := ⟨_, List.getElem?_eq_getElem (by rw [LN.out]; exact hlt)⟩
      have XK := Lib.hid hxk
      obtain ⟨P1, c1, B1x, _⟩ := CL.out.rm.box k xs hxk
      have xl : xs.length ≤ 24 := by have := (SW.out.rw.way hxk).choose_spec.2.2.inn.len; omega
      have WID : Hid (rr.getD k [] = xs) := Lib.hid (by simp [List.getD, hxk])
      obtain ⟨ok1, ok2, ok3⟩ := OK.out k hk
      have OK2 := Lib.hid ok2
      cases hMk : (cyS ab rr k).1[k]? with
      | none => rw [List.getElem?_eq_none_iff] at hMk; omega
      | some b =>
        have hv : (cyS ab rr k).1.getD k false = b := by simp [List.getD, hMk]
        rw [hv] at B1x
        have k3 := B1x.cell (k := 3) rfl
        cases b with
        | true =>
          have NX : Hid (Cl w1 wr B H0 (some ⟨gp, 0, none⟩) N rr bs ab bl (.slice C (cyS ab rr k).2.length cc) (k + 1)) := Lib.hid (by
            have e := cyS_yes hMk
            exact ⟨by rw [e]; exact CL.out.rm, by rw [e]; exact CL.out.own, CL.out.fr⟩)
          clear hMk hv hxk B1x ok2 OK2
          generalize (cyS ab rr k).2.length = ll at *
          go_wp2
          go_roundw
          case rel => exact ⟨k + 1, by omega, by go_num, NX.out⟩
          case measure => simp [intOf]; omega
        | false =>
          have MK := Lib.hid hMk
          have EQ := Lib.hid (cyS_no hMk)
          rw [LN.out, WID.out] at EQ
          have RMk := Lib.hid CL.out.rm
          have OWk := Lib.hid CL.out.own
          have FRk := Lib.hid CL.out.fr
          have ok3' : (cyS ab rr k).2.length ≤ 24 := by omega
          clear hMk hv hxk B1x ok2
          generalize (cyS ab rr k).2 = Lk at *
          generalize (cyS ab rr k).1 = S at *
          go_wp2_with fail
          refine (cyl_any wr B H0 N k (some ⟨gp, 0, none⟩) rr bs ab bl S xs RMk.out XK.out ok1 OK2.out MK.out INJ.out BK.out hN24 xl).mono ?_
          rintro e w5 ⟨rfl, rm5, f5⟩
          have RM5 := Lib.hid rm5
          have OW5 := Lib.hid (own_Fr OWk.out f5 BSL.out)
          have FR5 := Lib.hid (FRk.out.trans f5)
          have s5 := f5.size
          clear rm5 f5 RMk OWk FRk k3 hcp
          generalize hh : ((cnt (clos N ab S k) - cnt S : Nat) : Int) = hgt at *
          have FL : Hid (V (fl (Lk ++ [((xs.length : Int), hgt)])) = V (fl Lk) ++ [.int .i64 xs.length, .int .i64 hgt]) := Lib.hid (by rw [fl_app]; simp [V, fl])
          clear hh
          go_wp2_with (at_builtin; refine wpList_append_lies (w5.alloc (.cells #[.int .i64 xs.length, .int .i64 hgt] 64)) rfl _ _ 37 rfl w1.heap.size 64 i0 _ 2 16 Try.underlying37 hi0 hz0 hz1 hz2 rfl (by decide) _ Lk.length (V (fl Lk)) rfl (OW5.out.alloc _) ⟨w5.heap.size, 0, none⟩ 1 1 [.int .i64 xs.length, .int .i64 hgt] rfl rfl ?hn ?h1 (by decide) ?c4 ?c5 ?c6 _ rfl ?_)
          case hn => exact World.news_of_block (Arr.new w5 _ _ rfl)
          case h1 => intro q hq; simp at hq; rcases hq with rfl | rfl <;> rfl
          case c4 => unfold maxLen; omega
          case c5 => omega
          case c6 => simp; omega
          intro g7 cap7 w7 ho hg hb hlt7
          have FW : Fr N bs w1 (w5.alloc (.cells #[.int .i64 xs.length, .int .i64 hgt] 64)) := FR5.out.trans (Fr.below ((Below.refl _ _).alloc (Nat.le_refl _) _))
          have OWW := OW5.out.alloc (.cells #[.int .i64 xs.length, .int .i64 hgt] 64)
          have F7 := Lib.hid (FW.grown OWW (Nat.le_refl _) hg)
          have R7 : Hid (Rm w7 B H0 (some ⟨gp, 0, none⟩) N rr bs ab bl (clos N ab S k)) := Lib.hid (by
            have hW := RM5.out.keep ((Below.refl w5.heap.size w5).alloc (Nat.le_refl _) (.cells #[.int .i64 xs.length, .int .i64 hgt] 64))
            have lo : ∀ q, q < w1.heap.size → w7.heap[q]? = (w5.alloc (.cells #[.int .i64 xs.length, .int .i64 hgt] 64)).heap[q]? := fun q hq => hg.block q (by have := hW; simp; omega) (fun e => by have := (OWW.lt q e.symm).1; omega)
            exact hW.lows lo hg.size (fun q e => PTR.out q e) BSL.out HH0.out)
          have NX : Hid (Cl w1 w7 B H0 (some ⟨gp, 0, none⟩) N rr bs ab bl (.slice (some ⟨g7, 0, none⟩) (Lk.length + 1) cap7) (k + 1)) := Lib.hid ⟨by rw [EQ.out]; exact R7.out, by rw [EQ.out, FL.out]; simpa using ho, F7.out⟩
          clear ho hg hb FW OWW RM5 OW5 FR5 EQ R7 F7
          go_wp2
          go_roundw
          case rel => exact ⟨k + 1, by omega, by go_num, NX.out⟩
          case measure => simp [intOf]; omega
    · obtain rfl : N = k := by omega
      have HE : Hid (L = (cyS ab rr N).2) := Lib.hid (by rw [← HLL.out, cyL, LN.out])
      have OW := Lib.hid CL.out.own
      have BF : Hid (Below w.heap.size w wr) := Lib.hid ⟨CL.out.fr.os.trans B1.out.os, CL.out.fr.tape.trans B1.out.tape, CL.out.fr.output.trans B1.out.output, Nat.le_trans B1.out.size hsz, fun q hq => (CL.out.fr.block q (by have := B1.out.size; omega) (fun i hi e => by have := BSG.out i hi; omega)).trans (B1.out.block q hq)⟩
      clear CL HLL OK
      rw [← HE.out] at OW ⊢
      clear HE
      go_wp2
      go_ret
      exact ⟨C, cc, rfl, (Crow.of_own' rfl OW.out).low B1.out.size, BF.out⟩

/-- What CylindersOf answers. -/
def CYPost (r u : List Int) (w : World) (e : Ending) (w' : World) : Prop := ∃ A c, e = .returned (.tuple #[.slice A (cyF r u).length c, .bool (transB r u)]) ∧ Crow w' w.heap.size w'.heap.size A (cyF r u).length (cyF r u) ∧ Below w.heap.size w w'
theorem cy_no {r u : List Int} {w w' : World} (h : transB r u = false) (hb : Below w.heap.size w w') : CYPost r u w (.returned (.tuple #[.slice none 0 0, .bool false])) w' := by
  refine ⟨none, 0, by rw [h, cyF_no h]; rfl, ?_, hb⟩
  rw [cyF_no h]
  exact ⟨rfl, rfl, Nat.le_refl _, fun q => absurd q (by simp)⟩
set_option maxHeartbeats 2000000 in
theorem cyo_impl (v : Value) (r u : List Int) (hi : Nat) (w : World) (hx : Srd w hi v r u) (hn : r.length ≤ 1048576) (hm : u.length ≤ 1048576) :
    Calls Try.prog 44 #[v] w (CYPost r u w) := by
  have HX := Lib.hid hx; clear hx
  obtain ⟨P, n, c, Q, m, d, rfl, q1, q2, e1, e2, ht, HR⟩ := HX.out.open
  have L1 := Lib.hid q1
  clear HR q1 q2
  go_enter Try.func44, Try.ntmps44
  go_wp2_with fail
  refine (gluingOf_any _ r u hi _ (HX.out.keep ((Below.refl hi w).alloc ht _) (Nat.le_refl _)) hn hm).mono ?_
  rintro e w1 ⟨rfl, b1⟩
  have B1 := Lib.hid (below1 _ _ b1); clear b1
  cases hq : transB r u
  · have HF := Lib.hid hq; clear hq
    go_wp2_with (refine wpList_store_row rfl 52 _ _ rfl w1.heap.size (V (glv r u)).toArray rfl rfl 52 (V zero49).toArray (Arr.new w1 (V zero49) _ rfl) (size49 (glv_len _ _)) (by simp [V_len, glv_len, zero49]) (one_V _) ?_; generalize hw_ : (w1.alloc (.cells #[.int .i64 0, .int .i64 0, .int .i64 0, .int .i64 0, .int .i64 0, .int .i64 0, .int .i64 0, .int .i64 0, .int .i64 0, .int .i64 0, .int .i64 0, .int .i64 0, .int .i64 0, .int .i64 0, .int .i64 0, .int .i64 0, .int .i64 0, .int .i64 0, .int .i64 0, .int .i64 0, .int .i64 0, .int .i64 0, .int .i64 0, .int .i64 0, .int .i64 0, .int .i64 0, .int .i64 0, .int .i64 0, .int .i64 0, .int .i64 0, .int .i64 0, .int .i64 0, .int .i64 0, .int .i64 0, .int .i64 0, .int .i64 0, .int .i64 0, .int .i64 0, .int .i64 0, .int .i64 0, .int .i64 0, .int .i64 0, .int .i64 0, .int .i64 0, .int .i64 0, .int .i64 0, .int .i64 0, .int .i64 0, .int .i64 0] 52)).setRow w1.heap.size (V (glv r u)).toArray = w2; have A2 : Hid (Arr w2 w1.heap.size (V (glv r u)) 52) := Lib.hid (by rw [← hw_]; exact (Arr.new w1 (V zero49) _ rfl).row); have b1 : Below w1.heap.size w1 w2 := (by rw [← hw_]; exact arr.below_setRow ((Below.refl _ _).alloc (Nat.le_refl _) _) (Nat.le_refl _) _); have t_ : w1.heap.size + 1 ≤ w2.heap.size := (by rw [← hw_]; simp); clear hw_; replace B1 := Lib.hid (B1.out.trans (b1.mono B1.out.size)); clear b1)
    go_ret2
    exact cy_no HF.out B1.out
  · have HS : Hid (Sf n r u) := Lib.hid (by have := transB_iff.1 hq; rwa [L1.out] at this)
    have HF : Hid (cyL (abF (comm r u) u (cycF r)) (cycF r) = cyF r u ∧ transB r u = true) := Lib.hid ⟨(cyF_yes hq).symm, hq⟩
    have HG : Hid (glv r u = gl (ext r) (ext u) n) := Lib.hid (by rw [glv_yes hq, L1.out])
    clear hq
    rw [HG.out]
    go_wp2_with (first | (refine wpList_store_row rfl 52 _ _ rfl w1.heap.size (V (gl (ext r) (ext u) n)).toArray rfl rfl 52 (V zero49).toArray (Arr.new w1 (V zero49) _ rfl) (size49 (gl_len (ext_len _) (ext_len _) n)) (by simp [V_len, gl_len, ext_len, zero49]) (one_V _) ?_; generalize hw_ : (w1.alloc (.cells #[.int .i64 0, .int .i64 0, .int .i64 0, .int .i64 0, .int .i64 0, .int .i64 0, .int .i64 0, .int .i64 0, .int .i64 0, .int .i64 0, .int .i64 0, .int .i64 0, .int .i64 0, .int .i64 0, .int .i64 0, .int .i64 0, .int .i64 0, .int .i64 0, .int .i64 0, .int .i64 0, .int .i64 0, .int .i64 0, .int .i64 0, .int .i64 0, .int .i64 0, .int .i64 0, .int .i64 0, .int .i64 0, .int .i64 0, .int .i64 0, .int .i64 0, .int .i64 0, .int .i64 0, .int .i64 0, .int .i64 0, .int .i64 0, .int .i64 0, .int .i64 0, .int .i64 0, .int .i64 0, .int .i64 0, .int .i64 0, .int .i64 0, .int .i64 0, .int .i64 0, .int .i64 0, .int .i64 0, .int .i64 0, .int .i64 0] 52)).setRow w1.heap.size (V (gl (ext r) (ext u) n)).toArray = w2; have A2 : Hid (Arr w2 w1.heap.size (V (gl (ext r) (ext u) n)) 52) := Lib.hid (by rw [← hw_]; exact (Arr.new w1 (V zero49) _ rfl).row); have b1 : Below w1.heap.size w1 w2 := (by rw [← hw_]; exact arr.below_setRow ((Below.refl _ _).alloc (Nat.le_refl _) _) (Nat.le_refl _) _); have t_ : w1.heap.size + 1 ≤ w2.heap.size := (by rw [← hw_]; simp); clear hw_; replace B1 := Lib.hid (B1.out.trans (b1.mono B1.out.size)); clear b1) | (refine wpList_load_row rfl 52 _ rfl w1.heap.size rfl 52 (V (gl (ext r) (ext u) n)).toArray (0, 0) _ A2.out Try.underlying52 rfl (size49 (gl_len (ext_len _) (ext_len _) n)) ?_))
    refine (cys_any r u n _ HS.out).mono ?_
    rw [HF.out.1]
    rintro e w4 ⟨C, cc, rfl, o4, b4⟩
    have O4 := Lib.hid (o4.low B1.out.size)
    have B4 := Lib.hid (B1.out.trans (b4.mono B1.out.size))
    have HT := Lib.hid HF.out.2
    clear o4 b4 HF
    generalize hL : cyF r u = L at *
    go_wp2_with fail
    go_ret2
    refine ⟨C, cc, by (rw [HT.out, hL] <;> rfl), ?_, B4.out⟩
    rw [hL]; exact O4.out
end Go.Proofs.Ytpbbfbpggedgpaa.cy

/-
  spec.l08Joined, spec.l08Mark.
-/
namespace Go.Proofs.Ytpbbfbpggedgpaa.cy
open Go.ChangeShapes Go.WideShapes Go.ChangeAt Go.RowKit
open Go.Proofs.Ytpbbfbpggedgpaa.mem Go.Proofs.Ytpbbfbpggedgpaa.ints Go.Proofs.Ytpbbfbpggedgpaa.arr Go.Proofs.Ytpbbfbpggedgpaa.pm Go.Proofs.Ytpbbfbpggedgpaa.permOf Go.Proofs.Ytpbbfbpggedgpaa.sf Go.Proofs.Ytpbbfbpggedgpaa.mat Go.Proofs.Ytpbbfbpggedgpaa.gl Go.Proofs.Ytpbbfbpggedgpaa.lp
set_option linter.unusedVariables false
set_option maxRecDepth 100000

theorem ab_get {N : Nat} {ab : List Int} (h : Inj N ab) {k : Nat} (hk : k < N) : ab[k]? = some (at_ ab k) := by
  have : k < ab.length := by rw [h.len]; exact hk
  simp [at_, List.getD, List.getElem?_eq_getElem this]
set_option maxHeartbeats 1000000 in
theorem joined_spec (A : Option Addr) (N c k r hi : Nat) (ab : List Int) (w : World) (hx : Rd w hi A N (V ab)) (hi' : Inj N ab) (hN : N ≤ 24) (hk : k < N) (hj : jn ab r (N + 1) (k : Int) = true) :
    Calls Try.prog 66 #[.slice A N c, .int .i64 k, .int .i64 r] w fun e w' => e = .returned (.bool true) ∧ w = w' := by
  have HX := Lib.hid hx; have HI := Lib.hid hi'; have HJ := Lib.hid hj
  clear hx hi' hj
  go_enter Try.func66, Try.ntmps66
  go_wp2
  go_loop [7, 8] (fun kv iv => ∃ (i : Nat) (cur : Int), i ≤ N + 1 ∧ iv = .int .i64 i ∧ kv = .int .i64 cur ∧ -1 ≤ cur ∧ cur < N ∧ Hid (jn ab r (N + 1 - i) cur = true)) (fun _ iv => N + 1 - (intOf iv).toNat)
  case atStart => exact ⟨0, k, Nat.zero_le _, rfl, rfl, by omega, by omega, HJ⟩
  case round =>
    obtain ⟨i, cur, hi1, rfl, rfl, lo, hi2, HR⟩ := hrel
    have HP : Hid (i ≤ N ∧ 0 ≤ cur) := Lib.hid (by
      have h := HR.out
      rcases Nat.eq_zero_or_pos (N + 1 - i) with z | z
      · rw [z] at h; simp [jn] at h
      · obtain ⟨m, hm⟩ : ∃ m, N + 1 - i = m + 1 := ⟨N - i, by omega⟩
        rw [hm, jn] at h
        split at h
        · cases h
        · omega)
    obtain ⟨p1, p2⟩ := HP.out
    obtain ⟨q, rfl⟩ : ∃ q : Nat, cur = q := ⟨cur.toNat, by omega⟩
    have hqN : q < N := by omega
    obtain ⟨g, off, u, rfl, _, hu, hc⟩ := HX.out.at_ hqN
    rw [V_get (ab_get HI.out hqN)] at hu
    obtain rfl := Option.some.inj hu
    by_cases hqr : (q : Int) = r
    · have hb : ((q : Int) == (r : Int)) = true := by simp [hqr]
      clear HR
      go_wp2
      go_ret
      exact ⟨rfl, rfl⟩
    · have hb : ((q : Int) == (r : Int)) = false := by simp; omega
      have NX : Hid (jn ab r (N + 1 - (i + 1)) (at_ ab q) = true) := Lib.hid (by
        have h := HR.out
        rw [show N + 1 - i = (N + 1 - (i + 1)) + 1 by omega, jn, if_neg (by omega), if_neg hqr, Int.toNat_natCast] at h
        exact h)
      have l1 := HI.out.low q hqN
      have l2 := HI.out.rng q hqN
      clear HR hqr
      generalize at_ ab q = nx at *
      go_wp2
      go_round
      case rel => exact ⟨i + 1, nx, by omega, by go_num, rfl, l1, l2, NX⟩
      case measure => simp [intOf]; omega

theorem VB_at {M : List Bool} {k : Nat} {b : Bool} (h : M[k]? = some b) : (VB M)[k]? = some (.bool b) := by simp [VB, h]
theorem VB_set (M : List Bool) (k : Nat) (b : Bool) : (VB M).set k (.bool b) = VB (M.set k b) := by simp [VB, List.map_set]
theorem VB_len (M : List Bool) : (VB M).length = M.length := by simp [VB]
def bN (v : Value) : Nat := match v with | .bool true => 1 | _ => 0

theorem row_cells {w : World} {lo hi N gC oC : Nat} {M : List Bool} (h : Row w lo hi (some ⟨gC, oC, none⟩) N (VB M)) {k : Nat} {b : Bool} (hb : M[k]? = some b) : w.cell? ⟨gC, oC + k, none⟩ = some (.bool b) ∧ w.frozen? ⟨gC, oC + k, none⟩ = false ∧ lo ≤ gC ∧ gC < hi := by
  have hk : k < N := by have := (List.getElem?_eq_some_iff.1 hb).1; have := h.1; rw [VB_len] at this; omega
  obtain ⟨g, off, u, e, h1, h2, h3, h4, h5⟩ := h.at_ hk
  injection e with e; injection e with e1 e2; subst e1; subst e2
  rw [VB_at hb] at h3
  obtain rfl := Option.some.inj h3
  exact ⟨h4, h5, h1, h2⟩
theorem row_mark {w wr : World} {lo hi N gC oC k : Nat} {M : List Bool} (h : Row wr lo hi (some ⟨gC, oC, none⟩) N (VB M)) (ho : Out lo hi w wr) (hk : M[k]? = some false) : Row (wr.setCell ⟨gC, oC + k, none⟩ (.bool true)) lo hi (some ⟨gC, oC, none⟩) N (VB (M.set k true)) ∧ Out lo hi w (wr.setCell ⟨gC, oC + k, none⟩ (.bool true)) := by
  obtain ⟨_, _, l1, l2⟩ := row_cells h hk
  have hkN : k < N := by have := (List.getElem?_eq_some_iff.1 hk).1; have := h.1; rw [VB_len] at this; omega
  refine ⟨by rw [← VB_set]; exact h.set_ hkN _, ho.set_ l1 l2 _⟩

set_option maxHeartbeats 4000000 in
theorem mark_spec (A : Option Addr) (c : Nat) (C : Option Addr) (cc N r hi lo2 hi2 : Nat) (ab : List Int) (S : List Bool) (w : World) (hx : Rd w hi A N (V ab)) (hh : hi ≤ lo2) (hy : Row w lo2 hi2 C N (VB S)) (hi' : Inj N ab) (hN : N ≤ 24) (hS : S.length = N) (hcl : Closed N ab (on S)) (hf : S[r]? = some false) :
    Calls Try.prog 55 #[.slice A N c, .int .i64 r, .slice C N cc] w fun e w' => e = .returned (.int .i64 ((cnt (clos N ab S r) - cnt S : Nat) : Int)) ∧ Row w' lo2 hi2 C N (VB (clos N ab S r)) ∧ Out lo2 hi2 w w' := by
  have hrN : r < N := by have := (List.getElem?_eq_some_iff.1 hf).1; omega
  obtain ⟨gA, oA, _, rfl, hgA, _, _⟩ := hx.at_ hrN
  obtain ⟨gC, oC, _, rfl, _, _, _, _, _⟩ := hy.at_ hrN
  have RA : Hid (∀ W, Out lo2 hi2 w W → ∀ k, k < N → W.cell? ⟨gA, oA + k, none⟩ = some (.int .i64 (at_ ab k))) := Lib.hid (fun W ho k hk => by
    obtain ⟨g, off, u, e, _, hu, hc⟩ := (hx.out ho (.inl hh)).at_ hk
    injection e with e; injection e with e1 e2; subst e1; subst e2
    rw [V_get (ab_get hi' hk)] at hu
    obtain rfl := Option.some.inj hu
    exact hc)
  have RD : Hid (∀ W, Out lo2 hi2 w W → Rd W hi (some ⟨gA, oA, none⟩) N (V ab)) := Lib.hid (fun W ho => hx.out ho (.inl hh))
  have HY := Lib.hid hy; have HI := Lib.hid hi'; have HC := Lib.hid hcl; have HF := Lib.hid hf
  have US := Lib.hid (Up.start hS hrN hcl)
  clear hx hy hi' hcl hf
  go_enter Try.func55, Try.ntmps55
  go_wp2
  go_loopw [7, 8] (fun nv kv wr => ∃ (M : List Bool) (cur : Int) (n : Nat), nv = .int .i64 n ∧ kv = .int .i64 cur ∧ Up N ab S r M cur ∧ n + cnt S = cnt M ∧ (0 < n ∨ cur = r ∧ M = S) ∧ Row wr lo2 hi2 (some ⟨gC, oC, none⟩) N (VB M) ∧ Out lo2 hi2 w wr) (fun nv _ _ => N - (intOf nv).toNat)
  case atStart => exact ⟨S, r, 0, rfl, rfl, US.out, by omega, .inr ⟨rfl, rfl⟩, HY.out, Out.refl _ _ _⟩
  case round =>
    obtain ⟨M, cur, n, rfl, rfl, hup, hn, hz, hrow, hout⟩ := hrel
    have UP := Lib.hid hup; have RW := Lib.hid hrow; have OT := Lib.hid hout
    have hnN : n ≤ N := by have := cnt_le M; have := hup.len; omega
    have curlo := hup.lo; have curhi := hup.hi
    clear hup hrow hout US
    have FIN : Hid ((cur < 0 ∨ ∃ c : Nat, cur = c ∧ on M c) → Sd N ab S r M n) := Lib.hid (fun hd => by
      refine (UP.out.done hd).sd hn ?_
      rcases hz with z | ⟨z1, z2⟩
      · exact z
      · exfalso
        rcases hd with q | ⟨c, q1, q2⟩
        · omega
        · have : c = r := by omega
          subst this
          rw [z2] at q2
          exact on_not HF.out q2)
    clear hz
    by_cases hneg : cur < 0
    · have DN := Lib.hid (FIN.out (.inl hneg))
      clear FIN UP hn
      go_wp2
      go_loopw [7, 9] (fun nv av wr => ∃ (M : List Bool) (n : Nat) (ag : Bool), nv = .int .i64 n ∧ av = .bool ag ∧ Sd N ab S r M n ∧ (ag = false → ∀ k x : Nat, k < N → at_ ab k = x → on M x → on M k) ∧ Row wr lo2 hi2 (some ⟨gC, oC, none⟩) N (VB M) ∧ Out lo2 hi2 w wr) (fun nv av _ => 2 * (N - (intOf nv).toNat) + bN av)
      case atStart => exact ⟨M, n, true, rfl, rfl, DN.out, (fun e => by cases e), RW.out, OT.out⟩
      case round =>
        obtain ⟨M, n, ag, rfl, rfl, hsd, hag, hrow, hout⟩ := hrel
        have SD := Lib.hid hsd; have RW := Lib.hid hrow; have OT := Lib.hid hout; have HAG := Lib.hid hag
        have hnN2 := hsd.le
        clear hsd hrow hout hag DN
        cases ag with
        | false =>
          have HE : Hid (M = clos N ab S r) := Lib.hid (SD.out.done (HAG.out rfl))
          have HH : Hid (n = cnt M - cnt S) := Lib.hid (by have := SD.out.cnt; omega)
          go_wp2
          go_ret
          exact ⟨ret_int (by rw [← HE.out, ← HH.out]), by rw [← HE.out]; exact RW.out, OT.out⟩
        | true =>
          go_wp2
          go_loopw [7, 9, 34] (fun nv av jv wr => ∃ (j : Nat) (M' : List Bool) (n' : Nat) (ag : Bool), j ≤ N ∧ jv = .int .i64 j ∧ nv = .int .i64 n' ∧ av = .bool ag ∧ Sd N ab S r M' n' ∧ (ag = true → n < n') ∧ (ag = false → n' = n ∧ ∀ k x : Nat, k < j → at_ ab k = x → on M' x → on M' k) ∧ Row wr lo2 hi2 (some ⟨gC, oC, none⟩) N (VB M') ∧ Out lo2 hi2 w wr) (fun _ _ jv _ => N - (intOf jv).toNat)
          case atStart => exact ⟨0, M, n, false, Nat.zero_le _, rfl, rfl, rfl, SD.out, (fun e => by cases e), fun _ => ⟨rfl, fun k x hk => by omega⟩, RW.out, OT.out⟩
          case round =>
            obtain ⟨j, M', n', ag, hj, rfl, rfl, rfl, hsd, ha1, ha2, hrow, hout⟩ := hrel
            have SJ := Lib.hid hsd; have RJ := Lib.hid hrow; have OJ := Lib.hid hout; have H1 := Lib.hid ha1; have H2 := Lib.hid ha2
            have hnN3 := hsd.le
            clear hsd hrow hout ha1 ha2 SD RW OT HAG
            by_cases hlt : j < N
            · have la := RA.out _ OJ.out j hlt
              have l1 := HI.out.low j hlt
              have l2 := HI.out.rng j hlt
              have SKIP : Hid ((∀ x : Nat, at_ ab j = x → on M' x → on M' j) → ag = false → n' = n ∧ ∀ k x : Nat, k < j + 1 → at_ ab k = x → on M' x → on M' k) := Lib.hid (fun hs e => ⟨(H2.out e).1, fun k x hk hx hox => by
                by_cases q : k = j
                · subst q; exact hs x hx hox
                · exact (H2.out e).2 k x (by omega) hx hox⟩)
              by_cases hx0 : at_ ab j < 0
              · have SK := Lib.hid (SKIP.out (fun x hx _ => by omega))
                clear SKIP H2
                generalize at_ ab j = z at *
                go_wp2
                go_roundw
                case rel => exact ⟨j + 1, M', n', ag, by omega, by go_num, rfl, rfl, SJ.out, H1.out, SK.out, RJ.out, OJ.out⟩
                case measure => simp [intOf]; omega
              · obtain ⟨x, hx⟩ : ∃ x : Nat, at_ ab j = x := ⟨(at_ ab j).toNat, by omega⟩
                have hxN : x < N := by omega
                have HX := Lib.hid hx
                rw [hx] at la
                clear hx l1 l2 hx0
                cases hMx : M'[x]? with
                | none => have := SJ.out.len; rw [List.getElem?_eq_none_iff] at hMx; omega
                | some bx =>
                  obtain ⟨kx, _, _, _⟩ := row_cells RJ.out hMx
                  cases bx with
                  | false =>
                    have SK := Lib.hid (SKIP.out (fun y hy hoy => by have : y = x := by have := HX.out; omega
                                                                     subst this; exact absurd hoy (on_not hMx)))
                    clear SKIP H2 hMx
                    go_wp2
                    go_roundw
                    case rel => exact ⟨j + 1, M', n', ag, by omega, by go_num, rfl, rfl, SJ.out, H1.out, SK.out, RJ.out, OJ.out⟩
                    case measure => simp [intOf]; omega
                  | true =>
                    cases hMj : M'[j]? with
                    | none => have := SJ.out.len; rw [List.getElem?_eq_none_iff] at hMj; omega
                    | some bj =>
                      obtain ⟨kj, fj, _, _⟩ := row_cells RJ.out hMj
                      cases bj with
                      | true =>
                        have SK := Lib.hid (SKIP.out (fun y hy hoy => hMj))
                        clear SKIP H2 hMx hMj
                        go_wp2
                        go_roundw
                        case rel => exact ⟨j + 1, M', n', ag, by omega, by go_num, rfl, rfl, SJ.out, H1.out, SK.out, RJ.out, OJ.out⟩
                        case measure => simp [intOf]; omega
                      | false =>
                        have JN := Lib.hid (jn_le (SJ.out.join HI.out HC.out hlt HX.out hMx (on_not hMj)) (show n' + 1 ≤ N + 1 by omega))
                        have NS := Lib.hid (SJ.out.step HI.out HC.out hMj HX.out hMx)
                        obtain ⟨m1, m2⟩ := row_mark RJ.out OJ.out hMj
                        have R1 := Lib.hid m1; have O1 := Lib.hid m2
                        have RDJ := Lib.hid (RD.out _ OJ.out)
                        have hnn : n < n' + 1 := by
                          cases ag with
                          | true => have := H1.out rfl; omega
                          | false => have := (H2.out rfl).1; omega
                        have hle := NS.out.le
                        clear SKIP H1 H2 hMx hMj m1 m2 RJ OJ
                        go_wp2_with (first | (go_at_call 66; refine (joined_spec (some ⟨gA, oA, none⟩) N c j r hi ab _ RDJ.out HI.out hN hlt JN.out).mono ?_; rintro e w' ⟨rfl, rfl⟩))
                        go_roundw
                        case rel => exact ⟨j + 1, M'.set j true, n' + 1, true, by omega, by go_num, by go_num, rfl, NS.out, (fun _ => hnn), (fun e => by cases e), R1.out, O1.out⟩
                        case measure => simp [intOf]; omega
            · have HA2 : Hid (ag = false → ∀ k x : Nat, k < N → at_ ab k = x → on M' x → on M' k) := Lib.hid (fun e k x hk => (H2.out e).2 k x (by omega))
              have hms : 2 * (N - n') + bN (.bool ag) < 2 * (N - n) + 1 := by
                cases ag with
                | true => have := H1.out rfl; simp [bN]; omega
                | false => have := (H2.out rfl).1; simp [bN]; omega
              clear H1 H2
              go_wp2
              go_roundw
              case rel => exact ⟨M', n', ag, rfl, rfl, SJ.out, HA2.out, RJ.out, OJ.out⟩
              case measure => simpa [intOf, bN] using hms
    · obtain ⟨k, rfl⟩ : ∃ k : Nat, cur = k := ⟨cur.toNat, by omega⟩
      have hkN : k < N := by omega
      cases hMk : M[k]? with
      | none => have := UP.out.len; rw [List.getElem?_eq_none_iff] at hMk; omega
      | some b =>
        obtain ⟨k3, f3, _, _⟩ := row_cells RW.out hMk
        cases b with
        | true =>
          have DN := Lib.hid (FIN.out (.inr ⟨k, rfl, hMk⟩))
          clear FIN UP hn hMk f3
          go_wp2
          go_loopw [7, 9] (fun nv av wr => ∃ (M : List Bool) (n : Nat) (ag : Bool), nv = .int .i64 n ∧ av = .bool ag ∧ Sd N ab S r M n ∧ (ag = false → ∀ k x : Nat, k < N → at_ ab k = x → on M x → on M k) ∧ Row wr lo2 hi2 (some ⟨gC, oC, none⟩) N (VB M) ∧ Out lo2 hi2 w wr) (fun nv av _ => 2 * (N - (intOf nv).toNat) + bN av)
          case atStart => exact ⟨M, n, true, rfl, rfl, DN.out, (fun e => by cases e), RW.out, OT.out⟩
          case round =>
            obtain ⟨M, n, ag, rfl, rfl, hsd, hag, hrow, hout⟩ := hrel
            have SD := Lib.hid hsd; have RW := Lib.hid hrow; have OT := Lib.hid hout; have HAG := Lib.hid hag
            have hnN2 := hsd.le
            clear hsd hrow hout hag DN
            cases ag with
            | false =>
              have HE : Hid (M = clos N ab S r) := Lib.hid (SD.out.done (HAG.out rfl))
              have HH : Hid (n = cnt M - cnt S) := Lib.hid (by have := SD.out.cnt; omega)
              go_wp2
              go_ret
              exact ⟨ret_int (by rw [← HE.out, ← HH.out]), by rw [← HE.out]; exact RW.out, OT.out⟩
            | true =>
              go_wp2
              go_loopw [7, 9, 34] (fun nv av jv wr => ∃ (j : Nat) (M' : List Bool) (n' : Nat) (ag : Bool), j ≤ N ∧ jv = .int .i64 j ∧ nv = .int .i64 n' ∧ av = .bool ag ∧ Sd N ab S r M' n' ∧ (ag = true → n < n') ∧ (ag = false → n' = n ∧ ∀ k x : Nat, k < j → at_ ab k = x → on M' x → on M' k) ∧ Row wr lo2 hi2 (some ⟨gC, oC, none⟩) N (VB M') ∧ Out lo2 hi2 w wr) (fun _ _ jv _ => N - (intOf jv).toNat)
              case atStart => exact ⟨0, M, n, false, Nat.zero_le _, rfl, rfl, rfl, SD.out, (fun e => by cases e), fun _ => ⟨rfl, fun k x hk => by omega⟩, RW.out, OT.out⟩
              case round =>
                obtain ⟨j, M', n', ag, hj, rfl, rfl, rfl, hsd, ha1, ha2, hrow, hout⟩ := hrel
                have SJ := Lib.hid hsd; have RJ := Lib.hid hrow; have OJ := Lib.hid hout; have H1 := Lib.hid ha1; have H2 := Lib.hid ha2
                have hnN3 := hsd.le
                clear hsd hrow hout ha1 ha2 SD RW OT HAG
                by_cases hlt : j < N
                · have la := RA.out _ OJ.out j hlt
                  have l1 := HI.out.low j hlt
                  have l2 := HI.out.rng j hlt
                  have SKIP : Hid ((∀ x : Nat, at_ ab j = x → on M' x → on M' j) → ag = false → n' = n ∧ ∀ k x : Nat, k < j + 1 → at_ ab k = x → on M' x → on M' k) := Lib.hid (fun hs e => ⟨(H2.out e).1, fun k x hk hx hox => by
                    by_cases q : k = j
                    · subst q; exact hs x hx hox
                    · exact (H2.out e).2 k x (by omega) hx hox⟩)
                  by_cases hx0 : at_ ab j < 0
                  · have SK := Lib.hid (SKIP.out (fun x hx _ => by omega))
                    clear SKIP H2
                    generalize at_ ab j = z at *
                    go_wp2
                    go_roundw
                    case rel => exact ⟨j + 1, M', n', ag, by omega, by go_num, rfl, rfl, SJ.out, H1.out, SK.out, RJ.out, OJ.out⟩
                    case measure => simp [intOf]; omega
                  · obtain ⟨x, hx⟩ : ∃ x : Nat, at_ ab j = x := ⟨(at_ ab j).toNat, by omega⟩
                    have hxN : x < N := by omega
                    have HX := Lib.hid hx
                    rw [hx] at la
                    clear hx l1 l2 hx0
                    cases hMx : M'[x]? with
                    | none => have := SJ.out.len; rw [List.getElem?_eq_none_iff] at hMx; omega
                    | some bx =>
                      obtain ⟨kx, _, _, _⟩ := row_cells RJ.out hMx
                      cases bx with
                      | false =>
                        have SK := Lib.hid (SKIP.out (fun y hy hoy => by have : y = x := by have := HX.out; omega
                                                                         subst this; exact absurd hoy (on_not hMx)))
                        clear SKIP H2 hMx
                        go_wp2
                        go_roundw
                        case rel => exact ⟨j + 1, M', n', ag, by omega, by go_num, rfl, rfl, SJ.out, H1.out, SK.out, RJ.out, OJ.out⟩
                        case measure => simp [intOf]; omega
                      | true =>
                        cases hMj : M'[j]? with
                        | none => have := SJ.out.len; rw [List.getElem?_eq_none_iff] at hMj; omega
                        | some bj =>
                          obtain ⟨kj, fj, _, _⟩ := row_cells RJ.out hMj
                          cases bj with
                          | true =>
                            have SK := Lib.hid (SKIP.out (fun y hy hoy => hMj))
                            clear SKIP H2 hMx hMj
                            go_wp2
                            go_roundw
                            case rel => exact ⟨j + 1, M', n', ag, by omega, by go_num, rfl, rfl, SJ.out, H1.out, SK.out, RJ.out, OJ.out⟩
                            case measure => simp [intOf]; omega
                          | false =>
                            have JN := Lib.hid (jn_le (SJ.out.join HI.out HC.out hlt HX.out hMx (on_not hMj)) (show n' + 1 ≤ N + 1 by omega))
                            have NS := Lib.hid (SJ.out.step HI.out HC.out hMj HX.out hMx)
                            obtain ⟨m1, m2⟩ := row_mark RJ.out OJ.out hMj
                            have R1 := Lib.hid m1; have O1 := Lib.hid m2
                            have RDJ := Lib.hid (RD.out _ OJ.out)
                            have hnn : n < n' + 1 := by
                              cases ag with
                              | true => have := H1.out rfl; omega
                              | false => have := (H2.out rfl).1; omega
                            have hle := NS.out.le
                            clear SKIP H1 H2 hMx hMj m1 m2 RJ OJ
                            go_wp2_with (first | (go_at_call 66; refine (joined_spec (some ⟨gA, oA, none⟩) N c j r hi ab _ RDJ.out HI.out hN hlt JN.out).mono ?_; rintro e w' ⟨rfl, rfl⟩))
                            go_roundw
                            case rel => exact ⟨j + 1, M'.set j true, n' + 1, true, by omega, by go_num, by go_num, rfl, NS.out, (fun _ => hnn), (fun e => by cases e), R1.out, O1.out⟩
                            case measure => simp [intOf]; omega
                · have HA2 : Hid (ag = false → ∀ k x : Nat, k < N → at_ ab k = x → on M' x → on M' k) := Lib.hid (fun e k x hk => (H2.out e).2 k x (by omega))
                  have hms : 2 * (N - n') + bN (.bool ag) < 2 * (N - n) + 1 := by
                    cases ag with
                    | true => have := H1.out rfl; simp [bN]; omega
                    | false => have := (H2.out rfl).1; simp [bN]; omega
                  clear H1 H2
                  go_wp2
                  go_roundw
                  case rel => exact ⟨M', n', ag, rfl, rfl, SJ.out, HA2.out, RJ.out, OJ.out⟩
                  case measure => simpa [intOf, bN] using hms
        | false =>
          obtain ⟨m1, m2⟩ := row_mark RW.out OT.out hMk
          have R1 := Lib.hid m1; have O1 := Lib.hid m2
          have la := RA.out _ m2 k hkN
          have NU := Lib.hid (UP.out.step HI.out hMk)
          have NC : Hid (n + 1 + cnt S = cnt (M.set k true)) := Lib.hid (by rw [cnt_set hMk]; omega)
          have hn1 : n + 1 ≤ N := by have := cnt_le (M.set k true); have := NU.out.len; have := NC.out; omega
          clear hMk m1 m2 FIN UP hn hneg RW OT
          generalize at_ ab k = nx at *
          go_wp2
          go_roundw
          case rel => exact ⟨M.set k true, nx, n + 1, by go_num, rfl, NU.out, NC.out, .inl (by omega), R1.out, O1.out⟩
          case measure => simp [intOf]; omega
end Go.Proofs.Ytpbbfbpggedgpaa.cy
