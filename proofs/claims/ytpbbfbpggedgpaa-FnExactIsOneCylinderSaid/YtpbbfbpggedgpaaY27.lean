import Derived.Test.YtpbbfbpggedgpaaY26
import Derived.Test.YtpbbfbpggedgpaaY21
/-
  spec.l08Cylinders, spec.CylindersOf.
-/
namespace Go.Proofs.Ytpbbfbpggedgpaa.cy
open Go.ChangeShapes Go.WideShapes Go.ChangeAt Go.RowKit
open Go.Proofs.Ytpbbfbpggedgpaa.mem Go.Proofs.Ytpbbfbpggedgpaa.ints Go.Proofs.Ytpbbfbpggedgpaa.arr Go.Proofs.Ytpbbfbpggedgpaa.pm Go.Proofs.Ytpbbfbpggedgpaa.permOf Go.Proofs.Ytpbbfbpggedgpaa.fns Go.Proofs.Ytpbbfbpggedgpaa.sf Go.Proofs.Ytpbbfbpggedgpaa.mat Go.Proofs.Ytpbbfbpggedgpaa.gl Go.Proofs.Ytpbbfbpggedgpaa.lp
set_option linter.unusedVariables false
set_option maxRecDepth 100000

/-- Amid the specification's list. -/
structure Cq (w4 wr : World) (lo2 : Nat) (S : Option Addr) (N : Nat) (ab : List Int) (rr : List (List Int)) (v : Value) (k : Nat) : Prop where
  row : Row wr lo2 w4.heap.size S N (VB (cyS ab rr k).1)
  own : wr.ownsRow w4.heap.size 64 2 v (cyS ab rr k).2.length (V (fl (cyS ab rr k).2))
  out : Out lo2 w4.heap.size w4 wr
theorem own_Out {w w' : World} {base n lo hi : Nat} {v : Value} {xs : List Value} {e : TypeId} {size : Nat} (h : w.ownsRow base e size v n xs) (hf : Out lo hi w w') (hb : hi ≤ base) : w'.ownsRow base e size v n xs := by
  refine ⟨h.1, ?_⟩
  rcases h.2 with h0 | ⟨g, cap, cur, h1, h2, h3, h4⟩
  · exact .inl h0
  · refine .inr ⟨g, cap, cur, h1, h2, ?_, h4⟩
    have hlt : g < w.heap.size := by
      rcases Nat.lt_or_ge g w.heap.size with q | q
      · exact q
      · rw [Array.getElem?_eq_none q] at h3; cases h3
    rw [hf.block g hlt (.inr (by omega))]
    exact h3
theorem Out.grown_ {lo hi : Nat} {w W w' : World} {base n : Nat} {v : Value} {xs : List Value} {e : TypeId} {size : Nat} (h : Out lo hi w W) (ho : W.ownsRow base e size v n xs) (hb : w.heap.size ≤ base) (hg : W.grownBy w' v.ownBlock) : Out lo hi w w' :=
  ⟨hg.os.trans h.os, hg.tape.trans h.tape, hg.output.trans h.output, Nat.le_trans h.size hg.size, fun k h1 h2 => (hg.block k (Nat.lt_of_lt_of_le h1 h.size) (fun e => by have := (ho.lt k e.symm).1; omega)).trans (h.block k h1 h2)⟩
theorem Row.grown_ {lo hi N : Nat} {W w' : World} {base n : Nat} {v : Value} {xs ys : List Value} {e : TypeId} {size : Nat} {S : Option Addr} (h : Row W lo hi S N ys) (ho : W.ownsRow base e size v n xs) (hb : hi ≤ base) (hg : W.grownBy w' v.ownBlock) : Row w' lo hi S N ys :=
  Row.mid h hg.size (fun k h1 h2 => hg.block k (by have := h.2.1; omega) (fun e => by have := (ho.lt k e.symm).1; omega))

set_option maxHeartbeats 2000000 in
theorem cys_spec (v : Value) (r u : List Int) (n hi : Nat) (w : World) (hx : Srd w hi v r u) (hs : transB r u = true) (hl : r.length = n) :
    Calls Try.prog 41 #[v] w (CGives (cyL (abF (comm r u) u (cycF r)) (cycF r)) w) := by
  have HX := Lib.hid hx; clear hx
  have SW : Hid (Sw n r u (cycF r)) := Lib.hid (cycF_rows hs hl)
  have hn24 : n ≤ 24 := SW.out.sf.small
  have HL := Lib.hid hl
  clear hs hl
  obtain ⟨P, p, c, Q, q, d, rfl, q1, q2, e1, e2, ht, HR⟩ := HX.out.open
  obtain rfl : n = p := by rw [← q1]; exact HL.out.symm
  clear HR q1 q2
  have A0 := Lib.hid (Arr.new w [.slice P n c, .slice Q q d] 30 rfl)
  have c0 := A0.out.cell (k := 0) rfl
  have X0 := Lib.hid (HX.out.keep ((Below.refl hi w).alloc ht (.cells #[.slice P n c, .slice Q q d] 30)) (Nat.le_refl _))
  have B0 : Hid (Below w.heap.size w (w.alloc (.cells #[.slice P n c, .slice Q q d] 30))) := Lib.hid ((Below.refl _ _).alloc (Nat.le_refl _) _)
  go_enter Try.func41, Try.ntmps41
  go_wp2_with fail
  refine (cyc_spec P n c r hi _ (Srd.fst X0.out) (by omega) e1).mono ?_
  rintro e w2 ⟨P2, c2, rfl, o2, b2⟩
  have O2 := Lib.hid o2
  have s2 := b2.size
  have X2 := Lib.hid (X0.out.keep b2 X0.out.top)
  have A2 := Lib.hid (A0.out.keep b2 A0.out.lt)
  have B2 := Lib.hid (B0.out.trans (b2.mono B0.out.size))
  have d0 := A2.out.cell (k := 0) rfl
  have d1 := A2.out.cell (k := 1) rfl
  clear o2 b2 c0 X0 B0 A0
  generalize hL : cyL (abF (comm r u) u (cycF r)) (cycF r) = L at *
  have HLL := Lib.hid hL; clear hL
  generalize hrr : cycF r = rr at *
  clear hrr
  have LNn : Hid (rr.length ≤ n) := Lib.hid SW.out.rw.len
  have INJ := Lib.hid (ab_inj SW.out.sf SW.out.rw)
  generalize hN : rr.length = N at *
  have LN := Lib.hid hN; clear hN
  have hN24 : N ≤ 24 := by have := LNn.out; omega
  go_wp2_with fail
  refine (above_spec _ r u P2 N c2 n rr hi _ _ _ X2.out O2.out SW.out).mono ?_
  rintro e w3 ⟨v3, rfl, o3, b3⟩
  obtain ⟨P3, c3, rfl⟩ := own_form o3
  have LA : Hid ((abF (comm r u) u rr).length = N) := Lib.hid (by rw [abF_len, LN.out])
  have R3 := Lib.hid (Row.of_own o3)
  rw [LA.out] at R3 ⊢
  have s3 := b3.size
  have O3 := Lib.hid (O2.out.keep b3 O2.out.2.1)
  have B3 := Lib.hid (B2.out.trans (b3.mono B2.out.size))
  have RA3 := Lib.hid (R3.out.rd)
  clear o3 b3 d0 d1 O2 B2 A2 X2 R3
  generalize hab : abF (comm r u) u rr = ab at *
  clear hab
  have OK : Hid (∀ k, k ≤ N → (cyS ab rr k).1.length = N ∧ Closed N ab (on (cyS ab rr k).1) ∧ (cyS ab rr k).2.length ≤ k) := Lib.hid (fun k hk => by have h := cyS_ok (ab := ab) (rr := rr) (by rw [LN.out]; exact INJ.out) k (by rw [LN.out]; exact hk); rwa [LN.out] at h)
  obtain ⟨j0, hj0, hy0, hy1, hy2⟩ := info_parts infoB
  have HY2 := Lib.hid hy2; clear hy2
  go_wp2_with (at_make; refine wpList_make_full _ rfl _ _ 73 rfl w3.heap.size 4 j0 _ 1 Try.underlying73 hj0 hy0 hy1 _ _ _ _ N rfl rfl rfl rfl ?b2 ?b3 (Nat.le_refl _) ?_)
  case b2 => rw [HY2.out]; omega
  case b3 => unfold maxLen; omega
  intro w4 hown hg
  have B4 : Hid (Below w3.heap.size w3 w4) := Lib.hid ((Below.refl _ _).grown hg (Nat.le_refl _) (by simp))
  have s4 := B4.out.size
  have SR : Hid (Row w4 w3.heap.size w4.heap.size (some ⟨w3.heap.size, 0, none⟩) N (VB (List.replicate N false))) := Lib.hid (by
    have h := Row.of_own hown
    have e : (madeCells #[Value.bool false] N).toList = VB (List.replicate N false) := by simp [VB, toList_madeCells_one]
    rwa [e] at h)
  clear hown hg
  have CQ0 : Hid (∀ W, W = w4.alloc (.cells #[] 64) → Cq w4 W w3.heap.size (some ⟨w3.heap.size, 0, none⟩) N ab rr (.slice (some ⟨w4.heap.size, 0, none⟩) 0 0) 0) := Lib.hid (fun W e => by
    subst e
    refine ⟨?_, ⟨rfl, .inr ⟨w4.heap.size, 0, #[], rfl, Nat.le_refl _, heap_alloc_last w4 _, Nat.le_refl _, by simp, rfl, rfl⟩⟩, Out.of_below ((Below.refl _ _).alloc (Nat.le_refl _) _)⟩
    have h := SR.out.keep ((Below.refl w4.heap.size w4).alloc (Nat.le_refl _) (.cells #[] 64)) (Nat.le_refl _)
    rw [cyS, LN.out]; exact h)
  obtain ⟨i0, hi0, hz0, hz1, hz2⟩ := info_parts infoCy
  go_wp2
  generalize hw5 : w4.alloc (.cells #[] 64) = w5 at *
  have CQ1 := Lib.hid (CQ0.out _ rfl)
  clear CQ0 hw5
  go_loopw [6, 21] (fun v i wr => ∃ k : Nat, k ≤ N ∧ i = .int .i64 k ∧ Cq w4 wr w3.heap.size (some ⟨w3.heap.size, 0, none⟩) N ab rr v k) (fun _ i _ => N - (intOf i).toNat)
  case atStart => exact ⟨0, Nat.zero_le _, rfl, CQ1.out⟩
  case round =>
    obtain ⟨k, hk, rfl, hcq⟩ := hrel
    obtain ⟨C, cc, rfl⟩ := own_form hcq.own
    have CQ := Lib.hid hcq; clear hcq CQ1
    have hsz := CQ.out.out.size
    by_cases hlt : k < N
    · obtain ⟨xs, hxk⟩ : ∃ xs, rr[k]? = some xs := ⟨_, List.getElem?_eq_getElem (by rw [LN.out]; exact hlt)⟩
      have OM := Lib.hid ((O3.out.keep B4.out O3.out.2.1).out CQ.out.out (.inl O3.out.2.1))
      obtain ⟨G, off, A1, c1, rfl, hcx, _⟩ := Mat.in_ OM.out hxk
      have xl : xs.length ≤ 24 := by have := (SW.out.rw.way hxk).choose_spec.2.2.inn.len; omega
      have WID : Hid (rr.getD k [] = xs) := Lib.hid (by simp [List.getD, hxk])
      obtain ⟨ok1, ok2, ok3⟩ := OK.out k hk
      have OK2 := Lib.hid ok2
      clear hxk ok2 OM
      cases hMk : (cyS ab rr k).1[k]? with
      | none => rw [List.getElem?_eq_none_iff] at hMk; omega
      | some b =>
        obtain ⟨k3, f3, _, _⟩ := row_cells CQ.out.row hMk
        rw [Nat.zero_add] at k3
        cases b with
        | true =>
          have NX : Hid (Cq w4 wr w3.heap.size (some ⟨w3.heap.size, 0, none⟩) N ab rr (.slice C (cyS ab rr k).2.length cc) (k + 1)) := Lib.hid (by
            have e := cyS_yes hMk
            exact ⟨by rw [e]; exact CQ.out.row, by rw [e]; exact CQ.out.own, CQ.out.out⟩)
          clear hMk OK2 f3
          generalize (cyS ab rr k).2.length = ll at *
          go_wp2
          go_roundw
          case rel => exact ⟨k + 1, by omega, by go_num, NX.out⟩
          case measure => simp [intOf]; omega
        | false =>
          have MK := Lib.hid hMk
          have EQ := Lib.hid (cyS_no hMk)
          rw [LN.out, WID.out] at EQ
          have RWk := Lib.hid CQ.out.row
          have OWk := Lib.hid CQ.out.own
          have OTk := Lib.hid CQ.out.out
          have RDk := Lib.hid ((RA3.out.keep B4.out (Nat.le_refl _)).out CQ.out.out (.inl (Nat.le_refl _)))
          have ok3' : (cyS ab rr k).2.length ≤ 24 := by omega
          clear hMk f3 CQ
          generalize (cyS ab rr k).2 = Lk at *
          generalize (cyS ab rr k).1 = S at *
          go_wp2_with fail
          refine (mark_spec P3 c3 (some ⟨w3.heap.size, 0, none⟩) N N k w3.heap.size w3.heap.size w4.heap.size ab S wr RDk.out (Nat.le_refl _) RWk.out INJ.out hN24 ok1 OK2.out MK.out).mono ?_
          rintro e w6 ⟨rfl, r6, o6⟩
          have R6 := Lib.hid r6
          have OW6 := Lib.hid (own_Out OWk.out o6 (Nat.le_refl _))
          have OT6 := Lib.hid (OTk.out.trans o6)
          have s6 := o6.size
          clear r6 o6 RWk OWk OTk RDk k3 hcx
          generalize hh : ((cnt (clos N ab S k) - cnt S : Nat) : Int) = hgt at *
          have FL : Hid (V (fl (Lk ++ [((xs.length : Int), hgt)])) = V (fl Lk) ++ [.int .i64 xs.length, .int .i64 hgt]) := Lib.hid (by rw [fl_app]; simp [V, fl])
          clear hh
          go_wp2_with (at_builtin; refine wpList_append_lies (w6.alloc (.cells #[.int .i64 xs.length, .int .i64 hgt] 64)) rfl _ _ 37 rfl w4.heap.size 64 i0 _ 2 16 Try.underlying37 hi0 hz0 hz1 hz2 rfl (by decide) _ Lk.length (V (fl Lk)) rfl (OW6.out.alloc _) ⟨w6.heap.size, 0, none⟩ 1 1 [.int .i64 xs.length, .int .i64 hgt] rfl rfl ?hn ?h1 (by decide) ?c4 ?c5 ?c6 _ rfl ?_)
          case hn => exact World.news_of_block (Arr.new w6 _ _ rfl)
          case h1 => intro q hq; simp at hq; rcases hq with rfl | rfl <;> rfl
          case c4 => unfold maxLen; omega
          case c5 => omega
          case c6 => simp; omega
          intro g7 cap7 w7 ho hg hb hlt7
          have OWW := OW6.out.alloc (.cells #[.int .i64 xs.length, .int .i64 hgt] 64)
          have OTW : Out w3.heap.size w4.heap.size w4 (w6.alloc (.cells #[.int .i64 xs.length, .int .i64 hgt] 64)) := OT6.out.trans (Out.of_below ((Below.refl _ _).alloc (Nat.le_refl _) _))
          have R6W := R6.out.keep ((Below.refl w6.heap.size w6).alloc (Nat.le_refl _) (.cells #[.int .i64 xs.length, .int .i64 hgt] 64)) R6.out.2.1
          have NX : Hid (Cq w4 w7 w3.heap.size (some ⟨w3.heap.size, 0, none⟩) N ab rr (.slice (some ⟨g7, 0, none⟩) (Lk.length + 1) cap7) (k + 1)) := Lib.hid ⟨by rw [EQ.out]; exact Row.grown_ R6W OWW (Nat.le_refl _) hg, by rw [EQ.out, FL.out]; simpa using ho, Out.grown_ OTW OWW (Nat.le_refl _) hg⟩
          clear ho hg hb OTW OWW R6W R6 OW6 OT6 EQ
          go_wp2
          go_roundw
          case rel => exact ⟨k + 1, by omega, by go_num, NX.out⟩
          case measure => simp [intOf]; omega
    · obtain rfl : N = k := by omega
      have HE : Hid (L = (cyS ab rr N).2) := Lib.hid (by rw [← HLL.out, cyL, LN.out])
      have OW := Lib.hid CQ.out.own
      have BF : Hid (Below w.heap.size w wr) := Lib.hid ((B3.out.trans (B4.out.mono B3.out.size)).trans (CQ.out.out.below B3.out.size (by have := B3.out.size; omega)))
      have hlw : w.heap.size ≤ w4.heap.size := by have := B3.out.size; omega
      clear CQ HLL OK
      rw [← HE.out] at OW ⊢
      clear HE
      go_wp2
      go_ret
      exact ⟨C, cc, rfl, (Crow.of_own' rfl OW.out).low hlw, BF.out⟩

end Go.Proofs.Ytpbbfbpggedgpaa.cy
