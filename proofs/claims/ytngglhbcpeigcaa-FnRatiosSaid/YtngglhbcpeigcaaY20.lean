import Derived.Test.YtngglhbcpeigcaaY19
/-
  ModuliOf of the program.
-/
namespace Go.Proofs.Ytngglhbcpeigcaa.rat
open Go.ChangeShapes Go.WideShapes Go.ChangeAt Go.RowKit
open Go.Proofs.Ytngglhbcpeigcaa.mem Go.Proofs.Ytngglhbcpeigcaa.ints Go.Proofs.Ytngglhbcpeigcaa.arr Go.Proofs.Ytngglhbcpeigcaa.pm Go.Proofs.Ytngglhbcpeigcaa.permOk Go.Proofs.Ytngglhbcpeigcaa.sf Go.Proofs.Ytngglhbcpeigcaa.gl Go.Proofs.Ytngglhbcpeigcaa.cy
set_option linter.unusedVariables false
set_option maxRecDepth 100000
set_option linter.unusedSimpArgs false

theorem out_setRow {lo hi : Nat} {w w' : World} (h : Out lo hi w w') {g : Nat} (h1 : lo ≤ g) (h2 : g < hi) (cs : Array Value) : Out lo hi w (w'.setRow g cs) :=
  ⟨h.os, h.tape, h.output, by simpa using h.size, fun k hk hne => (setRow_other w' g k cs (by omega)).trans (h.block k hk hne)⟩
theorem nx_step {L : List (Int × Int)} (hL : ∀ x ∈ L, ∃ w h : Nat, x = ((w : Int), (h : Int)) ∧ 1 ≤ w ∧ w ≤ 24 ∧ h ≤ 24) (hs : wS L ≤ 24) (hl : L.length ≤ 24) {k w h : Nat} (hx : L[k]? = some ((w : Int), (h : Int))) {sn sd on od : Int} (e1 : mdK L k = (sn, sd)) (e2 : ofF (h : Int) (w : Int) = (on, od)) : Nx sn sd on od := by
  have := md_step hL hs hl hx
  rw [e1, e2] at this
  exact this
set_option maxHeartbeats 8000000 in
theorem moduli_any (r u : List Int) (n : Nat) (w : World) (hq : transB r u = true) (hl : r.length = n) :
    Calls Try.prog 36 #[.agg (V (gl (ext r) (ext u) n)).toArray] w fun e w' => e = .returned (rv (modF r u)) ∧ Below w.heap.size w w' := by
  have HS : Hid (Sf n r u) := Lib.hid (by have := transB_iff.1 hq; rwa [hl] at this)
  have L49 := gl_len (ext_len r) (ext_len u) n
  have HF := Lib.hid (modF_yes hq)
  have CA := Lib.hid (cyl_all hq)
  have n24 : Hid (r.length ≤ 24) := Lib.hid (transB_iff.1 hq).small
  have HC := Lib.hid (cyF_yes hq).symm
  have L24 := cyF_24 r u
  have WS : Hid (wS (cyF r u) ≤ 24) := Lib.hid (by have := (wS_le CA.out.2.2).1; rw [CA.out.1] at this; have := n24.out; omega)
  have EA : Hid (∀ x ∈ cyF r u, ∃ w h : Nat, x = ((w : Int), (h : Int)) ∧ 1 ≤ w ∧ w ≤ 24 ∧ h ≤ 24) := Lib.hid (fun x hx => by
      obtain ⟨w, h, e, h1, h2, h3⟩ := CA.out.2.2 x hx
      refine ⟨w, h, e, h1, h3, ?_⟩
      have := (wS_le CA.out.2.2).2.1 x hx
      rw [CA.out.2.1, e] at this
      have hl := (cycF_rows hq rfl).rw.len
      have := n24.out
      omega)
  clear CA n24 hq hl
  go_enter Try.func36, Try.ntmps36
  have AGF : Hid (∀ x y : Obj, Arr (((w.alloc (.cells (V (gl (ext r) (ext u) n)).toArray 62)).alloc x).alloc y) w.heap.size (V (gl (ext r) (ext u) n)) 62) := Lib.hid (fun x y => ((Arr.new w _ _ rfl).alloc _).alloc _)
  go_wp2_with (first | (refine wpList_build rfl 24 _ rfl [(1, .int .i64 1)] rfl #[.int .i64 0, .int .i64 1] builtR1 ?_) | (refine wpList_load_row rfl 62 _ rfl w.heap.size rfl 62 (V (gl (ext r) (ext u) n)).toArray (0, 0) _ (AGF.out _ _) Try.underlying62 rfl (size49 L49) ?_) | fail)
  generalize hw3 : ((w.alloc (.cells (V (gl (ext r) (ext u) n)).toArray 62)).alloc (.cells #[.int .i64 0, .int .i64 0] 24)).alloc (.cells #[.int .i64 0, .int .i64 1] 24) = w3
  have A2 : Hid (Arr w3 (w.heap.size + 1) [.int .i64 0, .int .i64 0] 24) := Lib.hid (by rw [← hw3]; exact (Arr.new _ _ _ (by simp)).alloc _)
  have A5 : Hid (Arr w3 (w.heap.size + 2) [.int .i64 0, .int .i64 1] 24) := Lib.hid (by rw [← hw3]; exact Arr.new _ _ _ (by simp))
  have B1 : Hid (Below w.heap.size w w3) := Lib.hid (by rw [← hw3]; exact (((Below.refl _ _).alloc (Nat.le_refl _) _).alloc (by simp) _).alloc (by simp <;> omega) _)
  have s3 : w.heap.size + 3 ≤ w3.heap.size := by rw [← hw3]; simp
  clear hw3 AGF
  refine (cys_any r u n _ HS.out).mono ?_
  rw [HC.out]
  rintro e w4 ⟨C, cc, rfl, o4, b4⟩
  have O4 := Lib.hid o4
  have s4 := b4.size
  generalize hsb : w.heap.size + 2 = sb at *
  have s1' : w.heap.size + 2 ≤ sb := by omega
  have s3' : sb + 1 ≤ w3.heap.size := by omega
  have s4' : sb + 1 ≤ w4.heap.size := by omega
  replace A2 := Lib.hid (A2.out.keep b4 A2.out.lt)
  replace A5 := Lib.hid (A5.out.keep b4 A5.out.lt)
  have B4 := Lib.hid (B1.out.trans (b4.mono B1.out.size))
  clear o4 b4 HC B1 s3 s4 hsb HS L49
  generalize cyF r u = L at *
  have K0 : mdK L 0 = (0, 1) := rfl
  go_wp2_with fail
  go_loopw [10] (fun i wr => ∃ k : Nat, k ≤ L.length ∧ i = .int .i64 k ∧ Arr wr sb [.int .i64 (mdK L k).1, .int .i64 (mdK L k).2] 24 ∧ Out sb (sb + 1) w4 wr) (fun i _ => L.length - (intOf i).toNat)
  case atStart => exact ⟨0, Nat.zero_le _, rfl, A5.out, Out.refl _ _ _⟩
  case round =>
    clear A5
    obtain ⟨k, hk, rfl, ha, ho⟩ := hrel
    have A5 := Lib.hid ha; have OL := Lib.hid ho; clear ha ho
    have swr := OL.out.size
    have ft := mdK_fit L k
    by_cases hlt : k < L.length
    · obtain ⟨g, off, x, rfl, hg, hsk, c0, c1⟩ := (O4.out.out OL.out (Or.inr (by omega))).rd.at_ hlt
      obtain ⟨ww, hh, rfl, w1_, w24, h24⟩ := EA.out x (List.mem_of_getElem? hsk)
      have NX := Lib.hid (mdK_succ hsk)
      have NS := Lib.hid (fun (sn sd on od : Int) (h1 : mdK L k = (sn, sd)) (h2 : ofF (hh : Int) (ww : Int) = (on, od)) => nx_step EA.out WS.out L24 hsk h1 h2)
      have RX := Lib.hid (two_cells c0 c1)
      clear hsk c0 c1
      obtain ⟨⟨sn, sd⟩, hs⟩ : ∃ q, q = mdK L k := ⟨_, rfl⟩
      rw [← hs] at A5 NX ft NS
      clear hs
      obtain ⟨⟨on, od⟩, ho⟩ : ∃ q, q = ofF (hh : Int) (ww : Int) := ⟨_, rfl⟩
      have fo := ofF_fit (hh : Int) (ww : Int)
      have NX2 : Hid (mdK L (k + 1) = rsF sn sd on od) := Lib.hid (by rw [NX.out, mdS, ← ho])
      have NS2 : Hid (Nx sn sd on od) := Lib.hid (NS.out sn sd on od rfl ho.symm)
      have HO := Lib.hid ho
      rw [← ho] at fo
      clear ho NX NS
      obtain ⟨f1, f2⟩ := ft
      obtain ⟨f3, f4⟩ := fo
      dsimp only at f1 f2 f3 f4 A5
      go_wp2_with (first | (refine wpList_load_mid rfl 34 _ rfl g (off + k * 2) rfl [.int .i64 ww, .int .i64 hh] _ RX.out Try.underlying34 rfl (sizeCy _ _) ?_) | fail)
      have NB : Hid (Arr (wr.alloc (.cells #[.int .i64 ww, .int .i64 hh] 34)) wr.heap.size [.int .i64 ww, .int .i64 hh] 34) := Lib.hid (Arr.new wr _ _ rfl)
      have b1 : Below wr.heap.size wr (wr.alloc (.cells #[.int .i64 ww, .int .i64 hh] 34)) := (Below.refl _ _).alloc (Nat.le_refl _) _
      generalize wr.alloc (.cells #[.int .i64 ww, .int .i64 hh] 34) = wa at *
      have sa := b1.size
      replace A5 := Lib.hid (A5.out.keep b1 A5.out.lt)
      have BA := Lib.hid (OL.out.trans (Out.of_below b1))
      have h5 := A5.out.lt; have hb := NB.out.lt
      clear RX b1
      refine wp_region_held_drew (S := Hld sb wa.heap.size wa [(wr.heap.size, [.int .i64 ww, .int .i64 hh])]) (by kernel_rfl) ((Hld.start1 NB.out).lower (by omega)) (fun hHeld => ?_)
      have b1 : Below wa.heap.size wa wa.drew := ⟨rfl, rfl, rfl, Nat.le_refl _, fun _ _ => rfl⟩
      generalize wa.drew = wd at *
      have sd_ := b1.size
      replace A5 := Lib.hid (A5.out.keep b1 A5.out.lt)
      replace BA := Lib.hid (BA.out.trans (Out.of_below b1))
      clear b1 NB
      refine wpAnyH_take (i := 1) (v := .pointer (some ⟨wr.heap.size, 1, none⟩)) rfl (by kernel_rfl) (by kernel_rfl) (by kernel_rfl) (fun _ _ _ h => h) (Or.inl ⟨by first | kernel_rfl | rfl, fun w hSw => by go_simp⟩) hHeld ?_
      refine wpAnyH_take (i := 2) (v := .int .i64 (hh : Int)) rfl (by kernel_rfl) (by kernel_rfl) (by kernel_rfl) (fun _ _ _ h => h) (Or.inl ⟨by first | kernel_rfl | rfl, fun w hSw => by have h := hSw.c1; go_simp⟩) hHeld ?_
      refine wpAnyH_take (i := 3) (v := .pointer (some ⟨wr.heap.size, 0, none⟩)) rfl (by kernel_rfl) (by kernel_rfl) (by kernel_rfl) (fun _ _ _ h => h) (Or.inl ⟨by first | kernel_rfl | rfl, fun w hSw => by go_simp⟩) hHeld ?_
      refine wpAnyH_take (i := 4) (v := .int .i64 (ww : Int)) rfl (by kernel_rfl) (by kernel_rfl) (by kernel_rfl) (fun _ _ _ h => h) (Or.inl ⟨by first | kernel_rfl | rfl, fun w hSw => by have h := hSw.c0; go_simp⟩) hHeld ?_
      refine wpAnyH_ready (rs := [0, 5]) (by kernel_rfl) (by simp) (AllReadyH.cons rfl (fun K hK => ?_) (AllReadyH.cons rfl (fun K hK => ?_) AllReadyH.nil))
      · refine permOf.step_load_row rfl 24 _ rfl sb rfl 24 #[.int .i64 sn, .int .i64 sd] (0, 0) _ A5.out Try.underlying24 rfl (sizeR _ _) ?_
        refine hK.out _ _ hHeld (fun hHeld2 => ?_)
        clear hK K hHeld
        have hHeld := hHeld2; clear hHeld2
        refine wpAnyH_ready (rs := [5]) (by kernel_rfl) (by simp) (AllReadyH.cons rfl (fun K hK => ?_) AllReadyH.nil)
        go_simp
        refine (rof_impl (hh : Int) (ww : Int) _ (by omega) (by omega) (by omega) (by omega)).mono ?_
        rintro e we ⟨rfl, b1⟩
        have se := b1.size
        rw [← HO.out]
        replace A5 := Lib.hid (A5.out.keep b1 A5.out.lt)
        replace BA := Lib.hid (BA.out.trans (Out.of_below b1))
        have hHeld2 := hHeld.later b1 (by omega); clear b1 hHeld
        unfold rv
        go_wp2_with fail
        refine hK.out _ _ hHeld2 (fun hHeld => ?_)
        clear hK K hHeld2
        refine wpAnyH_ready (rs := [6]) (by kernel_rfl) (by simp) (AllReadyH.cons rfl (fun K hK => ?_) AllReadyH.nil)
        go_simp
        refine (rsum_impl sn sd on od _ NS2.out.1 NS2.out.2.1 NS2.out.2.2.1 NS2.out.2.2.2).mono ?_
        rintro e wf ⟨rfl, b1⟩
        have sf_ := b1.size
        rw [← NX2.out]
        obtain ⟨⟨tn, td⟩, hs⟩ : ∃ q, q = mdK L (k + 1) := ⟨_, rfl⟩
        rw [← hs]
        have HS := Lib.hid hs; clear hs
        replace A5 := Lib.hid (A5.out.keep b1 A5.out.lt)
        replace BA := Lib.hid (BA.out.trans (Out.of_below b1))
        have hHeld2 := hHeld.later b1 (by omega); clear b1 hHeld
        unfold rv
        go_wp2_with fail
        refine hK.out _ _ hHeld2 (fun hHeld => ?_)
        clear hK K hHeld2
        try dsimp only [List.getElem_toArray, List.getElem_cons_zero, List.getElem_cons_succ]
        try simp only [Act.put, List.setIfInBounds_toArray, List.set_cons_zero, List.set_cons_succ]
        refine wpAnyH_ready (rs := [7]) (by kernel_rfl) (by simp) (AllReadyH.cons rfl (fun K hK => ?_) AllReadyH.nil)
        refine permOf.step_store_row rfl 24 _ _ rfl sb #[.int .i64 tn, .int .i64 td] rfl rfl 24 #[.int .i64 sn, .int .i64 sd] A5.out (sizeR _ _) rfl (by simp [Value.oneCell']) ?_
        refine hK.out _ _ (hHeld.other (by omega) (by simp; omega) _) (fun hHeld2 => ?_)
        clear hK K hHeld2
        refine wpAnyH_done (by kernel_rfl) ?_ _
        try dsimp only [List.getElem_toArray, List.getElem_cons_zero, List.getElem_cons_succ]
        try simp only [Act.put, List.setIfInBounds_toArray, List.set_cons_zero, List.set_cons_succ]
        have A6 : Hid (Arr (wf.setRow sb #[.int .i64 tn, .int .i64 td]) sb [.int .i64 (mdK L (k + 1)).1, .int .i64 (mdK L (k + 1)).2] 24) := Lib.hid (by rw [← HS.out]; exact A5.out.row)
        have B6 : Hid (Out sb (sb + 1) w4 (wf.setRow sb #[.int .i64 tn, .int .i64 td])) := Lib.hid (out_setRow BA.out (Nat.le_refl _) (by omega) _)
        generalize wf.setRow sb #[.int .i64 tn, .int .i64 td] = wg at *
        clear A5 BA OL HO NX2 NS2 HS hHeld
        go_wp2_with fail
        go_roundw
        case rel => exact ⟨k + 1, by omega, by go_num, A6.out, B6.out⟩
        case measure => simp [intOf]; omega
      · go_simp
        refine (rof_impl (hh : Int) (ww : Int) _ (by omega) (by omega) (by omega) (by omega)).mono ?_
        rintro e we ⟨rfl, b1⟩
        have se := b1.size
        rw [← HO.out]
        replace A5 := Lib.hid (A5.out.keep b1 A5.out.lt)
        replace BA := Lib.hid (BA.out.trans (Out.of_below b1))
        have hHeld2 := hHeld.later b1 (by omega); clear b1 hHeld
        unfold rv
        go_wp2_with fail
        refine hK.out _ _ hHeld2 (fun hHeld => ?_)
        clear hK K hHeld2
        refine wpAnyH_ready (rs := [0]) (by kernel_rfl) (by simp) (AllReadyH.cons rfl (fun K hK => ?_) AllReadyH.nil)
        refine permOf.step_load_row rfl 24 _ rfl sb rfl 24 #[.int .i64 sn, .int .i64 sd] (0, 0) _ A5.out Try.underlying24 rfl (sizeR _ _) ?_
        refine hK.out _ _ hHeld (fun hHeld2 => ?_)
        clear hK K hHeld
        have hHeld := hHeld2; clear hHeld2
        refine wpAnyH_ready (rs := [6]) (by kernel_rfl) (by simp) (AllReadyH.cons rfl (fun K hK => ?_) AllReadyH.nil)
        go_simp
        refine (rsum_impl sn sd on od _ NS2.out.1 NS2.out.2.1 NS2.out.2.2.1 NS2.out.2.2.2).mono ?_
        rintro e wf ⟨rfl, b1⟩
        have sf_ := b1.size
        rw [← NX2.out]
        obtain ⟨⟨tn, td⟩, hs⟩ : ∃ q, q = mdK L (k + 1) := ⟨_, rfl⟩
        rw [← hs]
        have HS := Lib.hid hs; clear hs
        replace A5 := Lib.hid (A5.out.keep b1 A5.out.lt)
        replace BA := Lib.hid (BA.out.trans (Out.of_below b1))
        have hHeld2 := hHeld.later b1 (by omega); clear b1 hHeld
        unfold rv
        go_wp2_with fail
        refine hK.out _ _ hHeld2 (fun hHeld => ?_)
        clear hK K hHeld2
        try dsimp only [List.getElem_toArray, List.getElem_cons_zero, List.getElem_cons_succ]
        try simp only [Act.put, List.setIfInBounds_toArray, List.set_cons_zero, List.set_cons_succ]
        refine wpAnyH_ready (rs := [7]) (by kernel_rfl) (by simp) (AllReadyH.cons rfl (fun K hK => ?_) AllReadyH.nil)
        refine permOf.step_store_row rfl 24 _ _ rfl sb #[.int .i64 tn, .int .i64 td] rfl rfl 24 #[.int .i64 sn, .int .i64 sd] A5.out (sizeR _ _) rfl (by simp [Value.oneCell']) ?_
        refine hK.out _ _ (hHeld.other (by omega) (by simp; omega) _) (fun hHeld2 => ?_)
        clear hK K hHeld2
        refine wpAnyH_done (by kernel_rfl) ?_ _
        try dsimp only [List.getElem_toArray, List.getElem_cons_zero, List.getElem_cons_succ]
        try simp only [Act.put, List.setIfInBounds_toArray, List.set_cons_zero, List.set_cons_succ]
        have A6 : Hid (Arr (wf.setRow sb #[.int .i64 tn, .int .i64 td]) sb [.int .i64 (mdK L (k + 1)).1, .int .i64 (mdK L (k + 1)).2] 24) := Lib.hid (by rw [← HS.out]; exact A5.out.row)
        have B6 : Hid (Out sb (sb + 1) w4 (wf.setRow sb #[.int .i64 tn, .int .i64 td])) := Lib.hid (out_setRow BA.out (Nat.le_refl _) (by omega) _)
        generalize wf.setRow sb #[.int .i64 tn, .int .i64 td] = wg at *
        clear A5 BA OL HO NX2 NS2 HS hHeld
        go_wp2_with fail
        go_roundw
        case rel => exact ⟨k + 1, by omega, by go_num, A6.out, B6.out⟩
        case measure => simp [intOf]; omega
    · obtain rfl : k = L.length := by omega
      have FIN : Hid (modF r u = mdK L L.length) := HF
      obtain ⟨⟨sn, sd⟩, hs⟩ : ∃ q, q = mdK L L.length := ⟨_, rfl⟩
      rw [← hs] at A5 FIN
      have A2' : Hid (Arr wr (w.heap.size + 1) [.int .i64 0, .int .i64 0] 24) := Lib.hid (A2.out.keep (OL.out.below (B := w.heap.size + 2) (by omega) (by omega)) (by omega))
      have BB : Hid (Below w.heap.size w wr) := Lib.hid (B4.out.trans (OL.out.below (by omega) (by omega)))
      clear hs ft HF
      go_wp2_with (first | (refine wpList_load_row rfl 24 _ rfl sb rfl 24 #[.int .i64 sn, .int .i64 sd] (0, 0) _ A5.out Try.underlying24 rfl (sizeR _ _) ?_) | (refine wpList_store_row rfl 24 _ _ rfl (w.heap.size + 1) #[.int .i64 sn, .int .i64 sd] rfl rfl 24 #[.int .i64 0, .int .i64 0] A2'.out (sizeR _ _) rfl (by simp [Value.oneCell']) ?_) | fail)
      exact bodyPost_ret (v := .agg #[.int .i64 sn, .int .i64 sd]) (results_cell_row rfl _ _ (w.heap.size + 1) 24 #[.int .i64 sn, .int .i64 sd] (0, 0) _ rfl A2'.out.row Try.underlying24 rfl (sizeR _ _)) rfl ⟨by rw [FIN.out]; rfl, below_setRow BB.out (by omega) _⟩
set_option maxHeartbeats 4000000 in
theorem mod_impl (v : Value) (r u : List Int) (hi : Nat) (w : World) (hx : Srd w hi v r u) (hn : r.length ≤ 1048576) (hm : u.length ≤ 1048576) :
    Calls Try.prog 13 #[v] w fun e w' => e = .returned (rv (modF r u)) ∧ Below w.heap.size w w' := by
  have HX := Lib.hid hx; clear hx
  obtain ⟨P, n, c, Q, m, d, rfl, q1, q2, e1, e2, ht, HR⟩ := HX.out.open
  have L1 := Lib.hid q1
  clear HR q1 q2
  go_enter Try.func13, Try.ntmps13
  go_wp2_with fail
  generalize hw0 : (w.alloc (.cells #[.slice P n c, .slice Q m d] 28)).alloc (.cells #[.int .i64 0, .int .i64 0] 24) = w0
  have AR_ : Hid (Arr w0 (w.heap.size + 1) [.int .i64 0, .int .i64 0] 24) := Lib.hid (by rw [← hw0]; exact Arr.new _ _ _ (by simp))
  have B1 : Hid (Below w.heap.size w w0) := Lib.hid (by rw [← hw0]; exact ((Below.refl _ _).alloc (Nat.le_refl _) _).alloc (by simp) _)
  have s0 : w.heap.size + 2 ≤ w0.heap.size := by rw [← hw0]; simp
  clear hw0
  refine (gluingOf_any _ r u hi _ (HX.out.keep (B1.out.mono ht) (Nat.le_refl _)) hn hm).mono ?_
  rintro e w1 ⟨rfl, b1⟩
  have s1 := b1.size
  replace AR_ := Lib.hid (AR_.out.keep b1 AR_.out.lt)
  replace B1 := Lib.hid (B1.out.trans (b1.mono B1.out.size)); clear b1
  cases hq : transB r u
  · have HF := Lib.hid (modF_no hq); clear hq
    go_wp2_with (first | (refine wpList_store_row rfl 62 _ _ rfl w1.heap.size (V (glv r u)).toArray rfl rfl 62 (V zero49).toArray (Arr.new w1 (V zero49) _ rfl) (size49 (glv_len _ _)) (by simp [V_len, glv_len, zero49]) (one_V _) ?_; generalize hw_ : (w1.alloc (.cells #[.int .i64 0, .int .i64 0, .int .i64 0, .int .i64 0, .int .i64 0, .int .i64 0, .int .i64 0, .int .i64 0, .int .i64 0, .int .i64 0, .int .i64 0, .int .i64 0, .int .i64 0, .int .i64 0, .int .i64 0, .int .i64 0, .int .i64 0, .int .i64 0, .int .i64 0, .int .i64 0, .int .i64 0, .int .i64 0, .int .i64 0, .int .i64 0, .int .i64 0, .int .i64 0, .int .i64 0, .int .i64 0, .int .i64 0, .int .i64 0, .int .i64 0, .int .i64 0, .int .i64 0, .int .i64 0, .int .i64 0, .int .i64 0, .int .i64 0, .int .i64 0, .int .i64 0, .int .i64 0, .int .i64 0, .int .i64 0, .int .i64 0, .int .i64 0, .int .i64 0, .int .i64 0, .int .i64 0, .int .i64 0, .int .i64 0] 62)).setRow w1.heap.size (V (glv r u)).toArray = w2; have A9 : Hid (Arr w2 w1.heap.size (V (glv r u)) 62) := Lib.hid (by rw [← hw_]; exact (Arr.new w1 (V zero49) _ rfl).row); have b1 : Below w1.heap.size w1 w2 := (by rw [← hw_]; exact arr.below_setRow ((Below.refl _ _).alloc (Nat.le_refl _) _) (Nat.le_refl _) _); have t_ : w1.heap.size + 1 ≤ w2.heap.size := (by rw [← hw_]; simp); clear hw_; replace B1 := Lib.hid (B1.out.trans (b1.mono B1.out.size)); replace AR_ := Lib.hid (AR_.out.keep b1 AR_.out.lt)) | (refine wpList_build rfl 24 _ rfl [] rfl #[.int .i64 0, .int .i64 0] builtR0 ?_) | (refine wpList_store_row rfl 24 _ _ rfl (w.heap.size + 1) #[.int .i64 0, .int .i64 0] rfl rfl 24 #[.int .i64 0, .int .i64 0] AR_.out (sizeR _ _) rfl (by simp [Value.oneCell']) ?_))
    exact bodyPost_ret (v := .agg #[.int .i64 0, .int .i64 0]) (results_cell_row rfl _ _ (w.heap.size + 1) 24 #[.int .i64 0, .int .i64 0] (0, 0) _ rfl AR_.out.row Try.underlying24 rfl (sizeR _ _)) rfl ⟨by rw [HF.out]; rfl, below_setRow B1.out (by omega) _⟩
  · have HT := Lib.hid hq
    have HG : Hid (glv r u = gl (ext r) (ext u) n) := Lib.hid (by rw [glv_yes hq, L1.out])
    clear hq
    rw [HG.out]
    go_wp2_with (first | (refine wpList_store_row rfl 62 _ _ rfl w1.heap.size (V (gl (ext r) (ext u) n)).toArray rfl rfl 62 (V zero49).toArray (Arr.new w1 (V zero49) _ rfl) (size49 (gl_len (ext_len _) (ext_len _) n)) (by simp [V_len, gl_len, ext_len, zero49]) (one_V _) ?_; generalize hw_ : (w1.alloc (.cells #[.int .i64 0, .int .i64 0, .int .i64 0, .int .i64 0, .int .i64 0, .int .i64 0, .int .i64 0, .int .i64 0, .int .i64 0, .int .i64 0, .int .i64 0, .int .i64 0, .int .i64 0, .int .i64 0, .int .i64 0, .int .i64 0, .int .i64 0, .int .i64 0, .int .i64 0, .int .i64 0, .int .i64 0, .int .i64 0, .int .i64 0, .int .i64 0, .int .i64 0, .int .i64 0, .int .i64 0, .int .i64 0, .int .i64 0, .int .i64 0, .int .i64 0, .int .i64 0, .int .i64 0, .int .i64 0, .int .i64 0, .int .i64 0, .int .i64 0, .int .i64 0, .int .i64 0, .int .i64 0, .int .i64 0, .int .i64 0, .int .i64 0, .int .i64 0, .int .i64 0, .int .i64 0, .int .i64 0, .int .i64 0, .int .i64 0] 62)).setRow w1.heap.size (V (gl (ext r) (ext u) n)).toArray = w2; have A2 : Hid (Arr w2 w1.heap.size (V (gl (ext r) (ext u) n)) 62) := Lib.hid (by rw [← hw_]; exact (Arr.new w1 (V zero49) _ rfl).row); have b1 : Below w1.heap.size w1 w2 := (by rw [← hw_]; exact arr.below_setRow ((Below.refl _ _).alloc (Nat.le_refl _) _) (Nat.le_refl _) _); have t_ : w1.heap.size + 1 ≤ w2.heap.size := (by rw [← hw_]; simp); clear hw_; replace B1 := Lib.hid (B1.out.trans (b1.mono B1.out.size)); replace AR_ := Lib.hid (AR_.out.keep b1 AR_.out.lt)) | (refine wpList_load_row rfl 62 _ rfl w1.heap.size rfl 62 (V (gl (ext r) (ext u) n)).toArray (0, 0) _ A2.out Try.underlying62 rfl (size49 (gl_len (ext_len _) (ext_len _) n)) ?_))
    refine (moduli_any r u n _ HT.out L1.out).mono ?_
    rintro e w4 ⟨rfl, b1⟩
    have s4 := b1.size
    replace AR_ := Lib.hid (AR_.out.keep b1 AR_.out.lt)
    replace B1 := Lib.hid (B1.out.trans (b1.mono B1.out.size)); clear b1
    obtain ⟨⟨f, h⟩, hfh⟩ : ∃ q, q = modF r u := ⟨_, rfl⟩
    rw [← hfh]
    have HFH := Lib.hid hfh; clear hfh
    unfold rv
    go_wp2_with (first | (refine wpList_store_row rfl 24 _ _ rfl (w.heap.size + 1) #[.int .i64 f, .int .i64 h] rfl rfl 24 #[.int .i64 0, .int .i64 0] AR_.out (sizeR _ _) rfl (by simp [Value.oneCell']) ?_) | fail)
    exact bodyPost_ret (v := .agg #[.int .i64 f, .int .i64 h]) (results_cell_row rfl _ _ (w.heap.size + 1) 24 #[.int .i64 f, .int .i64 h] (0, 0) _ rfl AR_.out.row Try.underlying24 rfl (sizeR _ _)) rfl ⟨by rw [← HFH.out]; rfl, below_setRow B1.out (by omega) _⟩
end Go.Proofs.Ytngglhbcpeigcaa.rat
