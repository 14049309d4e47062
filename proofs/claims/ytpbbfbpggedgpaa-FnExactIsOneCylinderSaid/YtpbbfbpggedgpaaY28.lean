import Derived.Test.YtpbbfbpggedgpaaY11
import Derived.Test.YtpbbfbpggedgpaaY20
import Derived.Test.YtpbbfbpggedgpaaY27
import Derived.Deep.CutRange
/-
  CylindersIn and IsOneCylinder of the specification and of the program.
-/
namespace Go.Proofs.Ytpbbfbpggedgpaa.dr
open Go.ChangeShapes Go.WideShapes Go.ChangeAt Go.RowKit
open Go.Proofs.Ytpbbfbpggedgpaa.mem Go.Proofs.Ytpbbfbpggedgpaa.ints Go.Proofs.Ytpbbfbpggedgpaa.arr Go.Proofs.Ytpbbfbpggedgpaa.pm Go.Proofs.Ytpbbfbpggedgpaa.permOk Go.Proofs.Ytpbbfbpggedgpaa.permOf Go.Proofs.Ytpbbfbpggedgpaa.inv Go.Proofs.Ytpbbfbpggedgpaa.fns Go.Proofs.Ytpbbfbpggedgpaa.sf Go.Proofs.Ytpbbfbpggedgpaa.gl Go.Proofs.Ytpbbfbpggedgpaa.cy Go.Proofs.Ytpbbfbpggedgpaa.wd Go.Proofs.Ytpbbfbpggedgpaa.rw
set_option linter.unusedVariables false
set_option maxRecDepth 100000

theorem dw_wok {a b : Nat} (h : a + b ≤ 12) (g : Nat.gcd a b = 1) : wok (wd (dwL a b)) = true := by
  have := dwL_ok h g
  unfold wok
  rw [wd_size, decide_eq_true (by omega), show (wd (dwL a b)).data.toList = dwL a b from rfl, this.2]; rfl
def ciS (r u : List Int) (p q : Int) : Sur := runS (dwL p.toNat q.toNat) (r, u)
/-- What CylindersIn gives. -/
noncomputable def ciF (r u : List Int) (p q : Int) : List Cy := if ppB r u p q then cyF (ciS r u p q).1 (ciS r u p q).2 else []
theorem ciF_no {r u : List Int} {p q : Int} (h : ppB r u p q = false) : ciF r u p q = [] := by simp [ciF, h]
theorem ciF_yes {r u : List Int} {a b : Nat} (h : ppB r u a b = true) : ciF r u a b = cyF (runS (dwL a b) (r, u)).1 (runS (dwL a b) (r, u)).2 := by simp [ciF, h, ciS]
theorem ciF_24 (r u : List Int) (p q : Int) : (ciF r u p q).length ≤ 24 := by
  unfold ciF
  split
  · exact cyF_24 _ _
  · simp
theorem ciF_len (r u : List Int) (p q : Int) : (ciF r u p q).length ≤ 1048576 := by have := ciF_24 r u p q; omega
def CIPost (r u : List Int) (p q : Int) (w : World) (e : Ending) (w' : World) : Prop := ∃ A c, e = .returned (.tuple #[.slice A (ciF r u p q).length c, .bool (ppB r u p q)]) ∧ Crow w' w.heap.size w'.heap.size A (ciF r u p q).length (ciF r u p q) ∧ Below w.heap.size w w'
theorem ci_no {r u : List Int} {p q : Int} {w w' : World} (h : ppB r u p q = false) (hb : Below w.heap.size w w') : CIPost r u p q w (.returned (.tuple #[.slice none 0 0, .bool false])) w' := by
  refine ⟨none, 0, by rw [h, ciF_no h]; rfl, ?_, hb⟩
  rw [ciF_no h]
  exact ⟨rfl, rfl, Nat.le_refl _, fun q => absurd q (by simp)⟩
theorem run_sf {n : Nat} {r u : List Int} (hs : Sf n r u) (L : List UInt8) : transB (runS L (r, u)).1 (runS L (r, u)).2 = true ∧ (runS L (r, u)).1.length = n ∧ (runS L (r, u)).2.length = n := by
  have s := runS_sf L (r, u) hs
  refine ⟨transB_iff.2 (by rw [s.lr]; exact s), s.lr, s.lu⟩

set_option maxHeartbeats 4000000 in
theorem ci_spec (v : Value) (r u : List Int) (p q : Int) (hi : Nat) (w : World) (hx : Srd w hi v r u) (hn : r.length ≤ 1048576) (hm : u.length ≤ 1048576) (p0 : -9223372036854775808 ≤ p) (p1 : p ≤ 9223372036854775807) (q0 : -9223372036854775808 ≤ q) (q1' : q ≤ 9223372036854775807) :
    Calls Try.prog 24 #[v, .int .i64 p, .int .i64 q] w (CIPost r u p q w) := by
  have HX := Lib.hid hx; clear hx
  obtain ⟨P, n, c, Q, m, d, rfl, q1, q2, e1, e2, ht, HR⟩ := HX.out.open
  have L1 := Lib.hid q1
  clear HR q1 q2
  go_enter Try.func24, Try.ntmps24
  go_wp2_with fail
  refine (ok_spec _ r u hi _ (HX.out.keep ((Below.refl hi w).alloc ht _) (Nat.le_refl _)) hn hm).mono ?_
  rintro e w1 ⟨rfl, b1⟩
  have A0 := Lib.hid ((Arr.new w [.slice P n c, .slice Q m d] 30 rfl).keep b1 (by simp))
  have B1 := Lib.hid (below1 _ _ b1)
  have hs1 : w.heap.size + 1 ≤ w1.heap.size := by have := b1.size; simpa using this
  clear b1
  cases hq : transB r u
  · have HF := Lib.hid (ppB_1 (p := p) (q := q) hq); clear hq
    go_wp2_with fail
    go_ret2
    exact ci_no HF.out B1.out
  · have HT := Lib.hid hq; clear hq
    have HS : Hid (Sf n r u) := Lib.hid (by have := transB_iff.1 HT.out; rwa [L1.out] at this)
    go_wp2_with fail
    refine (so_spec p q _ p0 p1 q0 q1').mono ?_
    rintro e w2 ⟨rfl, b1⟩
    replace A0 := Lib.hid (A0.out.keep b1 A0.out.lt)
    replace B1 := Lib.hid (B1.out.trans (b1.mono B1.out.size))
    have hs2 := b1.size
    clear b1
    cases hq : slB p q
    · have HF := Lib.hid (ppB_2 (r := r) (u := u) hq); clear hq
      go_wp2_with fail
      go_ret2
      exact ci_no HF.out B1.out
    · obtain ⟨a, b, rfl, rfl, hab, hg, h1⟩ := slB_nat hq
      have HB := Lib.hid (ppB_yes HT.out hq)
      have HW := Lib.hid (dwF_yes hq)
      have WK := Lib.hid (dw_wok hab hg)
      have RN := Lib.hid (run_sf HS.out (dwL a b))
      have HF : Hid (ciF r u a b = cyF (runS (dwL a b) (r, u)).1 (runS (dwL a b) (r, u)).2) := Lib.hid (ciF_yes HB.out)
      clear hq hg
      have X1 : Hid (Srd w2 hi (.agg #[.slice P n c, .slice Q m d]) r u) := Lib.hid (HX.out.keep (B1.out.mono ht) (Nat.le_refl _))
      have ht2 := Nat.le_trans ht B1.out.size
      go_wp2_with fail
      refine wp_region_held_drew (S := Hld w2.heap.size w2.heap.size w2 [(w.heap.size, [.slice P n c, .slice Q m d])]) (by kernel_rfl) (Hld.start1 A0.out) (fun hHeld => ?_)
      have b1 : Below w2.heap.size w2 w2.drew := ⟨rfl, rfl, rfl, Nat.le_refl _, fun _ _ => rfl⟩
      generalize w2.drew = w3 at *
      replace B1 := Lib.hid (B1.out.trans (b1.mono B1.out.size)); replace X1 := Lib.hid (X1.out.keep b1 ht2)
      have hs3 := b1.size
      clear b1
      refine wpAnyH_take (i := 0) (v := .agg #[.slice P n c, .slice Q m d]) rfl (by kernel_rfl) (by kernel_rfl) (by kernel_rfl) (fun _ _ _ h => h) (yieldsIf_load_mid (by rfl) _ _ rfl (w.heap.size) 0 rfl [.slice P n c, .slice Q m d] _ (fun w h => h.fst) Try.underlying30 rfl (sizeS _ _)) hHeld ?_
      refine wpAnyH_take (i := 1) (v := .int .i64 (a : Int)) rfl (by kernel_rfl) (by kernel_rfl) (by kernel_rfl) (fun _ _ _ h => h) (Or.inl ⟨by rfl, fun w hSw => by go_simp⟩) hHeld ?_
      refine wpAnyH_take (i := 2) (v := .int .i64 (b : Int)) rfl (by kernel_rfl) (by kernel_rfl) (by kernel_rfl) (fun _ _ _ h => h) (Or.inl ⟨by rfl, fun w hSw => by go_simp⟩) hHeld ?_
      refine wpAnyH_ready (rs := [3]) (by kernel_rfl) (by simp) (AllReadyH.cons rfl (fun K hK => ?_) AllReadyH.nil)
      go_simp
      refine (dw_spec a b _ (by omega) (by omega) (by omega) (by omega)).mono ?_
      rintro e w4 ⟨rfl, b1⟩
      rw [HW.out]
      replace B1 := Lib.hid (B1.out.trans (b1.mono B1.out.size)); replace X1 := Lib.hid (X1.out.keep b1 (by omega))
      have hs4 := b1.size
      go_wp2_with fail
      have hHeld2 := hHeld.later b1 (by omega); clear b1 hHeld
      refine hK.out _ _ hHeld2 (fun hHeld => ?_)
      clear hK K hHeld2
      refine wpAnyH_ready (rs := [4]) (by kernel_rfl) (by simp) (AllReadyH.cons rfl (fun K hK => ?_) AllReadyH.nil)
      go_simp
      refine (run_spec _ r u n hi _ X1.out HS.out (wd (dwL a b)) WK.out).mono ?_
      rintro e w5 ⟨g, rfl, sg, b1⟩
      rw [show (wd (dwL a b)).data.toList = dwL a b from rfl] at sg
      obtain ⟨P3, c3, Q3, d3, rfl⟩ := sg.lens RN.out.2.1 RN.out.2.2
      have SG := Lib.hid sg; clear sg
      replace B1 := Lib.hid (B1.out.trans (b1.mono B1.out.size))
      have hs5 := b1.size
      go_wp2_with fail
      have hHeld2 := hHeld.later b1 (by omega); clear b1 hHeld
      refine hK.out _ _ hHeld2 (fun hHeld => ?_)
      clear hK K hHeld2
      generalize (runS (dwL a b) (r, u)).1 = R3 at *
      generalize (runS (dwL a b) (r, u)).2 = U3 at *
      refine wpAnyH_ready (rs := [5]) (by kernel_rfl) (by simp) (AllReadyH.cons rfl (fun K hK => ?_) AllReadyH.nil)
      go_simp
      refine (cys_spec _ R3 U3 n _ _ SG.out.rd RN.out.1 RN.out.2.1).mono ?_
      have HC := Lib.hid (cyF_yes RN.out.1).symm
      rw [HC.out]
      rintro e w6 ⟨C, cc, rfl, o4, b1⟩
      have O4 := Lib.hid (o4.low (by omega) : Crow w6 w.heap.size w6.heap.size C (cyF R3 U3).length (cyF R3 U3)); clear o4
      replace B1 := Lib.hid (B1.out.trans (b1.mono B1.out.size))
      have hs6 := b1.size
      go_wp2_with fail
      have hHeld2 := hHeld.later b1 (by omega); clear b1 hHeld
      refine hK.out _ _ hHeld2 (fun hHeld => ?_)
      clear hK K hHeld2
      refine wpAnyH_take (i := 6) (v := .slice C (cyF R3 U3).length cc) rfl (by kernel_rfl) (by kernel_rfl) (by kernel_rfl) (fun _ _ _ h => h) (Or.inl ⟨by rfl, fun w hSw => by go_simp⟩) hHeld ?_
      refine wpAnyH_take (i := 7) (v := .bool true) rfl (by kernel_rfl) (by kernel_rfl) (by kernel_rfl) (fun _ _ _ h => h) (Or.inl ⟨by rfl, fun w hSw => by go_simp⟩) hHeld ?_
      refine wpAnyH_done (by kernel_rfl) ?_ _
      go_wp2_with fail
      go_ret2
      exact ⟨C, cc, by (rw [HF.out, HB.out] <;> rfl), by rw [HF.out]; exact O4.out, B1.out⟩

set_option maxHeartbeats 8000000 in
theorem ci_impl (v : Value) (r u : List Int) (p q : Int) (hi : Nat) (w : World) (hx : Srd w hi v r u) (hn : r.length ≤ 1048576) (hm : u.length ≤ 1048576) (p0 : -9223372036854775808 ≤ p) (p1 : p ≤ 9223372036854775807) (q0 : -9223372036854775808 ≤ q) (q1' : q ≤ 9223372036854775807) :
    Calls Try.prog 25 #[v, .int .i64 p, .int .i64 q] w (CIPost r u p q w) := by
  have HX := Lib.hid hx; clear hx
  obtain ⟨P, n, c, Q, m, d, rfl, q1, q2, e1, e2, ht, HR⟩ := HX.out.open
  have L1 := Lib.hid q1
  clear HR q1 q2
  go_enter Try.func25, Try.ntmps25
  go_wp2_with fail
  refine (so_impl p q _ p0 p1 q0 q1').mono ?_
  rintro e w1 ⟨rfl, b1⟩
  have A0 := Lib.hid ((Arr.new w [.slice P n c, .slice Q m d] 30 rfl).keep b1 (by simp))
  have B1 := Lib.hid (below1 _ _ b1)
  have hs1 : w.heap.size + 1 ≤ w1.heap.size := by have := b1.size; simpa using this
  clear b1
  cases hq : slB p q
  · have HF := Lib.hid (ppB_2 (r := r) (u := u) hq); clear hq
    go_wp2_with fail
    go_ret2
    exact ci_no HF.out B1.out
  · obtain ⟨a, b, rfl, rfl, hab, hg, h1⟩ := slB_nat hq
    have HSL := Lib.hid hq
    have HW := Lib.hid (dwF_yes hq)
    have WK := Lib.hid (dw_wok hab hg)
    have RB := Lib.hid (rwB_wok (r := r) (u := u) WK.out)
    clear hq hg
    have hws : (wd (dwL a b)).size ≤ 1048576 := by have := wok_len WK.out; omega
    obtain ⟨S, hS⟩ : ∃ S, wd (dwL a b) = S := ⟨_, rfl⟩
    have HSS := Lib.hid hS
    rw [hS] at HW WK RB hws
    clear hS
    have X1 : Hid (Srd w1 hi (.agg #[.slice P n c, .slice Q m d]) r u) := Lib.hid (HX.out.keep (B1.out.mono ht) (Nat.le_refl _))
    have ht2 := Nat.le_trans ht B1.out.size
    go_wp2_with fail
    go_cut [8, 9] from 14 to 21 (fun p' q' wx => ∃ g P3 c3 Q3 d3 lo hi2, p' = .pointer (some ⟨g, 0, none⟩) ∧ q' = .bool (transB r u) ∧ w1.heap.size ≤ g ∧ w1.heap.size ≤ lo ∧ Hid (Arr wx g [.slice P3 (rwR r u S).length c3, .slice Q3 (rwU r u S).length d3] 30) ∧ Hid (Svl wx lo hi2 (.agg #[.slice P3 (rwR r u S).length c3, .slice Q3 (rwU r u S).length d3]) (rwR r u S) (rwU r u S)) ∧ Hid (Below w1.heap.size w1 wx))
    case first =>
      refine wp_region_held_drew (S := Hld w1.heap.size w1.heap.size w1 [(w.heap.size, [.slice P n c, .slice Q m d])]) (by kernel_rfl) (Hld.start1 A0.out) (fun hHeld => ?_)
      have b0 : Below w1.heap.size w1 w1.drew := ⟨rfl, rfl, rfl, Nat.le_refl _, fun _ _ => rfl⟩
      generalize w1.drew = v0 at *
      have s_0 := b0.size
      replace X1 := Lib.hid (X1.out.keep b0 ht2)
      have BW := Lib.hid b0; clear b0
      refine wpAnyH_take (i := 0) (v := .agg #[.slice P n c, .slice Q m d]) rfl (by kernel_rfl) (by kernel_rfl) (by kernel_rfl) (fun _ _ _ h => h) (yieldsIf_load_mid (by rfl) _ _ rfl (w.heap.size) 0 rfl [.slice P n c, .slice Q m d] _ (fun w h => h.fst) Try.underlying30 rfl (sizeS _ _)) hHeld ?_
      refine wpAnyH_take (i := 1) (v := .int .i64 (a : Int)) rfl (by kernel_rfl) (by kernel_rfl) (by kernel_rfl) (fun _ _ _ h => h) (Or.inl ⟨by rfl, fun w hSw => by go_simp⟩) hHeld ?_
      refine wpAnyH_take (i := 2) (v := .int .i64 (b : Int)) rfl (by kernel_rfl) (by kernel_rfl) (by kernel_rfl) (fun _ _ _ h => h) (Or.inl ⟨by rfl, fun w hSw => by go_simp⟩) hHeld ?_
      refine wpAnyH_ready (rs := [3, 8]) (by kernel_rfl) (by simp) (AllReadyH.cons rfl (fun K hK => ?_) (AllReadyH.cons rfl (fun K hK => ?_) AllReadyH.nil))
      · go_simp
        refine (dw_impl a b _ (by omega) (by omega) (by omega) (by omega)).mono ?_
        rintro e v1 ⟨rfl, b1⟩
        rw [HW.out]
        have s_1 := b1.size
        replace BW := Lib.hid (BW.out.trans (b1.mono BW.out.size))
        replace X1 := Lib.hid (X1.out.keep b1 (by omega))
        go_wp2_with fail
        have hHeld2 := hHeld.later b1 (by omega); clear b1 hHeld
        refine hK.out _ _ hHeld2 (fun hHeld => ?_)
        clear hK K hHeld2
        refine wpAnyH_ready (rs := [4, 8]) (by kernel_rfl) (by simp) (AllReadyH.cons rfl (fun K hK => ?_) (AllReadyH.cons rfl (fun K hK => ?_) AllReadyH.nil))
        · go_simp
          refine (rw_impl _ r u S hi _ X1.out hn hm hws).mono ?_
          rintro e v2 ⟨g, rfl, sv, b1⟩
          rw [RB.out]
          obtain ⟨P3, c3, Q3, d3, rfl⟩ := sv.len
          have VY := Lib.hid sv; clear sv
          have s_2 := b1.size
          replace BW := Lib.hid (BW.out.trans (b1.mono BW.out.size))
          replace X1 := Lib.hid (X1.out.keep b1 (by omega))
          go_wp2_with fail
          have hHeld2 := hHeld.later b1 (by omega); clear b1 hHeld
          refine hK.out _ _ hHeld2 (fun hHeld => ?_)
          clear hK K hHeld2
          refine wpAnyH_take (i := 5) (v := .tuple #[.agg #[.slice P3 (rwR r u S).length c3, .slice Q3 (rwU r u S).length d3], .bool (transB r u)]) rfl (by kernel_rfl) (by kernel_rfl) (by kernel_rfl) (fun _ _ _ h => h) (Or.inl ⟨by kernel_rfl, fun w hSw => by go_simp⟩) hHeld ?_
          refine wpAnyH_take (i := 6) (v := .agg #[.slice P3 (rwR r u S).length c3, .slice Q3 (rwU r u S).length d3]) rfl (by kernel_rfl) (by kernel_rfl) (by kernel_rfl) (fun _ _ _ h => h) (Or.inl ⟨by kernel_rfl, fun w hSw => by go_simp⟩) hHeld ?_
          refine wpAnyH_take (i := 7) (v := .bool (transB r u)) rfl (by kernel_rfl) (by kernel_rfl) (by kernel_rfl) (fun _ _ _ h => h) (Or.inl ⟨by kernel_rfl, fun w hSw => by go_simp⟩) hHeld ?_
          refine wpAnyH_ready (rs := [8]) (by kernel_rfl) (by simp) (AllReadyH.cons rfl (fun K hK => ?_) AllReadyH.nil)
          go_simp
          generalize hwa : v2.alloc (.cells #[.slice none 0 0, .slice none 0 0] 30) = v3
          have b1 : Below v2.heap.size v2 v3 := by rw [← hwa]; exact (Below.refl _ _).alloc (Nat.le_refl _) _
          have AL : Hid (Arr v3 v2.heap.size [.slice none 0 0, .slice none 0 0] 30) := Lib.hid (by rw [← hwa]; exact Arr.new _ _ _ rfl)
          have s_3 : v2.heap.size + 1 ≤ v3.heap.size := by rw [← hwa]; simp
          clear hwa
          replace BW := Lib.hid (BW.out.trans (b1.mono BW.out.size))
          replace X1 := Lib.hid (X1.out.keep b1 (by omega))
          replace VY := Lib.hid (VY.out.keep b1 VY.out.top)
          have hHeld2 := hHeld.later b1 (by omega); clear b1 hHeld
          refine hK.out _ _ hHeld2 (fun hHeld => ?_)
          clear hK K hHeld2
          refine wpAnyH_ready (rs := [9]) (by kernel_rfl) (by simp) (AllReadyH.cons rfl (fun K hK => ?_) AllReadyH.nil)
          refine step_store_row rfl 30 _ _ rfl (v2.heap.size) #[.slice P3 (rwR r u S).length c3, .slice Q3 (rwU r u S).length d3] rfl rfl 30 #[.slice none 0 0, .slice none 0 0] AL.out size2 rfl (by simp [Value.oneCell']) ?_
          change K (Act.put _ none _) _
          simp only [Act.put]
          refine hK.out _ _ (hHeld.other (by omega) (by simp; omega) _) (fun hHeld2 => ?_)
          clear hK K hHeld
          refine wpAnyH_take (i := 10) (v := .bool (transB r u)) rfl (by kernel_rfl) (by kernel_rfl) (by kernel_rfl) (fun _ _ _ h => h) (Or.inl ⟨by kernel_rfl, fun w hSw => by go_simp⟩) hHeld2 ?_
          refine wpAnyH_done (by kernel_rfl) ?_ _
          clear hHeld2
          go_wp2_with fail
          go_meet
          exact ⟨_, _, _, _, _, _, _, rfl, rfl, by omega, by omega, Lib.hid AL.out.row, Lib.hid (VY.out.out ((Out.refl (v2.heap.size) (v2.heap.size + 1) _).row_ (Nat.le_refl _) (Nat.lt_succ_self _) _) (by omega)), Lib.hid (below_setRow BW.out (by omega) _)⟩
        · go_simp
          generalize hwa : v1.alloc (.cells #[.slice none 0 0, .slice none 0 0] 30) = v2
          have b1 : Below v1.heap.size v1 v2 := by rw [← hwa]; exact (Below.refl _ _).alloc (Nat.le_refl _) _
          have AL : Hid (Arr v2 v1.heap.size [.slice none 0 0, .slice none 0 0] 30) := Lib.hid (by rw [← hwa]; exact Arr.new _ _ _ rfl)
          have s_2 : v1.heap.size + 1 ≤ v2.heap.size := by rw [← hwa]; simp
          clear hwa
          replace BW := Lib.hid (BW.out.trans (b1.mono BW.out.size))
          replace X1 := Lib.hid (X1.out.keep b1 (by omega))
          have hHeld2 := hHeld.later b1 (by omega); clear b1 hHeld
          refine hK.out _ _ hHeld2 (fun hHeld => ?_)
          clear hK K hHeld2
          refine wpAnyH_ready (rs := [4]) (by kernel_rfl) (by simp) (AllReadyH.cons rfl (fun K hK => ?_) AllReadyH.nil)
          go_simp
          refine (rw_impl _ r u S hi _ X1.out hn hm hws).mono ?_
          rintro e v3 ⟨g, rfl, sv, b1⟩
          rw [RB.out]
          obtain ⟨P3, c3, Q3, d3, rfl⟩ := sv.len
          have VY := Lib.hid sv; clear sv
          have s_3 := b1.size
          replace BW := Lib.hid (BW.out.trans (b1.mono BW.out.size))
          replace X1 := Lib.hid (X1.out.keep b1 (by omega))
          replace AL := Lib.hid (AL.out.keep b1 AL.out.lt)
          go_wp2_with fail
          have hHeld2 := hHeld.later b1 (by omega); clear b1 hHeld
          refine hK.out _ _ hHeld2 (fun hHeld => ?_)
          clear hK K hHeld2
          refine wpAnyH_take (i := 5) (v := .tuple #[.agg #[.slice P3 (rwR r u S).length c3, .slice Q3 (rwU r u S).length d3], .bool (transB r u)]) rfl (by kernel_rfl) (by kernel_rfl) (by kernel_rfl) (fun _ _ _ h => h) (Or.inl ⟨by kernel_rfl, fun w hSw => by go_simp⟩) hHeld ?_
          refine wpAnyH_take (i := 6) (v := .agg #[.slice P3 (rwR r u S).length c3, .slice Q3 (rwU r u S).length d3]) rfl (by kernel_rfl) (by kernel_rfl) (by kernel_rfl) (fun _ _ _ h => h) (Or.inl ⟨by kernel_rfl, fun w hSw => by go_simp⟩) hHeld ?_
          refine wpAnyH_take (i := 7) (v := .bool (transB r u)) rfl (by kernel_rfl) (by kernel_rfl) (by kernel_rfl) (fun _ _ _ h => h) (Or.inl ⟨by kernel_rfl, fun w hSw => by go_simp⟩) hHeld ?_
          refine wpAnyH_ready (rs := [9]) (by kernel_rfl) (by simp) (AllReadyH.cons rfl (fun K hK => ?_) AllReadyH.nil)
          refine step_store_row rfl 30 _ _ rfl (v1.heap.size) #[.slice P3 (rwR r u S).length c3, .slice Q3 (rwU r u S).length d3] rfl rfl 30 #[.slice none 0 0, .slice none 0 0] AL.out size2 rfl (by simp [Value.oneCell']) ?_
          change K (Act.put (Act.put (Act.put (Act.put _ (some 14) _) (some 20) _) (some 21) _) none _) _
          simp only [Act.put, List.setIfInBounds_toArray, List.set_cons_zero, List.set_cons_succ]
          refine hK.out _ _ (hHeld.other (by omega) (by simp; omega) _) (fun hHeld2 => ?_)
          clear hK K hHeld
          refine wpAnyH_take (i := 10) (v := .bool (transB r u)) rfl (by kernel_rfl) (by kernel_rfl) (by kernel_rfl) (fun _ _ _ h => h) (Or.inl ⟨by kernel_rfl, fun w hSw => by go_simp⟩) hHeld2 ?_
          refine wpAnyH_done (by kernel_rfl) ?_ _
          clear hHeld2
          go_wp2_with fail
          go_meet
          exact ⟨_, _, _, _, _, _, _, rfl, rfl, by omega, by omega, Lib.hid AL.out.row, Lib.hid (VY.out.out ((Out.refl (v1.heap.size) (v1.heap.size + 1) _).row_ (Nat.le_refl _) (Nat.lt_succ_self _) _) (by omega)), Lib.hid (below_setRow BW.out (by omega) _)⟩
      · go_simp
        generalize hwa : v0.alloc (.cells #[.slice none 0 0, .slice none 0 0] 30) = v1
        have b1 : Below v0.heap.size v0 v1 := by rw [← hwa]; exact (Below.refl _ _).alloc (Nat.le_refl _) _
        have AL : Hid (Arr v1 v0.heap.size [.slice none 0 0, .slice none 0 0] 30) := Lib.hid (by rw [← hwa]; exact Arr.new _ _ _ rfl)
        have s_1 : v0.heap.size + 1 ≤ v1.heap.size := by rw [← hwa]; simp
        clear hwa
        replace BW := Lib.hid (BW.out.trans (b1.mono BW.out.size))
        replace X1 := Lib.hid (X1.out.keep b1 (by omega))
        have hHeld2 := hHeld.later b1 (by omega); clear b1 hHeld
        refine hK.out _ _ hHeld2 (fun hHeld => ?_)
        clear hK K hHeld2
        refine wpAnyH_ready (rs := [3]) (by kernel_rfl) (by simp) (AllReadyH.cons rfl (fun K hK => ?_) AllReadyH.nil)
        go_simp
        refine (dw_impl a b _ (by omega) (by omega) (by omega) (by omega)).mono ?_
        rintro e v2 ⟨rfl, b1⟩
        rw [HW.out]
        have s_2 := b1.size
        replace BW := Lib.hid (BW.out.trans (b1.mono BW.out.size))
        replace X1 := Lib.hid (X1.out.keep b1 (by omega))
        replace AL := Lib.hid (AL.out.keep b1 AL.out.lt)
        go_wp2_with fail
        have hHeld2 := hHeld.later b1 (by omega); clear b1 hHeld
        refine hK.out _ _ hHeld2 (fun hHeld => ?_)
        clear hK K hHeld2
        refine wpAnyH_ready (rs := [4]) (by kernel_rfl) (by simp) (AllReadyH.cons rfl (fun K hK => ?_) AllReadyH.nil)
        go_simp
        refine (rw_impl _ r u S hi _ X1.out hn hm hws).mono ?_
        rintro e v3 ⟨g, rfl, sv, b1⟩
        rw [RB.out]
        obtain ⟨P3, c3, Q3, d3, rfl⟩ := sv.len
        have VY := Lib.hid sv; clear sv
        have s_3 := b1.size
        replace BW := Lib.hid (BW.out.trans (b1.mono BW.out.size))
        replace X1 := Lib.hid (X1.out.keep b1 (by omega))
        replace AL := Lib.hid (AL.out.keep b1 AL.out.lt)
        go_wp2_with fail
        have hHeld2 := hHeld.later b1 (by omega); clear b1 hHeld
        refine hK.out _ _ hHeld2 (fun hHeld => ?_)
        clear hK K hHeld2
        refine wpAnyH_take (i := 5) (v := .tuple #[.agg #[.slice P3 (rwR r u S).length c3, .slice Q3 (rwU r u S).length d3], .bool (transB r u)]) rfl (by kernel_rfl) (by kernel_rfl) (by kernel_rfl) (fun _ _ _ h => h) (Or.inl ⟨by kernel_rfl, fun w hSw => by go_simp⟩) hHeld ?_
        refine wpAnyH_take (i := 6) (v := .agg #[.slice P3 (rwR r u S).length c3, .slice Q3 (rwU r u S).length d3]) rfl (by kernel_rfl) (by kernel_rfl) (by kernel_rfl) (fun _ _ _ h => h) (Or.inl ⟨by kernel_rfl, fun w hSw => by go_simp⟩) hHeld ?_
        refine wpAnyH_take (i := 7) (v := .bool (transB r u)) rfl (by kernel_rfl) (by kernel_rfl) (by kernel_rfl) (fun _ _ _ h => h) (Or.inl ⟨by kernel_rfl, fun w hSw => by go_simp⟩) hHeld ?_
        refine wpAnyH_ready (rs := [9]) (by kernel_rfl) (by simp) (AllReadyH.cons rfl (fun K hK => ?_) AllReadyH.nil)
        refine step_store_row rfl 30 _ _ rfl (v0.heap.size) #[.slice P3 (rwR r u S).length c3, .slice Q3 (rwU r u S).length d3] rfl rfl 30 #[.slice none 0 0, .slice none 0 0] AL.out size2 rfl (by simp [Value.oneCell']) ?_
        change K (Act.put (Act.put (Act.put (Act.put _ (some 14) _) (some 20) _) (some 21) _) none _) _
        simp only [Act.put, List.setIfInBounds_toArray, List.set_cons_zero, List.set_cons_succ]
        refine hK.out _ _ (hHeld.other (by omega) (by simp; omega) _) (fun hHeld2 => ?_)
        clear hK K hHeld
        refine wpAnyH_take (i := 10) (v := .bool (transB r u)) rfl (by kernel_rfl) (by kernel_rfl) (by kernel_rfl) (fun _ _ _ h => h) (Or.inl ⟨by kernel_rfl, fun w hSw => by go_simp⟩) hHeld2 ?_
        refine wpAnyH_done (by kernel_rfl) ?_ _
        clear hHeld2
        go_wp2_with fail
        go_meet
        exact ⟨_, _, _, _, _, _, _, rfl, rfl, by omega, by omega, Lib.hid AL.out.row, Lib.hid (VY.out.out ((Out.refl (v0.heap.size) (v0.heap.size + 1) _).row_ (Nat.le_refl _) (Nat.lt_succ_self _) _) (by omega)), Lib.hid (below_setRow BW.out (by omega) _)⟩
    case rest =>
      obtain ⟨g, P3, c3, Q3, d3, lo, hi2, rfl, rfl, hg1, hlo, AG, SV, BW⟩ := hcut
      have B2 := Lib.hid (B1.out.trans (BW.out.mono B1.out.size))
      have hs2 := BW.out.size
      cases hq : transB r u
      · have c0 := AG.out.cell (k := 0) rfl
        have c1 := AG.out.cell (k := 1) rfl
        have HF := Lib.hid (ppB_1 (p := (a : Int)) (q := (b : Int)) hq); clear hq
        go_wp2_with fail
        go_ret2
        exact ci_no HF.out B2.out
      · have HS : Hid (Sf n r u) := Lib.hid (by have := transB_iff.1 hq; rwa [L1.out] at this)
        have HB := Lib.hid (ppB_yes hq HSL.out)
        have RN := Lib.hid (run_sf HS.out (dwL a b))
        have hY : rwR r u S = (runS (dwL a b) (r, u)).1 ∧ rwU r u S = (runS (dwL a b) (r, u)).2 := by
          have := rw_yes (r := r) (u := u) (s := S) (by rw [RB.out]; exact hq)
          rw [← HSS.out] at this ⊢
          exact this
        have HF : Hid (ciF r u a b = cyF (runS (dwL a b) (r, u)).1 (runS (dwL a b) (r, u)).2) := Lib.hid (ciF_yes HB.out)
        rw [hY.1, hY.2] at AG SV
        try rw [hY.1, hY.2]
        have c0 := AG.out.cell (k := 0) rfl
        have c1 := AG.out.cell (k := 1) rfl
        clear hY hq
        generalize (runS (dwL a b) (r, u)).1 = R3 at *
        generalize (runS (dwL a b) (r, u)).2 = U3 at *
        have n24 := HS.out.small
        have hl3 : R3.length ≤ 24 := by have := RN.out.2.1; omega
        have hl4 : U3.length ≤ 24 := by have := RN.out.2.2; omega
        have HT3 := Lib.hid RN.out.1
        clear RN
        go_wp2_with fail
        refine (cyo_impl _ R3 U3 _ _ SV.out.rd (by omega) (by omega)).mono ?_
        rintro e w4 ⟨C, cc, rfl, o4, b4⟩
        have O4 := Lib.hid (o4.low B2.out.size)
        have B4 := Lib.hid (B2.out.trans (b4.mono B2.out.size))
        rw [HT3.out]
        clear o4 b4
        go_wp2_with fail
        go_ret2
        exact ⟨C, cc, by (rw [HF.out, HB.out] <;> rfl), by rw [HF.out]; exact O4.out, B4.out⟩
/-- What IsOneCylinder answers. -/
noncomputable def ioF (r u : List Int) (p q : Int) : Bool := ppB r u p q && decide ((ciF r u p q).length = 1)

set_option maxHeartbeats 1000000 in
theorem io_spec (v : Value) (r u : List Int) (p q : Int) (hi : Nat) (w : World) (hx : Srd w hi v r u) (hn : r.length ≤ 1048576) (hm : u.length ≤ 1048576) (p0 : -9223372036854775808 ≤ p) (p1 : p ≤ 9223372036854775807) (q0 : -9223372036854775808 ≤ q) (q1' : q ≤ 9223372036854775807) :
    Calls Try.prog 29 #[v, .int .i64 p, .int .i64 q] w fun e w' => e = .returned (.bool (ioF r u p q)) ∧ Below w.heap.size w w' := by
  have HX := Lib.hid hx; clear hx
  obtain ⟨P, n, c, Q, m, d, rfl, q1, q2, e1, e2, ht, HR⟩ := HX.out.open
  clear HR q1 q2
  go_enter Try.func29, Try.ntmps29
  go_wp2_with fail
  refine (ci_spec _ r u p q hi _ (HX.out.keep ((Below.refl hi w).alloc ht _) (Nat.le_refl _)) hn hm p0 p1 q0 q1').mono ?_
  rintro e w1 ⟨A, cc, rfl, o1, b1⟩
  have B1 := Lib.hid (below1 _ _ b1); clear b1 o1
  have HF : Hid (ioF r u p q = (ppB r u p q && decide ((ciF r u p q).length = 1))) := Lib.hid rfl
  generalize (ciF r u p q).length = N at *
  generalize ppB r u p q = B at *
  cases B
  · go_wp2_with fail
    go_ret
    exact ⟨mem.ret_bool HF.out.symm, B1.out⟩
  · by_cases hN : N = 1
    · subst hN
      go_wp2_with fail
      go_ret
      exact ⟨mem.ret_bool (by rw [HF.out]; rfl), B1.out⟩
    · have HD : Hid (((N : Int) == 1) = false) := Lib.hid (by simp; omega)
      have HF2 : Hid ((true && decide (N = 1)) = false) := Lib.hid (by simp [hN])
      go_wp2_with fail
      go_ret
      exact ⟨mem.ret_bool (by rw [HF.out, HF2.out]; exact HD.out), B1.out⟩

set_option maxHeartbeats 1000000 in
theorem io_impl (v : Value) (r u : List Int) (p q : Int) (hi : Nat) (w : World) (hx : Srd w hi v r u) (hn : r.length ≤ 1048576) (hm : u.length ≤ 1048576) (p0 : -9223372036854775808 ≤ p) (p1 : p ≤ 9223372036854775807) (q0 : -9223372036854775808 ≤ q) (q1' : q ≤ 9223372036854775807) :
    Calls Try.prog 30 #[v, .int .i64 p, .int .i64 q] w fun e w' => e = .returned (.bool (ioF r u p q)) ∧ Below w.heap.size w w' := by
  have HX := Lib.hid hx; clear hx
  obtain ⟨P, n, c, Q, m, d, rfl, q1, q2, e1, e2, ht, HR⟩ := HX.out.open
  clear HR q1 q2
  go_enter Try.func30, Try.ntmps30
  go_wp2_with fail
  refine (ci_impl _ r u p q hi _ (HX.out.keep ((Below.refl hi w).alloc ht _) (Nat.le_refl _)) hn hm p0 p1 q0 q1').mono ?_
  rintro e w1 ⟨A, cc, rfl, o1, b1⟩
  have B1 := Lib.hid (below1 _ _ b1); clear b1 o1
  have HF : Hid (ioF r u p q = (ppB r u p q && decide ((ciF r u p q).length = 1))) := Lib.hid rfl
  generalize (ciF r u p q).length = N at *
  generalize ppB r u p q = B at *
  cases B
  · go_wp2_with fail
    go_ret
    exact ⟨mem.ret_bool HF.out.symm, B1.out⟩
  · by_cases hN : N = 1
    · subst hN
      go_wp2_with fail
      go_ret
      exact ⟨mem.ret_bool (by rw [HF.out]; rfl), B1.out⟩
    · have HD : Hid (((N : Int) == 1) = false) := Lib.hid (by simp; omega)
      have HF2 : Hid ((true && decide (N = 1)) = false) := Lib.hid (by simp [hN])
      go_wp2_with fail
      go_ret
      exact ⟨mem.ret_bool (by rw [HF.out, HF2.out]; exact HD.out), B1.out⟩

end Go.Proofs.Ytpbbfbpggedgpaa.dr
