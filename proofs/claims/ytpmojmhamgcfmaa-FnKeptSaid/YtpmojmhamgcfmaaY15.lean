import Derived.Test.YtpmojmhamgcfmaaY14
import Derived.Test.YtpmojmhamgcfmaaY06
import Derived.Test.YtpmojmhamgcfmaaY10
import Derived.Deep.AppendLies
import Derived.Test.YtpmojmhamgcfmaaY13
import Derived.Test.YtpmojmhamgcfmaaY08
import Derived.Test.YtpmojmhamgcfmaaY03
import Derived.Lib.Bytealg
import Derived.Laws.StandIn
/-
  EllOf of the model.
-/
namespace Go.Proofs.Ytpmojmhamgcfmaa.gl
open Go.ChangeShapes Go.WideShapes Go.ChangeAt Go.RowKit
open Go.Proofs.Ytpmojmhamgcfmaa.mem Go.Proofs.Ytpmojmhamgcfmaa.ints Go.Proofs.Ytpmojmhamgcfmaa.arr Go.Proofs.Ytpmojmhamgcfmaa.pm Go.Proofs.Ytpmojmhamgcfmaa.permOk Go.Proofs.Ytpmojmhamgcfmaa.permOf Go.Proofs.Ytpmojmhamgcfmaa.inv Go.Proofs.Ytpmojmhamgcfmaa.fns Go.Proofs.Ytpmojmhamgcfmaa.sf
set_option linter.unusedVariables false
set_option maxRecDepth 100000

theorem own_at {W : World} {lo : Nat} {v : Value} {n : Nat} {xs : List Value} (h : W.ownsRow lo 3 1 v n xs) (hn : 0 < n) : ∃ g c, v = .slice (some ⟨g, 0, none⟩) n c := by
  rcases h.2 with h0 | ⟨g, c, cur, q, _⟩
  · exact absurd h0.2 (by omega)
  · exact ⟨g, c, q⟩
theorem own_below {W W' : World} {lo base g n c : Nat} {e : TypeId} {xs : List Value} (h : W.ownsRow base e 1 (.slice (some ⟨g, 0, none⟩) n c) n xs) (hb : Below lo W W') (hg : g < lo) : W'.ownsRow base e 1 (.slice (some ⟨g, 0, none⟩) n c) n xs := by
  refine ⟨h.1, ?_⟩
  rcases h.2 with h0 | ⟨g', cap, cur, q1, q2, q3, q4⟩
  · exact .inl h0
  · obtain rfl : g = g' := by injection q1 with q1; injection q1 with q1; injection q1
    exact .inr ⟨g, cap, cur, q1, q2, (hb.block g hg).trans q3, q4⟩
theorem own_lo {W : World} {base base' n : Nat} {v : Value} {e : TypeId} {xs : List Value} (h : W.ownsRow base e 1 v n xs) (hb : base' ≤ base) : W.ownsRow base' e 1 v n xs := by
  refine ⟨h.1, ?_⟩
  rcases h.2 with h0 | ⟨g', cap, cur, q1, q2, q⟩
  · exact .inl h0
  · exact .inr ⟨g', cap, cur, q1, by omega, q⟩
theorem Eg.start {w w1 w2 : World} {g1 g2 n c1 c2 : Nat} {l m : List Int} (hr : Arr (w.alloc (.cells #[.slice none 0 0, .slice none 0 0] 25)) w.heap.size [.slice none 0 0, .slice none 0 0] 25)
    (b1 : Below (w.alloc (.cells #[.slice none 0 0, .slice none 0 0] 25)).heap.size (w.alloc (.cells #[.slice none 0 0, .slice none 0 0] 25)) w1)
    (o1 : w1.ownsRow (w.alloc (.cells #[.slice none 0 0, .slice none 0 0] 25)).heap.size 3 1 (.slice (some ⟨g1, 0, none⟩) n c1) n (V l))
    (b2 : Below w1.heap.size w1 w2) (o2 : w2.ownsRow w1.heap.size 3 1 (.slice (some ⟨g2, 0, none⟩) n c2) n (V m)) :
    Eg w (w2.alloc (.cells #[.slice (some ⟨g1, 0, none⟩) n c1, .slice (some ⟨g2, 0, none⟩) n c2] 25)) w2.heap.size g1 g2 n c1 c2 l m := by
  have a1 := o1.lt g1 rfl; have a2 := o2.lt g2 rfl
  have s1 := b1.size; have s2 := b2.size
  have e : (w.alloc (.cells #[.slice none 0 0, .slice none 0 0] 25)).heap.size = w.heap.size + 1 := by simp
  rw [e] at a1 s1 b1
  refine ⟨?_, Arr.new w2 _ _ (by rfl), ?_, ?_, by omega, by omega, by omega, ?_⟩
  · exact Arr.alloc ((b2.block _ (by omega)).trans ((b1.block _ (by omega)).trans hr)) _
  · have := (own_below o1 b2 a1.2).alloc (.cells #[.slice (some ⟨g1, 0, none⟩) n c1, .slice (some ⟨g2, 0, none⟩) n c2] 25)
    rw [e] at this; exact this
  · exact (own_lo o2 (by omega)).alloc _
  · exact (((Below.refl w.heap.size w).alloc (Nat.le_refl _) _).trans ((b1.mono (by omega)).trans (b2.mono (by omega)))).alloc (by omega) _

set_option maxHeartbeats 4000000 in
theorem el_spec0 (a h : Int) (w : World) (lo1 : -9223372036854775808 ≤ a) (hi1 : a ≤ 9223372036854775807) (lo2 : -9223372036854775808 ≤ h) (hi2 : h ≤ 9223372036854775807) :
    Calls Try.prog 34 #[.int .i64 a, .int .i64 h] w (SB (elFR a h) (elFU a h) (elB a h) w) := by
  have RES := Lib.hid (Arr.new w [.slice none 0 0, .slice none 0 0] 25 rfl)
  by_cases ha : 1 ≤ a ∧ a ≤ 24
  · by_cases hh : 1 ≤ h ∧ h ≤ 24
    · obtain ⟨A, rfl⟩ := Int.eq_ofNat_of_zero_le (show 0 ≤ a by omega)
      obtain ⟨H, rfl⟩ := Int.eq_ofNat_of_zero_le (show 0 ≤ h by omega)
      obtain ⟨S, hS⟩ : ∃ S, S = A + H := ⟨_, rfl⟩
      obtain ⟨n, hn⟩ : ∃ n, n + 1 = A + H := ⟨A + H - 1, by omega⟩
      have hS1 : (A : Int) + (H : Int) = (S : Int) := by omega
      have hS2 : IntKind.i64.wrap (S : Int) = (S : Int) := w_in (by omega)
      have hn1 : (S : Int) - 1 = (n : Int) := by omega
      have hn2 : IntKind.i64.wrap (n : Int) = (n : Int) := w_in (by omega)
      have hA1 : 1 ≤ (A : Int) := ha.1
      have hA2 : (A : Int) ≤ 24 := ha.2
      have hH1 : 1 ≤ (H : Int) := hh.1
      have hH2 : (H : Int) ≤ 24 := hh.2
      clear ha hh hS
      by_cases hp : n ≤ 24
      · have hd : decide ((24 : Int) < (n : Int)) = false := by simp; omega
        obtain ⟨y1, y2, y3⟩ := el_yes (A := A) (H := H) (n := n) (by omega) (by omega) hn hp
        have Y1 := Lib.hid y1; have Y2 := Lib.hid y2; have Y3 := Lib.hid y3; clear y1 y2 y3
        go_enter Try.func34, Try.ntmps34
        go_wp2_with (first | (go_at_call 60; refine (permOk.in_yes _ _ _ _ (by omega) (by omega)).mono ?_; rintro e w' ⟨rfl, rfl⟩))
        refine (fns.l02id_any n _ hp).mono ?_
        rintro e w1 ⟨v1, rfl, ho1, b1⟩
        rw [← lst_id n] at ho1
        have l1 := lst_len n (fun i => i)
        rw [l1] at ho1
        obtain ⟨g1, c1, rfl⟩ := own_at ho1 (by omega)
        have HO1 := Lib.hid ho1; have B1 := Lib.hid b1; clear ho1 b1
        go_wp2_with fail
        refine (fns.l02id_any n _ hp).mono ?_
        rintro e w2 ⟨v2, rfl, ho2, b2⟩
        rw [← lst_id n, l1] at ho2
        obtain ⟨g2, c2, rfl⟩ := own_at ho2 (by omega)
        have HO2 := Lib.hid ho2; have B2 := Lib.hid b2; clear ho2 b2
        clear l1
        go_wp2_with (refine wpList_build rfl 25 _ rfl [] rfl #[.slice (some ⟨g1, 0, none⟩) n c1, .slice (some ⟨g2, 0, none⟩) n c2] ?_ ?_)
        have EG : Hid (Eg w (w2.alloc (.cells #[.slice (some ⟨g1, 0, none⟩) n c1, .slice (some ⟨g2, 0, none⟩) n c2] 25)) w2.heap.size g1 g2 n c1 c2 (elR A n 0) (lst n fun i => i)) := Lib.hid (by
          rw [elR_zero]
          exact Eg.start RES.out B1.out HO1.out B2.out HO2.out)
        clear RES HO1 B1 HO2 B2
        obtain ⟨b, hb⟩ : ∃ b, b = w2.heap.size := ⟨_, rfl⟩
        rw [← hb] at EG ⊢
        generalize (w2.alloc (.cells #[.slice (some ⟨g1, 0, none⟩) n c1, .slice (some ⟨g2, 0, none⟩) n c2] 25)) = w3 at EG ⊢
        clear hb w1 w2
        go_loopw [8] (fun i wr => ∃ k : Nat, k ≤ A ∧ i = .int .i64 k ∧ Eg w wr b g1 g2 n c1 c2 (elR A n k) (lst n fun i => i)) (fun i _ => A - (intOf i).toNat)
        case atStart => exact ⟨0, Nat.zero_le _, rfl, EG.out⟩
        case round =>
          obtain ⟨k, hk, rfl, ht⟩ := hrel
          have HT := Lib.hid ht; clear ht EG
          by_cases hlt : k < A
          · obtain ⟨k1, z, ⟨f1, f2⟩, f3, f4⟩ := elf (A := A) (k := k) (by omega) (by omega) (by omega)
            have hkn : k < n := by omega
            have NL : Hid ((elR A n k).set k (z : Int) = elR A n (k + 1)) := Lib.hid (by rw [f4]; exact elR_succ hkn)
            clear f4
            have hc := HT.out.box.cell (k := 0) rfl
            have hcx := HT.out.cell1 hkn
            have hfx := HT.out.own1.frozenAt k
            have hA0 : ¬ A = 0 := by omega
            clear hS1 hS2 hn1 hn2
            go_wp2
            go_region
            go_wp2
            go_roundw
            case rel =>
              refine ⟨k + 1, by omega, by go_num, ?_⟩
              have := (HT.out.set1 k z).drew
              rw [NL.out] at this
              exact this
            case measure => simp [intOf]; omega
          · obtain rfl : k = A := by omega
            clear hS1 hS2 hn1 hn2 hlt
            by_cases hH : 1 < H
            · have hdl : decide (1 < (H : Int)) = true := by simp; omega
              have hc1 := HT.out.box.cell (k := 1) rfl
              have hcx := HT.out.cell2 (k := 0) (by omega)
              have hfx := HT.out.own2.frozenAt 0
              have hn0 : 0 < n := by omega
              have NS : Hid ((lst n (fun i => i)).set 0 (k : Int) = elS k n k) := Lib.hid (elS_start (by omega) (by omega))
              go_wp2
              go_loopw [9] (fun i wr => ∃ j : Nat, k ≤ j ∧ j ≤ n ∧ i = .int .i64 j ∧ Eg w wr b g1 g2 n c1 c2 (elR k n k) (elS k n j)) (fun i _ => n - (intOf i).toNat)
              case atStart =>
                refine ⟨k, Nat.le_refl _, by omega, rfl, ?_⟩
                have := HT.out.set2 0 (k : Int)
                rw [NS.out] at this
                exact this
              case round =>
                obtain ⟨j, hkj, hj, rfl, ht⟩ := hrel
                clear hcx hfx hc1 HT
                have HT := Lib.hid ht; clear ht
                by_cases hlt : j < n
                · obtain ⟨k1, z, ⟨f1, f2⟩, f3, f4⟩ := elf (A := n) (k := j) (by omega) (by omega) (by omega)
                  have NL : Hid ((elS k n j).set j (z : Int) = elS k n (j + 1)) := Lib.hid (by rw [f4]; exact elS_succ (by omega) hkj)
                  clear f4
                  have hc := HT.out.box.cell (k := 1) rfl
                  have hcx := HT.out.cell2 hlt
                  have hfx := HT.out.own2.frozenAt j
                  have hA0 : ¬ n = 0 := by omega
                  go_wp2
                  go_region
                  go_wp2
                  go_roundw
                  case rel =>
                    refine ⟨j + 1, by omega, by omega, by go_num, ?_⟩
                    have := (HT.out.set2 j z).drew
                    rw [NL.out] at this
                    exact this
                  case measure => simp [intOf]; omega
                · obtain rfl : j = n := by omega
                  have Y4 : Hid (elU k H j = elS k j j) := Lib.hid (by unfold elU; rw [if_neg (show ¬ H ≤ 1 by omega)])
                  have SV := Lib.hid (HT.out.svl (by omega))
                  have hc := HT.out.box.cell (k := 0) rfl
                  have hc1 := HT.out.box.cell (k := 1) rfl
                  have hsz := HT.out.below.size
                  go_wp2_with (refine wpList_store_row rfl 25 _ _ rfl w.heap.size #[.slice (some ⟨g1, 0, none⟩) j c1, .slice (some ⟨g2, 0, none⟩) j c2] rfl rfl 25 #[.slice none 0 0, .slice none 0 0] HT.out.res size2 rfl (by simp [Value.oneCell']) ?_)
                  exact bodyPost_ret (v := .tuple #[.agg #[.slice (some ⟨g1, 0, none⟩) j c1, .slice (some ⟨g2, 0, none⟩) j c2], .bool true]) (permOf.results_cell_tmp rfl _ _ w.heap.size 25 #[.slice (some ⟨g1, 0, none⟩) j c1, .slice (some ⟨g2, 0, none⟩) j c2] (0, 0) _ _ rfl rfl HT.out.res.row Try.underlying25 rfl size2) rfl (by
                    rw [Y1.out, Y2.out, Y3.out, Y4.out]
                    have := Svl.row SV.out (g := w.heap.size) (by omega) #[.slice (some ⟨g1, 0, none⟩) j c1, .slice (some ⟨g2, 0, none⟩) j c2]
                    exact ⟨_, rfl, (by simpa using this.later (by omega)), below_setRow HT.out.below (Nat.le_refl _) _⟩)
            · have hdl : decide (1 < (H : Int)) = false := by simp; omega
              have Y4 : Hid (elU k H n = lst n (fun i => i)) := Lib.hid (by unfold elU; rw [if_pos (show H ≤ 1 by omega)])
              have SV := Lib.hid (HT.out.svl (by omega))
              have hc := HT.out.box.cell (k := 0) rfl
              have hc1 := HT.out.box.cell (k := 1) rfl
              have hsz := HT.out.below.size
              go_wp2_with (refine wpList_store_row rfl 25 _ _ rfl w.heap.size #[.slice (some ⟨g1, 0, none⟩) n c1, .slice (some ⟨g2, 0, none⟩) n c2] rfl rfl 25 #[.slice none 0 0, .slice none 0 0] HT.out.res size2 rfl (by simp [Value.oneCell']) ?_)
              exact bodyPost_ret (v := .tuple #[.agg #[.slice (some ⟨g1, 0, none⟩) n c1, .slice (some ⟨g2, 0, none⟩) n c2], .bool true]) (permOf.results_cell_tmp rfl _ _ w.heap.size 25 #[.slice (some ⟨g1, 0, none⟩) n c1, .slice (some ⟨g2, 0, none⟩) n c2] (0, 0) _ _ rfl rfl HT.out.res.row Try.underlying25 rfl size2) rfl (by
                rw [Y1.out, Y2.out, Y3.out, Y4.out]
                have := Svl.row SV.out (g := w.heap.size) (by omega) #[.slice (some ⟨g1, 0, none⟩) n c1, .slice (some ⟨g2, 0, none⟩) n c2]
                exact ⟨_, rfl, (by simpa using this.later (by omega)), below_setRow HT.out.below (Nat.le_refl _) _⟩)
      · obtain ⟨n1, n2, n3⟩ := el_no (a := A) (h := H) (fun q => by have := q.2.2; omega)
        have N1 := Lib.hid n1; have N2 := Lib.hid n2; have N3 := Lib.hid n3; clear n1 n2 n3
        have hd : decide ((24 : Int) < (n : Int)) = true := by simp; omega
        go_enter Try.func34, Try.ntmps34
        go_wp2_with (first | (go_at_call 60; refine (permOk.in_yes _ _ _ _ (by omega) (by omega)).mono ?_; rintro e w' ⟨rfl, rfl⟩) | (refine wpList_build rfl 25 _ rfl [] rfl #[.slice none 0 0, .slice none 0 0] built2 ?_) | (refine wpList_store_row rfl 25 _ _ rfl w.heap.size #[.slice none 0 0, .slice none 0 0] rfl rfl 25 #[.slice none 0 0, .slice none 0 0] RES.out size2 rfl (by simp [Value.oneCell']) ?_))
        exact bodyPost_ret (v := .tuple #[.agg #[.slice none 0 0, .slice none 0 0], .bool false]) (permOf.results_cell_tmp rfl _ _ w.heap.size 25 #[.slice none 0 0, .slice none 0 0] (0, 0) _ _ rfl rfl RES.out.row Try.underlying25 rfl size2) rfl (sb_nil N2.out N3.out N1.out (below_setRow ((Below.refl _ _).alloc (Nat.le_refl _) _) (Nat.le_refl _) _))
    · obtain ⟨n1, n2, n3⟩ := el_no (a := a) (h := h) (fun q => by omega)
      have N1 := Lib.hid n1; have N2 := Lib.hid n2; have N3 := Lib.hid n3; clear n1 n2 n3
      have hh' : h < 1 ∨ 24 < h := by omega
      clear hh
      go_enter Try.func34, Try.ntmps34
      go_wp2_with fail
      refine (permOk.in_yes _ _ _ _ (by omega) (by omega)).mono ?_
      rintro e w' ⟨rfl, rfl⟩
      go_wp2_with fail
      refine (permOk.in_no _ _ _ _ hh').mono ?_
      rintro e w' ⟨rfl, rfl⟩
      go_wp2_with (first | (refine wpList_build rfl 25 _ rfl [] rfl #[.slice none 0 0, .slice none 0 0] built2 ?_) | (refine wpList_store_row rfl 25 _ _ rfl w.heap.size #[.slice none 0 0, .slice none 0 0] rfl rfl 25 #[.slice none 0 0, .slice none 0 0] RES.out size2 rfl (by simp [Value.oneCell']) ?_))
      exact bodyPost_ret (v := .tuple #[.agg #[.slice none 0 0, .slice none 0 0], .bool false]) (permOf.results_cell_tmp rfl _ _ w.heap.size 25 #[.slice none 0 0, .slice none 0 0] (0, 0) _ _ rfl rfl RES.out.row Try.underlying25 rfl size2) rfl (sb_nil N2.out N3.out N1.out (below_setRow ((Below.refl _ _).alloc (Nat.le_refl _) _) (Nat.le_refl _) _))
  · obtain ⟨n1, n2, n3⟩ := el_no (a := a) (h := h) (fun q => by omega)
    have N1 := Lib.hid n1; have N2 := Lib.hid n2; have N3 := Lib.hid n3; clear n1 n2 n3
    have ha' : a < 1 ∨ 24 < a := by omega
    clear ha
    go_enter Try.func34, Try.ntmps34
    go_wp2_with fail
    refine (permOk.in_no _ _ _ _ ha').mono ?_
    rintro e w' ⟨rfl, rfl⟩
    go_wp2_with (first | (refine wpList_build rfl 25 _ rfl [] rfl #[.slice none 0 0, .slice none 0 0] built2 ?_) | (refine wpList_store_row rfl 25 _ _ rfl w.heap.size #[.slice none 0 0, .slice none 0 0] rfl rfl 25 #[.slice none 0 0, .slice none 0 0] RES.out size2 rfl (by simp [Value.oneCell']) ?_))
    exact bodyPost_ret (v := .tuple #[.agg #[.slice none 0 0, .slice none 0 0], .bool false]) (permOf.results_cell_tmp rfl _ _ w.heap.size 25 #[.slice none 0 0, .slice none 0 0] (0, 0) _ _ rfl rfl RES.out.row Try.underlying25 rfl size2) rfl (sb_nil N2.out N3.out N1.out (below_setRow ((Below.refl _ _).alloc (Nat.le_refl _) _) (Nat.le_refl _) _))

end Go.Proofs.Ytpmojmhamgcfmaa.gl

/-
  EllOf of the program.
-/
namespace Go.Proofs.Ytpmojmhamgcfmaa.gl
open Go.ChangeShapes Go.WideShapes Go.ChangeAt Go.RowKit
open Go.Proofs.Ytpmojmhamgcfmaa.mem Go.Proofs.Ytpmojmhamgcfmaa.ints Go.Proofs.Ytpmojmhamgcfmaa.arr Go.Proofs.Ytpmojmhamgcfmaa.pm Go.Proofs.Ytpmojmhamgcfmaa.permOk Go.Proofs.Ytpmojmhamgcfmaa.permOf Go.Proofs.Ytpmojmhamgcfmaa.inv Go.Proofs.Ytpmojmhamgcfmaa.fns Go.Proofs.Ytpmojmhamgcfmaa.sf
set_option linter.unusedVariables false
set_option maxRecDepth 100000

theorem idF_lst {n : Nat} (h : n ≤ 24) : idF (n : Int) = lst n (fun i => i) := by
  unfold idF; rw [if_pos (by omega), Int.toNat_natCast]; rfl

theorem el_spec (a h : Int) (w : World) (lo1 : -9223372036854775808 ≤ a) (hi1 : a ≤ 9223372036854775807) (lo2 : -9223372036854775808 ≤ h) (hi2 : h ≤ 9223372036854775807) :
    Calls Try.prog 34 #[.int .i64 a, .int .i64 h] w fun e w' => ∃ g, e = .returned (.tuple #[g, .bool (elB a h)]) ∧ Svl w' w.heap.size w'.heap.size g (elFR a h) (elFU a h) ∧ Below w.heap.size w w' := el_spec0 a h w lo1 hi1 lo2 hi2
end Go.Proofs.Ytpmojmhamgcfmaa.gl

/-
  The shear of the model.
-/
namespace Go.Proofs.Ytpmojmhamgcfmaa.mk
open Go.ChangeShapes Go.WideShapes Go.ChangeAt Go.RowKit
open Go.Proofs.Ytpmojmhamgcfmaa.mem Go.Proofs.Ytpmojmhamgcfmaa.ints Go.Proofs.Ytpmojmhamgcfmaa.arr Go.Proofs.Ytpmojmhamgcfmaa.pm Go.Proofs.Ytpmojmhamgcfmaa.permOk Go.Proofs.Ytpmojmhamgcfmaa.permOf Go.Proofs.Ytpmojmhamgcfmaa.inv Go.Proofs.Ytpmojmhamgcfmaa.fns Go.Proofs.Ytpmojmhamgcfmaa.sf Go.Proofs.Ytpmojmhamgcfmaa.gl
set_option linter.unusedVariables false
set_option maxRecDepth 100000
theorem Hld.later2 {base top B : Nat} {w W W' : World} {bs : List (Nat × List Value)} (h : Hld base top w bs W) (hB : Below B W W') (hb : base ≤ B) (ht : top ≤ B) : Hld base top w bs W' :=
  ⟨fun p hp => ⟨(h.at_ p hp).1, fun j v hv => by rw [hB.cell (p := ⟨p.1, 0 + j, none⟩) (show p.1 < _ from Nat.lt_of_lt_of_le (h.at_ p hp).1 ht)]; exact (h.at_ p hp).2 j v hv⟩,
    h.below.trans (hB.mono hb), Nat.le_trans h.size hB.size⟩
theorem built_two (P Q : Option Addr) (n c m d : Nat) : Try.prog.built 25 [(0, .slice P n c), (1, .slice Q m d)] = some #[.slice P n c, .slice Q m d] := by kernel_rfl
set_option maxHeartbeats 4000000 in
theorem shear_any (v : Value) (r u : List Int) (N hi : Nat) (w : World) (hx : Srd w hi v r u) (hs : Sf N r u) :
    Calls Try.prog 33 #[v] w fun e w' => ∃ g, e = .returned g ∧ Svl w' w.heap.size w'.heap.size g r (thn (Inv r) u) ∧ Below w.heap.size w w' := by
  obtain ⟨i0, hi0, hz0, hz1, hz2⟩ := info_parts infoI
  have HX := Lib.hid hx; clear hx
  have HS := Lib.hid hs; clear hs
  obtain ⟨P, n, c, Q, m, d, rfl, q1, q2, e1, e2, ht, HR⟩ := HX.out.open
  have RU : Hid (r.length = u.length) := Lib.hid (by rw [HS.out.lr, HS.out.lu])
  obtain rfl : n = N := by rw [← q1]; exact HS.out.lr
  have hN24 : n ≤ 24 := by have := HS.out.r.len; rw [HS.out.lr] at this; omega
  have hN0 : 0 < n := HS.out.pos
  have Q1 := Lib.hid q1; have Q2 := Lib.hid q2; clear q1 q2
  clear HR
  go_enter Try.func33, Try.ntmps33
  go_wp2_with fail
  have A0 := Lib.hid ((Arr.new w [.slice P n c, .slice Q m d] 25 rfl).alloc (.cells #[.slice none 0 0, .slice none 0 0] 25))
  have A1 := Lib.hid (Arr.new (w.alloc (.cells #[.slice P n c, .slice Q m d] 25)) [.slice none 0 0, .slice none 0 0] 25 rfl)
  have B1 := Lib.hid (((Below.refl w.heap.size w).alloc (Nat.le_refl _) (.cells #[.slice P n c, .slice Q m d] 25)).alloc (by simp) (.cells #[.slice none 0 0, .slice none 0 0] 25))
  have es : ((w.alloc (.cells #[.slice P n c, .slice Q m d] 25)).alloc (.cells #[.slice none 0 0, .slice none 0 0] 25)).heap.size = w.heap.size + 2 := by simp
  rw [show (w.alloc (.cells #[.slice P n c, .slice Q m d] 25)).heap.size = w.heap.size + 1 by simp] at A1
  have X1 : Hid (Srd ((w.alloc (.cells #[.slice P n c, .slice Q m d] 25)).alloc (.cells #[.slice none 0 0, .slice none 0 0] 25)) hi (.agg #[.slice P n c, .slice Q m d]) r u) := Lib.hid (HX.out.keep (B1.out.mono ht) (Nat.le_refl _))
  generalize (w.alloc (.cells #[.slice P n c, .slice Q m d] 25)).alloc (.cells #[.slice none 0 0, .slice none 0 0] 25) = w1 at *
  refine wp_region_held_drew (S := Hld (w.heap.size + 1) w1.heap.size w1 [(w.heap.size, [.slice P n c, .slice Q m d])]) (by kernel_rfl) ((Hld.start1 A0.out).lower (by omega)) (fun hHeld => ?_)
  have b1 : Below w1.heap.size w1 w1.drew := ⟨rfl, rfl, rfl, Nat.le_refl _, fun _ _ => rfl⟩
  generalize w1.drew = w2 at *
  have s2 := b1.size; replace X1 := Lib.hid (X1.out.keep b1 X1.out.top); replace B1 := Lib.hid (B1.out.trans (b1.mono B1.out.size))
  replace A1 := Lib.hid (A1.out.keep b1 A1.out.lt); clear b1 A0
  refine wpAnyH_take (i := 1) (v := .pointer (some ⟨w.heap.size, 0, none⟩)) rfl (by kernel_rfl) (by kernel_rfl) (by kernel_rfl) (fun _ _ _ h => h) (Or.inl ⟨by rfl, fun w hSw => by go_simp⟩) hHeld ?_
  refine wpAnyH_take (i := 4) (v := .pointer (some ⟨w.heap.size, 0, none⟩)) rfl (by kernel_rfl) (by kernel_rfl) (by kernel_rfl) (fun _ _ _ h => h) (Or.inl ⟨by rfl, fun w hSw => by go_simp⟩) hHeld ?_
  refine wpAnyH_take (i := 7) (v := .pointer (some ⟨w.heap.size, 1, none⟩)) rfl (by kernel_rfl) (by kernel_rfl) (by kernel_rfl) (fun _ _ _ h => h) (Or.inl ⟨by rfl, fun w hSw => by go_simp⟩) hHeld ?_
  refine wpAnyH_take (i := 2) (v := .slice P n c) rfl (by kernel_rfl) (by kernel_rfl) (by kernel_rfl) (fun _ _ _ h => h) (Or.inl ⟨by rfl, fun w hSw => by have := hSw.c0; go_simp⟩) hHeld ?_
  refine wpAnyH_take (i := 5) (v := .slice P n c) rfl (by kernel_rfl) (by kernel_rfl) (by kernel_rfl) (fun _ _ _ h => h) (Or.inl ⟨by rfl, fun w hSw => by have := hSw.c0; go_simp⟩) hHeld ?_
  refine wpAnyH_take (i := 8) (v := .slice Q m d) rfl (by kernel_rfl) (by kernel_rfl) (by kernel_rfl) (fun _ _ _ h => h) (Or.inl ⟨by rfl, fun w hSw => by have := hSw.c1; go_simp⟩) hHeld ?_
  refine wpAnyH_ready (rs := [0]) (by kernel_rfl) (by simp) (AllReadyH.cons rfl (fun K hK => ?_) AllReadyH.nil)
  go_simp
  have b1 : Below w2.heap.size w2 (w2.alloc (.cells #[] 3)) := (Below.refl _ _).alloc (Nat.le_refl _) _
  have o3 := (Grows.empty w2).own
  have hHeld2 := hHeld.later b1 (by omega); clear hHeld
  have s_ := b1.size; replace X1 := Lib.hid (X1.out.keep b1 X1.out.top); replace B1 := Lib.hid (B1.out.trans (b1.mono B1.out.size))
  replace A1 := Lib.hid (A1.out.keep b1 A1.out.lt); clear b1
  refine hK.out _ _ hHeld2 (fun hHeld => ?_)
  clear hK K hHeld2
  generalize w2.alloc (.cells #[] 3) = w3 at *
  have O3 := Lib.hid o3; clear o3
  refine wpAnyH_ready (rs := [3]) (by kernel_rfl) (by simp) (AllReadyH.cons rfl (fun K hK => ?_) AllReadyH.nil)
  obtain ⟨P0, o0, rfl⟩ : ∃ g o, P = some ⟨g, o, none⟩ := by
    obtain ⟨g, off, q, _⟩ := (Srd.fst X1.out).2.2 hN0
    exact ⟨g, off, q⟩
  have hnews : ∀ (j : Nat) (q : Value), (V r)[j]? = some q → w3.cell? ((⟨P0, o0, none⟩ : Addr).add j) = some q := fun j q hq => by
    have hj : j < n := by have := (List.getElem?_eq_some_iff.1 hq).1; rw [V_len, Q1.out] at this; exact this
    obtain ⟨g, off, u', e, _, h1, h2⟩ := (Srd.fst X1.out).at_ hj
    injection e with e; injection e with e1 e2 e3
    subst e1; subst e2
    rw [h1] at hq
    have : (⟨P0, o0, none⟩ : Addr).add j = ⟨P0, o0 + j, none⟩ := by simp [Addr.add]
    rw [this, h2, ← hq]
  have hws : w2.heap.size ≤ w3.heap.size := s_
  refine step_append_lies w3 rfl _ _ 23 rfl w2.heap.size 3 i0 _ 1 8 Try.underlying23 hi0 hz0 hz1 hz2 rfl (by decide) _ 0 [] rfl O3.out ⟨P0, o0, none⟩ n c (V r) rfl (by rw [V_len, Q1.out, Nat.mul_one]) hnews (fun q hq => by obtain ⟨z, _, rfl⟩ := List.mem_map.1 hq; rfl) hN0 (by unfold maxLen; omega) (by omega) hws _ rfl ?_
  intro g3 c3 w4 ho hg hat hlt
  clear hnews
  have b1 : Below w2.heap.size w3 w4 := own_below O3.out hg (Nat.le_refl _) hws
  have hw2 : w.heap.size ≤ w2.heap.size := by omega
  rw [Nat.zero_add, List.nil_append] at ho
  rw [Nat.zero_add]
  have hHeld2 := Hld.later2 hHeld b1 (by omega) (by omega); clear hHeld
  replace X1 := Lib.hid (X1.out.keep (b1.mono (by have := X1.out.top; have := HX.out.top; omega)) (Nat.le_refl _))
  replace B1 := Lib.hid (B1.out.trans (b1.mono hw2))
  replace A1 := Lib.hid (A1.out.keep b1 (by omega))
  have R4 := Lib.hid (Row.of_own ho)
  have hc3 := (own_cap ho).2
  have s4 := b1.size
  clear ho hg hat hlt b1 O3 s_
  refine hK.out _ _ hHeld2 (fun hHeld => ?_)
  clear hK K hHeld2
  refine wpAnyH_ready (rs := [6]) (by kernel_rfl) (by simp) (AllReadyH.cons rfl (fun K hK => ?_) AllReadyH.nil)
  go_simp
  refine (l02inv_gives (some ⟨P0, o0, none⟩) n c r hi _ (Srd.fst X1.out) HS.out.r Q1.out).mono ?_
  rintro e w5 ⟨v5, rfl, o5, b1⟩
  obtain ⟨P5, c5, rfl⟩ := own_form o5
  have s_ := b1.size; replace X1 := Lib.hid (X1.out.keep b1 X1.out.top); replace B1 := Lib.hid (B1.out.trans (b1.mono B1.out.size))
  replace A1 := Lib.hid (A1.out.keep b1 A1.out.lt)
  replace R4 := Lib.hid (R4.out.keep b1 R4.out.2.1)
  have R5 := Lib.hid (Row.of_own o5); clear o5
  go_wp2_with fail
  have hHeld2 := hHeld.later b1 (by omega); clear b1 hHeld
  refine hK.out _ _ hHeld2 (fun hHeld => ?_)
  clear hK K hHeld2
  refine wpAnyH_ready (rs := [9]) (by kernel_rfl) (by simp) (AllReadyH.cons rfl (fun K hK => ?_) AllReadyH.nil)
  go_simp
  refine (l02then_any P5 _ c5 Q m d (Inv r) u _ _ _ R5.out.rd (Srd.snd X1.out) (Inv_ok HS.out.r) (by rw [Inv_len, ← Q2.out]; exact RU.out)).mono ?_
  rintro e w6 ⟨v6, rfl, o6, b1⟩
  obtain ⟨P6, c6, rfl⟩ := own_form o6
  have hc6 := (own_cap o6).2
  replace B1 := Lib.hid (B1.out.trans (b1.mono B1.out.size))
  replace A1 := Lib.hid (A1.out.keep b1 A1.out.lt)
  replace R4 := Lib.hid (R4.out.keep b1 R4.out.2.1)
  have s6 := b1.size
  have R6 := Lib.hid (Row.of_own o6); clear o6
  go_wp2_with fail
  have hHeld2 := hHeld.later b1 (by omega); clear b1 hHeld R5 X1
  refine hK.out _ _ hHeld2 (fun hHeld => ?_)
  clear hK K hHeld2
  have hl : (thn (Inv r) u).length = n := by rw [thn_len, Inv_len, Q1.out]
  rw [hl] at hc6 ⊢
  replace R6 : Hid (Row w6 w5.heap.size w6.heap.size P6 n (V (thn (Inv r) u))) := Lib.hid (by have := R6.out; rw [hl] at this; exact this)
  clear hl
  refine wpAnyH_ready (rs := [10]) (by kernel_rfl) (by simp) (AllReadyH.cons rfl (fun K hK => ?_) AllReadyH.nil)
  refine step_build rfl 25 _ rfl [(0, .slice (some ⟨g3, 0, none⟩) n c3), (1, .slice P6 n c6)] rfl #[.slice (some ⟨g3, 0, none⟩) n c3, .slice P6 n c6] (built_two _ _ _ _ _ _) ?_
  refine hK.out _ _ hHeld (fun hHeld2 => ?_)
  clear hK K hHeld
  refine wpAnyH_ready (rs := [11]) (by kernel_rfl) (by simp) (AllReadyH.cons rfl (fun K hK => ?_) AllReadyH.nil)
  refine step_store_row rfl 25 _ _ rfl (w.heap.size + 1) #[.slice (some ⟨g3, 0, none⟩) n c3, .slice P6 n c6] rfl rfl 25 #[.slice none 0 0, .slice none 0 0] A1.out size2 rfl (by simp [Value.oneCell']) ?_
  refine hK.out _ _ (hHeld2.other (Nat.le_refl _) (by simp) _) (fun hHeld => ?_)
  clear hK K hHeld2 hHeld
  refine wpAnyH_done (by kernel_rfl) ?_ _
  go_wp2_with fail
  exact bodyPost_ret (v := .agg #[.slice (some ⟨g3, 0, none⟩) n c3, .slice P6 n c6]) (results_cell_row rfl _ _ (w.heap.size + 1) 25 #[.slice (some ⟨g3, 0, none⟩) n c3, .slice P6 n c6] (0, 0) _ rfl A1.out.row Try.underlying25 rfl size2) rfl (by
    have m2 : Svl w6 (w.heap.size + 2) w6.heap.size (.agg #[.slice (some ⟨g3, 0, none⟩) n c3, .slice P6 n c6]) r (thn (Inv r) u) :=
      Svl.mk2 (l2 := w5.heap.size) (R4.out.wider (by omega) (by omega) (by omega)) R6.out (by omega) hc3 hc6
    have := Svl.row m2 (g := w.heap.size + 1) (by omega) #[.slice (some ⟨g3, 0, none⟩) n c3, .slice P6 n c6]
    exact ⟨_, rfl, (by simpa using this.later (by omega)), below_setRow B1.out (by omega) _⟩)
end Go.Proofs.Ytpmojmhamgcfmaa.mk

/-
  The model's letters t, S and s: l05Unshear, l05Turn, l05Unturn.
-/
namespace Go.Proofs.Ytpmojmhamgcfmaa.mk
open Go.ChangeShapes Go.WideShapes Go.ChangeAt Go.RowKit
open Go.Proofs.Ytpmojmhamgcfmaa.mem Go.Proofs.Ytpmojmhamgcfmaa.ints Go.Proofs.Ytpmojmhamgcfmaa.arr Go.Proofs.Ytpmojmhamgcfmaa.pm Go.Proofs.Ytpmojmhamgcfmaa.permOk Go.Proofs.Ytpmojmhamgcfmaa.permOf Go.Proofs.Ytpmojmhamgcfmaa.inv Go.Proofs.Ytpmojmhamgcfmaa.fns Go.Proofs.Ytpmojmhamgcfmaa.sf Go.Proofs.Ytpmojmhamgcfmaa.gl
set_option linter.unusedVariables false
set_option maxRecDepth 100000
/-- A row that begins at a block's first cell lies in that block alone. -/
theorem _root_.Go.Proofs.Ytpmojmhamgcfmaa.mem.Row.one {w : World} {lo hi g n : Nat} {xs : List Value} (h : Row w lo hi (some ⟨g, 0, none⟩) n xs) (hg : g < w.heap.size) : Row w g (g + 1) (some ⟨g, 0, none⟩) n xs :=
  ⟨h.1, hg, fun hn => by
    obtain ⟨g', o', e, _, _, hc⟩ := h.2.2 hn
    injection e with e; injection e with e1 e2 e3
    subst e1; subst e2
    exact ⟨_, _, rfl, Nat.le_refl _, Nat.lt_succ_self _, hc⟩⟩
theorem own_keep {w w' : World} {base B : Nat} {e : TypeId} {g n c : Nat} {xs : List Value} (h : w.ownsRow base e 1 (.slice (some ⟨g, 0, none⟩) n c) n xs) (hb : Below B w w') (hB : g < B) : w'.ownsRow base e 1 (.slice (some ⟨g, 0, none⟩) n c) n xs := by
  refine ⟨h.1, ?_⟩
  rcases h.2 with ⟨h0, _⟩ | ⟨g', cap, cur, q1, q2, q3, q4⟩
  · exact absurd h0 (by simp)
  · refine .inr ⟨g', cap, cur, q1, q2, ?_, q4⟩
    injection q1 with q1 _ _; injection q1 with q1; injection q1 with q1 _ _
    subst q1
    rw [hb.block _ hB]; exact q3
theorem row_far {w w' : World} {base : Nat} {e : TypeId} {size n : Nat} {v : Value} {xs : List Value} {lo hi k : Nat} {A : Option Addr} {ys : List Value} (_ : w.ownsRow base e size v n xs) (hg : w.grownBy w' v.ownBlock)
    (h : Row w lo hi A k ys) (hf : ∀ b, v.ownBlock = some b → b < lo ∨ hi ≤ b) : Row w' lo hi A k ys := by
  refine ⟨h.1, Nat.le_trans h.2.1 hg.size, fun hn => ?_⟩
  obtain ⟨g, off, e, h1, h2, hc⟩ := h.2.2 hn
  refine ⟨g, off, e, h1, h2, fun j hj => ?_⟩
  have hne : some g ≠ v.ownBlock := fun q => by rcases hf g q.symm with h | h <;> omega
  have hb := hg.block g (by have := h.2.1; omega) hne
  obtain ⟨a, b⟩ := hc j hj
  exact ⟨by rw [← a]; exact World.cell?_of_block (a := ⟨g, off + j, none⟩) hb, by rw [← b]; simp only [World.frozen?, hb]⟩
theorem mk3 {w : World} {lo : Nat} {A B : Option Addr} {n m c d l1 h1 l2 h2 : Nat} {r u : List Int} (a : Row w l1 h1 A n (V r)) (b : Row w l2 h2 B m (V u)) (hc : n ≤ c) (hd : m ≤ d) (q1 : lo ≤ l1) (q2 : lo ≤ l2) (hx : h1 ≤ l2 ∨ h2 ≤ l1) :
    Svl w lo w.heap.size (.agg #[.slice A n c, .slice B m d]) r u :=
  ⟨A, n, c, B, m, d, l1, h1, l2, h2, rfl, a, b, hc, hd, q1, a.2.1, q2, b.2.1, hx, Nat.le_refl _⟩
end Go.Proofs.Ytpmojmhamgcfmaa.mk

/-
  RenameSurface of the program.
-/
namespace Go.Proofs.Ytpmojmhamgcfmaa.gl
open Go.ChangeShapes Go.WideShapes Go.ChangeAt Go.RowKit
open Go.Proofs.Ytpmojmhamgcfmaa.mem Go.Proofs.Ytpmojmhamgcfmaa.ints Go.Proofs.Ytpmojmhamgcfmaa.arr Go.Proofs.Ytpmojmhamgcfmaa.pm Go.Proofs.Ytpmojmhamgcfmaa.permOk Go.Proofs.Ytpmojmhamgcfmaa.permOf Go.Proofs.Ytpmojmhamgcfmaa.inv Go.Proofs.Ytpmojmhamgcfmaa.fns Go.Proofs.Ytpmojmhamgcfmaa.sf
set_option linter.unusedVariables false
set_option maxRecDepth 100000

theorem take_ren24 {n : Nat} {xs ys : List Int} (h : Ok xs) (h' : Ok ys) (lx : xs.length = n) (ly : ys.length = n) : (ren24 (ext xs) (ext ys)).take n = renTo n xs ys n := by
  rw [ren24_ext h h' lx ly]
  have e := ext_take (renTo n xs ys n) (by rw [renTo_len]; have := h.len; omega)
  rwa [renTo_len] at e

end Go.Proofs.Ytpmojmhamgcfmaa.gl

/-
  What the letters answer (any lists); ShearSurface, UnshearSurface, TurnSurface, UnturnSurface of the model.
-/
namespace Go.Proofs.Ytpmojmhamgcfmaa.lw
open Go.ChangeShapes Go.WideShapes Go.ChangeAt Go.RowKit
open Go.Proofs.Ytpmojmhamgcfmaa.mem Go.Proofs.Ytpmojmhamgcfmaa.ints Go.Proofs.Ytpmojmhamgcfmaa.arr Go.Proofs.Ytpmojmhamgcfmaa.pm Go.Proofs.Ytpmojmhamgcfmaa.permOk Go.Proofs.Ytpmojmhamgcfmaa.permOf Go.Proofs.Ytpmojmhamgcfmaa.inv Go.Proofs.Ytpmojmhamgcfmaa.fns Go.Proofs.Ytpmojmhamgcfmaa.sf Go.Proofs.Ytpmojmhamgcfmaa.gl Go.Proofs.Ytpmojmhamgcfmaa.mk
set_option linter.unusedVariables false
set_option maxRecDepth 100000
/-- What a function on surfaces answers: the empty surface, if the lists are no surface. -/
def acR (f : Sur → Sur) (r u : List Int) : List Int := if transB r u then (f (r, u)).1 else []
def acU (f : Sur → Sur) (r u : List Int) : List Int := if transB r u then (f (r, u)).2 else []
theorem ac_yes (f : Sur → Sur) {r u : List Int} (h : transB r u = true) : acR f r u = (f (r, u)).1 ∧ acU f r u = (f (r, u)).2 := by simp [acR, acU, h]
theorem ac_no (f : Sur → Sur) {r u : List Int} (h : transB r u = false) : acR f r u = [] ∧ acU f r u = [] := by simp [acR, acU, h]
/-- It keeps surfaces. -/
def Keeps (f : Sur → Sur) : Prop := ∀ n R U, Sf n R U → Sf n (f (R, U)).1 (f (R, U)).2
theorem acR_le {f : Sur → Sur} (hf : Keeps f) (r u : List Int) : (acR f r u).length ≤ 1048576 := by
  unfold acR; split
  · rename_i h; have s := hf _ _ _ (transB_iff.1 h); have := s.r.len; omega
  · simp
theorem acU_le {f : Sur → Sur} (hf : Keeps f) (r u : List Int) : (acU f r u).length ≤ 1048576 := by
  unfold acU; split
  · rename_i h; have s := hf _ _ _ (transB_iff.1 h); have := s.u.len; omega
  · simp
theorem sh_keeps : Keeps shearS := fun n R U s => shear_sf s
def shR (r u : List Int) : List Int := acR shearS r u
def shU (r u : List Int) : List Int := acU shearS r u
theorem shR_len (r u : List Int) : (shR r u).length ≤ 1048576 := acR_le sh_keeps r u
theorem shU_len (r u : List Int) : (shU r u).length ≤ 1048576 := acU_le sh_keeps r u
theorem us_keeps : Keeps unshearS := fun n R U s => unshear_sf s
def usR (r u : List Int) : List Int := acR unshearS r u
def usU (r u : List Int) : List Int := acU unshearS r u
theorem usR_len (r u : List Int) : (usR r u).length ≤ 1048576 := acR_le us_keeps r u
theorem usU_len (r u : List Int) : (usU r u).length ≤ 1048576 := acU_le us_keeps r u
theorem tu_keeps : Keeps turnS := fun n R U s => turn_sf s
def tuR (r u : List Int) : List Int := acR turnS r u
def tuU (r u : List Int) : List Int := acU turnS r u
theorem tuR_len (r u : List Int) : (tuR r u).length ≤ 1048576 := acR_le tu_keeps r u
theorem tuU_len (r u : List Int) : (tuU r u).length ≤ 1048576 := acU_le tu_keeps r u
theorem ut_keeps : Keeps unturnS := fun n R U s => unturn_sf s
def utR (r u : List Int) : List Int := acR unturnS r u
def utU (r u : List Int) : List Int := acU unturnS r u
theorem utR_len (r u : List Int) : (utR r u).length ≤ 1048576 := acR_le ut_keeps r u
theorem utU_len (r u : List Int) : (utU r u).length ≤ 1048576 := acU_le ut_keeps r u
end Go.Proofs.Ytpmojmhamgcfmaa.lw

/-
  Words: which strings are words (WordOk of the model, of the program); the letters' numbers (lettersOf of the program).
-/
namespace Go.Proofs.Ytpmojmhamgcfmaa.wd
open Go.ChangeShapes Go.WideShapes Go.ChangeAt Go.RowKit
open Go.Proofs.Ytpmojmhamgcfmaa.mem Go.Proofs.Ytpmojmhamgcfmaa.ints Go.Proofs.Ytpmojmhamgcfmaa.arr Go.Proofs.Ytpmojmhamgcfmaa.pm
set_option linter.unusedVariables false
set_option maxRecDepth 100000
/-- A word: at most 40 bytes, each of them one of the four letters. -/
def wok (s : ByteArray) : Bool := decide (s.size ≤ 40) && s.data.toList.all isL
theorem take_snoc (s : ByteArray) (k : Nat) (h : k < s.size) : s.data.toList.take (k + 1) = s.data.toList.take k ++ [s[k]] := by
  rw [List.take_succ_eq_append_getElem (by simpa using h)]; rfl
theorem all_step {s : ByteArray} {k : Nat} (h : k < s.size) (ha : (s.data.toList.take k).all isL = true) (h1 : isL s[k] = true) : (s.data.toList.take (k + 1)).all isL = true := by
  rw [take_snoc s k h, List.all_append, ha]; simp [h1]
theorem wok_long {s : ByteArray} (h : 40 < s.size) : wok s = false := by
  unfold wok; rw [decide_eq_false (by omega)]; rfl
theorem wok_no {s : ByteArray} {k : Nat} (h : k < s.size) (h1 : isL s[k] = false) : wok s = false := by
  unfold wok
  have : s.data.toList.all isL = false := by
    rw [List.all_eq_false]
    refine ⟨s[k], ?_, by rw [h1]; decide⟩
    have : s[k] = s.data.toList[k]'(by simpa using h) := rfl
    rw [this]; exact List.getElem_mem _
  rw [this, Bool.and_false]
theorem wok_yes {s : ByteArray} (h : s.size ≤ 40) (ha : (s.data.toList.take s.size).all isL = true) : wok s = true := by
  have e : s.data.toList.take s.size = s.data.toList := List.take_of_length_le (by simp)
  rw [e] at ha
  unfold wok
  rw [decide_eq_true h, ha]; rfl
theorem wok_len {s : ByteArray} (h : wok s = true) : s.size ≤ 40 := by
  unfold wok at h; simp at h; exact h.1
theorem wok_all {s : ByteArray} (h : wok s = true) : s.data.toList.all isL = true := by
  unfold wok at h; rw [Bool.and_eq_true] at h; exact h.2
theorem wok_at {s : ByteArray} (h : wok s = true) {k : Nat} (hk : k < s.size) : isL s[k] = true := by
  have := List.all_eq_true.1 (wok_all h) s[k] (by
    have : s[k] = s.data.toList[k]'(by simpa using hk) := rfl
    rw [this]; exact List.getElem_mem _)
  exact this
theorem isL_no {c : UInt8} (h1 : c.toNat ≠ 84) (h2 : c.toNat ≠ 116) (h3 : c.toNat ≠ 83) (h4 : c.toNat ≠ 115) : isL c = false := by simp [isL, h1, h2, h3, h4]
theorem ret_bool {a b : Bool} (h : a = b) : Ending.returned (.bool a) = .returned (.bool b) := by rw [h]
/-- The number of a letter, in the order of "TtSs"; -1: no letter. -/
def num (c : UInt8) : Int := if c.toNat = 84 then 0 else if c.toNat = 116 then 1 else if c.toNat = 83 then 2 else if c.toNat = 115 then 3 else -1
theorem num_no {c : UInt8} (h : isL c = false) : num c = -1 := by
  simp [isL] at h
  simp [num, h]
theorem num_cases {c : UInt8} (h : isL c = true) : (c.toNat = 84 ∧ num c = 0) ∨ (c.toNat = 116 ∧ num c = 1) ∨ (c.toNat = 83 ∧ num c = 2) ∨ (c.toNat = 115 ∧ num c = 3) := by
  rcases isL_iff.1 h with e | e | e | e
  · exact .inl ⟨e, by simp [num, e]⟩
  · exact .inr (.inl ⟨e, by simp [num, e]⟩)
  · exact .inr (.inr (.inl ⟨e, by simp [num, e]⟩))
  · exact .inr (.inr (.inr ⟨e, by simp [num, e]⟩))
theorem num_index (c : UInt8) : Lib.indexByte [84, 116, 83, 115] c = num c := by
  have h : ∀ n : Fin 256, Lib.indexByte [84, 116, 83, 115] (UInt8.ofFin n) = num (UInt8.ofFin n) := by decide +kernel
  exact h c.toFin
/-- The numbers of a string's bytes. -/
def nums (s : ByteArray) : List Int := s.data.toList.map num
theorem nums_len (s : ByteArray) : (nums s).length = s.size := by simp [nums]
theorem nums_snoc {s : ByteArray} {k : Nat} (h : k < s.size) : (nums s).take (k + 1) = (nums s).take k ++ [num s[k]] := by
  unfold nums; rw [← List.map_take, ← List.map_take, take_snoc s k h]; simp
theorem nums_at {s : ByteArray} {k : Nat} (h : k < s.size) : (nums s)[k]? = some (num s[k]) := by
  unfold nums; rw [List.getElem?_map, List.getElem?_eq_getElem (by simpa using h)]; rfl

set_option maxHeartbeats 1000000 in
theorem idx_any (c : UInt8) (w : World) :
    Calls Try.prog 82 #[.string { data := #[84, 116, 83, 115] }, .int .u8 (c.toNat : Int)] w fun e w' => e = .returned (.int .i64 (num c)) ∧ w' = w := by
  go_enter Try.func82, Try.ntmps82
  go_wp2
  rw [run_callFunc_extern Try.func95 (by kernel_rfl) (by kernel_rfl) (by kernel_rfl) (e := Extern.BytealgIndexByte.indexByte) (by kernel_rfl), Lib.run_indexByteString]
  simp only [Result.andThen]
  rw [Oper.upon_value]
  go_wp2
  go_ret
  exact ⟨by rw [num_index]; rfl, rfl⟩
theorem idx2_any (c : UInt8) (w : World) :
    Calls Try.prog 65 #[.string { data := #[84, 116, 83, 115] }, .int .u8 (c.toNat : Int)] w fun e w' => e = .returned (.int .i64 (num c)) ∧ w' = w := by
  go_enter Try.func65, Try.ntmps65
  go_wp2_with fail
  refine (idx_any c _).mono ?_
  rintro e w' ⟨rfl, rfl⟩
  go_wp2_with fail
  go_ret
  exact ⟨rfl, rfl⟩
theorem infoL : (Try.prog.info? 73).map (fun i => (i.zero, i.size, i.bytes)) = some (some (.int .i64 0), 1, 8) := by kernel_rfl
/-- What lettersOf gives. -/
def LPost (s : ByteArray) (w : World) (e : Ending) (w' : World) : Prop :=
  ∃ v L, e = .returned (.tuple #[v, .bool (wok s)]) ∧ w'.ownsRow w.heap.size 73 1 v L.length (V L) ∧ L = (if wok s then nums s else []) ∧ Below w.heap.size w w'
theorem lpost_no {s : ByteArray} {w w' : World} (h : wok s = false) (hb : Below w.heap.size w w') : LPost s w (.returned (.tuple #[.slice none 0 0, .bool false])) w' :=
  ⟨_, [], by rw [h], World.ownsRow_nil _ _ _ _, by simp [h], hb⟩
theorem lpost_yes {s : ByteArray} {w w' : World} {v : Value} (h : wok s = true) (ho : w'.ownsRow w.heap.size 73 1 v s.size (V ((nums s).take s.size))) (hb : Below w.heap.size w w') : LPost s w (.returned (.tuple #[v, .bool true])) w' := by
  have e : (nums s).take s.size = nums s := List.take_of_length_le (by rw [nums_len]; exact Nat.le_refl _)
  rw [e] at ho
  exact ⟨v, nums s, by rw [h], by rw [nums_len]; exact ho, by simp [h], hb⟩
set_option maxHeartbeats 2000000 in
theorem lets_any (s : ByteArray) (w : World) (hs : s.size ≤ 1048576) : Calls Try.prog 36 #[.string s] w (LPost s w) := by
  obtain ⟨i0, hi, hz0, hz1, hz2⟩ := info_parts infoL
  go_enter Try.func36, Try.ntmps36
  by_cases h40 : 40 < s.size
  · go_wp2
    go_ret2
    exact lpost_no (wok_long h40) (Below.refl _ _)
  go_wp2
  go_loopw [4, 12] (fun v i wr => ∃ k : Nat, k ≤ s.size ∧ i = .int .i64 k ∧ (s.data.toList.take k).all isL = true ∧ wr.ownsRow w.heap.size 73 1 v k (V ((nums s).take k)) ∧ Below w.heap.size w wr) (fun _ i _ => s.size - (intOf i).toNat)
  case atStart => exact ⟨0, Nat.zero_le _, rfl, rfl, by simpa [V] using World.ownsRow_nil _ _ _ _, Below.refl _ _⟩
  case round =>
    obtain ⟨k, hk, rfl, ha, ho, hb⟩ := hrel
    have HA := Lib.hid ha; clear ha
    obtain ⟨C, cc, rfl⟩ := own_form ho
    have HO := Lib.hid ho; have HB := Lib.hid hb; clear ho hb
    by_cases hlt : k < s.size
    · have EN := Lib.hid (nums_snoc hlt)
      by_cases hl : isL s[k] = true
      · have ST := Lib.hid (all_step hlt HA.out hl)
        obtain ⟨z, hz, hz3⟩ : ∃ z : Nat, num s[k] = (z : Int) ∧ z ≤ 3 := by
          rcases num_cases hl with h | h | h | h
          · exact ⟨0, by rw [h.2]; rfl, by omega⟩
          · exact ⟨1, by rw [h.2]; rfl, by omega⟩
          · exact ⟨2, by rw [h.2]; rfl, by omega⟩
          · exact ⟨3, by rw [h.2]; rfl, by omega⟩
        have HZ := Lib.hid hz; clear hz hl HA
        have hsz : w.heap.size ≤ wr.heap.size := HB.out.size
        go_wp2_with fail
        refine (idx2_any s[k] _).mono ?_
        rintro e w' ⟨rfl, rfl⟩
        rw [HZ.out]
        go_wp2_with (at_builtin; refine wpList_append_one w' _ _ rfl _ _ 54 rfl (w.heap.size) 73 i0 _ 8 Try.underlying54 hi hz0 hz1 hz2 rfl _ _ _ rfl HO.out rfl rfl ?c4 (by decide) hsz ?_)
        case c4 => omega
        intro v' w2 ho hg
        have HN : Hid (w2.ownsRow w.heap.size 73 1 v' (k + 1) (V ((nums s).take (k + 1)))) := Lib.hid (by rw [EN.out, HZ.out]; simpa [V] using ho)
        have HB2 : Hid (Below w.heap.size w w2) := Lib.hid (HB.out.trans (own_below HO.out hg (Nat.le_refl _) HB.out.size))
        clear ho hg
        go_wp2
        go_roundw
        case rel => exact ⟨k + 1, by omega, by go_num, ST.out, HN.out, HB2.out⟩
        case measure => simp [intOf]; omega
      · have hno : isL s[k] = false := by simpa using hl
        have HZ := Lib.hid (num_no hno); have NO := Lib.hid (wok_no hlt hno); clear hl hno
        go_wp2_with fail
        refine (idx2_any s[k] _).mono ?_
        rintro e w' ⟨rfl, rfl⟩
        rw [HZ.out]
        go_wp2_with fail
        go_ret2
        exact lpost_no NO.out HB.out
    · obtain rfl : k = s.size := by omega
      go_wp2
      go_ret2
      exact lpost_yes (wok_yes (by omega) HA.out) HO.out HB.out
end Go.Proofs.Ytpmojmhamgcfmaa.wd
