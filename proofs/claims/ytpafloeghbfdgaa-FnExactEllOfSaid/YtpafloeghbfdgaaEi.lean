/-
  EllOf of the program.
-/
import Derived.Test.YtpafloeghbfdgaaEs
namespace Go.Proofs.Ytpafloeghbfdgaa.gl
open Go.ChangeShapes Go.WideShapes Go.ChangeAt Go.RowKit
open Go.Proofs.Ytpafloeghbfdgaa.mem Go.Proofs.Ytpafloeghbfdgaa.ints Go.Proofs.Ytpafloeghbfdgaa.arr Go.Proofs.Ytpafloeghbfdgaa.pm Go.Proofs.Ytpafloeghbfdgaa.permOk Go.Proofs.Ytpafloeghbfdgaa.permOf Go.Proofs.Ytpafloeghbfdgaa.inv Go.Proofs.Ytpafloeghbfdgaa.fns Go.Proofs.Ytpafloeghbfdgaa.sf
set_option linter.unusedVariables false
set_option maxRecDepth 100000

theorem idF_lst {n : Nat} (h : n ≤ 24) : idF (n : Int) = lst n (fun i => i) := by
  unfold idF; rw [if_pos (by omega), Int.toNat_natCast]; rfl

set_option maxHeartbeats 4000000 in
theorem el_impl0 (a h : Int) (w : World) (lo1 : -9223372036854775808 ≤ a) (hi1 : a ≤ 9223372036854775807) (lo2 : -9223372036854775808 ≤ h) (hi2 : h ≤ 9223372036854775807) :
    Calls Try.prog 52 #[.int .i64 a, .int .i64 h] w (SB (elFR a h) (elFU a h) (elB a h) w) := by
  have RES := Lib.hid (Arr.new w [.slice none 0 0, .slice none 0 0] 25 rfl)
  by_cases ha : 1 ≤ a
  · have hda : decide (a < 1) = false := by simp; omega
    by_cases hh : 1 ≤ h
    · have hdh : decide (h < 1) = false := by simp; omega
      obtain ⟨d, hd1⟩ : ∃ d : Int, 25 - h = d := ⟨_, rfl⟩
      have hd2 : IntKind.i64.wrap d = d := IntWalk.i64_in _ (by omega)
      by_cases hp : a + h ≤ 25
      · have hdd : decide (d < a) = false := by simp; omega
        obtain ⟨A, rfl⟩ := Int.eq_ofNat_of_zero_le (show 0 ≤ a by omega)
        obtain ⟨H, rfl⟩ := Int.eq_ofNat_of_zero_le (show 0 ≤ h by omega)
        obtain ⟨S, hS⟩ : ∃ S, S = A + H := ⟨_, rfl⟩
        obtain ⟨n, hn⟩ : ∃ n, n + 1 = A + H := ⟨A + H - 1, by omega⟩
        have hS1 : (A : Int) + (H : Int) = (S : Int) := by omega
        have hS2 : IntKind.i64.wrap (S : Int) = (S : Int) := w_in (by omega)
        have hn1 : (S : Int) - 1 = (n : Int) := by omega
        have hn2 : IntKind.i64.wrap (n : Int) = (n : Int) := w_in (by omega)
        have hA1 : 1 ≤ A := by omega
        have hA2 : A ≤ 24 := by omega
        have hH1 : 1 ≤ H := by omega
        have hH2 : H ≤ 24 := by omega
        have hn24 : n ≤ 24 := by omega
        obtain ⟨y1, y2, y3⟩ := el_yes (A := A) (H := H) (n := n) (by omega) (by omega) hn hn24
        have Y1 := Lib.hid y1; have Y2 := Lib.hid y2; have Y3 := Lib.hid y3; clear y1 y2 y3
        clear hS ha hh hp lo1 hi1 lo2 hi2
        go_enter Try.func52, Try.ntmps52
        go_wp2_with fail
        refine (fns.id_impl (n : Int) _ (by omega) (by omega)).mono ?_
        rintro e w1 ⟨v1, rfl, ho1, b1⟩
        have l1 := lst_len n (fun i => i)
        rw [idF_lst hn24, l1] at ho1
        obtain ⟨g1, c1, rfl⟩ := own_at ho1 (by omega)
        have HO1 := Lib.hid ho1; have B1 := Lib.hid b1; clear ho1 b1
        go_wp2_with fail
        refine (fns.id_impl (n : Int) _ (by omega) (by omega)).mono ?_
        rintro e w2 ⟨v2, rfl, ho2, b2⟩
        rw [idF_lst hn24, l1] at ho2
        obtain ⟨g2, c2, rfl⟩ := own_at ho2 (by omega)
        have HO2 := Lib.hid ho2; have B2 := Lib.hid b2; clear ho2 b2
        clear l1
        go_wp2_with (refine wpList_build rfl 25 _ rfl [] rfl #[.slice (some ⟨g1, 0, none⟩) n c1, .slice (some ⟨g2, 0, none⟩) n c2] ?_ ?_)
        have EG : Hid (Eg w (w2.alloc (.cells #[.slice (some ⟨g1, 0, none⟩) n c1, .slice (some ⟨g2, 0, none⟩) n c2] 25)) w2.heap.size g1 g2 n c1 c2 (elR A n 0) (lst n fun i => i)) := Lib.hid (by
          rw [elR_zero]
          exact Eg.start RES.out B1.out HO1.out B2.out HO2.out)
        clear RES HO1 B1 HO2 B2
        obtain ⟨b, hb⟩ : ∃ b, b = w2.heap.size := ⟨_, rfl⟩
        rw [← hb] at EG ⊢
        generalize (w2.alloc (.cells #[.slice (some ⟨g1, 0, none⟩) n c1, .slice (some ⟨g2, 0, none⟩) n c2] 25)) = w3 at EG ⊢
        clear hb w1 w2 hS1 hS2 hn1 hn2 hd1 hd2 hda hdh hdd
        go_loopw [34] (fun i wr => ∃ k : Nat, k ≤ A ∧ i = .int .i64 k ∧ Eg w wr b g1 g2 n c1 c2 (elR A n k) (lst n fun i => i)) (fun i _ => A - (intOf i).toNat)
        case atStart => exact ⟨0, Nat.zero_le _, rfl, EG.out⟩
        case round =>
          obtain ⟨k, hk, rfl, ht⟩ := hrel
          have HT := Lib.hid ht; clear ht EG
          by_cases hlt : k < A
          · obtain ⟨k1, z, ⟨f1, f2⟩, f3, f4⟩ := elf (A := A) (k := k) (by omega) (by omega) (by omega)
            have hkn : k < n := by omega
            have NL : Hid ((elR A n k).set k (z : Int) = elR A n (k + 1)) := Lib.hid (by rw [f4]; exact elR_succ hkn)
            clear f4
            have hc := HT.out.box.cell (k := 0) rfl
            have hcx := HT.out.cell1 hkn
            have hfx := HT.out.own1.frozenAt k
            have hA0 : ¬ A = 0 := by omega
            go_wp2
            go_region
            go_wp2
            go_roundw
            case rel =>
              refine ⟨k + 1, by omega, by go_num, ?_⟩
              have := (HT.out.set1 k z).drew
              rw [NL.out] at this
              exact this
            case measure => simp [intOf]; omega
          · obtain rfl : k = A := by omega
            have NT := Lib.hid (elT_start k n)
            rw [← NT.out] at HT
            clear hlt
            go_wp2
            go_loopw [9, 10] (fun t i wr => ∃ x y : Nat, k ≤ x ∧ x ≤ n ∧ y = (if x = k then 0 else x - 1) ∧ t = .int .i64 y ∧ i = .int .i64 x ∧ Eg w wr b g1 g2 n c1 c2 (elR k n k) (elT k n x)) (fun _ i _ => n - (intOf i).toNat)
            case atStart => exact ⟨k, 0, Nat.le_refl _, by omega, by rw [if_pos rfl], rfl, rfl, HT.out⟩
            case round =>
              obtain ⟨x, y, hx1, hx2, hy, rfl, rfl, ht⟩ := hrel
              clear HT
              have HT := Lib.hid ht; clear ht
              have hyn : y < n := by rw [hy]; split <;> omega
              have hc := HT.out.box.cell (k := 1) rfl
              have hcx := HT.out.cell2 hyn
              have hfx := HT.out.own2.frozenAt y
              by_cases hlt : x < n
              · have NL : Hid ((elT k n x).set y (x : Int) = elT k n (x + 1)) := Lib.hid (by rw [hy]; exact elT_succ hA1 hx1)
                have HY : Hid (x = (if x + 1 = k then 0 else x + 1 - 1)) := Lib.hid (by rw [if_neg (by omega)]; omega)
                clear hy
                go_wp2
                go_roundw
                case rel =>
                  refine ⟨x + 1, x, by omega, by omega, HY.out, by go_num, by go_num, ?_⟩
                  have := HT.out.set2 y x
                  rw [NL.out] at this
                  exact this
                case measure => simp [intOf]; omega
              · obtain rfl : x = n := by omega
                have NL : Hid ((elT k x x).set y 0 = elU k H x) := Lib.hid (by rw [hy]; exact elT_end hA1 hH1 hn)
                have E2 := Lib.hid (HT.out.set2 y 0)
                rw [NL.out] at E2
                have SV := Lib.hid (E2.out.svl (by omega))
                have hc0 := E2.out.box.cell (k := 0) rfl
                have hc1 := E2.out.box.cell (k := 1) rfl
                have hsz := HT.out.below.size
                have BL := Lib.hid E2.out.below
                clear hy hlt
                go_wp2_with (refine wpList_store_row rfl 25 _ _ rfl w.heap.size #[.slice (some ⟨g1, 0, none⟩) x c1, .slice (some ⟨g2, 0, none⟩) x c2] rfl rfl 25 #[.slice none 0 0, .slice none 0 0] E2.out.res size2 rfl (by simp [Value.oneCell']) ?_)
                exact bodyPost_ret (v := .tuple #[.agg #[.slice (some ⟨g1, 0, none⟩) x c1, .slice (some ⟨g2, 0, none⟩) x c2], .bool true]) (permOf.results_cell_tmp rfl _ _ w.heap.size 25 #[.slice (some ⟨g1, 0, none⟩) x c1, .slice (some ⟨g2, 0, none⟩) x c2] (0, 0) _ _ rfl rfl E2.out.res.row Try.underlying25 rfl size2) rfl (by
                  rw [Y1.out, Y2.out, Y3.out]
                  have := Svl.row SV.out (g := w.heap.size) (by omega) #[.slice (some ⟨g1, 0, none⟩) x c1, .slice (some ⟨g2, 0, none⟩) x c2]
                  exact ⟨_, rfl, (by simpa using this.later (by omega)), below_setRow BL.out (Nat.le_refl _) _⟩)
      · obtain ⟨n1, n2, n3⟩ := el_no (a := a) (h := h) (fun q => by omega)
        have N1 := Lib.hid n1; have N2 := Lib.hid n2; have N3 := Lib.hid n3; clear n1 n2 n3
        have hdd : decide (d < a) = true := by simp; omega
        clear hp
        go_enter Try.func52, Try.ntmps52
        go_wp2_with (first | (refine wpList_build rfl 25 _ rfl [] rfl #[.slice none 0 0, .slice none 0 0] built2 ?_) | (refine wpList_store_row rfl 25 _ _ rfl w.heap.size #[.slice none 0 0, .slice none 0 0] rfl rfl 25 #[.slice none 0 0, .slice none 0 0] RES.out size2 rfl (by simp [Value.oneCell']) ?_))
        exact bodyPost_ret (v := .tuple #[.agg #[.slice none 0 0, .slice none 0 0], .bool false]) (permOf.results_cell_tmp rfl _ _ w.heap.size 25 #[.slice none 0 0, .slice none 0 0] (0, 0) _ _ rfl rfl RES.out.row Try.underlying25 rfl size2) rfl (sb_nil N2.out N3.out N1.out (below_setRow ((Below.refl _ _).alloc (Nat.le_refl _) _) (Nat.le_refl _) _))
    · obtain ⟨n1, n2, n3⟩ := el_no (a := a) (h := h) (fun q => by omega)
      have N1 := Lib.hid n1; have N2 := Lib.hid n2; have N3 := Lib.hid n3; clear n1 n2 n3
      have hdh : decide (h < 1) = true := by simp; omega
      clear hh ha
      go_enter Try.func52, Try.ntmps52
      go_wp2_with (first | (refine wpList_build rfl 25 _ rfl [] rfl #[.slice none 0 0, .slice none 0 0] built2 ?_) | (refine wpList_store_row rfl 25 _ _ rfl w.heap.size #[.slice none 0 0, .slice none 0 0] rfl rfl 25 #[.slice none 0 0, .slice none 0 0] RES.out size2 rfl (by simp [Value.oneCell']) ?_))
      exact bodyPost_ret (v := .tuple #[.agg #[.slice none 0 0, .slice none 0 0], .bool false]) (permOf.results_cell_tmp rfl _ _ w.heap.size 25 #[.slice none 0 0, .slice none 0 0] (0, 0) _ _ rfl rfl RES.out.row Try.underlying25 rfl size2) rfl (sb_nil N2.out N3.out N1.out (below_setRow ((Below.refl _ _).alloc (Nat.le_refl _) _) (Nat.le_refl _) _))
  · obtain ⟨n1, n2, n3⟩ := el_no (a := a) (h := h) (fun q => by omega)
    have N1 := Lib.hid n1; have N2 := Lib.hid n2; have N3 := Lib.hid n3; clear n1 n2 n3
    have hda : decide (a < 1) = true := by simp; omega
    clear ha
    go_enter Try.func52, Try.ntmps52
    go_wp2_with (first | (refine wpList_build rfl 25 _ rfl [] rfl #[.slice none 0 0, .slice none 0 0] built2 ?_) | (refine wpList_store_row rfl 25 _ _ rfl w.heap.size #[.slice none 0 0, .slice none 0 0] rfl rfl 25 #[.slice none 0 0, .slice none 0 0] RES.out size2 rfl (by simp [Value.oneCell']) ?_))
    exact bodyPost_ret (v := .tuple #[.agg #[.slice none 0 0, .slice none 0 0], .bool false]) (permOf.results_cell_tmp rfl _ _ w.heap.size 25 #[.slice none 0 0, .slice none 0 0] (0, 0) _ _ rfl rfl RES.out.row Try.underlying25 rfl size2) rfl (sb_nil N2.out N3.out N1.out (below_setRow ((Below.refl _ _).alloc (Nat.le_refl _) _) (Nat.le_refl _) _))

theorem el_spec (a h : Int) (w : World) (lo1 : -9223372036854775808 ≤ a) (hi1 : a ≤ 9223372036854775807) (lo2 : -9223372036854775808 ≤ h) (hi2 : h ≤ 9223372036854775807) :
    Calls Try.prog 51 #[.int .i64 a, .int .i64 h] w fun e w' => ∃ g, e = .returned (.tuple #[g, .bool (elB a h)]) ∧ Svl w' w.heap.size w'.heap.size g (elFR a h) (elFU a h) ∧ Below w.heap.size w w' := el_spec0 a h w lo1 hi1 lo2 hi2
theorem el_impl (a h : Int) (w : World) (lo1 : -9223372036854775808 ≤ a) (hi1 : a ≤ 9223372036854775807) (lo2 : -9223372036854775808 ≤ h) (hi2 : h ≤ 9223372036854775807) :
    Calls Try.prog 52 #[.int .i64 a, .int .i64 h] w fun e w' => ∃ g, e = .returned (.tuple #[g, .bool (elB a h)]) ∧ Svl w' w.heap.size w'.heap.size g (elFR a h) (elFU a h) ∧ Below w.heap.size w w' := el_impl0 a h w lo1 hi1 lo2 hi2
end Go.Proofs.Ytpafloeghbfdgaa.gl
