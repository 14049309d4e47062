/-
  TorusOf of the program.
-/
import Derived.Test.YtpafloeghbfdgaaTo
namespace Go.Proofs.Ytpafloeghbfdgaa.gl
open Go.ChangeShapes Go.WideShapes Go.ChangeAt Go.RowKit
open Go.Proofs.Ytpafloeghbfdgaa.mem Go.Proofs.Ytpafloeghbfdgaa.ints Go.Proofs.Ytpafloeghbfdgaa.arr Go.Proofs.Ytpafloeghbfdgaa.pm Go.Proofs.Ytpafloeghbfdgaa.permOk Go.Proofs.Ytpafloeghbfdgaa.permOf Go.Proofs.Ytpafloeghbfdgaa.inv Go.Proofs.Ytpafloeghbfdgaa.fns Go.Proofs.Ytpafloeghbfdgaa.sf
set_option linter.unusedVariables false
set_option maxRecDepth 100000

theorem torg {A i j : Nat} (h1 : i < A) (h2 : j * A + A ≤ 24) : ∃ ja i1 i2 z : Nat, ((j : Int) * (A : Int) = (ja : Int) ∧ IntKind.i64.wrap (ja : Int) = (ja : Int)) ∧ ((i : Int) + 1 = (i1 : Int) ∧ IntKind.i64.wrap (i1 : Int) = (i1 : Int)) ∧ (i1 : Int).tmod (A : Int) = (i2 : Int) ∧ ((ja : Int) + (i2 : Int) = (z : Int) ∧ IntKind.i64.wrap (z : Int) = (z : Int)) ∧ (z : Int) = torAt A (j * A + i) := by
  have b3 : (i + 1) % A < A := Nat.mod_lt _ (by omega)
  have d1 : (j * A + i) / A = j := by rw [Nat.add_comm, Nat.add_mul_div_right _ _ (by omega), Nat.div_eq_of_lt h1]; omega
  have d2 : (j * A + i) % A = i := by rw [Nat.add_comm, Nat.add_mul_mod_self_right, Nat.mod_eq_of_lt h1]
  have e1 : (j : Int) * (A : Int) = ((j * A : Nat) : Int) := (Int.natCast_mul _ _).symm
  have e2 : (i : Int) + 1 = ((i + 1 : Nat) : Int) := by simp
  have e3 : ((i + 1 : Nat) : Int).tmod (A : Int) = (((i + 1) % A : Nat) : Int) := by rw [Int.tmod_eq_emod_of_nonneg (by omega)]; exact (Int.natCast_emod _ A).symm
  have e4 : ((j * A : Nat) : Int) + (((i + 1) % A : Nat) : Int) = ((j * A + (i + 1) % A : Nat) : Int) := (Int.natCast_add _ _).symm
  refine ⟨j * A, i + 1, (i + 1) % A, j * A + (i + 1) % A, ⟨e1, w_in (by omega)⟩, ⟨e2, w_in (by omega)⟩, e3, ⟨e4, w_in (by omega)⟩, ?_⟩
  unfold torAt; rw [d1, d2]
theorem torh {A H N i j : Nat} (h1 : i < A) (h2 : j < H) (hN : N = A * H) (h3 : N ≤ 24) : ∃ j1 j2 ja z : Nat, ((j : Int) + 1 = (j1 : Int) ∧ IntKind.i64.wrap (j1 : Int) = (j1 : Int)) ∧ (j1 : Int).tmod (H : Int) = (j2 : Int) ∧ ((j2 : Int) * (A : Int) = (ja : Int) ∧ IntKind.i64.wrap (ja : Int) = (ja : Int)) ∧ ((ja : Int) + (i : Int) = (z : Int) ∧ IntKind.i64.wrap (z : Int) = (z : Int)) ∧ (z : Int) = torUp A N (j * A + i) := by
  have hH : H ≤ N := by rw [hN]; exact Nat.le_mul_of_pos_left _ (by omega)
  have hA : A ≤ N := by rw [hN]; exact Nat.le_mul_of_pos_right _ (by omega)
  have b1 : (j + 1) % H < H := Nat.mod_lt _ (by omega)
  have b2 : (j + 1) % H * A + A ≤ N := by
    have : ((j + 1) % H + 1) * A ≤ H * A := Nat.mul_le_mul_right _ (by omega)
    rw [Nat.add_mul, Nat.one_mul] at this
    rw [hN, Nat.mul_comm A H]; exact this
  have key : (j * A + i + A) % N = (j + 1) % H * A + i := by
    have e : j * A + i + A = (j + 1) * A + i := by rw [Nat.add_mul, Nat.one_mul]; omega
    rw [e]
    by_cases q : j + 1 < H
    · rw [Nat.mod_eq_of_lt q] at b2 ⊢
      exact Nat.mod_eq_of_lt (by omega)
    · have q2 : j + 1 = H := by omega
      rw [q2, Nat.mod_self, Nat.zero_mul, Nat.zero_add, hN, Nat.mul_comm A H, Nat.add_comm, Nat.add_mod_right, Nat.mod_eq_of_lt]
      rw [← Nat.mul_comm A H, ← hN]; omega
  have e1 : (j : Int) + 1 = ((j + 1 : Nat) : Int) := by simp
  have e2 : ((j + 1 : Nat) : Int).tmod (H : Int) = (((j + 1) % H : Nat) : Int) := by rw [Int.tmod_eq_emod_of_nonneg (by omega)]; exact (Int.natCast_emod _ H).symm
  have e3 : (((j + 1) % H : Nat) : Int) * (A : Int) = (((j + 1) % H * A : Nat) : Int) := (Int.natCast_mul _ _).symm
  have e4 : (((j + 1) % H * A : Nat) : Int) + (i : Int) = (((j + 1) % H * A + i : Nat) : Int) := (Int.natCast_add _ _).symm
  refine ⟨j + 1, (j + 1) % H, (j + 1) % H * A, (j + 1) % H * A + i, ⟨e1, w_in (by omega)⟩, e2, ⟨e3, w_in (by omega)⟩, ⟨e4, w_in (by omega)⟩, ?_⟩
  unfold torUp; rw [key]


set_option maxHeartbeats 8000000 in
theorem to_impl0 (a h : Int) (w : World) (lo1 : -9223372036854775808 ≤ a) (hi1 : a ≤ 9223372036854775807) (lo2 : -9223372036854775808 ≤ h) (hi2 : h ≤ 9223372036854775807) :
    Calls Try.prog 49 #[.int .i64 a, .int .i64 h] w (SB (toR a h) (toU a h) (torB a h) w) := by
  obtain ⟨i0, hi0, hz0, hz1, hz2⟩ := info_parts infoI
  have RES := Lib.hid (Arr.new w [.slice none 0 0, .slice none 0 0] 25 rfl)
  by_cases ha : 1 ≤ a
  · by_cases hh : 1 ≤ h
    · obtain ⟨A, rfl⟩ := Int.eq_ofNat_of_zero_le (show 0 ≤ a by omega)
      obtain ⟨H, rfl⟩ := Int.eq_ofNat_of_zero_le (show 0 ≤ h by omega)
      have hA1 : 1 ≤ A := by omega
      have hH1 : 1 ≤ H := by omega
      obtain ⟨d, hd⟩ : ∃ d, d = 24 / H := ⟨_, rfl⟩
      have hd24 : d ≤ 24 := by rw [hd]; exact Nat.div_le_self _ _
      have hdi : (24 : Int) / (H : Int) = (d : Int) := by rw [hd]; exact (Int.natCast_ediv 24 H).symm
      have hdw : IntKind.i64.wrap (d : Int) = (d : Int) := w_in (by omega)
      have hH0 : ¬ H = 0 := by omega
      have hda : decide ((A : Int) < 1) = false := by simp; omega
      have hdh : decide ((H : Int) < 1) = false := by simp; omega
      have HD := Lib.hid hd; clear hd ha hh
      by_cases hp : A ≤ d
      · have hp2 : A * H ≤ 24 := by rw [HD.out] at hp; exact (Nat.le_div_iff_mul_le (by omega)).1 hp
        obtain ⟨y1, y2, y3⟩ := to_yes (A := A) (H := H) hA1 hH1 hp2
        obtain ⟨N, hN⟩ : ∃ N, N = A * H := ⟨_, rfl⟩
        have hAN : A ≤ N := by rw [hN]; exact Nat.le_mul_of_pos_right _ (by omega)
        have hHN : H ≤ N := by rw [hN]; exact Nat.le_mul_of_pos_left _ (by omega)
        have hNs : N ≤ 24 := by omega
        rw [← hN] at y2 y3
        have Y1 := Lib.hid y1; have Y2 := Lib.hid y2; have Y3 := Lib.hid y3; have HN := Lib.hid hN; clear y1 y2 y3 hN hp2
        have hdd : decide ((d : Int) < (A : Int)) = false := by simp; omega
        have hdd' : decide (d < A) = false := by simp; omega
        go_enter Try.func49, Try.ntmps49
        go_wp2
        clear hdi hdw hdd hdd' hda hdh
        go_loopw [23] (fun y wr => ∃ (j : Nat) (v u : Value), j ≤ H ∧ y = .int .i64 j ∧ Tg w wr v u (torL A (j * A)) (torU A N (j * A))) (fun y _ => H - (intOf y).toNat)
        case atStart => exact ⟨0, _, _, Nat.zero_le _, rfl, (Arr.new w _ _ rfl).alloc _, Arr.new _ [.slice none 0 0, .slice none 0 0] _ (by simp), ⟨by simp [torL, V], .inl ⟨rfl, by simp [torL]⟩⟩, ⟨by simp [torU, V], .inl ⟨rfl, by simp [torU]⟩⟩, by simp [Value.ownBlock], ((Below.refl _ _).alloc (Nat.le_refl _) _).alloc (by simp) _⟩
        case round =>
          obtain ⟨j, v, u, hj, rfl, ht⟩ := hrel
          obtain ⟨wo, rfl⟩ : ∃ wo : World, wo = wr := ⟨_, rfl⟩
          by_cases hjl : j < H
          · have hjA : j * A + A ≤ N := by
              have : (j + 1) * A ≤ H * A := Nat.mul_le_mul_right _ (by omega)
              rw [Nat.add_mul, Nat.one_mul] at this
              rw [HN.out, Nat.mul_comm A H]; exact this
            have HT0 := Lib.hid ht; clear ht
            go_wp2
            go_loopw [27] (fun x wr => ∃ (i : Nat) (v u : Value), i ≤ A ∧ x = .int .i64 i ∧ Tg w wr v u (torL A (j * A + i)) (torU A N (j * A + i))) (fun x _ => A - (intOf x).toNat)
            case atStart => exact ⟨0, _, _, Nat.zero_le _, rfl, HT0.out⟩
            case round =>
              obtain ⟨i, v, u, hi, rfl, ht⟩ := hrel
              obtain ⟨C, cc, rfl⟩ := own_form ht.own1
              obtain ⟨D, dd, rfl⟩ := own_form ht.own2
              have HT := Lib.hid ht; clear ht HT0
              by_cases hil : i < A
              · have NL := Lib.hid (torL_succ A (j * A + i)); have NU := Lib.hid (torU_succ A N (j * A + i))
                obtain ⟨ja, i1, i2, z, ⟨f1, f1'⟩, ⟨f2, f2'⟩, f3, ⟨f4, f4'⟩, f5⟩ := torg (A := A) (i := i) (j := j) hil (by omega)
                obtain ⟨j1, j2, jb, y, ⟨g1, g1'⟩, g2, ⟨g3, g3'⟩, ⟨g4, g4'⟩, g5⟩ := torh (A := A) (H := H) (i := i) (j := j) hil hjl HN.out hNs
                have Z1 := Lib.hid f5; have Z2 := Lib.hid g5
                have l1 := torL_len A (j * A + i); have l2 := torU_len A N (j * A + i)
                have hc := HT.out.box.cell (k := 0) rfl
                have hf := HT.out.box.frozen 0
                have hca : ∀ o, (wr.alloc o).cell? ⟨w.heap.size + 1, 0, none⟩ = some (.slice C (torL A (j * A + i)).length cc) := fun o => (HT.out.box.alloc o).cell (k := 0) rfl
                have p1 : (torL A (j * A + i)).length ≤ 24 := by omega
                have p2 : (torU A N (j * A + i)).length ≤ 24 := by omega
                have hsz := HT.out.lt
                have hA0 : ¬ A = 0 := by omega
                have NK : Hid (j * A + i + 1 = j * A + (i + 1)) := Lib.hid (by omega)
                clear l1 l2 f5 g5
                generalize torL A (j * A + i) = l at *
                generalize torU A N (j * A + i) = m at *
                clear hjA
                go_wp2_with fail
                go_region_law (refine step_append_one2d wr _ _ rfl _ _ 23 rfl (w.heap.size + 2) 3 i0 _ 8 1 Try.underlying23 hi0 hz0 hz1 rfl hz2 rfl _ _ _ rfl HT.out.own1 rfl rfl (by omega) (by decide) hsz ?_; intro v' w' ho hg hb; obtain ⟨C', cc', rfl⟩ := own_form ho; have TL := Lib.hid (Tg.left HT.out.drew ho rfl hg hb); have A2 : Arr w' (w.heap.size + 1) [.slice C l.length cc, .slice D m.length dd] 25 := (hg.block _ HT.out.box.lt (fun e => by have := (HT.out.own1.lt _ e.symm).1; omega)).trans HT.out.box; have hc2 := A2.cell (k := 0) rfl; have hf2 := A2.frozen 0; clear ho hg hb A2)
                all_goals
                  generalize w'.setCell ⟨w.heap.size + 1, 0, none⟩ (.slice C' (l.length + 1) cc') = w2 at TL ⊢
                  rw [Z1.out, ← NL.out] at TL
                  have hl1 : (l ++ [torAt A (j * A + i)]).length = l.length + 1 := by simp
                  clear hc2 hf2 hc hf hca
                  have hsz2 := TL.out.lt
                  have hc3 := TL.out.box.cell (k := 1) rfl
                  have hf3 := TL.out.box.frozen 1
                  have hcb : ∀ o, (w2.alloc o).cell? ⟨w.heap.size + 1, 1, none⟩ = some (.slice D m.length dd) := fun o => (TL.out.box.alloc o).cell (k := 1) rfl
                  go_wp2_with fail
                  go_region_law (refine step_append_one2d w2 _ _ rfl _ _ 23 rfl (w.heap.size + 2) 3 i0 _ 8 1 Try.underlying23 hi0 hz0 hz1 rfl hz2 rfl _ _ _ rfl TL.out.own2 rfl rfl (by omega) (by decide) hsz2 ?_; intro v' w' ho hg hb; obtain ⟨D', dd', rfl⟩ := own_form ho; have TR := Lib.hid (Tg.right TL.out.drew ho rfl hg hb); have A2 : Arr w' (w.heap.size + 1) [.slice C' (l.length + 1) cc', .slice D m.length dd] 25 := (hg.block _ TL.out.box.lt (fun e => by have := (TL.out.own2.lt _ e.symm).1; omega)).trans TL.out.box; have hc2 := A2.cell (k := 1) rfl; have hf2 := A2.frozen 1; clear ho hg hb A2)
                  all_goals
                    rw [Z2.out, ← NU.out, NK.out] at TR
                    clear hc2 hf2 hc3 hf3 hcb
                    generalize w'.setCell ⟨w.heap.size + 1, 1, none⟩ (.slice D' (m.length + 1) dd') = w3 at TR ⊢
                    clear f1 f1' f2 f2' f3 f4 f4' g1 g1' g2 g3 g3' g4 g4'
                    go_wp2
                    go_roundw
                    case rel => exact ⟨i + 1, _, _, by omega, by go_num, TR.out⟩
                    case measure => simp [intOf]; omega
              · obtain rfl : i = A := by omega
                have NK : Hid (j * i + i = (j + 1) * i) := Lib.hid (by rw [Nat.add_mul, Nat.one_mul])
                rw [NK.out] at HT
                clear hjA
                go_wp2
                go_roundw
                case rel => exact ⟨j + 1, _, _, by omega, by go_num, HT.out⟩
                case measure => simp [intOf]; omega
          · obtain rfl : j = H := by omega
            have e : j * A = N := by rw [HN.out, Nat.mul_comm]
            rw [e] at ht
            clear e
            obtain ⟨C, cc, rfl⟩ := own_form ht.own1
            obtain ⟨D, dd, rfl⟩ := own_form ht.own2
            have HT := Lib.hid ht; clear ht
            have l1 := torL_len A N; have l2 := torU_len A N N
            have p1 : 0 < (torL A N).length := by omega
            have p2 : 0 < (torU A N N).length := by omega
            have p3 : (torL A N).length ≤ 24 := by omega
            have p4 : (torU A N N).length ≤ 24 := by omega
            clear l1 l2
            generalize torL A N = l at *
            generalize torU A N N = m at *
            have SV := Lib.hid (Svl.apart HT.out.own1 HT.out.own2 HT.out.ne p1 p2)
            have hc := HT.out.box.cell (k := 0) rfl
            have hc1 := HT.out.box.cell (k := 1) rfl
            have hsz := HT.out.lt
            go_wp2_with (refine wpList_store_row rfl 25 _ _ rfl w.heap.size #[.slice C l.length cc, .slice D m.length dd] rfl rfl 25 #[.slice none 0 0, .slice none 0 0] HT.out.res size2 rfl (by simp [Value.oneCell']) ?_)
            exact bodyPost_ret (v := .tuple #[.agg #[.slice C l.length cc, .slice D m.length dd], .bool true]) (permOf.results_cell_tmp rfl _ _ w.heap.size 25 #[.slice C l.length cc, .slice D m.length dd] (0, 0) _ _ rfl rfl HT.out.res.row Try.underlying25 rfl size2) rfl (by
              rw [Y1.out, Y2.out, Y3.out]
              have := Svl.row SV.out (g := w.heap.size) (by omega) #[.slice C l.length cc, .slice D m.length dd]
              exact ⟨_, rfl, (by simpa using this.later (by omega)), below_setRow HT.out.below (Nat.le_refl _) _⟩)
      · obtain ⟨n1, n2, n3⟩ := to_no (a := A) (h := H) (fun q => by
          have hmul : A * H ≤ 24 := by have := q.2.2; rw [← Int.natCast_mul] at this; exact_mod_cast this
          have := (Nat.le_div_iff_mul_le (k := H) (by omega)).2 hmul
          rw [← HD.out] at this; omega)
        have N1 := Lib.hid n1; have N2 := Lib.hid n2; have N3 := Lib.hid n3; clear n1 n2 n3
        have hdd : decide ((d : Int) < (A : Int)) = true := by simp; omega
        have hdd' : decide (d < A) = true := by simp; omega
        have hdd2 : d < A := by omega
        clear hp
        go_enter Try.func49, Try.ntmps49
        go_wp2_with (first | (refine wpList_build rfl 25 _ rfl [] rfl #[.slice none 0 0, .slice none 0 0] built2 ?_) | (refine wpList_store_row rfl 25 _ _ rfl w.heap.size #[.slice none 0 0, .slice none 0 0] rfl rfl 25 #[.slice none 0 0, .slice none 0 0] RES.out size2 rfl (by simp [Value.oneCell']) ?_))
        exact bodyPost_ret (v := .tuple #[.agg #[.slice none 0 0, .slice none 0 0], .bool false]) (permOf.results_cell_tmp rfl _ _ w.heap.size 25 #[.slice none 0 0, .slice none 0 0] (0, 0) _ _ rfl rfl RES.out.row Try.underlying25 rfl size2) rfl (sb_nil N2.out N3.out N1.out (below_setRow ((Below.refl _ _).alloc (Nat.le_refl _) _) (Nat.le_refl _) _))
    · obtain ⟨n1, n2, n3⟩ := to_no (a := a) (h := h) (fun q => hh q.2.1)
      have N1 := Lib.hid n1; have N2 := Lib.hid n2; have N3 := Lib.hid n3; clear n1 n2 n3
      have hda : decide (a < 1) = false := by simp; omega
      have hdh : decide (h < 1) = true := by simp; omega
      clear hh ha
      go_enter Try.func49, Try.ntmps49
      go_wp2_with (first | (refine wpList_build rfl 25 _ rfl [] rfl #[.slice none 0 0, .slice none 0 0] built2 ?_) | (refine wpList_store_row rfl 25 _ _ rfl w.heap.size #[.slice none 0 0, .slice none 0 0] rfl rfl 25 #[.slice none 0 0, .slice none 0 0] RES.out size2 rfl (by simp [Value.oneCell']) ?_))
      exact bodyPost_ret (v := .tuple #[.agg #[.slice none 0 0, .slice none 0 0], .bool false]) (permOf.results_cell_tmp rfl _ _ w.heap.size 25 #[.slice none 0 0, .slice none 0 0] (0, 0) _ _ rfl rfl RES.out.row Try.underlying25 rfl size2) rfl (sb_nil N2.out N3.out N1.out (below_setRow ((Below.refl _ _).alloc (Nat.le_refl _) _) (Nat.le_refl _) _))
  · obtain ⟨n1, n2, n3⟩ := to_no (a := a) (h := h) (fun q => ha q.1)
    have N1 := Lib.hid n1; have N2 := Lib.hid n2; have N3 := Lib.hid n3; clear n1 n2 n3
    have hda : decide (a < 1) = true := by simp; omega
    clear ha
    go_enter Try.func49, Try.ntmps49
    go_wp2_with (first | (refine wpList_build rfl 25 _ rfl [] rfl #[.slice none 0 0, .slice none 0 0] built2 ?_) | (refine wpList_store_row rfl 25 _ _ rfl w.heap.size #[.slice none 0 0, .slice none 0 0] rfl rfl 25 #[.slice none 0 0, .slice none 0 0] RES.out size2 rfl (by simp [Value.oneCell']) ?_))
    exact bodyPost_ret (v := .tuple #[.agg #[.slice none 0 0, .slice none 0 0], .bool false]) (permOf.results_cell_tmp rfl _ _ w.heap.size 25 #[.slice none 0 0, .slice none 0 0] (0, 0) _ _ rfl rfl RES.out.row Try.underlying25 rfl size2) rfl (sb_nil N2.out N3.out N1.out (below_setRow ((Below.refl _ _).alloc (Nat.le_refl _) _) (Nat.le_refl _) _))

theorem to_spec (a h : Int) (w : World) (lo1 : -9223372036854775808 ≤ a) (hi1 : a ≤ 9223372036854775807) (lo2 : -9223372036854775808 ≤ h) (hi2 : h ≤ 9223372036854775807) :
    Calls Try.prog 48 #[.int .i64 a, .int .i64 h] w fun e w' => ∃ g, e = .returned (.tuple #[g, .bool (torB a h)]) ∧ Svl w' w.heap.size w'.heap.size g (toR a h) (toU a h) ∧ Below w.heap.size w w' := to_spec0 a h w lo1 hi1 lo2 hi2
theorem to_impl (a h : Int) (w : World) (lo1 : -9223372036854775808 ≤ a) (hi1 : a ≤ 9223372036854775807) (lo2 : -9223372036854775808 ≤ h) (hi2 : h ≤ 9223372036854775807) :
    Calls Try.prog 49 #[.int .i64 a, .int .i64 h] w fun e w' => ∃ g, e = .returned (.tuple #[g, .bool (torB a h)]) ∧ Svl w' w.heap.size w'.heap.size g (toR a h) (toU a h) ∧ Below w.heap.size w w' := to_impl0 a h w lo1 hi1 lo2 hi2
end Go.Proofs.Ytpafloeghbfdgaa.gl
