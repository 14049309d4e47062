/-
  A matrix: a struct of four ints by value, as it comes in; TimesMatrix and DeterminantOf, of the model and of the program.
-/
import Derived.Test.YtdoohnphgembdaaPermOf
import Derived.Lib.SmallJoins
namespace Go.Proofs.Ytdoohnphgembdaa.mx
open Go.ChangeShapes Go.WideShapes Go.ChangeAt Go.RowKit Go.Joins Go.Deep
open Go.Proofs.Ytdoohnphgembdaa.mem Go.Proofs.Ytdoohnphgembdaa.ints Go.Proofs.Ytdoohnphgembdaa.arr
set_option linter.unusedVariables false
set_option maxRecDepth 100000
/-- The four entries, row by row. -/
abbrev Mx := Int × Int × Int × Int
def mv (m : Mx) : Value := .agg #[.int .i64 m.1, .int .i64 m.2.1, .int .i64 m.2.2.1, .int .i64 m.2.2.2]
def i64 (n : Int) : Prop := -9223372036854775808 ≤ n ∧ n ≤ 9223372036854775807
def Fit (m : Mx) : Prop := i64 m.1 ∧ i64 m.2.1 ∧ i64 m.2.2.1 ∧ i64 m.2.2.2
theorem fit1 {a : Int} (h : (Lit.int .i64 a).wf = true) : i64 a := by simpa [i64, Lit.wf, IntKind.min, IntKind.max, IntKind.signed, IntKind.bits] using h
theorem open_M {H : Type} {enc : TypeId × Value → H} {P : Program} {W : World} {r : Reach} {b0 : Nat} {t : TypeId} {f0 f1 f2 f3 : Field} {v : Value} {d : DataW H} {p : List MemPlace} (hs : P.underlying t = some (.struct #[f0, f1, f2, f3])) (hone : oneCellFields P #[f0, f1, f2, f3] = true) (hC : P.cellsOf t = 4)
    (t0 : P.underlying f0.type = some (.int .i64)) (t1 : P.underlying f1.type = some (.int .i64)) (t2 : P.underlying f2.type = some (.int .i64)) (t3 : P.underlying f3.type = some (.int .i64))
    (hv : Value.okWide P W r b0 t v) (h : DataW.Trod enc P W 0 (fun _ => true) true t v d p) : ∃ m : Mx, v = mv m ∧ Fit m := by
  obtain ⟨v0, v1, v2, v3, y0, y1, y2, y3, n, rfl, _, _, h0, h1, h2, h3⟩ := open_agg4 hs hone hC hv h
  obtain ⟨a, e0, _, wa⟩ := DataW.trod_int t0 h0
  obtain ⟨b, e1, _, wb⟩ := DataW.trod_int t1 h1
  obtain ⟨c, e2, _, wc⟩ := DataW.trod_int t2 h2
  obtain ⟨e, e3, _, we⟩ := DataW.trod_int t3 h3
  simp at e0 e1 e2 e3
  subst e0 e1 e2 e3
  exact ⟨(a, b, c, e), rfl, fit1 wa, fit1 wb, fit1 wc, fit1 we⟩
def sm1 (x : Int) : Bool := decide (-1000000000 ≤ x) && decide (x ≤ 1000000000)
def ents (m : Mx) : List Int := [m.1, m.2.1, m.2.2.1, m.2.2.2]
/-- All four entries lie from -MaxEntry to MaxEntry. -/
def smallM (m : Mx) : Bool := (ents m).all sm1
theorem sm_yes {x : Int} (h1 : -1000000000 ≤ x) (h2 : x ≤ 1000000000) : sm1 x = true := by simp [sm1, h1, h2]
theorem sm_no {x : Int} (h : x < -1000000000 ∨ 1000000000 < x) : sm1 x = false := by unfold sm1; rcases h with h | h <;> simp <;> omega
theorem ents_at (m : Mx) {k : Nat} (h : k < 4) : (ents m)[k]? = some ((ents m).getD k 0) := by
  rw [List.getD, List.getElem?_eq_getElem (by simpa [ents] using h)]; rfl
theorem all_snoc {l : List Int} {k : Nat} {x : Int} (h : (l.take k).all sm1 = true) (hx : l[k]? = some x) (hs : sm1 x = true) : (l.take (k + 1)).all sm1 = true := by
  rw [List.take_add_one, hx]
  simp [h, hs]
theorem small_no {m : Mx} {k : Nat} {x : Int} (hx : (ents m)[k]? = some x) (hs : sm1 x = false) : smallM m = false := by
  unfold smallM
  rw [List.all_eq_false]
  exact ⟨x, List.mem_of_getElem? hx, by rw [hs]; decide⟩
theorem small_yes {m : Mx} (h : ((ents m).take 4).all sm1 = true) : smallM m = true := h
theorem ents_fit {m : Mx} (h : Fit m) {k : Nat} (hk : k < 4) : i64 ((ents m).getD k 0) := by
  obtain ⟨a, b, c, d⟩ := h
  match k, hk with
  | 0, _ => exact a
  | 1, _ => exact b
  | 2, _ => exact c
  | 3, _ => exact d
theorem ret_bool {a b : Bool} (h : a = b) : Ending.returned (.bool a) = .returned (.bool b) := by rw [h]
set_option maxHeartbeats 1000000 in
theorem small_spec (m : Mx) (w : World) (hm : Fit m) : Calls Try.prog 67 #[mv m] w fun e w' => e = .returned (.bool (smallM m)) ∧ Below w.heap.size w w' := by
  have HM := Lib.hid hm; clear hm
  unfold mv
  go_enter Try.func67, Try.ntmps67
  go_wp2
  generalize hw1 : (w.alloc (.cells #[.int .i64 m.1, .int .i64 m.2.1, .int .i64 m.2.2.1, .int .i64 m.2.2.2] 43)).alloc (.cells #[.int .i64 m.1, .int .i64 m.2.1, .int .i64 m.2.2.1, .int .i64 m.2.2.2] 3) = w1
  have HC : Hid (∀ k, k < 4 → w1.cell? ⟨w.heap.size + 1, k, none⟩ = some (.int .i64 ((ents m).getD k 0))) := Lib.hid (by
    intro k hk
    rw [← hw1]
    exact (Arr.new _ (V (ents m)) 3 (g := w.heap.size + 1) (by simp)).cell (V_get (ents_at m hk)))
  have BB : Hid (Below w.heap.size w w1) := Lib.hid (by rw [← hw1]; exact ((Below.refl _ _).alloc (Nat.le_refl _) _).alloc (by simp) _)
  clear hw1
  go_loop [15] (fun i => ∃ k : Nat, k ≤ 4 ∧ i = .int .i64 k ∧ ((ents m).take k).all sm1 = true) (fun i => 4 - (intOf i).toNat)
  case atStart => exact ⟨0, Nat.zero_le _, rfl, rfl⟩
  case round =>
    obtain ⟨k, hk, rfl, ha⟩ := hrel
    have HA := Lib.hid ha; clear ha
    by_cases hlt : k < 4
    · have hc := HC.out k hlt
      have EA := Lib.hid (ents_at m hlt)
      have HF := ents_fit HM.out hlt
      generalize (ents m).getD k 0 = x at *
      obtain ⟨f1, f2⟩ := HF
      by_cases h1 : -1000000000 ≤ x
      · by_cases h2 : x ≤ 1000000000
        · go_wp2
          go_round
          case rel => exact ⟨k + 1, by omega, by go_num, all_snoc HA.out EA.out (sm_yes h1 h2)⟩
          case measure => simp [intOf]; omega
        · go_wp2
          go_ret
          exact ⟨ret_bool (small_no EA.out (sm_no (.inr (by omega)))).symm, BB.out⟩
      · go_wp2
        go_ret
        exact ⟨ret_bool (small_no EA.out (sm_no (.inl (by omega)))).symm, BB.out⟩
    · obtain rfl : k = 4 := by omega
      go_wp2
      go_ret
      exact ⟨ret_bool (small_yes HA.out).symm, BB.out⟩
theorem index4 (m : Mx) (k : Nat) (x : Int) (hk : k < 4) (hx : (ents m)[k]? = some x) (w : World) :
    (Instr.index 105 (.agg #[.int .i64 m.1, .int .i64 m.2.1, .int .i64 m.2.2.1, .int .i64 m.2.2.2]) (.int .i64 (k : Int))).run Try.prog w = .ok (.int .i64 x) w := by
  have hs : (sizeOf 3).run Try.prog w = .ok 1 w := by kernel_rfl
  match k, hk with
  | 0, _ => simp [ents] at hx; subst hx; simp [Instr.index, asIntOf, run_underlying Try.underlying105, hs, part]
  | 1, _ => simp [ents] at hx; subst hx; simp [Instr.index, asIntOf, run_underlying Try.underlying105, hs, part]
  | 2, _ => simp [ents] at hx; subst hx; simp [Instr.index, asIntOf, run_underlying Try.underlying105, hs, part]
  | 3, _ => simp [ents] at hx; subst hx; simp [Instr.index, asIntOf, run_underlying Try.underlying105, hs, part]
set_option maxHeartbeats 1000000 in
theorem small_impl (m : Mx) (w : World) (hm : Fit m) : Calls Try.prog 69 #[mv m] w fun e w' => e = .returned (.bool (smallM m)) ∧ Below w.heap.size w w' := by
  have HM := Lib.hid hm; clear hm
  unfold mv
  go_enter Try.func69, Try.ntmps69
  go_wp2
  generalize hw1 : w.alloc (.cells #[.int .i64 m.1, .int .i64 m.2.1, .int .i64 m.2.2.1, .int .i64 m.2.2.2] 43) = w1
  have BB : Hid (Below w.heap.size w w1) := Lib.hid (by rw [← hw1]; exact (Below.refl _ _).alloc (Nat.le_refl _) _)
  clear hw1
  go_loop [14] (fun i => ∃ k : Nat, k ≤ 4 ∧ i = .int .i64 k ∧ ((ents m).take k).all sm1 = true) (fun i => 4 - (intOf i).toNat)
  case atStart => exact ⟨0, Nat.zero_le _, rfl, rfl⟩
  case round =>
    obtain ⟨k, hk, rfl, ha⟩ := hrel
    have HA := Lib.hid ha; clear ha
    by_cases hlt : k < 4
    · have EA := Lib.hid (ents_at m hlt)
      have HF := ents_fit HM.out hlt
      generalize (ents m).getD k 0 = x at *
      have hix := index4 m k x hlt EA.out
      obtain ⟨f1, f2⟩ := HF
      by_cases h1 : x < -1000000000
      · go_wp2
        go_ret
        exact ⟨ret_bool (small_no EA.out (sm_no (.inl h1))).symm, BB.out⟩
      · by_cases h2 : 1000000000 < x
        · go_wp2
          go_ret
          exact ⟨ret_bool (small_no EA.out (sm_no (.inr h2))).symm, BB.out⟩
        · go_wp2
          go_round
          case rel => exact ⟨k + 1, by omega, by go_num, all_snoc HA.out EA.out (sm_yes (by omega) (by omega))⟩
          case measure => simp [intOf]; omega
    · obtain rfl : k = 4 := by omega
      go_wp2
      go_ret
      exact ⟨ret_bool (small_yes HA.out).symm, BB.out⟩
/-- A sum of two products, as 64 bits hold it. -/
def w64 (x y : Int) : Int := wrap64 (wrap64 x + wrap64 y)
def mulW (m k : Mx) : Mx := (w64 (m.1 * k.1) (m.2.1 * k.2.2.1), w64 (m.1 * k.2.1) (m.2.1 * k.2.2.2), w64 (m.2.2.1 * k.1) (m.2.2.2 * k.2.2.1), w64 (m.2.2.1 * k.2.1) (m.2.2.2 * k.2.2.2))
def okM (m k : Mx) : Bool := smallM m && smallM k
/-- What TimesMatrix gives. -/
def tmF (m k : Mx) : Mx := if okM m k then mulW m k else (0, 0, 0, 0)
def detF (m : Mx) : Int := if smallM m then wrap64 (wrap64 (m.1 * m.2.2.2) - wrap64 (m.2.1 * m.2.2.1)) else 0
theorem okM_yes {m k : Mx} (h : smallM m = true) (h' : smallM k = true) : okM m k = true := by simp [okM, h, h']
theorem okM_no {m k : Mx} (h : smallM m = false ∨ smallM k = false) : okM m k = false := by rcases h with h | h <;> simp [okM, h]
theorem tm_yes {m k : Mx} (h : okM m k = true) : tmF m k = mulW m k := by simp [tmF, h]
theorem tm_no {m k : Mx} (h : okM m k = false) : tmF m k = (0, 0, 0, 0) := by simp [tmF, h]
theorem det_yes {m : Mx} (h : smallM m = true) : detF m = wrap64 (wrap64 (m.1 * m.2.2.2) - wrap64 (m.2.1 * m.2.2.1)) := by simp [detF, h]
theorem det_no {m : Mx} (h : smallM m = false) : detF m = 0 := by simp [detF, h]
theorem sizeM (m : Mx) : (Try.prog.info? 43).map (·.size) = some (#[Value.int .i64 m.1, .int .i64 m.2.1, .int .i64 m.2.2.1, .int .i64 m.2.2.2]).size := by kernel_rfl
theorem sizeT (m : Mx) : (Try.prog.info? 42).map (·.size) = some (V (ents m)).toArray.size := by kernel_rfl
def zM : Mx := (0, 0, 0, 0)
set_option maxHeartbeats 2000000 in
theorem times_spec (m k : Mx) (w : World) : Calls Try.prog 68 #[mv m, mv k] w fun e w' => e = .returned (mv (mulW m k)) ∧ Below w.heap.size w w' := by
  unfold mv
  go_enter Try.func68, Try.ntmps68
  go_wp2
  exact bodyPost_ret (v := mv (mulW m k)) (results_cell_row rfl _ _ (w.heap.size + 1 + 1) 43 #[.int .i64 (mulW m k).1, .int .i64 (mulW m k).2.1, .int .i64 (mulW m k).2.2.1, .int .i64 (mulW m k).2.2.2] (0, 0) _ rfl (Arr.new _ (V (ents (mulW m k))) 43 (by simp)) Try.underlying43 rfl (sizeM (mulW m k))) rfl ⟨rfl, (((Below.refl _ _).alloc (Nat.le_refl _) _).alloc (by simp) _).alloc (by simp; omega) _⟩
set_option maxHeartbeats 2000000 in
theorem times_impl (m k : Mx) (w : World) : Calls Try.prog 70 #[mv m, mv k] w fun e w' => e = .returned (mv (mulW m k)) ∧ Below w.heap.size w w' := by
  unfold mv
  go_enter Try.func70, Try.ntmps70
  go_wp2
  exact bodyPost_ret (v := mv (mulW m k)) (results_cell_row rfl _ _ (w.heap.size + 1 + 1) 43 #[.int .i64 (mulW m k).1, .int .i64 (mulW m k).2.1, .int .i64 (mulW m k).2.2.1, .int .i64 (mulW m k).2.2.2] (0, 0) _ rfl (Arr.new _ (V (ents (mulW m k))) 43 (by simp)) Try.underlying43 rfl (sizeM (mulW m k))) rfl ⟨rfl, (((Below.refl _ _).alloc (Nat.le_refl _) _).alloc (by simp) _).alloc (by simp; omega) _⟩
theorem builtM : Try.prog.built 43 [] = some #[.int .i64 zM.1, .int .i64 zM.2.1, .int .i64 zM.2.2.1, .int .i64 zM.2.2.2] := by kernel_rfl
def TPost (m k : Mx) (w : World) (e : Ending) (w' : World) : Prop := e = .returned (.tuple #[mv (tmF m k), .bool (okM m k)]) ∧ Below w.heap.size w w'
theorem tm_post {m k v : Mx} {b : Bool} {w w' : World} (h : tmF m k = v) (h' : okM m k = b) (hb : Below w.heap.size w w') : TPost m k w (.returned (.tuple #[mv v, .bool b])) w' := by
  subst h; subst h'; exact ⟨rfl, hb⟩
set_option maxHeartbeats 2000000 in
theorem tm_spec (m k : Mx) (w : World) (hm : Fit m) (hk : Fit k) : Calls Try.prog 36 #[mv m, mv k] w (TPost m k w) := by
  have HM := Lib.hid hm; have HK := Lib.hid hk; clear hm hk
  unfold mv
  go_enter Try.func36, Try.ntmps36
  go_wp2_with fail
  generalize hw1 : ((w.alloc (.cells #[.int .i64 m.1, .int .i64 m.2.1, .int .i64 m.2.2.1, .int .i64 m.2.2.2] 43)).alloc (.cells #[.int .i64 k.1, .int .i64 k.2.1, .int .i64 k.2.2.1, .int .i64 k.2.2.2] 43)).alloc (.cells #[.int .i64 0, .int .i64 0, .int .i64 0, .int .i64 0] 43) = w1
  have A0 : Hid (Arr w1 w.heap.size (V (ents m)) 43) := Lib.hid (by rw [← hw1]; exact ((Arr.new w _ _ rfl).alloc _).alloc _)
  have A1 : Hid (Arr w1 (w.heap.size + 1) (V (ents k)) 43) := Lib.hid (by rw [← hw1]; exact (Arr.new _ _ _ (by simp)).alloc _)
  have A2 : Hid (Arr w1 (w.heap.size + 2) (V (ents zM)) 43) := Lib.hid (by rw [← hw1]; exact Arr.new _ _ _ (by simp))
  have B1 : Hid (Below w.heap.size w w1) := Lib.hid (by rw [← hw1]; exact (((Below.refl _ _).alloc (Nat.le_refl _) _).alloc (by simp) _).alloc (by simp; omega) _)
  have s1 : w.heap.size + 3 ≤ w1.heap.size := by rw [← hw1]; simp
  clear hw1
  have A00 := A0.out.cell (k := 0) rfl; have A01 := A0.out.cell (k := 1) rfl; have A02 := A0.out.cell (k := 2) rfl; have A03 := A0.out.cell (k := 3) rfl
  have A10 := A1.out.cell (k := 0) rfl; have A11 := A1.out.cell (k := 1) rfl; have A12 := A1.out.cell (k := 2) rfl; have A13 := A1.out.cell (k := 3) rfl
  refine (small_spec m _ HM.out).mono ?_
  rintro e w2 ⟨rfl, b1⟩
  have s2 := b1.size
  clear A00 A01 A02 A03
  replace A0 := Lib.hid (A0.out.keep b1 A0.out.lt)
  have A00 := A0.out.cell (k := 0) rfl; have A01 := A0.out.cell (k := 1) rfl; have A02 := A0.out.cell (k := 2) rfl; have A03 := A0.out.cell (k := 3) rfl
  clear A10 A11 A12 A13
  replace A1 := Lib.hid (A1.out.keep b1 A1.out.lt)
  have A10 := A1.out.cell (k := 0) rfl; have A11 := A1.out.cell (k := 1) rfl; have A12 := A1.out.cell (k := 2) rfl; have A13 := A1.out.cell (k := 3) rfl
  replace A2 := Lib.hid (A2.out.keep b1 A2.out.lt)
  replace B1 := Lib.hid (B1.out.trans (b1.mono B1.out.size))
  clear b1
  cases h1 : smallM m
  · have HO := Lib.hid (okM_no (k := k) (.inl h1)); have HT := Lib.hid (tm_no HO.out); clear h1
    go_wp2_with (first | (refine wpList_build rfl 43 _ rfl [] rfl _ builtM ?_) | (refine wpList_store_row rfl 43 _ _ rfl (w.heap.size + 2) #[.int .i64 zM.1, .int .i64 zM.2.1, .int .i64 zM.2.2.1, .int .i64 zM.2.2.2] rfl rfl 43 #[.int .i64 zM.1, .int .i64 zM.2.1, .int .i64 zM.2.2.1, .int .i64 zM.2.2.2] A2.out (sizeM _) rfl (by simp [Value.oneCell']) ?_))
    exact bodyPost_ret (v := .tuple #[mv zM, .bool false]) (permOf.results_cell_tmp rfl _ _ (w.heap.size + 2) 43 #[.int .i64 zM.1, .int .i64 zM.2.1, .int .i64 zM.2.2.1, .int .i64 zM.2.2.2] (0, 0) _ _ rfl rfl A2.out.row Try.underlying43 rfl (sizeM _)) rfl (tm_post HT.out HO.out (below_setRow B1.out (by omega) _))
  · have H1 := Lib.hid h1; clear h1
    go_wp2_with fail
    refine (small_spec k _ HK.out).mono ?_
    rintro e w3 ⟨rfl, b1⟩
    have s3 := b1.size
    clear A00 A01 A02 A03
    replace A0 := Lib.hid (A0.out.keep b1 A0.out.lt)
    have A00 := A0.out.cell (k := 0) rfl; have A01 := A0.out.cell (k := 1) rfl; have A02 := A0.out.cell (k := 2) rfl; have A03 := A0.out.cell (k := 3) rfl
    clear A10 A11 A12 A13
    replace A1 := Lib.hid (A1.out.keep b1 A1.out.lt)
    have A10 := A1.out.cell (k := 0) rfl; have A11 := A1.out.cell (k := 1) rfl; have A12 := A1.out.cell (k := 2) rfl; have A13 := A1.out.cell (k := 3) rfl
    replace A2 := Lib.hid (A2.out.keep b1 A2.out.lt)
    replace B1 := Lib.hid (B1.out.trans (b1.mono B1.out.size))
    clear b1
    cases h2 : smallM k
    · have HO := Lib.hid (okM_no (m := m) (.inr h2)); have HT := Lib.hid (tm_no HO.out); clear h2
      go_wp2_with (first | (refine wpList_build rfl 43 _ rfl [] rfl _ builtM ?_) | (refine wpList_store_row rfl 43 _ _ rfl (w.heap.size + 2) #[.int .i64 zM.1, .int .i64 zM.2.1, .int .i64 zM.2.2.1, .int .i64 zM.2.2.2] rfl rfl 43 #[.int .i64 zM.1, .int .i64 zM.2.1, .int .i64 zM.2.2.1, .int .i64 zM.2.2.2] A2.out (sizeM _) rfl (by simp [Value.oneCell']) ?_))
      exact bodyPost_ret (v := .tuple #[mv zM, .bool false]) (permOf.results_cell_tmp rfl _ _ (w.heap.size + 2) 43 #[.int .i64 zM.1, .int .i64 zM.2.1, .int .i64 zM.2.2.1, .int .i64 zM.2.2.2] (0, 0) _ _ rfl rfl A2.out.row Try.underlying43 rfl (sizeM _)) rfl (tm_post HT.out HO.out (below_setRow B1.out (by omega) _))
    · have HO := Lib.hid (okM_yes H1.out h2); have HT := Lib.hid (tm_yes HO.out); clear h2
      go_wp2_with fail
      refine (times_spec m k _).mono ?_
      rintro e w4 ⟨rfl, b1⟩
      have s4 := b1.size
      clear A00 A01 A02 A03 A10 A11 A12 A13
      replace A2 := Lib.hid (A2.out.keep b1 A2.out.lt)
      replace B1 := Lib.hid (B1.out.trans (b1.mono B1.out.size))
      clear b1
      unfold mv
      go_wp2_with (first | (refine wpList_build rfl 43 _ rfl [] rfl _ builtM ?_) | (refine wpList_store_row rfl 43 _ _ rfl (w.heap.size + 2) #[.int .i64 (mulW m k).1, .int .i64 (mulW m k).2.1, .int .i64 (mulW m k).2.2.1, .int .i64 (mulW m k).2.2.2] rfl rfl 43 #[.int .i64 zM.1, .int .i64 zM.2.1, .int .i64 zM.2.2.1, .int .i64 zM.2.2.2] A2.out (sizeM _) rfl (by simp [Value.oneCell']) ?_))
      exact bodyPost_ret (v := .tuple #[mv (mulW m k), .bool true]) (permOf.results_cell_tmp rfl _ _ (w.heap.size + 2) 43 #[.int .i64 (mulW m k).1, .int .i64 (mulW m k).2.1, .int .i64 (mulW m k).2.2.1, .int .i64 (mulW m k).2.2.2] (0, 0) _ _ rfl rfl A2.out.row Try.underlying43 rfl (sizeM _)) rfl (tm_post HT.out HO.out (below_setRow B1.out (by omega) _))
set_option maxHeartbeats 2000000 in
theorem tm_impl (m k : Mx) (w : World) (hm : Fit m) (hk : Fit k) : Calls Try.prog 38 #[mv m, mv k] w (TPost m k w) := by
  have HM := Lib.hid hm; have HK := Lib.hid hk; clear hm hk
  unfold mv
  go_enter Try.func38, Try.ntmps38
  go_wp2_with fail
  generalize hw1 : ((w.alloc (.cells #[.int .i64 m.1, .int .i64 m.2.1, .int .i64 m.2.2.1, .int .i64 m.2.2.2] 43)).alloc (.cells #[.int .i64 k.1, .int .i64 k.2.1, .int .i64 k.2.2.1, .int .i64 k.2.2.2] 43)).alloc (.cells #[.int .i64 0, .int .i64 0, .int .i64 0, .int .i64 0] 43) = w1
  have A0 : Hid (Arr w1 w.heap.size (V (ents m)) 43) := Lib.hid (by rw [← hw1]; exact ((Arr.new w _ _ rfl).alloc _).alloc _)
  have A1 : Hid (Arr w1 (w.heap.size + 1) (V (ents k)) 43) := Lib.hid (by rw [← hw1]; exact (Arr.new _ _ _ (by simp)).alloc _)
  have A2 : Hid (Arr w1 (w.heap.size + 2) (V (ents zM)) 43) := Lib.hid (by rw [← hw1]; exact Arr.new _ _ _ (by simp))
  have B1 : Hid (Below w.heap.size w w1) := Lib.hid (by rw [← hw1]; exact (((Below.refl _ _).alloc (Nat.le_refl _) _).alloc (by simp) _).alloc (by simp; omega) _)
  have s1 : w.heap.size + 3 ≤ w1.heap.size := by rw [← hw1]; simp
  clear hw1
  have A00 := A0.out.cell (k := 0) rfl; have A01 := A0.out.cell (k := 1) rfl; have A02 := A0.out.cell (k := 2) rfl; have A03 := A0.out.cell (k := 3) rfl
  have A10 := A1.out.cell (k := 0) rfl; have A11 := A1.out.cell (k := 1) rfl; have A12 := A1.out.cell (k := 2) rfl; have A13 := A1.out.cell (k := 3) rfl
  refine (small_impl m _ HM.out).mono ?_
  rintro e w2 ⟨rfl, b1⟩
  have s2 := b1.size
  clear A00 A01 A02 A03
  replace A0 := Lib.hid (A0.out.keep b1 A0.out.lt)
  have A00 := A0.out.cell (k := 0) rfl; have A01 := A0.out.cell (k := 1) rfl; have A02 := A0.out.cell (k := 2) rfl; have A03 := A0.out.cell (k := 3) rfl
  clear A10 A11 A12 A13
  replace A1 := Lib.hid (A1.out.keep b1 A1.out.lt)
  have A10 := A1.out.cell (k := 0) rfl; have A11 := A1.out.cell (k := 1) rfl; have A12 := A1.out.cell (k := 2) rfl; have A13 := A1.out.cell (k := 3) rfl
  replace A2 := Lib.hid (A2.out.keep b1 A2.out.lt)
  replace B1 := Lib.hid (B1.out.trans (b1.mono B1.out.size))
  clear b1
  cases h1 : smallM m
  · have HO := Lib.hid (okM_no (k := k) (.inl h1)); have HT := Lib.hid (tm_no HO.out); clear h1
    go_wp2_with (first | (refine wpList_build rfl 43 _ rfl [] rfl _ builtM ?_) | (refine wpList_store_row rfl 43 _ _ rfl (w.heap.size + 2) #[.int .i64 zM.1, .int .i64 zM.2.1, .int .i64 zM.2.2.1, .int .i64 zM.2.2.2] rfl rfl 43 #[.int .i64 zM.1, .int .i64 zM.2.1, .int .i64 zM.2.2.1, .int .i64 zM.2.2.2] A2.out (sizeM _) rfl (by simp [Value.oneCell']) ?_))
    exact bodyPost_ret (v := .tuple #[mv zM, .bool false]) (permOf.results_cell_tmp rfl _ _ (w.heap.size + 2) 43 #[.int .i64 zM.1, .int .i64 zM.2.1, .int .i64 zM.2.2.1, .int .i64 zM.2.2.2] (0, 0) _ _ rfl rfl A2.out.row Try.underlying43 rfl (sizeM _)) rfl (tm_post HT.out HO.out (below_setRow B1.out (by omega) _))
  · have H1 := Lib.hid h1; clear h1
    go_wp2_with fail
    refine (small_impl k _ HK.out).mono ?_
    rintro e w3 ⟨rfl, b1⟩
    have s3 := b1.size
    clear A00 A01 A02 A03
    replace A0 := Lib.hid (A0.out.keep b1 A0.out.lt)
    have A00 := A0.out.cell (k := 0) rfl; have A01 := A0.out.cell (k := 1) rfl; have A02 := A0.out.cell (k := 2) rfl; have A03 := A0.out.cell (k := 3) rfl
    clear A10 A11 A12 A13
    replace A1 := Lib.hid (A1.out.keep b1 A1.out.lt)
    have A10 := A1.out.cell (k := 0) rfl; have A11 := A1.out.cell (k := 1) rfl; have A12 := A1.out.cell (k := 2) rfl; have A13 := A1.out.cell (k := 3) rfl
    replace A2 := Lib.hid (A2.out.keep b1 A2.out.lt)
    replace B1 := Lib.hid (B1.out.trans (b1.mono B1.out.size))
    clear b1
    cases h2 : smallM k
    · have HO := Lib.hid (okM_no (m := m) (.inr h2)); have HT := Lib.hid (tm_no HO.out); clear h2
      go_wp2_with (first | (refine wpList_build rfl 43 _ rfl [] rfl _ builtM ?_) | (refine wpList_store_row rfl 43 _ _ rfl (w.heap.size + 2) #[.int .i64 zM.1, .int .i64 zM.2.1, .int .i64 zM.2.2.1, .int .i64 zM.2.2.2] rfl rfl 43 #[.int .i64 zM.1, .int .i64 zM.2.1, .int .i64 zM.2.2.1, .int .i64 zM.2.2.2] A2.out (sizeM _) rfl (by simp [Value.oneCell']) ?_))
      exact bodyPost_ret (v := .tuple #[mv zM, .bool false]) (permOf.results_cell_tmp rfl _ _ (w.heap.size + 2) 43 #[.int .i64 zM.1, .int .i64 zM.2.1, .int .i64 zM.2.2.1, .int .i64 zM.2.2.2] (0, 0) _ _ rfl rfl A2.out.row Try.underlying43 rfl (sizeM _)) rfl (tm_post HT.out HO.out (below_setRow B1.out (by omega) _))
    · have HO := Lib.hid (okM_yes H1.out h2); have HT := Lib.hid (tm_yes HO.out); clear h2
      go_wp2_with fail
      refine (times_impl m k _).mono ?_
      rintro e w4 ⟨rfl, b1⟩
      have s4 := b1.size
      clear A00 A01 A02 A03 A10 A11 A12 A13
      replace A2 := Lib.hid (A2.out.keep b1 A2.out.lt)
      replace B1 := Lib.hid (B1.out.trans (b1.mono B1.out.size))
      clear b1
      unfold mv
      go_wp2_with (first | (refine wpList_build rfl 43 _ rfl [] rfl _ builtM ?_) | (refine wpList_store_row rfl 43 _ _ rfl (w.heap.size + 2) #[.int .i64 (mulW m k).1, .int .i64 (mulW m k).2.1, .int .i64 (mulW m k).2.2.1, .int .i64 (mulW m k).2.2.2] rfl rfl 43 #[.int .i64 zM.1, .int .i64 zM.2.1, .int .i64 zM.2.2.1, .int .i64 zM.2.2.2] A2.out (sizeM _) rfl (by simp [Value.oneCell']) ?_))
      exact bodyPost_ret (v := .tuple #[mv (mulW m k), .bool true]) (permOf.results_cell_tmp rfl _ _ (w.heap.size + 2) 43 #[.int .i64 (mulW m k).1, .int .i64 (mulW m k).2.1, .int .i64 (mulW m k).2.2.1, .int .i64 (mulW m k).2.2.2] (0, 0) _ _ rfl rfl A2.out.row Try.underlying43 rfl (sizeM _)) rfl (tm_post HT.out HO.out (below_setRow B1.out (by omega) _))
set_option maxHeartbeats 2000000 in
theorem det_spec (m : Mx) (w : World) (hm : Fit m) : Calls Try.prog 40 #[mv m] w fun e w' => e = .returned (.int .i64 (detF m)) ∧ Below w.heap.size w w' := by
  have HM := Lib.hid hm; clear hm
  unfold mv
  go_enter Try.func40, Try.ntmps40
  go_wp2_with fail
  generalize hw1 : w.alloc (.cells #[.int .i64 m.1, .int .i64 m.2.1, .int .i64 m.2.2.1, .int .i64 m.2.2.2] 43) = w1
  have A0 : Hid (Arr w1 w.heap.size (V (ents m)) 43) := Lib.hid (by rw [← hw1]; exact (Arr.new w _ _ rfl))
  have B1 : Hid (Below w.heap.size w w1) := Lib.hid (by rw [← hw1]; exact (Below.refl _ _).alloc (Nat.le_refl _) _)
  clear hw1
  refine (small_spec m _ HM.out).mono ?_
  rintro e w2 ⟨rfl, b1⟩
  have s2 := b1.size
  replace A0 := Lib.hid (A0.out.keep b1 A0.out.lt)
  replace B1 := Lib.hid (B1.out.trans (b1.mono B1.out.size))
  have A00 := A0.out.cell (k := 0) rfl; have A01 := A0.out.cell (k := 1) rfl; have A02 := A0.out.cell (k := 2) rfl; have A03 := A0.out.cell (k := 3) rfl
  clear b1
  cases h1 : smallM m
  · have HT := Lib.hid (det_no h1); clear h1
    go_wp2_with fail
    go_ret
    exact ⟨by rw [HT.out]; rfl, B1.out⟩
  · have HT := Lib.hid (det_yes h1); clear h1
    go_wp2_with fail
    go_ret
    exact ⟨by rw [HT.out]; rfl, B1.out⟩
set_option maxHeartbeats 2000000 in
theorem det_impl (m : Mx) (w : World) (hm : Fit m) : Calls Try.prog 41 #[mv m] w fun e w' => e = .returned (.int .i64 (detF m)) ∧ Below w.heap.size w w' := by
  have HM := Lib.hid hm; clear hm
  unfold mv
  go_enter Try.func41, Try.ntmps41
  go_wp2_with fail
  generalize hw1 : w.alloc (.cells #[.int .i64 m.1, .int .i64 m.2.1, .int .i64 m.2.2.1, .int .i64 m.2.2.2] 43) = w1
  have A0 : Hid (Arr w1 w.heap.size (V (ents m)) 43) := Lib.hid (by rw [← hw1]; exact (Arr.new w _ _ rfl))
  have B1 : Hid (Below w.heap.size w w1) := Lib.hid (by rw [← hw1]; exact (Below.refl _ _).alloc (Nat.le_refl _) _)
  clear hw1
  refine (small_impl m _ HM.out).mono ?_
  rintro e w2 ⟨rfl, b1⟩
  have s2 := b1.size
  replace A0 := Lib.hid (A0.out.keep b1 A0.out.lt)
  replace B1 := Lib.hid (B1.out.trans (b1.mono B1.out.size))
  have A00 := A0.out.cell (k := 0) rfl; have A01 := A0.out.cell (k := 1) rfl; have A02 := A0.out.cell (k := 2) rfl; have A03 := A0.out.cell (k := 3) rfl
  clear b1
  cases h1 : smallM m
  · have HT := Lib.hid (det_no h1); clear h1
    go_wp2_with fail
    go_ret
    exact ⟨by rw [HT.out]; rfl, B1.out⟩
  · have HT := Lib.hid (det_yes h1); clear h1
    go_wp2_with fail
    go_ret
    exact ⟨by rw [HT.out]; rfl, B1.out⟩
theorem toM_any (m : Mx) (w : World) : Calls Try.prog 37 #[mv m] w fun e w' => e = .returned (mv m) ∧ Below w.heap.size w w' := by
  unfold mv
  go_enter Try.func37, Try.ntmps37
  go_wp2
  exact bodyPost_ret (v := mv m) (results_cell_row rfl _ _ (w.heap.size + 1) 43 #[.int .i64 m.1, .int .i64 m.2.1, .int .i64 m.2.2.1, .int .i64 m.2.2.2] (0, 0) _ rfl ((Arr.new _ (V (ents m)) 43 (by simp)).alloc _) Try.underlying43 rfl (sizeM m)) rfl ⟨rfl, (((Below.refl _ _).alloc (Nat.le_refl _) _).alloc (by simp) _).alloc (by simp; omega) _⟩
theorem eqM_any (m : Mx) (w : World) : Calls Try.prog 39 #[mv m, mv m] w fun e w' => e = .returned (.bool true) ∧ Below w.heap.size w w' := by
  unfold mv
  go_enter Try.func39, Try.ntmps39
  go_wp2
  go_ret
  exact ⟨rfl, ((Below.refl _ _).alloc (Nat.le_refl _) _).alloc (by simp) _⟩
end Go.Proofs.Ytdoohnphgembdaa.mx
