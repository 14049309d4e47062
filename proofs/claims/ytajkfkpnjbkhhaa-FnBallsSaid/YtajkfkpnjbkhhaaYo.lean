/-
  The program's BouncesIn (a type switch over the sides) and StepsToCorner (an assertion).
-/
import Derived.Test.YtajkfkpnjbkhhaaYn
namespace Go.Proofs.Ytajkfkpnjbkhhaa.bal
open Go.ChangeShapes Go.WideShapes Go.ChangeAt Go.RowKit
open Go.Proofs.Ytajkfkpnjbkhhaa.mem Go.Proofs.Ytajkfkpnjbkhhaa.ints Go.Proofs.Ytajkfkpnjbkhhaa.arr Go.Proofs.Ytajkfkpnjbkhhaa.pm Go.Proofs.Ytajkfkpnjbkhhaa.permOk Go.Proofs.Ytajkfkpnjbkhhaa.sf
set_option linter.unusedVariables false
set_option maxRecDepth 100000
set_option linter.unusedSimpArgs false
theorem ty_up (v : Value) (w : World) : (Instr.typeAssert (.iface 55 v) 53 55 true).run Try.prog w = .ok (.tuple #[v, .bool true]) w := by kernel_rfl
theorem tx_lv_up (v : Value) (w : World) : (Instr.typeAssert (.iface 56 v) 53 55 true).run Try.prog w = .ok (.tuple #[.int .i64 0, .bool false]) w := by kernel_rfl
theorem tx_co_up (v : Value) (w : World) : (Instr.typeAssert (.iface 58 v) 53 55 true).run Try.prog w = .ok (.tuple #[.int .i64 0, .bool false]) w := by kernel_rfl
theorem tx_no_up (v : Value) (w : World) : (Instr.typeAssert (.iface 66 v) 53 55 true).run Try.prog w = .ok (.tuple #[.int .i64 0, .bool false]) w := by kernel_rfl
theorem ty_lv (v : Value) (w : World) : (Instr.typeAssert (.iface 56 v) 53 56 true).run Try.prog w = .ok (.tuple #[v, .bool true]) w := by kernel_rfl
theorem tx_up_lv (v : Value) (w : World) : (Instr.typeAssert (.iface 55 v) 53 56 true).run Try.prog w = .ok (.tuple #[.int .i64 0, .bool false]) w := by kernel_rfl
theorem tx_co_lv (v : Value) (w : World) : (Instr.typeAssert (.iface 58 v) 53 56 true).run Try.prog w = .ok (.tuple #[.int .i64 0, .bool false]) w := by kernel_rfl
theorem tx_no_lv (v : Value) (w : World) : (Instr.typeAssert (.iface 66 v) 53 56 true).run Try.prog w = .ok (.tuple #[.int .i64 0, .bool false]) w := by kernel_rfl
theorem ty_co (v : Value) (w : World) : (Instr.typeAssert (.iface 58 v) 53 58 true).run Try.prog w = .ok (.tuple #[v, .bool true]) w := by kernel_rfl
theorem tx_up_co (v : Value) (w : World) : (Instr.typeAssert (.iface 55 v) 53 58 true).run Try.prog w = .ok (.tuple #[.agg #[.int .i64 0, .int .i64 0], .bool false]) w := by kernel_rfl
theorem tx_lv_co (v : Value) (w : World) : (Instr.typeAssert (.iface 56 v) 53 58 true).run Try.prog w = .ok (.tuple #[.agg #[.int .i64 0, .int .i64 0], .bool false]) w := by kernel_rfl
theorem tx_no_co (v : Value) (w : World) : (Instr.typeAssert (.iface 66 v) 53 58 true).run Try.prog w = .ok (.tuple #[.agg #[.int .i64 0, .int .i64 0], .bool false]) w := by kernel_rfl
theorem in_zero {x a : Int} : inF x a = 0 ↔ ¬ (x = 0 ∨ x = a) := by
  unfold inF
  by_cases h : x = 0
  · simp [h]
  · by_cases h1 : x = a
    · subst h1; simp [h]
    · simp [h, h1]
theorem sd_kinds (a b : Int) (x : Bal) :
    (¬ (x.1 = 0 ∨ x.1 = a) ∧ ¬ (x.2.1 = 0 ∨ x.2.1 = b) ∧ sdV a b x = .iface 66 (.agg #[])) ∨
    (¬ (x.1 = 0 ∨ x.1 = a) ∧ (x.2.1 = 0 ∨ x.2.1 = b) ∧ ∃ v, sdV a b x = .iface 56 (.int .i64 v)) ∨
    ((x.1 = 0 ∨ x.1 = a) ∧ ¬ (x.2.1 = 0 ∨ x.2.1 = b) ∧ ∃ u, sdV a b x = .iface 55 (.int .i64 u)) ∨
    ((x.1 = 0 ∨ x.1 = a) ∧ (x.2.1 = 0 ∨ x.2.1 = b) ∧ ∃ u v, sdV a b x = .iface 58 (.agg #[.int .i64 u, .int .i64 v])) := by
  have e : ∀ p : Prop, ¬ ¬ p → p := fun p h => Classical.byContradiction h
  rcases sd_cases (inF x.1 a) (inF x.2.1 b) x with ⟨h1, h2, h3, -⟩ | ⟨h1, h2, h3, -⟩ | ⟨h1, h2, h3, -⟩ | ⟨h1, h2, h3, -⟩ <;> rw [in_zero] at h1 h2
  · exact .inl ⟨h1, h2, h3⟩
  · exact .inr (.inl ⟨h1, e _ h2, _, h3⟩)
  · exact .inr (.inr (.inl ⟨e _ h1, h2, _, h3⟩))
  · exact .inr (.inr (.inr ⟨e _ h1, e _ h2, _, _, h3⟩))
set_option maxHeartbeats 4000000 in
theorem bo_impl (a b : Int) (x : Bal) (w : World) (fa : mx.i64 a) (fb : mx.i64 b) (fx : mx.Fit x) :
    Calls Try.prog 15 #[.int .i64 a, .int .i64 b, bv x] w fun e w' => e = .returned (.tuple #[.int .i64 (boX a b x), .int .i64 (boY a b x)]) ∧ Below w.heap.size w w' := by
  have OK := Lib.hid (fun w => ok_impl a b x w fa fb fx)
  have PE := Lib.hid (fun w => pe_impl a b w fa.1 fa.2 fb.1 fb.2)
  clear fa fb fx
  have A0 := Lib.hid (Arr.new w (V (be x)) 24 rfl)
  have B0 : Hid (∀ a, Below w.heap.size w (w.alloc a)) := Lib.hid (fun a => (Below.refl _ _).alloc (Nat.le_refl _) _)
  rw [bvV x]
  go_enter Try.func15, Try.ntmps15
  go_wp2_with (refine wpList_load_row rfl 24 _ rfl w.heap.size rfl 24 (V (be x)).toArray (0, 0) _ A0.out Try.underlying24 rfl (sizeB x) ?_)
  rw [← bvV x]
  refine (OK.out _).mono ?_
  rintro e w1 ⟨rfl, b1⟩
  have A2 := Lib.hid (A0.out.keep b1 A0.out.lt)
  have B1 : Hid (Below w.heap.size w w1) := Lib.hid ((B0.out _).trans (b1.mono (by simp)))
  clear b1 B0 A0 OK
  cases h : blB a b x
  · have HX : Hid (boX a b x = 0) := Lib.hid (by unfold boX; rw [h]; rfl)
    have HY : Hid (boY a b x = 0) := Lib.hid (by unfold boY; rw [h]; rfl)
    clear h
    go_wp2_with fail
    go_ret2
    exact ⟨by rw [HX.out, HY.out]; rfl, B1.out⟩
  have HO := Lib.hid (fun j => sm_of (it_ok h j))
  have HX : Hid (boX a b x = (sdN a b x (peF a b).toNat : Int)) := Lib.hid (by unfold boX; rw [h]; rfl)
  have HY : Hid (boY a b x = (enN a b x (peF a b).toNat : Int)) := Lib.hid (by unfold boY; rw [h]; rfl)
  have PB := pe_bnd a b
  clear h
  go_wp2_with fail
  refine (PE.out _).mono ?_
  rintro e w2 ⟨rfl, b2⟩
  replace A2 := Lib.hid (A2.out.keep b2 A2.out.lt)
  replace B1 := Lib.hid (B1.out.trans (b2.mono B1.out.size))
  clear b2 PE
  obtain ⟨P, hP⟩ := Int.eq_ofNat_of_zero_le PB.1
  rw [hP] at PB HX HY ⊢
  rw [Int.toNat_natCast] at HX HY
  clear hP
  go_wp2_with fail
  go_loopw [8, 9, 18] (fun sv ev kv wr => ∃ j : Nat, j ≤ P ∧ sv = .int .i64 (sdN a b x j) ∧ ev = .int .i64 (enN a b x j) ∧ kv = .int .i64 j ∧ Hid (Arr wr w.heap.size (V (be (itB a b x j))) 24) ∧ Hid (Below w.heap.size w wr)) (fun _ _ kv _ => P - (intOf kv).toNat)
  case atStart => exact ⟨0, Nat.zero_le _, rfl, rfl, rfl, A2, B1⟩
  case round =>
    clear A2 B1
    obtain ⟨j, hj, rfl, rfl, rfl, A2, B1⟩ := hrel
    have s0 := sdN_le a b x j; have e0 := enN_le a b x j
    by_cases hlt : j < P
    · have SJ := Lib.hid (HO.out j)
      have NX : Hid (stF a b (itB a b x j) = itB a b x (j + 1)) := Lib.hid rfl
      have SN : Hid (sdN a b x (j + 1) = sdN a b x j + (if (itB a b x (j + 1)).1 = 0 ∨ (itB a b x (j + 1)).1 = a then 1 else 0)) := Lib.hid rfl
      have EN : Hid (enN a b x (j + 1) = enN a b x j + (if (itB a b x (j + 1)).2.1 = 0 ∨ (itB a b x (j + 1)).2.1 = b then 1 else 0)) := Lib.hid rfl
      obtain ⟨y, hy⟩ : ∃ y, y = itB a b x j := ⟨_, rfl⟩
      rw [← hy] at SJ NX A2
      clear hy
      generalize sdN a b x j = sj at *
      generalize enN a b x j = ej at *
      go_wp2_with (refine wpList_load_row rfl 24 (.tmp 5) rfl w.heap.size rfl 24 (V (be y)).toArray (0, 0) _ A2.out Try.underlying24 rfl (sizeB y) ?_)
      rw [← bvV y]
      refine (as_impl a b y _ SJ.out).mono ?_
      rintro e w2 ⟨rfl, b2⟩
      replace A2 := Lib.hid (A2.out.keep b2 A2.out.lt)
      replace B1 := Lib.hid (B1.out.trans (b2.mono B1.out.size))
      clear b2
      rw [NX.out, bvV]
      obtain ⟨z, hz⟩ : ∃ z, z = itB a b x (j + 1) := ⟨_, rfl⟩
      rw [← hz] at SN EN ⊢
      have HZ := Lib.hid hz; clear hz NX
      have AZ := Lib.hid (A2.out.row (cs' := V (be z)))
      have BZ := Lib.hid (below_setRow B1.out (Nat.le_refl _) (V (be z)).toArray)
      have wj : IntKind.i64.wrap ((sj : Int) + 1) = (sj : Int) + 1 := IntWalk.i64_in _ (by omega)
      have we : IntKind.i64.wrap ((ej : Int) + 1) = (ej : Int) + 1 := IntWalk.i64_in _ (by omega)
      go_wp2_with (first | (refine wpList_store_row rfl 24 _ _ rfl w.heap.size (V (be z)).toArray rfl rfl 24 (V (be y)).toArray A2.out (sizeB _) rfl (one_V _) ?_) | (refine wpList_load_row rfl 24 (.tmp 5) rfl w.heap.size rfl 24 (V (be z)).toArray (0, 0) _ AZ.out Try.underlying24 rfl (sizeB z) ?_))
      rw [← bvV z]
      refine (sd_impl a b z _).mono ?_
      rintro e w3 ⟨rfl, b2⟩
      replace AZ := Lib.hid (AZ.out.keep b2 AZ.out.lt)
      replace BZ := Lib.hid (BZ.out.trans (b2.mono BZ.out.size))
      clear b2 A2 B1
      rcases sd_kinds a b z with ⟨h1, h2, hs⟩ | ⟨h1, h2, v, hs⟩ | ⟨h1, h2, u, hs⟩ | ⟨h1, h2, u, v, hs⟩
      · rw [hs]
        have SN1 : Hid (((sdN a b x (j + 1) : Nat) : Int) = (sj : Int)) := Lib.hid (by rw [SN.out, if_neg h1]; omega)
        have EN1 : Hid (((enN a b x (j + 1) : Nat) : Int) = (ej : Int)) := Lib.hid (by rw [EN.out, if_neg h2]; omega)
        clear SN EN hs h1 h2
        have ft0 := tx_no_up
        have ft1 := tx_no_lv
        have ft2 := tx_no_co
        go_wp2_with fail
        go_roundw
        case rel => exact ⟨j + 1, by omega, by rw [SN1.out], by rw [EN1.out], by go_num, by rw [← HZ.out]; exact AZ, BZ⟩
        case measure => first | (simp [intOf]; done) | (simp [intOf]; omega)
      · rw [hs]
        have SN1 : Hid (((sdN a b x (j + 1) : Nat) : Int) = (sj : Int)) := Lib.hid (by rw [SN.out, if_neg h1]; omega)
        have EN1 : Hid (((enN a b x (j + 1) : Nat) : Int) = (ej : Int) + 1) := Lib.hid (by rw [EN.out, if_pos h2]; omega)
        clear SN EN hs h1 h2
        have ft0 := tx_lv_up
        have ft1 := ty_lv
        go_wp2_with fail
        go_roundw
        case rel => exact ⟨j + 1, by omega, by rw [SN1.out], by rw [EN1.out], by go_num, by rw [← HZ.out]; exact AZ, BZ⟩
        case measure => first | (simp [intOf]; done) | (simp [intOf]; omega)
      · rw [hs]
        have SN1 : Hid (((sdN a b x (j + 1) : Nat) : Int) = (sj : Int) + 1) := Lib.hid (by rw [SN.out, if_pos h1]; omega)
        have EN1 : Hid (((enN a b x (j + 1) : Nat) : Int) = (ej : Int)) := Lib.hid (by rw [EN.out, if_neg h2]; omega)
        clear SN EN hs h1 h2
        have ft0 := ty_up
        go_wp2_with fail
        go_roundw
        case rel => exact ⟨j + 1, by omega, by rw [SN1.out], by rw [EN1.out], by go_num, by rw [← HZ.out]; exact AZ, BZ⟩
        case measure => first | (simp [intOf]; done) | (simp [intOf]; omega)
      · rw [hs]
        have SN1 : Hid (((sdN a b x (j + 1) : Nat) : Int) = (sj : Int) + 1) := Lib.hid (by rw [SN.out, if_pos h1]; omega)
        have EN1 : Hid (((enN a b x (j + 1) : Nat) : Int) = (ej : Int) + 1) := Lib.hid (by rw [EN.out, if_pos h2]; omega)
        clear SN EN hs h1 h2
        have ft0 := tx_co_up
        have ft1 := tx_co_lv
        have ft2 := ty_co
        go_wp2_with fail
        go_roundw
        case rel => exact ⟨j + 1, by omega, by rw [SN1.out], by rw [EN1.out], by go_num, by rw [← HZ.out]; exact AZ, BZ⟩
        case measure => first | (simp [intOf]; done) | (simp [intOf]; omega)
    · obtain rfl : j = P := by omega
      go_wp2_with fail
      go_ret2
      exact ⟨by rw [HX.out, HY.out]; rfl, B1.out⟩
set_option maxHeartbeats 4000000 in
theorem sc_impl (a b : Int) (x : Bal) (w : World) (fa : mx.i64 a) (fb : mx.i64 b) (fx : mx.Fit x) :
    Calls Try.prog 27 #[.int .i64 a, .int .i64 b, bv x] w fun e w' => e = .returned (.int .i64 (scF a b x)) ∧ Below w.heap.size w w' := by
  have OK := Lib.hid (fun w => ok_impl a b x w fa fb fx)
  have PE := Lib.hid (fun w => pe_impl a b w fa.1 fa.2 fb.1 fb.2)
  clear fa fb fx
  have A0 := Lib.hid (Arr.new w (V (be x)) 24 rfl)
  have B0 : Hid (∀ a, Below w.heap.size w (w.alloc a)) := Lib.hid (fun a => (Below.refl _ _).alloc (Nat.le_refl _) _)
  rw [bvV x]
  go_enter Try.func27, Try.ntmps27
  go_wp2_with (refine wpList_load_row rfl 24 _ rfl w.heap.size rfl 24 (V (be x)).toArray (0, 0) _ A0.out Try.underlying24 rfl (sizeB x) ?_)
  rw [← bvV x]
  refine (OK.out _).mono ?_
  rintro e w1 ⟨rfl, b1⟩
  have A2 := Lib.hid (A0.out.keep b1 A0.out.lt)
  have B1 : Hid (Below w.heap.size w w1) := Lib.hid ((B0.out _).trans (b1.mono (by simp)))
  clear b1 B0 A0 OK
  cases h : blB a b x
  · have HX : Hid (scF a b x = -1) := Lib.hid (by unfold scF; rw [h]; rfl)
    clear h
    go_wp2_with fail
    go_ret
    exact ⟨by rw [HX.out]; rfl, B1.out⟩
  have HO := Lib.hid (fun j => sm_of (it_ok h j))
  have HX : Hid (scF a b x = fcN a b x (peF a b).toNat 0) := Lib.hid (by unfold scF; rw [h]; rfl)
  have PB := pe_bnd a b
  clear h
  go_wp2_with fail
  refine (PE.out _).mono ?_
  rintro e w2 ⟨rfl, b2⟩
  replace A2 := Lib.hid (A2.out.keep b2 A2.out.lt)
  replace B1 := Lib.hid (B1.out.trans (b2.mono B1.out.size))
  clear b2 PE
  obtain ⟨P, hP⟩ := Int.eq_ofNat_of_zero_le PB.1
  rw [hP] at PB HX ⊢
  rw [Int.toNat_natCast] at HX
  clear hP
  go_wp2_with fail
  go_loopw [18] (fun kv wr => ∃ j : Nat, j ≤ P ∧ kv = .int .i64 j ∧ Hid (Arr wr w.heap.size (V (be (itB a b x j))) 24) ∧ Hid (Below w.heap.size w wr) ∧ Hid (scF a b x = fcN a b x (P - j) j)) (fun kv _ => P - (intOf kv).toNat)
  case atStart => exact ⟨0, Nat.zero_le _, rfl, A2, B1, by rw [Nat.sub_zero]; exact HX⟩
  case round =>
    clear A2 B1 HX
    obtain ⟨j, hj, rfl, A2, B1, HX⟩ := hrel
    by_cases hlt : j < P
    · obtain ⟨q, hq⟩ : ∃ q, P - j = q + 1 := ⟨P - j - 1, by omega⟩
      have hq2 : P - (j + 1) = q := by omega
      have SJ := Lib.hid (HO.out j)
      have NX : Hid (stF a b (itB a b x j) = itB a b x (j + 1)) := Lib.hid rfl
      have FS := Lib.hid (fc_step a b x q j)
      rw [hq] at HX
      obtain ⟨y, hy⟩ : ∃ y, y = itB a b x j := ⟨_, rfl⟩
      rw [← hy] at SJ NX A2 FS
      clear hy
      go_wp2_with (refine wpList_load_row rfl 24 (.tmp 5) rfl w.heap.size rfl 24 (V (be y)).toArray (0, 0) _ A2.out Try.underlying24 rfl (sizeB y) ?_)
      rw [← bvV y]
      refine (sd_impl a b y _).mono ?_
      rintro e w3 ⟨rfl, b2⟩
      replace A2 := Lib.hid (A2.out.keep b2 A2.out.lt)
      replace B1 := Lib.hid (B1.out.trans (b2.mono B1.out.size))
      clear b2
      have B2 : Hid (∀ o, Below w.heap.size w (w3.alloc o)) := Lib.hid (fun o => B1.out.alloc B1.out.size o)
      have A3 : Hid (∀ o, Arr (w3.alloc o) w.heap.size (V (be y)) 24) := Lib.hid (fun o => A2.out.alloc o)
      rcases sd_kinds a b y with ⟨h1, h2, hs⟩ | ⟨h1, h2, v, hs⟩ | ⟨h1, h2, u, hs⟩ | ⟨h1, h2, u, v, hs⟩
      · rw [hs]
        have NO : Hid (scF a b x = fcN a b x (P - (j + 1)) (j + 1)) := Lib.hid (by rw [HX.out, FS.out, if_neg (by simp only [cnB, Bool.and_eq_true, decide_eq_true_eq]; exact fun hh => h1 hh.1), hq2])
        clear HX FS hs h1 h2
        have ft := tx_no_co
        go_wp2_with (refine wpList_load_row rfl 24 (.tmp 5) rfl w.heap.size rfl 24 (V (be y)).toArray (0, 0) _ (A3.out _) Try.underlying24 rfl (sizeB y) ?_)
        rw [← bvV y]
        refine (as_impl a b y _ SJ.out).mono ?_
        rintro e w4 ⟨rfl, b2⟩
        have A4 := Lib.hid ((A3.out _).keep b2 (A3.out _).lt)
        have B4 := Lib.hid ((B2.out _).trans (b2.mono (B2.out _).size))
        clear b2 A2 B1
        rw [NX.out, bvV]
        obtain ⟨z, hz⟩ : ∃ z, z = itB a b x (j + 1) := ⟨_, rfl⟩
        rw [← hz]
        have HZ := Lib.hid hz; clear hz NX
        go_wp2_with (refine wpList_store_row rfl 24 _ _ rfl w.heap.size (V (be z)).toArray rfl rfl 24 (V (be y)).toArray A4.out (sizeB _) rfl (one_V _) ?_)
        go_roundw
        case rel => exact ⟨j + 1, by omega, by go_num, by rw [← HZ.out]; exact Lib.hid A4.out.row, Lib.hid (below_setRow B4.out (Nat.le_refl _) _), NO⟩
        case measure => first | (simp [intOf]; done) | (simp [intOf]; omega)
      · rw [hs]
        have NO : Hid (scF a b x = fcN a b x (P - (j + 1)) (j + 1)) := Lib.hid (by rw [HX.out, FS.out, if_neg (by simp only [cnB, Bool.and_eq_true, decide_eq_true_eq]; exact fun hh => h1 hh.1), hq2])
        clear HX FS hs h1 h2
        have ft := tx_lv_co
        go_wp2_with (refine wpList_load_row rfl 24 (.tmp 5) rfl w.heap.size rfl 24 (V (be y)).toArray (0, 0) _ (A3.out _) Try.underlying24 rfl (sizeB y) ?_)
        rw [← bvV y]
        refine (as_impl a b y _ SJ.out).mono ?_
        rintro e w4 ⟨rfl, b2⟩
        have A4 := Lib.hid ((A3.out _).keep b2 (A3.out _).lt)
        have B4 := Lib.hid ((B2.out _).trans (b2.mono (B2.out _).size))
        clear b2 A2 B1
        rw [NX.out, bvV]
        obtain ⟨z, hz⟩ : ∃ z, z = itB a b x (j + 1) := ⟨_, rfl⟩
        rw [← hz]
        have HZ := Lib.hid hz; clear hz NX
        go_wp2_with (refine wpList_store_row rfl 24 _ _ rfl w.heap.size (V (be z)).toArray rfl rfl 24 (V (be y)).toArray A4.out (sizeB _) rfl (one_V _) ?_)
        go_roundw
        case rel => exact ⟨j + 1, by omega, by go_num, by rw [← HZ.out]; exact Lib.hid A4.out.row, Lib.hid (below_setRow B4.out (Nat.le_refl _) _), NO⟩
        case measure => first | (simp [intOf]; done) | (simp [intOf]; omega)
      · rw [hs]
        have NO : Hid (scF a b x = fcN a b x (P - (j + 1)) (j + 1)) := Lib.hid (by rw [HX.out, FS.out, if_neg (by simp only [cnB, Bool.and_eq_true, decide_eq_true_eq]; exact fun hh => h2 hh.2), hq2])
        clear HX FS hs h1 h2
        have ft := tx_up_co
        go_wp2_with (refine wpList_load_row rfl 24 (.tmp 5) rfl w.heap.size rfl 24 (V (be y)).toArray (0, 0) _ (A3.out _) Try.underlying24 rfl (sizeB y) ?_)
        rw [← bvV y]
        refine (as_impl a b y _ SJ.out).mono ?_
        rintro e w4 ⟨rfl, b2⟩
        have A4 := Lib.hid ((A3.out _).keep b2 (A3.out _).lt)
        have B4 := Lib.hid ((B2.out _).trans (b2.mono (B2.out _).size))
        clear b2 A2 B1
        rw [NX.out, bvV]
        obtain ⟨z, hz⟩ : ∃ z, z = itB a b x (j + 1) := ⟨_, rfl⟩
        rw [← hz]
        have HZ := Lib.hid hz; clear hz NX
        go_wp2_with (refine wpList_store_row rfl 24 _ _ rfl w.heap.size (V (be z)).toArray rfl rfl 24 (V (be y)).toArray A4.out (sizeB _) rfl (one_V _) ?_)
        go_roundw
        case rel => exact ⟨j + 1, by omega, by go_num, by rw [← HZ.out]; exact Lib.hid A4.out.row, Lib.hid (below_setRow B4.out (Nat.le_refl _) _), NO⟩
        case measure => first | (simp [intOf]; done) | (simp [intOf]; omega)
      · rw [hs]
        have YES : Hid (scF a b x = (j : Int)) := Lib.hid (by rw [HX.out, FS.out, if_pos (by simp [cnB, h1, h2])])
        clear HX FS hs h1 h2
        have ft := ty_co
        go_wp2_with fail
        go_ret
        exact ⟨by rw [YES.out]; rfl, B2.out _⟩
    · obtain rfl : j = P := by omega
      have hz : j - j = 0 := by omega
      rw [hz] at HX
      have HX2 : Hid (scF a b x = -1) := Lib.hid HX.out
      clear HX
      go_wp2_with fail
      go_ret
      exact ⟨by rw [HX2.out]; rfl, B1.out⟩
end Go.Proofs.Ytajkfkpnjbkhhaa.bal
