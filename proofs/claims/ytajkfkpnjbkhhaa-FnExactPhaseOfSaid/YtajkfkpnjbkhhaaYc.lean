/-
  The specification's BallAfter, BouncesIn, StepsToCorner.
-/
import Derived.Test.YtajkfkpnjbkhhaaYb
namespace Go.Proofs.Ytajkfkpnjbkhhaa.bal
open Go.ChangeShapes Go.WideShapes Go.ChangeAt Go.RowKit
open Go.Proofs.Ytajkfkpnjbkhhaa.mem Go.Proofs.Ytajkfkpnjbkhhaa.ints Go.Proofs.Ytajkfkpnjbkhhaa.arr Go.Proofs.Ytajkfkpnjbkhhaa.pm Go.Proofs.Ytajkfkpnjbkhhaa.permOk Go.Proofs.Ytajkfkpnjbkhhaa.sf
set_option linter.unusedVariables false
set_option maxRecDepth 100000
set_option linter.unusedSimpArgs false
def afB (a b : Int) (x : Bal) (k : Int) : Bool := blB a b x && decide (0 ≤ k ∧ k ≤ 10000)
def afF (a b : Int) (x : Bal) (k : Int) : Bal := if afB a b x k then itB a b x k.toNat else (0, 0, 0, 0)
def sdN (a b : Int) (x : Bal) : Nat → Nat
  | 0 => 0
  | j + 1 => sdN a b x j + (if (itB a b x (j + 1)).1 = 0 ∨ (itB a b x (j + 1)).1 = a then 1 else 0)
def enN (a b : Int) (x : Bal) : Nat → Nat
  | 0 => 0
  | j + 1 => enN a b x j + (if (itB a b x (j + 1)).2.1 = 0 ∨ (itB a b x (j + 1)).2.1 = b then 1 else 0)
theorem sdN_le (a b : Int) (x : Bal) : ∀ j, sdN a b x j ≤ j
  | 0 => Nat.le_refl _
  | j + 1 => by have := sdN_le a b x j; unfold sdN; split <;> omega
theorem enN_le (a b : Int) (x : Bal) : ∀ j, enN a b x j ≤ j
  | 0 => Nat.le_refl _
  | j + 1 => by have := enN_le a b x j; unfold enN; split <;> omega
def boX (a b : Int) (x : Bal) : Int := if blB a b x then (sdN a b x (peF a b).toNat : Int) else 0
def boY (a b : Int) (x : Bal) : Int := if blB a b x then (enN a b x (peF a b).toNat : Int) else 0
def cnB (a b : Int) (y : Bal) : Bool := decide (y.1 = 0 ∨ y.1 = a) && decide (y.2.1 = 0 ∨ y.2.1 = b)
def fcN (a b : Int) (x : Bal) : Nat → Nat → Int
  | 0, _ => -1
  | f + 1, k => if cnB a b (itB a b x k) then (k : Int) else fcN a b x f (k + 1)
def scF (a b : Int) (x : Bal) : Int := if blB a b x then fcN a b x (peF a b).toNat 0 else -1
theorem cells_B {w : World} {g : Nat} {z : Bal} {t : TypeId} (h : Arr w g (V (be z)) t) : w.cell? ⟨g, 0, none⟩ = some (.int .i64 z.1) ∧ w.cell? ⟨g, 1, none⟩ = some (.int .i64 z.2.1) ∧ w.cell? ⟨g, 2, none⟩ = some (.int .i64 z.2.2.1) ∧ w.cell? ⟨g, 3, none⟩ = some (.int .i64 z.2.2.2) :=
  ⟨h.cell rfl, h.cell rfl, h.cell rfl, h.cell rfl⟩

set_option maxHeartbeats 4000000 in
theorem af_spec (a b : Int) (x : Bal) (k : Int) (w : World) (k0 : -9223372036854775808 ≤ k) (k1 : k ≤ 9223372036854775807) : Calls Try.prog 23 #[.int .i64 a, .int .i64 b, bv x, .int .i64 k] w fun e w' => e = .returned (.tuple #[bv (afF a b x k), .bool (afB a b x k)]) ∧ Below w.heap.size w w' := by
  have N0 := Lib.hid (fun o => Arr.new (w.alloc o) (V (be (0, 0, 0, 0))) 24 (g := w.heap.size + 1) (by simp))
  have A0 := Lib.hid ((Arr.new w (V (be x)) 24 rfl).alloc (.cells (V (be (0, 0, 0, 0))).toArray 24))
  have B0 : Hid (∀ a b, Below w.heap.size w ((w.alloc a).alloc b)) := Lib.hid (fun a b => ((Below.refl _ _).alloc (Nat.le_refl _) _).alloc (by simp) _)
  rw [bvV x]
  go_enter Try.func23, Try.ntmps23
  go_wp2_with (refine wpList_load_row rfl 24 _ rfl w.heap.size rfl 24 (V (be x)).toArray (0, 0) _ A0.out Try.underlying24 rfl (sizeB x) ?_)
  rw [← bvV x]
  refine (ok_spec a b x _).mono ?_
  rintro e w1 ⟨rfl, b1⟩
  have A1 := Lib.hid ((N0.out _).keep b1 (by simp))
  have A2 := Lib.hid (A0.out.keep b1 (by simp; omega))
  have B1 : Hid (Below w.heap.size w w1) := Lib.hid ((B0.out _ _).trans (b1.mono (by simp; omega)))
  clear b1 N0 B0 A0
  cases h : blB a b x
  · have HT : Hid (afB a b x k = false) := Lib.hid (by unfold afB; rw [h]; rfl)
    have HF : Hid (afF a b x k = (0, 0, 0, 0)) := Lib.hid (by unfold afF; rw [HT.out]; rfl)
    clear h
    go_wp2_with (refine wpList_store_row rfl 24 _ _ rfl (w.heap.size + 1) (V (be (0, 0, 0, 0))).toArray rfl rfl 24 (V (be (0, 0, 0, 0))).toArray A1.out (sizeB _) rfl (one_V _) ?_)
    exact bodyPost_ret (v := .tuple #[bv (0, 0, 0, 0), .bool false]) (permOf.results_cell_tmp rfl _ _ (w.heap.size + 1) 24 (V (be (0, 0, 0, 0))).toArray (0, 0) _ _ rfl rfl A1.out.row Try.underlying24 rfl (sizeB _)) rfl ⟨by rw [HF.out, HT.out], below_setRow B1.out (by omega) _⟩
  by_cases hk : 0 ≤ k ∧ k ≤ 10000
  · have HT : Hid (afB a b x k = true) := Lib.hid (by unfold afB; rw [h, decide_eq_true hk]; rfl)
    obtain ⟨K, rfl⟩ := Int.eq_ofNat_of_zero_le hk.1
    have HF : Hid (afF a b x (K : Int) = itB a b x K) := Lib.hid (by unfold afF; rw [if_pos HT.out, Int.toNat_natCast])
    have HO := Lib.hid (fun j => sm_of (it_ok h j))
    clear h
    go_wp2_with fail
    refine (permOk.in_yes _ _ _ _ (by omega) (by omega)).mono ?_
    rintro e w' ⟨rfl, rfl⟩
    go_wp2_with fail
    go_loopw [10] (fun iv wr => ∃ j : Nat, j ≤ K ∧ iv = .int .i64 j ∧ Hid (Arr wr w.heap.size (V (be (itB a b x j))) 24) ∧ Hid (Arr wr (w.heap.size + 1) (V (be (0, 0, 0, 0))) 24) ∧ Hid (Below w.heap.size w wr)) (fun iv _ => K - (intOf iv).toNat)
    case atStart => exact ⟨0, Nat.zero_le _, rfl, A2, A1, B1⟩
    case round =>
      clear A1 A2 B1
      obtain ⟨j, hj, rfl, A2, A1, B1⟩ := hrel
      have SJ := Lib.hid (HO.out j)
      have NX : Hid (stF a b (itB a b x j) = itB a b x (j + 1)) := Lib.hid rfl
      by_cases hlt : j < K
      · obtain ⟨y, hy⟩ : ∃ y, y = itB a b x j := ⟨_, rfl⟩
        rw [← hy] at SJ NX A2
        clear hy
        go_wp2_with (refine wpList_load_row rfl 24 _ rfl w.heap.size rfl 24 (V (be y)).toArray (0, 0) _ A2.out Try.underlying24 rfl (sizeB y) ?_)
        rw [← bvV y]
        refine (step_spec a b y _ SJ.out).mono ?_
        rintro e w2 ⟨rfl, b2⟩
        replace A1 := Lib.hid (A1.out.keep b2 A1.out.lt)
        replace A2 := Lib.hid (A2.out.keep b2 A2.out.lt)
        replace B1 := Lib.hid (B1.out.trans (b2.mono B1.out.size))
        clear b2
        rw [NX.out, bvV]
        obtain ⟨z, hz⟩ : ∃ z, z = itB a b x (j + 1) := ⟨_, rfl⟩
        rw [← hz]
        have HZ := Lib.hid hz; clear hz NX
        go_wp2_with (refine wpList_store_row rfl 24 _ _ rfl w.heap.size (V (be z)).toArray rfl rfl 24 (V (be y)).toArray A2.out (sizeB _) rfl (one_V _) ?_)
        go_roundw
        case rel => exact ⟨j + 1, by omega, by go_num, by rw [← HZ.out]; exact Lib.hid A2.out.row, Lib.hid (A1.out.rowOther (by omega)), Lib.hid (below_setRow B1.out (Nat.le_refl _) _)⟩
        case measure => first | (simp [intOf]; done) | (simp [intOf]; omega)
      · obtain rfl : j = K := by omega
        rw [← HF.out] at A2
        obtain ⟨y, hy⟩ : ∃ y, y = afF a b x (j : Int) := ⟨_, rfl⟩
        rw [← hy] at A2
        have HY := Lib.hid hy
        clear hy SJ NX
        go_wp2_with (first | (refine wpList_load_row rfl 24 (.tmp 6) rfl w.heap.size rfl 24 (V (be y)).toArray (0, 0) _ A2.out Try.underlying24 rfl (sizeB y) ?_) | (refine wpList_store_row rfl 24 _ _ rfl (w.heap.size + 1) (V (be y)).toArray rfl rfl 24 (V (be (0, 0, 0, 0))).toArray A1.out (sizeB _) rfl (one_V _) ?_))
        exact bodyPost_ret (v := .tuple #[bv y, .bool true]) (permOf.results_cell_tmp rfl _ _ (w.heap.size + 1) 24 (V (be y)).toArray (0, 0) _ _ rfl rfl A1.out.row Try.underlying24 rfl (sizeB _)) rfl ⟨by rw [HT.out, HY.out], below_setRow B1.out (by omega) _⟩
  · have HT : Hid (afB a b x k = false) := Lib.hid (by unfold afB; rw [h, decide_eq_false hk]; rfl)
    have HF : Hid (afF a b x k = (0, 0, 0, 0)) := Lib.hid (by unfold afF; rw [HT.out]; rfl)
    clear h
    go_wp2_with fail
    refine (permOk.in_no _ _ _ _ (by omega)).mono ?_
    rintro e w' ⟨rfl, rfl⟩
    go_wp2_with (refine wpList_store_row rfl 24 _ _ rfl (w.heap.size + 1) (V (be (0, 0, 0, 0))).toArray rfl rfl 24 (V (be (0, 0, 0, 0))).toArray A1.out (sizeB _) rfl (one_V _) ?_)
    exact bodyPost_ret (v := .tuple #[bv (0, 0, 0, 0), .bool false]) (permOf.results_cell_tmp rfl _ _ (w.heap.size + 1) 24 (V (be (0, 0, 0, 0))).toArray (0, 0) _ _ rfl rfl A1.out.row Try.underlying24 rfl (sizeB _)) rfl ⟨by rw [HF.out, HT.out], below_setRow B1.out (by omega) _⟩

set_option maxHeartbeats 4000000 in
theorem bo_spec (a b : Int) (x : Bal) (w : World) : Calls Try.prog 25 #[.int .i64 a, .int .i64 b, bv x] w fun e w' => e = .returned (.tuple #[.int .i64 (boX a b x), .int .i64 (boY a b x)]) ∧ Below w.heap.size w w' := by
  have A0 := Lib.hid (Arr.new w (V (be x)) 24 rfl)
  have B0 : Hid (∀ a, Below w.heap.size w (w.alloc a)) := Lib.hid (fun a => (Below.refl _ _).alloc (Nat.le_refl _) _)
  rw [bvV x]
  go_enter Try.func25, Try.ntmps25
  go_wp2_with (refine wpList_load_row rfl 24 _ rfl w.heap.size rfl 24 (V (be x)).toArray (0, 0) _ A0.out Try.underlying24 rfl (sizeB x) ?_)
  rw [← bvV x]
  refine (ok_spec a b x _).mono ?_
  rintro e w1 ⟨rfl, b1⟩
  have A2 := Lib.hid (A0.out.keep b1 A0.out.lt)
  have B1 : Hid (Below w.heap.size w w1) := Lib.hid ((B0.out _).trans (b1.mono (by simp)))
  clear b1 B0 A0
  cases h : blB a b x
  · have HX : Hid (boX a b x = 0) := Lib.hid (by unfold boX; rw [h]; rfl)
    have HY : Hid (boY a b x = 0) := Lib.hid (by unfold boY; rw [h]; rfl)
    clear h
    go_wp2_with fail
    go_ret2
    exact ⟨by rw [HX.out, HY.out]; rfl, B1.out⟩
  have HO := Lib.hid (fun j => sm_of (it_ok h j))
  have HX : Hid (boX a b x = (sdN a b x (peF a b).toNat : Int)) := Lib.hid (by unfold boX; rw [h]; rfl)
  have HY : Hid (boY a b x = (enN a b x (peF a b).toNat : Int)) := Lib.hid (by unfold boY; rw [h]; rfl)
  have PB := pe_bnd a b
  clear h
  go_wp2_with fail
  refine (pe_spec a b _).mono ?_
  rintro e w2 ⟨rfl, b2⟩
  replace A2 := Lib.hid (A2.out.keep b2 A2.out.lt)
  replace B1 := Lib.hid (B1.out.trans (b2.mono B1.out.size))
  clear b2
  obtain ⟨P, hP⟩ := Int.eq_ofNat_of_zero_le PB.1
  rw [hP] at PB HX HY ⊢
  rw [Int.toNat_natCast] at HX HY
  clear hP
  go_wp2_with fail
  go_loopw [8, 9, 10] (fun sv ev kv wr => ∃ j : Nat, j ≤ P ∧ sv = .int .i64 (sdN a b x j) ∧ ev = .int .i64 (enN a b x j) ∧ kv = .int .i64 ((P - j : Nat) : Int) ∧ Hid (Arr wr w.heap.size (V (be (itB a b x j))) 24) ∧ Hid (Below w.heap.size w wr)) (fun _ _ kv _ => (intOf kv).toNat)
  case atStart => exact ⟨0, Nat.zero_le _, rfl, rfl, by simp, A2, B1⟩
  case round =>
    clear A2 B1
    obtain ⟨j, hj, rfl, rfl, rfl, A2, B1⟩ := hrel
    have s0 := sdN_le a b x j; have e0 := enN_le a b x j
    by_cases hlt : j < P
    · obtain ⟨q, hq⟩ : ∃ q, P - j = q + 1 := ⟨P - j - 1, by omega⟩
      have hq2 : P - (j + 1) = q := by omega
      rw [hq, show ((q + 1 : Nat) : Int) = (q : Int) + 1 by omega]
      have d0 : decide ((0 : Int) < (q : Int) + 1) = true := decide_eq_true (by omega)
      have hw : IntKind.i64.wrap ((q : Int) + 1 - 1) = (q : Int) := by rw [IntWalk.i64_in _ (by omega)]; omega
      have hw2 : (q : Int) + 1 - 1 = (q : Int) := by omega
      have hw3 : IntKind.i64.wrap (q : Int) = (q : Int) := IntWalk.i64_in _ (by omega)
      have SJ := Lib.hid (HO.out j)
      have NX : Hid (stF a b (itB a b x j) = itB a b x (j + 1)) := Lib.hid rfl
      have SN : Hid (sdN a b x (j + 1) = sdN a b x j + (if (itB a b x (j + 1)).1 = 0 ∨ (itB a b x (j + 1)).1 = a then 1 else 0)) := Lib.hid rfl
      have EN : Hid (enN a b x (j + 1) = enN a b x j + (if (itB a b x (j + 1)).2.1 = 0 ∨ (itB a b x (j + 1)).2.1 = b then 1 else 0)) := Lib.hid rfl
      obtain ⟨y, hy⟩ : ∃ y, y = itB a b x j := ⟨_, rfl⟩
      rw [← hy] at SJ NX A2
      clear hy
      generalize sdN a b x j = sj at *
      generalize enN a b x j = ej at *
      go_wp2_with (refine wpList_load_row rfl 24 _ rfl w.heap.size rfl 24 (V (be y)).toArray (0, 0) _ A2.out Try.underlying24 rfl (sizeB y) ?_)
      rw [← bvV y]
      refine (step_spec a b y _ SJ.out).mono ?_
      rintro e w2 ⟨rfl, b2⟩
      replace A2 := Lib.hid (A2.out.keep b2 A2.out.lt)
      replace B1 := Lib.hid (B1.out.trans (b2.mono B1.out.size))
      clear b2
      rw [NX.out, bvV]
      obtain ⟨z, hz⟩ : ∃ z, z = itB a b x (j + 1) := ⟨_, rfl⟩
      rw [← hz] at SN EN ⊢
      have HZ := Lib.hid hz; clear hz NX
      obtain ⟨zx, zy, zp, zq⟩ := z
      have AZ := Lib.hid (A2.out.row (cs' := V (be (zx, zy, zp, zq))))
      have BZ := Lib.hid (below_setRow B1.out (Nat.le_refl _) (V (be (zx, zy, zp, zq))).toArray)
      obtain ⟨c0, c1, -, -⟩ := cells_B AZ.out
      dsimp only at c0 c1
      have wj : IntKind.i64.wrap ((sj : Int) + 1) = (sj : Int) + 1 := IntWalk.i64_in _ (by omega)
      have we : IntKind.i64.wrap ((ej : Int) + 1) = (ej : Int) + 1 := IntWalk.i64_in _ (by omega)
      by_cases hzx0 : zx = 0
      · have qzx0 : (zx == 0) = true := by simp [hzx0]
        by_cases hzy0 : zy = 0
        · have qzy0 : (zy == 0) = true := by simp [hzy0]
          have SN1 : Hid (((sdN a b x (j + 1) : Nat) : Int) = (sj : Int) + 1) := Lib.hid (by rw [SN.out, if_pos (.inl hzx0)]; omega)
          have EN1 : Hid (((enN a b x (j + 1) : Nat) : Int) = (ej : Int) + 1) := Lib.hid (by rw [EN.out, if_pos (.inl hzy0)]; omega)
          clear SN EN hzx0 hzy0
          go_wp2_with (refine wpList_store_row rfl 24 _ _ rfl w.heap.size (V (be (zx, zy, zp, zq))).toArray rfl rfl 24 (V (be y)).toArray A2.out (sizeB _) rfl (one_V _) ?_)
          go_roundw
          case rel => exact ⟨j + 1, by omega, by rw [SN1.out], by rw [EN1.out], by rw [hq2], by rw [← HZ.out]; exact AZ, BZ⟩
          case measure => first | (simp [intOf]; done) | (simp [intOf]; omega)
        · have qzy0 : (zy == 0) = false := by simp [hzy0]
          by_cases hzy1 : zy = b
          · have qzy1 : (zy == b) = true := by simp [hzy1]
            have SN1 : Hid (((sdN a b x (j + 1) : Nat) : Int) = (sj : Int) + 1) := Lib.hid (by rw [SN.out, if_pos (.inl hzx0)]; omega)
            have EN1 : Hid (((enN a b x (j + 1) : Nat) : Int) = (ej : Int) + 1) := Lib.hid (by rw [EN.out, if_pos (.inr hzy1)]; omega)
            clear SN EN hzx0 hzy0
            clear hzy1
            go_wp2_with (refine wpList_store_row rfl 24 _ _ rfl w.heap.size (V (be (zx, zy, zp, zq))).toArray rfl rfl 24 (V (be y)).toArray A2.out (sizeB _) rfl (one_V _) ?_)
            go_roundw
            case rel => exact ⟨j + 1, by omega, by rw [SN1.out], by rw [EN1.out], by rw [hq2], by rw [← HZ.out]; exact AZ, BZ⟩
            case measure => first | (simp [intOf]; done) | (simp [intOf]; omega)
          · have qzy1 : (zy == b) = false := by simp [hzy1]
            have SN1 : Hid (((sdN a b x (j + 1) : Nat) : Int) = (sj : Int) + 1) := Lib.hid (by rw [SN.out, if_pos (.inl hzx0)]; omega)
            have EN1 : Hid (((enN a b x (j + 1) : Nat) : Int) = (ej : Int)) := Lib.hid (by rw [EN.out, if_neg (fun h => h.elim hzy0 hzy1)]; omega)
            clear SN EN hzx0 hzy0
            clear hzy1
            go_wp2_with (refine wpList_store_row rfl 24 _ _ rfl w.heap.size (V (be (zx, zy, zp, zq))).toArray rfl rfl 24 (V (be y)).toArray A2.out (sizeB _) rfl (one_V _) ?_)
            go_roundw
            case rel => exact ⟨j + 1, by omega, by rw [SN1.out], by rw [EN1.out], by rw [hq2], by rw [← HZ.out]; exact AZ, BZ⟩
            case measure => first | (simp [intOf]; done) | (simp [intOf]; omega)
      · have qzx0 : (zx == 0) = false := by simp [hzx0]
        by_cases hzx1 : zx = a
        · have qzx1 : (zx == a) = true := by simp [hzx1]
          by_cases hzy0 : zy = 0
          · have qzy0 : (zy == 0) = true := by simp [hzy0]
            have SN1 : Hid (((sdN a b x (j + 1) : Nat) : Int) = (sj : Int) + 1) := Lib.hid (by rw [SN.out, if_pos (.inr hzx1)]; omega)
            have EN1 : Hid (((enN a b x (j + 1) : Nat) : Int) = (ej : Int) + 1) := Lib.hid (by rw [EN.out, if_pos (.inl hzy0)]; omega)
            clear SN EN hzx0 hzy0
            clear hzx1
            go_wp2_with (refine wpList_store_row rfl 24 _ _ rfl w.heap.size (V (be (zx, zy, zp, zq))).toArray rfl rfl 24 (V (be y)).toArray A2.out (sizeB _) rfl (one_V _) ?_)
            go_roundw
            case rel => exact ⟨j + 1, by omega, by rw [SN1.out], by rw [EN1.out], by rw [hq2], by rw [← HZ.out]; exact AZ, BZ⟩
            case measure => first | (simp [intOf]; done) | (simp [intOf]; omega)
          · have qzy0 : (zy == 0) = false := by simp [hzy0]
            by_cases hzy1 : zy = b
            · have qzy1 : (zy == b) = true := by simp [hzy1]
              have SN1 : Hid (((sdN a b x (j + 1) : Nat) : Int) = (sj : Int) + 1) := Lib.hid (by rw [SN.out, if_pos (.inr hzx1)]; omega)
              have EN1 : Hid (((enN a b x (j + 1) : Nat) : Int) = (ej : Int) + 1) := Lib.hid (by rw [EN.out, if_pos (.inr hzy1)]; omega)
              clear SN EN hzx0 hzy0
              clear hzx1
              clear hzy1
              go_wp2_with (refine wpList_store_row rfl 24 _ _ rfl w.heap.size (V (be (zx, zy, zp, zq))).toArray rfl rfl 24 (V (be y)).toArray A2.out (sizeB _) rfl (one_V _) ?_)
              go_roundw
              case rel => exact ⟨j + 1, by omega, by rw [SN1.out], by rw [EN1.out], by rw [hq2], by rw [← HZ.out]; exact AZ, BZ⟩
              case measure => first | (simp [intOf]; done) | (simp [intOf]; omega)
            · have qzy1 : (zy == b) = false := by simp [hzy1]
              have SN1 : Hid (((sdN a b x (j + 1) : Nat) : Int) = (sj : Int) + 1) := Lib.hid (by rw [SN.out, if_pos (.inr hzx1)]; omega)
              have EN1 : Hid (((enN a b x (j + 1) : Nat) : Int) = (ej : Int)) := Lib.hid (by rw [EN.out, if_neg (fun h => h.elim hzy0 hzy1)]; omega)
              clear SN EN hzx0 hzy0
              clear hzx1
              clear hzy1
              go_wp2_with (refine wpList_store_row rfl 24 _ _ rfl w.heap.size (V (be (zx, zy, zp, zq))).toArray rfl rfl 24 (V (be y)).toArray A2.out (sizeB _) rfl (one_V _) ?_)
              go_roundw
              case rel => exact ⟨j + 1, by omega, by rw [SN1.out], by rw [EN1.out], by rw [hq2], by rw [← HZ.out]; exact AZ, BZ⟩
              case measure => first | (simp [intOf]; done) | (simp [intOf]; omega)
        · have qzx1 : (zx == a) = false := by simp [hzx1]
          by_cases hzy0 : zy = 0
          · have qzy0 : (zy == 0) = true := by simp [hzy0]
            have SN1 : Hid (((sdN a b x (j + 1) : Nat) : Int) = (sj : Int)) := Lib.hid (by rw [SN.out, if_neg (fun h => h.elim hzx0 hzx1)]; omega)
            have EN1 : Hid (((enN a b x (j + 1) : Nat) : Int) = (ej : Int) + 1) := Lib.hid (by rw [EN.out, if_pos (.inl hzy0)]; omega)
            clear SN EN hzx0 hzy0
            clear hzx1
            go_wp2_with (refine wpList_store_row rfl 24 _ _ rfl w.heap.size (V (be (zx, zy, zp, zq))).toArray rfl rfl 24 (V (be y)).toArray A2.out (sizeB _) rfl (one_V _) ?_)
            go_roundw
            case rel => exact ⟨j + 1, by omega, by rw [SN1.out], by rw [EN1.out], by rw [hq2], by rw [← HZ.out]; exact AZ, BZ⟩
            case measure => first | (simp [intOf]; done) | (simp [intOf]; omega)
          · have qzy0 : (zy == 0) = false := by simp [hzy0]
            by_cases hzy1 : zy = b
            · have qzy1 : (zy == b) = true := by simp [hzy1]
              have SN1 : Hid (((sdN a b x (j + 1) : Nat) : Int) = (sj : Int)) := Lib.hid (by rw [SN.out, if_neg (fun h => h.elim hzx0 hzx1)]; omega)
              have EN1 : Hid (((enN a b x (j + 1) : Nat) : Int) = (ej : Int) + 1) := Lib.hid (by rw [EN.out, if_pos (.inr hzy1)]; omega)
              clear SN EN hzx0 hzy0
              clear hzx1
              clear hzy1
              go_wp2_with (refine wpList_store_row rfl 24 _ _ rfl w.heap.size (V (be (zx, zy, zp, zq))).toArray rfl rfl 24 (V (be y)).toArray A2.out (sizeB _) rfl (one_V _) ?_)
              go_roundw
              case rel => exact ⟨j + 1, by omega, by rw [SN1.out], by rw [EN1.out], by rw [hq2], by rw [← HZ.out]; exact AZ, BZ⟩
              case measure => first | (simp [intOf]; done) | (simp [intOf]; omega)
            · have qzy1 : (zy == b) = false := by simp [hzy1]
              have SN1 : Hid (((sdN a b x (j + 1) : Nat) : Int) = (sj : Int)) := Lib.hid (by rw [SN.out, if_neg (fun h => h.elim hzx0 hzx1)]; omega)
              have EN1 : Hid (((enN a b x (j + 1) : Nat) : Int) = (ej : Int)) := Lib.hid (by rw [EN.out, if_neg (fun h => h.elim hzy0 hzy1)]; omega)
              clear SN EN hzx0 hzy0
              clear hzx1
              clear hzy1
              go_wp2_with (refine wpList_store_row rfl 24 _ _ rfl w.heap.size (V (be (zx, zy, zp, zq))).toArray rfl rfl 24 (V (be y)).toArray A2.out (sizeB _) rfl (one_V _) ?_)
              go_roundw
              case rel => exact ⟨j + 1, by omega, by rw [SN1.out], by rw [EN1.out], by rw [hq2], by rw [← HZ.out]; exact AZ, BZ⟩
              case measure => first | (simp [intOf]; done) | (simp [intOf]; omega)
    · obtain rfl : j = P := by omega
      have hz : j - j = 0 := by omega
      rw [hz]
      go_wp2_with fail
      go_ret2
      exact ⟨by rw [HX.out, HY.out]; rfl, B1.out⟩

theorem fc_step (a b : Int) (x : Bal) (f k : Nat) : fcN a b x (f + 1) k = if cnB a b (itB a b x k) then (k : Int) else fcN a b x f (k + 1) := rfl
set_option maxHeartbeats 4000000 in
theorem sc_spec (a b : Int) (x : Bal) (w : World) : Calls Try.prog 26 #[.int .i64 a, .int .i64 b, bv x] w fun e w' => e = .returned (.int .i64 (scF a b x)) ∧ Below w.heap.size w w' := by
  have A0 := Lib.hid (Arr.new w (V (be x)) 24 rfl)
  have B0 : Hid (∀ a, Below w.heap.size w (w.alloc a)) := Lib.hid (fun a => (Below.refl _ _).alloc (Nat.le_refl _) _)
  rw [bvV x]
  go_enter Try.func26, Try.ntmps26
  go_wp2_with (refine wpList_load_row rfl 24 _ rfl w.heap.size rfl 24 (V (be x)).toArray (0, 0) _ A0.out Try.underlying24 rfl (sizeB x) ?_)
  rw [← bvV x]
  refine (ok_spec a b x _).mono ?_
  rintro e w1 ⟨rfl, b1⟩
  have A2 := Lib.hid (A0.out.keep b1 A0.out.lt)
  have B1 : Hid (Below w.heap.size w w1) := Lib.hid ((B0.out _).trans (b1.mono (by simp)))
  clear b1 B0 A0
  cases h : blB a b x
  · have HX : Hid (scF a b x = -1) := Lib.hid (by unfold scF; rw [h]; rfl)
    clear h
    go_wp2_with fail
    go_ret
    exact ⟨by rw [HX.out]; rfl, B1.out⟩
  have HO := Lib.hid (fun j => sm_of (it_ok h j))
  have HX : Hid (scF a b x = fcN a b x (peF a b).toNat 0) := Lib.hid (by unfold scF; rw [h]; rfl)
  have PB := pe_bnd a b
  have PE := Lib.hid (fun w => pe_spec a b w)
  clear h
  obtain ⟨P, hP⟩ := Int.eq_ofNat_of_zero_le PB.1
  rw [hP] at PB HX
  simp only [hP] at PE
  rw [Int.toNat_natCast] at HX
  clear hP
  go_wp2_with fail
  go_loopw [7] (fun kv wr => ∃ j : Nat, j ≤ P ∧ kv = .int .i64 j ∧ Hid (Arr wr w.heap.size (V (be (itB a b x j))) 24) ∧ Hid (Below w.heap.size w wr) ∧ Hid (scF a b x = fcN a b x (P - j) j)) (fun kv _ => P - (intOf kv).toNat)
  case atStart => exact ⟨0, Nat.zero_le _, rfl, A2, B1, by rw [Nat.sub_zero]; exact HX⟩
  case round =>
    clear A2 B1 HX
    obtain ⟨j, hj, rfl, A2, B1, HX⟩ := hrel
    go_wp2_with fail
    refine (PE.out _).mono ?_
    rintro e w2 ⟨rfl, b2⟩
    replace A2 := Lib.hid (A2.out.keep b2 A2.out.lt)
    replace B1 := Lib.hid (B1.out.trans (b2.mono B1.out.size))
    clear b2
    by_cases hlt : j < P
    · obtain ⟨q, hq⟩ : ∃ q, P - j = q + 1 := ⟨P - j - 1, by omega⟩
      have hq2 : P - (j + 1) = q := by omega
      have SJ := Lib.hid (HO.out j)
      have NX : Hid (stF a b (itB a b x j) = itB a b x (j + 1)) := Lib.hid rfl
      have FS := Lib.hid (fc_step a b x q j)
      rw [hq] at HX
      obtain ⟨y, hy⟩ : ∃ y, y = itB a b x j := ⟨_, rfl⟩
      rw [← hy] at SJ NX A2 FS
      clear hy
      obtain ⟨zx, zy, zp, zq⟩ := y
      obtain ⟨c0, c1, c2, c3⟩ := cells_B A2.out
      dsimp only at c0 c1 c2 c3
      by_cases hzx0 : zx = 0
      · subst zx
        by_cases hzy0 : zy = 0
        · subst zy
          have YES : Hid (scF a b x = (j : Int)) := Lib.hid (by rw [HX.out, FS.out, if_pos (by simp [cnB])])
          clear HX FS
          go_wp2_with fail
          go_ret
          exact ⟨by rw [YES.out]; rfl, B1.out⟩
        · have qzy0 : (zy == 0) = false := by simp [hzy0]
          by_cases hzy1 : zy = b
          · subst zy
            have YES : Hid (scF a b x = (j : Int)) := Lib.hid (by rw [HX.out, FS.out, if_pos (by simp [cnB])])
            clear HX FS
            go_wp2_with fail
            go_ret
            exact ⟨by rw [YES.out]; rfl, B1.out⟩
          · have qzy1 : (zy == b) = false := by simp [hzy1]
            have NO : Hid (scF a b x = fcN a b x (P - (j + 1)) (j + 1)) := Lib.hid (by rw [HX.out, FS.out, if_neg (by simp [cnB, hzy0, hzy1]), hq2])
            clear HX FS
            go_wp2_with fail
            refine (step_spec a b (0, zy, zp, zq) _ SJ.out).mono ?_
            rintro e w3 ⟨rfl, b2⟩
            replace A2 := Lib.hid (A2.out.keep b2 A2.out.lt)
            replace B1 := Lib.hid (B1.out.trans (b2.mono B1.out.size))
            clear b2 c0 c1 c2 c3
            rw [NX.out, bvV]
            obtain ⟨z, hz⟩ : ∃ z, z = itB a b x (j + 1) := ⟨_, rfl⟩
            rw [← hz]
            have HZ := Lib.hid hz; clear hz NX
            go_wp2_with (refine wpList_store_row rfl 24 _ _ rfl w.heap.size (V (be z)).toArray rfl rfl 24 (V (be (0, zy, zp, zq))).toArray A2.out (sizeB _) rfl (one_V _) ?_)
            go_roundw
            case rel => exact ⟨j + 1, by omega, by go_num, by rw [← HZ.out]; exact Lib.hid A2.out.row, Lib.hid (below_setRow B1.out (Nat.le_refl _) _), NO⟩
            case measure => first | (simp [intOf]; done) | (simp [intOf]; omega)
      · have qzx0 : (zx == 0) = false := by simp [hzx0]
        by_cases hzx1 : zx = a
        · subst zx
          by_cases hzy0 : zy = 0
          · subst zy
            have YES : Hid (scF a b x = (j : Int)) := Lib.hid (by rw [HX.out, FS.out, if_pos (by simp [cnB])])
            clear HX FS
            go_wp2_with fail
            go_ret
            exact ⟨by rw [YES.out]; rfl, B1.out⟩
          · have qzy0 : (zy == 0) = false := by simp [hzy0]
            by_cases hzy1 : zy = b
            · subst zy
              have YES : Hid (scF a b x = (j : Int)) := Lib.hid (by rw [HX.out, FS.out, if_pos (by simp [cnB])])
              clear HX FS
              go_wp2_with fail
              go_ret
              exact ⟨by rw [YES.out]; rfl, B1.out⟩
            · have qzy1 : (zy == b) = false := by simp [hzy1]
              have NO : Hid (scF a b x = fcN a b x (P - (j + 1)) (j + 1)) := Lib.hid (by rw [HX.out, FS.out, if_neg (by simp [cnB, hzy0, hzy1]), hq2])
              clear HX FS
              go_wp2_with fail
              refine (step_spec a b (a, zy, zp, zq) _ SJ.out).mono ?_
              rintro e w3 ⟨rfl, b2⟩
              replace A2 := Lib.hid (A2.out.keep b2 A2.out.lt)
              replace B1 := Lib.hid (B1.out.trans (b2.mono B1.out.size))
              clear b2 c0 c1 c2 c3
              rw [NX.out, bvV]
              obtain ⟨z, hz⟩ : ∃ z, z = itB a b x (j + 1) := ⟨_, rfl⟩
              rw [← hz]
              have HZ := Lib.hid hz; clear hz NX
              go_wp2_with (refine wpList_store_row rfl 24 _ _ rfl w.heap.size (V (be z)).toArray rfl rfl 24 (V (be (a, zy, zp, zq))).toArray A2.out (sizeB _) rfl (one_V _) ?_)
              go_roundw
              case rel => exact ⟨j + 1, by omega, by go_num, by rw [← HZ.out]; exact Lib.hid A2.out.row, Lib.hid (below_setRow B1.out (Nat.le_refl _) _), NO⟩
              case measure => first | (simp [intOf]; done) | (simp [intOf]; omega)
        · have qzx1 : (zx == a) = false := by simp [hzx1]
          have NO : Hid (scF a b x = fcN a b x (P - (j + 1)) (j + 1)) := Lib.hid (by rw [HX.out, FS.out, if_neg (by simp [cnB, hzx0, hzx1]), hq2])
          clear HX FS
          go_wp2_with fail
          refine (step_spec a b (zx, zy, zp, zq) _ SJ.out).mono ?_
          rintro e w3 ⟨rfl, b2⟩
          replace A2 := Lib.hid (A2.out.keep b2 A2.out.lt)
          replace B1 := Lib.hid (B1.out.trans (b2.mono B1.out.size))
          clear b2 c0 c1 c2 c3
          rw [NX.out, bvV]
          obtain ⟨z, hz⟩ : ∃ z, z = itB a b x (j + 1) := ⟨_, rfl⟩
          rw [← hz]
          have HZ := Lib.hid hz; clear hz NX
          go_wp2_with (refine wpList_store_row rfl 24 _ _ rfl w.heap.size (V (be z)).toArray rfl rfl 24 (V (be (zx, zy, zp, zq))).toArray A2.out (sizeB _) rfl (one_V _) ?_)
          go_roundw
          case rel => exact ⟨j + 1, by omega, by go_num, by rw [← HZ.out]; exact Lib.hid A2.out.row, Lib.hid (below_setRow B1.out (Nat.le_refl _) _), NO⟩
          case measure => first | (simp [intOf]; done) | (simp [intOf]; omega)
    · obtain rfl : j = P := by omega
      have HF : Hid (scF a b x = -1) := Lib.hid (by rw [HX.out, Nat.sub_self]; rfl)
      go_wp2_with fail
      go_ret
      exact ⟨by rw [HF.out]; rfl, B1.out⟩
end Go.Proofs.Ytajkfkpnjbkhhaa.bal
