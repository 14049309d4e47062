/-
  The program's BallAfter, BallStep, BouncesIn, StepsToCorner.
-/
import Derived.Test.YtajkfkpnjbkhhaaYm
namespace Go.Proofs.Ytajkfkpnjbkhhaa.bal
open Go.ChangeShapes Go.WideShapes Go.ChangeAt Go.RowKit
open Go.Proofs.Ytajkfkpnjbkhhaa.mem Go.Proofs.Ytajkfkpnjbkhhaa.ints Go.Proofs.Ytajkfkpnjbkhhaa.arr Go.Proofs.Ytajkfkpnjbkhhaa.pm Go.Proofs.Ytajkfkpnjbkhhaa.permOk Go.Proofs.Ytajkfkpnjbkhhaa.sf
set_option linter.unusedVariables false
set_option maxRecDepth 100000
set_option linter.unusedSimpArgs false
set_option maxHeartbeats 4000000 in
theorem af_impl (a b : Int) (x : Bal) (k : Int) (w : World) (fa : mx.i64 a) (fb : mx.i64 b) (fx : mx.Fit x) (fk : mx.i64 k) :
    Calls Try.prog 13 #[.int .i64 a, .int .i64 b, bv x, .int .i64 k] w fun e w' => e = .returned (.tuple #[bv (afF a b x k), .bool (afB a b x k)]) ∧ Below w.heap.size w w' := by
  have OK := Lib.hid (fun w => ok_impl a b x w fa fb fx)
  have k0 := fk.1; have k1 := fk.2
  clear fa fb fx fk
  have N0 := Lib.hid (fun o => Arr.new (w.alloc o) (V (be (0, 0, 0, 0))) 24 (g := w.heap.size + 1) (by simp))
  have A0 := Lib.hid ((Arr.new w (V (be x)) 24 rfl).alloc (.cells (V (be (0, 0, 0, 0))).toArray 24))
  have B0 : Hid (∀ a b, Below w.heap.size w ((w.alloc a).alloc b)) := Lib.hid (fun a b => ((Below.refl _ _).alloc (Nat.le_refl _) _).alloc (by simp) _)
  rw [bvV x]
  go_enter Try.func13, Try.ntmps13
  go_wp2_with (refine wpList_load_row rfl 24 _ rfl w.heap.size rfl 24 (V (be x)).toArray (0, 0) _ A0.out Try.underlying24 rfl (sizeB x) ?_)
  rw [← bvV x]
  refine (OK.out _).mono ?_
  rintro e w1 ⟨rfl, b1⟩
  have A1 := Lib.hid ((N0.out _).keep b1 (by simp))
  have A2 := Lib.hid (A0.out.keep b1 (by simp; omega))
  have B1 : Hid (Below w.heap.size w w1) := Lib.hid ((B0.out _ _).trans (b1.mono (by simp; omega)))
  clear b1 N0 B0 A0 OK
  cases h : blB a b x
  · have HT : Hid (afB a b x k = false) := Lib.hid (by unfold afB; rw [h]; rfl)
    have HF : Hid (afF a b x k = (0, 0, 0, 0)) := Lib.hid (by unfold afF; rw [HT.out]; rfl)
    clear h
    go_wp2_with (refine wpList_store_row rfl 24 _ _ rfl (w.heap.size + 1) (V (be (0, 0, 0, 0))).toArray rfl rfl 24 (V (be (0, 0, 0, 0))).toArray A1.out (sizeB _) rfl (one_V _) ?_)
    exact bodyPost_ret (v := .tuple #[bv (0, 0, 0, 0), .bool false]) (permOf.results_cell_tmp rfl _ _ (w.heap.size + 1) 24 (V (be (0, 0, 0, 0))).toArray (0, 0) _ _ rfl rfl A1.out.row Try.underlying24 rfl (sizeB _)) rfl ⟨by rw [HF.out, HT.out], below_setRow B1.out (by omega) _⟩
  by_cases hk0 : 0 ≤ k
  · by_cases hk1 : k ≤ 10000
    · have HT : Hid (afB a b x k = true) := Lib.hid (by unfold afB; rw [h, decide_eq_true ⟨hk0, hk1⟩]; rfl)
      obtain ⟨K, rfl⟩ := Int.eq_ofNat_of_zero_le hk0
      have HF : Hid (afF a b x (K : Int) = itB a b x K) := Lib.hid (by unfold afF; rw [if_pos HT.out, Int.toNat_natCast])
      have HO := Lib.hid (fun j => sm_of (it_ok h j))
      clear h
      go_wp2_with fail
      go_loopw [25] (fun iv wr => ∃ j : Nat, j ≤ K ∧ iv = .int .i64 j ∧ Hid (Arr wr w.heap.size (V (be (itB a b x j))) 24) ∧ Hid (Arr wr (w.heap.size + 1) (V (be (0, 0, 0, 0))) 24) ∧ Hid (Below w.heap.size w wr)) (fun iv _ => K - (intOf iv).toNat)
      case atStart => exact ⟨0, Nat.zero_le _, rfl, A2, A1, B1⟩
      case round =>
        clear A1 A2 B1
        obtain ⟨j, hj, rfl, A2, A1, B1⟩ := hrel
        have SJ := Lib.hid (HO.out j)
        have NX : Hid (stF a b (itB a b x j) = itB a b x (j + 1)) := Lib.hid rfl
        by_cases hlt : j < K
        · obtain ⟨y, hy⟩ : ∃ y, y = itB a b x j := ⟨_, rfl⟩
          rw [← hy] at SJ NX A2
          clear hy
          go_wp2_with (refine wpList_load_row rfl 24 (.tmp 6) rfl w.heap.size rfl 24 (V (be y)).toArray (0, 0) _ A2.out Try.underlying24 rfl (sizeB y) ?_)
          rw [← bvV y]
          refine (as_impl a b y _ SJ.out).mono ?_
          rintro e w2 ⟨rfl, b2⟩
          replace A1 := Lib.hid (A1.out.keep b2 A1.out.lt)
          replace A2 := Lib.hid (A2.out.keep b2 A2.out.lt)
          replace B1 := Lib.hid (B1.out.trans (b2.mono B1.out.size))
          clear b2
          rw [NX.out, bvV]
          obtain ⟨z, hz⟩ : ∃ z, z = itB a b x (j + 1) := ⟨_, rfl⟩
          rw [← hz]
          have HZ := Lib.hid hz; clear hz NX
          go_wp2_with (refine wpList_store_row rfl 24 _ _ rfl w.heap.size (V (be z)).toArray rfl rfl 24 (V (be y)).toArray A2.out (sizeB _) rfl (one_V _) ?_)
          go_roundw
          case rel => exact ⟨j + 1, by omega, by go_num, by rw [← HZ.out]; exact Lib.hid A2.out.row, Lib.hid (A1.out.rowOther (by omega)), Lib.hid (below_setRow B1.out (Nat.le_refl _) _)⟩
          case measure => first | (simp [intOf]; done) | (simp [intOf]; omega)
        · obtain rfl : j = K := by omega
          rw [← HF.out] at A2
          obtain ⟨y, hy⟩ : ∃ y, y = afF a b x (j : Int) := ⟨_, rfl⟩
          rw [← hy] at A2
          have HY := Lib.hid hy
          clear hy SJ NX
          go_wp2_with (first | (refine wpList_load_row rfl 24 (.tmp 6) rfl w.heap.size rfl 24 (V (be y)).toArray (0, 0) _ A2.out Try.underlying24 rfl (sizeB y) ?_) | (refine wpList_store_row rfl 24 _ _ rfl (w.heap.size + 1) (V (be y)).toArray rfl rfl 24 (V (be (0, 0, 0, 0))).toArray A1.out (sizeB _) rfl (one_V _) ?_))
          exact bodyPost_ret (v := .tuple #[bv y, .bool true]) (permOf.results_cell_tmp rfl _ _ (w.heap.size + 1) 24 (V (be y)).toArray (0, 0) _ _ rfl rfl A1.out.row Try.underlying24 rfl (sizeB _)) rfl ⟨by rw [HT.out, HY.out], below_setRow B1.out (by omega) _⟩
    · have HT : Hid (afB a b x k = false) := Lib.hid (by unfold afB; rw [h, decide_eq_false (fun hh => hk1 hh.2)]; rfl)
      have HF : Hid (afF a b x k = (0, 0, 0, 0)) := Lib.hid (by unfold afF; rw [HT.out]; rfl)
      clear h
      go_wp2_with (refine wpList_store_row rfl 24 _ _ rfl (w.heap.size + 1) (V (be (0, 0, 0, 0))).toArray rfl rfl 24 (V (be (0, 0, 0, 0))).toArray A1.out (sizeB _) rfl (one_V _) ?_)
      exact bodyPost_ret (v := .tuple #[bv (0, 0, 0, 0), .bool false]) (permOf.results_cell_tmp rfl _ _ (w.heap.size + 1) 24 (V (be (0, 0, 0, 0))).toArray (0, 0) _ _ rfl rfl A1.out.row Try.underlying24 rfl (sizeB _)) rfl ⟨by rw [HF.out, HT.out], below_setRow B1.out (by omega) _⟩
  · have HT : Hid (afB a b x k = false) := Lib.hid (by unfold afB; rw [h, decide_eq_false (fun hh => hk0 hh.1)]; rfl)
    have HF : Hid (afF a b x k = (0, 0, 0, 0)) := Lib.hid (by unfold afF; rw [HT.out]; rfl)
    clear h
    go_wp2_with (refine wpList_store_row rfl 24 _ _ rfl (w.heap.size + 1) (V (be (0, 0, 0, 0))).toArray rfl rfl 24 (V (be (0, 0, 0, 0))).toArray A1.out (sizeB _) rfl (one_V _) ?_)
    exact bodyPost_ret (v := .tuple #[bv (0, 0, 0, 0), .bool false]) (permOf.results_cell_tmp rfl _ _ (w.heap.size + 1) 24 (V (be (0, 0, 0, 0))).toArray (0, 0) _ _ rfl rfl A1.out.row Try.underlying24 rfl (sizeB _)) rfl ⟨by rw [HF.out, HT.out], below_setRow B1.out (by omega) _⟩
theorem af_one (a b : Int) (x : Bal) : afB a b x 1 = blB a b x ∧ afF a b x 1 = bsF a b x := by
  have e : afB a b x 1 = blB a b x := by unfold afB; simp
  refine ⟨e, ?_⟩
  unfold afF bsF
  rw [e]; rfl
set_option maxHeartbeats 4000000 in
theorem bs_impl (a b : Int) (x : Bal) (w : World) (fa : mx.i64 a) (fb : mx.i64 b) (fx : mx.Fit x) :
    Calls Try.prog 16 #[.int .i64 a, .int .i64 b, bv x] w fun e w' => e = .returned (.tuple #[bv (bsF a b x), .bool (blB a b x)]) ∧ Below w.heap.size w w' := by
  have AF := Lib.hid (fun w => af_impl a b x 1 w fa fb fx ⟨by omega, by omega⟩)
  simp only [af_one] at AF
  clear fa fb fx
  have N0 := Lib.hid (fun o => Arr.new (w.alloc o) (V (be (0, 0, 0, 0))) 24 (g := w.heap.size + 1) (by simp))
  have A0 := Lib.hid ((Arr.new w (V (be x)) 24 rfl).alloc (.cells (V (be (0, 0, 0, 0))).toArray 24))
  have B0 : Hid (∀ a b, Below w.heap.size w ((w.alloc a).alloc b)) := Lib.hid (fun a b => ((Below.refl _ _).alloc (Nat.le_refl _) _).alloc (by simp) _)
  rw [bvV x]
  go_enter Try.func16, Try.ntmps16
  go_wp2_with (refine wpList_load_row rfl 24 _ rfl w.heap.size rfl 24 (V (be x)).toArray (0, 0) _ A0.out Try.underlying24 rfl (sizeB x) ?_)
  rw [← bvV x]
  refine (AF.out _).mono ?_
  rintro e w1 ⟨rfl, b1⟩
  have A1 := Lib.hid ((N0.out _).keep b1 (by simp))
  have B1 : Hid (Below w.heap.size w w1) := Lib.hid ((B0.out _ _).trans (b1.mono (by simp; omega)))
  clear b1 N0 B0 A0 AF
  obtain ⟨z, hz⟩ : ∃ z, z = bsF a b x := ⟨_, rfl⟩
  obtain ⟨t, ht⟩ : ∃ t, t = blB a b x := ⟨_, rfl⟩
  rw [← hz, ← ht]
  have HZ := Lib.hid hz; have HT := Lib.hid ht; clear hz ht
  rw [bvV z]
  go_wp2_with (refine wpList_store_row rfl 24 _ _ rfl (w.heap.size + 1) (V (be z)).toArray rfl rfl 24 (V (be (0, 0, 0, 0))).toArray A1.out (sizeB _) rfl (one_V _) ?_)
  exact bodyPost_ret (v := .tuple #[bv z, .bool t]) (permOf.results_cell_tmp rfl _ _ (w.heap.size + 1) 24 (V (be z)).toArray (0, 0) _ _ rfl rfl A1.out.row Try.underlying24 rfl (sizeB _)) rfl ⟨by rw [HZ.out, HT.out], below_setRow B1.out (by omega) _⟩
end Go.Proofs.Ytajkfkpnjbkhhaa.bal
