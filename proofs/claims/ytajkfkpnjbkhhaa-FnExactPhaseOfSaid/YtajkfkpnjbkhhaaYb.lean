/-
  The specification's BallOk, BallStep, BallPeriod, PhaseOf.
-/
import Derived.Test.YtajkfkpnjbkhhaaYa
namespace Go.Proofs.Ytajkfkpnjbkhhaa.bal
open Go.ChangeShapes Go.WideShapes Go.ChangeAt Go.RowKit
open Go.Proofs.Ytajkfkpnjbkhhaa.mem Go.Proofs.Ytajkfkpnjbkhhaa.ints Go.Proofs.Ytajkfkpnjbkhhaa.arr Go.Proofs.Ytajkfkpnjbkhhaa.pm Go.Proofs.Ytajkfkpnjbkhhaa.permOk Go.Proofs.Ytajkfkpnjbkhhaa.sf
set_option linter.unusedVariables false
set_option maxRecDepth 100000
set_option linter.unusedSimpArgs false
def bsF (a b : Int) (x : Bal) : Bal := if blB a b x then stF a b x else (0, 0, 0, 0)
def peF (a b : Int) : Int := if tbB a b then 2 * a / (Nat.gcd a.toNat b.toNat : Int) * b else 0
def phB (a x d : Int) : Bool := decide ((1 ≤ a ∧ a ≤ 50) ∧ (0 ≤ x ∧ x ≤ a) ∧ (d = 1 ∨ d = -1))
def phF (a x d : Int) : Int := if phB a x d then (if d = 1 then x else (2 * a - x) % (2 * a)) else -1
theorem bl_eq (a b : Int) (x : Bal) : blB a b x = (tbB a b && (lnB a x.1 x.2.2.1 && lnB b x.2.1 x.2.2.2)) := rfl
set_option maxHeartbeats 1000000 in
theorem ok_spec (a b : Int) (x : Bal) (w : World) : Calls Try.prog 19 #[.int .i64 a, .int .i64 b, bv x] w fun e w' => e = .returned (.bool (blB a b x)) ∧ Below w.heap.size w w' := by
  obtain ⟨x1, y1, p, q⟩ := x
  have HB := Lib.hid (bl_eq a b (x1, y1, p, q))
  have BB : Hid (∀ o, Below w.heap.size w (w.alloc o)) := Lib.hid (fun o => (Below.refl _ _).alloc (Nat.le_refl _) _)
  unfold bv
  go_enter Try.func19, Try.ntmps19
  go_wp2_with fail
  refine (tab_spec a b _).mono ?_
  rintro e w' ⟨rfl, rfl⟩
  cases h1 : tbB a b
  · go_wp2_with fail
    go_ret
    exact ⟨by rw [HB.out, h1]; rfl, BB.out _⟩
  go_wp2_with fail
  refine (line_spec a x1 p _).mono ?_
  rintro e w' ⟨rfl, rfl⟩
  cases h2 : lnB a x1 p
  · go_wp2_with fail
    go_ret
    exact ⟨by rw [HB.out, h1, h2]; rfl, BB.out _⟩
  go_wp2_with fail
  refine (line_spec b y1 q _).mono ?_
  rintro e w' ⟨rfl, rfl⟩
  have h3 : blB a b (x1, y1, p, q) = lnB b y1 q := by rw [HB.out, h1, h2]; rfl
  have H3 := Lib.hid h3; clear h3
  generalize lnB b y1 q = z at *
  go_wp2_with fail
  go_ret
  exact ⟨by rw [H3.out]; rfl, BB.out _⟩
set_option maxHeartbeats 2000000 in
theorem bs_spec (a b : Int) (x : Bal) (w : World) : Calls Try.prog 21 #[.int .i64 a, .int .i64 b, bv x] w fun e w' => e = .returned (.tuple #[bv (bsF a b x), .bool (blB a b x)]) ∧ Below w.heap.size w w' := by
  have N0 := Lib.hid (fun o => Arr.new (w.alloc o) (V (be (0, 0, 0, 0))) 24 (g := w.heap.size + 1) (by simp))
  have A0 := Lib.hid ((Arr.new w (V (be x)) 24 rfl).alloc (.cells (V (be (0, 0, 0, 0))).toArray 24))
  have B0 : Hid (∀ a b, Below w.heap.size w ((w.alloc a).alloc b)) := Lib.hid (fun a b => ((Below.refl _ _).alloc (Nat.le_refl _) _).alloc (by simp) _)
  rw [bvV x]
  go_enter Try.func21, Try.ntmps21
  go_wp2_with (refine wpList_load_row rfl 24 _ rfl w.heap.size rfl 24 (V (be x)).toArray (0, 0) _ A0.out Try.underlying24 rfl (sizeB x) ?_)
  rw [← bvV x]
  refine (ok_spec a b x _).mono ?_
  rintro e w1 ⟨rfl, b1⟩
  have A1 := Lib.hid ((N0.out _).keep b1 (by simp))
  have A2 := Lib.hid (A0.out.keep b1 (by simp; omega))
  have B1 : Hid (Below w.heap.size w w1) := Lib.hid ((B0.out _ _).trans (b1.mono (by simp; omega)))
  clear b1 N0 B0 A0
  cases h : blB a b x
  · have HF : Hid (bsF a b x = (0, 0, 0, 0)) := Lib.hid (by unfold bsF; rw [h]; rfl)
    have HT := Lib.hid h; clear h
    go_wp2_with (refine wpList_store_row rfl 24 _ _ rfl (w.heap.size + 1) (V (be (0, 0, 0, 0))).toArray rfl rfl 24 (V (be (0, 0, 0, 0))).toArray A1.out (sizeB _) rfl (one_V _) ?_)
    exact bodyPost_ret (v := .tuple #[bv (0, 0, 0, 0), .bool false]) (permOf.results_cell_tmp rfl _ _ (w.heap.size + 1) 24 (V (be (0, 0, 0, 0))).toArray (0, 0) _ _ rfl rfl A1.out.row Try.underlying24 rfl (sizeB _)) rfl ⟨by rw [HF.out, HT.out], below_setRow B1.out (by omega) _⟩
  · have HF : Hid (bsF a b x = stF a b x) := Lib.hid (by unfold bsF; rw [h]; rfl)
    have HS := Lib.hid (sm_of h)
    have HT := Lib.hid h; clear h
    go_wp2_with (refine wpList_load_row rfl 24 _ rfl w.heap.size rfl 24 (V (be x)).toArray (0, 0) _ A2.out Try.underlying24 rfl (sizeB x) ?_)
    rw [← bvV x]
    refine (step_spec a b x _ HS.out).mono ?_
    rintro e w2 ⟨rfl, b2⟩
    replace A1 := Lib.hid (A1.out.keep b2 A1.out.lt)
    replace B1 := Lib.hid (B1.out.trans (b2.mono B1.out.size))
    clear b2
    rw [bvV (stF a b x)]
    go_wp2_with (refine wpList_store_row rfl 24 _ _ rfl (w.heap.size + 1) (V (be (stF a b x))).toArray rfl rfl 24 (V (be (0, 0, 0, 0))).toArray A1.out (sizeB _) rfl (one_V _) ?_)
    exact bodyPost_ret (v := .tuple #[bv (stF a b x), .bool true]) (permOf.results_cell_tmp rfl _ _ (w.heap.size + 1) 24 (V (be (stF a b x))).toArray (0, 0) _ _ rfl rfl A1.out.row Try.underlying24 rfl (sizeB _)) rfl ⟨by rw [HF.out, HT.out], below_setRow B1.out (by omega) _⟩

theorem gcd_div (a b : Nat) (ha : 1 ≤ a) : 1 ≤ Nat.gcd a b ∧ Nat.gcd a b ≤ a := ⟨Nat.gcd_pos_of_pos_left b (by omega), Nat.gcd_le_left b (by omega)⟩
theorem pe_bnd (a b : Int) : 0 ≤ peF a b ∧ peF a b ≤ 5000 := by
  unfold peF
  cases h : tbB a b
  · simp
  · obtain ⟨⟨a1, a2⟩, b1, b2⟩ := tb_iff.1 h
    obtain ⟨n, rfl⟩ := Int.eq_ofNat_of_zero_le (show 0 ≤ a by omega)
    obtain ⟨m, rfl⟩ := Int.eq_ofNat_of_zero_le (show 0 ≤ b by omega)
    rw [if_pos rfl, Int.toNat_natCast, Int.toNat_natCast]
    obtain ⟨g1, g2⟩ := gcd_div n m (by omega)
    have e : 2 * (n : Int) / (Nat.gcd n m : Int) = ((2 * n / Nat.gcd n m : Nat) : Int) := by simp
    have hq : 2 * n / Nat.gcd n m ≤ 100 := Nat.le_trans (Nat.div_le_self _ _) (by omega)
    rw [e]
    generalize 2 * n / Nat.gcd n m = q at *
    have h1 : q * m ≤ 100 * 50 := Nat.mul_le_mul hq (by omega)
    constructor
    · exact Int.mul_nonneg (by omega) (by omega)
    · rw [← Int.natCast_mul]; omega
set_option maxHeartbeats 1000000 in
theorem pe_spec (a b : Int) (w : World) : Calls Try.prog 24 #[.int .i64 a, .int .i64 b] w fun e w' => e = .returned (.int .i64 (peF a b)) ∧ Below w.heap.size w w' := by
  have PB := pe_bnd a b
  go_enter Try.func24, Try.ntmps24
  go_wp2_with fail
  refine (tab_spec a b _).mono ?_
  rintro e w' ⟨rfl, rfl⟩
  cases h : tbB a b
  · have HF : Hid (peF a b = 0) := Lib.hid (by unfold peF; rw [h]; rfl)
    clear PB
    go_wp2_with fail
    go_ret
    exact ⟨by rw [HF.out]; rfl, Below.refl _ _⟩
  obtain ⟨⟨a1, a2⟩, b1, b2⟩ := tb_iff.1 h
  obtain ⟨n, rfl⟩ := Int.eq_ofNat_of_zero_le (show 0 ≤ a by omega)
  obtain ⟨m, rfl⟩ := Int.eq_ofNat_of_zero_le (show 0 ≤ b by omega)
  have HF : Hid (peF n m = 2 * (n : Int) / (Nat.gcd n m : Int) * m) := Lib.hid (by unfold peF; rw [h]; rfl)
  rw [HF.out] at PB
  obtain ⟨g1, g2⟩ := gcd_div n m (by omega)
  go_wp2_with fail
  refine (dr.gcd_spec n m _ (by omega) (by omega)).mono ?_
  rintro e w1 ⟨rfl, b1'⟩
  have B1 := Lib.hid b1'; clear b1'
  generalize Nat.gcd n m = g at *
  have e1 : IntKind.i64.wrap (2 * (n : Int)) = 2 * (n : Int) := IntWalk.i64_in _ (by omega)
  have hz : ¬ ((g : Int) = 0) := by omega
  have hz' : ((g : Int) == 0) = false := by simp; omega
  have e0 : (2 * (n : Int)).tdiv (g : Int) = 2 * (n : Int) / (g : Int) := Int.tdiv_eq_ediv_of_nonneg (by omega)
  have q0 : 0 ≤ 2 * (n : Int) / (g : Int) := Int.ediv_nonneg (by omega) (by omega)
  have q1 : 2 * (n : Int) / (g : Int) ≤ 2 * (n : Int) := Int.ediv_le_self _ (by omega)
  generalize 2 * (n : Int) / (g : Int) = q at *
  have e2 : IntKind.i64.wrap q = q := IntWalk.i64_in _ (by omega)
  have e3 : IntKind.i64.wrap (q * (m : Int)) = q * (m : Int) := IntWalk.i64_in _ (by omega)
  go_wp2_with fail
  go_ret
  exact ⟨by rw [HF.out]; rfl, dr.below_d B1.out⟩

set_option maxHeartbeats 2000000 in
theorem ph_spec (a x d : Int) (w : World) (a0 : -9223372036854775808 ≤ a) (a1 : a ≤ 9223372036854775807) (x0 : -9223372036854775808 ≤ x) (x1 : x ≤ 9223372036854775807) : Calls Try.prog 28 #[.int .i64 a, .int .i64 x, .int .i64 d] w fun e w' => e = .returned (.int .i64 (phF a x d)) ∧ Below w.heap.size w w' := by
  by_cases ha : 1 ≤ a ∧ a ≤ 50
  · by_cases hx : 0 ≤ x ∧ x ≤ a
    · by_cases h1 : d = 1
      · subst h1
        have HF : Hid (phF a x 1 = x) := Lib.hid (by unfold phF phB; rw [decide_eq_true ⟨ha, hx, .inl rfl⟩]; rfl)
        go_enter Try.func28, Try.ntmps28
        go_wp2_with (go_at_call 40; refine (permOk.in_yes _ _ _ _ (by omega) (by omega)).mono ?_; rintro e w' ⟨rfl, rfl⟩)
        go_ret
        exact ⟨by rw [HF.out]; rfl, Below.refl _ _⟩
      · by_cases h2 : d = -1
        · subst h2
          have HF : Hid (phF a x (-1) = (2 * a - x) % (2 * a)) := Lib.hid (by unfold phF phB; rw [decide_eq_true ⟨ha, hx, .inr rfl⟩]; rfl)
          have w1 : IntKind.i64.wrap (2 * a) = 2 * a := IntWalk.i64_in _ (by omega)
          have w2 : IntKind.i64.wrap (2 * a - x) = 2 * a - x := IntWalk.i64_in _ (by omega)
          have hz : ¬ (2 * a = 0) := by omega
          have hz' : (2 * a == 0) = false := by simp; omega
          have m0 : (2 * a - x).tmod (2 * a) = (2 * a - x) % (2 * a) := Int.tmod_eq_emod_of_nonneg (by omega)
          have m1 : 0 ≤ (2 * a - x) % (2 * a) := Int.emod_nonneg _ hz
          have m2 : (2 * a - x) % (2 * a) < 2 * a := Int.emod_lt_of_pos _ (by omega)
          obtain ⟨r, hr⟩ : ∃ r, r = (2 * a - x) % (2 * a) := ⟨_, rfl⟩
          rw [← hr] at m0 m1 m2 HF
          clear hr
          have w3 : IntKind.i64.wrap r = r := IntWalk.i64_in _ (by omega)
          go_enter Try.func28, Try.ntmps28
          go_wp2_with (go_at_call 40; refine (permOk.in_yes _ _ _ _ (by omega) (by omega)).mono ?_; rintro e w' ⟨rfl, rfl⟩)
          go_ret
          exact ⟨by rw [HF.out]; rfl, Below.refl _ _⟩
        · have HF : Hid (phF a x d = -1) := Lib.hid (by unfold phF phB; rw [decide_eq_false (fun h => h.2.2.elim h1 h2)]; rfl)
          have e1 : (d != 1) = true := by simp [h1]
          have e2 : (d != -1) = true := by simp [h2]
          go_enter Try.func28, Try.ntmps28
          go_wp2_with (go_at_call 40; refine (permOk.in_yes _ _ _ _ (by omega) (by omega)).mono ?_; rintro e w' ⟨rfl, rfl⟩)
          go_ret
          exact ⟨by rw [HF.out]; rfl, Below.refl _ _⟩
    · have HF : Hid (phF a x d = -1) := Lib.hid (by unfold phF phB; rw [decide_eq_false (fun h => hx h.2.1)]; rfl)
      go_enter Try.func28, Try.ntmps28
      go_wp2_with fail
      refine (permOk.in_yes _ _ _ _ (by omega) (by omega)).mono ?_
      rintro e w' ⟨rfl, rfl⟩
      go_wp2_with fail
      refine (permOk.in_no _ _ _ _ (by omega)).mono ?_
      rintro e w' ⟨rfl, rfl⟩
      go_wp2_with fail
      go_ret
      exact ⟨by rw [HF.out]; rfl, Below.refl _ _⟩
  · have HF : Hid (phF a x d = -1) := Lib.hid (by unfold phF phB; rw [decide_eq_false (fun h => ha h.1)]; rfl)
    go_enter Try.func28, Try.ntmps28
    go_wp2_with (go_at_call 40; refine (permOk.in_no _ _ _ _ (by omega)).mono ?_; rintro e w' ⟨rfl, rfl⟩)
    go_ret
    exact ⟨by rw [HF.out]; rfl, Below.refl _ _⟩
end Go.Proofs.Ytajkfkpnjbkhhaa.bal
