import Derived.Test.YtngglhbcpeigcaaY08
import Derived.Test.YtngglhbcpeigcaaY05
import Derived.Test.YtngglhbcpeigcaaY09
import Derived.Deep.CutRange
/-
  Sums of fractions: what RatioSum answers; contracts of the specification's l12Product and RatioSum.
-/
namespace Go.Proofs.Ytngglhbcpeigcaa.rat
open Go.ChangeShapes Go.WideShapes Go.ChangeAt Go.RowKit
open Go.Proofs.Ytngglhbcpeigcaa.mem Go.Proofs.Ytngglhbcpeigcaa.ints Go.Proofs.Ytngglhbcpeigcaa.arr Go.Proofs.Ytngglhbcpeigcaa.pm Go.Proofs.Ytngglhbcpeigcaa.permOk Go.Proofs.Ytngglhbcpeigcaa.sf Go.Proofs.Ytngglhbcpeigcaa.gl
set_option linter.unusedVariables false
set_option maxRecDepth 100000
set_option linter.unusedSimpArgs false

/-- The specification's product, and whether it is small enough. -/
def prB (a : Int) (b : Nat) : Bool := decide (a.natAbs ≤ 2000000000000000 / b)
def prV (a : Int) (b : Nat) : Int := if prB a b then a * (b : Int) else 0
theorem prB_fit {a : Int} {b : Nat} (h : prB a b = true) : -2000000000000000 ≤ a * (b : Int) ∧ a * (b : Int) ≤ 2000000000000000 := by
  unfold prB at h
  rw [decide_eq_true_eq] at h
  have h1 : a.natAbs * b ≤ 2000000000000000 := Nat.le_trans (Nat.mul_le_mul_right b h) (Nat.div_mul_le_self _ _)
  have h2 : (a * (b : Int)).natAbs = a.natAbs * b := by rw [Int.natAbs_mul, Int.natAbs_natCast]
  omega
theorem prV_fit (a : Int) (b : Nat) : -2000000000000000 ≤ prV a b ∧ prV a b ≤ 2000000000000000 := by
  unfold prV; split
  · exact prB_fit (by assumption)
  · omega
set_option maxHeartbeats 1000000 in
theorem prod_spec (a : Int) (b : Nat) (w : World) (ha : -1000000000000 ≤ a ∧ a ≤ 1000000000000) (hb : 1 ≤ b) (hb2 : b ≤ 1000000000000) :
    Calls Try.prog 57 #[.int .i64 a, .int .i64 (b : Int)] w fun e w' => e = .returned (.tuple #[.int .i64 (prV a b), .bool (prB a b)]) ∧ Below w.heap.size w w' := by
  have hne : (((b : Int)) != 0) = true := by simp; omega
  have hn1 : IntKind.i64.wrap (-a) = -a := IntWalk.i64_in _ (by omega)
  have hn2 : IntKind.i64.wrap (-(b : Int)) = -(b : Int) := IntWalk.i64_in _ (by omega)
  obtain ⟨m, hm⟩ : ∃ m : Nat, a.natAbs = m := ⟨_, rfl⟩
  have hx1 : (if -a > a then -a else a) = (m : Int) := by split <;> omega
  have hx2 : (if -(b : Int) > (b : Int) then -(b : Int) else (b : Int)) = (b : Int) := by split <;> omega
  obtain ⟨q, hq⟩ : ∃ q : Nat, 2000000000000000 / b = q := ⟨_, rfl⟩
  have hql : q ≤ 2000000000000000 := by rw [← hq]; exact Nat.div_le_self _ _
  have ht : (2000000000000000 : Int).tdiv (b : Int) = (q : Int) := by rw [← hq]; rfl
  have hw : IntKind.i64.wrap (q : Int) = (q : Int) := IntWalk.i64_in _ (by omega)
  have hb0 : ¬ ((b : Int) = 0) := by omega
  have hg : decide ((q : Int) < (m : Int)) = !(prB a b) := by
    unfold prB
    rw [hm, hq]
    by_cases h : m ≤ q
    · rw [decide_eq_true h]; simp; omega
    · rw [decide_eq_false h]; simp; omega
  cases hp : prB a b
  · have hv : Hid (prV a b = 0) := Lib.hid (by simp [prV, hp])
    rw [hp] at hg
    have hg' : decide (q < m) = true := by simp at hg ⊢; omega
    clear hg hp hq hm
    go_enter Try.func57, Try.ntmps57
    go_wp2
    go_ret2
    exact ⟨by rw [hv.out]; rfl, Below.refl _ _⟩
  · have hv : Hid (prV a b = a * (b : Int)) := Lib.hid (by simp [prV, hp])
    have hf := prB_fit hp
    rw [hp] at hg
    have hg' : decide (q < m) = false := by simp at hg ⊢; omega
    have hwm : wrap64 (a * (b : Int)) = a * (b : Int) := IntWalk.wrap64_in _ (by omega)
    clear hg hp hq hm
    go_enter Try.func57, Try.ntmps57
    go_wp2
    go_ret2
    exact ⟨by rw [hv.out]; rfl, Below.refl _ _⟩
theorem _root_.Go.Proofs.Ytngglhbcpeigcaa.sf.Hld.d0 {base top a : Nat} {w W : World} {x y : Value} {p : Nat × List Value} {l : List (Nat × List Value)} (h : Hld base top w (p :: (a, [x, y]) :: l) W) : W.cell? ⟨a, 0, none⟩ = some x := by simpa using h.snd 0 x rfl
theorem _root_.Go.Proofs.Ytngglhbcpeigcaa.sf.Hld.d1 {base top a : Nat} {w W : World} {x y : Value} {p : Nat × List Value} {l : List (Nat × List Value)} (h : Hld base top w (p :: (a, [x, y]) :: l) W) : W.cell? ⟨a, 1, none⟩ = some y := by simpa using h.snd 1 y rfl
/-- What RatioSum answers. -/
def rsN (n1 d1 n2 d2 : Int) : Int := n1 * ((d2.toNat / gc d1 d2 : Nat) : Int) + n2 * ((d1.toNat / gc d1 d2 : Nat) : Int)
def rsD (d1 d2 : Int) : Int := d1 * ((d2.toNat / gc d1 d2 : Nat) : Int)
def rsB (n1 d1 n2 d2 : Int) : Bool := prB n1 (d2.toNat / gc d1 d2) && (prB n2 (d1.toNat / gc d1 d2) && prB d1 (d2.toNat / gc d1 d2))
def okZ (q : Int × Int) : Int × Int := if okR q.1 q.2 then q else (0, 0)
def rsF (n1 d1 n2 d2 : Int) : Int × Int := if okR n1 d1 && okR n2 d2 then (if rsB n1 d1 n2 d2 then okZ (nrm (rsN n1 d1 n2 d2) (rsD d1 d2)) else (0, 0)) else (0, 0)
theorem okR_facts {n d : Int} (h : okR n d = true) : (1 ≤ d ∧ d ≤ 1000000000000) ∧ (-1000000000000 ≤ n ∧ n ≤ 1000000000000) ∧ gc n d = 1 := by
  unfold okR at h
  simp only [Bool.and_eq_true, decide_eq_true_eq, beq_iff_eq] at h
  exact ⟨h.1, h.2.1, h.2.2⟩
set_option maxHeartbeats 8000000 in
theorem rsum_spec (n1 d1 n2 d2 : Int) (w : World) (x1 : -9223372036854775808 ≤ n1 ∧ n1 ≤ 9223372036854775807) (x2 : -9223372036854775808 ≤ d1 ∧ d1 ≤ 9223372036854775807) (x3 : -9223372036854775808 ≤ n2 ∧ n2 ≤ 9223372036854775807) (x4 : -9223372036854775808 ≤ d2 ∧ d2 ≤ 9223372036854775807) :
    Calls Try.prog 42 #[.agg #[.int .i64 n1, .int .i64 d1], .agg #[.int .i64 n2, .int .i64 d2]] w fun e w' => e = .returned (rv (rsF n1 d1 n2 d2)) ∧ Below w.heap.size w w' := by
  go_enter Try.func42, Try.ntmps42
  go_wp2_with fail
  generalize hw1 : ((w.alloc (.cells #[.int .i64 n1, .int .i64 d1] 24)).alloc (.cells #[.int .i64 n2, .int .i64 d2] 24)).alloc (.cells #[.int .i64 0, .int .i64 0] 24) = w1
  have A2 : Hid (Arr w1 w.heap.size [.int .i64 n1, .int .i64 d1] 24) := Lib.hid (by rw [← hw1]; exact ((Arr.new w _ _ rfl).alloc _).alloc _)
  have A3 : Hid (Arr w1 (w.heap.size + 1) [.int .i64 n2, .int .i64 d2] 24) := Lib.hid (by rw [← hw1]; exact (Arr.new _ _ _ (by simp)).alloc _)
  have A4 : Hid (Arr w1 (w.heap.size + 2) [.int .i64 0, .int .i64 0] 24) := Lib.hid (by rw [← hw1]; exact Arr.new _ _ _ (by simp))
  have B1 : Hid (Below w.heap.size w w1) := Lib.hid (by rw [← hw1]; exact (((Below.refl _ _).alloc (Nat.le_refl _) _).alloc (by simp) _).alloc (by simp <;> omega) _)
  have s1 : w1.heap.size = w.heap.size + 3 := by rw [← hw1]; simp
  clear hw1
  have c20 := A2.out.cell (k := 0) rfl; have c21 := A2.out.cell (k := 1) rfl
  go_wp2_with (first | (refine wpList_load_row rfl 24 _ rfl w.heap.size rfl 24 #[.int .i64 n1, .int .i64 d1] (0, 0) _ A2.out Try.underlying24 rfl (sizeR _ _) ?_) | fail)
  refine (rok_spec n1 d1 _ x1.1 x1.2 x2.1 x2.2).mono ?_
  rintro e w2 ⟨rfl, b1⟩
  have s2 := b1.size
  replace A2 := Lib.hid (A2.out.keep b1 A2.out.lt)
  replace A3 := Lib.hid (A3.out.keep b1 A3.out.lt)
  replace A4 := Lib.hid (A4.out.keep b1 A4.out.lt)
  replace B1 := Lib.hid (B1.out.trans (b1.mono B1.out.size))
  clear b1
  have c30 := A3.out.cell (k := 0) rfl; have c31 := A3.out.cell (k := 1) rfl
  cases o1 : okR n1 d1
  · have HF : Hid (rsF n1 d1 n2 d2 = (0, 0)) := Lib.hid (by simp [rsF, o1])
    clear o1
    go_wp2_with (first | (refine wpList_build rfl 24 _ rfl [] rfl #[.int .i64 0, .int .i64 0] builtR0 ?_) | (refine wpList_store_row rfl 24 _ _ rfl (w.heap.size + 2) #[.int .i64 0, .int .i64 0] rfl rfl 24 #[.int .i64 0, .int .i64 0] A4.out (sizeR _ _) rfl (by simp [Value.oneCell']) ?_) | fail)
    exact bodyPost_ret (v := .agg #[.int .i64 0, .int .i64 0]) (results_cell_row rfl _ _ (w.heap.size + 2) 24 #[.int .i64 0, .int .i64 0] (0, 0) _ rfl A4.out.row Try.underlying24 rfl (sizeR _ _)) rfl ⟨by rw [HF.out]; rfl, below_setRow B1.out (by omega) _⟩
  go_wp2_with (first | (refine fns.wpList_load_row_g rfl 24 _ rfl (w.heap.size + 1) rfl 24 #[.int .i64 n2, .int .i64 d2] (0, 0) _ A3.out Try.underlying24 rfl (sizeR _ _) ?_) | fail)
  refine (rok_spec n2 d2 _ x3.1 x3.2 x4.1 x4.2).mono ?_
  rintro e w3 ⟨rfl, b1⟩
  have s3 := b1.size
  clear c20 c21 c30 c31
  replace A2 := Lib.hid (A2.out.keep b1 A2.out.lt)
  replace A3 := Lib.hid (A3.out.keep b1 A3.out.lt)
  replace A4 := Lib.hid (A4.out.keep b1 A4.out.lt)
  replace B1 := Lib.hid (B1.out.trans (b1.mono B1.out.size))
  clear b1
  cases o2 : okR n2 d2
  · have HF : Hid (rsF n1 d1 n2 d2 = (0, 0)) := Lib.hid (by simp [rsF, o2])
    clear o1 o2
    go_wp2_with (first | (refine wpList_build rfl 24 _ rfl [] rfl #[.int .i64 0, .int .i64 0] builtR0 ?_) | (refine wpList_store_row rfl 24 _ _ rfl (w.heap.size + 2) #[.int .i64 0, .int .i64 0] rfl rfl 24 #[.int .i64 0, .int .i64 0] A4.out (sizeR _ _) rfl (by simp [Value.oneCell']) ?_) | fail)
    exact bodyPost_ret (v := .agg #[.int .i64 0, .int .i64 0]) (results_cell_row rfl _ _ (w.heap.size + 2) 24 #[.int .i64 0, .int .i64 0] (0, 0) _ rfl A4.out.row Try.underlying24 rfl (sizeR _ _)) rfl ⟨by rw [HF.out]; rfl, below_setRow B1.out (by omega) _⟩
  have RF : Hid (rsF n1 d1 n2 d2 = if rsB n1 d1 n2 d2 then okZ (nrm (rsN n1 d1 n2 d2) (rsD d1 d2)) else (0, 0)) := Lib.hid (by simp only [rsF, o1, o2, Bool.and_self, if_true])
  obtain ⟨f1, f2, _⟩ := okR_facts o1
  obtain ⟨f3, f4, _⟩ := okR_facts o2
  obtain ⟨e1, rfl⟩ : ∃ e : Nat, d1 = (e : Int) := ⟨d1.toNat, by omega⟩
  obtain ⟨e2, rfl⟩ : ∃ e : Nat, d2 = (e : Int) := ⟨d2.toNat, by omega⟩
  obtain ⟨g, hgg⟩ : ∃ g, g = Nat.gcd e1 e2 := ⟨_, rfl⟩
  have hgp : 0 < g := by rw [hgg]; exact Nat.gcd_pos_of_pos_left _ (by omega)
  obtain ⟨q1, hq1⟩ : ∃ q, q = e2 / g := ⟨_, rfl⟩
  obtain ⟨q2, hq2⟩ : ∃ q, q = e1 / g := ⟨_, rfl⟩
  have l1 : q1 ≤ e2 := by rw [hq1]; exact Nat.div_le_self _ _
  have l2 : q2 ≤ e1 := by rw [hq2]; exact Nat.div_le_self _ _
  have l3 : 1 ≤ q1 := by rw [hq1, hgg]; exact Nat.div_pos (Nat.le_of_dvd (by omega) (Nat.gcd_dvd_right _ _)) (by rw [← hgg]; exact hgp)
  have l4 : 1 ≤ q2 := by rw [hq2, hgg]; exact Nat.div_pos (Nat.le_of_dvd (by omega) (Nat.gcd_dvd_left _ _)) (by rw [← hgg]; exact hgp)
  have RB : Hid (rsB n1 e1 n2 e2 = (prB n1 q1 && (prB n2 q2 && prB (e1 : Int) q1))) := Lib.hid (by unfold rsB gc; rw [Int.natAbs_natCast, Int.natAbs_natCast, Int.toNat_natCast, Int.toNat_natCast, ← hgg, ← hq1, ← hq2])
  have RN : Hid (rsN n1 e1 n2 e2 = n1 * (q1 : Int) + n2 * (q2 : Int)) := Lib.hid (by unfold rsN gc; rw [Int.natAbs_natCast, Int.natAbs_natCast, Int.toNat_natCast, Int.toNat_natCast, ← hgg, ← hq1, ← hq2])
  have RD : Hid (rsD e1 e2 = (e1 : Int) * (q1 : Int)) := Lib.hid (by unfold rsD gc; rw [Int.natAbs_natCast, Int.natAbs_natCast, Int.toNat_natCast, ← hgg, ← hq1])
  have t1 : (e2 : Int).tdiv (g : Int) = (q1 : Int) := by rw [hq1]; rfl
  have t2 : (e1 : Int).tdiv (g : Int) = (q2 : Int) := by rw [hq2]; rfl
  have v1 : IntKind.i64.wrap (q1 : Int) = (q1 : Int) := IntWalk.i64_in _ (by omega)
  have v2 : IntKind.i64.wrap (q2 : Int) = (q2 : Int) := IntWalk.i64_in _ (by omega)
  have hg0 : ¬ ((g : Int) = 0) := by omega
  have c21 := A2.out.cell (k := 1) rfl; have c31 := A3.out.cell (k := 1) rfl
  clear o1 o2
  go_wp2_with fail
  refine (gcd_to e1 e2 g _ hgg (by omega) (by omega)).mono ?_
  rintro e w4 ⟨rfl, hdr⟩
  have b1 := drawn_below hdr; clear hdr c21 c31 hq1 hq2 hgg
  have s4 := b1.size
  replace A2 := Lib.hid (A2.out.keep b1 A2.out.lt)
  replace A3 := Lib.hid (A3.out.keep b1 A3.out.lt)
  replace A4 := Lib.hid (A4.out.keep b1 A4.out.lt)
  replace B1 := Lib.hid (B1.out.trans (b1.mono B1.out.size))
  clear b1
  go_wp2_with fail
  refine wp_region_held_drew (S := Hld w4.heap.size w4.heap.size w4 [(w.heap.size, [.int .i64 n1, .int .i64 (e1 : Int)]), (w.heap.size + 1, [.int .i64 n2, .int .i64 (e2 : Int)])]) (by kernel_rfl) (Hld.start2 A2.out A3.out) (fun hHeld => ?_)
  have b1 : Below w4.heap.size w4 w4.drew := ⟨rfl, rfl, rfl, Nat.le_refl _, fun _ _ => rfl⟩
  generalize w4.drew = w4d at *
  have sw4 := b1.size
  replace A2 := Lib.hid (A2.out.keep b1 A2.out.lt)
  replace A3 := Lib.hid (A3.out.keep b1 A3.out.lt)
  replace A4 := Lib.hid (A4.out.keep b1 A4.out.lt)
  replace B1 := Lib.hid (B1.out.trans (b1.mono B1.out.size))
  clear b1
  refine wpAnyH_take (i := 0) (v := .pointer (some ⟨w.heap.size, 0, none⟩)) rfl (by kernel_rfl) (by kernel_rfl) (by kernel_rfl) (fun _ _ _ h => h) (Or.inl ⟨by first | rfl | kernel_rfl, fun w hSw => by go_simp⟩) hHeld ?_
  refine wpAnyH_take (i := 1) (v := .int .i64 n1) rfl (by kernel_rfl) (by kernel_rfl) (by kernel_rfl) (fun _ _ _ h => h) (Or.inl ⟨by first | rfl | kernel_rfl, fun w hSw => by have h := hSw.c0; go_simp⟩) hHeld ?_
  refine wpAnyH_take (i := 2) (v := .pointer (some ⟨w.heap.size + 1, 1, none⟩)) rfl (by kernel_rfl) (by kernel_rfl) (by kernel_rfl) (fun _ _ _ h => h) (Or.inl ⟨by first | rfl | kernel_rfl, fun w hSw => by go_simp⟩) hHeld ?_
  refine wpAnyH_take (i := 3) (v := .int .i64 (e2 : Int)) rfl (by kernel_rfl) (by kernel_rfl) (by kernel_rfl) (fun _ _ _ h => h) (Or.inl ⟨by first | rfl | kernel_rfl, fun w hSw => by have h := hSw.d1; go_simp⟩) hHeld ?_
  refine wpAnyH_take (i := 4) (v := .int .i64 (g : Int)) rfl (by kernel_rfl) (by kernel_rfl) (by kernel_rfl) (fun _ _ _ h => h) (Or.inl ⟨by first | rfl | kernel_rfl, fun w hSw => by go_simp⟩) hHeld ?_
  refine wpAnyH_take (i := 5) (v := .int .i64 (q1 : Int)) rfl (by kernel_rfl) (by kernel_rfl) (by kernel_rfl) (fun _ _ _ h => h) (Or.inl ⟨by first | rfl | kernel_rfl, fun w hSw => by go_simp; omega⟩) hHeld ?_
  refine wpAnyH_ready (rs := [6]) (by kernel_rfl) (by simp) (AllReadyH.cons rfl (fun K hK => ?_) AllReadyH.nil)
  go_simp
  refine (prod_spec n1 q1 _ (by omega) (by omega) (by omega)).mono ?_
  rintro e w5 ⟨rfl, b1⟩
  have s5 := b1.size
  have hHeld2 := hHeld.later b1 (by omega); clear hHeld
  replace A2 := Lib.hid (A2.out.keep b1 A2.out.lt)
  replace A3 := Lib.hid (A3.out.keep b1 A3.out.lt)
  replace A4 := Lib.hid (A4.out.keep b1 A4.out.lt)
  replace B1 := Lib.hid (B1.out.trans (b1.mono B1.out.size))
  clear b1
  go_wp2_with fail
  refine hK.out _ _ hHeld2 (fun hHeld => ?_)
  clear hK K hHeld2
  refine wpAnyH_take (i := 7) (v := .tuple #[.int .i64 (prV n1 q1), .bool (prB n1 q1)]) rfl (by kernel_rfl) (by kernel_rfl) (by kernel_rfl) (fun _ _ _ h => h) (Or.inl ⟨by first | rfl | kernel_rfl, fun w hSw => by go_simp⟩) hHeld ?_
  refine wpAnyH_take (i := 8) (v := .int .i64 (prV n1 q1)) rfl (by kernel_rfl) (by kernel_rfl) (by kernel_rfl) (fun _ _ _ h => h) (Or.inl ⟨by first | rfl | kernel_rfl, fun w hSw => by go_simp⟩) hHeld ?_
  refine wpAnyH_take (i := 9) (v := .bool (prB n1 q1)) rfl (by kernel_rfl) (by kernel_rfl) (by kernel_rfl) (fun _ _ _ h => h) (Or.inl ⟨by first | rfl | kernel_rfl, fun w hSw => by go_simp⟩) hHeld ?_
  refine wpAnyH_take (i := 10) (v := .int .i64 (prV n1 q1)) rfl (by kernel_rfl) (by kernel_rfl) (by kernel_rfl) (fun _ _ _ h => h) (Or.inl ⟨by first | rfl | kernel_rfl, fun w hSw => by go_simp⟩) hHeld ?_
  refine wpAnyH_take (i := 11) (v := .bool (prB n1 q1)) rfl (by kernel_rfl) (by kernel_rfl) (by kernel_rfl) (fun _ _ _ h => h) (Or.inl ⟨by first | rfl | kernel_rfl, fun w hSw => by go_simp⟩) hHeld ?_
  refine wpAnyH_done (by kernel_rfl) ?_ _
  try dsimp only [List.getElem_toArray, List.getElem_cons_zero, List.getElem_cons_succ]
  try simp only [Act.put, List.setIfInBounds_toArray, List.set_cons_zero, List.set_cons_succ]
  clear hHeld
  go_wp2_with fail
  refine wp_region_held_drew (S := Hld w5.heap.size w5.heap.size w5 [(w.heap.size, [.int .i64 n1, .int .i64 (e1 : Int)]), (w.heap.size + 1, [.int .i64 n2, .int .i64 (e2 : Int)])]) (by kernel_rfl) (Hld.start2 A2.out A3.out) (fun hHeld => ?_)
  have b1 : Below w5.heap.size w5 w5.drew := ⟨rfl, rfl, rfl, Nat.le_refl _, fun _ _ => rfl⟩
  generalize w5.drew = w5d at *
  have sw5 := b1.size
  replace A2 := Lib.hid (A2.out.keep b1 A2.out.lt)
  replace A3 := Lib.hid (A3.out.keep b1 A3.out.lt)
  replace A4 := Lib.hid (A4.out.keep b1 A4.out.lt)
  replace B1 := Lib.hid (B1.out.trans (b1.mono B1.out.size))
  clear b1
  refine wpAnyH_take (i := 0) (v := .pointer (some ⟨w.heap.size + 1, 0, none⟩)) rfl (by kernel_rfl) (by kernel_rfl) (by kernel_rfl) (fun _ _ _ h => h) (Or.inl ⟨by first | rfl | kernel_rfl, fun w hSw => by go_simp⟩) hHeld ?_
  refine wpAnyH_take (i := 1) (v := .int .i64 n2) rfl (by kernel_rfl) (by kernel_rfl) (by kernel_rfl) (fun _ _ _ h => h) (Or.inl ⟨by first | rfl | kernel_rfl, fun w hSw => by have h := hSw.d0; go_simp⟩) hHeld ?_
  refine wpAnyH_take (i := 2) (v := .pointer (some ⟨w.heap.size, 1, none⟩)) rfl (by kernel_rfl) (by kernel_rfl) (by kernel_rfl) (fun _ _ _ h => h) (Or.inl ⟨by first | rfl | kernel_rfl, fun w hSw => by go_simp⟩) hHeld ?_
  refine wpAnyH_take (i := 3) (v := .int .i64 (e1 : Int)) rfl (by kernel_rfl) (by kernel_rfl) (by kernel_rfl) (fun _ _ _ h => h) (Or.inl ⟨by first | rfl | kernel_rfl, fun w hSw => by have h := hSw.c1; go_simp⟩) hHeld ?_
  refine wpAnyH_take (i := 4) (v := .int .i64 (g : Int)) rfl (by kernel_rfl) (by kernel_rfl) (by kernel_rfl) (fun _ _ _ h => h) (Or.inl ⟨by first | rfl | kernel_rfl, fun w hSw => by go_simp⟩) hHeld ?_
  refine wpAnyH_take (i := 5) (v := .int .i64 (q2 : Int)) rfl (by kernel_rfl) (by kernel_rfl) (by kernel_rfl) (fun _ _ _ h => h) (Or.inl ⟨by first | rfl | kernel_rfl, fun w hSw => by go_simp; omega⟩) hHeld ?_
  refine wpAnyH_ready (rs := [6]) (by kernel_rfl) (by simp) (AllReadyH.cons rfl (fun K hK => ?_) AllReadyH.nil)
  go_simp
  refine (prod_spec n2 q2 _ (by omega) (by omega) (by omega)).mono ?_
  rintro e w6 ⟨rfl, b1⟩
  have s6 := b1.size
  have hHeld2 := hHeld.later b1 (by omega); clear hHeld
  replace A2 := Lib.hid (A2.out.keep b1 A2.out.lt)
  replace A3 := Lib.hid (A3.out.keep b1 A3.out.lt)
  replace A4 := Lib.hid (A4.out.keep b1 A4.out.lt)
  replace B1 := Lib.hid (B1.out.trans (b1.mono B1.out.size))
  clear b1
  go_wp2_with fail
  refine hK.out _ _ hHeld2 (fun hHeld => ?_)
  clear hK K hHeld2
  refine wpAnyH_take (i := 7) (v := .tuple #[.int .i64 (prV n2 q2), .bool (prB n2 q2)]) rfl (by kernel_rfl) (by kernel_rfl) (by kernel_rfl) (fun _ _ _ h => h) (Or.inl ⟨by first | rfl | kernel_rfl, fun w hSw => by go_simp⟩) hHeld ?_
  refine wpAnyH_take (i := 8) (v := .int .i64 (prV n2 q2)) rfl (by kernel_rfl) (by kernel_rfl) (by kernel_rfl) (fun _ _ _ h => h) (Or.inl ⟨by first | rfl | kernel_rfl, fun w hSw => by go_simp⟩) hHeld ?_
  refine wpAnyH_take (i := 9) (v := .bool (prB n2 q2)) rfl (by kernel_rfl) (by kernel_rfl) (by kernel_rfl) (fun _ _ _ h => h) (Or.inl ⟨by first | rfl | kernel_rfl, fun w hSw => by go_simp⟩) hHeld ?_
  refine wpAnyH_take (i := 10) (v := .int .i64 (prV n2 q2)) rfl (by kernel_rfl) (by kernel_rfl) (by kernel_rfl) (fun _ _ _ h => h) (Or.inl ⟨by first | rfl | kernel_rfl, fun w hSw => by go_simp⟩) hHeld ?_
  refine wpAnyH_take (i := 11) (v := .bool (prB n2 q2)) rfl (by kernel_rfl) (by kernel_rfl) (by kernel_rfl) (fun _ _ _ h => h) (Or.inl ⟨by first | rfl | kernel_rfl, fun w hSw => by go_simp⟩) hHeld ?_
  refine wpAnyH_done (by kernel_rfl) ?_ _
  try dsimp only [List.getElem_toArray, List.getElem_cons_zero, List.getElem_cons_succ]
  try simp only [Act.put, List.setIfInBounds_toArray, List.set_cons_zero, List.set_cons_succ]
  clear hHeld
  go_wp2_with fail
  refine wp_region_held_drew (S := Hld w6.heap.size w6.heap.size w6 [(w.heap.size, [.int .i64 n1, .int .i64 (e1 : Int)]), (w.heap.size + 1, [.int .i64 n2, .int .i64 (e2 : Int)])]) (by kernel_rfl) (Hld.start2 A2.out A3.out) (fun hHeld => ?_)
  have b1 : Below w6.heap.size w6 w6.drew := ⟨rfl, rfl, rfl, Nat.le_refl _, fun _ _ => rfl⟩
  generalize w6.drew = w6d at *
  have sw6 := b1.size
  replace A2 := Lib.hid (A2.out.keep b1 A2.out.lt)
  replace A3 := Lib.hid (A3.out.keep b1 A3.out.lt)
  replace A4 := Lib.hid (A4.out.keep b1 A4.out.lt)
  replace B1 := Lib.hid (B1.out.trans (b1.mono B1.out.size))
  clear b1
  refine wpAnyH_take (i := 0) (v := .pointer (some ⟨w.heap.size, 1, none⟩)) rfl (by kernel_rfl) (by kernel_rfl) (by kernel_rfl) (fun _ _ _ h => h) (Or.inl ⟨by first | rfl | kernel_rfl, fun w hSw => by go_simp⟩) hHeld ?_
  refine wpAnyH_take (i := 1) (v := .int .i64 (e1 : Int)) rfl (by kernel_rfl) (by kernel_rfl) (by kernel_rfl) (fun _ _ _ h => h) (Or.inl ⟨by first | rfl | kernel_rfl, fun w hSw => by have h := hSw.c1; go_simp⟩) hHeld ?_
  refine wpAnyH_take (i := 2) (v := .pointer (some ⟨w.heap.size + 1, 1, none⟩)) rfl (by kernel_rfl) (by kernel_rfl) (by kernel_rfl) (fun _ _ _ h => h) (Or.inl ⟨by first | rfl | kernel_rfl, fun w hSw => by go_simp⟩) hHeld ?_
  refine wpAnyH_take (i := 3) (v := .int .i64 (e2 : Int)) rfl (by kernel_rfl) (by kernel_rfl) (by kernel_rfl) (fun _ _ _ h => h) (Or.inl ⟨by first | rfl | kernel_rfl, fun w hSw => by have h := hSw.d1; go_simp⟩) hHeld ?_
  refine wpAnyH_take (i := 4) (v := .int .i64 (g : Int)) rfl (by kernel_rfl) (by kernel_rfl) (by kernel_rfl) (fun _ _ _ h => h) (Or.inl ⟨by first | rfl | kernel_rfl, fun w hSw => by go_simp⟩) hHeld ?_
  refine wpAnyH_take (i := 5) (v := .int .i64 (q1 : Int)) rfl (by kernel_rfl) (by kernel_rfl) (by kernel_rfl) (fun _ _ _ h => h) (Or.inl ⟨by first | rfl | kernel_rfl, fun w hSw => by go_simp; omega⟩) hHeld ?_
  refine wpAnyH_ready (rs := [6]) (by kernel_rfl) (by simp) (AllReadyH.cons rfl (fun K hK => ?_) AllReadyH.nil)
  go_simp
  refine (prod_spec (e1 : Int) q1 _ (by omega) (by omega) (by omega)).mono ?_
  rintro e w7 ⟨rfl, b1⟩
  have s7 := b1.size
  have hHeld2 := hHeld.later b1 (by omega); clear hHeld
  replace A2 := Lib.hid (A2.out.keep b1 A2.out.lt)
  replace A3 := Lib.hid (A3.out.keep b1 A3.out.lt)
  replace A4 := Lib.hid (A4.out.keep b1 A4.out.lt)
  replace B1 := Lib.hid (B1.out.trans (b1.mono B1.out.size))
  clear b1
  go_wp2_with fail
  refine hK.out _ _ hHeld2 (fun hHeld => ?_)
  clear hK K hHeld2
  refine wpAnyH_take (i := 7) (v := .tuple #[.int .i64 (prV (e1 : Int) q1), .bool (prB (e1 : Int) q1)]) rfl (by kernel_rfl) (by kernel_rfl) (by kernel_rfl) (fun _ _ _ h => h) (Or.inl ⟨by first | rfl | kernel_rfl, fun w hSw => by go_simp⟩) hHeld ?_
  refine wpAnyH_take (i := 8) (v := .int .i64 (prV (e1 : Int) q1)) rfl (by kernel_rfl) (by kernel_rfl) (by kernel_rfl) (fun _ _ _ h => h) (Or.inl ⟨by first | rfl | kernel_rfl, fun w hSw => by go_simp⟩) hHeld ?_
  refine wpAnyH_take (i := 9) (v := .bool (prB (e1 : Int) q1)) rfl (by kernel_rfl) (by kernel_rfl) (by kernel_rfl) (fun _ _ _ h => h) (Or.inl ⟨by first | rfl | kernel_rfl, fun w hSw => by go_simp⟩) hHeld ?_
  refine wpAnyH_take (i := 10) (v := .int .i64 (prV (e1 : Int) q1)) rfl (by kernel_rfl) (by kernel_rfl) (by kernel_rfl) (fun _ _ _ h => h) (Or.inl ⟨by first | rfl | kernel_rfl, fun w hSw => by go_simp⟩) hHeld ?_
  refine wpAnyH_take (i := 11) (v := .bool (prB (e1 : Int) q1)) rfl (by kernel_rfl) (by kernel_rfl) (by kernel_rfl) (fun _ _ _ h => h) (Or.inl ⟨by first | rfl | kernel_rfl, fun w hSw => by go_simp⟩) hHeld ?_
  refine wpAnyH_done (by kernel_rfl) ?_ _
  try dsimp only [List.getElem_toArray, List.getElem_cons_zero, List.getElem_cons_succ]
  try simp only [Act.put, List.setIfInBounds_toArray, List.set_cons_zero, List.set_cons_succ]
  clear hHeld
  obtain ⟨p1, hp1⟩ : ∃ p, p = prB n1 q1 := ⟨_, rfl⟩
  obtain ⟨p2, hp2⟩ : ∃ p, p = prB n2 q2 := ⟨_, rfl⟩
  obtain ⟨p3, hp3⟩ : ∃ p, p = prB (e1 : Int) q1 := ⟨_, rfl⟩
  obtain ⟨y1, hy1⟩ : ∃ y, y = prV n1 q1 := ⟨_, rfl⟩
  obtain ⟨y2, hy2⟩ : ∃ y, y = prV n2 q2 := ⟨_, rfl⟩
  obtain ⟨y3, hy3⟩ : ∃ y, y = prV (e1 : Int) q1 := ⟨_, rfl⟩
  have z1 := prV_fit n1 q1; have z2 := prV_fit n2 q2; have z3 := prV_fit (e1 : Int) q1
  rw [← hp1, ← hp2, ← hp3] at RB
  rw [← hy1] at z1; rw [← hy2] at z2; rw [← hy3] at z3
  rw [← hp1, ← hp2, ← hp3, ← hy1, ← hy2, ← hy3]
  have E1 : p1 = true → Hid (n1 * (q1 : Int) = y1) := fun h => Lib.hid (by rw [hy1, prV, ← hp1, h]; simp)
  have E2 : p2 = true → Hid (n2 * (q2 : Int) = y2) := fun h => Lib.hid (by rw [hy2, prV, ← hp2, h]; simp)
  have E3 : p3 = true → Hid ((e1 : Int) * (q1 : Int) = y3) := fun h => Lib.hid (by rw [hy3, prV, ← hp3, h]; simp)
  have P3 : 1 ≤ (e1 : Int) * (q1 : Int) := by have h := Nat.mul_le_mul (show 1 ≤ e1 by omega) l3; rw [← Int.natCast_mul]; omega
  clear hp1 hp2 hp3 hy1 hy2 hy3 t1 t2 v1 v2 hg0
  have NOO : (p1 && (p2 && p3)) = false → Hid (rsF n1 e1 n2 e2 = (0, 0)) := fun h => Lib.hid (by rw [RF.out, RB.out, h]; simp)
  cases p1
  · have HF := NOO rfl
    clear NOO E1 E2 E3
    go_wp2_with (first | (refine wpList_build rfl 24 _ rfl [] rfl #[.int .i64 0, .int .i64 0] builtR0 ?_) | (refine wpList_store_row rfl 24 _ _ rfl (w.heap.size + 2) #[.int .i64 0, .int .i64 0] rfl rfl 24 #[.int .i64 0, .int .i64 0] A4.out (sizeR _ _) rfl (by simp [Value.oneCell']) ?_) | fail)
    exact bodyPost_ret (v := .agg #[.int .i64 0, .int .i64 0]) (results_cell_row rfl _ _ (w.heap.size + 2) 24 #[.int .i64 0, .int .i64 0] (0, 0) _ rfl A4.out.row Try.underlying24 rfl (sizeR _ _)) rfl ⟨by rw [HF.out]; rfl, below_setRow B1.out (by omega) _⟩
  cases p2
  · have HF := NOO rfl
    clear NOO E1 E2 E3
    go_wp2_with (first | (refine wpList_build rfl 24 _ rfl [] rfl #[.int .i64 0, .int .i64 0] builtR0 ?_) | (refine wpList_store_row rfl 24 _ _ rfl (w.heap.size + 2) #[.int .i64 0, .int .i64 0] rfl rfl 24 #[.int .i64 0, .int .i64 0] A4.out (sizeR _ _) rfl (by simp [Value.oneCell']) ?_) | fail)
    exact bodyPost_ret (v := .agg #[.int .i64 0, .int .i64 0]) (results_cell_row rfl _ _ (w.heap.size + 2) 24 #[.int .i64 0, .int .i64 0] (0, 0) _ rfl A4.out.row Try.underlying24 rfl (sizeR _ _)) rfl ⟨by rw [HF.out]; rfl, below_setRow B1.out (by omega) _⟩
  cases p3
  · have HF := NOO rfl
    clear NOO E1 E2 E3
    go_wp2_with (first | (refine wpList_build rfl 24 _ rfl [] rfl #[.int .i64 0, .int .i64 0] builtR0 ?_) | (refine wpList_store_row rfl 24 _ _ rfl (w.heap.size + 2) #[.int .i64 0, .int .i64 0] rfl rfl 24 #[.int .i64 0, .int .i64 0] A4.out (sizeR _ _) rfl (by simp [Value.oneCell']) ?_) | fail)
    exact bodyPost_ret (v := .agg #[.int .i64 0, .int .i64 0]) (results_cell_row rfl _ _ (w.heap.size + 2) 24 #[.int .i64 0, .int .i64 0] (0, 0) _ rfl A4.out.row Try.underlying24 rfl (sizeR _ _)) rfl ⟨by rw [HF.out]; rfl, below_setRow B1.out (by omega) _⟩
  have G1 := E1 rfl; have G2 := E2 rfl; have G3 := E3 rfl
  clear E1 E2 E3 NOO
  have RG : Hid (rsF n1 e1 n2 e2 = okZ (nrm (y1 + y2) y3)) := Lib.hid (by rw [RF.out, RB.out, RN.out, RD.out, G1.out, G2.out, G3.out]; simp)
  rw [G3.out] at P3
  clear RF RB RN RD G1 G2 G3
  obtain ⟨x, hx⟩ : ∃ x, x = y1 + y2 := ⟨_, rfl⟩
  rw [← hx] at RG
  have hx' : y1 + y2 = x := hx.symm
  have wx : IntKind.i64.wrap x = x := IntWalk.i64_in _ (by omega)
  have wx2 : wrap64 x = x := IntWalk.wrap64_in _ (by omega)
  have wn : IntKind.i64.wrap (-x) = -x := IntWalk.i64_in _ (by omega)
  obtain ⟨m, hm⟩ : ∃ m : Nat, x.natAbs = m := ⟨_, rfl⟩
  obtain ⟨e, rfl⟩ : ∃ e : Nat, y3 = (e : Int) := ⟨y3.toNat, by omega⟩
  have hmx : (if -x > x then -x else x) = (m : Int) := by split <;> omega
  have ml : m ≤ 4000000000000000 := by omega
  have el : e ≤ 2000000000000000 := by omega
  obtain ⟨k, hkk⟩ : ∃ k, k = Nat.gcd m e := ⟨_, rfl⟩
  have hkp : 0 < k := by rw [hkk]; exact Nat.gcd_pos_of_pos_right _ (by omega)
  have hnr : nrm x (e : Int) = (x.tdiv (k : Int), (e : Int).tdiv (k : Int)) := by unfold nrm; rw [gc_nat, hm, ← hkk]
  rw [hnr] at RG
  have g1 := tdiv_fit (n := x) hkp
  have g2 := tdiv_fit (n := (e : Int)) hkp
  rw [hm] at g1
  rw [Int.natAbs_natCast] at g2
  clear hx hm hnr P3 z1 z2 z3
  have hk0 : ¬ ((k : Int) = 0) := by omega
  go_wp2_with fail
  refine (gcd_to m e k _ hkk (by omega) (by omega)).mono ?_
  rintro e' w8 ⟨rfl, hdr⟩
  have b1 := drawn_below hdr; clear hdr hkk
  have s8 := b1.size
  replace A4 := Lib.hid (A4.out.keep b1 A4.out.lt)
  replace B1 := Lib.hid (B1.out.trans (b1.mono B1.out.size))
  clear b1 A2 A3
  generalize hX : x.tdiv (k : Int) = X at *
  generalize hY : (e : Int).tdiv (k : Int) = Y at *
  have wX : IntKind.i64.wrap X = X := IntWalk.i64_in _ (by omega)
  have wY : IntKind.i64.wrap Y = Y := IntWalk.i64_in _ (by omega)
  go_wp2_with fail
  go_cut [14] from 79 to 85 (fun pv wx => ∃ b, pv = .pointer (some ⟨b, 0, none⟩) ∧ w8.heap.size ≤ b ∧ Hid (Arr wx b [.int .i64 X, .int .i64 Y] 24) ∧ Hid (Below w8.heap.size w8 wx))
  case first =>
    refine wp_region_held_drew (S := Hld w8.heap.size w8.heap.size w8 []) (by kernel_rfl) ⟨fun p hp => by simp at hp, ⟨rfl, rfl, rfl, Nat.le_refl _, fun _ _ => rfl⟩, Nat.le_refl _⟩ (fun hHeld => ?_)
    have BO : Hid (Below w8.heap.size w8 w8.drew) := Lib.hid ⟨rfl, rfl, rfl, Nat.le_refl _, fun _ _ => rfl⟩
    have so := BO.out.size
    generalize w8.drew = wd at *
    refine wpAnyH_take (i := 0) (v := .int .i64 x) rfl (by kernel_rfl) (by kernel_rfl) (by kernel_rfl) (fun _ _ _ h => h) (Or.inl ⟨by first | rfl | kernel_rfl, fun w hSw => by go_simp⟩) hHeld ?_
    refine wpAnyH_take (i := 1) (v := .int .i64 (k : Int)) rfl (by kernel_rfl) (by kernel_rfl) (by kernel_rfl) (fun _ _ _ h => h) (Or.inl ⟨by first | rfl | kernel_rfl, fun w hSw => by go_simp⟩) hHeld ?_
    refine wpAnyH_take (i := 3) (v := .int .i64 (e : Int)) rfl (by kernel_rfl) (by kernel_rfl) (by kernel_rfl) (fun _ _ _ h => h) (Or.inl ⟨by first | rfl | kernel_rfl, fun w hSw => by go_simp⟩) hHeld ?_
    refine wpAnyH_take (i := 4) (v := .int .i64 (k : Int)) rfl (by kernel_rfl) (by kernel_rfl) (by kernel_rfl) (fun _ _ _ h => h) (Or.inl ⟨by first | rfl | kernel_rfl, fun w hSw => by go_simp⟩) hHeld ?_
    refine wpAnyH_take (i := 2) (v := .int .i64 X) rfl (by kernel_rfl) (by kernel_rfl) (by kernel_rfl) (fun _ _ _ h => h) (Or.inl ⟨by first | rfl | kernel_rfl, fun w hSw => by go_simp; omega⟩) hHeld ?_
    refine wpAnyH_take (i := 5) (v := .int .i64 Y) rfl (by kernel_rfl) (by kernel_rfl) (by kernel_rfl) (fun _ _ _ h => h) (Or.inl ⟨by first | rfl | kernel_rfl, fun w hSw => by go_simp; omega⟩) hHeld ?_
    try dsimp only [List.getElem_toArray, List.getElem_cons_zero, List.getElem_cons_succ]
    try simp only [Act.put, List.setIfInBounds_toArray, List.set_cons_zero, List.set_cons_succ]
    refine wpAnyH_ready (rs := [6, 7]) (by kernel_rfl) (by simp) (AllReadyH.cons rfl (fun K hK => ?_) (AllReadyH.cons rfl (fun K hK => ?_) AllReadyH.nil))
    · refine step_build rfl 24 _ rfl [(0, .int .i64 X), (1, .int .i64 Y)] rfl #[.int .i64 X, .int .i64 Y] (builtR X Y) ?_
      refine hK.out _ _ hHeld (fun hHeld2 => ?_)
      clear hK K hHeld2
      try dsimp only [List.getElem_toArray, List.getElem_cons_zero, List.getElem_cons_succ]
      try simp only [Act.put, List.setIfInBounds_toArray, List.set_cons_zero, List.set_cons_succ]
      refine wpAnyH_ready (rs := [7]) (by kernel_rfl) (by simp) (AllReadyH.cons rfl (fun K hK => ?_) AllReadyH.nil)
      go_simp
      generalize hwa : wd.alloc (.cells #[.int .i64 0, .int .i64 0] 24) = wa
      have b1 : Below wd.heap.size wd wa := by rw [← hwa]; exact (Below.refl _ _).alloc (Nat.le_refl _) _
      have AL : Hid (Arr wa wd.heap.size [.int .i64 0, .int .i64 0] 24) := Lib.hid (by rw [← hwa]; exact Arr.new _ _ _ rfl)
      have sa : wd.heap.size + 1 ≤ wa.heap.size := by rw [← hwa]; simp
      clear hwa
      replace BO := Lib.hid (BO.out.trans (b1.mono BO.out.size))
      have hHeld2 := hHeld.later b1 (by omega); clear b1 hHeld
      refine hK.out _ _ hHeld2 (fun hHeld => ?_)
      clear hK K hHeld2
      try dsimp only [List.getElem_toArray, List.getElem_cons_zero, List.getElem_cons_succ]
      try simp only [Act.put, List.setIfInBounds_toArray, List.set_cons_zero, List.set_cons_succ]
      refine wpAnyH_ready (rs := [8]) (by kernel_rfl) (by simp) (AllReadyH.cons rfl (fun K hK => ?_) AllReadyH.nil)
      refine permOf.step_store_row rfl 24 _ _ rfl wd.heap.size #[.int .i64 X, .int .i64 Y] rfl rfl 24 #[.int .i64 0, .int .i64 0] AL.out (sizeR _ _) rfl (by simp [Value.oneCell']) ?_
      refine hK.out _ _ (hHeld.other (by omega) (by simp) _) (fun hHeld2 => ?_)
      clear hK K hHeld2
      refine wpAnyH_done (by kernel_rfl) ?_ _
      try dsimp only [List.getElem_toArray, List.getElem_cons_zero, List.getElem_cons_succ]
      try simp only [Act.put, List.setIfInBounds_toArray, List.set_cons_zero, List.set_cons_succ]
      go_wp2_with fail
      go_meet
      exact ⟨_, rfl, by omega, Lib.hid AL.out.row, Lib.hid (below_setRow BO.out (by omega) _)⟩
    · go_simp
      generalize hwa : wd.alloc (.cells #[.int .i64 0, .int .i64 0] 24) = wa
      have b1 : Below wd.heap.size wd wa := by rw [← hwa]; exact (Below.refl _ _).alloc (Nat.le_refl _) _
      have AL : Hid (Arr wa wd.heap.size [.int .i64 0, .int .i64 0] 24) := Lib.hid (by rw [← hwa]; exact Arr.new _ _ _ rfl)
      have sa : wd.heap.size + 1 ≤ wa.heap.size := by rw [← hwa]; simp
      clear hwa
      replace BO := Lib.hid (BO.out.trans (b1.mono BO.out.size))
      have hHeld2 := hHeld.later b1 (by omega); clear b1 hHeld
      refine hK.out _ _ hHeld2 (fun hHeld => ?_)
      clear hK K hHeld2
      try dsimp only [List.getElem_toArray, List.getElem_cons_zero, List.getElem_cons_succ]
      try simp only [Act.put, List.setIfInBounds_toArray, List.set_cons_zero, List.set_cons_succ]
      refine wpAnyH_ready (rs := [6]) (by kernel_rfl) (by simp) (AllReadyH.cons rfl (fun K hK => ?_) AllReadyH.nil)
      refine step_build rfl 24 _ rfl [(0, .int .i64 X), (1, .int .i64 Y)] rfl #[.int .i64 X, .int .i64 Y] (builtR X Y) ?_
      refine hK.out _ _ hHeld (fun hHeld2 => ?_)
      clear hK K hHeld2
      try dsimp only [List.getElem_toArray, List.getElem_cons_zero, List.getElem_cons_succ]
      try simp only [Act.put, List.setIfInBounds_toArray, List.set_cons_zero, List.set_cons_succ]
      refine wpAnyH_ready (rs := [8]) (by kernel_rfl) (by simp) (AllReadyH.cons rfl (fun K hK => ?_) AllReadyH.nil)
      refine permOf.step_store_row rfl 24 _ _ rfl wd.heap.size #[.int .i64 X, .int .i64 Y] rfl rfl 24 #[.int .i64 0, .int .i64 0] AL.out (sizeR _ _) rfl (by simp [Value.oneCell']) ?_
      refine hK.out _ _ (hHeld.other (by omega) (by simp) _) (fun hHeld2 => ?_)
      clear hK K hHeld2
      refine wpAnyH_done (by kernel_rfl) ?_ _
      try dsimp only [List.getElem_toArray, List.getElem_cons_zero, List.getElem_cons_succ]
      try simp only [Act.put, List.setIfInBounds_toArray, List.set_cons_zero, List.set_cons_succ]
      go_wp2_with fail
      go_meet
      exact ⟨_, rfl, by omega, Lib.hid AL.out.row, Lib.hid (below_setRow BO.out (by omega) _)⟩
  case rest =>
    obtain ⟨b, rfl, hb, A9, B9⟩ := hcut
    have s9 := B9.out.size
    replace A4 := Lib.hid (A4.out.keep B9.out A4.out.lt)
    replace B1 := Lib.hid (B1.out.trans (B9.out.mono B1.out.size))
    clear wX wY hX hY hmx wn wx wx2 hx' hk0
    go_wp2_with (first | (refine wpList_load_row rfl 24 _ rfl b rfl 24 #[.int .i64 X, .int .i64 Y] (0, 0) _ A9.out Try.underlying24 rfl (sizeR _ _) ?_) | fail)
    refine (rok_spec X Y _ (by omega) (by omega) (by omega) (by omega)).mono ?_
    rintro e' wz ⟨rfl, b1⟩
    have sz := b1.size
    replace A4 := Lib.hid (A4.out.keep b1 A4.out.lt)
    replace A9 := Lib.hid (A9.out.keep b1 A9.out.lt)
    replace B1 := Lib.hid (B1.out.trans (b1.mono B1.out.size))
    clear b1 B9
    cases ok : okR X Y
    · have HF : Hid (rsF n1 e1 n2 e2 = (0, 0)) := Lib.hid (by rw [RG.out, okZ, ok]; simp)
      clear ok
      go_wp2_with (first | (refine wpList_build rfl 24 _ rfl [] rfl #[.int .i64 0, .int .i64 0] builtR0 ?_) | (refine wpList_store_row rfl 24 _ _ rfl (w.heap.size + 2) #[.int .i64 0, .int .i64 0] rfl rfl 24 #[.int .i64 0, .int .i64 0] A4.out (sizeR _ _) rfl (by simp [Value.oneCell']) ?_) | fail)
      exact bodyPost_ret (v := .agg #[.int .i64 0, .int .i64 0]) (results_cell_row rfl _ _ (w.heap.size + 2) 24 #[.int .i64 0, .int .i64 0] (0, 0) _ rfl A4.out.row Try.underlying24 rfl (sizeR _ _)) rfl ⟨by rw [HF.out]; rfl, below_setRow B1.out (by omega) _⟩
    · have HF : Hid (rsF n1 e1 n2 e2 = (X, Y)) := Lib.hid (by rw [RG.out, okZ, ok]; simp)
      clear ok
      go_wp2_with (first | (refine wpList_load_row rfl 24 _ rfl b rfl 24 #[.int .i64 X, .int .i64 Y] (0, 0) _ A9.out Try.underlying24 rfl (sizeR _ _) ?_) | (refine wpList_store_row rfl 24 _ _ rfl (w.heap.size + 2) #[.int .i64 X, .int .i64 Y] rfl rfl 24 #[.int .i64 0, .int .i64 0] A4.out (sizeR _ _) rfl (by simp [Value.oneCell']) ?_) | fail)
      exact bodyPost_ret (v := .agg #[.int .i64 X, .int .i64 Y]) (results_cell_row rfl _ _ (w.heap.size + 2) 24 #[.int .i64 X, .int .i64 Y] (0, 0) _ rfl A4.out.row Try.underlying24 rfl (sizeR _ _)) rfl ⟨by rw [HF.out]; rfl, below_setRow B1.out (by omega) _⟩
end Go.Proofs.Ytngglhbcpeigcaa.rat
